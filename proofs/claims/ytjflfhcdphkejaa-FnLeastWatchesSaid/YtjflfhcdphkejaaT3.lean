/- Twins of the translated functions, with their proofs. Conditions: none. -/
import Derived.Test.YtjflfhcdphkejaaT2
set_option linter.unusedVariables false
set_option linter.unusedSimpArgs false
namespace Go.Proofs.Ytjflfhcdphkejaa
open D Go.RowKit
-- loop.example/guardsonnets/laws.FnExactWatchOk
noncomputable def L.FnExactWatchOk_T : List (Nat × D.Spec) := [(47, L.toIntS_s), (19, S.WatchOk_s), (18, I.WatchOk_s), (48, L.eqIntS_s)]
def L.FnExactWatchOk_ann : Nat → List Nat × List Nat
  | _ => ([], [])
noncomputable def L.FnExactWatchOk_F (args : List V) (h : List E) (κ : V → List E → R) : R := funC TD (tableK L.FnExactWatchOk_T) L.FnExactWatchOk_ann (drawOk (tableP L.FnExactWatchOk_T)) FUEL Try.f10 args h κ
noncomputable def L.FnExactWatchOk_tree {α : Type} (aNet : List Int) (aSet : Int) (leaf0_ : Bool → α) (fail_ : α) : α :=
  (bif decide ((↑aNet.length : Int) > 1048576) then (leaf0_ true) else (optC (L.toIntS_t aNet) (fun c_1 => (optC (S.WatchOk_t c_1 aSet) (fun c_2 => (optC (L.toIntS_t aNet) (fun c_3 => (optC (I.WatchOk_t c_3 aSet) (fun c_4 => (bif !c_4 == c_2 then (leaf0_ false) else (optC (L.toIntS_t aNet) (fun c_5 => (optC (L.eqIntS_t c_3 c_5) (fun c_6 => (bif !c_6 then (leaf0_ false) else (leaf0_ true))) fail_)) fail_))) fail_)) fail_)) fail_)) fail_))
theorem L.FnExactWatchOk_tree_nat {α γ : Type} (g : α → γ) (aNet : List Int) (aSet : Int) (leaf0_ : Bool → α) (fail_ : α) : g (L.FnExactWatchOk_tree aNet aSet leaf0_ fail_) = L.FnExactWatchOk_tree aNet aSet (fun d => g (leaf0_ d)) (g fail_) := by
  unfold L.FnExactWatchOk_tree; simp only [apply_cnd g, apply_optC g, apply_sumC g]
noncomputable def L.FnExactWatchOk_t (aNet : List Int) (aSet : Int) : Option (Bool) := L.FnExactWatchOk_tree aNet aSet (fun d => some d) none
theorem L.FnExactWatchOk_den (aNet : List Int) (aSet : Int) (κ : V → List E → R) : L.FnExactWatchOk_F [.ro true (.ints .i64 aNet), .int .i64 aSet] [] κ = optC (L.FnExactWatchOk_t aNet aSet) (fun (r : Bool) => κ (.bool r) []) none := by
  have hu : L.FnExactWatchOk_F [.ro true (.ints .i64 aNet), .int .i64 aSet] [] κ = L.FnExactWatchOk_tree aNet aSet (fun d => κ (.bool d) []) none := by
    kernel_rfl
  rw [hu]
  exact (L.FnExactWatchOk_tree_nat (fun o => optC o (fun (r : Bool) => κ (.bool r) []) none) aNet aSet (fun d => some d) none).symm
noncomputable def L.FnExactWatchOk_s : D.Spec where
  keep := true
  pure := true
  ds := [.int .i64, .invalid]
  sp := fun args h κ => match args, h with
    | [.ro true (.ints .i64 aNet), .int .i64 aSet], [] => optC (L.FnExactWatchOk_t aNet aSet) (fun (r : Bool) => κ (.bool r) []) none
    | _, _ => none
theorem L.FnExactWatchOk_ok : SpecOk Try.prog 10 L.FnExactWatchOk_s := by
  refine SpecOk.of TDok mixed (T := L.FnExactWatchOk_T) ?_ (ann := L.FnExactWatchOk_ann) Try.func10 rfl (by decide +kernel) ?_ ?_ ?_
  · intro p hp
    simp only [L.FnExactWatchOk_T, List.mem_cons, List.not_mem_nil, or_false] at hp
    rcases hp with rfl | rfl | rfl | rfl
    · exact L.toIntS_ok
    · exact S.WatchOk_ok
    · exact I.WatchOk_ok
    · exact L.eqIntS_ok
  · intro args h κ r hh
    simp only [L.FnExactWatchOk_s] at hh
    split at hh
    · exact (L.FnExactWatchOk_den _ _ κ).trans hh
    · cases hh
  · intro args h κ r hh
    simp only [L.FnExactWatchOk_s] at hh ⊢
    split at hh
    · exact optC_law2 (F := fun (r : Bool) κ => κ (.bool r) []) (fun b κ r hb => ⟨_, _, hb, fun _ => rfl⟩) hh
    · cases hh
  · intro _ args h κ r hh
    simp only [L.FnExactWatchOk_s] at hh
    split at hh
    · exact ⟨rfl, fun _ => rfl⟩
    · cases hh

-- loop.example/guardsonnets/laws.FnExactLeastWatchOk
noncomputable def L.FnExactLeastWatchOk_T : List (Nat × D.Spec) := [(47, L.toIntS_s), (25, S.LeastWatchOk_s), (24, I.LeastWatchOk_s), (48, L.eqIntS_s)]
def L.FnExactLeastWatchOk_ann : Nat → List Nat × List Nat
  | _ => ([], [])
noncomputable def L.FnExactLeastWatchOk_F (args : List V) (h : List E) (κ : V → List E → R) : R := funC TD (tableK L.FnExactLeastWatchOk_T) L.FnExactLeastWatchOk_ann (drawOk (tableP L.FnExactLeastWatchOk_T)) FUEL Try.f11 args h κ
noncomputable def L.FnExactLeastWatchOk_tree {α : Type} (aNet : List Int) (aSet : Int) (leaf0_ : Bool → α) (fail_ : α) : α :=
  (bif decide ((↑aNet.length : Int) > 1048576) then (leaf0_ true) else (optC (L.toIntS_t aNet) (fun c_1 => (optC (S.LeastWatchOk_t c_1 aSet) (fun c_2 => (optC (L.toIntS_t aNet) (fun c_3 => (optC (I.LeastWatchOk_t c_3 aSet) (fun c_4 => (bif !c_4 == c_2 then (leaf0_ false) else (optC (L.toIntS_t aNet) (fun c_5 => (optC (L.eqIntS_t c_3 c_5) (fun c_6 => (bif !c_6 then (leaf0_ false) else (leaf0_ true))) fail_)) fail_))) fail_)) fail_)) fail_)) fail_))
theorem L.FnExactLeastWatchOk_tree_nat {α γ : Type} (g : α → γ) (aNet : List Int) (aSet : Int) (leaf0_ : Bool → α) (fail_ : α) : g (L.FnExactLeastWatchOk_tree aNet aSet leaf0_ fail_) = L.FnExactLeastWatchOk_tree aNet aSet (fun d => g (leaf0_ d)) (g fail_) := by
  unfold L.FnExactLeastWatchOk_tree; simp only [apply_cnd g, apply_optC g, apply_sumC g]
noncomputable def L.FnExactLeastWatchOk_t (aNet : List Int) (aSet : Int) : Option (Bool) := L.FnExactLeastWatchOk_tree aNet aSet (fun d => some d) none
theorem L.FnExactLeastWatchOk_den (aNet : List Int) (aSet : Int) (κ : V → List E → R) : L.FnExactLeastWatchOk_F [.ro true (.ints .i64 aNet), .int .i64 aSet] [] κ = optC (L.FnExactLeastWatchOk_t aNet aSet) (fun (r : Bool) => κ (.bool r) []) none := by
  have hu : L.FnExactLeastWatchOk_F [.ro true (.ints .i64 aNet), .int .i64 aSet] [] κ = L.FnExactLeastWatchOk_tree aNet aSet (fun d => κ (.bool d) []) none := by
    kernel_rfl
  rw [hu]
  exact (L.FnExactLeastWatchOk_tree_nat (fun o => optC o (fun (r : Bool) => κ (.bool r) []) none) aNet aSet (fun d => some d) none).symm
noncomputable def L.FnExactLeastWatchOk_s : D.Spec where
  keep := true
  pure := true
  ds := [.int .i64, .invalid]
  sp := fun args h κ => match args, h with
    | [.ro true (.ints .i64 aNet), .int .i64 aSet], [] => optC (L.FnExactLeastWatchOk_t aNet aSet) (fun (r : Bool) => κ (.bool r) []) none
    | _, _ => none
theorem L.FnExactLeastWatchOk_ok : SpecOk Try.prog 11 L.FnExactLeastWatchOk_s := by
  refine SpecOk.of TDok mixed (T := L.FnExactLeastWatchOk_T) ?_ (ann := L.FnExactLeastWatchOk_ann) Try.func11 rfl (by decide +kernel) ?_ ?_ ?_
  · intro p hp
    simp only [L.FnExactLeastWatchOk_T, List.mem_cons, List.not_mem_nil, or_false] at hp
    rcases hp with rfl | rfl | rfl | rfl
    · exact L.toIntS_ok
    · exact S.LeastWatchOk_ok
    · exact I.LeastWatchOk_ok
    · exact L.eqIntS_ok
  · intro args h κ r hh
    simp only [L.FnExactLeastWatchOk_s] at hh
    split at hh
    · exact (L.FnExactLeastWatchOk_den _ _ κ).trans hh
    · cases hh
  · intro args h κ r hh
    simp only [L.FnExactLeastWatchOk_s] at hh ⊢
    split at hh
    · exact optC_law2 (F := fun (r : Bool) κ => κ (.bool r) []) (fun b κ r hb => ⟨_, _, hb, fun _ => rfl⟩) hh
    · cases hh
  · intro _ args h κ r hh
    simp only [L.FnExactLeastWatchOk_s] at hh
    split at hh
    · exact ⟨rfl, fun _ => rfl⟩
    · cases hh

-- loop.example/guardsonnets/laws.FnExactFewestWatch
noncomputable def L.FnExactFewestWatch_T : List (Nat × D.Spec) := [(47, L.toIntS_s), (29, S.FewestWatch_s), (28, I.FewestWatch_s), (48, L.eqIntS_s)]
def L.FnExactFewestWatch_ann : Nat → List Nat × List Nat
  | _ => ([], [])
noncomputable def L.FnExactFewestWatch_F (args : List V) (h : List E) (κ : V → List E → R) : R := funC TD (tableK L.FnExactFewestWatch_T) L.FnExactFewestWatch_ann (drawOk (tableP L.FnExactFewestWatch_T)) FUEL Try.f12 args h κ
noncomputable def L.FnExactFewestWatch_tree {α : Type} (aNet : List Int) (leaf0_ : Bool → α) (fail_ : α) : α :=
  (bif decide ((↑aNet.length : Int) > 1048576) then (leaf0_ true) else (optC (L.toIntS_t aNet) (fun c_1 => (optC (S.FewestWatch_t c_1) (fun c_2 => (optC (L.toIntS_t aNet) (fun c_3 => (optC (I.FewestWatch_t c_3) (fun c_4 => (bif !c_4 == c_2 then (leaf0_ false) else (optC (L.toIntS_t aNet) (fun c_5 => (optC (L.eqIntS_t c_3 c_5) (fun c_6 => (bif !c_6 then (leaf0_ false) else (leaf0_ true))) fail_)) fail_))) fail_)) fail_)) fail_)) fail_))
theorem L.FnExactFewestWatch_tree_nat {α γ : Type} (g : α → γ) (aNet : List Int) (leaf0_ : Bool → α) (fail_ : α) : g (L.FnExactFewestWatch_tree aNet leaf0_ fail_) = L.FnExactFewestWatch_tree aNet (fun d => g (leaf0_ d)) (g fail_) := by
  unfold L.FnExactFewestWatch_tree; simp only [apply_cnd g, apply_optC g, apply_sumC g]
noncomputable def L.FnExactFewestWatch_t (aNet : List Int) : Option (Bool) := L.FnExactFewestWatch_tree aNet (fun d => some d) none
theorem L.FnExactFewestWatch_den (aNet : List Int) (κ : V → List E → R) : L.FnExactFewestWatch_F [.ro true (.ints .i64 aNet)] [] κ = optC (L.FnExactFewestWatch_t aNet) (fun (r : Bool) => κ (.bool r) []) none := by
  have hu : L.FnExactFewestWatch_F [.ro true (.ints .i64 aNet)] [] κ = L.FnExactFewestWatch_tree aNet (fun d => κ (.bool d) []) none := by
    kernel_rfl
  rw [hu]
  exact (L.FnExactFewestWatch_tree_nat (fun o => optC o (fun (r : Bool) => κ (.bool r) []) none) aNet (fun d => some d) none).symm
noncomputable def L.FnExactFewestWatch_s : D.Spec where
  keep := true
  pure := true
  ds := [.int .i64]
  sp := fun args h κ => match args, h with
    | [.ro true (.ints .i64 aNet)], [] => optC (L.FnExactFewestWatch_t aNet) (fun (r : Bool) => κ (.bool r) []) none
    | _, _ => none
theorem L.FnExactFewestWatch_ok : SpecOk Try.prog 12 L.FnExactFewestWatch_s := by
  refine SpecOk.of TDok mixed (T := L.FnExactFewestWatch_T) ?_ (ann := L.FnExactFewestWatch_ann) Try.func12 rfl (by decide +kernel) ?_ ?_ ?_
  · intro p hp
    simp only [L.FnExactFewestWatch_T, List.mem_cons, List.not_mem_nil, or_false] at hp
    rcases hp with rfl | rfl | rfl | rfl
    · exact L.toIntS_ok
    · exact S.FewestWatch_ok
    · exact I.FewestWatch_ok
    · exact L.eqIntS_ok
  · intro args h κ r hh
    simp only [L.FnExactFewestWatch_s] at hh
    split at hh
    · exact (L.FnExactFewestWatch_den _ κ).trans hh
    · cases hh
  · intro args h κ r hh
    simp only [L.FnExactFewestWatch_s] at hh ⊢
    split at hh
    · exact optC_law2 (F := fun (r : Bool) κ => κ (.bool r) []) (fun b κ r hb => ⟨_, _, hb, fun _ => rfl⟩) hh
    · cases hh
  · intro _ args h κ r hh
    simp only [L.FnExactFewestWatch_s] at hh
    split at hh
    · exact ⟨rfl, fun _ => rfl⟩
    · cases hh

-- loop.example/guardsonnets/laws.FnExactWatchOf
noncomputable def L.FnExactWatchOf_T : List (Nat × D.Spec) := [(47, L.toIntS_s), (35, S.WatchOf_s), (34, I.WatchOf_s), (48, L.eqIntS_s)]
def L.FnExactWatchOf_ann : Nat → List Nat × List Nat
  | _ => ([], [])
noncomputable def L.FnExactWatchOf_F (args : List V) (h : List E) (κ : V → List E → R) : R := funC TD (tableK L.FnExactWatchOf_T) L.FnExactWatchOf_ann (drawOk (tableP L.FnExactWatchOf_T)) FUEL Try.f13 args h κ
noncomputable def L.FnExactWatchOf_tree {α : Type} (aNet : List Int) (leaf0_ : Bool → α) (fail_ : α) : α :=
  (bif decide ((↑aNet.length : Int) > 1048576) then (leaf0_ true) else (optC (L.toIntS_t aNet) (fun c_1 => (optC (S.WatchOf_t c_1) (fun c_2 => (optC (L.toIntS_t aNet) (fun c_3 => (optC (I.WatchOf_t c_3) (fun c_4 => (bif !c_4 == c_2 then (leaf0_ false) else (optC (L.toIntS_t aNet) (fun c_5 => (optC (L.eqIntS_t c_3 c_5) (fun c_6 => (bif !c_6 then (leaf0_ false) else (leaf0_ true))) fail_)) fail_))) fail_)) fail_)) fail_)) fail_))
theorem L.FnExactWatchOf_tree_nat {α γ : Type} (g : α → γ) (aNet : List Int) (leaf0_ : Bool → α) (fail_ : α) : g (L.FnExactWatchOf_tree aNet leaf0_ fail_) = L.FnExactWatchOf_tree aNet (fun d => g (leaf0_ d)) (g fail_) := by
  unfold L.FnExactWatchOf_tree; simp only [apply_cnd g, apply_optC g, apply_sumC g]
noncomputable def L.FnExactWatchOf_t (aNet : List Int) : Option (Bool) := L.FnExactWatchOf_tree aNet (fun d => some d) none
theorem L.FnExactWatchOf_den (aNet : List Int) (κ : V → List E → R) : L.FnExactWatchOf_F [.ro true (.ints .i64 aNet)] [] κ = optC (L.FnExactWatchOf_t aNet) (fun (r : Bool) => κ (.bool r) []) none := by
  have hu : L.FnExactWatchOf_F [.ro true (.ints .i64 aNet)] [] κ = L.FnExactWatchOf_tree aNet (fun d => κ (.bool d) []) none := by
    kernel_rfl
  rw [hu]
  exact (L.FnExactWatchOf_tree_nat (fun o => optC o (fun (r : Bool) => κ (.bool r) []) none) aNet (fun d => some d) none).symm
noncomputable def L.FnExactWatchOf_s : D.Spec where
  keep := true
  pure := true
  ds := [.int .i64]
  sp := fun args h κ => match args, h with
    | [.ro true (.ints .i64 aNet)], [] => optC (L.FnExactWatchOf_t aNet) (fun (r : Bool) => κ (.bool r) []) none
    | _, _ => none
theorem L.FnExactWatchOf_ok : SpecOk Try.prog 13 L.FnExactWatchOf_s := by
  refine SpecOk.of TDok mixed (T := L.FnExactWatchOf_T) ?_ (ann := L.FnExactWatchOf_ann) Try.func13 rfl (by decide +kernel) ?_ ?_ ?_
  · intro p hp
    simp only [L.FnExactWatchOf_T, List.mem_cons, List.not_mem_nil, or_false] at hp
    rcases hp with rfl | rfl | rfl | rfl
    · exact L.toIntS_ok
    · exact S.WatchOf_ok
    · exact I.WatchOf_ok
    · exact L.eqIntS_ok
  · intro args h κ r hh
    simp only [L.FnExactWatchOf_s] at hh
    split at hh
    · exact (L.FnExactWatchOf_den _ κ).trans hh
    · cases hh
  · intro args h κ r hh
    simp only [L.FnExactWatchOf_s] at hh ⊢
    split at hh
    · exact optC_law2 (F := fun (r : Bool) κ => κ (.bool r) []) (fun b κ r hb => ⟨_, _, hb, fun _ => rfl⟩) hh
    · cases hh
  · intro _ args h κ r hh
    simp only [L.FnExactWatchOf_s] at hh
    split at hh
    · exact ⟨rfl, fun _ => rfl⟩
    · cases hh

-- loop.example/guardsonnets/laws.markIntS
noncomputable def L.markIntS_T : List (Nat × D.Spec) := []
def L.markIntS_ann : Nat → List Nat × List Nat
  | 2 => ([0, 1, 5], [1])
  | _ => ([], [])
noncomputable def L.markIntS_F (args : List V) (h : List E) (κ : V → List E → R) : R := funC TD (tableK L.markIntS_T) L.markIntS_ann (drawOk (tableP L.markIntS_T)) FUEL Try.f49 args h κ
noncomputable def L.markIntS_L2 (n : Nat) (σ : St) (k : X → St → R) : R := iterC 1 (fun σ k => denC TD (tableK L.markIntS_T) L.markIntS_ann (drawOk (tableP L.markIntS_T)) 1 FUEL ((findLoop 2 (Try.f49.body.getD .skip)).getD .skip) σ k) [0, 1, 5] [1] n σ k
noncomputable def L.markIntS_k2 (κ : V → List E → R) : X → St → R := (afterC TD (tableK L.markIntS_T) L.markIntS_ann (drawOk (tableP L.markIntS_T)) 1 FUEL 2 (Try.f49.body.getD .skip) (finC 1 Try.f49 κ)).getD (fun _ _ => none)
noncomputable def L.markIntS_step2 {α : Type} (x1 : Int) (x5 : Int) (r0 : List Int) (next_ : Int × Int × (List Int) → α) (out0_ : Int × (List Int) → α) (fail_ : α) : α :=
  (bif decide (x5 < (↑r0.length : Int)) then (bif decide (0 ≤ x5) && decide (x5 < (↑r0.length : Int)) then (bif decide (x5.toNat < r0.length) then (next_ (IntKind.i64.wrap (x1 + 1), IntKind.i64.wrap (x5 + 1), r0.set x5.toNat x1)) else fail_) else fail_) else (out0_ (x1, r0)))
theorem L.markIntS_step2_nat {α γ : Type} (g : α → γ) (x1 : Int) (x5 : Int) (r0 : List Int) (next_ : Int × Int × (List Int) → α) (out0_ : Int × (List Int) → α) (fail_ : α) : g (L.markIntS_step2 x1 x5 r0 next_ out0_ fail_) = L.markIntS_step2 x1 x5 r0 (fun s => g (next_ s)) (fun d => g (out0_ d)) (g fail_) := by
  unfold L.markIntS_step2; simp only [apply_cnd g, apply_optC g, apply_sumC g]
noncomputable def L.markIntS_run2 : Nat → Int × Int × (List Int) → Option (Int × (List Int))
  | 0, _ => none
  | n + 1, s_ => L.markIntS_step2 s_.1 s_.2.1 s_.2.2 (L.markIntS_run2 n) (fun d => some d) none
theorem L.markIntS_L2_run (n : Nat) (s_ : Int × Int × (List Int)) (k : X → St → R) : L.markIntS_L2 n { n := 19, t := [(0, (.own 0)), (1, (.int .i64 s_.1)), (5, (.int .i64 s_.2.1))], h := [.row (.ints .i64 s_.2.2)] } k = optC (L.markIntS_run2 n s_) (fun (r : Int × (List Int)) => k (.exit 0) { n := 19, t := [(1, (.int .i64 r.1))], h := [.row (.ints .i64 r.2)] }) none := by
  induction n generalizing s_ with
  | zero => rfl
  | succ n ih =>
    have hu : L.markIntS_L2 (n + 1) { n := 19, t := [(0, (.own 0)), (1, (.int .i64 s_.1)), (5, (.int .i64 s_.2.1))], h := [.row (.ints .i64 s_.2.2)] } k = L.markIntS_step2 s_.1 s_.2.1 s_.2.2 (fun s_ => L.markIntS_L2 n { n := 19, t := [(0, (.own 0)), (1, (.int .i64 s_.1)), (5, (.int .i64 s_.2.1))], h := [.row (.ints .i64 s_.2.2)] } k) (fun d => k (.exit 0) { n := 19, t := [(1, (.int .i64 d.1))], h := [.row (.ints .i64 d.2)] }) none := by
      kernel_rfl
    have hs : (fun s_ : Int × Int × (List Int) => L.markIntS_L2 n { n := 19, t := [(0, (.own 0)), (1, (.int .i64 s_.1)), (5, (.int .i64 s_.2.1))], h := [.row (.ints .i64 s_.2.2)] } k) = fun s_ => optC (L.markIntS_run2 n s_) (fun (r : Int × (List Int)) => k (.exit 0) { n := 19, t := [(1, (.int .i64 r.1))], h := [.row (.ints .i64 r.2)] }) none := funext ih
    rw [hu, hs]
    exact (L.markIntS_step2_nat (fun o => optC o (fun (r : Int × (List Int)) => k (.exit 0) { n := 19, t := [(1, (.int .i64 r.1))], h := [.row (.ints .i64 r.2)] }) none) s_.1 s_.2.1 s_.2.2 (L.markIntS_run2 n) (fun d => some d) none).symm
noncomputable def L.markIntS_tree {α : Type} (a : List Int) (k_ : Int) (leaf0_ : Int × (List Int) → α) (fail_ : α) : α :=
  (optC (L.markIntS_run2 FUEL (k_, 0, a)) (fun qy_1 => (leaf0_ (qy_1.1, qy_1.2))) fail_)
theorem L.markIntS_tree_nat {α γ : Type} (g : α → γ) (a : List Int) (k_ : Int) (leaf0_ : Int × (List Int) → α) (fail_ : α) : g (L.markIntS_tree a k_ leaf0_ fail_) = L.markIntS_tree a k_ (fun d => g (leaf0_ d)) (g fail_) := by
  unfold L.markIntS_tree; simp only [apply_cnd g, apply_optC g, apply_sumC g]
noncomputable def L.markIntS_t (a : List Int) (k_ : Int) : Option (Int × (List Int)) := L.markIntS_tree a k_ (fun d => some d) none
theorem L.markIntS_den (a : List Int) (k_ : Int) (κ : V → List E → R) : L.markIntS_F [.own 0, .int .i64 k_] [.row (.ints .i64 a)] κ = optC (L.markIntS_t a k_) (fun (r : Int × (List Int)) => κ (.int .i64 r.1) [.row (.ints .i64 r.2)]) none := by
  have hu : L.markIntS_F [.own 0, .int .i64 k_] [.row (.ints .i64 a)] κ = L.markIntS_tree a k_ (fun d => κ (.int .i64 d.1) [.row (.ints .i64 d.2)]) none := by
    refine Eq.trans (show L.markIntS_F [.own 0, .int .i64 k_] [.row (.ints .i64 a)] κ = (L.markIntS_L2 FUEL { n := 19, t := [(0, (.own 0)), (1, (.int .i64 k_)), (5, (.int .i64 0))], h := [.row (.ints .i64 a)] } (L.markIntS_k2 κ)) by kernel_rfl) ?_
    refine (L.markIntS_L2_run FUEL (k_, 0, a) (L.markIntS_k2 κ)).trans (optC_congr (fun qy_1 => ?_))
    kernel_rfl
  rw [hu]
  exact (L.markIntS_tree_nat (fun o => optC o (fun (r : Int × (List Int)) => κ (.int .i64 r.1) [.row (.ints .i64 r.2)]) none) a k_ (fun d => some d) none).symm
noncomputable def L.markIntS_s : D.Spec where
  keep := false
  pure := false
  ds := [.pointer 0, .invalid]
  sp := fun args h κ => match args, h with
    | [.own 0, .int .i64 k_], [.row (.ints .i64 a)] => optC (L.markIntS_t a k_) (fun (r : Int × (List Int)) => κ (.int .i64 r.1) [.row (.ints .i64 r.2)]) none
    | _, _ => none
theorem L.markIntS_ok : SpecOk Try.prog 49 L.markIntS_s := by
  refine SpecOk.of TDok mixed (T := L.markIntS_T) ?_ (ann := L.markIntS_ann) Try.func49 rfl (by decide +kernel) ?_ ?_ ?_
  · intro p hp; cases hp
  · intro args h κ r hh
    simp only [L.markIntS_s] at hh
    split at hh
    · exact (L.markIntS_den _ _ κ).trans hh
    · cases hh
  · intro args h κ r hh
    simp only [L.markIntS_s] at hh ⊢
    split at hh
    · exact optC_law2 (F := fun (r : Int × (List Int)) κ => κ (.int .i64 r.1) [.row (.ints .i64 r.2)]) (fun b κ r hb => ⟨_, _, hb, fun _ => rfl⟩) hh
    · cases hh
  · intro hh; cases hh

-- loop.example/guardsonnets/laws.heldIntS
noncomputable def L.heldIntS_T : List (Nat × D.Spec) := []
def L.heldIntS_ann : Nat → List Nat × List Nat
  | 2 => ([0, 1, 5], [1, 4])
  | _ => ([], [])
noncomputable def L.heldIntS_F (args : List V) (h : List E) (κ : V → List E → R) : R := funC TD (tableK L.heldIntS_T) L.heldIntS_ann (drawOk (tableP L.heldIntS_T)) FUEL Try.f50 args h κ
noncomputable def L.heldIntS_L2 (n : Nat) (σ : St) (k : X → St → R) : R := iterC 0 (fun σ k => denC TD (tableK L.heldIntS_T) L.heldIntS_ann (drawOk (tableP L.heldIntS_T)) 0 FUEL ((findLoop 2 (Try.f50.body.getD .skip)).getD .skip) σ k) [0, 1, 5] [1, 4] n σ k
noncomputable def L.heldIntS_k2 (κ : V → List E → R) : X → St → R := (afterC TD (tableK L.heldIntS_T) L.heldIntS_ann (drawOk (tableP L.heldIntS_T)) 0 FUEL 2 (Try.f50.body.getD .skip) (finC 0 Try.f50 κ)).getD (fun _ _ => none)
noncomputable def L.heldIntS_step2 {α : Type} (x0 : List Int) (x1 : Int) (x5 : Int) (next_ : Int × Int → α) (out0_ : Int × Int → α) (out1_ : Int → α) (fail_ : α) : α :=
  (bif decide (x5 < (↑x0.length : Int)) then (bif decide (0 ≤ x5) && decide (x5 < (↑x0.length : Int)) then (bif !eli x0 x5.toNat == x1 then (out0_ (x1, -1)) else (next_ (IntKind.i64.wrap (x1 + 1), IntKind.i64.wrap (x5 + 1)))) else fail_) else (out1_ x1))
theorem L.heldIntS_step2_nat {α γ : Type} (g : α → γ) (x0 : List Int) (x1 : Int) (x5 : Int) (next_ : Int × Int → α) (out0_ : Int × Int → α) (out1_ : Int → α) (fail_ : α) : g (L.heldIntS_step2 x0 x1 x5 next_ out0_ out1_ fail_) = L.heldIntS_step2 x0 x1 x5 (fun s => g (next_ s)) (fun d => g (out0_ d)) (fun d => g (out1_ d)) (g fail_) := by
  unfold L.heldIntS_step2; simp only [apply_cnd g, apply_optC g, apply_sumC g]
noncomputable def L.heldIntS_run2 (x0 : List Int) : Nat → Int × Int → Option ((Int × Int) ⊕ (Int))
  | 0, _ => none
  | n + 1, s_ => L.heldIntS_step2 x0 s_.1 s_.2 (L.heldIntS_run2 x0 n) (fun d => some ((Sum.inl d))) (fun d => some ((Sum.inr d))) none
theorem L.heldIntS_L2_run (x0 : List Int) (n : Nat) (s_ : Int × Int) (k : X → St → R) : L.heldIntS_L2 n { n := 21, t := [(0, (.ro false (.ints .i64 x0))), (1, (.int .i64 s_.1)), (5, (.int .i64 s_.2))], h := [] } k = optC (L.heldIntS_run2 x0 n s_) (fun (r : (Int × Int) ⊕ (Int)) => (sumC r (fun (r : Int × Int) => k (.ret) { n := 21, t := [(1, (.int .i64 r.1)), (4, (.int .i64 r.2))], h := [] }) (fun (r : Int) => k (.exit 0) { n := 21, t := [(1, (.int .i64 r)), (4, .junk)], h := [] }))) none := by
  induction n generalizing s_ with
  | zero => rfl
  | succ n ih =>
    have hu : L.heldIntS_L2 (n + 1) { n := 21, t := [(0, (.ro false (.ints .i64 x0))), (1, (.int .i64 s_.1)), (5, (.int .i64 s_.2))], h := [] } k = L.heldIntS_step2 x0 s_.1 s_.2 (fun s_ => L.heldIntS_L2 n { n := 21, t := [(0, (.ro false (.ints .i64 x0))), (1, (.int .i64 s_.1)), (5, (.int .i64 s_.2))], h := [] } k) (fun d => k (.ret) { n := 21, t := [(1, (.int .i64 d.1)), (4, (.int .i64 d.2))], h := [] }) (fun d => k (.exit 0) { n := 21, t := [(1, (.int .i64 d)), (4, .junk)], h := [] }) none := by
      kernel_rfl
    have hs : (fun s_ : Int × Int => L.heldIntS_L2 n { n := 21, t := [(0, (.ro false (.ints .i64 x0))), (1, (.int .i64 s_.1)), (5, (.int .i64 s_.2))], h := [] } k) = fun s_ => optC (L.heldIntS_run2 x0 n s_) (fun (r : (Int × Int) ⊕ (Int)) => (sumC r (fun (r : Int × Int) => k (.ret) { n := 21, t := [(1, (.int .i64 r.1)), (4, (.int .i64 r.2))], h := [] }) (fun (r : Int) => k (.exit 0) { n := 21, t := [(1, (.int .i64 r)), (4, .junk)], h := [] }))) none := funext ih
    rw [hu, hs]
    exact (L.heldIntS_step2_nat (fun o => optC o (fun (r : (Int × Int) ⊕ (Int)) => (sumC r (fun (r : Int × Int) => k (.ret) { n := 21, t := [(1, (.int .i64 r.1)), (4, (.int .i64 r.2))], h := [] }) (fun (r : Int) => k (.exit 0) { n := 21, t := [(1, (.int .i64 r)), (4, .junk)], h := [] }))) none) x0 s_.1 s_.2 (L.heldIntS_run2 x0 n) (fun d => some ((Sum.inl d))) (fun d => some ((Sum.inr d))) none).symm
noncomputable def L.heldIntS_tree {α : Type} (a : List Int) (k_ : Int) (leaf0_ : Int → α) (fail_ : α) : α :=
  (optC (L.heldIntS_run2 a FUEL (k_, 0)) (fun qy_1 => (sumC qy_1 (fun (qy_1 : Int × Int) => (leaf0_ qy_1.2)) (fun (qy_1 : Int) => (leaf0_ qy_1)))) fail_)
theorem L.heldIntS_tree_nat {α γ : Type} (g : α → γ) (a : List Int) (k_ : Int) (leaf0_ : Int → α) (fail_ : α) : g (L.heldIntS_tree a k_ leaf0_ fail_) = L.heldIntS_tree a k_ (fun d => g (leaf0_ d)) (g fail_) := by
  unfold L.heldIntS_tree; simp only [apply_cnd g, apply_optC g, apply_sumC g]
noncomputable def L.heldIntS_t (a : List Int) (k_ : Int) : Option (Int) := L.heldIntS_tree a k_ (fun d => some d) none
theorem L.heldIntS_den (a : List Int) (k_ : Int) (κ : V → List E → R) : L.heldIntS_F [.ro false (.ints .i64 a), .int .i64 k_] [] κ = optC (L.heldIntS_t a k_) (fun (r : Int) => κ (.int .i64 r) []) none := by
  have hu : L.heldIntS_F [.ro false (.ints .i64 a), .int .i64 k_] [] κ = L.heldIntS_tree a k_ (fun d => κ (.int .i64 d) []) none := by
    refine Eq.trans (show L.heldIntS_F [.ro false (.ints .i64 a), .int .i64 k_] [] κ = (L.heldIntS_L2 FUEL { n := 21, t := [(0, (.ro false (.ints .i64 a))), (1, (.int .i64 k_)), (5, (.int .i64 0))], h := [] } (L.heldIntS_k2 κ)) by kernel_rfl) ?_
    refine (L.heldIntS_L2_run a FUEL (k_, 0) (L.heldIntS_k2 κ)).trans (optC_congr (fun qy_1 => ?_))
    rcases qy_1 with qy_1 | qy_1
    · kernel_rfl
    · kernel_rfl
  rw [hu]
  exact (L.heldIntS_tree_nat (fun o => optC o (fun (r : Int) => κ (.int .i64 r) []) none) a k_ (fun d => some d) none).symm
noncomputable def L.heldIntS_s : D.Spec where
  keep := false
  pure := true
  ds := [.int .i64, .invalid]
  sp := fun args h κ => match args, h with
    | [.ro false (.ints .i64 a), .int .i64 k_], [] => optC (L.heldIntS_t a k_) (fun (r : Int) => κ (.int .i64 r) []) none
    | _, _ => none
theorem L.heldIntS_ok : SpecOk Try.prog 50 L.heldIntS_s := by
  refine SpecOk.of TDok mixed (T := L.heldIntS_T) ?_ (ann := L.heldIntS_ann) Try.func50 rfl (by decide +kernel) ?_ ?_ ?_
  · intro p hp; cases hp
  · intro args h κ r hh
    simp only [L.heldIntS_s] at hh
    split at hh
    · exact (L.heldIntS_den _ _ κ).trans hh
    · cases hh
  · intro args h κ r hh
    simp only [L.heldIntS_s] at hh ⊢
    split at hh
    · exact optC_law2 (F := fun (r : Int) κ => κ (.int .i64 r) []) (fun b κ r hb => ⟨_, _, hb, fun _ => rfl⟩) hh
    · cases hh
  · intro _ args h κ r hh
    simp only [L.heldIntS_s] at hh
    split at hh
    · exact ⟨rfl, fun _ => rfl⟩
    · cases hh

-- loop.example/guardsonnets/laws.FnExactLeastWatches
noncomputable def L.FnExactLeastWatches_T : List (Nat × D.Spec) := [(47, L.toIntS_s), (39, S.LeastWatches_s), (37, I.LeastWatches_s), (48, L.eqIntS_s), (49, L.markIntS_s), (50, L.heldIntS_s)]
def L.FnExactLeastWatches_ann : Nat → List Nat × List Nat
  | _ => ([], [])
noncomputable def L.FnExactLeastWatches_F (args : List V) (h : List E) (κ : V → List E → R) : R := funC TD (tableK L.FnExactLeastWatches_T) L.FnExactLeastWatches_ann (drawOk (tableP L.FnExactLeastWatches_T)) FUEL Try.f14 args h κ
noncomputable def L.FnExactLeastWatches_tree {α : Type} (aNet : List Int) (leaf0_ : Bool → α) (fail_ : α) : α :=
  (bif decide ((↑aNet.length : Int) > 1048576) then (leaf0_ true) else (optC (L.toIntS_t aNet) (fun c_1 => (optC (S.LeastWatches_t c_1) (fun c_2 => (optC (L.toIntS_t aNet) (fun c_3 => (optC (I.LeastWatches_t c_3) (fun c_4 => (optC (L.eqIntS_t c_4 c_2) (fun c_5 => (bif !c_5 then (leaf0_ false) else (optC (L.toIntS_t aNet) (fun c_6 => (optC (L.eqIntS_t c_3 c_6) (fun c_7 => (bif !c_7 then (leaf0_ false) else (optC (L.markIntS_t c_3 1) (fun c_8 => (bif decide (c_8.fst < 0) then (leaf0_ false) else (optC (L.eqIntS_t c_4 c_2) (fun c_9 => (bif !c_9 then (leaf0_ false) else (optC (L.markIntS_t c_4 1) (fun c_10 => (optC (L.heldIntS_t c_10.snd 1) (fun c_11 => (bif decide (c_11 < 0) then (leaf0_ false) else (bif !c_11 == c_10.fst then (leaf0_ false) else (optC (L.toIntS_t aNet) (fun c_12 => (optC (I.LeastWatches_t c_12) (fun c_13 => (optC (L.eqIntS_t c_13 c_2) (fun c_14 => (bif !c_14 then (leaf0_ false) else (optC (L.heldIntS_t c_10.snd 1) (fun c_15 => (bif decide (c_15 < 0) then (leaf0_ false) else (bif !c_15 == c_10.fst then (leaf0_ false) else (leaf0_ true)))) fail_))) fail_)) fail_)) fail_)))) fail_)) fail_))) fail_))) fail_))) fail_)) fail_))) fail_)) fail_)) fail_)) fail_)) fail_))
theorem L.FnExactLeastWatches_tree_nat {α γ : Type} (g : α → γ) (aNet : List Int) (leaf0_ : Bool → α) (fail_ : α) : g (L.FnExactLeastWatches_tree aNet leaf0_ fail_) = L.FnExactLeastWatches_tree aNet (fun d => g (leaf0_ d)) (g fail_) := by
  unfold L.FnExactLeastWatches_tree; simp only [apply_cnd g, apply_optC g, apply_sumC g]
noncomputable def L.FnExactLeastWatches_t (aNet : List Int) : Option (Bool) := L.FnExactLeastWatches_tree aNet (fun d => some d) none
theorem L.FnExactLeastWatches_den (aNet : List Int) (κ : V → List E → R) : L.FnExactLeastWatches_F [.ro true (.ints .i64 aNet)] [] κ = optC (L.FnExactLeastWatches_t aNet) (fun (r : Bool) => κ (.bool r) []) none := by
  have hu : L.FnExactLeastWatches_F [.ro true (.ints .i64 aNet)] [] κ = L.FnExactLeastWatches_tree aNet (fun d => κ (.bool d) []) none := by
    kernel_rfl
  rw [hu]
  exact (L.FnExactLeastWatches_tree_nat (fun o => optC o (fun (r : Bool) => κ (.bool r) []) none) aNet (fun d => some d) none).symm
noncomputable def L.FnExactLeastWatches_s : D.Spec where
  keep := true
  pure := true
  ds := [.int .i64]
  sp := fun args h κ => match args, h with
    | [.ro true (.ints .i64 aNet)], [] => optC (L.FnExactLeastWatches_t aNet) (fun (r : Bool) => κ (.bool r) []) none
    | _, _ => none
theorem L.FnExactLeastWatches_ok : SpecOk Try.prog 14 L.FnExactLeastWatches_s := by
  refine SpecOk.of TDok mixed (T := L.FnExactLeastWatches_T) ?_ (ann := L.FnExactLeastWatches_ann) Try.func14 rfl (by decide +kernel) ?_ ?_ ?_
  · intro p hp
    simp only [L.FnExactLeastWatches_T, List.mem_cons, List.not_mem_nil, or_false] at hp
    rcases hp with rfl | rfl | rfl | rfl | rfl | rfl
    · exact L.toIntS_ok
    · exact S.LeastWatches_ok
    · exact I.LeastWatches_ok
    · exact L.eqIntS_ok
    · exact L.markIntS_ok
    · exact L.heldIntS_ok
  · intro args h κ r hh
    simp only [L.FnExactLeastWatches_s] at hh
    split at hh
    · exact (L.FnExactLeastWatches_den _ κ).trans hh
    · cases hh
  · intro args h κ r hh
    simp only [L.FnExactLeastWatches_s] at hh ⊢
    split at hh
    · exact optC_law2 (F := fun (r : Bool) κ => κ (.bool r) []) (fun b κ r hb => ⟨_, _, hb, fun _ => rfl⟩) hh
    · cases hh
  · intro _ args h κ r hh
    simp only [L.FnExactLeastWatches_s] at hh
    split at hh
    · exact ⟨rfl, fun _ => rfl⟩
    · cases hh

-- loop.example/guardsonnets/laws.FnExactWatchCounts
noncomputable def L.FnExactWatchCounts_T : List (Nat × D.Spec) := [(47, L.toIntS_s), (43, S.WatchCounts_s), (42, I.WatchCounts_s), (48, L.eqIntS_s), (49, L.markIntS_s), (50, L.heldIntS_s)]
def L.FnExactWatchCounts_ann : Nat → List Nat × List Nat
  | _ => ([], [])
noncomputable def L.FnExactWatchCounts_F (args : List V) (h : List E) (κ : V → List E → R) : R := funC TD (tableK L.FnExactWatchCounts_T) L.FnExactWatchCounts_ann (drawOk (tableP L.FnExactWatchCounts_T)) FUEL Try.f15 args h κ
noncomputable def L.FnExactWatchCounts_tree {α : Type} (aNet : List Int) (leaf0_ : Bool → α) (fail_ : α) : α :=
  (bif decide ((↑aNet.length : Int) > 1048576) then (leaf0_ true) else (optC (L.toIntS_t aNet) (fun c_1 => (optC (S.WatchCounts_t c_1) (fun c_2 => (optC (L.toIntS_t aNet) (fun c_3 => (optC (I.WatchCounts_t c_3) (fun c_4 => (optC (L.eqIntS_t c_4 c_2) (fun c_5 => (bif !c_5 then (leaf0_ false) else (optC (L.toIntS_t aNet) (fun c_6 => (optC (L.eqIntS_t c_3 c_6) (fun c_7 => (bif !c_7 then (leaf0_ false) else (optC (L.markIntS_t c_3 1) (fun c_8 => (bif decide (c_8.fst < 0) then (leaf0_ false) else (optC (L.eqIntS_t c_4 c_2) (fun c_9 => (bif !c_9 then (leaf0_ false) else (optC (L.markIntS_t c_4 1) (fun c_10 => (optC (L.heldIntS_t c_10.snd 1) (fun c_11 => (bif decide (c_11 < 0) then (leaf0_ false) else (bif !c_11 == c_10.fst then (leaf0_ false) else (optC (L.toIntS_t aNet) (fun c_12 => (optC (I.WatchCounts_t c_12) (fun c_13 => (optC (L.eqIntS_t c_13 c_2) (fun c_14 => (bif !c_14 then (leaf0_ false) else (optC (L.heldIntS_t c_10.snd 1) (fun c_15 => (bif decide (c_15 < 0) then (leaf0_ false) else (bif !c_15 == c_10.fst then (leaf0_ false) else (leaf0_ true)))) fail_))) fail_)) fail_)) fail_)))) fail_)) fail_))) fail_))) fail_))) fail_)) fail_))) fail_)) fail_)) fail_)) fail_)) fail_))
theorem L.FnExactWatchCounts_tree_nat {α γ : Type} (g : α → γ) (aNet : List Int) (leaf0_ : Bool → α) (fail_ : α) : g (L.FnExactWatchCounts_tree aNet leaf0_ fail_) = L.FnExactWatchCounts_tree aNet (fun d => g (leaf0_ d)) (g fail_) := by
  unfold L.FnExactWatchCounts_tree; simp only [apply_cnd g, apply_optC g, apply_sumC g]
noncomputable def L.FnExactWatchCounts_t (aNet : List Int) : Option (Bool) := L.FnExactWatchCounts_tree aNet (fun d => some d) none
theorem L.FnExactWatchCounts_den (aNet : List Int) (κ : V → List E → R) : L.FnExactWatchCounts_F [.ro true (.ints .i64 aNet)] [] κ = optC (L.FnExactWatchCounts_t aNet) (fun (r : Bool) => κ (.bool r) []) none := by
  have hu : L.FnExactWatchCounts_F [.ro true (.ints .i64 aNet)] [] κ = L.FnExactWatchCounts_tree aNet (fun d => κ (.bool d) []) none := by
    kernel_rfl
  rw [hu]
  exact (L.FnExactWatchCounts_tree_nat (fun o => optC o (fun (r : Bool) => κ (.bool r) []) none) aNet (fun d => some d) none).symm
noncomputable def L.FnExactWatchCounts_s : D.Spec where
  keep := true
  pure := true
  ds := [.int .i64]
  sp := fun args h κ => match args, h with
    | [.ro true (.ints .i64 aNet)], [] => optC (L.FnExactWatchCounts_t aNet) (fun (r : Bool) => κ (.bool r) []) none
    | _, _ => none
theorem L.FnExactWatchCounts_ok : SpecOk Try.prog 15 L.FnExactWatchCounts_s := by
  refine SpecOk.of TDok mixed (T := L.FnExactWatchCounts_T) ?_ (ann := L.FnExactWatchCounts_ann) Try.func15 rfl (by decide +kernel) ?_ ?_ ?_
  · intro p hp
    simp only [L.FnExactWatchCounts_T, List.mem_cons, List.not_mem_nil, or_false] at hp
    rcases hp with rfl | rfl | rfl | rfl | rfl | rfl
    · exact L.toIntS_ok
    · exact S.WatchCounts_ok
    · exact I.WatchCounts_ok
    · exact L.eqIntS_ok
    · exact L.markIntS_ok
    · exact L.heldIntS_ok
  · intro args h κ r hh
    simp only [L.FnExactWatchCounts_s] at hh
    split at hh
    · exact (L.FnExactWatchCounts_den _ κ).trans hh
    · cases hh
  · intro args h κ r hh
    simp only [L.FnExactWatchCounts_s] at hh ⊢
    split at hh
    · exact optC_law2 (F := fun (r : Bool) κ => κ (.bool r) []) (fun b κ r hb => ⟨_, _, hb, fun _ => rfl⟩) hh
    · cases hh
  · intro _ args h κ r hh
    simp only [L.FnExactWatchCounts_s] at hh
    split at hh
    · exact ⟨rfl, fun _ => rfl⟩
    · cases hh

-- loop.example/guardsonnets/laws.FnExactThinnedWatch
noncomputable def L.FnExactThinnedWatch_T : List (Nat × D.Spec) := [(47, L.toIntS_s), (46, S.ThinnedWatch_s), (45, I.ThinnedWatch_s), (48, L.eqIntS_s)]
def L.FnExactThinnedWatch_ann : Nat → List Nat × List Nat
  | _ => ([], [])
noncomputable def L.FnExactThinnedWatch_F (args : List V) (h : List E) (κ : V → List E → R) : R := funC TD (tableK L.FnExactThinnedWatch_T) L.FnExactThinnedWatch_ann (drawOk (tableP L.FnExactThinnedWatch_T)) FUEL Try.f16 args h κ
noncomputable def L.FnExactThinnedWatch_tree {α : Type} (aNet : List Int) (aSet : Int) (leaf0_ : Bool → α) (fail_ : α) : α :=
  (bif decide ((↑aNet.length : Int) > 1048576) then (leaf0_ true) else (optC (L.toIntS_t aNet) (fun c_1 => (optC (S.ThinnedWatch_t c_1 aSet) (fun c_2 => (optC (L.toIntS_t aNet) (fun c_3 => (optC (I.ThinnedWatch_t c_3 aSet) (fun c_4 => (bif !c_4 == c_2 then (leaf0_ false) else (optC (L.toIntS_t aNet) (fun c_5 => (optC (L.eqIntS_t c_3 c_5) (fun c_6 => (bif !c_6 then (leaf0_ false) else (leaf0_ true))) fail_)) fail_))) fail_)) fail_)) fail_)) fail_))
theorem L.FnExactThinnedWatch_tree_nat {α γ : Type} (g : α → γ) (aNet : List Int) (aSet : Int) (leaf0_ : Bool → α) (fail_ : α) : g (L.FnExactThinnedWatch_tree aNet aSet leaf0_ fail_) = L.FnExactThinnedWatch_tree aNet aSet (fun d => g (leaf0_ d)) (g fail_) := by
  unfold L.FnExactThinnedWatch_tree; simp only [apply_cnd g, apply_optC g, apply_sumC g]
noncomputable def L.FnExactThinnedWatch_t (aNet : List Int) (aSet : Int) : Option (Bool) := L.FnExactThinnedWatch_tree aNet aSet (fun d => some d) none
theorem L.FnExactThinnedWatch_den (aNet : List Int) (aSet : Int) (κ : V → List E → R) : L.FnExactThinnedWatch_F [.ro true (.ints .i64 aNet), .int .i64 aSet] [] κ = optC (L.FnExactThinnedWatch_t aNet aSet) (fun (r : Bool) => κ (.bool r) []) none := by
  have hu : L.FnExactThinnedWatch_F [.ro true (.ints .i64 aNet), .int .i64 aSet] [] κ = L.FnExactThinnedWatch_tree aNet aSet (fun d => κ (.bool d) []) none := by
    kernel_rfl
  rw [hu]
  exact (L.FnExactThinnedWatch_tree_nat (fun o => optC o (fun (r : Bool) => κ (.bool r) []) none) aNet aSet (fun d => some d) none).symm
noncomputable def L.FnExactThinnedWatch_s : D.Spec where
  keep := true
  pure := true
  ds := [.int .i64, .invalid]
  sp := fun args h κ => match args, h with
    | [.ro true (.ints .i64 aNet), .int .i64 aSet], [] => optC (L.FnExactThinnedWatch_t aNet aSet) (fun (r : Bool) => κ (.bool r) []) none
    | _, _ => none
theorem L.FnExactThinnedWatch_ok : SpecOk Try.prog 16 L.FnExactThinnedWatch_s := by
  refine SpecOk.of TDok mixed (T := L.FnExactThinnedWatch_T) ?_ (ann := L.FnExactThinnedWatch_ann) Try.func16 rfl (by decide +kernel) ?_ ?_ ?_
  · intro p hp
    simp only [L.FnExactThinnedWatch_T, List.mem_cons, List.not_mem_nil, or_false] at hp
    rcases hp with rfl | rfl | rfl | rfl
    · exact L.toIntS_ok
    · exact S.ThinnedWatch_ok
    · exact I.ThinnedWatch_ok
    · exact L.eqIntS_ok
  · intro args h κ r hh
    simp only [L.FnExactThinnedWatch_s] at hh
    split at hh
    · exact (L.FnExactThinnedWatch_den _ _ κ).trans hh
    · cases hh
  · intro args h κ r hh
    simp only [L.FnExactThinnedWatch_s] at hh ⊢
    split at hh
    · exact optC_law2 (F := fun (r : Bool) κ => κ (.bool r) []) (fun b κ r hb => ⟨_, _, hb, fun _ => rfl⟩) hh
    · cases hh
  · intro _ args h κ r hh
    simp only [L.FnExactThinnedWatch_s] at hh
    split at hh
    · exact ⟨rfl, fun _ => rfl⟩
    · cases hh


end Go.Proofs.Ytjflfhcdphkejaa
