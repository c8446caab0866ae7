/- Twins of the translated functions, with their proofs. Conditions: none. -/
import Derived.Test.YtonbbeplmjidnaaT2
set_option linter.unusedVariables false
set_option linter.unusedSimpArgs false
namespace Go.Proofs.Ytonbbeplmjidnaa
open D Go.RowKit
-- loop.example/guardsonnets/spec.l3Full
noncomputable def S.l3Full_T : List (Nat × D.Spec) := [(75, S.l3Needs_s)]
def S.l3Full_ann : Nat → List Nat × List Nat
  | 2 => ([0, 1, 5], [0, 1, 4])
  | _ => ([], [])
noncomputable def S.l3Full_F (args : List V) (h : List E) (κ : V → List E → R) : R := funC TD (tableK S.l3Full_T) S.l3Full_ann (drawOk (tableP S.l3Full_T)) FUEL Try.f74 args h κ
noncomputable def S.l3Full_L2 (n : Nat) (σ : St) (k : X → St → R) : R := iterC 0 (fun σ k => denC TD (tableK S.l3Full_T) S.l3Full_ann (drawOk (tableP S.l3Full_T)) 0 FUEL ((findLoop 2 (Try.f74.body.getD .skip)).getD .skip) σ k) [0, 1, 5] [0, 1, 4] n σ k
noncomputable def S.l3Full_k2 (κ : V → List E → R) : X → St → R := (afterC TD (tableK S.l3Full_T) S.l3Full_ann (drawOk (tableP S.l3Full_T)) 0 FUEL 2 (Try.f74.body.getD .skip) (finC TD 0 Try.f74 κ)).getD (fun _ _ => none)
noncomputable def S.l3Full_step2 {α : Type} (x0 : List Int) (x1 : Int) (x5 : Int) (next_ : Int → α) (out0_ : Bool → α) (out1_ : Unit → α) (fail_ : α) : α :=
  (bif decide (x5 < (↑x0.length : Int)) then (bif decide (x5 < 0) then fail_ else (bif (x1.fdiv (2 ^ min x5.toNat IntKind.i64.bits)).tmod 2 == 0 then (bif decide (x5 < 0) then fail_ else (optC (S.l3Needs_t x0 (bits BinOp.or IntKind.i64 x1 (IntKind.i64.wrap (1 * 2 ^ min x5.toNat IntKind.i64.bits)))) (fun c_1 => (bif c_1 then (out0_ false) else (next_ (IntKind.i64.wrap (x5 + 1))))) fail_)) else (next_ (IntKind.i64.wrap (x5 + 1))))) else (out1_ ()))
theorem S.l3Full_step2_nat {α γ : Type} (g : α → γ) (x0 : List Int) (x1 : Int) (x5 : Int) (next_ : Int → α) (out0_ : Bool → α) (out1_ : Unit → α) (fail_ : α) : g (S.l3Full_step2 x0 x1 x5 next_ out0_ out1_ fail_) = S.l3Full_step2 x0 x1 x5 (fun s => g (next_ s)) (fun d => g (out0_ d)) (fun d => g (out1_ d)) (g fail_) := by
  unfold S.l3Full_step2; simp only [apply_cnd g, apply_optC g, apply_sumC g]
noncomputable def S.l3Full_run2 (x0 : List Int) (x1 : Int) : Nat → Int → Option ((Bool) ⊕ (Unit))
  | 0, _ => none
  | n + 1, s_ => S.l3Full_step2 x0 x1 s_ (S.l3Full_run2 x0 x1 n) (fun d => some ((Sum.inl d))) (fun d => some ((Sum.inr d))) none
theorem S.l3Full_L2_run (x0 : List Int) (x1 : Int) (n : Nat) (s_ : Int) (k : X → St → R) : S.l3Full_L2 n { n := 28, t := [(0, (.ro false (.ints .i64 x0))), (1, (.int .i64 x1)), (5, (.int .i64 s_))], h := [] } k = optC (S.l3Full_run2 x0 x1 n s_) (fun (r : (Bool) ⊕ (Unit)) => (sumC r (fun (r : Bool) => k (.ret) { n := 28, t := [(0, (.ro false (.ints .i64 x0))), (1, (.int .i64 x1)), (4, (.bool r))], h := [] }) (fun (r : Unit) => k (.exit 0) { n := 28, t := [(0, (.ro false (.ints .i64 x0))), (1, (.int .i64 x1)), (4, .junk)], h := [] }))) none := by
  induction n generalizing s_ with
  | zero => rfl
  | succ n ih =>
    have hu : S.l3Full_L2 (n + 1) { n := 28, t := [(0, (.ro false (.ints .i64 x0))), (1, (.int .i64 x1)), (5, (.int .i64 s_))], h := [] } k = S.l3Full_step2 x0 x1 s_ (fun s_ => S.l3Full_L2 n { n := 28, t := [(0, (.ro false (.ints .i64 x0))), (1, (.int .i64 x1)), (5, (.int .i64 s_))], h := [] } k) (fun d => k (.ret) { n := 28, t := [(0, (.ro false (.ints .i64 x0))), (1, (.int .i64 x1)), (4, (.bool d))], h := [] }) (fun d => k (.exit 0) { n := 28, t := [(0, (.ro false (.ints .i64 x0))), (1, (.int .i64 x1)), (4, .junk)], h := [] }) none := by
      kernel_rfl
    have hs : (fun s_ : Int => S.l3Full_L2 n { n := 28, t := [(0, (.ro false (.ints .i64 x0))), (1, (.int .i64 x1)), (5, (.int .i64 s_))], h := [] } k) = fun s_ => optC (S.l3Full_run2 x0 x1 n s_) (fun (r : (Bool) ⊕ (Unit)) => (sumC r (fun (r : Bool) => k (.ret) { n := 28, t := [(0, (.ro false (.ints .i64 x0))), (1, (.int .i64 x1)), (4, (.bool r))], h := [] }) (fun (r : Unit) => k (.exit 0) { n := 28, t := [(0, (.ro false (.ints .i64 x0))), (1, (.int .i64 x1)), (4, .junk)], h := [] }))) none := funext ih
    rw [hu, hs]
    exact (S.l3Full_step2_nat (fun o => optC o (fun (r : (Bool) ⊕ (Unit)) => (sumC r (fun (r : Bool) => k (.ret) { n := 28, t := [(0, (.ro false (.ints .i64 x0))), (1, (.int .i64 x1)), (4, (.bool r))], h := [] }) (fun (r : Unit) => k (.exit 0) { n := 28, t := [(0, (.ro false (.ints .i64 x0))), (1, (.int .i64 x1)), (4, .junk)], h := [] }))) none) x0 x1 s_ (S.l3Full_run2 x0 x1 n) (fun d => some ((Sum.inl d))) (fun d => some ((Sum.inr d))) none).symm
noncomputable def S.l3Full_tree {α : Type} (net : List Int) (set_ : Int) (leaf0_ : Bool → α) (fail_ : α) : α :=
  (optC (S.l3Full_run2 net set_ FUEL 0) (fun qy_2 => (sumC qy_2 (fun (qy_2 : Bool) => (leaf0_ qy_2)) (fun (qy_2 : Unit) => (optC (S.l3Needs_t net set_) (fun c_3 => (leaf0_ c_3)) fail_)))) fail_)
theorem S.l3Full_tree_nat {α γ : Type} (g : α → γ) (net : List Int) (set_ : Int) (leaf0_ : Bool → α) (fail_ : α) : g (S.l3Full_tree net set_ leaf0_ fail_) = S.l3Full_tree net set_ (fun d => g (leaf0_ d)) (g fail_) := by
  unfold S.l3Full_tree; simp only [apply_cnd g, apply_optC g, apply_sumC g]
noncomputable def S.l3Full_t (net : List Int) (set_ : Int) : Option (Bool) := S.l3Full_tree net set_ (fun d => some d) none
theorem S.l3Full_den (net : List Int) (set_ : Int) (κ : V → List E → R) : S.l3Full_F [.ro false (.ints .i64 net), .int .i64 set_] [] κ = optC (S.l3Full_t net set_) (fun (r : Bool) => κ (.bool r) []) none := by
  have hu : S.l3Full_F [.ro false (.ints .i64 net), .int .i64 set_] [] κ = S.l3Full_tree net set_ (fun d => κ (.bool d) []) none := by
    refine Eq.trans (show S.l3Full_F [.ro false (.ints .i64 net), .int .i64 set_] [] κ = (S.l3Full_L2 FUEL { n := 28, t := [(0, (.ro false (.ints .i64 net))), (1, (.int .i64 set_)), (5, (.int .i64 0))], h := [] } (S.l3Full_k2 κ)) by kernel_rfl) ?_
    refine (S.l3Full_L2_run net set_ FUEL 0 (S.l3Full_k2 κ)).trans (optC_congr (fun qy_2 => ?_))
    rcases qy_2 with qy_2 | qy_2
    · kernel_rfl
    · kernel_rfl
  rw [hu]
  exact (S.l3Full_tree_nat (fun o => optC o (fun (r : Bool) => κ (.bool r) []) none) net set_ (fun d => some d) none).symm
noncomputable def S.l3Full_s : D.Spec where
  keep := false
  pure := true
  ds := [.int .i64, .invalid]
  sp := fun args h κ => match args, h with
    | [.ro false (.ints .i64 net), .int .i64 set_], [] => optC (S.l3Full_t net set_) (fun (r : Bool) => κ (.bool r) []) none
    | _, _ => none
theorem S.l3Full_ok : SpecOk Try.prog 74 S.l3Full_s := by
  refine SpecOk.of TDok mixed (T := S.l3Full_T) ?_ (ann := S.l3Full_ann) Try.func74 rfl (by decide +kernel) ?_ ?_ ?_
  · intro p hp
    simp only [S.l3Full_T, List.mem_cons, List.not_mem_nil, or_false] at hp
    rcases hp with rfl
    · exact S.l3Needs_ok
  · intro args h κ r hh
    simp only [S.l3Full_s] at hh
    split at hh
    · exact (S.l3Full_den _ _ κ).trans hh
    · cases hh
  · intro args h κ r hh
    simp only [S.l3Full_s] at hh ⊢
    split at hh
    · exact optC_law2 (F := fun (r : Bool) κ => κ (.bool r) []) (fun b κ r hb => ⟨_, _, hb, fun _ => rfl⟩) hh
    · cases hh
  · intro _ args h κ r hh
    simp only [S.l3Full_s] at hh
    split at hh
    · exact ⟨rfl, fun _ => rfl⟩
    · cases hh

-- loop.example/guardsonnets/spec.FewestNeeds
noncomputable def S.FewestNeeds_T : List (Nat × D.Spec) := [(58, S.NetOk_s), (74, S.l3Full_s), (65, S.l1Size_s)]
def S.FewestNeeds_ann : Nat → List Nat × List Nat
  | 5 => ([0, 3, 4], [3])
  | _ => ([], [])
noncomputable def S.FewestNeeds_F (args : List V) (h : List E) (κ : V → List E → R) : R := funC TD (tableK S.FewestNeeds_T) S.FewestNeeds_ann (drawOk (tableP S.FewestNeeds_T)) FUEL Try.f40 args h κ
noncomputable def S.FewestNeeds_L5 (n : Nat) (σ : St) (k : X → St → R) : R := iterC 0 (fun σ k => denC TD (tableK S.FewestNeeds_T) S.FewestNeeds_ann (drawOk (tableP S.FewestNeeds_T)) 0 FUEL ((findLoop 5 (Try.f40.body.getD .skip)).getD .skip) σ k) [0, 3, 4] [3] n σ k
noncomputable def S.FewestNeeds_k5 (κ : V → List E → R) : X → St → R := (afterC TD (tableK S.FewestNeeds_T) S.FewestNeeds_ann (drawOk (tableP S.FewestNeeds_T)) 0 FUEL 5 (Try.f40.body.getD .skip) (finC TD 0 Try.f40 κ)).getD (fun _ _ => none)
noncomputable def S.FewestNeeds_step5 {α : Type} (x0 : List Int) (x3 : Int) (x4 : Int) (next_ : Int × Int → α) (out0_ : Int → α) (fail_ : α) : α :=
  (bif decide (x4 < IntKind.i64.wrap (1 * 2 ^ min (↑x0.length : Int).toNat IntKind.i64.bits)) then (optC (S.l3Full_t x0 x4) (fun c_2 => (bif c_2 then (optC (S.l1Size_t x4) (fun c_3 => (next_ (if c_3 < x3 then c_3 else x3, IntKind.i64.wrap (x4 + 1)))) fail_) else (next_ (x3, IntKind.i64.wrap (x4 + 1))))) fail_) else (out0_ x3))
theorem S.FewestNeeds_step5_nat {α γ : Type} (g : α → γ) (x0 : List Int) (x3 : Int) (x4 : Int) (next_ : Int × Int → α) (out0_ : Int → α) (fail_ : α) : g (S.FewestNeeds_step5 x0 x3 x4 next_ out0_ fail_) = S.FewestNeeds_step5 x0 x3 x4 (fun s => g (next_ s)) (fun d => g (out0_ d)) (g fail_) := by
  unfold S.FewestNeeds_step5; simp only [apply_cnd g, apply_optC g, apply_sumC g]
noncomputable def S.FewestNeeds_run5 (x0 : List Int) : Nat → Int × Int → Option (Int)
  | 0, _ => none
  | n + 1, s_ => S.FewestNeeds_step5 x0 s_.1 s_.2 (S.FewestNeeds_run5 x0 n) (fun d => some d) none
theorem S.FewestNeeds_L5_run (x0 : List Int) (n : Nat) (s_ : Int × Int) (k : X → St → R) : S.FewestNeeds_L5 n { n := 25, t := [(0, (.ro false (.ints .i64 x0))), (3, (.int .i64 s_.1)), (4, (.int .i64 s_.2))], h := [] } k = optC (S.FewestNeeds_run5 x0 n s_) (fun (r : Int) => k (.exit 0) { n := 25, t := [(3, (.int .i64 r))], h := [] }) none := by
  induction n generalizing s_ with
  | zero => rfl
  | succ n ih =>
    have hu : S.FewestNeeds_L5 (n + 1) { n := 25, t := [(0, (.ro false (.ints .i64 x0))), (3, (.int .i64 s_.1)), (4, (.int .i64 s_.2))], h := [] } k = S.FewestNeeds_step5 x0 s_.1 s_.2 (fun s_ => S.FewestNeeds_L5 n { n := 25, t := [(0, (.ro false (.ints .i64 x0))), (3, (.int .i64 s_.1)), (4, (.int .i64 s_.2))], h := [] } k) (fun d => k (.exit 0) { n := 25, t := [(3, (.int .i64 d))], h := [] }) none := by
      kernel_rfl
    have hs : (fun s_ : Int × Int => S.FewestNeeds_L5 n { n := 25, t := [(0, (.ro false (.ints .i64 x0))), (3, (.int .i64 s_.1)), (4, (.int .i64 s_.2))], h := [] } k) = fun s_ => optC (S.FewestNeeds_run5 x0 n s_) (fun (r : Int) => k (.exit 0) { n := 25, t := [(3, (.int .i64 r))], h := [] }) none := funext ih
    rw [hu, hs]
    exact (S.FewestNeeds_step5_nat (fun o => optC o (fun (r : Int) => k (.exit 0) { n := 25, t := [(3, (.int .i64 r))], h := [] }) none) x0 s_.1 s_.2 (S.FewestNeeds_run5 x0 n) (fun d => some d) none).symm
noncomputable def S.FewestNeeds_tree {α : Type} (net : List Int) (leaf0_ : Int → α) (fail_ : α) : α :=
  (optC (S.NetOk_t net) (fun c_1 => (bif !c_1 then (leaf0_ (-1)) else (optC (S.FewestNeeds_run5 net FUEL ((↑net.length : Int), 0)) (fun qy_4 => (leaf0_ qy_4)) fail_))) fail_)
theorem S.FewestNeeds_tree_nat {α γ : Type} (g : α → γ) (net : List Int) (leaf0_ : Int → α) (fail_ : α) : g (S.FewestNeeds_tree net leaf0_ fail_) = S.FewestNeeds_tree net (fun d => g (leaf0_ d)) (g fail_) := by
  unfold S.FewestNeeds_tree; simp only [apply_cnd g, apply_optC g, apply_sumC g]
noncomputable def S.FewestNeeds_t (net : List Int) : Option (Int) := S.FewestNeeds_tree net (fun d => some d) none
theorem S.FewestNeeds_den (net : List Int) (κ : V → List E → R) : S.FewestNeeds_F [.ro false (.ints .i64 net)] [] κ = optC (S.FewestNeeds_t net) (fun (r : Int) => κ (.int .i64 r) []) none := by
  have hu : S.FewestNeeds_F [.ro false (.ints .i64 net)] [] κ = S.FewestNeeds_tree net (fun d => κ (.int .i64 d) []) none := by
    refine Eq.trans (show S.FewestNeeds_F [.ro false (.ints .i64 net)] [] κ = (optC (S.NetOk_t net) (fun c_1 => (bif !c_1 then (κ (.int .i64 (-1)) []) else (S.FewestNeeds_L5 FUEL { n := 25, t := [(0, (.ro false (.ints .i64 net))), (3, (.int .i64 ((↑net.length : Int)))), (4, (.int .i64 0))], h := [] } (S.FewestNeeds_k5 κ)))) none) by kernel_rfl) ?_
    refine optC_congr (fun c_1 => ?_)
    refine cnd_congr ?_ ?_
    · kernel_rfl
    · refine (S.FewestNeeds_L5_run net FUEL ((↑net.length : Int), 0) (S.FewestNeeds_k5 κ)).trans (optC_congr (fun qy_4 => ?_))
      kernel_rfl
  rw [hu]
  exact (S.FewestNeeds_tree_nat (fun o => optC o (fun (r : Int) => κ (.int .i64 r) []) none) net (fun d => some d) none).symm
noncomputable def S.FewestNeeds_s : D.Spec where
  keep := false
  pure := true
  ds := [.int .i64]
  sp := fun args h κ => match args, h with
    | [.ro false (.ints .i64 net)], [] => optC (S.FewestNeeds_t net) (fun (r : Int) => κ (.int .i64 r) []) none
    | _, _ => none
theorem S.FewestNeeds_ok : SpecOk Try.prog 40 S.FewestNeeds_s := by
  refine SpecOk.of TDok mixed (T := S.FewestNeeds_T) ?_ (ann := S.FewestNeeds_ann) Try.func40 rfl (by decide +kernel) ?_ ?_ ?_
  · intro p hp
    simp only [S.FewestNeeds_T, List.mem_cons, List.not_mem_nil, or_false] at hp
    rcases hp with rfl | rfl | rfl
    · exact S.NetOk_ok
    · exact S.l3Full_ok
    · exact S.l1Size_ok
  · intro args h κ r hh
    simp only [S.FewestNeeds_s] at hh
    split at hh
    · exact (S.FewestNeeds_den _ κ).trans hh
    · cases hh
  · intro args h κ r hh
    simp only [S.FewestNeeds_s] at hh ⊢
    split at hh
    · exact optC_law2 (F := fun (r : Int) κ => κ (.int .i64 r) []) (fun b κ r hb => ⟨_, _, hb, fun _ => rfl⟩) hh
    · cases hh
  · intro _ args h κ r hh
    simp only [S.FewestNeeds_s] at hh
    split at hh
    · exact ⟨rfl, fun _ => rfl⟩
    · cases hh

-- loop.example/guardsonnets/laws.FnFewestNeeds
noncomputable def L.FnFewestNeeds_T : List (Nat × D.Spec) := [(38, S.DrawFewestNeeds_s), (39, I.FewestNeeds_s), (40, S.FewestNeeds_s), (22, I.NetOk_s), (23, L.alive_s), (24, I.FewestWatch_s)]
def L.FnFewestNeeds_ann : Nat → List Nat × List Nat
  | _ => ([], [])
noncomputable def L.FnFewestNeeds_F (args : List V) (h : List E) (κ : V → List E → R) : R := funC TD (tableK L.FnFewestNeeds_T) L.FnFewestNeeds_ann (drawOk (tableP L.FnFewestNeeds_T)) FUEL Try.f9 args h κ
noncomputable def L.FnFewestNeeds_tree {α : Type} (code : List Int) (leaf0_ : Bool → α) (fail_ : α) : α :=
  (bif decide ((↑code.length : Int) > 1048576) then (leaf0_ true) else (optC (S.DrawFewestNeeds_t code) (fun c_1 => (optC (I.FewestNeeds_t c_1) (fun c_2 => (optC (S.FewestNeeds_t c_1) (fun c_3 => (bif !c_2 == c_3 then (leaf0_ false) else (bif decide (c_2 < 0) then (bif c_2 == -1 then (optC (I.NetOk_t c_1) (fun c_4 => (bif !c_4 then (optC (L.alive_t) (fun c_5 => (leaf0_ c_5)) fail_) else (leaf0_ false))) fail_) else (leaf0_ false)) else (optC (I.FewestWatch_t c_1) (fun c_6 => (bif decide (c_2 ≥ 1) then (bif decide (c_2 ≤ c_6) then (leaf0_ (decide (c_6 < IntKind.i64.wrap (2 * c_2)))) else (leaf0_ false)) else (leaf0_ false))) fail_)))) fail_)) fail_)) fail_))
theorem L.FnFewestNeeds_tree_nat {α γ : Type} (g : α → γ) (code : List Int) (leaf0_ : Bool → α) (fail_ : α) : g (L.FnFewestNeeds_tree code leaf0_ fail_) = L.FnFewestNeeds_tree code (fun d => g (leaf0_ d)) (g fail_) := by
  unfold L.FnFewestNeeds_tree; simp only [apply_cnd g, apply_optC g, apply_sumC g]
noncomputable def L.FnFewestNeeds_t (code : List Int) : Option (Bool) := L.FnFewestNeeds_tree code (fun d => some d) none
theorem L.FnFewestNeeds_den (code : List Int) (κ : V → List E → R) : L.FnFewestNeeds_F [.ro true (.ints .u8 code)] [] κ = optC (L.FnFewestNeeds_t code) (fun (r : Bool) => κ (.bool r) []) none := by
  have hu : L.FnFewestNeeds_F [.ro true (.ints .u8 code)] [] κ = L.FnFewestNeeds_tree code (fun d => κ (.bool d) []) none := by
    kernel_rfl
  rw [hu]
  exact (L.FnFewestNeeds_tree_nat (fun o => optC o (fun (r : Bool) => κ (.bool r) []) none) code (fun d => some d) none).symm
noncomputable def L.FnFewestNeeds_s : D.Spec where
  keep := true
  pure := true
  ds := [.int .u8]
  sp := fun args h κ => match args, h with
    | [.ro true (.ints .u8 code)], [] => optC (L.FnFewestNeeds_t code) (fun (r : Bool) => κ (.bool r) []) none
    | _, _ => none
theorem L.FnFewestNeeds_ok : SpecOk Try.prog 9 L.FnFewestNeeds_s := by
  refine SpecOk.of TDok mixed (T := L.FnFewestNeeds_T) ?_ (ann := L.FnFewestNeeds_ann) Try.func9 rfl (by decide +kernel) ?_ ?_ ?_
  · intro p hp
    simp only [L.FnFewestNeeds_T, List.mem_cons, List.not_mem_nil, or_false] at hp
    rcases hp with rfl | rfl | rfl | rfl | rfl | rfl
    · exact S.DrawFewestNeeds_ok
    · exact I.FewestNeeds_ok
    · exact S.FewestNeeds_ok
    · exact I.NetOk_ok
    · exact L.alive_ok
    · exact I.FewestWatch_ok
  · intro args h κ r hh
    simp only [L.FnFewestNeeds_s] at hh
    split at hh
    · exact (L.FnFewestNeeds_den _ κ).trans hh
    · cases hh
  · intro args h κ r hh
    simp only [L.FnFewestNeeds_s] at hh ⊢
    split at hh
    · exact optC_law2 (F := fun (r : Bool) κ => κ (.bool r) []) (fun b κ r hb => ⟨_, _, hb, fun _ => rfl⟩) hh
    · cases hh
  · intro _ args h κ r hh
    simp only [L.FnFewestNeeds_s] at hh
    split at hh
    · exact ⟨rfl, fun _ => rfl⟩
    · cases hh

-- loop.example/guardsonnets/laws.FnExactFewestNeeds
noncomputable def L.FnExactFewestNeeds_T : List (Nat × D.Spec) := [(26, L.toIntS_s), (40, S.FewestNeeds_s), (39, I.FewestNeeds_s), (27, L.eqIntS_s)]
def L.FnExactFewestNeeds_ann : Nat → List Nat × List Nat
  | _ => ([], [])
noncomputable def L.FnExactFewestNeeds_F (args : List V) (h : List E) (κ : V → List E → R) : R := funC TD (tableK L.FnExactFewestNeeds_T) L.FnExactFewestNeeds_ann (drawOk (tableP L.FnExactFewestNeeds_T)) FUEL Try.f10 args h κ
noncomputable def L.FnExactFewestNeeds_tree {α : Type} (aNet : List Int) (leaf0_ : Bool → α) (fail_ : α) : α :=
  (bif decide ((↑aNet.length : Int) > 1048576) then (leaf0_ true) else (optC (L.toIntS_t aNet) (fun c_1 => (optC (S.FewestNeeds_t c_1) (fun c_2 => (optC (L.toIntS_t aNet) (fun c_3 => (optC (I.FewestNeeds_t c_3) (fun c_4 => (bif !c_4 == c_2 then (leaf0_ false) else (optC (L.toIntS_t aNet) (fun c_5 => (optC (L.eqIntS_t c_3 c_5) (fun c_6 => (bif !c_6 then (leaf0_ false) else (leaf0_ true))) fail_)) fail_))) fail_)) fail_)) fail_)) fail_))
theorem L.FnExactFewestNeeds_tree_nat {α γ : Type} (g : α → γ) (aNet : List Int) (leaf0_ : Bool → α) (fail_ : α) : g (L.FnExactFewestNeeds_tree aNet leaf0_ fail_) = L.FnExactFewestNeeds_tree aNet (fun d => g (leaf0_ d)) (g fail_) := by
  unfold L.FnExactFewestNeeds_tree; simp only [apply_cnd g, apply_optC g, apply_sumC g]
noncomputable def L.FnExactFewestNeeds_t (aNet : List Int) : Option (Bool) := L.FnExactFewestNeeds_tree aNet (fun d => some d) none
theorem L.FnExactFewestNeeds_den (aNet : List Int) (κ : V → List E → R) : L.FnExactFewestNeeds_F [.ro true (.ints .i64 aNet)] [] κ = optC (L.FnExactFewestNeeds_t aNet) (fun (r : Bool) => κ (.bool r) []) none := by
  have hu : L.FnExactFewestNeeds_F [.ro true (.ints .i64 aNet)] [] κ = L.FnExactFewestNeeds_tree aNet (fun d => κ (.bool d) []) none := by
    kernel_rfl
  rw [hu]
  exact (L.FnExactFewestNeeds_tree_nat (fun o => optC o (fun (r : Bool) => κ (.bool r) []) none) aNet (fun d => some d) none).symm
noncomputable def L.FnExactFewestNeeds_s : D.Spec where
  keep := true
  pure := true
  ds := [.int .i64]
  sp := fun args h κ => match args, h with
    | [.ro true (.ints .i64 aNet)], [] => optC (L.FnExactFewestNeeds_t aNet) (fun (r : Bool) => κ (.bool r) []) none
    | _, _ => none
theorem L.FnExactFewestNeeds_ok : SpecOk Try.prog 10 L.FnExactFewestNeeds_s := by
  refine SpecOk.of TDok mixed (T := L.FnExactFewestNeeds_T) ?_ (ann := L.FnExactFewestNeeds_ann) Try.func10 rfl (by decide +kernel) ?_ ?_ ?_
  · intro p hp
    simp only [L.FnExactFewestNeeds_T, List.mem_cons, List.not_mem_nil, or_false] at hp
    rcases hp with rfl | rfl | rfl | rfl
    · exact L.toIntS_ok
    · exact S.FewestNeeds_ok
    · exact I.FewestNeeds_ok
    · exact L.eqIntS_ok
  · intro args h κ r hh
    simp only [L.FnExactFewestNeeds_s] at hh
    split at hh
    · exact (L.FnExactFewestNeeds_den _ κ).trans hh
    · cases hh
  · intro args h κ r hh
    simp only [L.FnExactFewestNeeds_s] at hh ⊢
    split at hh
    · exact optC_law2 (F := fun (r : Bool) κ => κ (.bool r) []) (fun b κ r hb => ⟨_, _, hb, fun _ => rfl⟩) hh
    · cases hh
  · intro _ args h κ r hh
    simp only [L.FnExactFewestNeeds_s] at hh
    split at hh
    · exact ⟨rfl, fun _ => rfl⟩
    · cases hh

-- loop.example/guardsonnets/spec.DrawMostNeeds
noncomputable def S.DrawMostNeeds_T : List (Nat × D.Spec) := [(60, S.l20Open_s), (59, S.l20Net_s)]
def S.DrawMostNeeds_ann : Nat → List Nat × List Nat
  | _ => ([], [])
noncomputable def S.DrawMostNeeds_F (args : List V) (h : List E) (κ : V → List E → R) : R := funC TD (tableK S.DrawMostNeeds_T) S.DrawMostNeeds_ann (drawOk (tableP S.DrawMostNeeds_T)) FUEL Try.f41 args h κ
noncomputable def S.DrawMostNeeds_tree {α : Type} (code : List Int) (leaf0_ : List Int → α) (fail_ : α) : α :=
  (optC (S.l20Open_t code) (fun c_1 => (optC (S.l20Net_t c_1.fst c_1.snd 9) (fun c_2 => (leaf0_ c_2.snd.snd)) fail_)) fail_)
theorem S.DrawMostNeeds_tree_nat {α γ : Type} (g : α → γ) (code : List Int) (leaf0_ : List Int → α) (fail_ : α) : g (S.DrawMostNeeds_tree code leaf0_ fail_) = S.DrawMostNeeds_tree code (fun d => g (leaf0_ d)) (g fail_) := by
  unfold S.DrawMostNeeds_tree; simp only [apply_cnd g, apply_optC g, apply_sumC g]
noncomputable def S.DrawMostNeeds_t (code : List Int) : Option (List Int) := S.DrawMostNeeds_tree code (fun d => some d) none
theorem S.DrawMostNeeds_den (code : List Int) (κ : V → List E → R) : S.DrawMostNeeds_F [.ro true (.ints .u8 code)] [] κ = optC (S.DrawMostNeeds_t code) (fun (r : List Int) => κ (.own 0) [.row (.ints .i64 r)]) none := by
  have hu : S.DrawMostNeeds_F [.ro true (.ints .u8 code)] [] κ = S.DrawMostNeeds_tree code (fun d => κ (.own 0) [.row (.ints .i64 d)]) none := by
    kernel_rfl
  rw [hu]
  exact (S.DrawMostNeeds_tree_nat (fun o => optC o (fun (r : List Int) => κ (.own 0) [.row (.ints .i64 r)]) none) code (fun d => some d) none).symm
noncomputable def S.DrawMostNeeds_s : D.Spec where
  keep := true
  pure := false
  ds := [.int .u8]
  sp := fun args h κ => match args, h with
    | [.ro true (.ints .u8 code)], [] => optC (S.DrawMostNeeds_t code) (fun (r : List Int) => κ (.own 0) [.row (.ints .i64 r)]) none
    | _, _ => none
theorem S.DrawMostNeeds_ok : SpecOk Try.prog 41 S.DrawMostNeeds_s := by
  refine SpecOk.of TDok mixed (T := S.DrawMostNeeds_T) ?_ (ann := S.DrawMostNeeds_ann) Try.func41 rfl (by decide +kernel) ?_ ?_ ?_
  · intro p hp
    simp only [S.DrawMostNeeds_T, List.mem_cons, List.not_mem_nil, or_false] at hp
    rcases hp with rfl | rfl
    · exact S.l20Open_ok
    · exact S.l20Net_ok
  · intro args h κ r hh
    simp only [S.DrawMostNeeds_s] at hh
    split at hh
    · exact (S.DrawMostNeeds_den _ κ).trans hh
    · cases hh
  · intro args h κ r hh
    simp only [S.DrawMostNeeds_s] at hh ⊢
    split at hh
    · exact optC_law2 (F := fun (r : List Int) κ => κ (.own 0) [.row (.ints .i64 r)]) (fun b κ r hb => ⟨_, _, hb, fun _ => rfl⟩) hh
    · cases hh
  · intro hh; cases hh

-- loop.example/guardsonnets/impl.MostNeeds
noncomputable def I.MostNeeds_T : List (Nat × D.Spec) := [(22, I.NetOk_s), (73, I.chainIn_s)]
def I.MostNeeds_ann : Nat → List Nat × List Nat
  | _ => ([], [])
noncomputable def I.MostNeeds_F (args : List V) (h : List E) (κ : V → List E → R) : R := funC TD (tableK I.MostNeeds_T) I.MostNeeds_ann (drawOk (tableP I.MostNeeds_T)) FUEL Try.f42 args h κ
noncomputable def I.MostNeeds_tree {α : Type} (net : List Int) (leaf0_ : Int → α) (fail_ : α) : α :=
  (optC (I.NetOk_t net) (fun c_1 => (bif !c_1 then (leaf0_ (-1)) else (optC (I.chainIn_t net) (fun c_2 => (leaf0_ c_2.snd.snd.snd.snd.snd)) fail_))) fail_)
theorem I.MostNeeds_tree_nat {α γ : Type} (g : α → γ) (net : List Int) (leaf0_ : Int → α) (fail_ : α) : g (I.MostNeeds_tree net leaf0_ fail_) = I.MostNeeds_tree net (fun d => g (leaf0_ d)) (g fail_) := by
  unfold I.MostNeeds_tree; simp only [apply_cnd g, apply_optC g, apply_sumC g]
noncomputable def I.MostNeeds_t (net : List Int) : Option (Int) := I.MostNeeds_tree net (fun d => some d) none
theorem I.MostNeeds_den (net : List Int) (κ : V → List E → R) : I.MostNeeds_F [.ro false (.ints .i64 net)] [] κ = optC (I.MostNeeds_t net) (fun (r : Int) => κ (.int .i64 r) []) none := by
  have hu : I.MostNeeds_F [.ro false (.ints .i64 net)] [] κ = I.MostNeeds_tree net (fun d => κ (.int .i64 d) []) none := by
    kernel_rfl
  rw [hu]
  exact (I.MostNeeds_tree_nat (fun o => optC o (fun (r : Int) => κ (.int .i64 r) []) none) net (fun d => some d) none).symm
noncomputable def I.MostNeeds_s : D.Spec where
  keep := false
  pure := true
  ds := [.int .i64]
  sp := fun args h κ => match args, h with
    | [.ro false (.ints .i64 net)], [] => optC (I.MostNeeds_t net) (fun (r : Int) => κ (.int .i64 r) []) none
    | _, _ => none
theorem I.MostNeeds_ok : SpecOk Try.prog 42 I.MostNeeds_s := by
  refine SpecOk.of TDok mixed (T := I.MostNeeds_T) ?_ (ann := I.MostNeeds_ann) Try.func42 rfl (by decide +kernel) ?_ ?_ ?_
  · intro p hp
    simp only [I.MostNeeds_T, List.mem_cons, List.not_mem_nil, or_false] at hp
    rcases hp with rfl | rfl
    · exact I.NetOk_ok
    · exact I.chainIn_ok
  · intro args h κ r hh
    simp only [I.MostNeeds_s] at hh
    split at hh
    · exact (I.MostNeeds_den _ κ).trans hh
    · cases hh
  · intro args h κ r hh
    simp only [I.MostNeeds_s] at hh ⊢
    split at hh
    · exact optC_law2 (F := fun (r : Int) κ => κ (.int .i64 r) []) (fun b κ r hb => ⟨_, _, hb, fun _ => rfl⟩) hh
    · cases hh
  · intro _ args h κ r hh
    simp only [I.MostNeeds_s] at hh
    split at hh
    · exact ⟨rfl, fun _ => rfl⟩
    · cases hh

-- loop.example/guardsonnets/spec.MostNeeds
noncomputable def S.MostNeeds_T : List (Nat × D.Spec) := [(58, S.NetOk_s), (75, S.l3Needs_s), (65, S.l1Size_s)]
def S.MostNeeds_ann : Nat → List Nat × List Nat
  | 5 => ([0, 3, 4], [3])
  | _ => ([], [])
noncomputable def S.MostNeeds_F (args : List V) (h : List E) (κ : V → List E → R) : R := funC TD (tableK S.MostNeeds_T) S.MostNeeds_ann (drawOk (tableP S.MostNeeds_T)) FUEL Try.f43 args h κ
noncomputable def S.MostNeeds_L5 (n : Nat) (σ : St) (k : X → St → R) : R := iterC 0 (fun σ k => denC TD (tableK S.MostNeeds_T) S.MostNeeds_ann (drawOk (tableP S.MostNeeds_T)) 0 FUEL ((findLoop 5 (Try.f43.body.getD .skip)).getD .skip) σ k) [0, 3, 4] [3] n σ k
noncomputable def S.MostNeeds_k5 (κ : V → List E → R) : X → St → R := (afterC TD (tableK S.MostNeeds_T) S.MostNeeds_ann (drawOk (tableP S.MostNeeds_T)) 0 FUEL 5 (Try.f43.body.getD .skip) (finC TD 0 Try.f43 κ)).getD (fun _ _ => none)
noncomputable def S.MostNeeds_step5 {α : Type} (x0 : List Int) (x3 : Int) (x4 : Int) (next_ : Int × Int → α) (out0_ : Int → α) (fail_ : α) : α :=
  (bif decide (x4 < IntKind.i64.wrap (1 * 2 ^ min (↑x0.length : Int).toNat IntKind.i64.bits)) then (optC (S.l3Needs_t x0 x4) (fun c_2 => (bif c_2 then (optC (S.l1Size_t x4) (fun c_3 => (next_ (if c_3 > x3 then c_3 else x3, IntKind.i64.wrap (x4 + 1)))) fail_) else (next_ (x3, IntKind.i64.wrap (x4 + 1))))) fail_) else (out0_ x3))
theorem S.MostNeeds_step5_nat {α γ : Type} (g : α → γ) (x0 : List Int) (x3 : Int) (x4 : Int) (next_ : Int × Int → α) (out0_ : Int → α) (fail_ : α) : g (S.MostNeeds_step5 x0 x3 x4 next_ out0_ fail_) = S.MostNeeds_step5 x0 x3 x4 (fun s => g (next_ s)) (fun d => g (out0_ d)) (g fail_) := by
  unfold S.MostNeeds_step5; simp only [apply_cnd g, apply_optC g, apply_sumC g]
noncomputable def S.MostNeeds_run5 (x0 : List Int) : Nat → Int × Int → Option (Int)
  | 0, _ => none
  | n + 1, s_ => S.MostNeeds_step5 x0 s_.1 s_.2 (S.MostNeeds_run5 x0 n) (fun d => some d) none
theorem S.MostNeeds_L5_run (x0 : List Int) (n : Nat) (s_ : Int × Int) (k : X → St → R) : S.MostNeeds_L5 n { n := 23, t := [(0, (.ro false (.ints .i64 x0))), (3, (.int .i64 s_.1)), (4, (.int .i64 s_.2))], h := [] } k = optC (S.MostNeeds_run5 x0 n s_) (fun (r : Int) => k (.exit 0) { n := 23, t := [(3, (.int .i64 r))], h := [] }) none := by
  induction n generalizing s_ with
  | zero => rfl
  | succ n ih =>
    have hu : S.MostNeeds_L5 (n + 1) { n := 23, t := [(0, (.ro false (.ints .i64 x0))), (3, (.int .i64 s_.1)), (4, (.int .i64 s_.2))], h := [] } k = S.MostNeeds_step5 x0 s_.1 s_.2 (fun s_ => S.MostNeeds_L5 n { n := 23, t := [(0, (.ro false (.ints .i64 x0))), (3, (.int .i64 s_.1)), (4, (.int .i64 s_.2))], h := [] } k) (fun d => k (.exit 0) { n := 23, t := [(3, (.int .i64 d))], h := [] }) none := by
      kernel_rfl
    have hs : (fun s_ : Int × Int => S.MostNeeds_L5 n { n := 23, t := [(0, (.ro false (.ints .i64 x0))), (3, (.int .i64 s_.1)), (4, (.int .i64 s_.2))], h := [] } k) = fun s_ => optC (S.MostNeeds_run5 x0 n s_) (fun (r : Int) => k (.exit 0) { n := 23, t := [(3, (.int .i64 r))], h := [] }) none := funext ih
    rw [hu, hs]
    exact (S.MostNeeds_step5_nat (fun o => optC o (fun (r : Int) => k (.exit 0) { n := 23, t := [(3, (.int .i64 r))], h := [] }) none) x0 s_.1 s_.2 (S.MostNeeds_run5 x0 n) (fun d => some d) none).symm
noncomputable def S.MostNeeds_tree {α : Type} (net : List Int) (leaf0_ : Int → α) (fail_ : α) : α :=
  (optC (S.NetOk_t net) (fun c_1 => (bif !c_1 then (leaf0_ (-1)) else (optC (S.MostNeeds_run5 net FUEL (0, 0)) (fun qy_4 => (leaf0_ qy_4)) fail_))) fail_)
theorem S.MostNeeds_tree_nat {α γ : Type} (g : α → γ) (net : List Int) (leaf0_ : Int → α) (fail_ : α) : g (S.MostNeeds_tree net leaf0_ fail_) = S.MostNeeds_tree net (fun d => g (leaf0_ d)) (g fail_) := by
  unfold S.MostNeeds_tree; simp only [apply_cnd g, apply_optC g, apply_sumC g]
noncomputable def S.MostNeeds_t (net : List Int) : Option (Int) := S.MostNeeds_tree net (fun d => some d) none
theorem S.MostNeeds_den (net : List Int) (κ : V → List E → R) : S.MostNeeds_F [.ro false (.ints .i64 net)] [] κ = optC (S.MostNeeds_t net) (fun (r : Int) => κ (.int .i64 r) []) none := by
  have hu : S.MostNeeds_F [.ro false (.ints .i64 net)] [] κ = S.MostNeeds_tree net (fun d => κ (.int .i64 d) []) none := by
    refine Eq.trans (show S.MostNeeds_F [.ro false (.ints .i64 net)] [] κ = (optC (S.NetOk_t net) (fun c_1 => (bif !c_1 then (κ (.int .i64 (-1)) []) else (S.MostNeeds_L5 FUEL { n := 23, t := [(0, (.ro false (.ints .i64 net))), (3, (.int .i64 0)), (4, (.int .i64 0))], h := [] } (S.MostNeeds_k5 κ)))) none) by kernel_rfl) ?_
    refine optC_congr (fun c_1 => ?_)
    refine cnd_congr ?_ ?_
    · kernel_rfl
    · refine (S.MostNeeds_L5_run net FUEL (0, 0) (S.MostNeeds_k5 κ)).trans (optC_congr (fun qy_4 => ?_))
      kernel_rfl
  rw [hu]
  exact (S.MostNeeds_tree_nat (fun o => optC o (fun (r : Int) => κ (.int .i64 r) []) none) net (fun d => some d) none).symm
noncomputable def S.MostNeeds_s : D.Spec where
  keep := false
  pure := true
  ds := [.int .i64]
  sp := fun args h κ => match args, h with
    | [.ro false (.ints .i64 net)], [] => optC (S.MostNeeds_t net) (fun (r : Int) => κ (.int .i64 r) []) none
    | _, _ => none
theorem S.MostNeeds_ok : SpecOk Try.prog 43 S.MostNeeds_s := by
  refine SpecOk.of TDok mixed (T := S.MostNeeds_T) ?_ (ann := S.MostNeeds_ann) Try.func43 rfl (by decide +kernel) ?_ ?_ ?_
  · intro p hp
    simp only [S.MostNeeds_T, List.mem_cons, List.not_mem_nil, or_false] at hp
    rcases hp with rfl | rfl | rfl
    · exact S.NetOk_ok
    · exact S.l3Needs_ok
    · exact S.l1Size_ok
  · intro args h κ r hh
    simp only [S.MostNeeds_s] at hh
    split at hh
    · exact (S.MostNeeds_den _ κ).trans hh
    · cases hh
  · intro args h κ r hh
    simp only [S.MostNeeds_s] at hh ⊢
    split at hh
    · exact optC_law2 (F := fun (r : Int) κ => κ (.int .i64 r) []) (fun b κ r hb => ⟨_, _, hb, fun _ => rfl⟩) hh
    · cases hh
  · intro _ args h κ r hh
    simp only [S.MostNeeds_s] at hh
    split at hh
    · exact ⟨rfl, fun _ => rfl⟩
    · cases hh

-- loop.example/guardsonnets/impl.placeIn
noncomputable def I.placeIn_T : List (Nat × D.Spec) := []
def I.placeIn_ann : Nat → List Nat × List Nat
  | _ => ([], [])
noncomputable def I.placeIn_F (args : List V) (h : List E) (κ : V → List E → R) : R := funC TD (tableK I.placeIn_T) I.placeIn_ann (drawOk (tableP I.placeIn_T)) FUEL Try.f76 args h κ
noncomputable def I.placeIn_tree {α : Type} (net : List Int) (place : Int) (leaf0_ : Bool → α) (fail_ : α) : α :=
  (bif decide (place ≥ 0) then (leaf0_ (decide (place < (↑net.length : Int)))) else (leaf0_ false))
theorem I.placeIn_tree_nat {α γ : Type} (g : α → γ) (net : List Int) (place : Int) (leaf0_ : Bool → α) (fail_ : α) : g (I.placeIn_tree net place leaf0_ fail_) = I.placeIn_tree net place (fun d => g (leaf0_ d)) (g fail_) := by
  unfold I.placeIn_tree; simp only [apply_cnd g, apply_optC g, apply_sumC g]
noncomputable def I.placeIn_t (net : List Int) (place : Int) : Option (Bool) := I.placeIn_tree net place (fun d => some d) none
theorem I.placeIn_den (net : List Int) (place : Int) (κ : V → List E → R) : I.placeIn_F [.ro false (.ints .i64 net), .int .i64 place] [] κ = optC (I.placeIn_t net place) (fun (r : Bool) => κ (.bool r) []) none := by
  have hu : I.placeIn_F [.ro false (.ints .i64 net), .int .i64 place] [] κ = I.placeIn_tree net place (fun d => κ (.bool d) []) none := by
    kernel_rfl
  rw [hu]
  exact (I.placeIn_tree_nat (fun o => optC o (fun (r : Bool) => κ (.bool r) []) none) net place (fun d => some d) none).symm
noncomputable def I.placeIn_s : D.Spec where
  keep := false
  pure := true
  ds := [.int .i64, .invalid]
  sp := fun args h κ => match args, h with
    | [.ro false (.ints .i64 net), .int .i64 place], [] => optC (I.placeIn_t net place) (fun (r : Bool) => κ (.bool r) []) none
    | _, _ => none
theorem I.placeIn_ok : SpecOk Try.prog 76 I.placeIn_s := by
  refine SpecOk.of TDok mixed (T := I.placeIn_T) ?_ (ann := I.placeIn_ann) Try.func76 rfl (by decide +kernel) ?_ ?_ ?_
  · intro p hp; cases hp
  · intro args h κ r hh
    simp only [I.placeIn_s] at hh
    split at hh
    · exact (I.placeIn_den _ _ κ).trans hh
    · cases hh
  · intro args h κ r hh
    simp only [I.placeIn_s] at hh ⊢
    split at hh
    · exact optC_law2 (F := fun (r : Bool) κ => κ (.bool r) []) (fun b κ r hb => ⟨_, _, hb, fun _ => rfl⟩) hh
    · cases hh
  · intro _ args h κ r hh
    simp only [I.placeIn_s] at hh
    split at hh
    · exact ⟨rfl, fun _ => rfl⟩
    · cases hh

-- loop.example/guardsonnets/impl.BallOf
noncomputable def I.BallOf_T : List (Nat × D.Spec) := [(22, I.NetOk_s), (76, I.placeIn_s), (77, I.ballIn_s)]
def I.BallOf_ann : Nat → List Nat × List Nat
  | _ => ([], [])
noncomputable def I.BallOf_F (args : List V) (h : List E) (κ : V → List E → R) : R := funC TD (tableK I.BallOf_T) I.BallOf_ann (drawOk (tableP I.BallOf_T)) FUEL Try.f44 args h κ
noncomputable def I.BallOf_tree {α : Type} (net : List Int) (place : Int) (leaf0_ : Int → α) (fail_ : α) : α :=
  (optC (I.NetOk_t net) (fun c_1 => (bif !c_1 then (leaf0_ (-1)) else (optC (I.placeIn_t net place) (fun c_2 => (bif !c_2 then (leaf0_ (-1)) else (optC (I.ballIn_t net place) (fun c_3 => (leaf0_ c_3)) fail_))) fail_))) fail_)
theorem I.BallOf_tree_nat {α γ : Type} (g : α → γ) (net : List Int) (place : Int) (leaf0_ : Int → α) (fail_ : α) : g (I.BallOf_tree net place leaf0_ fail_) = I.BallOf_tree net place (fun d => g (leaf0_ d)) (g fail_) := by
  unfold I.BallOf_tree; simp only [apply_cnd g, apply_optC g, apply_sumC g]
noncomputable def I.BallOf_t (net : List Int) (place : Int) : Option (Int) := I.BallOf_tree net place (fun d => some d) none
theorem I.BallOf_den (net : List Int) (place : Int) (κ : V → List E → R) : I.BallOf_F [.ro false (.ints .i64 net), .int .i64 place] [] κ = optC (I.BallOf_t net place) (fun (r : Int) => κ (.int .i64 r) []) none := by
  have hu : I.BallOf_F [.ro false (.ints .i64 net), .int .i64 place] [] κ = I.BallOf_tree net place (fun d => κ (.int .i64 d) []) none := by
    kernel_rfl
  rw [hu]
  exact (I.BallOf_tree_nat (fun o => optC o (fun (r : Int) => κ (.int .i64 r) []) none) net place (fun d => some d) none).symm
noncomputable def I.BallOf_s : D.Spec where
  keep := false
  pure := true
  ds := [.int .i64, .invalid]
  sp := fun args h κ => match args, h with
    | [.ro false (.ints .i64 net), .int .i64 place], [] => optC (I.BallOf_t net place) (fun (r : Int) => κ (.int .i64 r) []) none
    | _, _ => none
theorem I.BallOf_ok : SpecOk Try.prog 44 I.BallOf_s := by
  refine SpecOk.of TDok mixed (T := I.BallOf_T) ?_ (ann := I.BallOf_ann) Try.func44 rfl (by decide +kernel) ?_ ?_ ?_
  · intro p hp
    simp only [I.BallOf_T, List.mem_cons, List.not_mem_nil, or_false] at hp
    rcases hp with rfl | rfl | rfl
    · exact I.NetOk_ok
    · exact I.placeIn_ok
    · exact I.ballIn_ok
  · intro args h κ r hh
    simp only [I.BallOf_s] at hh
    split at hh
    · exact (I.BallOf_den _ _ κ).trans hh
    · cases hh
  · intro args h κ r hh
    simp only [I.BallOf_s] at hh ⊢
    split at hh
    · exact optC_law2 (F := fun (r : Int) κ => κ (.int .i64 r) []) (fun b κ r hb => ⟨_, _, hb, fun _ => rfl⟩) hh
    · cases hh
  · intro _ args h κ r hh
    simp only [I.BallOf_s] at hh
    split at hh
    · exact ⟨rfl, fun _ => rfl⟩
    · cases hh

-- loop.example/guardsonnets/impl.MostLeast
noncomputable def I.MostLeast_T : List (Nat × D.Spec) := [(22, I.NetOk_s), (73, I.chainIn_s)]
def I.MostLeast_ann : Nat → List Nat × List Nat
  | _ => ([], [])
noncomputable def I.MostLeast_F (args : List V) (h : List E) (κ : V → List E → R) : R := funC TD (tableK I.MostLeast_T) I.MostLeast_ann (drawOk (tableP I.MostLeast_T)) FUEL Try.f45 args h κ
noncomputable def I.MostLeast_tree {α : Type} (net : List Int) (leaf0_ : Int → α) (fail_ : α) : α :=
  (optC (I.NetOk_t net) (fun c_1 => (bif !c_1 then (leaf0_ (-1)) else (optC (I.chainIn_t net) (fun c_2 => (leaf0_ c_2.snd.snd.snd.snd.fst)) fail_))) fail_)
theorem I.MostLeast_tree_nat {α γ : Type} (g : α → γ) (net : List Int) (leaf0_ : Int → α) (fail_ : α) : g (I.MostLeast_tree net leaf0_ fail_) = I.MostLeast_tree net (fun d => g (leaf0_ d)) (g fail_) := by
  unfold I.MostLeast_tree; simp only [apply_cnd g, apply_optC g, apply_sumC g]
noncomputable def I.MostLeast_t (net : List Int) : Option (Int) := I.MostLeast_tree net (fun d => some d) none
theorem I.MostLeast_den (net : List Int) (κ : V → List E → R) : I.MostLeast_F [.ro false (.ints .i64 net)] [] κ = optC (I.MostLeast_t net) (fun (r : Int) => κ (.int .i64 r) []) none := by
  have hu : I.MostLeast_F [.ro false (.ints .i64 net)] [] κ = I.MostLeast_tree net (fun d => κ (.int .i64 d) []) none := by
    kernel_rfl
  rw [hu]
  exact (I.MostLeast_tree_nat (fun o => optC o (fun (r : Int) => κ (.int .i64 r) []) none) net (fun d => some d) none).symm
noncomputable def I.MostLeast_s : D.Spec where
  keep := false
  pure := true
  ds := [.int .i64]
  sp := fun args h κ => match args, h with
    | [.ro false (.ints .i64 net)], [] => optC (I.MostLeast_t net) (fun (r : Int) => κ (.int .i64 r) []) none
    | _, _ => none
theorem I.MostLeast_ok : SpecOk Try.prog 45 I.MostLeast_s := by
  refine SpecOk.of TDok mixed (T := I.MostLeast_T) ?_ (ann := I.MostLeast_ann) Try.func45 rfl (by decide +kernel) ?_ ?_ ?_
  · intro p hp
    simp only [I.MostLeast_T, List.mem_cons, List.not_mem_nil, or_false] at hp
    rcases hp with rfl | rfl
    · exact I.NetOk_ok
    · exact I.chainIn_ok
  · intro args h κ r hh
    simp only [I.MostLeast_s] at hh
    split at hh
    · exact (I.MostLeast_den _ κ).trans hh
    · cases hh
  · intro args h κ r hh
    simp only [I.MostLeast_s] at hh ⊢
    split at hh
    · exact optC_law2 (F := fun (r : Int) κ => κ (.int .i64 r) []) (fun b κ r hb => ⟨_, _, hb, fun _ => rfl⟩) hh
    · cases hh
  · intro _ args h κ r hh
    simp only [I.MostLeast_s] at hh
    split at hh
    · exact ⟨rfl, fun _ => rfl⟩
    · cases hh

-- loop.example/guardsonnets/laws.FnMostNeeds
noncomputable def L.FnMostNeeds_T : List (Nat × D.Spec) := [(41, S.DrawMostNeeds_s), (42, I.MostNeeds_s), (43, S.MostNeeds_s), (22, I.NetOk_s), (23, L.alive_s), (44, I.BallOf_s), (30, L.sizeOf_s), (45, I.MostLeast_s), (34, I.WiresOf_s)]
def L.FnMostNeeds_ann : Nat → List Nat × List Nat
  | 11 => ([3, 4, 5, 6], [3, 4, 5])
  | _ => ([], [])
noncomputable def L.FnMostNeeds_F (args : List V) (h : List E) (κ : V → List E → R) : R := funC TD (tableK L.FnMostNeeds_T) L.FnMostNeeds_ann (drawOk (tableP L.FnMostNeeds_T)) FUEL Try.f11 args h κ
noncomputable def L.FnMostNeeds_L11 (n : Nat) (σ : St) (k : X → St → R) : R := iterC 0 (fun σ k => denC TD (tableK L.FnMostNeeds_T) L.FnMostNeeds_ann (drawOk (tableP L.FnMostNeeds_T)) 0 FUEL ((findLoop 11 (Try.f11.body.getD .skip)).getD .skip) σ k) [3, 4, 5, 6] [3, 4, 5] n σ k
noncomputable def L.FnMostNeeds_k11 (κ : V → List E → R) : X → St → R := (afterC TD (tableK L.FnMostNeeds_T) L.FnMostNeeds_ann (drawOk (tableP L.FnMostNeeds_T)) 0 FUEL 11 (Try.f11.body.getD .skip) (finC TD 0 Try.f11 κ)).getD (fun _ _ => none)
noncomputable def L.FnMostNeeds_step11 {α : Type} (x4 : Int) (x5 : Int) (x6 : Int) (r0 : List Int) (next_ : Int × Int × (List Int) → α) (out0_ : Int × (List Int) → α) (fail_ : α) : α :=
  (bif decide (x6 < (↑r0.length : Int)) then (optC (I.BallOf_t r0 x6) (fun c_6 => (optC (L.sizeOf_t c_6) (fun c_7 => (next_ (if c_7 < x5 then c_7 else x5, IntKind.i64.wrap (x6 + 1), r0))) fail_)) fail_) else (out0_ (x5, r0)))
theorem L.FnMostNeeds_step11_nat {α γ : Type} (g : α → γ) (x4 : Int) (x5 : Int) (x6 : Int) (r0 : List Int) (next_ : Int × Int × (List Int) → α) (out0_ : Int × (List Int) → α) (fail_ : α) : g (L.FnMostNeeds_step11 x4 x5 x6 r0 next_ out0_ fail_) = L.FnMostNeeds_step11 x4 x5 x6 r0 (fun s => g (next_ s)) (fun d => g (out0_ d)) (g fail_) := by
  unfold L.FnMostNeeds_step11; simp only [apply_cnd g, apply_optC g, apply_sumC g]
noncomputable def L.FnMostNeeds_run11 (x4 : Int) : Nat → Int × Int × (List Int) → Option (Int × (List Int))
  | 0, _ => none
  | n + 1, s_ => L.FnMostNeeds_step11 x4 s_.1 s_.2.1 s_.2.2 (L.FnMostNeeds_run11 x4 n) (fun d => some d) none
theorem L.FnMostNeeds_L11_run (x4 : Int) (n : Nat) (s_ : Int × Int × (List Int)) (k : X → St → R) : L.FnMostNeeds_L11 n { n := 67, t := [(3, (.own 0)), (4, (.int .i64 x4)), (5, (.int .i64 s_.1)), (6, (.int .i64 s_.2.1))], h := [.row (.ints .i64 s_.2.2)] } k = optC (L.FnMostNeeds_run11 x4 n s_) (fun (r : Int × (List Int)) => k (.exit 0) { n := 67, t := [(3, (.own 0)), (4, (.int .i64 x4)), (5, (.int .i64 r.1))], h := [.row (.ints .i64 r.2)] }) none := by
  induction n generalizing s_ with
  | zero => rfl
  | succ n ih =>
    have hu : L.FnMostNeeds_L11 (n + 1) { n := 67, t := [(3, (.own 0)), (4, (.int .i64 x4)), (5, (.int .i64 s_.1)), (6, (.int .i64 s_.2.1))], h := [.row (.ints .i64 s_.2.2)] } k = L.FnMostNeeds_step11 x4 s_.1 s_.2.1 s_.2.2 (fun s_ => L.FnMostNeeds_L11 n { n := 67, t := [(3, (.own 0)), (4, (.int .i64 x4)), (5, (.int .i64 s_.1)), (6, (.int .i64 s_.2.1))], h := [.row (.ints .i64 s_.2.2)] } k) (fun d => k (.exit 0) { n := 67, t := [(3, (.own 0)), (4, (.int .i64 x4)), (5, (.int .i64 d.1))], h := [.row (.ints .i64 d.2)] }) none := by
      kernel_rfl
    have hs : (fun s_ : Int × Int × (List Int) => L.FnMostNeeds_L11 n { n := 67, t := [(3, (.own 0)), (4, (.int .i64 x4)), (5, (.int .i64 s_.1)), (6, (.int .i64 s_.2.1))], h := [.row (.ints .i64 s_.2.2)] } k) = fun s_ => optC (L.FnMostNeeds_run11 x4 n s_) (fun (r : Int × (List Int)) => k (.exit 0) { n := 67, t := [(3, (.own 0)), (4, (.int .i64 x4)), (5, (.int .i64 r.1))], h := [.row (.ints .i64 r.2)] }) none := funext ih
    rw [hu, hs]
    exact (L.FnMostNeeds_step11_nat (fun o => optC o (fun (r : Int × (List Int)) => k (.exit 0) { n := 67, t := [(3, (.own 0)), (4, (.int .i64 x4)), (5, (.int .i64 r.1))], h := [.row (.ints .i64 r.2)] }) none) x4 s_.1 s_.2.1 s_.2.2 (L.FnMostNeeds_run11 x4 n) (fun d => some d) none).symm
noncomputable def L.FnMostNeeds_tree {α : Type} (code : List Int) (leaf0_ : Bool → α) (fail_ : α) : α :=
  (bif decide ((↑code.length : Int) > 1048576) then (leaf0_ true) else (optC (S.DrawMostNeeds_t code) (fun c_1 => (optC (I.MostNeeds_t c_1) (fun c_2 => (optC (S.MostNeeds_t c_1) (fun c_3 => (bif !c_2 == c_3 then (leaf0_ false) else (bif decide (c_2 < 0) then (bif c_2 == -1 then (optC (I.NetOk_t c_1) (fun c_4 => (bif !c_4 then (optC (L.alive_t) (fun c_5 => (leaf0_ c_5)) fail_) else (leaf0_ false))) fail_) else (leaf0_ false)) else (optC (L.FnMostNeeds_run11 c_2 FUEL ((↑c_1.length : Int), 0, c_1)) (fun qy_8 => (optC (I.MostLeast_t qy_8.2) (fun c_9 => (bif decide (c_2 ≥ c_9) then (bif decide (c_2 ≤ IntKind.i64.wrap (IntKind.i64.wrap ((↑qy_8.2.length : Int) - qy_8.1) + 1)) then (optC (I.WiresOf_t qy_8.2) (fun c_10 => (leaf0_ ((c_10 == 0) == (c_2 == (↑qy_8.2.length : Int))))) fail_) else (leaf0_ false)) else (leaf0_ false))) fail_)) fail_)))) fail_)) fail_)) fail_))
theorem L.FnMostNeeds_tree_nat {α γ : Type} (g : α → γ) (code : List Int) (leaf0_ : Bool → α) (fail_ : α) : g (L.FnMostNeeds_tree code leaf0_ fail_) = L.FnMostNeeds_tree code (fun d => g (leaf0_ d)) (g fail_) := by
  unfold L.FnMostNeeds_tree; simp only [apply_cnd g, apply_optC g, apply_sumC g]
noncomputable def L.FnMostNeeds_t (code : List Int) : Option (Bool) := L.FnMostNeeds_tree code (fun d => some d) none
theorem L.FnMostNeeds_den (code : List Int) (κ : V → List E → R) : L.FnMostNeeds_F [.ro true (.ints .u8 code)] [] κ = optC (L.FnMostNeeds_t code) (fun (r : Bool) => κ (.bool r) []) none := by
  have hu : L.FnMostNeeds_F [.ro true (.ints .u8 code)] [] κ = L.FnMostNeeds_tree code (fun d => κ (.bool d) []) none := by
    refine Eq.trans (show L.FnMostNeeds_F [.ro true (.ints .u8 code)] [] κ = (bif decide ((↑code.length : Int) > 1048576) then (κ (.bool true) []) else (optC (S.DrawMostNeeds_t code) (fun c_1 => (optC (I.MostNeeds_t c_1) (fun c_2 => (optC (S.MostNeeds_t c_1) (fun c_3 => (bif !c_2 == c_3 then (κ (.bool false) []) else (bif decide (c_2 < 0) then (bif c_2 == -1 then (optC (I.NetOk_t c_1) (fun c_4 => (bif !c_4 then (optC (L.alive_t) (fun c_5 => (κ (.bool c_5) [])) none) else (κ (.bool false) []))) none) else (κ (.bool false) [])) else (L.FnMostNeeds_L11 FUEL { n := 67, t := [(3, (.own 0)), (4, (.int .i64 c_2)), (5, (.int .i64 ((↑c_1.length : Int)))), (6, (.int .i64 0))], h := [.row (.ints .i64 c_1)] } (L.FnMostNeeds_k11 κ))))) none)) none)) none)) by kernel_rfl) ?_
    refine cnd_congr ?_ ?_
    · kernel_rfl
    · refine optC_congr (fun c_1 => ?_)
      refine optC_congr (fun c_2 => ?_)
      refine optC_congr (fun c_3 => ?_)
      refine cnd_congr ?_ ?_
      · kernel_rfl
      · refine cnd_congr ?_ ?_
        · kernel_rfl
        · refine (L.FnMostNeeds_L11_run c_2 FUEL ((↑c_1.length : Int), 0, c_1) (L.FnMostNeeds_k11 κ)).trans (optC_congr (fun qy_8 => ?_))
          kernel_rfl
  rw [hu]
  exact (L.FnMostNeeds_tree_nat (fun o => optC o (fun (r : Bool) => κ (.bool r) []) none) code (fun d => some d) none).symm
noncomputable def L.FnMostNeeds_s : D.Spec where
  keep := true
  pure := true
  ds := [.int .u8]
  sp := fun args h κ => match args, h with
    | [.ro true (.ints .u8 code)], [] => optC (L.FnMostNeeds_t code) (fun (r : Bool) => κ (.bool r) []) none
    | _, _ => none
theorem L.FnMostNeeds_ok : SpecOk Try.prog 11 L.FnMostNeeds_s := by
  refine SpecOk.of TDok mixed (T := L.FnMostNeeds_T) ?_ (ann := L.FnMostNeeds_ann) Try.func11 rfl (by decide +kernel) ?_ ?_ ?_
  · intro p hp
    simp only [L.FnMostNeeds_T, List.mem_cons, List.not_mem_nil, or_false] at hp
    rcases hp with rfl | rfl | rfl | rfl | rfl | rfl | rfl | rfl | rfl
    · exact S.DrawMostNeeds_ok
    · exact I.MostNeeds_ok
    · exact S.MostNeeds_ok
    · exact I.NetOk_ok
    · exact L.alive_ok
    · exact I.BallOf_ok
    · exact L.sizeOf_ok
    · exact I.MostLeast_ok
    · exact I.WiresOf_ok
  · intro args h κ r hh
    simp only [L.FnMostNeeds_s] at hh
    split at hh
    · exact (L.FnMostNeeds_den _ κ).trans hh
    · cases hh
  · intro args h κ r hh
    simp only [L.FnMostNeeds_s] at hh ⊢
    split at hh
    · exact optC_law2 (F := fun (r : Bool) κ => κ (.bool r) []) (fun b κ r hb => ⟨_, _, hb, fun _ => rfl⟩) hh
    · cases hh
  · intro _ args h κ r hh
    simp only [L.FnMostNeeds_s] at hh
    split at hh
    · exact ⟨rfl, fun _ => rfl⟩
    · cases hh

-- loop.example/guardsonnets/laws.FnExactMostNeeds
noncomputable def L.FnExactMostNeeds_T : List (Nat × D.Spec) := [(26, L.toIntS_s), (43, S.MostNeeds_s), (42, I.MostNeeds_s), (27, L.eqIntS_s)]
def L.FnExactMostNeeds_ann : Nat → List Nat × List Nat
  | _ => ([], [])
noncomputable def L.FnExactMostNeeds_F (args : List V) (h : List E) (κ : V → List E → R) : R := funC TD (tableK L.FnExactMostNeeds_T) L.FnExactMostNeeds_ann (drawOk (tableP L.FnExactMostNeeds_T)) FUEL Try.f12 args h κ
noncomputable def L.FnExactMostNeeds_tree {α : Type} (aNet : List Int) (leaf0_ : Bool → α) (fail_ : α) : α :=
  (bif decide ((↑aNet.length : Int) > 1048576) then (leaf0_ true) else (optC (L.toIntS_t aNet) (fun c_1 => (optC (S.MostNeeds_t c_1) (fun c_2 => (optC (L.toIntS_t aNet) (fun c_3 => (optC (I.MostNeeds_t c_3) (fun c_4 => (bif !c_4 == c_2 then (leaf0_ false) else (optC (L.toIntS_t aNet) (fun c_5 => (optC (L.eqIntS_t c_3 c_5) (fun c_6 => (bif !c_6 then (leaf0_ false) else (leaf0_ true))) fail_)) fail_))) fail_)) fail_)) fail_)) fail_))
theorem L.FnExactMostNeeds_tree_nat {α γ : Type} (g : α → γ) (aNet : List Int) (leaf0_ : Bool → α) (fail_ : α) : g (L.FnExactMostNeeds_tree aNet leaf0_ fail_) = L.FnExactMostNeeds_tree aNet (fun d => g (leaf0_ d)) (g fail_) := by
  unfold L.FnExactMostNeeds_tree; simp only [apply_cnd g, apply_optC g, apply_sumC g]
noncomputable def L.FnExactMostNeeds_t (aNet : List Int) : Option (Bool) := L.FnExactMostNeeds_tree aNet (fun d => some d) none
theorem L.FnExactMostNeeds_den (aNet : List Int) (κ : V → List E → R) : L.FnExactMostNeeds_F [.ro true (.ints .i64 aNet)] [] κ = optC (L.FnExactMostNeeds_t aNet) (fun (r : Bool) => κ (.bool r) []) none := by
  have hu : L.FnExactMostNeeds_F [.ro true (.ints .i64 aNet)] [] κ = L.FnExactMostNeeds_tree aNet (fun d => κ (.bool d) []) none := by
    kernel_rfl
  rw [hu]
  exact (L.FnExactMostNeeds_tree_nat (fun o => optC o (fun (r : Bool) => κ (.bool r) []) none) aNet (fun d => some d) none).symm
noncomputable def L.FnExactMostNeeds_s : D.Spec where
  keep := true
  pure := true
  ds := [.int .i64]
  sp := fun args h κ => match args, h with
    | [.ro true (.ints .i64 aNet)], [] => optC (L.FnExactMostNeeds_t aNet) (fun (r : Bool) => κ (.bool r) []) none
    | _, _ => none
theorem L.FnExactMostNeeds_ok : SpecOk Try.prog 12 L.FnExactMostNeeds_s := by
  refine SpecOk.of TDok mixed (T := L.FnExactMostNeeds_T) ?_ (ann := L.FnExactMostNeeds_ann) Try.func12 rfl (by decide +kernel) ?_ ?_ ?_
  · intro p hp
    simp only [L.FnExactMostNeeds_T, List.mem_cons, List.not_mem_nil, or_false] at hp
    rcases hp with rfl | rfl | rfl | rfl
    · exact L.toIntS_ok
    · exact S.MostNeeds_ok
    · exact I.MostNeeds_ok
    · exact L.eqIntS_ok
  · intro args h κ r hh
    simp only [L.FnExactMostNeeds_s] at hh
    split at hh
    · exact (L.FnExactMostNeeds_den _ κ).trans hh
    · cases hh
  · intro args h κ r hh
    simp only [L.FnExactMostNeeds_s] at hh ⊢
    split at hh
    · exact optC_law2 (F := fun (r : Bool) κ => κ (.bool r) []) (fun b κ r hb => ⟨_, _, hb, fun _ => rfl⟩) hh
    · cases hh
  · intro _ args h κ r hh
    simp only [L.FnExactMostNeeds_s] at hh
    split at hh
    · exact ⟨rfl, fun _ => rfl⟩
    · cases hh

-- loop.example/guardsonnets/spec.DrawMostLeast
noncomputable def S.DrawMostLeast_T : List (Nat × D.Spec) := [(60, S.l20Open_s), (59, S.l20Net_s)]
def S.DrawMostLeast_ann : Nat → List Nat × List Nat
  | _ => ([], [])
noncomputable def S.DrawMostLeast_F (args : List V) (h : List E) (κ : V → List E → R) : R := funC TD (tableK S.DrawMostLeast_T) S.DrawMostLeast_ann (drawOk (tableP S.DrawMostLeast_T)) FUEL Try.f46 args h κ
noncomputable def S.DrawMostLeast_tree {α : Type} (code : List Int) (leaf0_ : List Int → α) (fail_ : α) : α :=
  (optC (S.l20Open_t code) (fun c_1 => (optC (S.l20Net_t c_1.fst c_1.snd 9) (fun c_2 => (leaf0_ c_2.snd.snd)) fail_)) fail_)
theorem S.DrawMostLeast_tree_nat {α γ : Type} (g : α → γ) (code : List Int) (leaf0_ : List Int → α) (fail_ : α) : g (S.DrawMostLeast_tree code leaf0_ fail_) = S.DrawMostLeast_tree code (fun d => g (leaf0_ d)) (g fail_) := by
  unfold S.DrawMostLeast_tree; simp only [apply_cnd g, apply_optC g, apply_sumC g]
noncomputable def S.DrawMostLeast_t (code : List Int) : Option (List Int) := S.DrawMostLeast_tree code (fun d => some d) none
theorem S.DrawMostLeast_den (code : List Int) (κ : V → List E → R) : S.DrawMostLeast_F [.ro true (.ints .u8 code)] [] κ = optC (S.DrawMostLeast_t code) (fun (r : List Int) => κ (.own 0) [.row (.ints .i64 r)]) none := by
  have hu : S.DrawMostLeast_F [.ro true (.ints .u8 code)] [] κ = S.DrawMostLeast_tree code (fun d => κ (.own 0) [.row (.ints .i64 d)]) none := by
    kernel_rfl
  rw [hu]
  exact (S.DrawMostLeast_tree_nat (fun o => optC o (fun (r : List Int) => κ (.own 0) [.row (.ints .i64 r)]) none) code (fun d => some d) none).symm
noncomputable def S.DrawMostLeast_s : D.Spec where
  keep := true
  pure := false
  ds := [.int .u8]
  sp := fun args h κ => match args, h with
    | [.ro true (.ints .u8 code)], [] => optC (S.DrawMostLeast_t code) (fun (r : List Int) => κ (.own 0) [.row (.ints .i64 r)]) none
    | _, _ => none
theorem S.DrawMostLeast_ok : SpecOk Try.prog 46 S.DrawMostLeast_s := by
  refine SpecOk.of TDok mixed (T := S.DrawMostLeast_T) ?_ (ann := S.DrawMostLeast_ann) Try.func46 rfl (by decide +kernel) ?_ ?_ ?_
  · intro p hp
    simp only [S.DrawMostLeast_T, List.mem_cons, List.not_mem_nil, or_false] at hp
    rcases hp with rfl | rfl
    · exact S.l20Open_ok
    · exact S.l20Net_ok
  · intro args h κ r hh
    simp only [S.DrawMostLeast_s] at hh
    split at hh
    · exact (S.DrawMostLeast_den _ κ).trans hh
    · cases hh
  · intro args h κ r hh
    simp only [S.DrawMostLeast_s] at hh ⊢
    split at hh
    · exact optC_law2 (F := fun (r : List Int) κ => κ (.own 0) [.row (.ints .i64 r)]) (fun b κ r hb => ⟨_, _, hb, fun _ => rfl⟩) hh
    · cases hh
  · intro hh; cases hh

-- loop.example/guardsonnets/spec.l2Watch
noncomputable def S.l2Watch_T : List (Nat × D.Spec) := [(87, S.l1Near_s)]
def S.l2Watch_ann : Nat → List Nat × List Nat
  | _ => ([], [])
noncomputable def S.l2Watch_F (args : List V) (h : List E) (κ : V → List E → R) : R := funC TD (tableK S.l2Watch_T) S.l2Watch_ann (drawOk (tableP S.l2Watch_T)) FUEL Try.f91 args h κ
noncomputable def S.l2Watch_tree {α : Type} (net : List Int) (set_ : Int) (leaf0_ : Bool → α) (fail_ : α) : α :=
  (optC (S.l1Near_t net set_) (fun c_1 => (leaf0_ (bits BinOp.or IntKind.i64 set_ c_1 == IntKind.i64.wrap (IntKind.i64.wrap (1 * 2 ^ min (↑net.length : Int).toNat IntKind.i64.bits) - 1)))) fail_)
theorem S.l2Watch_tree_nat {α γ : Type} (g : α → γ) (net : List Int) (set_ : Int) (leaf0_ : Bool → α) (fail_ : α) : g (S.l2Watch_tree net set_ leaf0_ fail_) = S.l2Watch_tree net set_ (fun d => g (leaf0_ d)) (g fail_) := by
  unfold S.l2Watch_tree; simp only [apply_cnd g, apply_optC g, apply_sumC g]
noncomputable def S.l2Watch_t (net : List Int) (set_ : Int) : Option (Bool) := S.l2Watch_tree net set_ (fun d => some d) none
theorem S.l2Watch_den (net : List Int) (set_ : Int) (κ : V → List E → R) : S.l2Watch_F [.ro false (.ints .i64 net), .int .i64 set_] [] κ = optC (S.l2Watch_t net set_) (fun (r : Bool) => κ (.bool r) []) none := by
  have hu : S.l2Watch_F [.ro false (.ints .i64 net), .int .i64 set_] [] κ = S.l2Watch_tree net set_ (fun d => κ (.bool d) []) none := by
    kernel_rfl
  rw [hu]
  exact (S.l2Watch_tree_nat (fun o => optC o (fun (r : Bool) => κ (.bool r) []) none) net set_ (fun d => some d) none).symm
noncomputable def S.l2Watch_s : D.Spec where
  keep := false
  pure := true
  ds := [.int .i64, .invalid]
  sp := fun args h κ => match args, h with
    | [.ro false (.ints .i64 net), .int .i64 set_], [] => optC (S.l2Watch_t net set_) (fun (r : Bool) => κ (.bool r) []) none
    | _, _ => none
theorem S.l2Watch_ok : SpecOk Try.prog 91 S.l2Watch_s := by
  refine SpecOk.of TDok mixed (T := S.l2Watch_T) ?_ (ann := S.l2Watch_ann) Try.func91 rfl (by decide +kernel) ?_ ?_ ?_
  · intro p hp
    simp only [S.l2Watch_T, List.mem_cons, List.not_mem_nil, or_false] at hp
    rcases hp with rfl
    · exact S.l1Near_ok
  · intro args h κ r hh
    simp only [S.l2Watch_s] at hh
    split at hh
    · exact (S.l2Watch_den _ _ κ).trans hh
    · cases hh
  · intro args h κ r hh
    simp only [S.l2Watch_s] at hh ⊢
    split at hh
    · exact optC_law2 (F := fun (r : Bool) κ => κ (.bool r) []) (fun b κ r hb => ⟨_, _, hb, fun _ => rfl⟩) hh
    · cases hh
  · intro _ args h κ r hh
    simp only [S.l2Watch_s] at hh
    split at hh
    · exact ⟨rfl, fun _ => rfl⟩
    · cases hh

-- loop.example/guardsonnets/spec.l2Least
noncomputable def S.l2Least_T : List (Nat × D.Spec) := [(91, S.l2Watch_s)]
def S.l2Least_ann : Nat → List Nat × List Nat
  | 2 => ([0, 1, 5], [0, 1, 4])
  | _ => ([], [])
noncomputable def S.l2Least_F (args : List V) (h : List E) (κ : V → List E → R) : R := funC TD (tableK S.l2Least_T) S.l2Least_ann (drawOk (tableP S.l2Least_T)) FUEL Try.f78 args h κ
noncomputable def S.l2Least_L2 (n : Nat) (σ : St) (k : X → St → R) : R := iterC 0 (fun σ k => denC TD (tableK S.l2Least_T) S.l2Least_ann (drawOk (tableP S.l2Least_T)) 0 FUEL ((findLoop 2 (Try.f78.body.getD .skip)).getD .skip) σ k) [0, 1, 5] [0, 1, 4] n σ k
noncomputable def S.l2Least_k2 (κ : V → List E → R) : X → St → R := (afterC TD (tableK S.l2Least_T) S.l2Least_ann (drawOk (tableP S.l2Least_T)) 0 FUEL 2 (Try.f78.body.getD .skip) (finC TD 0 Try.f78 κ)).getD (fun _ _ => none)
noncomputable def S.l2Least_step2 {α : Type} (x0 : List Int) (x1 : Int) (x5 : Int) (next_ : Int → α) (out0_ : Bool → α) (out1_ : Unit → α) (fail_ : α) : α :=
  (bif decide (x5 < (↑x0.length : Int)) then (bif decide (x5 < 0) then fail_ else (bif (x1.fdiv (2 ^ min x5.toNat IntKind.i64.bits)).tmod 2 == 1 then (bif decide (x5 < 0) then fail_ else (optC (S.l2Watch_t x0 (IntKind.i64.wrap (x1 - IntKind.i64.wrap (1 * 2 ^ min x5.toNat IntKind.i64.bits)))) (fun c_1 => (bif c_1 then (out0_ false) else (next_ (IntKind.i64.wrap (x5 + 1))))) fail_)) else (next_ (IntKind.i64.wrap (x5 + 1))))) else (out1_ ()))
theorem S.l2Least_step2_nat {α γ : Type} (g : α → γ) (x0 : List Int) (x1 : Int) (x5 : Int) (next_ : Int → α) (out0_ : Bool → α) (out1_ : Unit → α) (fail_ : α) : g (S.l2Least_step2 x0 x1 x5 next_ out0_ out1_ fail_) = S.l2Least_step2 x0 x1 x5 (fun s => g (next_ s)) (fun d => g (out0_ d)) (fun d => g (out1_ d)) (g fail_) := by
  unfold S.l2Least_step2; simp only [apply_cnd g, apply_optC g, apply_sumC g]
noncomputable def S.l2Least_run2 (x0 : List Int) (x1 : Int) : Nat → Int → Option ((Bool) ⊕ (Unit))
  | 0, _ => none
  | n + 1, s_ => S.l2Least_step2 x0 x1 s_ (S.l2Least_run2 x0 x1 n) (fun d => some ((Sum.inl d))) (fun d => some ((Sum.inr d))) none
theorem S.l2Least_L2_run (x0 : List Int) (x1 : Int) (n : Nat) (s_ : Int) (k : X → St → R) : S.l2Least_L2 n { n := 28, t := [(0, (.ro false (.ints .i64 x0))), (1, (.int .i64 x1)), (5, (.int .i64 s_))], h := [] } k = optC (S.l2Least_run2 x0 x1 n s_) (fun (r : (Bool) ⊕ (Unit)) => (sumC r (fun (r : Bool) => k (.ret) { n := 28, t := [(0, (.ro false (.ints .i64 x0))), (1, (.int .i64 x1)), (4, (.bool r))], h := [] }) (fun (r : Unit) => k (.exit 0) { n := 28, t := [(0, (.ro false (.ints .i64 x0))), (1, (.int .i64 x1)), (4, .junk)], h := [] }))) none := by
  induction n generalizing s_ with
  | zero => rfl
  | succ n ih =>
    have hu : S.l2Least_L2 (n + 1) { n := 28, t := [(0, (.ro false (.ints .i64 x0))), (1, (.int .i64 x1)), (5, (.int .i64 s_))], h := [] } k = S.l2Least_step2 x0 x1 s_ (fun s_ => S.l2Least_L2 n { n := 28, t := [(0, (.ro false (.ints .i64 x0))), (1, (.int .i64 x1)), (5, (.int .i64 s_))], h := [] } k) (fun d => k (.ret) { n := 28, t := [(0, (.ro false (.ints .i64 x0))), (1, (.int .i64 x1)), (4, (.bool d))], h := [] }) (fun d => k (.exit 0) { n := 28, t := [(0, (.ro false (.ints .i64 x0))), (1, (.int .i64 x1)), (4, .junk)], h := [] }) none := by
      kernel_rfl
    have hs : (fun s_ : Int => S.l2Least_L2 n { n := 28, t := [(0, (.ro false (.ints .i64 x0))), (1, (.int .i64 x1)), (5, (.int .i64 s_))], h := [] } k) = fun s_ => optC (S.l2Least_run2 x0 x1 n s_) (fun (r : (Bool) ⊕ (Unit)) => (sumC r (fun (r : Bool) => k (.ret) { n := 28, t := [(0, (.ro false (.ints .i64 x0))), (1, (.int .i64 x1)), (4, (.bool r))], h := [] }) (fun (r : Unit) => k (.exit 0) { n := 28, t := [(0, (.ro false (.ints .i64 x0))), (1, (.int .i64 x1)), (4, .junk)], h := [] }))) none := funext ih
    rw [hu, hs]
    exact (S.l2Least_step2_nat (fun o => optC o (fun (r : (Bool) ⊕ (Unit)) => (sumC r (fun (r : Bool) => k (.ret) { n := 28, t := [(0, (.ro false (.ints .i64 x0))), (1, (.int .i64 x1)), (4, (.bool r))], h := [] }) (fun (r : Unit) => k (.exit 0) { n := 28, t := [(0, (.ro false (.ints .i64 x0))), (1, (.int .i64 x1)), (4, .junk)], h := [] }))) none) x0 x1 s_ (S.l2Least_run2 x0 x1 n) (fun d => some ((Sum.inl d))) (fun d => some ((Sum.inr d))) none).symm
noncomputable def S.l2Least_tree {α : Type} (net : List Int) (set_ : Int) (leaf0_ : Bool → α) (fail_ : α) : α :=
  (optC (S.l2Least_run2 net set_ FUEL 0) (fun qy_2 => (sumC qy_2 (fun (qy_2 : Bool) => (leaf0_ qy_2)) (fun (qy_2 : Unit) => (optC (S.l2Watch_t net set_) (fun c_3 => (leaf0_ c_3)) fail_)))) fail_)
theorem S.l2Least_tree_nat {α γ : Type} (g : α → γ) (net : List Int) (set_ : Int) (leaf0_ : Bool → α) (fail_ : α) : g (S.l2Least_tree net set_ leaf0_ fail_) = S.l2Least_tree net set_ (fun d => g (leaf0_ d)) (g fail_) := by
  unfold S.l2Least_tree; simp only [apply_cnd g, apply_optC g, apply_sumC g]
noncomputable def S.l2Least_t (net : List Int) (set_ : Int) : Option (Bool) := S.l2Least_tree net set_ (fun d => some d) none
theorem S.l2Least_den (net : List Int) (set_ : Int) (κ : V → List E → R) : S.l2Least_F [.ro false (.ints .i64 net), .int .i64 set_] [] κ = optC (S.l2Least_t net set_) (fun (r : Bool) => κ (.bool r) []) none := by
  have hu : S.l2Least_F [.ro false (.ints .i64 net), .int .i64 set_] [] κ = S.l2Least_tree net set_ (fun d => κ (.bool d) []) none := by
    refine Eq.trans (show S.l2Least_F [.ro false (.ints .i64 net), .int .i64 set_] [] κ = (S.l2Least_L2 FUEL { n := 28, t := [(0, (.ro false (.ints .i64 net))), (1, (.int .i64 set_)), (5, (.int .i64 0))], h := [] } (S.l2Least_k2 κ)) by kernel_rfl) ?_
    refine (S.l2Least_L2_run net set_ FUEL 0 (S.l2Least_k2 κ)).trans (optC_congr (fun qy_2 => ?_))
    rcases qy_2 with qy_2 | qy_2
    · kernel_rfl
    · kernel_rfl
  rw [hu]
  exact (S.l2Least_tree_nat (fun o => optC o (fun (r : Bool) => κ (.bool r) []) none) net set_ (fun d => some d) none).symm
noncomputable def S.l2Least_s : D.Spec where
  keep := false
  pure := true
  ds := [.int .i64, .invalid]
  sp := fun args h κ => match args, h with
    | [.ro false (.ints .i64 net), .int .i64 set_], [] => optC (S.l2Least_t net set_) (fun (r : Bool) => κ (.bool r) []) none
    | _, _ => none
theorem S.l2Least_ok : SpecOk Try.prog 78 S.l2Least_s := by
  refine SpecOk.of TDok mixed (T := S.l2Least_T) ?_ (ann := S.l2Least_ann) Try.func78 rfl (by decide +kernel) ?_ ?_ ?_
  · intro p hp
    simp only [S.l2Least_T, List.mem_cons, List.not_mem_nil, or_false] at hp
    rcases hp with rfl
    · exact S.l2Watch_ok
  · intro args h κ r hh
    simp only [S.l2Least_s] at hh
    split at hh
    · exact (S.l2Least_den _ _ κ).trans hh
    · cases hh
  · intro args h κ r hh
    simp only [S.l2Least_s] at hh ⊢
    split at hh
    · exact optC_law2 (F := fun (r : Bool) κ => κ (.bool r) []) (fun b κ r hb => ⟨_, _, hb, fun _ => rfl⟩) hh
    · cases hh
  · intro _ args h κ r hh
    simp only [S.l2Least_s] at hh
    split at hh
    · exact ⟨rfl, fun _ => rfl⟩
    · cases hh

-- loop.example/guardsonnets/spec.MostLeast
noncomputable def S.MostLeast_T : List (Nat × D.Spec) := [(58, S.NetOk_s), (78, S.l2Least_s), (65, S.l1Size_s)]
def S.MostLeast_ann : Nat → List Nat × List Nat
  | 5 => ([0, 3, 4], [3])
  | _ => ([], [])
noncomputable def S.MostLeast_F (args : List V) (h : List E) (κ : V → List E → R) : R := funC TD (tableK S.MostLeast_T) S.MostLeast_ann (drawOk (tableP S.MostLeast_T)) FUEL Try.f47 args h κ
noncomputable def S.MostLeast_L5 (n : Nat) (σ : St) (k : X → St → R) : R := iterC 0 (fun σ k => denC TD (tableK S.MostLeast_T) S.MostLeast_ann (drawOk (tableP S.MostLeast_T)) 0 FUEL ((findLoop 5 (Try.f47.body.getD .skip)).getD .skip) σ k) [0, 3, 4] [3] n σ k
noncomputable def S.MostLeast_k5 (κ : V → List E → R) : X → St → R := (afterC TD (tableK S.MostLeast_T) S.MostLeast_ann (drawOk (tableP S.MostLeast_T)) 0 FUEL 5 (Try.f47.body.getD .skip) (finC TD 0 Try.f47 κ)).getD (fun _ _ => none)
noncomputable def S.MostLeast_step5 {α : Type} (x0 : List Int) (x3 : Int) (x4 : Int) (next_ : Int × Int → α) (out0_ : Int → α) (fail_ : α) : α :=
  (bif decide (x4 < IntKind.i64.wrap (1 * 2 ^ min (↑x0.length : Int).toNat IntKind.i64.bits)) then (optC (S.l2Least_t x0 x4) (fun c_2 => (bif c_2 then (optC (S.l1Size_t x4) (fun c_3 => (next_ (if c_3 > x3 then c_3 else x3, IntKind.i64.wrap (x4 + 1)))) fail_) else (next_ (x3, IntKind.i64.wrap (x4 + 1))))) fail_) else (out0_ x3))
theorem S.MostLeast_step5_nat {α γ : Type} (g : α → γ) (x0 : List Int) (x3 : Int) (x4 : Int) (next_ : Int × Int → α) (out0_ : Int → α) (fail_ : α) : g (S.MostLeast_step5 x0 x3 x4 next_ out0_ fail_) = S.MostLeast_step5 x0 x3 x4 (fun s => g (next_ s)) (fun d => g (out0_ d)) (g fail_) := by
  unfold S.MostLeast_step5; simp only [apply_cnd g, apply_optC g, apply_sumC g]
noncomputable def S.MostLeast_run5 (x0 : List Int) : Nat → Int × Int → Option (Int)
  | 0, _ => none
  | n + 1, s_ => S.MostLeast_step5 x0 s_.1 s_.2 (S.MostLeast_run5 x0 n) (fun d => some d) none
theorem S.MostLeast_L5_run (x0 : List Int) (n : Nat) (s_ : Int × Int) (k : X → St → R) : S.MostLeast_L5 n { n := 23, t := [(0, (.ro false (.ints .i64 x0))), (3, (.int .i64 s_.1)), (4, (.int .i64 s_.2))], h := [] } k = optC (S.MostLeast_run5 x0 n s_) (fun (r : Int) => k (.exit 0) { n := 23, t := [(3, (.int .i64 r))], h := [] }) none := by
  induction n generalizing s_ with
  | zero => rfl
  | succ n ih =>
    have hu : S.MostLeast_L5 (n + 1) { n := 23, t := [(0, (.ro false (.ints .i64 x0))), (3, (.int .i64 s_.1)), (4, (.int .i64 s_.2))], h := [] } k = S.MostLeast_step5 x0 s_.1 s_.2 (fun s_ => S.MostLeast_L5 n { n := 23, t := [(0, (.ro false (.ints .i64 x0))), (3, (.int .i64 s_.1)), (4, (.int .i64 s_.2))], h := [] } k) (fun d => k (.exit 0) { n := 23, t := [(3, (.int .i64 d))], h := [] }) none := by
      kernel_rfl
    have hs : (fun s_ : Int × Int => S.MostLeast_L5 n { n := 23, t := [(0, (.ro false (.ints .i64 x0))), (3, (.int .i64 s_.1)), (4, (.int .i64 s_.2))], h := [] } k) = fun s_ => optC (S.MostLeast_run5 x0 n s_) (fun (r : Int) => k (.exit 0) { n := 23, t := [(3, (.int .i64 r))], h := [] }) none := funext ih
    rw [hu, hs]
    exact (S.MostLeast_step5_nat (fun o => optC o (fun (r : Int) => k (.exit 0) { n := 23, t := [(3, (.int .i64 r))], h := [] }) none) x0 s_.1 s_.2 (S.MostLeast_run5 x0 n) (fun d => some d) none).symm
noncomputable def S.MostLeast_tree {α : Type} (net : List Int) (leaf0_ : Int → α) (fail_ : α) : α :=
  (optC (S.NetOk_t net) (fun c_1 => (bif !c_1 then (leaf0_ (-1)) else (optC (S.MostLeast_run5 net FUEL (0, 0)) (fun qy_4 => (leaf0_ qy_4)) fail_))) fail_)
theorem S.MostLeast_tree_nat {α γ : Type} (g : α → γ) (net : List Int) (leaf0_ : Int → α) (fail_ : α) : g (S.MostLeast_tree net leaf0_ fail_) = S.MostLeast_tree net (fun d => g (leaf0_ d)) (g fail_) := by
  unfold S.MostLeast_tree; simp only [apply_cnd g, apply_optC g, apply_sumC g]
noncomputable def S.MostLeast_t (net : List Int) : Option (Int) := S.MostLeast_tree net (fun d => some d) none
theorem S.MostLeast_den (net : List Int) (κ : V → List E → R) : S.MostLeast_F [.ro false (.ints .i64 net)] [] κ = optC (S.MostLeast_t net) (fun (r : Int) => κ (.int .i64 r) []) none := by
  have hu : S.MostLeast_F [.ro false (.ints .i64 net)] [] κ = S.MostLeast_tree net (fun d => κ (.int .i64 d) []) none := by
    refine Eq.trans (show S.MostLeast_F [.ro false (.ints .i64 net)] [] κ = (optC (S.NetOk_t net) (fun c_1 => (bif !c_1 then (κ (.int .i64 (-1)) []) else (S.MostLeast_L5 FUEL { n := 23, t := [(0, (.ro false (.ints .i64 net))), (3, (.int .i64 0)), (4, (.int .i64 0))], h := [] } (S.MostLeast_k5 κ)))) none) by kernel_rfl) ?_
    refine optC_congr (fun c_1 => ?_)
    refine cnd_congr ?_ ?_
    · kernel_rfl
    · refine (S.MostLeast_L5_run net FUEL (0, 0) (S.MostLeast_k5 κ)).trans (optC_congr (fun qy_4 => ?_))
      kernel_rfl
  rw [hu]
  exact (S.MostLeast_tree_nat (fun o => optC o (fun (r : Int) => κ (.int .i64 r) []) none) net (fun d => some d) none).symm
noncomputable def S.MostLeast_s : D.Spec where
  keep := false
  pure := true
  ds := [.int .i64]
  sp := fun args h κ => match args, h with
    | [.ro false (.ints .i64 net)], [] => optC (S.MostLeast_t net) (fun (r : Int) => κ (.int .i64 r) []) none
    | _, _ => none
theorem S.MostLeast_ok : SpecOk Try.prog 47 S.MostLeast_s := by
  refine SpecOk.of TDok mixed (T := S.MostLeast_T) ?_ (ann := S.MostLeast_ann) Try.func47 rfl (by decide +kernel) ?_ ?_ ?_
  · intro p hp
    simp only [S.MostLeast_T, List.mem_cons, List.not_mem_nil, or_false] at hp
    rcases hp with rfl | rfl | rfl
    · exact S.NetOk_ok
    · exact S.l2Least_ok
    · exact S.l1Size_ok
  · intro args h κ r hh
    simp only [S.MostLeast_s] at hh
    split at hh
    · exact (S.MostLeast_den _ κ).trans hh
    · cases hh
  · intro args h κ r hh
    simp only [S.MostLeast_s] at hh ⊢
    split at hh
    · exact optC_law2 (F := fun (r : Int) κ => κ (.int .i64 r) []) (fun b κ r hb => ⟨_, _, hb, fun _ => rfl⟩) hh
    · cases hh
  · intro _ args h κ r hh
    simp only [S.MostLeast_s] at hh
    split at hh
    · exact ⟨rfl, fun _ => rfl⟩
    · cases hh

-- loop.example/guardsonnets/impl.LeastWatches
noncomputable def I.LeastWatches_T : List (Nat × D.Spec) := [(22, I.NetOk_s), (61, I.allOf_s), (79, I.leastWatchIn_s)]
def I.LeastWatches_ann : Nat → List Nat × List Nat
  | 5 => ([0, 3, 4], [3])
  | _ => ([], [])
noncomputable def I.LeastWatches_F (args : List V) (h : List E) (κ : V → List E → R) : R := funC TD (tableK I.LeastWatches_T) I.LeastWatches_ann (drawOk (tableP I.LeastWatches_T)) FUEL Try.f48 args h κ
noncomputable def I.LeastWatches_L5 (n : Nat) (σ : St) (k : X → St → R) : R := iterC 0 (fun σ k => denC TD (tableK I.LeastWatches_T) I.LeastWatches_ann (drawOk (tableP I.LeastWatches_T)) 0 FUEL ((findLoop 5 (Try.f48.body.getD .skip)).getD .skip) σ k) [0, 3, 4] [3] n σ k
noncomputable def I.LeastWatches_k5 (κ : V → List E → R) : X → St → R := (afterC TD (tableK I.LeastWatches_T) I.LeastWatches_ann (drawOk (tableP I.LeastWatches_T)) 0 FUEL 5 (Try.f48.body.getD .skip) (finC TD 0 Try.f48 κ)).getD (fun _ _ => none)
noncomputable def I.LeastWatches_step5 {α : Type} (x0 : List Int) (x4 : Int) (r0 : List Int) (next_ : Int × (List Int) → α) (out0_ : List Int → α) (fail_ : α) : α :=
  (optC (I.allOf_t x0) (fun c_2 => (bif decide (x4 ≤ c_2) then (optC (I.leastWatchIn_t x0 x4) (fun c_3 => (bif c_3 then (bif small (r0 ++ [x4]).length then (next_ (IntKind.i64.wrap (x4 + 1), r0 ++ [x4])) else fail_) else (next_ (IntKind.i64.wrap (x4 + 1), r0)))) fail_) else (out0_ r0))) fail_)
theorem I.LeastWatches_step5_nat {α γ : Type} (g : α → γ) (x0 : List Int) (x4 : Int) (r0 : List Int) (next_ : Int × (List Int) → α) (out0_ : List Int → α) (fail_ : α) : g (I.LeastWatches_step5 x0 x4 r0 next_ out0_ fail_) = I.LeastWatches_step5 x0 x4 r0 (fun s => g (next_ s)) (fun d => g (out0_ d)) (g fail_) := by
  unfold I.LeastWatches_step5; simp only [apply_cnd g, apply_optC g, apply_sumC g]
noncomputable def I.LeastWatches_run5 (x0 : List Int) : Nat → Int × (List Int) → Option (List Int)
  | 0, _ => none
  | n + 1, s_ => I.LeastWatches_step5 x0 s_.1 s_.2 (I.LeastWatches_run5 x0 n) (fun d => some d) none
theorem I.LeastWatches_L5_run (x0 : List Int) (n : Nat) (s_ : Int × (List Int)) (k : X → St → R) : I.LeastWatches_L5 n { n := 23, t := [(0, (.ro false (.ints .i64 x0))), (3, (.own 0)), (4, (.int .i64 s_.1))], h := [.row (.ints .i64 s_.2)] } k = optC (I.LeastWatches_run5 x0 n s_) (fun (r : List Int) => k (.exit 0) { n := 23, t := [(3, (.own 0))], h := [.row (.ints .i64 r)] }) none := by
  induction n generalizing s_ with
  | zero => rfl
  | succ n ih =>
    have hu : I.LeastWatches_L5 (n + 1) { n := 23, t := [(0, (.ro false (.ints .i64 x0))), (3, (.own 0)), (4, (.int .i64 s_.1))], h := [.row (.ints .i64 s_.2)] } k = I.LeastWatches_step5 x0 s_.1 s_.2 (fun s_ => I.LeastWatches_L5 n { n := 23, t := [(0, (.ro false (.ints .i64 x0))), (3, (.own 0)), (4, (.int .i64 s_.1))], h := [.row (.ints .i64 s_.2)] } k) (fun d => k (.exit 0) { n := 23, t := [(3, (.own 0))], h := [.row (.ints .i64 d)] }) none := by
      kernel_rfl
    have hs : (fun s_ : Int × (List Int) => I.LeastWatches_L5 n { n := 23, t := [(0, (.ro false (.ints .i64 x0))), (3, (.own 0)), (4, (.int .i64 s_.1))], h := [.row (.ints .i64 s_.2)] } k) = fun s_ => optC (I.LeastWatches_run5 x0 n s_) (fun (r : List Int) => k (.exit 0) { n := 23, t := [(3, (.own 0))], h := [.row (.ints .i64 r)] }) none := funext ih
    rw [hu, hs]
    exact (I.LeastWatches_step5_nat (fun o => optC o (fun (r : List Int) => k (.exit 0) { n := 23, t := [(3, (.own 0))], h := [.row (.ints .i64 r)] }) none) x0 s_.1 s_.2 (I.LeastWatches_run5 x0 n) (fun d => some d) none).symm
noncomputable def I.LeastWatches_tree {α : Type} (net : List Int) (leaf0_ : List Int → α) (fail_ : α) : α :=
  (optC (I.NetOk_t net) (fun c_1 => (bif !c_1 then (leaf0_ ([])) else (optC (I.LeastWatches_run5 net FUEL (0, [])) (fun qy_4 => (leaf0_ qy_4)) fail_))) fail_)
theorem I.LeastWatches_tree_nat {α γ : Type} (g : α → γ) (net : List Int) (leaf0_ : List Int → α) (fail_ : α) : g (I.LeastWatches_tree net leaf0_ fail_) = I.LeastWatches_tree net (fun d => g (leaf0_ d)) (g fail_) := by
  unfold I.LeastWatches_tree; simp only [apply_cnd g, apply_optC g, apply_sumC g]
noncomputable def I.LeastWatches_t (net : List Int) : Option (List Int) := I.LeastWatches_tree net (fun d => some d) none
theorem I.LeastWatches_den (net : List Int) (κ : V → List E → R) : I.LeastWatches_F [.ro false (.ints .i64 net)] [] κ = optC (I.LeastWatches_t net) (fun (r : List Int) => κ (.own 0) [.row (.ints .i64 r)]) none := by
  have hu : I.LeastWatches_F [.ro false (.ints .i64 net)] [] κ = I.LeastWatches_tree net (fun d => κ (.own 0) [.row (.ints .i64 d)]) none := by
    refine Eq.trans (show I.LeastWatches_F [.ro false (.ints .i64 net)] [] κ = (optC (I.NetOk_t net) (fun c_1 => (bif !c_1 then (κ (.own 0) [.row (.ints .i64 ([]))]) else (I.LeastWatches_L5 FUEL { n := 23, t := [(0, (.ro false (.ints .i64 net))), (3, (.own 0)), (4, (.int .i64 0))], h := [.row (.ints .i64 ([]))] } (I.LeastWatches_k5 κ)))) none) by kernel_rfl) ?_
    refine optC_congr (fun c_1 => ?_)
    refine cnd_congr ?_ ?_
    · kernel_rfl
    · refine (I.LeastWatches_L5_run net FUEL (0, []) (I.LeastWatches_k5 κ)).trans (optC_congr (fun qy_4 => ?_))
      kernel_rfl
  rw [hu]
  exact (I.LeastWatches_tree_nat (fun o => optC o (fun (r : List Int) => κ (.own 0) [.row (.ints .i64 r)]) none) net (fun d => some d) none).symm
noncomputable def I.LeastWatches_s : D.Spec where
  keep := false
  pure := false
  ds := [.int .i64]
  sp := fun args h κ => match args, h with
    | [.ro false (.ints .i64 net)], [] => optC (I.LeastWatches_t net) (fun (r : List Int) => κ (.own 0) [.row (.ints .i64 r)]) none
    | _, _ => none
theorem I.LeastWatches_ok : SpecOk Try.prog 48 I.LeastWatches_s := by
  refine SpecOk.of TDok mixed (T := I.LeastWatches_T) ?_ (ann := I.LeastWatches_ann) Try.func48 rfl (by decide +kernel) ?_ ?_ ?_
  · intro p hp
    simp only [I.LeastWatches_T, List.mem_cons, List.not_mem_nil, or_false] at hp
    rcases hp with rfl | rfl | rfl
    · exact I.NetOk_ok
    · exact I.allOf_ok
    · exact I.leastWatchIn_ok
  · intro args h κ r hh
    simp only [I.LeastWatches_s] at hh
    split at hh
    · exact (I.LeastWatches_den _ κ).trans hh
    · cases hh
  · intro args h κ r hh
    simp only [I.LeastWatches_s] at hh ⊢
    split at hh
    · exact optC_law2 (F := fun (r : List Int) κ => κ (.own 0) [.row (.ints .i64 r)]) (fun b κ r hb => ⟨_, _, hb, fun _ => rfl⟩) hh
    · cases hh
  · intro hh; cases hh

-- loop.example/guardsonnets/laws.FnMostLeast
noncomputable def L.FnMostLeast_T : List (Nat × D.Spec) := [(46, S.DrawMostLeast_s), (45, I.MostLeast_s), (47, S.MostLeast_s), (22, I.NetOk_s), (23, L.alive_s), (48, I.LeastWatches_s), (30, L.sizeOf_s), (25, I.MostApart_s)]
def L.FnMostLeast_ann : Nat → List Nat × List Nat
  | 12 => ([3, 4, 5, 6, 7], [3, 4, 6])
  | _ => ([], [])
noncomputable def L.FnMostLeast_F (args : List V) (h : List E) (κ : V → List E → R) : R := funC TD (tableK L.FnMostLeast_T) L.FnMostLeast_ann (drawOk (tableP L.FnMostLeast_T)) FUEL Try.f13 args h κ
noncomputable def L.FnMostLeast_L12 (n : Nat) (σ : St) (k : X → St → R) : R := iterC 0 (fun σ k => denC TD (tableK L.FnMostLeast_T) L.FnMostLeast_ann (drawOk (tableP L.FnMostLeast_T)) 0 FUEL ((findLoop 12 (Try.f13.body.getD .skip)).getD .skip) σ k) [3, 4, 5, 6, 7] [3, 4, 6] n σ k
noncomputable def L.FnMostLeast_k12 (κ : V → List E → R) : X → St → R := (afterC TD (tableK L.FnMostLeast_T) L.FnMostLeast_ann (drawOk (tableP L.FnMostLeast_T)) 0 FUEL 12 (Try.f13.body.getD .skip) (finC TD 0 Try.f13 κ)).getD (fun _ _ => none)
noncomputable def L.FnMostLeast_step12 {α : Type} (x4 : Int) (x6 : Int) (x7 : Int) (r0 : List Int) (r1 : List Int) (next_ : Int × Int × (List Int) × (List Int) → α) (out0_ : Int × (List Int) → α) (fail_ : α) : α :=
  (bif decide (x7 < (↑r1.length : Int)) then (bif decide (0 ≤ x7) && decide (x7 < (↑r1.length : Int)) then (bif decide (x7.toNat < r1.length) then (optC (L.sizeOf_t (eli r1 x7.toNat)) (fun c_7 => (next_ (if c_7 > x6 then c_7 else x6, IntKind.i64.wrap (x7 + 1), r0, r1))) fail_) else fail_) else fail_) else (out0_ (x6, r0)))
theorem L.FnMostLeast_step12_nat {α γ : Type} (g : α → γ) (x4 : Int) (x6 : Int) (x7 : Int) (r0 : List Int) (r1 : List Int) (next_ : Int × Int × (List Int) × (List Int) → α) (out0_ : Int × (List Int) → α) (fail_ : α) : g (L.FnMostLeast_step12 x4 x6 x7 r0 r1 next_ out0_ fail_) = L.FnMostLeast_step12 x4 x6 x7 r0 r1 (fun s => g (next_ s)) (fun d => g (out0_ d)) (g fail_) := by
  unfold L.FnMostLeast_step12; simp only [apply_cnd g, apply_optC g, apply_sumC g]
noncomputable def L.FnMostLeast_run12 (x4 : Int) : Nat → Int × Int × (List Int) × (List Int) → Option (Int × (List Int))
  | 0, _ => none
  | n + 1, s_ => L.FnMostLeast_step12 x4 s_.1 s_.2.1 s_.2.2.1 s_.2.2.2 (L.FnMostLeast_run12 x4 n) (fun d => some d) none
theorem L.FnMostLeast_L12_run (x4 : Int) (n : Nat) (s_ : Int × Int × (List Int) × (List Int)) (k : X → St → R) : L.FnMostLeast_L12 n { n := 59, t := [(3, (.own 0)), (4, (.int .i64 x4)), (5, (.own 1)), (6, (.int .i64 s_.1)), (7, (.int .i64 s_.2.1))], h := [.row (.ints .i64 s_.2.2.1), .row (.ints .i64 s_.2.2.2)] } k = optC (L.FnMostLeast_run12 x4 n s_) (fun (r : Int × (List Int)) => k (.exit 0) { n := 59, t := [(3, (.own 0)), (4, (.int .i64 x4)), (6, (.int .i64 r.1))], h := [.row (.ints .i64 r.2)] }) none := by
  induction n generalizing s_ with
  | zero => rfl
  | succ n ih =>
    have hu : L.FnMostLeast_L12 (n + 1) { n := 59, t := [(3, (.own 0)), (4, (.int .i64 x4)), (5, (.own 1)), (6, (.int .i64 s_.1)), (7, (.int .i64 s_.2.1))], h := [.row (.ints .i64 s_.2.2.1), .row (.ints .i64 s_.2.2.2)] } k = L.FnMostLeast_step12 x4 s_.1 s_.2.1 s_.2.2.1 s_.2.2.2 (fun s_ => L.FnMostLeast_L12 n { n := 59, t := [(3, (.own 0)), (4, (.int .i64 x4)), (5, (.own 1)), (6, (.int .i64 s_.1)), (7, (.int .i64 s_.2.1))], h := [.row (.ints .i64 s_.2.2.1), .row (.ints .i64 s_.2.2.2)] } k) (fun d => k (.exit 0) { n := 59, t := [(3, (.own 0)), (4, (.int .i64 x4)), (6, (.int .i64 d.1))], h := [.row (.ints .i64 d.2)] }) none := by
      kernel_rfl
    have hs : (fun s_ : Int × Int × (List Int) × (List Int) => L.FnMostLeast_L12 n { n := 59, t := [(3, (.own 0)), (4, (.int .i64 x4)), (5, (.own 1)), (6, (.int .i64 s_.1)), (7, (.int .i64 s_.2.1))], h := [.row (.ints .i64 s_.2.2.1), .row (.ints .i64 s_.2.2.2)] } k) = fun s_ => optC (L.FnMostLeast_run12 x4 n s_) (fun (r : Int × (List Int)) => k (.exit 0) { n := 59, t := [(3, (.own 0)), (4, (.int .i64 x4)), (6, (.int .i64 r.1))], h := [.row (.ints .i64 r.2)] }) none := funext ih
    rw [hu, hs]
    exact (L.FnMostLeast_step12_nat (fun o => optC o (fun (r : Int × (List Int)) => k (.exit 0) { n := 59, t := [(3, (.own 0)), (4, (.int .i64 x4)), (6, (.int .i64 r.1))], h := [.row (.ints .i64 r.2)] }) none) x4 s_.1 s_.2.1 s_.2.2.1 s_.2.2.2 (L.FnMostLeast_run12 x4 n) (fun d => some d) none).symm
noncomputable def L.FnMostLeast_tree {α : Type} (code : List Int) (leaf0_ : Bool → α) (fail_ : α) : α :=
  (bif decide ((↑code.length : Int) > 1048576) then (leaf0_ true) else (optC (S.DrawMostLeast_t code) (fun c_1 => (optC (I.MostLeast_t c_1) (fun c_2 => (optC (S.MostLeast_t c_1) (fun c_3 => (bif !c_2 == c_3 then (leaf0_ false) else (bif decide (c_2 < 0) then (bif c_2 == -1 then (optC (I.NetOk_t c_1) (fun c_4 => (bif !c_4 then (optC (L.alive_t) (fun c_5 => (leaf0_ c_5)) fail_) else (leaf0_ false))) fail_) else (leaf0_ false)) else (optC (I.LeastWatches_t c_1) (fun c_6 => (optC (L.FnMostLeast_run12 c_2 FUEL (0, 0, c_1, c_6)) (fun qy_8 => (bif qy_8.1 == c_2 then (optC (I.MostApart_t qy_8.2) (fun c_9 => (bif decide (c_2 ≥ c_9) then (leaf0_ (decide (c_2 ≥ 1))) else (leaf0_ false))) fail_) else (leaf0_ false))) fail_)) fail_)))) fail_)) fail_)) fail_))
theorem L.FnMostLeast_tree_nat {α γ : Type} (g : α → γ) (code : List Int) (leaf0_ : Bool → α) (fail_ : α) : g (L.FnMostLeast_tree code leaf0_ fail_) = L.FnMostLeast_tree code (fun d => g (leaf0_ d)) (g fail_) := by
  unfold L.FnMostLeast_tree; simp only [apply_cnd g, apply_optC g, apply_sumC g]
noncomputable def L.FnMostLeast_t (code : List Int) : Option (Bool) := L.FnMostLeast_tree code (fun d => some d) none
theorem L.FnMostLeast_den (code : List Int) (κ : V → List E → R) : L.FnMostLeast_F [.ro true (.ints .u8 code)] [] κ = optC (L.FnMostLeast_t code) (fun (r : Bool) => κ (.bool r) []) none := by
  have hu : L.FnMostLeast_F [.ro true (.ints .u8 code)] [] κ = L.FnMostLeast_tree code (fun d => κ (.bool d) []) none := by
    refine Eq.trans (show L.FnMostLeast_F [.ro true (.ints .u8 code)] [] κ = (bif decide ((↑code.length : Int) > 1048576) then (κ (.bool true) []) else (optC (S.DrawMostLeast_t code) (fun c_1 => (optC (I.MostLeast_t c_1) (fun c_2 => (optC (S.MostLeast_t c_1) (fun c_3 => (bif !c_2 == c_3 then (κ (.bool false) []) else (bif decide (c_2 < 0) then (bif c_2 == -1 then (optC (I.NetOk_t c_1) (fun c_4 => (bif !c_4 then (optC (L.alive_t) (fun c_5 => (κ (.bool c_5) [])) none) else (κ (.bool false) []))) none) else (κ (.bool false) [])) else (optC (I.LeastWatches_t c_1) (fun c_6 => (L.FnMostLeast_L12 FUEL { n := 59, t := [(3, (.own 0)), (4, (.int .i64 c_2)), (5, (.own 1)), (6, (.int .i64 0)), (7, (.int .i64 0))], h := [.row (.ints .i64 c_1), .row (.ints .i64 c_6)] } (L.FnMostLeast_k12 κ))) none)))) none)) none)) none)) by kernel_rfl) ?_
    refine cnd_congr ?_ ?_
    · kernel_rfl
    · refine optC_congr (fun c_1 => ?_)
      refine optC_congr (fun c_2 => ?_)
      refine optC_congr (fun c_3 => ?_)
      refine cnd_congr ?_ ?_
      · kernel_rfl
      · refine cnd_congr ?_ ?_
        · kernel_rfl
        · refine optC_congr (fun c_6 => ?_)
          refine (L.FnMostLeast_L12_run c_2 FUEL (0, 0, c_1, c_6) (L.FnMostLeast_k12 κ)).trans (optC_congr (fun qy_8 => ?_))
          kernel_rfl
  rw [hu]
  exact (L.FnMostLeast_tree_nat (fun o => optC o (fun (r : Bool) => κ (.bool r) []) none) code (fun d => some d) none).symm
noncomputable def L.FnMostLeast_s : D.Spec where
  keep := true
  pure := true
  ds := [.int .u8]
  sp := fun args h κ => match args, h with
    | [.ro true (.ints .u8 code)], [] => optC (L.FnMostLeast_t code) (fun (r : Bool) => κ (.bool r) []) none
    | _, _ => none
theorem L.FnMostLeast_ok : SpecOk Try.prog 13 L.FnMostLeast_s := by
  refine SpecOk.of TDok mixed (T := L.FnMostLeast_T) ?_ (ann := L.FnMostLeast_ann) Try.func13 rfl (by decide +kernel) ?_ ?_ ?_
  · intro p hp
    simp only [L.FnMostLeast_T, List.mem_cons, List.not_mem_nil, or_false] at hp
    rcases hp with rfl | rfl | rfl | rfl | rfl | rfl | rfl | rfl
    · exact S.DrawMostLeast_ok
    · exact I.MostLeast_ok
    · exact S.MostLeast_ok
    · exact I.NetOk_ok
    · exact L.alive_ok
    · exact I.LeastWatches_ok
    · exact L.sizeOf_ok
    · exact I.MostApart_ok
  · intro args h κ r hh
    simp only [L.FnMostLeast_s] at hh
    split at hh
    · exact (L.FnMostLeast_den _ κ).trans hh
    · cases hh
  · intro args h κ r hh
    simp only [L.FnMostLeast_s] at hh ⊢
    split at hh
    · exact optC_law2 (F := fun (r : Bool) κ => κ (.bool r) []) (fun b κ r hb => ⟨_, _, hb, fun _ => rfl⟩) hh
    · cases hh
  · intro _ args h κ r hh
    simp only [L.FnMostLeast_s] at hh
    split at hh
    · exact ⟨rfl, fun _ => rfl⟩
    · cases hh

-- loop.example/guardsonnets/laws.FnExactMostLeast
noncomputable def L.FnExactMostLeast_T : List (Nat × D.Spec) := [(26, L.toIntS_s), (47, S.MostLeast_s), (45, I.MostLeast_s), (27, L.eqIntS_s)]
def L.FnExactMostLeast_ann : Nat → List Nat × List Nat
  | _ => ([], [])
noncomputable def L.FnExactMostLeast_F (args : List V) (h : List E) (κ : V → List E → R) : R := funC TD (tableK L.FnExactMostLeast_T) L.FnExactMostLeast_ann (drawOk (tableP L.FnExactMostLeast_T)) FUEL Try.f14 args h κ
noncomputable def L.FnExactMostLeast_tree {α : Type} (aNet : List Int) (leaf0_ : Bool → α) (fail_ : α) : α :=
  (bif decide ((↑aNet.length : Int) > 1048576) then (leaf0_ true) else (optC (L.toIntS_t aNet) (fun c_1 => (optC (S.MostLeast_t c_1) (fun c_2 => (optC (L.toIntS_t aNet) (fun c_3 => (optC (I.MostLeast_t c_3) (fun c_4 => (bif !c_4 == c_2 then (leaf0_ false) else (optC (L.toIntS_t aNet) (fun c_5 => (optC (L.eqIntS_t c_3 c_5) (fun c_6 => (bif !c_6 then (leaf0_ false) else (leaf0_ true))) fail_)) fail_))) fail_)) fail_)) fail_)) fail_))
theorem L.FnExactMostLeast_tree_nat {α γ : Type} (g : α → γ) (aNet : List Int) (leaf0_ : Bool → α) (fail_ : α) : g (L.FnExactMostLeast_tree aNet leaf0_ fail_) = L.FnExactMostLeast_tree aNet (fun d => g (leaf0_ d)) (g fail_) := by
  unfold L.FnExactMostLeast_tree; simp only [apply_cnd g, apply_optC g, apply_sumC g]
noncomputable def L.FnExactMostLeast_t (aNet : List Int) : Option (Bool) := L.FnExactMostLeast_tree aNet (fun d => some d) none
theorem L.FnExactMostLeast_den (aNet : List Int) (κ : V → List E → R) : L.FnExactMostLeast_F [.ro true (.ints .i64 aNet)] [] κ = optC (L.FnExactMostLeast_t aNet) (fun (r : Bool) => κ (.bool r) []) none := by
  have hu : L.FnExactMostLeast_F [.ro true (.ints .i64 aNet)] [] κ = L.FnExactMostLeast_tree aNet (fun d => κ (.bool d) []) none := by
    kernel_rfl
  rw [hu]
  exact (L.FnExactMostLeast_tree_nat (fun o => optC o (fun (r : Bool) => κ (.bool r) []) none) aNet (fun d => some d) none).symm
noncomputable def L.FnExactMostLeast_s : D.Spec where
  keep := true
  pure := true
  ds := [.int .i64]
  sp := fun args h κ => match args, h with
    | [.ro true (.ints .i64 aNet)], [] => optC (L.FnExactMostLeast_t aNet) (fun (r : Bool) => κ (.bool r) []) none
    | _, _ => none
theorem L.FnExactMostLeast_ok : SpecOk Try.prog 14 L.FnExactMostLeast_s := by
  refine SpecOk.of TDok mixed (T := L.FnExactMostLeast_T) ?_ (ann := L.FnExactMostLeast_ann) Try.func14 rfl (by decide +kernel) ?_ ?_ ?_
  · intro p hp
    simp only [L.FnExactMostLeast_T, List.mem_cons, List.not_mem_nil, or_false] at hp
    rcases hp with rfl | rfl | rfl | rfl
    · exact L.toIntS_ok
    · exact S.MostLeast_ok
    · exact I.MostLeast_ok
    · exact L.eqIntS_ok
  · intro args h κ r hh
    simp only [L.FnExactMostLeast_s] at hh
    split at hh
    · exact (L.FnExactMostLeast_den _ κ).trans hh
    · cases hh
  · intro args h κ r hh
    simp only [L.FnExactMostLeast_s] at hh ⊢
    split at hh
    · exact optC_law2 (F := fun (r : Bool) κ => κ (.bool r) []) (fun b κ r hb => ⟨_, _, hb, fun _ => rfl⟩) hh
    · cases hh
  · intro _ args h κ r hh
    simp only [L.FnExactMostLeast_s] at hh
    split at hh
    · exact ⟨rfl, fun _ => rfl⟩
    · cases hh

-- loop.example/guardsonnets/spec.DrawChainRow
noncomputable def S.DrawChainRow_T : List (Nat × D.Spec) := [(60, S.l20Open_s), (59, S.l20Net_s)]
def S.DrawChainRow_ann : Nat → List Nat × List Nat
  | _ => ([], [])
noncomputable def S.DrawChainRow_F (args : List V) (h : List E) (κ : V → List E → R) : R := funC TD (tableK S.DrawChainRow_T) S.DrawChainRow_ann (drawOk (tableP S.DrawChainRow_T)) FUEL Try.f49 args h κ
noncomputable def S.DrawChainRow_tree {α : Type} (code : List Int) (leaf0_ : List Int → α) (fail_ : α) : α :=
  (optC (S.l20Open_t code) (fun c_1 => (optC (S.l20Net_t c_1.fst c_1.snd 9) (fun c_2 => (leaf0_ c_2.snd.snd)) fail_)) fail_)
theorem S.DrawChainRow_tree_nat {α γ : Type} (g : α → γ) (code : List Int) (leaf0_ : List Int → α) (fail_ : α) : g (S.DrawChainRow_tree code leaf0_ fail_) = S.DrawChainRow_tree code (fun d => g (leaf0_ d)) (g fail_) := by
  unfold S.DrawChainRow_tree; simp only [apply_cnd g, apply_optC g, apply_sumC g]
noncomputable def S.DrawChainRow_t (code : List Int) : Option (List Int) := S.DrawChainRow_tree code (fun d => some d) none
theorem S.DrawChainRow_den (code : List Int) (κ : V → List E → R) : S.DrawChainRow_F [.ro true (.ints .u8 code)] [] κ = optC (S.DrawChainRow_t code) (fun (r : List Int) => κ (.own 0) [.row (.ints .i64 r)]) none := by
  have hu : S.DrawChainRow_F [.ro true (.ints .u8 code)] [] κ = S.DrawChainRow_tree code (fun d => κ (.own 0) [.row (.ints .i64 d)]) none := by
    kernel_rfl
  rw [hu]
  exact (S.DrawChainRow_tree_nat (fun o => optC o (fun (r : List Int) => κ (.own 0) [.row (.ints .i64 r)]) none) code (fun d => some d) none).symm
noncomputable def S.DrawChainRow_s : D.Spec where
  keep := true
  pure := false
  ds := [.int .u8]
  sp := fun args h κ => match args, h with
    | [.ro true (.ints .u8 code)], [] => optC (S.DrawChainRow_t code) (fun (r : List Int) => κ (.own 0) [.row (.ints .i64 r)]) none
    | _, _ => none
theorem S.DrawChainRow_ok : SpecOk Try.prog 49 S.DrawChainRow_s := by
  refine SpecOk.of TDok mixed (T := S.DrawChainRow_T) ?_ (ann := S.DrawChainRow_ann) Try.func49 rfl (by decide +kernel) ?_ ?_ ?_
  · intro p hp
    simp only [S.DrawChainRow_T, List.mem_cons, List.not_mem_nil, or_false] at hp
    rcases hp with rfl | rfl
    · exact S.l20Open_ok
    · exact S.l20Net_ok
  · intro args h κ r hh
    simp only [S.DrawChainRow_s] at hh
    split at hh
    · exact (S.DrawChainRow_den _ κ).trans hh
    · cases hh
  · intro args h κ r hh
    simp only [S.DrawChainRow_s] at hh ⊢
    split at hh
    · exact optC_law2 (F := fun (r : List Int) κ => κ (.own 0) [.row (.ints .i64 r)]) (fun b κ r hb => ⟨_, _, hb, fun _ => rfl⟩) hh
    · cases hh
  · intro hh; cases hh

-- loop.example/guardsonnets/impl.ChainRow
noncomputable def I.ChainRow_T : List (Nat × D.Spec) := [(22, I.NetOk_s), (73, I.chainIn_s)]
def I.ChainRow_ann : Nat → List Nat × List Nat
  | _ => ([], [])
noncomputable def I.ChainRow_F (args : List V) (h : List E) (κ : V → List E → R) : R := funC TD (tableK I.ChainRow_T) I.ChainRow_ann (drawOk (tableP I.ChainRow_T)) FUEL Try.f50 args h κ
noncomputable def I.ChainRow_tree {α : Type} (net : List Int) (leaf0_ : List Int → α) (fail_ : α) : α :=
  (optC (I.NetOk_t net) (fun c_1 => (bif !c_1 then (leaf0_ ([])) else (optC (I.chainIn_t net) (fun c_2 => (leaf0_ ([c_2.fst, c_2.snd.fst, c_2.snd.snd.fst, c_2.snd.snd.snd.fst, c_2.snd.snd.snd.snd.fst, c_2.snd.snd.snd.snd.snd]))) fail_))) fail_)
theorem I.ChainRow_tree_nat {α γ : Type} (g : α → γ) (net : List Int) (leaf0_ : List Int → α) (fail_ : α) : g (I.ChainRow_tree net leaf0_ fail_) = I.ChainRow_tree net (fun d => g (leaf0_ d)) (g fail_) := by
  unfold I.ChainRow_tree; simp only [apply_cnd g, apply_optC g, apply_sumC g]
noncomputable def I.ChainRow_t (net : List Int) : Option (List Int) := I.ChainRow_tree net (fun d => some d) none
theorem I.ChainRow_den (net : List Int) (κ : V → List E → R) : I.ChainRow_F [.ro false (.ints .i64 net)] [] κ = optC (I.ChainRow_t net) (fun (r : List Int) => κ (.own 0) [.row (.ints .i64 r)]) none := by
  have hu : I.ChainRow_F [.ro false (.ints .i64 net)] [] κ = I.ChainRow_tree net (fun d => κ (.own 0) [.row (.ints .i64 d)]) none := by
    kernel_rfl
  rw [hu]
  exact (I.ChainRow_tree_nat (fun o => optC o (fun (r : List Int) => κ (.own 0) [.row (.ints .i64 r)]) none) net (fun d => some d) none).symm
noncomputable def I.ChainRow_s : D.Spec where
  keep := false
  pure := false
  ds := [.int .i64]
  sp := fun args h κ => match args, h with
    | [.ro false (.ints .i64 net)], [] => optC (I.ChainRow_t net) (fun (r : List Int) => κ (.own 0) [.row (.ints .i64 r)]) none
    | _, _ => none
theorem I.ChainRow_ok : SpecOk Try.prog 50 I.ChainRow_s := by
  refine SpecOk.of TDok mixed (T := I.ChainRow_T) ?_ (ann := I.ChainRow_ann) Try.func50 rfl (by decide +kernel) ?_ ?_ ?_
  · intro p hp
    simp only [I.ChainRow_T, List.mem_cons, List.not_mem_nil, or_false] at hp
    rcases hp with rfl | rfl
    · exact I.NetOk_ok
    · exact I.chainIn_ok
  · intro args h κ r hh
    simp only [I.ChainRow_s] at hh
    split at hh
    · exact (I.ChainRow_den _ κ).trans hh
    · cases hh
  · intro args h κ r hh
    simp only [I.ChainRow_s] at hh ⊢
    split at hh
    · exact optC_law2 (F := fun (r : List Int) κ => κ (.own 0) [.row (.ints .i64 r)]) (fun b κ r hb => ⟨_, _, hb, fun _ => rfl⟩) hh
    · cases hh
  · intro hh; cases hh

-- loop.example/guardsonnets/spec.FewestWatch
noncomputable def S.FewestWatch_T : List (Nat × D.Spec) := [(58, S.NetOk_s), (91, S.l2Watch_s), (65, S.l1Size_s)]
def S.FewestWatch_ann : Nat → List Nat × List Nat
  | 5 => ([0, 3, 4], [3])
  | _ => ([], [])
noncomputable def S.FewestWatch_F (args : List V) (h : List E) (κ : V → List E → R) : R := funC TD (tableK S.FewestWatch_T) S.FewestWatch_ann (drawOk (tableP S.FewestWatch_T)) FUEL Try.f80 args h κ
noncomputable def S.FewestWatch_L5 (n : Nat) (σ : St) (k : X → St → R) : R := iterC 0 (fun σ k => denC TD (tableK S.FewestWatch_T) S.FewestWatch_ann (drawOk (tableP S.FewestWatch_T)) 0 FUEL ((findLoop 5 (Try.f80.body.getD .skip)).getD .skip) σ k) [0, 3, 4] [3] n σ k
noncomputable def S.FewestWatch_k5 (κ : V → List E → R) : X → St → R := (afterC TD (tableK S.FewestWatch_T) S.FewestWatch_ann (drawOk (tableP S.FewestWatch_T)) 0 FUEL 5 (Try.f80.body.getD .skip) (finC TD 0 Try.f80 κ)).getD (fun _ _ => none)
noncomputable def S.FewestWatch_step5 {α : Type} (x0 : List Int) (x3 : Int) (x4 : Int) (next_ : Int × Int → α) (out0_ : Int → α) (fail_ : α) : α :=
  (bif decide (x4 < IntKind.i64.wrap (1 * 2 ^ min (↑x0.length : Int).toNat IntKind.i64.bits)) then (optC (S.l2Watch_t x0 x4) (fun c_2 => (bif c_2 then (optC (S.l1Size_t x4) (fun c_3 => (next_ (if c_3 < x3 then c_3 else x3, IntKind.i64.wrap (x4 + 1)))) fail_) else (next_ (x3, IntKind.i64.wrap (x4 + 1))))) fail_) else (out0_ x3))
theorem S.FewestWatch_step5_nat {α γ : Type} (g : α → γ) (x0 : List Int) (x3 : Int) (x4 : Int) (next_ : Int × Int → α) (out0_ : Int → α) (fail_ : α) : g (S.FewestWatch_step5 x0 x3 x4 next_ out0_ fail_) = S.FewestWatch_step5 x0 x3 x4 (fun s => g (next_ s)) (fun d => g (out0_ d)) (g fail_) := by
  unfold S.FewestWatch_step5; simp only [apply_cnd g, apply_optC g, apply_sumC g]
noncomputable def S.FewestWatch_run5 (x0 : List Int) : Nat → Int × Int → Option (Int)
  | 0, _ => none
  | n + 1, s_ => S.FewestWatch_step5 x0 s_.1 s_.2 (S.FewestWatch_run5 x0 n) (fun d => some d) none
theorem S.FewestWatch_L5_run (x0 : List Int) (n : Nat) (s_ : Int × Int) (k : X → St → R) : S.FewestWatch_L5 n { n := 25, t := [(0, (.ro false (.ints .i64 x0))), (3, (.int .i64 s_.1)), (4, (.int .i64 s_.2))], h := [] } k = optC (S.FewestWatch_run5 x0 n s_) (fun (r : Int) => k (.exit 0) { n := 25, t := [(3, (.int .i64 r))], h := [] }) none := by
  induction n generalizing s_ with
  | zero => rfl
  | succ n ih =>
    have hu : S.FewestWatch_L5 (n + 1) { n := 25, t := [(0, (.ro false (.ints .i64 x0))), (3, (.int .i64 s_.1)), (4, (.int .i64 s_.2))], h := [] } k = S.FewestWatch_step5 x0 s_.1 s_.2 (fun s_ => S.FewestWatch_L5 n { n := 25, t := [(0, (.ro false (.ints .i64 x0))), (3, (.int .i64 s_.1)), (4, (.int .i64 s_.2))], h := [] } k) (fun d => k (.exit 0) { n := 25, t := [(3, (.int .i64 d))], h := [] }) none := by
      kernel_rfl
    have hs : (fun s_ : Int × Int => S.FewestWatch_L5 n { n := 25, t := [(0, (.ro false (.ints .i64 x0))), (3, (.int .i64 s_.1)), (4, (.int .i64 s_.2))], h := [] } k) = fun s_ => optC (S.FewestWatch_run5 x0 n s_) (fun (r : Int) => k (.exit 0) { n := 25, t := [(3, (.int .i64 r))], h := [] }) none := funext ih
    rw [hu, hs]
    exact (S.FewestWatch_step5_nat (fun o => optC o (fun (r : Int) => k (.exit 0) { n := 25, t := [(3, (.int .i64 r))], h := [] }) none) x0 s_.1 s_.2 (S.FewestWatch_run5 x0 n) (fun d => some d) none).symm
noncomputable def S.FewestWatch_tree {α : Type} (net : List Int) (leaf0_ : Int → α) (fail_ : α) : α :=
  (optC (S.NetOk_t net) (fun c_1 => (bif !c_1 then (leaf0_ (-1)) else (optC (S.FewestWatch_run5 net FUEL ((↑net.length : Int), 0)) (fun qy_4 => (leaf0_ qy_4)) fail_))) fail_)
theorem S.FewestWatch_tree_nat {α γ : Type} (g : α → γ) (net : List Int) (leaf0_ : Int → α) (fail_ : α) : g (S.FewestWatch_tree net leaf0_ fail_) = S.FewestWatch_tree net (fun d => g (leaf0_ d)) (g fail_) := by
  unfold S.FewestWatch_tree; simp only [apply_cnd g, apply_optC g, apply_sumC g]
noncomputable def S.FewestWatch_t (net : List Int) : Option (Int) := S.FewestWatch_tree net (fun d => some d) none
theorem S.FewestWatch_den (net : List Int) (κ : V → List E → R) : S.FewestWatch_F [.ro false (.ints .i64 net)] [] κ = optC (S.FewestWatch_t net) (fun (r : Int) => κ (.int .i64 r) []) none := by
  have hu : S.FewestWatch_F [.ro false (.ints .i64 net)] [] κ = S.FewestWatch_tree net (fun d => κ (.int .i64 d) []) none := by
    refine Eq.trans (show S.FewestWatch_F [.ro false (.ints .i64 net)] [] κ = (optC (S.NetOk_t net) (fun c_1 => (bif !c_1 then (κ (.int .i64 (-1)) []) else (S.FewestWatch_L5 FUEL { n := 25, t := [(0, (.ro false (.ints .i64 net))), (3, (.int .i64 ((↑net.length : Int)))), (4, (.int .i64 0))], h := [] } (S.FewestWatch_k5 κ)))) none) by kernel_rfl) ?_
    refine optC_congr (fun c_1 => ?_)
    refine cnd_congr ?_ ?_
    · kernel_rfl
    · refine (S.FewestWatch_L5_run net FUEL ((↑net.length : Int), 0) (S.FewestWatch_k5 κ)).trans (optC_congr (fun qy_4 => ?_))
      kernel_rfl
  rw [hu]
  exact (S.FewestWatch_tree_nat (fun o => optC o (fun (r : Int) => κ (.int .i64 r) []) none) net (fun d => some d) none).symm
noncomputable def S.FewestWatch_s : D.Spec where
  keep := false
  pure := true
  ds := [.int .i64]
  sp := fun args h κ => match args, h with
    | [.ro false (.ints .i64 net)], [] => optC (S.FewestWatch_t net) (fun (r : Int) => κ (.int .i64 r) []) none
    | _, _ => none
theorem S.FewestWatch_ok : SpecOk Try.prog 80 S.FewestWatch_s := by
  refine SpecOk.of TDok mixed (T := S.FewestWatch_T) ?_ (ann := S.FewestWatch_ann) Try.func80 rfl (by decide +kernel) ?_ ?_ ?_
  · intro p hp
    simp only [S.FewestWatch_T, List.mem_cons, List.not_mem_nil, or_false] at hp
    rcases hp with rfl | rfl | rfl
    · exact S.NetOk_ok
    · exact S.l2Watch_ok
    · exact S.l1Size_ok
  · intro args h κ r hh
    simp only [S.FewestWatch_s] at hh
    split at hh
    · exact (S.FewestWatch_den _ κ).trans hh
    · cases hh
  · intro args h κ r hh
    simp only [S.FewestWatch_s] at hh ⊢
    split at hh
    · exact optC_law2 (F := fun (r : Int) κ => κ (.int .i64 r) []) (fun b κ r hb => ⟨_, _, hb, fun _ => rfl⟩) hh
    · cases hh
  · intro _ args h κ r hh
    simp only [S.FewestWatch_s] at hh
    split at hh
    · exact ⟨rfl, fun _ => rfl⟩
    · cases hh

-- loop.example/guardsonnets/spec.ChainRow
noncomputable def S.ChainRow_T : List (Nat × D.Spec) := [(58, S.NetOk_s), (40, S.FewestNeeds_s), (80, S.FewestWatch_s), (21, S.FewestApart_s), (29, S.MostApart_s), (47, S.MostLeast_s), (43, S.MostNeeds_s)]
def S.ChainRow_ann : Nat → List Nat × List Nat
  | _ => ([], [])
noncomputable def S.ChainRow_F (args : List V) (h : List E) (κ : V → List E → R) : R := funC TD (tableK S.ChainRow_T) S.ChainRow_ann (drawOk (tableP S.ChainRow_T)) FUEL Try.f52 args h κ
noncomputable def S.ChainRow_tree {α : Type} (net : List Int) (leaf0_ : List Int → α) (fail_ : α) : α :=
  (optC (S.NetOk_t net) (fun c_1 => (bif !c_1 then (leaf0_ ([])) else (optC (S.FewestNeeds_t net) (fun c_2 => (optC (S.FewestWatch_t net) (fun c_3 => (optC (S.FewestApart_t net) (fun c_4 => (optC (S.MostApart_t net) (fun c_5 => (optC (S.MostLeast_t net) (fun c_6 => (optC (S.MostNeeds_t net) (fun c_7 => (leaf0_ ([c_2, c_3, c_4, c_5, c_6, c_7]))) fail_)) fail_)) fail_)) fail_)) fail_)) fail_))) fail_)
theorem S.ChainRow_tree_nat {α γ : Type} (g : α → γ) (net : List Int) (leaf0_ : List Int → α) (fail_ : α) : g (S.ChainRow_tree net leaf0_ fail_) = S.ChainRow_tree net (fun d => g (leaf0_ d)) (g fail_) := by
  unfold S.ChainRow_tree; simp only [apply_cnd g, apply_optC g, apply_sumC g]
noncomputable def S.ChainRow_t (net : List Int) : Option (List Int) := S.ChainRow_tree net (fun d => some d) none
theorem S.ChainRow_den (net : List Int) (κ : V → List E → R) : S.ChainRow_F [.ro false (.ints .i64 net)] [] κ = optC (S.ChainRow_t net) (fun (r : List Int) => κ (.own 0) [.row (.ints .i64 r)]) none := by
  have hu : S.ChainRow_F [.ro false (.ints .i64 net)] [] κ = S.ChainRow_tree net (fun d => κ (.own 0) [.row (.ints .i64 d)]) none := by
    kernel_rfl
  rw [hu]
  exact (S.ChainRow_tree_nat (fun o => optC o (fun (r : List Int) => κ (.own 0) [.row (.ints .i64 r)]) none) net (fun d => some d) none).symm
noncomputable def S.ChainRow_s : D.Spec where
  keep := false
  pure := false
  ds := [.int .i64]
  sp := fun args h κ => match args, h with
    | [.ro false (.ints .i64 net)], [] => optC (S.ChainRow_t net) (fun (r : List Int) => κ (.own 0) [.row (.ints .i64 r)]) none
    | _, _ => none
theorem S.ChainRow_ok : SpecOk Try.prog 52 S.ChainRow_s := by
  refine SpecOk.of TDok mixed (T := S.ChainRow_T) ?_ (ann := S.ChainRow_ann) Try.func52 rfl (by decide +kernel) ?_ ?_ ?_
  · intro p hp
    simp only [S.ChainRow_T, List.mem_cons, List.not_mem_nil, or_false] at hp
    rcases hp with rfl | rfl | rfl | rfl | rfl | rfl | rfl
    · exact S.NetOk_ok
    · exact S.FewestNeeds_ok
    · exact S.FewestWatch_ok
    · exact S.FewestApart_ok
    · exact S.MostApart_ok
    · exact S.MostLeast_ok
    · exact S.MostNeeds_ok
  · intro args h κ r hh
    simp only [S.ChainRow_s] at hh
    split at hh
    · exact (S.ChainRow_den _ κ).trans hh
    · cases hh
  · intro args h κ r hh
    simp only [S.ChainRow_s] at hh ⊢
    split at hh
    · exact optC_law2 (F := fun (r : List Int) κ => κ (.own 0) [.row (.ints .i64 r)]) (fun b κ r hb => ⟨_, _, hb, fun _ => rfl⟩) hh
    · cases hh
  · intro hh; cases hh

-- loop.example/guardsonnets/laws.sameInts
noncomputable def L.sameInts_T : List (Nat × D.Spec) := []
def L.sameInts_ann : Nat → List Nat × List Nat
  | 4 => ([0, 1, 5], [4])
  | _ => ([], [])
noncomputable def L.sameInts_F (args : List V) (h : List E) (κ : V → List E → R) : R := funC TD (tableK L.sameInts_T) L.sameInts_ann (drawOk (tableP L.sameInts_T)) FUEL Try.f51 args h κ
noncomputable def L.sameInts_L4 (n : Nat) (σ : St) (k : X → St → R) : R := iterC 0 (fun σ k => denC TD (tableK L.sameInts_T) L.sameInts_ann (drawOk (tableP L.sameInts_T)) 0 FUEL ((findLoop 4 (Try.f51.body.getD .skip)).getD .skip) σ k) [0, 1, 5] [4] n σ k
noncomputable def L.sameInts_k4 (κ : V → List E → R) : X → St → R := (afterC TD (tableK L.sameInts_T) L.sameInts_ann (drawOk (tableP L.sameInts_T)) 0 FUEL 4 (Try.f51.body.getD .skip) (finC TD 0 Try.f51 κ)).getD (fun _ _ => none)
noncomputable def L.sameInts_step4 {α : Type} (x0 : List Int) (x1 : List Int) (x5 : Int) (next_ : Int → α) (out0_ : Bool → α) (out1_ : Unit → α) (fail_ : α) : α :=
  (bif decide (x5 < (↑x0.length : Int)) then (bif decide (0 ≤ x5) && decide (x5 < (↑x0.length : Int)) then (bif decide (0 ≤ x5) && decide (x5 < (↑x1.length : Int)) then (bif !eli x0 x5.toNat == eli x1 x5.toNat then (out0_ false) else (next_ (IntKind.i64.wrap (x5 + 1)))) else fail_) else fail_) else (out1_ ()))
theorem L.sameInts_step4_nat {α γ : Type} (g : α → γ) (x0 : List Int) (x1 : List Int) (x5 : Int) (next_ : Int → α) (out0_ : Bool → α) (out1_ : Unit → α) (fail_ : α) : g (L.sameInts_step4 x0 x1 x5 next_ out0_ out1_ fail_) = L.sameInts_step4 x0 x1 x5 (fun s => g (next_ s)) (fun d => g (out0_ d)) (fun d => g (out1_ d)) (g fail_) := by
  unfold L.sameInts_step4; simp only [apply_cnd g, apply_optC g, apply_sumC g]
noncomputable def L.sameInts_run4 (x0 : List Int) (x1 : List Int) : Nat → Int → Option ((Bool) ⊕ (Unit))
  | 0, _ => none
  | n + 1, s_ => L.sameInts_step4 x0 x1 s_ (L.sameInts_run4 x0 x1 n) (fun d => some ((Sum.inl d))) (fun d => some ((Sum.inr d))) none
theorem L.sameInts_L4_run (x0 : List Int) (x1 : List Int) (n : Nat) (s_ : Int) (k : X → St → R) : L.sameInts_L4 n { n := 26, t := [(0, (.ro false (.ints .i64 x0))), (1, (.ro false (.ints .i64 x1))), (5, (.int .i64 s_))], h := [] } k = optC (L.sameInts_run4 x0 x1 n s_) (fun (r : (Bool) ⊕ (Unit)) => (sumC r (fun (r : Bool) => k (.ret) { n := 26, t := [(4, (.bool r))], h := [] }) (fun (r : Unit) => k (.exit 0) { n := 26, t := [(4, .junk)], h := [] }))) none := by
  induction n generalizing s_ with
  | zero => rfl
  | succ n ih =>
    have hu : L.sameInts_L4 (n + 1) { n := 26, t := [(0, (.ro false (.ints .i64 x0))), (1, (.ro false (.ints .i64 x1))), (5, (.int .i64 s_))], h := [] } k = L.sameInts_step4 x0 x1 s_ (fun s_ => L.sameInts_L4 n { n := 26, t := [(0, (.ro false (.ints .i64 x0))), (1, (.ro false (.ints .i64 x1))), (5, (.int .i64 s_))], h := [] } k) (fun d => k (.ret) { n := 26, t := [(4, (.bool d))], h := [] }) (fun d => k (.exit 0) { n := 26, t := [(4, .junk)], h := [] }) none := by
      kernel_rfl
    have hs : (fun s_ : Int => L.sameInts_L4 n { n := 26, t := [(0, (.ro false (.ints .i64 x0))), (1, (.ro false (.ints .i64 x1))), (5, (.int .i64 s_))], h := [] } k) = fun s_ => optC (L.sameInts_run4 x0 x1 n s_) (fun (r : (Bool) ⊕ (Unit)) => (sumC r (fun (r : Bool) => k (.ret) { n := 26, t := [(4, (.bool r))], h := [] }) (fun (r : Unit) => k (.exit 0) { n := 26, t := [(4, .junk)], h := [] }))) none := funext ih
    rw [hu, hs]
    exact (L.sameInts_step4_nat (fun o => optC o (fun (r : (Bool) ⊕ (Unit)) => (sumC r (fun (r : Bool) => k (.ret) { n := 26, t := [(4, (.bool r))], h := [] }) (fun (r : Unit) => k (.exit 0) { n := 26, t := [(4, .junk)], h := [] }))) none) x0 x1 s_ (L.sameInts_run4 x0 x1 n) (fun d => some ((Sum.inl d))) (fun d => some ((Sum.inr d))) none).symm
noncomputable def L.sameInts_tree {α : Type} (a : List Int) (b_ : List Int) (leaf0_ : Bool → α) (fail_ : α) : α :=
  (bif !(↑a.length : Int) == (↑b_.length : Int) then (leaf0_ false) else (optC (L.sameInts_run4 a b_ FUEL 0) (fun qy_1 => (sumC qy_1 (fun (qy_1 : Bool) => (leaf0_ qy_1)) (fun (qy_1 : Unit) => (leaf0_ true)))) fail_))
theorem L.sameInts_tree_nat {α γ : Type} (g : α → γ) (a : List Int) (b_ : List Int) (leaf0_ : Bool → α) (fail_ : α) : g (L.sameInts_tree a b_ leaf0_ fail_) = L.sameInts_tree a b_ (fun d => g (leaf0_ d)) (g fail_) := by
  unfold L.sameInts_tree; simp only [apply_cnd g, apply_optC g, apply_sumC g]
noncomputable def L.sameInts_t (a : List Int) (b_ : List Int) : Option (Bool) := L.sameInts_tree a b_ (fun d => some d) none
theorem L.sameInts_den (a : List Int) (b_ : List Int) (κ : V → List E → R) : L.sameInts_F [.ro false (.ints .i64 a), .ro false (.ints .i64 b_)] [] κ = optC (L.sameInts_t a b_) (fun (r : Bool) => κ (.bool r) []) none := by
  have hu : L.sameInts_F [.ro false (.ints .i64 a), .ro false (.ints .i64 b_)] [] κ = L.sameInts_tree a b_ (fun d => κ (.bool d) []) none := by
    refine Eq.trans (show L.sameInts_F [.ro false (.ints .i64 a), .ro false (.ints .i64 b_)] [] κ = (bif !(↑a.length : Int) == (↑b_.length : Int) then (κ (.bool false) []) else (L.sameInts_L4 FUEL { n := 26, t := [(0, (.ro false (.ints .i64 a))), (1, (.ro false (.ints .i64 b_))), (5, (.int .i64 0))], h := [] } (L.sameInts_k4 κ))) by kernel_rfl) ?_
    refine cnd_congr ?_ ?_
    · kernel_rfl
    · refine (L.sameInts_L4_run a b_ FUEL 0 (L.sameInts_k4 κ)).trans (optC_congr (fun qy_1 => ?_))
      rcases qy_1 with qy_1 | qy_1
      · kernel_rfl
      · kernel_rfl
  rw [hu]
  exact (L.sameInts_tree_nat (fun o => optC o (fun (r : Bool) => κ (.bool r) []) none) a b_ (fun d => some d) none).symm
noncomputable def L.sameInts_s : D.Spec where
  keep := false
  pure := true
  ds := [.int .i64, .int .i64]
  sp := fun args h κ => match args, h with
    | [.ro false (.ints .i64 a), .ro false (.ints .i64 b_)], [] => optC (L.sameInts_t a b_) (fun (r : Bool) => κ (.bool r) []) none
    | _, _ => none
theorem L.sameInts_ok : SpecOk Try.prog 51 L.sameInts_s := by
  refine SpecOk.of TDok mixed (T := L.sameInts_T) ?_ (ann := L.sameInts_ann) Try.func51 rfl (by decide +kernel) ?_ ?_ ?_
  · intro p hp; cases hp
  · intro args h κ r hh
    simp only [L.sameInts_s] at hh
    split at hh
    · exact (L.sameInts_den _ _ κ).trans hh
    · cases hh
  · intro args h κ r hh
    simp only [L.sameInts_s] at hh ⊢
    split at hh
    · exact optC_law2 (F := fun (r : Bool) κ => κ (.bool r) []) (fun b κ r hb => ⟨_, _, hb, fun _ => rfl⟩) hh
    · cases hh
  · intro _ args h κ r hh
    simp only [L.sameInts_s] at hh
    split at hh
    · exact ⟨rfl, fun _ => rfl⟩
    · cases hh

-- loop.example/guardsonnets/laws.FnChainRow
noncomputable def L.FnChainRow_T : List (Nat × D.Spec) := [(49, S.DrawChainRow_s), (50, I.ChainRow_s), (52, S.ChainRow_s), (51, L.sameInts_s), (22, I.NetOk_s), (23, L.alive_s), (34, I.WiresOf_s)]
def L.FnChainRow_ann : Nat → List Nat × List Nat
  | 10 => ([3, 4, 5], [2, 3, 4])
  | _ => ([], [])
noncomputable def L.FnChainRow_F (args : List V) (h : List E) (κ : V → List E → R) : R := funC TD (tableK L.FnChainRow_T) L.FnChainRow_ann (drawOk (tableP L.FnChainRow_T)) FUEL Try.f15 args h κ
noncomputable def L.FnChainRow_L10 (n : Nat) (σ : St) (k : X → St → R) : R := iterC 0 (fun σ k => denC TD (tableK L.FnChainRow_T) L.FnChainRow_ann (drawOk (tableP L.FnChainRow_T)) 0 FUEL ((findLoop 10 (Try.f15.body.getD .skip)).getD .skip) σ k) [3, 4, 5] [2, 3, 4] n σ k
noncomputable def L.FnChainRow_k10 (κ : V → List E → R) : X → St → R := (afterC TD (tableK L.FnChainRow_T) L.FnChainRow_ann (drawOk (tableP L.FnChainRow_T)) 0 FUEL 10 (Try.f15.body.getD .skip) (finC TD 0 Try.f15 κ)).getD (fun _ _ => none)
noncomputable def L.FnChainRow_step10 {α : Type} (x5 : Int) (r0 : List Int) (r1 : List Int) (next_ : Int × (List Int) × (List Int) → α) (out0_ : Bool × (List Int) × (List Int) → α) (out1_ : (List Int) × (List Int) → α) (fail_ : α) : α :=
  (bif decide (x5 < (↑r1.length : Int)) then (bif decide (0 ≤ x5) && decide (x5 < (↑r1.length : Int)) then (bif decide (x5.toNat < r1.length) then (bif decide (0 ≤ IntKind.i64.wrap (x5 - 1)) && decide (IntKind.i64.wrap (x5 - 1) < (↑r1.length : Int)) then (bif decide ((IntKind.i64.wrap (x5 - 1)).toNat < r1.length) then (bif decide (eli r1 x5.toNat < eli r1 (IntKind.i64.wrap (x5 - 1)).toNat) then (out0_ (false, r0, r1)) else (next_ (IntKind.i64.wrap (x5 + 1), r0, r1))) else fail_) else fail_) else fail_) else fail_) else (out1_ (r0, r1)))
theorem L.FnChainRow_step10_nat {α γ : Type} (g : α → γ) (x5 : Int) (r0 : List Int) (r1 : List Int) (next_ : Int × (List Int) × (List Int) → α) (out0_ : Bool × (List Int) × (List Int) → α) (out1_ : (List Int) × (List Int) → α) (fail_ : α) : g (L.FnChainRow_step10 x5 r0 r1 next_ out0_ out1_ fail_) = L.FnChainRow_step10 x5 r0 r1 (fun s => g (next_ s)) (fun d => g (out0_ d)) (fun d => g (out1_ d)) (g fail_) := by
  unfold L.FnChainRow_step10; simp only [apply_cnd g, apply_optC g, apply_sumC g]
noncomputable def L.FnChainRow_run10 : Nat → Int × (List Int) × (List Int) → Option ((Bool × (List Int) × (List Int)) ⊕ ((List Int) × (List Int)))
  | 0, _ => none
  | n + 1, s_ => L.FnChainRow_step10 s_.1 s_.2.1 s_.2.2 (L.FnChainRow_run10 n) (fun d => some ((Sum.inl d))) (fun d => some ((Sum.inr d))) none
theorem L.FnChainRow_L10_run (n : Nat) (s_ : Int × (List Int) × (List Int)) (k : X → St → R) : L.FnChainRow_L10 n { n := 65, t := [(3, (.own 0)), (4, (.own 1)), (5, (.int .i64 s_.1))], h := [.row (.ints .i64 s_.2.1), .row (.ints .i64 s_.2.2)] } k = optC (L.FnChainRow_run10 n s_) (fun (r : (Bool × (List Int) × (List Int)) ⊕ ((List Int) × (List Int))) => (sumC r (fun (r : Bool × (List Int) × (List Int)) => k (.ret) { n := 65, t := [(2, (.bool r.1)), (3, (.own 0)), (4, (.own 1))], h := [.row (.ints .i64 r.2.1), .row (.ints .i64 r.2.2)] }) (fun (r : (List Int) × (List Int)) => k (.exit 0) { n := 65, t := [(2, .junk), (3, (.own 0)), (4, (.own 1))], h := [.row (.ints .i64 r.1), .row (.ints .i64 r.2)] }))) none := by
  induction n generalizing s_ with
  | zero => rfl
  | succ n ih =>
    have hu : L.FnChainRow_L10 (n + 1) { n := 65, t := [(3, (.own 0)), (4, (.own 1)), (5, (.int .i64 s_.1))], h := [.row (.ints .i64 s_.2.1), .row (.ints .i64 s_.2.2)] } k = L.FnChainRow_step10 s_.1 s_.2.1 s_.2.2 (fun s_ => L.FnChainRow_L10 n { n := 65, t := [(3, (.own 0)), (4, (.own 1)), (5, (.int .i64 s_.1))], h := [.row (.ints .i64 s_.2.1), .row (.ints .i64 s_.2.2)] } k) (fun d => k (.ret) { n := 65, t := [(2, (.bool d.1)), (3, (.own 0)), (4, (.own 1))], h := [.row (.ints .i64 d.2.1), .row (.ints .i64 d.2.2)] }) (fun d => k (.exit 0) { n := 65, t := [(2, .junk), (3, (.own 0)), (4, (.own 1))], h := [.row (.ints .i64 d.1), .row (.ints .i64 d.2)] }) none := by
      kernel_rfl
    have hs : (fun s_ : Int × (List Int) × (List Int) => L.FnChainRow_L10 n { n := 65, t := [(3, (.own 0)), (4, (.own 1)), (5, (.int .i64 s_.1))], h := [.row (.ints .i64 s_.2.1), .row (.ints .i64 s_.2.2)] } k) = fun s_ => optC (L.FnChainRow_run10 n s_) (fun (r : (Bool × (List Int) × (List Int)) ⊕ ((List Int) × (List Int))) => (sumC r (fun (r : Bool × (List Int) × (List Int)) => k (.ret) { n := 65, t := [(2, (.bool r.1)), (3, (.own 0)), (4, (.own 1))], h := [.row (.ints .i64 r.2.1), .row (.ints .i64 r.2.2)] }) (fun (r : (List Int) × (List Int)) => k (.exit 0) { n := 65, t := [(2, .junk), (3, (.own 0)), (4, (.own 1))], h := [.row (.ints .i64 r.1), .row (.ints .i64 r.2)] }))) none := funext ih
    rw [hu, hs]
    exact (L.FnChainRow_step10_nat (fun o => optC o (fun (r : (Bool × (List Int) × (List Int)) ⊕ ((List Int) × (List Int))) => (sumC r (fun (r : Bool × (List Int) × (List Int)) => k (.ret) { n := 65, t := [(2, (.bool r.1)), (3, (.own 0)), (4, (.own 1))], h := [.row (.ints .i64 r.2.1), .row (.ints .i64 r.2.2)] }) (fun (r : (List Int) × (List Int)) => k (.exit 0) { n := 65, t := [(2, .junk), (3, (.own 0)), (4, (.own 1))], h := [.row (.ints .i64 r.1), .row (.ints .i64 r.2)] }))) none) s_.1 s_.2.1 s_.2.2 (L.FnChainRow_run10 n) (fun d => some ((Sum.inl d))) (fun d => some ((Sum.inr d))) none).symm
noncomputable def L.FnChainRow_tree {α : Type} (code : List Int) (leaf0_ : Bool → α) (fail_ : α) : α :=
  (bif decide ((↑code.length : Int) > 1048576) then (leaf0_ true) else (optC (S.DrawChainRow_t code) (fun c_1 => (optC (I.ChainRow_t c_1) (fun c_2 => (optC (S.ChainRow_t c_1) (fun c_3 => (optC (L.sameInts_t c_2 c_3) (fun c_4 => (bif !c_4 then (leaf0_ false) else (bif (↑c_2.length : Int) == 0 then (optC (I.NetOk_t c_1) (fun c_5 => (bif !c_5 then (optC (L.alive_t) (fun c_6 => (leaf0_ c_6)) fail_) else (leaf0_ false))) fail_) else (optC (L.FnChainRow_run10 FUEL (1, c_1, c_2)) (fun qy_7 => (sumC qy_7 (fun (qy_7 : Bool × (List Int) × (List Int)) => (leaf0_ qy_7.1)) (fun (qy_7 : (List Int) × (List Int)) => (bif (↑qy_7.2.length : Int) == 6 then (bif decide (0 < (↑qy_7.2.length : Int)) then (bif decide (0 < qy_7.2.length) then (bif decide (eli qy_7.2 0 ≥ 1) then (optC (I.WiresOf_t qy_7.1) (fun c_8 => (bif decide (c_8 > 0) then (leaf0_ true) else (bif decide (0 < (↑qy_7.2.length : Int)) then (bif decide (0 < qy_7.2.length) then (leaf0_ (eli qy_7.2 0 == (↑qy_7.1.length : Int))) else fail_) else fail_))) fail_) else (leaf0_ false)) else fail_) else fail_) else (leaf0_ false))))) fail_)))) fail_)) fail_)) fail_)) fail_))
theorem L.FnChainRow_tree_nat {α γ : Type} (g : α → γ) (code : List Int) (leaf0_ : Bool → α) (fail_ : α) : g (L.FnChainRow_tree code leaf0_ fail_) = L.FnChainRow_tree code (fun d => g (leaf0_ d)) (g fail_) := by
  unfold L.FnChainRow_tree; simp only [apply_cnd g, apply_optC g, apply_sumC g]
noncomputable def L.FnChainRow_t (code : List Int) : Option (Bool) := L.FnChainRow_tree code (fun d => some d) none
theorem L.FnChainRow_den (code : List Int) (κ : V → List E → R) : L.FnChainRow_F [.ro true (.ints .u8 code)] [] κ = optC (L.FnChainRow_t code) (fun (r : Bool) => κ (.bool r) []) none := by
  have hu : L.FnChainRow_F [.ro true (.ints .u8 code)] [] κ = L.FnChainRow_tree code (fun d => κ (.bool d) []) none := by
    refine Eq.trans (show L.FnChainRow_F [.ro true (.ints .u8 code)] [] κ = (bif decide ((↑code.length : Int) > 1048576) then (κ (.bool true) []) else (optC (S.DrawChainRow_t code) (fun c_1 => (optC (I.ChainRow_t c_1) (fun c_2 => (optC (S.ChainRow_t c_1) (fun c_3 => (optC (L.sameInts_t c_2 c_3) (fun c_4 => (bif !c_4 then (κ (.bool false) []) else (bif (↑c_2.length : Int) == 0 then (optC (I.NetOk_t c_1) (fun c_5 => (bif !c_5 then (optC (L.alive_t) (fun c_6 => (κ (.bool c_6) [])) none) else (κ (.bool false) []))) none) else (L.FnChainRow_L10 FUEL { n := 65, t := [(3, (.own 0)), (4, (.own 1)), (5, (.int .i64 1))], h := [.row (.ints .i64 c_1), .row (.ints .i64 c_2)] } (L.FnChainRow_k10 κ))))) none)) none)) none)) none)) by kernel_rfl) ?_
    refine cnd_congr ?_ ?_
    · kernel_rfl
    · refine optC_congr (fun c_1 => ?_)
      refine optC_congr (fun c_2 => ?_)
      refine optC_congr (fun c_3 => ?_)
      refine optC_congr (fun c_4 => ?_)
      refine cnd_congr ?_ ?_
      · kernel_rfl
      · refine cnd_congr ?_ ?_
        · kernel_rfl
        · refine (L.FnChainRow_L10_run FUEL (1, c_1, c_2) (L.FnChainRow_k10 κ)).trans (optC_congr (fun qy_7 => ?_))
          rcases qy_7 with qy_7 | qy_7
          · kernel_rfl
          · kernel_rfl
  rw [hu]
  exact (L.FnChainRow_tree_nat (fun o => optC o (fun (r : Bool) => κ (.bool r) []) none) code (fun d => some d) none).symm
noncomputable def L.FnChainRow_s : D.Spec where
  keep := true
  pure := true
  ds := [.int .u8]
  sp := fun args h κ => match args, h with
    | [.ro true (.ints .u8 code)], [] => optC (L.FnChainRow_t code) (fun (r : Bool) => κ (.bool r) []) none
    | _, _ => none
theorem L.FnChainRow_ok : SpecOk Try.prog 15 L.FnChainRow_s := by
  refine SpecOk.of TDok mixed (T := L.FnChainRow_T) ?_ (ann := L.FnChainRow_ann) Try.func15 rfl (by decide +kernel) ?_ ?_ ?_
  · intro p hp
    simp only [L.FnChainRow_T, List.mem_cons, List.not_mem_nil, or_false] at hp
    rcases hp with rfl | rfl | rfl | rfl | rfl | rfl | rfl
    · exact S.DrawChainRow_ok
    · exact I.ChainRow_ok
    · exact S.ChainRow_ok
    · exact L.sameInts_ok
    · exact I.NetOk_ok
    · exact L.alive_ok
    · exact I.WiresOf_ok
  · intro args h κ r hh
    simp only [L.FnChainRow_s] at hh
    split at hh
    · exact (L.FnChainRow_den _ κ).trans hh
    · cases hh
  · intro args h κ r hh
    simp only [L.FnChainRow_s] at hh ⊢
    split at hh
    · exact optC_law2 (F := fun (r : Bool) κ => κ (.bool r) []) (fun b κ r hb => ⟨_, _, hb, fun _ => rfl⟩) hh
    · cases hh
  · intro _ args h κ r hh
    simp only [L.FnChainRow_s] at hh
    split at hh
    · exact ⟨rfl, fun _ => rfl⟩
    · cases hh

-- loop.example/guardsonnets/laws.markIntS
noncomputable def L.markIntS_T : List (Nat × D.Spec) := []
def L.markIntS_ann : Nat → List Nat × List Nat
  | 2 => ([0, 1, 5], [1])
  | _ => ([], [])
noncomputable def L.markIntS_F (args : List V) (h : List E) (κ : V → List E → R) : R := funC TD (tableK L.markIntS_T) L.markIntS_ann (drawOk (tableP L.markIntS_T)) FUEL Try.f53 args h κ
noncomputable def L.markIntS_L2 (n : Nat) (σ : St) (k : X → St → R) : R := iterC 1 (fun σ k => denC TD (tableK L.markIntS_T) L.markIntS_ann (drawOk (tableP L.markIntS_T)) 1 FUEL ((findLoop 2 (Try.f53.body.getD .skip)).getD .skip) σ k) [0, 1, 5] [1] n σ k
noncomputable def L.markIntS_k2 (κ : V → List E → R) : X → St → R := (afterC TD (tableK L.markIntS_T) L.markIntS_ann (drawOk (tableP L.markIntS_T)) 1 FUEL 2 (Try.f53.body.getD .skip) (finC TD 1 Try.f53 κ)).getD (fun _ _ => none)
noncomputable def L.markIntS_step2 {α : Type} (x1 : Int) (x5 : Int) (r0 : List Int) (next_ : Int × Int × (List Int) → α) (out0_ : Int × (List Int) → α) (fail_ : α) : α :=
  (bif decide (x5 < (↑r0.length : Int)) then (bif decide (0 ≤ x5) && decide (x5 < (↑r0.length : Int)) then (bif decide (x5.toNat < r0.length) then (next_ (IntKind.i64.wrap (x1 + 1), IntKind.i64.wrap (x5 + 1), r0.set x5.toNat x1)) else fail_) else fail_) else (out0_ (x1, r0)))
theorem L.markIntS_step2_nat {α γ : Type} (g : α → γ) (x1 : Int) (x5 : Int) (r0 : List Int) (next_ : Int × Int × (List Int) → α) (out0_ : Int × (List Int) → α) (fail_ : α) : g (L.markIntS_step2 x1 x5 r0 next_ out0_ fail_) = L.markIntS_step2 x1 x5 r0 (fun s => g (next_ s)) (fun d => g (out0_ d)) (g fail_) := by
  unfold L.markIntS_step2; simp only [apply_cnd g, apply_optC g, apply_sumC g]
noncomputable def L.markIntS_run2 : Nat → Int × Int × (List Int) → Option (Int × (List Int))
  | 0, _ => none
  | n + 1, s_ => L.markIntS_step2 s_.1 s_.2.1 s_.2.2 (L.markIntS_run2 n) (fun d => some d) none
theorem L.markIntS_L2_run (n : Nat) (s_ : Int × Int × (List Int)) (k : X → St → R) : L.markIntS_L2 n { n := 19, t := [(0, (.own 0)), (1, (.int .i64 s_.1)), (5, (.int .i64 s_.2.1))], h := [.row (.ints .i64 s_.2.2)] } k = optC (L.markIntS_run2 n s_) (fun (r : Int × (List Int)) => k (.exit 0) { n := 19, t := [(1, (.int .i64 r.1))], h := [.row (.ints .i64 r.2)] }) none := by
  induction n generalizing s_ with
  | zero => rfl
  | succ n ih =>
    have hu : L.markIntS_L2 (n + 1) { n := 19, t := [(0, (.own 0)), (1, (.int .i64 s_.1)), (5, (.int .i64 s_.2.1))], h := [.row (.ints .i64 s_.2.2)] } k = L.markIntS_step2 s_.1 s_.2.1 s_.2.2 (fun s_ => L.markIntS_L2 n { n := 19, t := [(0, (.own 0)), (1, (.int .i64 s_.1)), (5, (.int .i64 s_.2.1))], h := [.row (.ints .i64 s_.2.2)] } k) (fun d => k (.exit 0) { n := 19, t := [(1, (.int .i64 d.1))], h := [.row (.ints .i64 d.2)] }) none := by
      kernel_rfl
    have hs : (fun s_ : Int × Int × (List Int) => L.markIntS_L2 n { n := 19, t := [(0, (.own 0)), (1, (.int .i64 s_.1)), (5, (.int .i64 s_.2.1))], h := [.row (.ints .i64 s_.2.2)] } k) = fun s_ => optC (L.markIntS_run2 n s_) (fun (r : Int × (List Int)) => k (.exit 0) { n := 19, t := [(1, (.int .i64 r.1))], h := [.row (.ints .i64 r.2)] }) none := funext ih
    rw [hu, hs]
    exact (L.markIntS_step2_nat (fun o => optC o (fun (r : Int × (List Int)) => k (.exit 0) { n := 19, t := [(1, (.int .i64 r.1))], h := [.row (.ints .i64 r.2)] }) none) s_.1 s_.2.1 s_.2.2 (L.markIntS_run2 n) (fun d => some d) none).symm
noncomputable def L.markIntS_tree {α : Type} (a : List Int) (k_ : Int) (leaf0_ : Int × (List Int) → α) (fail_ : α) : α :=
  (optC (L.markIntS_run2 FUEL (k_, 0, a)) (fun qy_1 => (leaf0_ (qy_1.1, qy_1.2))) fail_)
theorem L.markIntS_tree_nat {α γ : Type} (g : α → γ) (a : List Int) (k_ : Int) (leaf0_ : Int × (List Int) → α) (fail_ : α) : g (L.markIntS_tree a k_ leaf0_ fail_) = L.markIntS_tree a k_ (fun d => g (leaf0_ d)) (g fail_) := by
  unfold L.markIntS_tree; simp only [apply_cnd g, apply_optC g, apply_sumC g]
noncomputable def L.markIntS_t (a : List Int) (k_ : Int) : Option (Int × (List Int)) := L.markIntS_tree a k_ (fun d => some d) none
theorem L.markIntS_den (a : List Int) (k_ : Int) (κ : V → List E → R) : L.markIntS_F [.own 0, .int .i64 k_] [.row (.ints .i64 a)] κ = optC (L.markIntS_t a k_) (fun (r : Int × (List Int)) => κ (.int .i64 r.1) [.row (.ints .i64 r.2)]) none := by
  have hu : L.markIntS_F [.own 0, .int .i64 k_] [.row (.ints .i64 a)] κ = L.markIntS_tree a k_ (fun d => κ (.int .i64 d.1) [.row (.ints .i64 d.2)]) none := by
    refine Eq.trans (show L.markIntS_F [.own 0, .int .i64 k_] [.row (.ints .i64 a)] κ = (L.markIntS_L2 FUEL { n := 19, t := [(0, (.own 0)), (1, (.int .i64 k_)), (5, (.int .i64 0))], h := [.row (.ints .i64 a)] } (L.markIntS_k2 κ)) by kernel_rfl) ?_
    refine (L.markIntS_L2_run FUEL (k_, 0, a) (L.markIntS_k2 κ)).trans (optC_congr (fun qy_1 => ?_))
    kernel_rfl
  rw [hu]
  exact (L.markIntS_tree_nat (fun o => optC o (fun (r : Int × (List Int)) => κ (.int .i64 r.1) [.row (.ints .i64 r.2)]) none) a k_ (fun d => some d) none).symm
noncomputable def L.markIntS_s : D.Spec where
  keep := false
  pure := false
  ds := [.pointer 0, .invalid]
  sp := fun args h κ => match args, h with
    | [.own 0, .int .i64 k_], [.row (.ints .i64 a)] => optC (L.markIntS_t a k_) (fun (r : Int × (List Int)) => κ (.int .i64 r.1) [.row (.ints .i64 r.2)]) none
    | _, _ => none
theorem L.markIntS_ok : SpecOk Try.prog 53 L.markIntS_s := by
  refine SpecOk.of TDok mixed (T := L.markIntS_T) ?_ (ann := L.markIntS_ann) Try.func53 rfl (by decide +kernel) ?_ ?_ ?_
  · intro p hp; cases hp
  · intro args h κ r hh
    simp only [L.markIntS_s] at hh
    split at hh
    · exact (L.markIntS_den _ _ κ).trans hh
    · cases hh
  · intro args h κ r hh
    simp only [L.markIntS_s] at hh ⊢
    split at hh
    · exact optC_law2 (F := fun (r : Int × (List Int)) κ => κ (.int .i64 r.1) [.row (.ints .i64 r.2)]) (fun b κ r hb => ⟨_, _, hb, fun _ => rfl⟩) hh
    · cases hh
  · intro hh; cases hh

-- loop.example/guardsonnets/laws.heldIntS
noncomputable def L.heldIntS_T : List (Nat × D.Spec) := []
def L.heldIntS_ann : Nat → List Nat × List Nat
  | 2 => ([0, 1, 5], [1, 4])
  | _ => ([], [])
noncomputable def L.heldIntS_F (args : List V) (h : List E) (κ : V → List E → R) : R := funC TD (tableK L.heldIntS_T) L.heldIntS_ann (drawOk (tableP L.heldIntS_T)) FUEL Try.f54 args h κ
noncomputable def L.heldIntS_L2 (n : Nat) (σ : St) (k : X → St → R) : R := iterC 0 (fun σ k => denC TD (tableK L.heldIntS_T) L.heldIntS_ann (drawOk (tableP L.heldIntS_T)) 0 FUEL ((findLoop 2 (Try.f54.body.getD .skip)).getD .skip) σ k) [0, 1, 5] [1, 4] n σ k
noncomputable def L.heldIntS_k2 (κ : V → List E → R) : X → St → R := (afterC TD (tableK L.heldIntS_T) L.heldIntS_ann (drawOk (tableP L.heldIntS_T)) 0 FUEL 2 (Try.f54.body.getD .skip) (finC TD 0 Try.f54 κ)).getD (fun _ _ => none)
noncomputable def L.heldIntS_step2 {α : Type} (x0 : List Int) (x1 : Int) (x5 : Int) (next_ : Int × Int → α) (out0_ : Int × Int → α) (out1_ : Int → α) (fail_ : α) : α :=
  (bif decide (x5 < (↑x0.length : Int)) then (bif decide (0 ≤ x5) && decide (x5 < (↑x0.length : Int)) then (bif !eli x0 x5.toNat == x1 then (out0_ (x1, -1)) else (next_ (IntKind.i64.wrap (x1 + 1), IntKind.i64.wrap (x5 + 1)))) else fail_) else (out1_ x1))
theorem L.heldIntS_step2_nat {α γ : Type} (g : α → γ) (x0 : List Int) (x1 : Int) (x5 : Int) (next_ : Int × Int → α) (out0_ : Int × Int → α) (out1_ : Int → α) (fail_ : α) : g (L.heldIntS_step2 x0 x1 x5 next_ out0_ out1_ fail_) = L.heldIntS_step2 x0 x1 x5 (fun s => g (next_ s)) (fun d => g (out0_ d)) (fun d => g (out1_ d)) (g fail_) := by
  unfold L.heldIntS_step2; simp only [apply_cnd g, apply_optC g, apply_sumC g]
noncomputable def L.heldIntS_run2 (x0 : List Int) : Nat → Int × Int → Option ((Int × Int) ⊕ (Int))
  | 0, _ => none
  | n + 1, s_ => L.heldIntS_step2 x0 s_.1 s_.2 (L.heldIntS_run2 x0 n) (fun d => some ((Sum.inl d))) (fun d => some ((Sum.inr d))) none
theorem L.heldIntS_L2_run (x0 : List Int) (n : Nat) (s_ : Int × Int) (k : X → St → R) : L.heldIntS_L2 n { n := 21, t := [(0, (.ro false (.ints .i64 x0))), (1, (.int .i64 s_.1)), (5, (.int .i64 s_.2))], h := [] } k = optC (L.heldIntS_run2 x0 n s_) (fun (r : (Int × Int) ⊕ (Int)) => (sumC r (fun (r : Int × Int) => k (.ret) { n := 21, t := [(1, (.int .i64 r.1)), (4, (.int .i64 r.2))], h := [] }) (fun (r : Int) => k (.exit 0) { n := 21, t := [(1, (.int .i64 r)), (4, .junk)], h := [] }))) none := by
  induction n generalizing s_ with
  | zero => rfl
  | succ n ih =>
    have hu : L.heldIntS_L2 (n + 1) { n := 21, t := [(0, (.ro false (.ints .i64 x0))), (1, (.int .i64 s_.1)), (5, (.int .i64 s_.2))], h := [] } k = L.heldIntS_step2 x0 s_.1 s_.2 (fun s_ => L.heldIntS_L2 n { n := 21, t := [(0, (.ro false (.ints .i64 x0))), (1, (.int .i64 s_.1)), (5, (.int .i64 s_.2))], h := [] } k) (fun d => k (.ret) { n := 21, t := [(1, (.int .i64 d.1)), (4, (.int .i64 d.2))], h := [] }) (fun d => k (.exit 0) { n := 21, t := [(1, (.int .i64 d)), (4, .junk)], h := [] }) none := by
      kernel_rfl
    have hs : (fun s_ : Int × Int => L.heldIntS_L2 n { n := 21, t := [(0, (.ro false (.ints .i64 x0))), (1, (.int .i64 s_.1)), (5, (.int .i64 s_.2))], h := [] } k) = fun s_ => optC (L.heldIntS_run2 x0 n s_) (fun (r : (Int × Int) ⊕ (Int)) => (sumC r (fun (r : Int × Int) => k (.ret) { n := 21, t := [(1, (.int .i64 r.1)), (4, (.int .i64 r.2))], h := [] }) (fun (r : Int) => k (.exit 0) { n := 21, t := [(1, (.int .i64 r)), (4, .junk)], h := [] }))) none := funext ih
    rw [hu, hs]
    exact (L.heldIntS_step2_nat (fun o => optC o (fun (r : (Int × Int) ⊕ (Int)) => (sumC r (fun (r : Int × Int) => k (.ret) { n := 21, t := [(1, (.int .i64 r.1)), (4, (.int .i64 r.2))], h := [] }) (fun (r : Int) => k (.exit 0) { n := 21, t := [(1, (.int .i64 r)), (4, .junk)], h := [] }))) none) x0 s_.1 s_.2 (L.heldIntS_run2 x0 n) (fun d => some ((Sum.inl d))) (fun d => some ((Sum.inr d))) none).symm
noncomputable def L.heldIntS_tree {α : Type} (a : List Int) (k_ : Int) (leaf0_ : Int → α) (fail_ : α) : α :=
  (optC (L.heldIntS_run2 a FUEL (k_, 0)) (fun qy_1 => (sumC qy_1 (fun (qy_1 : Int × Int) => (leaf0_ qy_1.2)) (fun (qy_1 : Int) => (leaf0_ qy_1)))) fail_)
theorem L.heldIntS_tree_nat {α γ : Type} (g : α → γ) (a : List Int) (k_ : Int) (leaf0_ : Int → α) (fail_ : α) : g (L.heldIntS_tree a k_ leaf0_ fail_) = L.heldIntS_tree a k_ (fun d => g (leaf0_ d)) (g fail_) := by
  unfold L.heldIntS_tree; simp only [apply_cnd g, apply_optC g, apply_sumC g]
noncomputable def L.heldIntS_t (a : List Int) (k_ : Int) : Option (Int) := L.heldIntS_tree a k_ (fun d => some d) none
theorem L.heldIntS_den (a : List Int) (k_ : Int) (κ : V → List E → R) : L.heldIntS_F [.ro false (.ints .i64 a), .int .i64 k_] [] κ = optC (L.heldIntS_t a k_) (fun (r : Int) => κ (.int .i64 r) []) none := by
  have hu : L.heldIntS_F [.ro false (.ints .i64 a), .int .i64 k_] [] κ = L.heldIntS_tree a k_ (fun d => κ (.int .i64 d) []) none := by
    refine Eq.trans (show L.heldIntS_F [.ro false (.ints .i64 a), .int .i64 k_] [] κ = (L.heldIntS_L2 FUEL { n := 21, t := [(0, (.ro false (.ints .i64 a))), (1, (.int .i64 k_)), (5, (.int .i64 0))], h := [] } (L.heldIntS_k2 κ)) by kernel_rfl) ?_
    refine (L.heldIntS_L2_run a FUEL (k_, 0) (L.heldIntS_k2 κ)).trans (optC_congr (fun qy_1 => ?_))
    rcases qy_1 with qy_1 | qy_1
    · kernel_rfl
    · kernel_rfl
  rw [hu]
  exact (L.heldIntS_tree_nat (fun o => optC o (fun (r : Int) => κ (.int .i64 r) []) none) a k_ (fun d => some d) none).symm
noncomputable def L.heldIntS_s : D.Spec where
  keep := false
  pure := true
  ds := [.int .i64, .invalid]
  sp := fun args h κ => match args, h with
    | [.ro false (.ints .i64 a), .int .i64 k_], [] => optC (L.heldIntS_t a k_) (fun (r : Int) => κ (.int .i64 r) []) none
    | _, _ => none
theorem L.heldIntS_ok : SpecOk Try.prog 54 L.heldIntS_s := by
  refine SpecOk.of TDok mixed (T := L.heldIntS_T) ?_ (ann := L.heldIntS_ann) Try.func54 rfl (by decide +kernel) ?_ ?_ ?_
  · intro p hp; cases hp
  · intro args h κ r hh
    simp only [L.heldIntS_s] at hh
    split at hh
    · exact (L.heldIntS_den _ _ κ).trans hh
    · cases hh
  · intro args h κ r hh
    simp only [L.heldIntS_s] at hh ⊢
    split at hh
    · exact optC_law2 (F := fun (r : Int) κ => κ (.int .i64 r) []) (fun b κ r hb => ⟨_, _, hb, fun _ => rfl⟩) hh
    · cases hh
  · intro _ args h κ r hh
    simp only [L.heldIntS_s] at hh
    split at hh
    · exact ⟨rfl, fun _ => rfl⟩
    · cases hh

-- loop.example/guardsonnets/laws.FnExactChainRow
noncomputable def L.FnExactChainRow_T : List (Nat × D.Spec) := [(26, L.toIntS_s), (52, S.ChainRow_s), (50, I.ChainRow_s), (27, L.eqIntS_s), (53, L.markIntS_s), (54, L.heldIntS_s)]
def L.FnExactChainRow_ann : Nat → List Nat × List Nat
  | _ => ([], [])
noncomputable def L.FnExactChainRow_F (args : List V) (h : List E) (κ : V → List E → R) : R := funC TD (tableK L.FnExactChainRow_T) L.FnExactChainRow_ann (drawOk (tableP L.FnExactChainRow_T)) FUEL Try.f16 args h κ
noncomputable def L.FnExactChainRow_tree {α : Type} (aNet : List Int) (leaf0_ : Bool → α) (fail_ : α) : α :=
  (bif decide ((↑aNet.length : Int) > 1048576) then (leaf0_ true) else (optC (L.toIntS_t aNet) (fun c_1 => (optC (S.ChainRow_t c_1) (fun c_2 => (optC (L.toIntS_t aNet) (fun c_3 => (optC (I.ChainRow_t c_3) (fun c_4 => (optC (L.eqIntS_t c_4 c_2) (fun c_5 => (bif !c_5 then (leaf0_ false) else (optC (L.toIntS_t aNet) (fun c_6 => (optC (L.eqIntS_t c_3 c_6) (fun c_7 => (bif !c_7 then (leaf0_ false) else (optC (L.markIntS_t c_3 1) (fun c_8 => (bif decide (c_8.fst < 0) then (leaf0_ false) else (optC (L.eqIntS_t c_4 c_2) (fun c_9 => (bif !c_9 then (leaf0_ false) else (optC (L.markIntS_t c_4 1) (fun c_10 => (optC (L.heldIntS_t c_10.snd 1) (fun c_11 => (bif decide (c_11 < 0) then (leaf0_ false) else (bif !c_11 == c_10.fst then (leaf0_ false) else (optC (L.toIntS_t aNet) (fun c_12 => (optC (I.ChainRow_t c_12) (fun c_13 => (optC (L.eqIntS_t c_13 c_2) (fun c_14 => (bif !c_14 then (leaf0_ false) else (optC (L.heldIntS_t c_10.snd 1) (fun c_15 => (bif decide (c_15 < 0) then (leaf0_ false) else (bif !c_15 == c_10.fst then (leaf0_ false) else (leaf0_ true)))) fail_))) fail_)) fail_)) fail_)))) fail_)) fail_))) fail_))) fail_))) fail_)) fail_))) fail_)) fail_)) fail_)) fail_)) fail_))
theorem L.FnExactChainRow_tree_nat {α γ : Type} (g : α → γ) (aNet : List Int) (leaf0_ : Bool → α) (fail_ : α) : g (L.FnExactChainRow_tree aNet leaf0_ fail_) = L.FnExactChainRow_tree aNet (fun d => g (leaf0_ d)) (g fail_) := by
  unfold L.FnExactChainRow_tree; simp only [apply_cnd g, apply_optC g, apply_sumC g]
noncomputable def L.FnExactChainRow_t (aNet : List Int) : Option (Bool) := L.FnExactChainRow_tree aNet (fun d => some d) none
theorem L.FnExactChainRow_den (aNet : List Int) (κ : V → List E → R) : L.FnExactChainRow_F [.ro true (.ints .i64 aNet)] [] κ = optC (L.FnExactChainRow_t aNet) (fun (r : Bool) => κ (.bool r) []) none := by
  have hu : L.FnExactChainRow_F [.ro true (.ints .i64 aNet)] [] κ = L.FnExactChainRow_tree aNet (fun d => κ (.bool d) []) none := by
    kernel_rfl
  rw [hu]
  exact (L.FnExactChainRow_tree_nat (fun o => optC o (fun (r : Bool) => κ (.bool r) []) none) aNet (fun d => some d) none).symm
noncomputable def L.FnExactChainRow_s : D.Spec where
  keep := true
  pure := true
  ds := [.int .i64]
  sp := fun args h κ => match args, h with
    | [.ro true (.ints .i64 aNet)], [] => optC (L.FnExactChainRow_t aNet) (fun (r : Bool) => κ (.bool r) []) none
    | _, _ => none
theorem L.FnExactChainRow_ok : SpecOk Try.prog 16 L.FnExactChainRow_s := by
  refine SpecOk.of TDok mixed (T := L.FnExactChainRow_T) ?_ (ann := L.FnExactChainRow_ann) Try.func16 rfl (by decide +kernel) ?_ ?_ ?_
  · intro p hp
    simp only [L.FnExactChainRow_T, List.mem_cons, List.not_mem_nil, or_false] at hp
    rcases hp with rfl | rfl | rfl | rfl | rfl | rfl
    · exact L.toIntS_ok
    · exact S.ChainRow_ok
    · exact I.ChainRow_ok
    · exact L.eqIntS_ok
    · exact L.markIntS_ok
    · exact L.heldIntS_ok
  · intro args h κ r hh
    simp only [L.FnExactChainRow_s] at hh
    split at hh
    · exact (L.FnExactChainRow_den _ κ).trans hh
    · cases hh
  · intro args h κ r hh
    simp only [L.FnExactChainRow_s] at hh ⊢
    split at hh
    · exact optC_law2 (F := fun (r : Bool) κ => κ (.bool r) []) (fun b κ r hb => ⟨_, _, hb, fun _ => rfl⟩) hh
    · cases hh
  · intro _ args h κ r hh
    simp only [L.FnExactChainRow_s] at hh
    split at hh
    · exact ⟨rfl, fun _ => rfl⟩
    · cases hh

-- loop.example/guardsonnets/spec.DrawEvenWatchedOk
noncomputable def S.DrawEvenWatchedOk_T : List (Nat × D.Spec) := [(60, S.l20Open_s), (59, S.l20Net_s)]
def S.DrawEvenWatchedOk_ann : Nat → List Nat × List Nat
  | _ => ([], [])
noncomputable def S.DrawEvenWatchedOk_F (args : List V) (h : List E) (κ : V → List E → R) : R := funC TD (tableK S.DrawEvenWatchedOk_T) S.DrawEvenWatchedOk_ann (drawOk (tableP S.DrawEvenWatchedOk_T)) FUEL Try.f55 args h κ
noncomputable def S.DrawEvenWatchedOk_tree {α : Type} (code : List Int) (leaf0_ : List Int → α) (fail_ : α) : α :=
  (optC (S.l20Open_t code) (fun c_1 => (optC (S.l20Net_t c_1.fst c_1.snd 9) (fun c_2 => (leaf0_ c_2.snd.snd)) fail_)) fail_)
theorem S.DrawEvenWatchedOk_tree_nat {α γ : Type} (g : α → γ) (code : List Int) (leaf0_ : List Int → α) (fail_ : α) : g (S.DrawEvenWatchedOk_tree code leaf0_ fail_) = S.DrawEvenWatchedOk_tree code (fun d => g (leaf0_ d)) (g fail_) := by
  unfold S.DrawEvenWatchedOk_tree; simp only [apply_cnd g, apply_optC g, apply_sumC g]
noncomputable def S.DrawEvenWatchedOk_t (code : List Int) : Option (List Int) := S.DrawEvenWatchedOk_tree code (fun d => some d) none
theorem S.DrawEvenWatchedOk_den (code : List Int) (κ : V → List E → R) : S.DrawEvenWatchedOk_F [.ro true (.ints .u8 code)] [] κ = optC (S.DrawEvenWatchedOk_t code) (fun (r : List Int) => κ (.own 0) [.row (.ints .i64 r)]) none := by
  have hu : S.DrawEvenWatchedOk_F [.ro true (.ints .u8 code)] [] κ = S.DrawEvenWatchedOk_tree code (fun d => κ (.own 0) [.row (.ints .i64 d)]) none := by
    kernel_rfl
  rw [hu]
  exact (S.DrawEvenWatchedOk_tree_nat (fun o => optC o (fun (r : List Int) => κ (.own 0) [.row (.ints .i64 r)]) none) code (fun d => some d) none).symm
noncomputable def S.DrawEvenWatchedOk_s : D.Spec where
  keep := true
  pure := false
  ds := [.int .u8]
  sp := fun args h κ => match args, h with
    | [.ro true (.ints .u8 code)], [] => optC (S.DrawEvenWatchedOk_t code) (fun (r : List Int) => κ (.own 0) [.row (.ints .i64 r)]) none
    | _, _ => none
theorem S.DrawEvenWatchedOk_ok : SpecOk Try.prog 55 S.DrawEvenWatchedOk_s := by
  refine SpecOk.of TDok mixed (T := S.DrawEvenWatchedOk_T) ?_ (ann := S.DrawEvenWatchedOk_ann) Try.func55 rfl (by decide +kernel) ?_ ?_ ?_
  · intro p hp
    simp only [S.DrawEvenWatchedOk_T, List.mem_cons, List.not_mem_nil, or_false] at hp
    rcases hp with rfl | rfl
    · exact S.l20Open_ok
    · exact S.l20Net_ok
  · intro args h κ r hh
    simp only [S.DrawEvenWatchedOk_s] at hh
    split at hh
    · exact (S.DrawEvenWatchedOk_den _ κ).trans hh
    · cases hh
  · intro args h κ r hh
    simp only [S.DrawEvenWatchedOk_s] at hh ⊢
    split at hh
    · exact optC_law2 (F := fun (r : List Int) κ => κ (.own 0) [.row (.ints .i64 r)]) (fun b κ r hb => ⟨_, _, hb, fun _ => rfl⟩) hh
    · cases hh
  · intro hh; cases hh

-- loop.example/guardsonnets/impl.EvenWatchedOk
noncomputable def I.EvenWatchedOk_T : List (Nat × D.Spec) := [(22, I.NetOk_s), (73, I.chainIn_s)]
def I.EvenWatchedOk_ann : Nat → List Nat × List Nat
  | _ => ([], [])
noncomputable def I.EvenWatchedOk_F (args : List V) (h : List E) (κ : V → List E → R) : R := funC TD (tableK I.EvenWatchedOk_T) I.EvenWatchedOk_ann (drawOk (tableP I.EvenWatchedOk_T)) FUEL Try.f56 args h κ
noncomputable def I.EvenWatchedOk_tree {α : Type} (net : List Int) (leaf0_ : Bool → α) (fail_ : α) : α :=
  (optC (I.NetOk_t net) (fun c_1 => (bif !c_1 then (leaf0_ false) else (optC (I.chainIn_t net) (fun c_2 => (leaf0_ (c_2.snd.fst == c_2.snd.snd.snd.snd.fst))) fail_))) fail_)
theorem I.EvenWatchedOk_tree_nat {α γ : Type} (g : α → γ) (net : List Int) (leaf0_ : Bool → α) (fail_ : α) : g (I.EvenWatchedOk_tree net leaf0_ fail_) = I.EvenWatchedOk_tree net (fun d => g (leaf0_ d)) (g fail_) := by
  unfold I.EvenWatchedOk_tree; simp only [apply_cnd g, apply_optC g, apply_sumC g]
noncomputable def I.EvenWatchedOk_t (net : List Int) : Option (Bool) := I.EvenWatchedOk_tree net (fun d => some d) none
theorem I.EvenWatchedOk_den (net : List Int) (κ : V → List E → R) : I.EvenWatchedOk_F [.ro false (.ints .i64 net)] [] κ = optC (I.EvenWatchedOk_t net) (fun (r : Bool) => κ (.bool r) []) none := by
  have hu : I.EvenWatchedOk_F [.ro false (.ints .i64 net)] [] κ = I.EvenWatchedOk_tree net (fun d => κ (.bool d) []) none := by
    kernel_rfl
  rw [hu]
  exact (I.EvenWatchedOk_tree_nat (fun o => optC o (fun (r : Bool) => κ (.bool r) []) none) net (fun d => some d) none).symm
noncomputable def I.EvenWatchedOk_s : D.Spec where
  keep := false
  pure := true
  ds := [.int .i64]
  sp := fun args h κ => match args, h with
    | [.ro false (.ints .i64 net)], [] => optC (I.EvenWatchedOk_t net) (fun (r : Bool) => κ (.bool r) []) none
    | _, _ => none
theorem I.EvenWatchedOk_ok : SpecOk Try.prog 56 I.EvenWatchedOk_s := by
  refine SpecOk.of TDok mixed (T := I.EvenWatchedOk_T) ?_ (ann := I.EvenWatchedOk_ann) Try.func56 rfl (by decide +kernel) ?_ ?_ ?_
  · intro p hp
    simp only [I.EvenWatchedOk_T, List.mem_cons, List.not_mem_nil, or_false] at hp
    rcases hp with rfl | rfl
    · exact I.NetOk_ok
    · exact I.chainIn_ok
  · intro args h κ r hh
    simp only [I.EvenWatchedOk_s] at hh
    split at hh
    · exact (I.EvenWatchedOk_den _ κ).trans hh
    · cases hh
  · intro args h κ r hh
    simp only [I.EvenWatchedOk_s] at hh ⊢
    split at hh
    · exact optC_law2 (F := fun (r : Bool) κ => κ (.bool r) []) (fun b κ r hb => ⟨_, _, hb, fun _ => rfl⟩) hh
    · cases hh
  · intro _ args h κ r hh
    simp only [I.EvenWatchedOk_s] at hh
    split at hh
    · exact ⟨rfl, fun _ => rfl⟩
    · cases hh

-- loop.example/guardsonnets/spec.EvenWatchedOk
noncomputable def S.EvenWatchedOk_T : List (Nat × D.Spec) := [(58, S.NetOk_s), (80, S.FewestWatch_s), (47, S.MostLeast_s)]
def S.EvenWatchedOk_ann : Nat → List Nat × List Nat
  | _ => ([], [])
noncomputable def S.EvenWatchedOk_F (args : List V) (h : List E) (κ : V → List E → R) : R := funC TD (tableK S.EvenWatchedOk_T) S.EvenWatchedOk_ann (drawOk (tableP S.EvenWatchedOk_T)) FUEL Try.f57 args h κ
noncomputable def S.EvenWatchedOk_tree {α : Type} (net : List Int) (leaf0_ : Bool → α) (fail_ : α) : α :=
  (optC (S.NetOk_t net) (fun c_1 => (bif c_1 then (optC (S.FewestWatch_t net) (fun c_2 => (optC (S.MostLeast_t net) (fun c_3 => (leaf0_ (c_2 == c_3))) fail_)) fail_) else (leaf0_ false))) fail_)
theorem S.EvenWatchedOk_tree_nat {α γ : Type} (g : α → γ) (net : List Int) (leaf0_ : Bool → α) (fail_ : α) : g (S.EvenWatchedOk_tree net leaf0_ fail_) = S.EvenWatchedOk_tree net (fun d => g (leaf0_ d)) (g fail_) := by
  unfold S.EvenWatchedOk_tree; simp only [apply_cnd g, apply_optC g, apply_sumC g]
noncomputable def S.EvenWatchedOk_t (net : List Int) : Option (Bool) := S.EvenWatchedOk_tree net (fun d => some d) none
theorem S.EvenWatchedOk_den (net : List Int) (κ : V → List E → R) : S.EvenWatchedOk_F [.ro false (.ints .i64 net)] [] κ = optC (S.EvenWatchedOk_t net) (fun (r : Bool) => κ (.bool r) []) none := by
  have hu : S.EvenWatchedOk_F [.ro false (.ints .i64 net)] [] κ = S.EvenWatchedOk_tree net (fun d => κ (.bool d) []) none := by
    kernel_rfl
  rw [hu]
  exact (S.EvenWatchedOk_tree_nat (fun o => optC o (fun (r : Bool) => κ (.bool r) []) none) net (fun d => some d) none).symm
noncomputable def S.EvenWatchedOk_s : D.Spec where
  keep := false
  pure := true
  ds := [.int .i64]
  sp := fun args h κ => match args, h with
    | [.ro false (.ints .i64 net)], [] => optC (S.EvenWatchedOk_t net) (fun (r : Bool) => κ (.bool r) []) none
    | _, _ => none
theorem S.EvenWatchedOk_ok : SpecOk Try.prog 57 S.EvenWatchedOk_s := by
  refine SpecOk.of TDok mixed (T := S.EvenWatchedOk_T) ?_ (ann := S.EvenWatchedOk_ann) Try.func57 rfl (by decide +kernel) ?_ ?_ ?_
  · intro p hp
    simp only [S.EvenWatchedOk_T, List.mem_cons, List.not_mem_nil, or_false] at hp
    rcases hp with rfl | rfl | rfl
    · exact S.NetOk_ok
    · exact S.FewestWatch_ok
    · exact S.MostLeast_ok
  · intro args h κ r hh
    simp only [S.EvenWatchedOk_s] at hh
    split at hh
    · exact (S.EvenWatchedOk_den _ κ).trans hh
    · cases hh
  · intro args h κ r hh
    simp only [S.EvenWatchedOk_s] at hh ⊢
    split at hh
    · exact optC_law2 (F := fun (r : Bool) κ => κ (.bool r) []) (fun b κ r hb => ⟨_, _, hb, fun _ => rfl⟩) hh
    · cases hh
  · intro _ args h κ r hh
    simp only [S.EvenWatchedOk_s] at hh
    split at hh
    · exact ⟨rfl, fun _ => rfl⟩
    · cases hh

-- loop.example/guardsonnets/laws.FnEvenWatchedOk
noncomputable def L.FnEvenWatchedOk_T : List (Nat × D.Spec) := [(55, S.DrawEvenWatchedOk_s), (56, I.EvenWatchedOk_s), (57, S.EvenWatchedOk_s), (58, S.NetOk_s), (23, L.alive_s), (24, I.FewestWatch_s), (20, I.FewestApart_s), (25, I.MostApart_s)]
def L.FnEvenWatchedOk_ann : Nat → List Nat × List Nat
  | 11 => ([3, 4, 5, 6], [3, 4, 5])
  | _ => ([], [])
noncomputable def L.FnEvenWatchedOk_F (args : List V) (h : List E) (κ : V → List E → R) : R := funC TD (tableK L.FnEvenWatchedOk_T) L.FnEvenWatchedOk_ann (drawOk (tableP L.FnEvenWatchedOk_T)) FUEL Try.f17 args h κ
noncomputable def L.FnEvenWatchedOk_L11 (n : Nat) (σ : St) (k : X → St → R) : R := iterC 0 (fun σ k => denC TD (tableK L.FnEvenWatchedOk_T) L.FnEvenWatchedOk_ann (drawOk (tableP L.FnEvenWatchedOk_T)) 0 FUEL ((findLoop 11 (Try.f17.body.getD .skip)).getD .skip) σ k) [3, 4, 5, 6] [3, 4, 5] n σ k
noncomputable def L.FnEvenWatchedOk_k11 (κ : V → List E → R) : X → St → R := (afterC TD (tableK L.FnEvenWatchedOk_T) L.FnEvenWatchedOk_ann (drawOk (tableP L.FnEvenWatchedOk_T)) 0 FUEL 11 (Try.f17.body.getD .skip) (finC TD 0 Try.f17 κ)).getD (fun _ _ => none)
noncomputable def L.FnEvenWatchedOk_step11 {α : Type} (x4 : Bool) (x6 : Int) (r0 : List Int) (r1 : List Int) (next_ : Int × (List Int) × (List Int) → α) (out0_ : (List Int) × (List Int) → α) (fail_ : α) : α :=
  (bif decide (x6 < (↑r0.length : Int)) then (bif decide (x6 < 0) then fail_ else (bif small (r1 ++ [IntKind.i64.wrap (IntKind.i64.wrap (IntKind.i64.wrap (1 * 2 ^ min (↑r0.length : Int).toNat IntKind.i64.bits) - 1) - IntKind.i64.wrap (1 * 2 ^ min x6.toNat IntKind.i64.bits))]).length then (next_ (IntKind.i64.wrap (x6 + 1), r0, r1 ++ [IntKind.i64.wrap (IntKind.i64.wrap (IntKind.i64.wrap (1 * 2 ^ min (↑r0.length : Int).toNat IntKind.i64.bits) - 1) - IntKind.i64.wrap (1 * 2 ^ min x6.toNat IntKind.i64.bits))])) else fail_)) else (out0_ (r0, r1)))
theorem L.FnEvenWatchedOk_step11_nat {α γ : Type} (g : α → γ) (x4 : Bool) (x6 : Int) (r0 : List Int) (r1 : List Int) (next_ : Int × (List Int) × (List Int) → α) (out0_ : (List Int) × (List Int) → α) (fail_ : α) : g (L.FnEvenWatchedOk_step11 x4 x6 r0 r1 next_ out0_ fail_) = L.FnEvenWatchedOk_step11 x4 x6 r0 r1 (fun s => g (next_ s)) (fun d => g (out0_ d)) (g fail_) := by
  unfold L.FnEvenWatchedOk_step11; simp only [apply_cnd g, apply_optC g, apply_sumC g]
noncomputable def L.FnEvenWatchedOk_run11 (x4 : Bool) : Nat → Int × (List Int) × (List Int) → Option ((List Int) × (List Int))
  | 0, _ => none
  | n + 1, s_ => L.FnEvenWatchedOk_step11 x4 s_.1 s_.2.1 s_.2.2 (L.FnEvenWatchedOk_run11 x4 n) (fun d => some d) none
theorem L.FnEvenWatchedOk_L11_run (x4 : Bool) (n : Nat) (s_ : Int × (List Int) × (List Int)) (k : X → St → R) : L.FnEvenWatchedOk_L11 n { n := 73, t := [(3, (.own 0)), (4, (.bool x4)), (5, (.own 1)), (6, (.int .i64 s_.1))], h := [.row (.ints .i64 s_.2.1), .row (.ints .i64 s_.2.2)] } k = optC (L.FnEvenWatchedOk_run11 x4 n s_) (fun (r : (List Int) × (List Int)) => k (.exit 0) { n := 73, t := [(3, (.own 0)), (4, (.bool x4)), (5, (.own 1))], h := [.row (.ints .i64 r.1), .row (.ints .i64 r.2)] }) none := by
  induction n generalizing s_ with
  | zero => rfl
  | succ n ih =>
    have hu : L.FnEvenWatchedOk_L11 (n + 1) { n := 73, t := [(3, (.own 0)), (4, (.bool x4)), (5, (.own 1)), (6, (.int .i64 s_.1))], h := [.row (.ints .i64 s_.2.1), .row (.ints .i64 s_.2.2)] } k = L.FnEvenWatchedOk_step11 x4 s_.1 s_.2.1 s_.2.2 (fun s_ => L.FnEvenWatchedOk_L11 n { n := 73, t := [(3, (.own 0)), (4, (.bool x4)), (5, (.own 1)), (6, (.int .i64 s_.1))], h := [.row (.ints .i64 s_.2.1), .row (.ints .i64 s_.2.2)] } k) (fun d => k (.exit 0) { n := 73, t := [(3, (.own 0)), (4, (.bool x4)), (5, (.own 1))], h := [.row (.ints .i64 d.1), .row (.ints .i64 d.2)] }) none := by
      kernel_rfl
    have hs : (fun s_ : Int × (List Int) × (List Int) => L.FnEvenWatchedOk_L11 n { n := 73, t := [(3, (.own 0)), (4, (.bool x4)), (5, (.own 1)), (6, (.int .i64 s_.1))], h := [.row (.ints .i64 s_.2.1), .row (.ints .i64 s_.2.2)] } k) = fun s_ => optC (L.FnEvenWatchedOk_run11 x4 n s_) (fun (r : (List Int) × (List Int)) => k (.exit 0) { n := 73, t := [(3, (.own 0)), (4, (.bool x4)), (5, (.own 1))], h := [.row (.ints .i64 r.1), .row (.ints .i64 r.2)] }) none := funext ih
    rw [hu, hs]
    exact (L.FnEvenWatchedOk_step11_nat (fun o => optC o (fun (r : (List Int) × (List Int)) => k (.exit 0) { n := 73, t := [(3, (.own 0)), (4, (.bool x4)), (5, (.own 1))], h := [.row (.ints .i64 r.1), .row (.ints .i64 r.2)] }) none) x4 s_.1 s_.2.1 s_.2.2 (L.FnEvenWatchedOk_run11 x4 n) (fun d => some d) none).symm
noncomputable def L.FnEvenWatchedOk_tree {α : Type} (code : List Int) (leaf0_ : Bool → α) (fail_ : α) : α :=
  (bif decide ((↑code.length : Int) > 1048576) then (leaf0_ true) else (optC (S.DrawEvenWatchedOk_t code) (fun c_1 => (optC (I.EvenWatchedOk_t c_1) (fun c_2 => (optC (S.EvenWatchedOk_t c_1) (fun c_3 => (bif !c_2 == c_3 then (leaf0_ false) else (optC (S.NetOk_t c_1) (fun c_4 => (bif !c_4 then (bif !c_2 then (optC (L.alive_t) (fun c_5 => (leaf0_ c_5)) fail_) else (leaf0_ false)) else (optC (L.FnEvenWatchedOk_run11 c_2 FUEL (0, c_1, [])) (fun qy_6 => (optC (I.FewestWatch_t qy_6.1) (fun c_7 => (bif !c_2 then (bif small (↑qy_6.1.length : Int).toNat && true then (optC (I.EvenWatchedOk_t (List.replicate (↑qy_6.1.length : Int).toNat 0)) (fun c_8 => (bif c_8 then (optC (I.EvenWatchedOk_t qy_6.2) (fun c_9 => (bif c_9 then (optC (L.alive_t) (fun c_10 => (leaf0_ c_10)) fail_) else (leaf0_ false))) fail_) else (leaf0_ false))) fail_) else fail_) else (optC (I.FewestApart_t qy_6.1) (fun c_11 => (bif c_11 == c_7 then (optC (I.MostApart_t qy_6.1) (fun c_12 => (bif c_12 == c_7 then (bif small (↑qy_6.1.length : Int).toNat && true then (optC (I.EvenWatchedOk_t (List.replicate (↑qy_6.1.length : Int).toNat 0)) (fun c_13 => (bif c_13 then (optC (I.EvenWatchedOk_t qy_6.2) (fun c_14 => (bif c_14 then (optC (L.alive_t) (fun c_15 => (leaf0_ c_15)) fail_) else (leaf0_ false))) fail_) else (leaf0_ false))) fail_) else fail_) else (leaf0_ false))) fail_) else (leaf0_ false))) fail_))) fail_)) fail_))) fail_))) fail_)) fail_)) fail_))
theorem L.FnEvenWatchedOk_tree_nat {α γ : Type} (g : α → γ) (code : List Int) (leaf0_ : Bool → α) (fail_ : α) : g (L.FnEvenWatchedOk_tree code leaf0_ fail_) = L.FnEvenWatchedOk_tree code (fun d => g (leaf0_ d)) (g fail_) := by
  unfold L.FnEvenWatchedOk_tree; simp only [apply_cnd g, apply_optC g, apply_sumC g]
noncomputable def L.FnEvenWatchedOk_t (code : List Int) : Option (Bool) := L.FnEvenWatchedOk_tree code (fun d => some d) none
theorem L.FnEvenWatchedOk_den (code : List Int) (κ : V → List E → R) : L.FnEvenWatchedOk_F [.ro true (.ints .u8 code)] [] κ = optC (L.FnEvenWatchedOk_t code) (fun (r : Bool) => κ (.bool r) []) none := by
  have hu : L.FnEvenWatchedOk_F [.ro true (.ints .u8 code)] [] κ = L.FnEvenWatchedOk_tree code (fun d => κ (.bool d) []) none := by
    refine Eq.trans (show L.FnEvenWatchedOk_F [.ro true (.ints .u8 code)] [] κ = (bif decide ((↑code.length : Int) > 1048576) then (κ (.bool true) []) else (optC (S.DrawEvenWatchedOk_t code) (fun c_1 => (optC (I.EvenWatchedOk_t c_1) (fun c_2 => (optC (S.EvenWatchedOk_t c_1) (fun c_3 => (bif !c_2 == c_3 then (κ (.bool false) []) else (optC (S.NetOk_t c_1) (fun c_4 => (bif !c_4 then (bif !c_2 then (optC (L.alive_t) (fun c_5 => (κ (.bool c_5) [])) none) else (κ (.bool false) [])) else (L.FnEvenWatchedOk_L11 FUEL { n := 73, t := [(3, (.own 0)), (4, (.bool c_2)), (5, (.own 1)), (6, (.int .i64 0))], h := [.row (.ints .i64 c_1), .row (.ints .i64 ([]))] } (L.FnEvenWatchedOk_k11 κ)))) none))) none)) none)) none)) by kernel_rfl) ?_
    refine cnd_congr ?_ ?_
    · kernel_rfl
    · refine optC_congr (fun c_1 => ?_)
      refine optC_congr (fun c_2 => ?_)
      refine optC_congr (fun c_3 => ?_)
      refine cnd_congr ?_ ?_
      · kernel_rfl
      · refine optC_congr (fun c_4 => ?_)
        refine cnd_congr ?_ ?_
        · kernel_rfl
        · refine (L.FnEvenWatchedOk_L11_run c_2 FUEL (0, c_1, []) (L.FnEvenWatchedOk_k11 κ)).trans (optC_congr (fun qy_6 => ?_))
          kernel_rfl
  rw [hu]
  exact (L.FnEvenWatchedOk_tree_nat (fun o => optC o (fun (r : Bool) => κ (.bool r) []) none) code (fun d => some d) none).symm
noncomputable def L.FnEvenWatchedOk_s : D.Spec where
  keep := true
  pure := true
  ds := [.int .u8]
  sp := fun args h κ => match args, h with
    | [.ro true (.ints .u8 code)], [] => optC (L.FnEvenWatchedOk_t code) (fun (r : Bool) => κ (.bool r) []) none
    | _, _ => none
theorem L.FnEvenWatchedOk_ok : SpecOk Try.prog 17 L.FnEvenWatchedOk_s := by
  refine SpecOk.of TDok mixed (T := L.FnEvenWatchedOk_T) ?_ (ann := L.FnEvenWatchedOk_ann) Try.func17 rfl (by decide +kernel) ?_ ?_ ?_
  · intro p hp
    simp only [L.FnEvenWatchedOk_T, List.mem_cons, List.not_mem_nil, or_false] at hp
    rcases hp with rfl | rfl | rfl | rfl | rfl | rfl | rfl | rfl
    · exact S.DrawEvenWatchedOk_ok
    · exact I.EvenWatchedOk_ok
    · exact S.EvenWatchedOk_ok
    · exact S.NetOk_ok
    · exact L.alive_ok
    · exact I.FewestWatch_ok
    · exact I.FewestApart_ok
    · exact I.MostApart_ok
  · intro args h κ r hh
    simp only [L.FnEvenWatchedOk_s] at hh
    split at hh
    · exact (L.FnEvenWatchedOk_den _ κ).trans hh
    · cases hh
  · intro args h κ r hh
    simp only [L.FnEvenWatchedOk_s] at hh ⊢
    split at hh
    · exact optC_law2 (F := fun (r : Bool) κ => κ (.bool r) []) (fun b κ r hb => ⟨_, _, hb, fun _ => rfl⟩) hh
    · cases hh
  · intro _ args h κ r hh
    simp only [L.FnEvenWatchedOk_s] at hh
    split at hh
    · exact ⟨rfl, fun _ => rfl⟩
    · cases hh

-- loop.example/guardsonnets/laws.FnExactEvenWatchedOk
noncomputable def L.FnExactEvenWatchedOk_T : List (Nat × D.Spec) := [(26, L.toIntS_s), (57, S.EvenWatchedOk_s), (56, I.EvenWatchedOk_s), (27, L.eqIntS_s)]
def L.FnExactEvenWatchedOk_ann : Nat → List Nat × List Nat
  | _ => ([], [])
noncomputable def L.FnExactEvenWatchedOk_F (args : List V) (h : List E) (κ : V → List E → R) : R := funC TD (tableK L.FnExactEvenWatchedOk_T) L.FnExactEvenWatchedOk_ann (drawOk (tableP L.FnExactEvenWatchedOk_T)) FUEL Try.f18 args h κ
noncomputable def L.FnExactEvenWatchedOk_tree {α : Type} (aNet : List Int) (leaf0_ : Bool → α) (fail_ : α) : α :=
  (bif decide ((↑aNet.length : Int) > 1048576) then (leaf0_ true) else (optC (L.toIntS_t aNet) (fun c_1 => (optC (S.EvenWatchedOk_t c_1) (fun c_2 => (optC (L.toIntS_t aNet) (fun c_3 => (optC (I.EvenWatchedOk_t c_3) (fun c_4 => (bif !c_4 == c_2 then (leaf0_ false) else (optC (L.toIntS_t aNet) (fun c_5 => (optC (L.eqIntS_t c_3 c_5) (fun c_6 => (bif !c_6 then (leaf0_ false) else (leaf0_ true))) fail_)) fail_))) fail_)) fail_)) fail_)) fail_))
theorem L.FnExactEvenWatchedOk_tree_nat {α γ : Type} (g : α → γ) (aNet : List Int) (leaf0_ : Bool → α) (fail_ : α) : g (L.FnExactEvenWatchedOk_tree aNet leaf0_ fail_) = L.FnExactEvenWatchedOk_tree aNet (fun d => g (leaf0_ d)) (g fail_) := by
  unfold L.FnExactEvenWatchedOk_tree; simp only [apply_cnd g, apply_optC g, apply_sumC g]
noncomputable def L.FnExactEvenWatchedOk_t (aNet : List Int) : Option (Bool) := L.FnExactEvenWatchedOk_tree aNet (fun d => some d) none
theorem L.FnExactEvenWatchedOk_den (aNet : List Int) (κ : V → List E → R) : L.FnExactEvenWatchedOk_F [.ro true (.ints .i64 aNet)] [] κ = optC (L.FnExactEvenWatchedOk_t aNet) (fun (r : Bool) => κ (.bool r) []) none := by
  have hu : L.FnExactEvenWatchedOk_F [.ro true (.ints .i64 aNet)] [] κ = L.FnExactEvenWatchedOk_tree aNet (fun d => κ (.bool d) []) none := by
    kernel_rfl
  rw [hu]
  exact (L.FnExactEvenWatchedOk_tree_nat (fun o => optC o (fun (r : Bool) => κ (.bool r) []) none) aNet (fun d => some d) none).symm
noncomputable def L.FnExactEvenWatchedOk_s : D.Spec where
  keep := true
  pure := true
  ds := [.int .i64]
  sp := fun args h κ => match args, h with
    | [.ro true (.ints .i64 aNet)], [] => optC (L.FnExactEvenWatchedOk_t aNet) (fun (r : Bool) => κ (.bool r) []) none
    | _, _ => none
theorem L.FnExactEvenWatchedOk_ok : SpecOk Try.prog 18 L.FnExactEvenWatchedOk_s := by
  refine SpecOk.of TDok mixed (T := L.FnExactEvenWatchedOk_T) ?_ (ann := L.FnExactEvenWatchedOk_ann) Try.func18 rfl (by decide +kernel) ?_ ?_ ?_
  · intro p hp
    simp only [L.FnExactEvenWatchedOk_T, List.mem_cons, List.not_mem_nil, or_false] at hp
    rcases hp with rfl | rfl | rfl | rfl
    · exact L.toIntS_ok
    · exact S.EvenWatchedOk_ok
    · exact I.EvenWatchedOk_ok
    · exact L.eqIntS_ok
  · intro args h κ r hh
    simp only [L.FnExactEvenWatchedOk_s] at hh
    split at hh
    · exact (L.FnExactEvenWatchedOk_den _ κ).trans hh
    · cases hh
  · intro args h κ r hh
    simp only [L.FnExactEvenWatchedOk_s] at hh ⊢
    split at hh
    · exact optC_law2 (F := fun (r : Bool) κ => κ (.bool r) []) (fun b κ r hb => ⟨_, _, hb, fun _ => rfl⟩) hh
    · cases hh
  · intro _ args h κ r hh
    simp only [L.FnExactEvenWatchedOk_s] at hh
    split at hh
    · exact ⟨rfl, fun _ => rfl⟩
    · cases hh


end Go.Proofs.Ytonbbeplmjidnaa
