/- Twins of the translated functions, with their proofs. Conditions: none. -/
import Derived.Test.YtojgnfejoeaehaaT1
set_option linter.unusedVariables false
set_option linter.unusedSimpArgs false
namespace Go.Proofs.Ytojgnfejoeaehaa
open D Go.RowKit
-- loop.example/guardsonnets/spec.l3Needs
noncomputable def S.l3Needs_T : List (Nat × D.Spec) := [(57, S.l3Private_s)]
def S.l3Needs_ann : Nat → List Nat × List Nat
  | 2 => ([0, 1, 5], [4])
  | _ => ([], [])
noncomputable def S.l3Needs_F (args : List V) (h : List E) (κ : V → List E → R) : R := funC TD (tableK S.l3Needs_T) S.l3Needs_ann (drawOk (tableP S.l3Needs_T)) FUEL Try.f60 args h κ
noncomputable def S.l3Needs_L2 (n : Nat) (σ : St) (k : X → St → R) : R := iterC 0 (fun σ k => denC TD (tableK S.l3Needs_T) S.l3Needs_ann (drawOk (tableP S.l3Needs_T)) 0 FUEL ((findLoop 2 (Try.f60.body.getD .skip)).getD .skip) σ k) [0, 1, 5] [4] n σ k
noncomputable def S.l3Needs_k2 (κ : V → List E → R) : X → St → R := (afterC TD (tableK S.l3Needs_T) S.l3Needs_ann (drawOk (tableP S.l3Needs_T)) 0 FUEL 2 (Try.f60.body.getD .skip) (finC 0 Try.f60 κ)).getD (fun _ _ => none)
noncomputable def S.l3Needs_step2 {α : Type} (x0 : List Int) (x1 : Int) (x5 : Int) (next_ : Int → α) (out0_ : Bool → α) (out1_ : Unit → α) (fail_ : α) : α :=
  (bif decide (x5 < (↑x0.length : Int)) then (bif decide (x5 < 0) then fail_ else (bif (x1.fdiv (2 ^ min x5.toNat IntKind.i64.bits)).tmod 2 == 1 then (optC (S.l3Private_t x0 x1 x5) (fun c_1 => (bif c_1 == 0 then (out0_ false) else (next_ (IntKind.i64.wrap (x5 + 1))))) fail_) else (next_ (IntKind.i64.wrap (x5 + 1))))) else (out1_ ()))
theorem S.l3Needs_step2_nat {α γ : Type} (g : α → γ) (x0 : List Int) (x1 : Int) (x5 : Int) (next_ : Int → α) (out0_ : Bool → α) (out1_ : Unit → α) (fail_ : α) : g (S.l3Needs_step2 x0 x1 x5 next_ out0_ out1_ fail_) = S.l3Needs_step2 x0 x1 x5 (fun s => g (next_ s)) (fun d => g (out0_ d)) (fun d => g (out1_ d)) (g fail_) := by
  unfold S.l3Needs_step2; simp only [apply_cnd g, apply_optC g, apply_sumC g]
noncomputable def S.l3Needs_run2 (x0 : List Int) (x1 : Int) : Nat → Int → Option ((Bool) ⊕ (Unit))
  | 0, _ => none
  | n + 1, s_ => S.l3Needs_step2 x0 x1 s_ (S.l3Needs_run2 x0 x1 n) (fun d => some ((Sum.inl d))) (fun d => some ((Sum.inr d))) none
theorem S.l3Needs_L2_run (x0 : List Int) (x1 : Int) (n : Nat) (s_ : Int) (k : X → St → R) : S.l3Needs_L2 n { n := 24, t := [(0, (.ro false (.ints .i64 x0))), (1, (.int .i64 x1)), (5, (.int .i64 s_))], h := [] } k = optC (S.l3Needs_run2 x0 x1 n s_) (fun (r : (Bool) ⊕ (Unit)) => (sumC r (fun (r : Bool) => k (.ret) { n := 24, t := [(4, (.bool r))], h := [] }) (fun (r : Unit) => k (.exit 0) { n := 24, t := [(4, .junk)], h := [] }))) none := by
  induction n generalizing s_ with
  | zero => rfl
  | succ n ih =>
    have hu : S.l3Needs_L2 (n + 1) { n := 24, t := [(0, (.ro false (.ints .i64 x0))), (1, (.int .i64 x1)), (5, (.int .i64 s_))], h := [] } k = S.l3Needs_step2 x0 x1 s_ (fun s_ => S.l3Needs_L2 n { n := 24, t := [(0, (.ro false (.ints .i64 x0))), (1, (.int .i64 x1)), (5, (.int .i64 s_))], h := [] } k) (fun d => k (.ret) { n := 24, t := [(4, (.bool d))], h := [] }) (fun d => k (.exit 0) { n := 24, t := [(4, .junk)], h := [] }) none := by
      kernel_rfl
    have hs : (fun s_ : Int => S.l3Needs_L2 n { n := 24, t := [(0, (.ro false (.ints .i64 x0))), (1, (.int .i64 x1)), (5, (.int .i64 s_))], h := [] } k) = fun s_ => optC (S.l3Needs_run2 x0 x1 n s_) (fun (r : (Bool) ⊕ (Unit)) => (sumC r (fun (r : Bool) => k (.ret) { n := 24, t := [(4, (.bool r))], h := [] }) (fun (r : Unit) => k (.exit 0) { n := 24, t := [(4, .junk)], h := [] }))) none := funext ih
    rw [hu, hs]
    exact (S.l3Needs_step2_nat (fun o => optC o (fun (r : (Bool) ⊕ (Unit)) => (sumC r (fun (r : Bool) => k (.ret) { n := 24, t := [(4, (.bool r))], h := [] }) (fun (r : Unit) => k (.exit 0) { n := 24, t := [(4, .junk)], h := [] }))) none) x0 x1 s_ (S.l3Needs_run2 x0 x1 n) (fun d => some ((Sum.inl d))) (fun d => some ((Sum.inr d))) none).symm
noncomputable def S.l3Needs_tree {α : Type} (net : List Int) (set_ : Int) (leaf0_ : Bool → α) (fail_ : α) : α :=
  (optC (S.l3Needs_run2 net set_ FUEL 0) (fun qy_2 => (sumC qy_2 (fun (qy_2 : Bool) => (leaf0_ qy_2)) (fun (qy_2 : Unit) => (leaf0_ true)))) fail_)
theorem S.l3Needs_tree_nat {α γ : Type} (g : α → γ) (net : List Int) (set_ : Int) (leaf0_ : Bool → α) (fail_ : α) : g (S.l3Needs_tree net set_ leaf0_ fail_) = S.l3Needs_tree net set_ (fun d => g (leaf0_ d)) (g fail_) := by
  unfold S.l3Needs_tree; simp only [apply_cnd g, apply_optC g, apply_sumC g]
noncomputable def S.l3Needs_t (net : List Int) (set_ : Int) : Option (Bool) := S.l3Needs_tree net set_ (fun d => some d) none
theorem S.l3Needs_den (net : List Int) (set_ : Int) (κ : V → List E → R) : S.l3Needs_F [.ro false (.ints .i64 net), .int .i64 set_] [] κ = optC (S.l3Needs_t net set_) (fun (r : Bool) => κ (.bool r) []) none := by
  have hu : S.l3Needs_F [.ro false (.ints .i64 net), .int .i64 set_] [] κ = S.l3Needs_tree net set_ (fun d => κ (.bool d) []) none := by
    refine Eq.trans (show S.l3Needs_F [.ro false (.ints .i64 net), .int .i64 set_] [] κ = (S.l3Needs_L2 FUEL { n := 24, t := [(0, (.ro false (.ints .i64 net))), (1, (.int .i64 set_)), (5, (.int .i64 0))], h := [] } (S.l3Needs_k2 κ)) by kernel_rfl) ?_
    refine (S.l3Needs_L2_run net set_ FUEL 0 (S.l3Needs_k2 κ)).trans (optC_congr (fun qy_2 => ?_))
    rcases qy_2 with qy_2 | qy_2
    · kernel_rfl
    · kernel_rfl
  rw [hu]
  exact (S.l3Needs_tree_nat (fun o => optC o (fun (r : Bool) => κ (.bool r) []) none) net set_ (fun d => some d) none).symm
noncomputable def S.l3Needs_s : D.Spec where
  keep := false
  pure := true
  ds := [.int .i64, .invalid]
  sp := fun args h κ => match args, h with
    | [.ro false (.ints .i64 net), .int .i64 set_], [] => optC (S.l3Needs_t net set_) (fun (r : Bool) => κ (.bool r) []) none
    | _, _ => none
theorem S.l3Needs_ok : SpecOk Try.prog 60 S.l3Needs_s := by
  refine SpecOk.of TDok mixed (T := S.l3Needs_T) ?_ (ann := S.l3Needs_ann) Try.func60 rfl (by decide +kernel) ?_ ?_ ?_
  · intro p hp
    simp only [S.l3Needs_T, List.mem_cons, List.not_mem_nil, or_false] at hp
    rcases hp with rfl
    · exact S.l3Private_ok
  · intro args h κ r hh
    simp only [S.l3Needs_s] at hh
    split at hh
    · exact (S.l3Needs_den _ _ κ).trans hh
    · cases hh
  · intro args h κ r hh
    simp only [S.l3Needs_s] at hh ⊢
    split at hh
    · exact optC_law2 (F := fun (r : Bool) κ => κ (.bool r) []) (fun b κ r hb => ⟨_, _, hb, fun _ => rfl⟩) hh
    · cases hh
  · intro _ args h κ r hh
    simp only [S.l3Needs_s] at hh
    split at hh
    · exact ⟨rfl, fun _ => rfl⟩
    · cases hh

-- loop.example/guardsonnets/spec.NeedsAllOk
noncomputable def S.NeedsAllOk_T : List (Nat × D.Spec) := [(55, S.l1SetOk_s), (60, S.l3Needs_s)]
def S.NeedsAllOk_ann : Nat → List Nat × List Nat
  | _ => ([], [])
noncomputable def S.NeedsAllOk_F (args : List V) (h : List E) (κ : V → List E → R) : R := funC TD (tableK S.NeedsAllOk_T) S.NeedsAllOk_ann (drawOk (tableP S.NeedsAllOk_T)) FUEL Try.f27 args h κ
noncomputable def S.NeedsAllOk_tree {α : Type} (net : List Int) (set_ : Int) (leaf0_ : Bool → α) (fail_ : α) : α :=
  (optC (S.l1SetOk_t net set_) (fun c_1 => (bif c_1 then (optC (S.l3Needs_t net set_) (fun c_2 => (leaf0_ c_2)) fail_) else (leaf0_ false))) fail_)
theorem S.NeedsAllOk_tree_nat {α γ : Type} (g : α → γ) (net : List Int) (set_ : Int) (leaf0_ : Bool → α) (fail_ : α) : g (S.NeedsAllOk_tree net set_ leaf0_ fail_) = S.NeedsAllOk_tree net set_ (fun d => g (leaf0_ d)) (g fail_) := by
  unfold S.NeedsAllOk_tree; simp only [apply_cnd g, apply_optC g, apply_sumC g]
noncomputable def S.NeedsAllOk_t (net : List Int) (set_ : Int) : Option (Bool) := S.NeedsAllOk_tree net set_ (fun d => some d) none
theorem S.NeedsAllOk_den (net : List Int) (set_ : Int) (κ : V → List E → R) : S.NeedsAllOk_F [.ro false (.ints .i64 net), .int .i64 set_] [] κ = optC (S.NeedsAllOk_t net set_) (fun (r : Bool) => κ (.bool r) []) none := by
  have hu : S.NeedsAllOk_F [.ro false (.ints .i64 net), .int .i64 set_] [] κ = S.NeedsAllOk_tree net set_ (fun d => κ (.bool d) []) none := by
    kernel_rfl
  rw [hu]
  exact (S.NeedsAllOk_tree_nat (fun o => optC o (fun (r : Bool) => κ (.bool r) []) none) net set_ (fun d => some d) none).symm
noncomputable def S.NeedsAllOk_s : D.Spec where
  keep := false
  pure := true
  ds := [.int .i64, .invalid]
  sp := fun args h κ => match args, h with
    | [.ro false (.ints .i64 net), .int .i64 set_], [] => optC (S.NeedsAllOk_t net set_) (fun (r : Bool) => κ (.bool r) []) none
    | _, _ => none
theorem S.NeedsAllOk_ok : SpecOk Try.prog 27 S.NeedsAllOk_s := by
  refine SpecOk.of TDok mixed (T := S.NeedsAllOk_T) ?_ (ann := S.NeedsAllOk_ann) Try.func27 rfl (by decide +kernel) ?_ ?_ ?_
  · intro p hp
    simp only [S.NeedsAllOk_T, List.mem_cons, List.not_mem_nil, or_false] at hp
    rcases hp with rfl | rfl
    · exact S.l1SetOk_ok
    · exact S.l3Needs_ok
  · intro args h κ r hh
    simp only [S.NeedsAllOk_s] at hh
    split at hh
    · exact (S.NeedsAllOk_den _ _ κ).trans hh
    · cases hh
  · intro args h κ r hh
    simp only [S.NeedsAllOk_s] at hh ⊢
    split at hh
    · exact optC_law2 (F := fun (r : Bool) κ => κ (.bool r) []) (fun b κ r hb => ⟨_, _, hb, fun _ => rfl⟩) hh
    · cases hh
  · intro _ args h κ r hh
    simp only [S.NeedsAllOk_s] at hh
    split at hh
    · exact ⟨rfl, fun _ => rfl⟩
    · cases hh

-- loop.example/guardsonnets/laws.FnNeedsAllOk
noncomputable def L.FnNeedsAllOk_T : List (Nat × D.Spec) := [(25, S.DrawNeedsAllOk_s), (26, I.NeedsAllOk_s), (27, S.NeedsAllOk_s), (28, S.NetOk_s), (20, L.alive_s)]
def L.FnNeedsAllOk_ann : Nat → List Nat × List Nat
  | 10 => ([3, 4, 5, 6], [2, 3])
  | _ => ([], [])
noncomputable def L.FnNeedsAllOk_F (args : List V) (h : List E) (κ : V → List E → R) : R := funC TD (tableK L.FnNeedsAllOk_T) L.FnNeedsAllOk_ann (drawOk (tableP L.FnNeedsAllOk_T)) FUEL Try.f5 args h κ
noncomputable def L.FnNeedsAllOk_L10 (n : Nat) (σ : St) (k : X → St → R) : R := iterC 0 (fun σ k => denC TD (tableK L.FnNeedsAllOk_T) L.FnNeedsAllOk_ann (drawOk (tableP L.FnNeedsAllOk_T)) 0 FUEL ((findLoop 10 (Try.f5.body.getD .skip)).getD .skip) σ k) [3, 4, 5, 6] [2, 3] n σ k
noncomputable def L.FnNeedsAllOk_k10 (κ : V → List E → R) : X → St → R := (afterC TD (tableK L.FnNeedsAllOk_T) L.FnNeedsAllOk_ann (drawOk (tableP L.FnNeedsAllOk_T)) 0 FUEL 10 (Try.f5.body.getD .skip) (finC 0 Try.f5 κ)).getD (fun _ _ => none)
noncomputable def L.FnNeedsAllOk_step10 {α : Type} (x4 : Int) (x5 : Bool) (x6 : Int) (r0 : List Int) (next_ : Int × (List Int) → α) (out0_ : Bool × (List Int) → α) (out1_ : List Int → α) (fail_ : α) : α :=
  (bif decide (x6 < (↑r0.length : Int)) then (bif x5 then (bif decide (x6 < 0) then fail_ else (bif (x4.fdiv (2 ^ min x6.toNat IntKind.i64.bits)).tmod 2 == 1 then (bif decide (x6 < 0) then fail_ else (optC (I.NeedsAllOk_t r0 (IntKind.i64.wrap (x4 - IntKind.i64.wrap (1 * 2 ^ min x6.toNat IntKind.i64.bits)))) (fun c_7 => (bif !c_7 then (out0_ (false, r0)) else (bif decide (x6 < 0) then fail_ else (optC (I.NeedsAllOk_t r0 (IntKind.i64.wrap (1 * 2 ^ min x6.toNat IntKind.i64.bits))) (fun c_8 => (bif !c_8 then (out0_ (false, r0)) else (next_ (IntKind.i64.wrap (x6 + 1), r0)))) fail_)))) fail_)) else (bif decide (x6 < 0) then fail_ else (optC (I.NeedsAllOk_t r0 (IntKind.i64.wrap (1 * 2 ^ min x6.toNat IntKind.i64.bits))) (fun c_9 => (bif !c_9 then (out0_ (false, r0)) else (next_ (IntKind.i64.wrap (x6 + 1), r0)))) fail_)))) else (bif decide (x6 < 0) then fail_ else (optC (I.NeedsAllOk_t r0 (IntKind.i64.wrap (1 * 2 ^ min x6.toNat IntKind.i64.bits))) (fun c_10 => (bif !c_10 then (out0_ (false, r0)) else (next_ (IntKind.i64.wrap (x6 + 1), r0)))) fail_))) else (out1_ r0))
theorem L.FnNeedsAllOk_step10_nat {α γ : Type} (g : α → γ) (x4 : Int) (x5 : Bool) (x6 : Int) (r0 : List Int) (next_ : Int × (List Int) → α) (out0_ : Bool × (List Int) → α) (out1_ : List Int → α) (fail_ : α) : g (L.FnNeedsAllOk_step10 x4 x5 x6 r0 next_ out0_ out1_ fail_) = L.FnNeedsAllOk_step10 x4 x5 x6 r0 (fun s => g (next_ s)) (fun d => g (out0_ d)) (fun d => g (out1_ d)) (g fail_) := by
  unfold L.FnNeedsAllOk_step10; simp only [apply_cnd g, apply_optC g, apply_sumC g]
noncomputable def L.FnNeedsAllOk_run10 (x4 : Int) (x5 : Bool) : Nat → Int × (List Int) → Option ((Bool × (List Int)) ⊕ (List Int))
  | 0, _ => none
  | n + 1, s_ => L.FnNeedsAllOk_step10 x4 x5 s_.1 s_.2 (L.FnNeedsAllOk_run10 x4 x5 n) (fun d => some ((Sum.inl d))) (fun d => some ((Sum.inr d))) none
theorem L.FnNeedsAllOk_L10_run (x4 : Int) (x5 : Bool) (n : Nat) (s_ : Int × (List Int)) (k : X → St → R) : L.FnNeedsAllOk_L10 n { n := 73, t := [(3, (.own 0)), (4, (.int .i64 x4)), (5, (.bool x5)), (6, (.int .i64 s_.1))], h := [.row (.ints .i64 s_.2)] } k = optC (L.FnNeedsAllOk_run10 x4 x5 n s_) (fun (r : (Bool × (List Int)) ⊕ (List Int)) => (sumC r (fun (r : Bool × (List Int)) => k (.ret) { n := 73, t := [(2, (.bool r.1)), (3, (.own 0))], h := [.row (.ints .i64 r.2)] }) (fun (r : List Int) => k (.exit 0) { n := 73, t := [(2, .junk), (3, (.own 0))], h := [.row (.ints .i64 r)] }))) none := by
  induction n generalizing s_ with
  | zero => rfl
  | succ n ih =>
    have hu : L.FnNeedsAllOk_L10 (n + 1) { n := 73, t := [(3, (.own 0)), (4, (.int .i64 x4)), (5, (.bool x5)), (6, (.int .i64 s_.1))], h := [.row (.ints .i64 s_.2)] } k = L.FnNeedsAllOk_step10 x4 x5 s_.1 s_.2 (fun s_ => L.FnNeedsAllOk_L10 n { n := 73, t := [(3, (.own 0)), (4, (.int .i64 x4)), (5, (.bool x5)), (6, (.int .i64 s_.1))], h := [.row (.ints .i64 s_.2)] } k) (fun d => k (.ret) { n := 73, t := [(2, (.bool d.1)), (3, (.own 0))], h := [.row (.ints .i64 d.2)] }) (fun d => k (.exit 0) { n := 73, t := [(2, .junk), (3, (.own 0))], h := [.row (.ints .i64 d)] }) none := by
      kernel_rfl
    have hs : (fun s_ : Int × (List Int) => L.FnNeedsAllOk_L10 n { n := 73, t := [(3, (.own 0)), (4, (.int .i64 x4)), (5, (.bool x5)), (6, (.int .i64 s_.1))], h := [.row (.ints .i64 s_.2)] } k) = fun s_ => optC (L.FnNeedsAllOk_run10 x4 x5 n s_) (fun (r : (Bool × (List Int)) ⊕ (List Int)) => (sumC r (fun (r : Bool × (List Int)) => k (.ret) { n := 73, t := [(2, (.bool r.1)), (3, (.own 0))], h := [.row (.ints .i64 r.2)] }) (fun (r : List Int) => k (.exit 0) { n := 73, t := [(2, .junk), (3, (.own 0))], h := [.row (.ints .i64 r)] }))) none := funext ih
    rw [hu, hs]
    exact (L.FnNeedsAllOk_step10_nat (fun o => optC o (fun (r : (Bool × (List Int)) ⊕ (List Int)) => (sumC r (fun (r : Bool × (List Int)) => k (.ret) { n := 73, t := [(2, (.bool r.1)), (3, (.own 0))], h := [.row (.ints .i64 r.2)] }) (fun (r : List Int) => k (.exit 0) { n := 73, t := [(2, .junk), (3, (.own 0))], h := [.row (.ints .i64 r)] }))) none) x4 x5 s_.1 s_.2 (L.FnNeedsAllOk_run10 x4 x5 n) (fun d => some ((Sum.inl d))) (fun d => some ((Sum.inr d))) none).symm
noncomputable def L.FnNeedsAllOk_tree {α : Type} (code : List Int) (leaf0_ : Bool → α) (fail_ : α) : α :=
  (bif decide ((↑code.length : Int) > 1048576) then (leaf0_ true) else (optC (S.DrawNeedsAllOk_t code) (fun c_1 => (optC (I.NeedsAllOk_t c_1.snd c_1.fst) (fun c_2 => (optC (S.NeedsAllOk_t c_1.snd c_1.fst) (fun c_3 => (bif !c_2 == c_3 then (leaf0_ false) else (optC (S.NetOk_t c_1.snd) (fun c_4 => (bif !c_4 then (bif !c_2 then (optC (L.alive_t) (fun c_5 => (leaf0_ c_5)) fail_) else (leaf0_ false)) else (bif decide (c_1.fst ≥ IntKind.i64.wrap (1 * 2 ^ min (↑c_1.snd.length : Int).toNat IntKind.i64.bits)) then (bif !c_2 then (optC (L.alive_t) (fun c_6 => (leaf0_ c_6)) fail_) else (leaf0_ false)) else (optC (L.FnNeedsAllOk_run10 c_1.fst c_2 FUEL (0, c_1.snd)) (fun qy_11 => (sumC qy_11 (fun (qy_11 : Bool × (List Int)) => (leaf0_ qy_11.1)) (fun (qy_11 : List Int) => (optC (I.NeedsAllOk_t qy_11 0) (fun c_12 => (bif c_12 then (optC (L.alive_t) (fun c_13 => (leaf0_ c_13)) fail_) else (leaf0_ false))) fail_)))) fail_)))) fail_))) fail_)) fail_)) fail_))
theorem L.FnNeedsAllOk_tree_nat {α γ : Type} (g : α → γ) (code : List Int) (leaf0_ : Bool → α) (fail_ : α) : g (L.FnNeedsAllOk_tree code leaf0_ fail_) = L.FnNeedsAllOk_tree code (fun d => g (leaf0_ d)) (g fail_) := by
  unfold L.FnNeedsAllOk_tree; simp only [apply_cnd g, apply_optC g, apply_sumC g]
noncomputable def L.FnNeedsAllOk_t (code : List Int) : Option (Bool) := L.FnNeedsAllOk_tree code (fun d => some d) none
theorem L.FnNeedsAllOk_den (code : List Int) (κ : V → List E → R) : L.FnNeedsAllOk_F [.ro true (.ints .u8 code)] [] κ = optC (L.FnNeedsAllOk_t code) (fun (r : Bool) => κ (.bool r) []) none := by
  have hu : L.FnNeedsAllOk_F [.ro true (.ints .u8 code)] [] κ = L.FnNeedsAllOk_tree code (fun d => κ (.bool d) []) none := by
    refine Eq.trans (show L.FnNeedsAllOk_F [.ro true (.ints .u8 code)] [] κ = (bif decide ((↑code.length : Int) > 1048576) then (κ (.bool true) []) else (optC (S.DrawNeedsAllOk_t code) (fun c_1 => (optC (I.NeedsAllOk_t c_1.snd c_1.fst) (fun c_2 => (optC (S.NeedsAllOk_t c_1.snd c_1.fst) (fun c_3 => (bif !c_2 == c_3 then (κ (.bool false) []) else (optC (S.NetOk_t c_1.snd) (fun c_4 => (bif !c_4 then (bif !c_2 then (optC (L.alive_t) (fun c_5 => (κ (.bool c_5) [])) none) else (κ (.bool false) [])) else (bif decide (c_1.fst ≥ IntKind.i64.wrap (1 * 2 ^ min (↑c_1.snd.length : Int).toNat IntKind.i64.bits)) then (bif !c_2 then (optC (L.alive_t) (fun c_6 => (κ (.bool c_6) [])) none) else (κ (.bool false) [])) else (L.FnNeedsAllOk_L10 FUEL { n := 73, t := [(3, (.own 0)), (4, (.int .i64 c_1.fst)), (5, (.bool c_2)), (6, (.int .i64 0))], h := [.row (.ints .i64 c_1.snd)] } (L.FnNeedsAllOk_k10 κ))))) none))) none)) none)) none)) by kernel_rfl) ?_
    refine cnd_congr ?_ ?_
    · kernel_rfl
    · refine optC_congr (fun c_1 => ?_)
      refine optC_congr (fun c_2 => ?_)
      refine optC_congr (fun c_3 => ?_)
      refine cnd_congr ?_ ?_
      · kernel_rfl
      · refine optC_congr (fun c_4 => ?_)
        refine cnd_congr ?_ ?_
        · kernel_rfl
        · refine cnd_congr ?_ ?_
          · kernel_rfl
          · refine (L.FnNeedsAllOk_L10_run c_1.fst c_2 FUEL (0, c_1.snd) (L.FnNeedsAllOk_k10 κ)).trans (optC_congr (fun qy_11 => ?_))
            rcases qy_11 with qy_11 | qy_11
            · kernel_rfl
            · kernel_rfl
  rw [hu]
  exact (L.FnNeedsAllOk_tree_nat (fun o => optC o (fun (r : Bool) => κ (.bool r) []) none) code (fun d => some d) none).symm
noncomputable def L.FnNeedsAllOk_s : D.Spec where
  keep := true
  pure := true
  ds := [.int .u8]
  sp := fun args h κ => match args, h with
    | [.ro true (.ints .u8 code)], [] => optC (L.FnNeedsAllOk_t code) (fun (r : Bool) => κ (.bool r) []) none
    | _, _ => none
theorem L.FnNeedsAllOk_ok : SpecOk Try.prog 5 L.FnNeedsAllOk_s := by
  refine SpecOk.of TDok mixed (T := L.FnNeedsAllOk_T) ?_ (ann := L.FnNeedsAllOk_ann) Try.func5 rfl (by decide +kernel) ?_ ?_ ?_
  · intro p hp
    simp only [L.FnNeedsAllOk_T, List.mem_cons, List.not_mem_nil, or_false] at hp
    rcases hp with rfl | rfl | rfl | rfl | rfl
    · exact S.DrawNeedsAllOk_ok
    · exact I.NeedsAllOk_ok
    · exact S.NeedsAllOk_ok
    · exact S.NetOk_ok
    · exact L.alive_ok
  · intro args h κ r hh
    simp only [L.FnNeedsAllOk_s] at hh
    split at hh
    · exact (L.FnNeedsAllOk_den _ κ).trans hh
    · cases hh
  · intro args h κ r hh
    simp only [L.FnNeedsAllOk_s] at hh ⊢
    split at hh
    · exact optC_law2 (F := fun (r : Bool) κ => κ (.bool r) []) (fun b κ r hb => ⟨_, _, hb, fun _ => rfl⟩) hh
    · cases hh
  · intro _ args h κ r hh
    simp only [L.FnNeedsAllOk_s] at hh
    split at hh
    · exact ⟨rfl, fun _ => rfl⟩
    · cases hh

-- loop.example/guardsonnets/laws.FnExactNeedsAllOk
noncomputable def L.FnExactNeedsAllOk_T : List (Nat × D.Spec) := [(23, L.toIntS_s), (27, S.NeedsAllOk_s), (26, I.NeedsAllOk_s), (24, L.eqIntS_s)]
def L.FnExactNeedsAllOk_ann : Nat → List Nat × List Nat
  | _ => ([], [])
noncomputable def L.FnExactNeedsAllOk_F (args : List V) (h : List E) (κ : V → List E → R) : R := funC TD (tableK L.FnExactNeedsAllOk_T) L.FnExactNeedsAllOk_ann (drawOk (tableP L.FnExactNeedsAllOk_T)) FUEL Try.f6 args h κ
noncomputable def L.FnExactNeedsAllOk_tree {α : Type} (aNet : List Int) (aSet : Int) (leaf0_ : Bool → α) (fail_ : α) : α :=
  (bif decide ((↑aNet.length : Int) > 1048576) then (leaf0_ true) else (optC (L.toIntS_t aNet) (fun c_1 => (optC (S.NeedsAllOk_t c_1 aSet) (fun c_2 => (optC (L.toIntS_t aNet) (fun c_3 => (optC (I.NeedsAllOk_t c_3 aSet) (fun c_4 => (bif !c_4 == c_2 then (leaf0_ false) else (optC (L.toIntS_t aNet) (fun c_5 => (optC (L.eqIntS_t c_3 c_5) (fun c_6 => (bif !c_6 then (leaf0_ false) else (leaf0_ true))) fail_)) fail_))) fail_)) fail_)) fail_)) fail_))
theorem L.FnExactNeedsAllOk_tree_nat {α γ : Type} (g : α → γ) (aNet : List Int) (aSet : Int) (leaf0_ : Bool → α) (fail_ : α) : g (L.FnExactNeedsAllOk_tree aNet aSet leaf0_ fail_) = L.FnExactNeedsAllOk_tree aNet aSet (fun d => g (leaf0_ d)) (g fail_) := by
  unfold L.FnExactNeedsAllOk_tree; simp only [apply_cnd g, apply_optC g, apply_sumC g]
noncomputable def L.FnExactNeedsAllOk_t (aNet : List Int) (aSet : Int) : Option (Bool) := L.FnExactNeedsAllOk_tree aNet aSet (fun d => some d) none
theorem L.FnExactNeedsAllOk_den (aNet : List Int) (aSet : Int) (κ : V → List E → R) : L.FnExactNeedsAllOk_F [.ro true (.ints .i64 aNet), .int .i64 aSet] [] κ = optC (L.FnExactNeedsAllOk_t aNet aSet) (fun (r : Bool) => κ (.bool r) []) none := by
  have hu : L.FnExactNeedsAllOk_F [.ro true (.ints .i64 aNet), .int .i64 aSet] [] κ = L.FnExactNeedsAllOk_tree aNet aSet (fun d => κ (.bool d) []) none := by
    kernel_rfl
  rw [hu]
  exact (L.FnExactNeedsAllOk_tree_nat (fun o => optC o (fun (r : Bool) => κ (.bool r) []) none) aNet aSet (fun d => some d) none).symm
noncomputable def L.FnExactNeedsAllOk_s : D.Spec where
  keep := true
  pure := true
  ds := [.int .i64, .invalid]
  sp := fun args h κ => match args, h with
    | [.ro true (.ints .i64 aNet), .int .i64 aSet], [] => optC (L.FnExactNeedsAllOk_t aNet aSet) (fun (r : Bool) => κ (.bool r) []) none
    | _, _ => none
theorem L.FnExactNeedsAllOk_ok : SpecOk Try.prog 6 L.FnExactNeedsAllOk_s := by
  refine SpecOk.of TDok mixed (T := L.FnExactNeedsAllOk_T) ?_ (ann := L.FnExactNeedsAllOk_ann) Try.func6 rfl (by decide +kernel) ?_ ?_ ?_
  · intro p hp
    simp only [L.FnExactNeedsAllOk_T, List.mem_cons, List.not_mem_nil, or_false] at hp
    rcases hp with rfl | rfl | rfl | rfl
    · exact L.toIntS_ok
    · exact S.NeedsAllOk_ok
    · exact I.NeedsAllOk_ok
    · exact L.eqIntS_ok
  · intro args h κ r hh
    simp only [L.FnExactNeedsAllOk_s] at hh
    split at hh
    · exact (L.FnExactNeedsAllOk_den _ _ κ).trans hh
    · cases hh
  · intro args h κ r hh
    simp only [L.FnExactNeedsAllOk_s] at hh ⊢
    split at hh
    · exact optC_law2 (F := fun (r : Bool) κ => κ (.bool r) []) (fun b κ r hb => ⟨_, _, hb, fun _ => rfl⟩) hh
    · cases hh
  · intro _ args h κ r hh
    simp only [L.FnExactNeedsAllOk_s] at hh
    split at hh
    · exact ⟨rfl, fun _ => rfl⟩
    · cases hh

-- loop.example/guardsonnets/spec.DrawFullNeedsOk
noncomputable def S.DrawFullNeedsOk_T : List (Nat × D.Spec) := [(46, S.l20Open_s), (47, S.l20Watch_s)]
def S.DrawFullNeedsOk_ann : Nat → List Nat × List Nat
  | _ => ([], [])
noncomputable def S.DrawFullNeedsOk_F (args : List V) (h : List E) (κ : V → List E → R) : R := funC TD (tableK S.DrawFullNeedsOk_T) S.DrawFullNeedsOk_ann (drawOk (tableP S.DrawFullNeedsOk_T)) FUEL Try.f29 args h κ
noncomputable def S.DrawFullNeedsOk_tree {α : Type} (code : List Int) (leaf0_ : Int × (List Int) → α) (fail_ : α) : α :=
  (optC (S.l20Open_t code) (fun c_1 => (optC (S.l20Watch_t c_1.fst c_1.snd 12) (fun c_2 => (leaf0_ (c_2.fst, c_2.snd.snd.snd))) fail_)) fail_)
theorem S.DrawFullNeedsOk_tree_nat {α γ : Type} (g : α → γ) (code : List Int) (leaf0_ : Int × (List Int) → α) (fail_ : α) : g (S.DrawFullNeedsOk_tree code leaf0_ fail_) = S.DrawFullNeedsOk_tree code (fun d => g (leaf0_ d)) (g fail_) := by
  unfold S.DrawFullNeedsOk_tree; simp only [apply_cnd g, apply_optC g, apply_sumC g]
noncomputable def S.DrawFullNeedsOk_t (code : List Int) : Option (Int × (List Int)) := S.DrawFullNeedsOk_tree code (fun d => some d) none
theorem S.DrawFullNeedsOk_den (code : List Int) (κ : V → List E → R) : S.DrawFullNeedsOk_F [.ro true (.ints .u8 code)] [] κ = optC (S.DrawFullNeedsOk_t code) (fun (r : Int × (List Int)) => κ (.tup [(.own 0), (.int .i64 r.1)]) [.row (.ints .i64 r.2)]) none := by
  have hu : S.DrawFullNeedsOk_F [.ro true (.ints .u8 code)] [] κ = S.DrawFullNeedsOk_tree code (fun d => κ (.tup [(.own 0), (.int .i64 d.1)]) [.row (.ints .i64 d.2)]) none := by
    kernel_rfl
  rw [hu]
  exact (S.DrawFullNeedsOk_tree_nat (fun o => optC o (fun (r : Int × (List Int)) => κ (.tup [(.own 0), (.int .i64 r.1)]) [.row (.ints .i64 r.2)]) none) code (fun d => some d) none).symm
noncomputable def S.DrawFullNeedsOk_s : D.Spec where
  keep := true
  pure := false
  ds := [.int .u8]
  sp := fun args h κ => match args, h with
    | [.ro true (.ints .u8 code)], [] => optC (S.DrawFullNeedsOk_t code) (fun (r : Int × (List Int)) => κ (.tup [(.own 0), (.int .i64 r.1)]) [.row (.ints .i64 r.2)]) none
    | _, _ => none
theorem S.DrawFullNeedsOk_ok : SpecOk Try.prog 29 S.DrawFullNeedsOk_s := by
  refine SpecOk.of TDok mixed (T := S.DrawFullNeedsOk_T) ?_ (ann := S.DrawFullNeedsOk_ann) Try.func29 rfl (by decide +kernel) ?_ ?_ ?_
  · intro p hp
    simp only [S.DrawFullNeedsOk_T, List.mem_cons, List.not_mem_nil, or_false] at hp
    rcases hp with rfl | rfl
    · exact S.l20Open_ok
    · exact S.l20Watch_ok
  · intro args h κ r hh
    simp only [S.DrawFullNeedsOk_s] at hh
    split at hh
    · exact (S.DrawFullNeedsOk_den _ κ).trans hh
    · cases hh
  · intro args h κ r hh
    simp only [S.DrawFullNeedsOk_s] at hh ⊢
    split at hh
    · exact optC_law2 (F := fun (r : Int × (List Int)) κ => κ (.tup [(.own 0), (.int .i64 r.1)]) [.row (.ints .i64 r.2)]) (fun b κ r hb => ⟨_, _, hb, fun _ => rfl⟩) hh
    · cases hh
  · intro hh; cases hh

-- loop.example/guardsonnets/impl.with
noncomputable def I.with_T : List (Nat × D.Spec) := []
def I.with_ann : Nat → List Nat × List Nat
  | _ => ([], [])
noncomputable def I.with_F (args : List V) (h : List E) (κ : V → List E → R) : R := funC TD (tableK I.with_T) I.with_ann (drawOk (tableP I.with_T)) FUEL Try.f70 args h κ
noncomputable def I.with_tree {α : Type} (set_ : Int) (place : Int) (leaf0_ : Int → α) (fail_ : α) : α :=
  (bif decide (place < 0) then fail_ else (leaf0_ (bits BinOp.or IntKind.i64 set_ (IntKind.i64.wrap (1 * 2 ^ min place.toNat IntKind.i64.bits)))))
theorem I.with_tree_nat {α γ : Type} (g : α → γ) (set_ : Int) (place : Int) (leaf0_ : Int → α) (fail_ : α) : g (I.with_tree set_ place leaf0_ fail_) = I.with_tree set_ place (fun d => g (leaf0_ d)) (g fail_) := by
  unfold I.with_tree; simp only [apply_cnd g, apply_optC g, apply_sumC g]
noncomputable def I.with_t (set_ : Int) (place : Int) : Option (Int) := I.with_tree set_ place (fun d => some d) none
theorem I.with_den (set_ : Int) (place : Int) (κ : V → List E → R) : I.with_F [.int .i64 set_, .int .i64 place] [] κ = optC (I.with_t set_ place) (fun (r : Int) => κ (.int .i64 r) []) none := by
  have hu : I.with_F [.int .i64 set_, .int .i64 place] [] κ = I.with_tree set_ place (fun d => κ (.int .i64 d) []) none := by
    kernel_rfl
  rw [hu]
  exact (I.with_tree_nat (fun o => optC o (fun (r : Int) => κ (.int .i64 r) []) none) set_ place (fun d => some d) none).symm
noncomputable def I.with_s : D.Spec where
  keep := false
  pure := true
  ds := [.invalid, .invalid]
  sp := fun args h κ => match args, h with
    | [.int .i64 set_, .int .i64 place], [] => optC (I.with_t set_ place) (fun (r : Int) => κ (.int .i64 r) []) none
    | _, _ => none
theorem I.with_ok : SpecOk Try.prog 70 I.with_s := by
  refine SpecOk.of TDok mixed (T := I.with_T) ?_ (ann := I.with_ann) Try.func70 rfl (by decide +kernel) ?_ ?_ ?_
  · intro p hp; cases hp
  · intro args h κ r hh
    simp only [I.with_s] at hh
    split at hh
    · exact (I.with_den _ _ κ).trans hh
    · cases hh
  · intro args h κ r hh
    simp only [I.with_s] at hh ⊢
    split at hh
    · exact optC_law2 (F := fun (r : Int) κ => κ (.int .i64 r) []) (fun b κ r hb => ⟨_, _, hb, fun _ => rfl⟩) hh
    · cases hh
  · intro _ args h κ r hh
    simp only [I.with_s] at hh
    split at hh
    · exact ⟨rfl, fun _ => rfl⟩
    · cases hh

-- loop.example/guardsonnets/impl.fullNeedsIn
noncomputable def I.fullNeedsIn_T : List (Nat × D.Spec) := [(59, I.needsAllIn_s), (52, I.hasPlace_s), (70, I.with_s)]
def I.fullNeedsIn_ann : Nat → List Nat × List Nat
  | 4 => ([0, 1, 5], [4])
  | _ => ([], [])
noncomputable def I.fullNeedsIn_F (args : List V) (h : List E) (κ : V → List E → R) : R := funC TD (tableK I.fullNeedsIn_T) I.fullNeedsIn_ann (drawOk (tableP I.fullNeedsIn_T)) FUEL Try.f61 args h κ
noncomputable def I.fullNeedsIn_L4 (n : Nat) (σ : St) (k : X → St → R) : R := iterC 0 (fun σ k => denC TD (tableK I.fullNeedsIn_T) I.fullNeedsIn_ann (drawOk (tableP I.fullNeedsIn_T)) 0 FUEL ((findLoop 4 (Try.f61.body.getD .skip)).getD .skip) σ k) [0, 1, 5] [4] n σ k
noncomputable def I.fullNeedsIn_k4 (κ : V → List E → R) : X → St → R := (afterC TD (tableK I.fullNeedsIn_T) I.fullNeedsIn_ann (drawOk (tableP I.fullNeedsIn_T)) 0 FUEL 4 (Try.f61.body.getD .skip) (finC 0 Try.f61 κ)).getD (fun _ _ => none)
noncomputable def I.fullNeedsIn_step4 {α : Type} (x0 : List Int) (x1 : Int) (x5 : Int) (next_ : Int → α) (out0_ : Bool → α) (out1_ : Unit → α) (fail_ : α) : α :=
  (bif decide (x5 < (↑x0.length : Int)) then (optC (I.hasPlace_t x1 x5) (fun c_2 => (bif !c_2 then (optC (I.with_t x1 x5) (fun c_3 => (optC (I.needsAllIn_t x0 c_3) (fun c_4 => (bif c_4 then (out0_ false) else (next_ (IntKind.i64.wrap (x5 + 1))))) fail_)) fail_) else (next_ (IntKind.i64.wrap (x5 + 1))))) fail_) else (out1_ ()))
theorem I.fullNeedsIn_step4_nat {α γ : Type} (g : α → γ) (x0 : List Int) (x1 : Int) (x5 : Int) (next_ : Int → α) (out0_ : Bool → α) (out1_ : Unit → α) (fail_ : α) : g (I.fullNeedsIn_step4 x0 x1 x5 next_ out0_ out1_ fail_) = I.fullNeedsIn_step4 x0 x1 x5 (fun s => g (next_ s)) (fun d => g (out0_ d)) (fun d => g (out1_ d)) (g fail_) := by
  unfold I.fullNeedsIn_step4; simp only [apply_cnd g, apply_optC g, apply_sumC g]
noncomputable def I.fullNeedsIn_run4 (x0 : List Int) (x1 : Int) : Nat → Int → Option ((Bool) ⊕ (Unit))
  | 0, _ => none
  | n + 1, s_ => I.fullNeedsIn_step4 x0 x1 s_ (I.fullNeedsIn_run4 x0 x1 n) (fun d => some ((Sum.inl d))) (fun d => some ((Sum.inr d))) none
theorem I.fullNeedsIn_L4_run (x0 : List Int) (x1 : Int) (n : Nat) (s_ : Int) (k : X → St → R) : I.fullNeedsIn_L4 n { n := 27, t := [(0, (.ro false (.ints .i64 x0))), (1, (.int .i64 x1)), (5, (.int .i64 s_))], h := [] } k = optC (I.fullNeedsIn_run4 x0 x1 n s_) (fun (r : (Bool) ⊕ (Unit)) => (sumC r (fun (r : Bool) => k (.ret) { n := 27, t := [(4, (.bool r))], h := [] }) (fun (r : Unit) => k (.exit 0) { n := 27, t := [(4, .junk)], h := [] }))) none := by
  induction n generalizing s_ with
  | zero => rfl
  | succ n ih =>
    have hu : I.fullNeedsIn_L4 (n + 1) { n := 27, t := [(0, (.ro false (.ints .i64 x0))), (1, (.int .i64 x1)), (5, (.int .i64 s_))], h := [] } k = I.fullNeedsIn_step4 x0 x1 s_ (fun s_ => I.fullNeedsIn_L4 n { n := 27, t := [(0, (.ro false (.ints .i64 x0))), (1, (.int .i64 x1)), (5, (.int .i64 s_))], h := [] } k) (fun d => k (.ret) { n := 27, t := [(4, (.bool d))], h := [] }) (fun d => k (.exit 0) { n := 27, t := [(4, .junk)], h := [] }) none := by
      kernel_rfl
    have hs : (fun s_ : Int => I.fullNeedsIn_L4 n { n := 27, t := [(0, (.ro false (.ints .i64 x0))), (1, (.int .i64 x1)), (5, (.int .i64 s_))], h := [] } k) = fun s_ => optC (I.fullNeedsIn_run4 x0 x1 n s_) (fun (r : (Bool) ⊕ (Unit)) => (sumC r (fun (r : Bool) => k (.ret) { n := 27, t := [(4, (.bool r))], h := [] }) (fun (r : Unit) => k (.exit 0) { n := 27, t := [(4, .junk)], h := [] }))) none := funext ih
    rw [hu, hs]
    exact (I.fullNeedsIn_step4_nat (fun o => optC o (fun (r : (Bool) ⊕ (Unit)) => (sumC r (fun (r : Bool) => k (.ret) { n := 27, t := [(4, (.bool r))], h := [] }) (fun (r : Unit) => k (.exit 0) { n := 27, t := [(4, .junk)], h := [] }))) none) x0 x1 s_ (I.fullNeedsIn_run4 x0 x1 n) (fun d => some ((Sum.inl d))) (fun d => some ((Sum.inr d))) none).symm
noncomputable def I.fullNeedsIn_tree {α : Type} (net : List Int) (set_ : Int) (leaf0_ : Bool → α) (fail_ : α) : α :=
  (optC (I.needsAllIn_t net set_) (fun c_1 => (bif !c_1 then (leaf0_ false) else (optC (I.fullNeedsIn_run4 net set_ FUEL 0) (fun qy_5 => (sumC qy_5 (fun (qy_5 : Bool) => (leaf0_ qy_5)) (fun (qy_5 : Unit) => (leaf0_ true)))) fail_))) fail_)
theorem I.fullNeedsIn_tree_nat {α γ : Type} (g : α → γ) (net : List Int) (set_ : Int) (leaf0_ : Bool → α) (fail_ : α) : g (I.fullNeedsIn_tree net set_ leaf0_ fail_) = I.fullNeedsIn_tree net set_ (fun d => g (leaf0_ d)) (g fail_) := by
  unfold I.fullNeedsIn_tree; simp only [apply_cnd g, apply_optC g, apply_sumC g]
noncomputable def I.fullNeedsIn_t (net : List Int) (set_ : Int) : Option (Bool) := I.fullNeedsIn_tree net set_ (fun d => some d) none
theorem I.fullNeedsIn_den (net : List Int) (set_ : Int) (κ : V → List E → R) : I.fullNeedsIn_F [.ro false (.ints .i64 net), .int .i64 set_] [] κ = optC (I.fullNeedsIn_t net set_) (fun (r : Bool) => κ (.bool r) []) none := by
  have hu : I.fullNeedsIn_F [.ro false (.ints .i64 net), .int .i64 set_] [] κ = I.fullNeedsIn_tree net set_ (fun d => κ (.bool d) []) none := by
    refine Eq.trans (show I.fullNeedsIn_F [.ro false (.ints .i64 net), .int .i64 set_] [] κ = (optC (I.needsAllIn_t net set_) (fun c_1 => (bif !c_1 then (κ (.bool false) []) else (I.fullNeedsIn_L4 FUEL { n := 27, t := [(0, (.ro false (.ints .i64 net))), (1, (.int .i64 set_)), (5, (.int .i64 0))], h := [] } (I.fullNeedsIn_k4 κ)))) none) by kernel_rfl) ?_
    refine optC_congr (fun c_1 => ?_)
    refine cnd_congr ?_ ?_
    · kernel_rfl
    · refine (I.fullNeedsIn_L4_run net set_ FUEL 0 (I.fullNeedsIn_k4 κ)).trans (optC_congr (fun qy_5 => ?_))
      rcases qy_5 with qy_5 | qy_5
      · kernel_rfl
      · kernel_rfl
  rw [hu]
  exact (I.fullNeedsIn_tree_nat (fun o => optC o (fun (r : Bool) => κ (.bool r) []) none) net set_ (fun d => some d) none).symm
noncomputable def I.fullNeedsIn_s : D.Spec where
  keep := false
  pure := true
  ds := [.int .i64, .invalid]
  sp := fun args h κ => match args, h with
    | [.ro false (.ints .i64 net), .int .i64 set_], [] => optC (I.fullNeedsIn_t net set_) (fun (r : Bool) => κ (.bool r) []) none
    | _, _ => none
theorem I.fullNeedsIn_ok : SpecOk Try.prog 61 I.fullNeedsIn_s := by
  refine SpecOk.of TDok mixed (T := I.fullNeedsIn_T) ?_ (ann := I.fullNeedsIn_ann) Try.func61 rfl (by decide +kernel) ?_ ?_ ?_
  · intro p hp
    simp only [I.fullNeedsIn_T, List.mem_cons, List.not_mem_nil, or_false] at hp
    rcases hp with rfl | rfl | rfl
    · exact I.needsAllIn_ok
    · exact I.hasPlace_ok
    · exact I.with_ok
  · intro args h κ r hh
    simp only [I.fullNeedsIn_s] at hh
    split at hh
    · exact (I.fullNeedsIn_den _ _ κ).trans hh
    · cases hh
  · intro args h κ r hh
    simp only [I.fullNeedsIn_s] at hh ⊢
    split at hh
    · exact optC_law2 (F := fun (r : Bool) κ => κ (.bool r) []) (fun b κ r hb => ⟨_, _, hb, fun _ => rfl⟩) hh
    · cases hh
  · intro _ args h κ r hh
    simp only [I.fullNeedsIn_s] at hh
    split at hh
    · exact ⟨rfl, fun _ => rfl⟩
    · cases hh

-- loop.example/guardsonnets/impl.FullNeedsOk
noncomputable def I.FullNeedsOk_T : List (Nat × D.Spec) := [(49, I.NetOk_s), (50, I.setIn_s), (61, I.fullNeedsIn_s)]
def I.FullNeedsOk_ann : Nat → List Nat × List Nat
  | _ => ([], [])
noncomputable def I.FullNeedsOk_F (args : List V) (h : List E) (κ : V → List E → R) : R := funC TD (tableK I.FullNeedsOk_T) I.FullNeedsOk_ann (drawOk (tableP I.FullNeedsOk_T)) FUEL Try.f30 args h κ
noncomputable def I.FullNeedsOk_tree {α : Type} (net : List Int) (set_ : Int) (leaf0_ : Bool → α) (fail_ : α) : α :=
  (optC (I.NetOk_t net) (fun c_1 => (bif c_1 then (optC (I.setIn_t net set_) (fun c_2 => (bif c_2 then (optC (I.fullNeedsIn_t net set_) (fun c_3 => (leaf0_ c_3)) fail_) else (leaf0_ false))) fail_) else (leaf0_ false))) fail_)
theorem I.FullNeedsOk_tree_nat {α γ : Type} (g : α → γ) (net : List Int) (set_ : Int) (leaf0_ : Bool → α) (fail_ : α) : g (I.FullNeedsOk_tree net set_ leaf0_ fail_) = I.FullNeedsOk_tree net set_ (fun d => g (leaf0_ d)) (g fail_) := by
  unfold I.FullNeedsOk_tree; simp only [apply_cnd g, apply_optC g, apply_sumC g]
noncomputable def I.FullNeedsOk_t (net : List Int) (set_ : Int) : Option (Bool) := I.FullNeedsOk_tree net set_ (fun d => some d) none
theorem I.FullNeedsOk_den (net : List Int) (set_ : Int) (κ : V → List E → R) : I.FullNeedsOk_F [.ro false (.ints .i64 net), .int .i64 set_] [] κ = optC (I.FullNeedsOk_t net set_) (fun (r : Bool) => κ (.bool r) []) none := by
  have hu : I.FullNeedsOk_F [.ro false (.ints .i64 net), .int .i64 set_] [] κ = I.FullNeedsOk_tree net set_ (fun d => κ (.bool d) []) none := by
    kernel_rfl
  rw [hu]
  exact (I.FullNeedsOk_tree_nat (fun o => optC o (fun (r : Bool) => κ (.bool r) []) none) net set_ (fun d => some d) none).symm
noncomputable def I.FullNeedsOk_s : D.Spec where
  keep := false
  pure := true
  ds := [.int .i64, .invalid]
  sp := fun args h κ => match args, h with
    | [.ro false (.ints .i64 net), .int .i64 set_], [] => optC (I.FullNeedsOk_t net set_) (fun (r : Bool) => κ (.bool r) []) none
    | _, _ => none
theorem I.FullNeedsOk_ok : SpecOk Try.prog 30 I.FullNeedsOk_s := by
  refine SpecOk.of TDok mixed (T := I.FullNeedsOk_T) ?_ (ann := I.FullNeedsOk_ann) Try.func30 rfl (by decide +kernel) ?_ ?_ ?_
  · intro p hp
    simp only [I.FullNeedsOk_T, List.mem_cons, List.not_mem_nil, or_false] at hp
    rcases hp with rfl | rfl | rfl
    · exact I.NetOk_ok
    · exact I.setIn_ok
    · exact I.fullNeedsIn_ok
  · intro args h κ r hh
    simp only [I.FullNeedsOk_s] at hh
    split at hh
    · exact (I.FullNeedsOk_den _ _ κ).trans hh
    · cases hh
  · intro args h κ r hh
    simp only [I.FullNeedsOk_s] at hh ⊢
    split at hh
    · exact optC_law2 (F := fun (r : Bool) κ => κ (.bool r) []) (fun b κ r hb => ⟨_, _, hb, fun _ => rfl⟩) hh
    · cases hh
  · intro _ args h κ r hh
    simp only [I.FullNeedsOk_s] at hh
    split at hh
    · exact ⟨rfl, fun _ => rfl⟩
    · cases hh

-- loop.example/guardsonnets/spec.l3Full
noncomputable def S.l3Full_T : List (Nat × D.Spec) := [(60, S.l3Needs_s)]
def S.l3Full_ann : Nat → List Nat × List Nat
  | 2 => ([0, 1, 5], [0, 1, 4])
  | _ => ([], [])
noncomputable def S.l3Full_F (args : List V) (h : List E) (κ : V → List E → R) : R := funC TD (tableK S.l3Full_T) S.l3Full_ann (drawOk (tableP S.l3Full_T)) FUEL Try.f62 args h κ
noncomputable def S.l3Full_L2 (n : Nat) (σ : St) (k : X → St → R) : R := iterC 0 (fun σ k => denC TD (tableK S.l3Full_T) S.l3Full_ann (drawOk (tableP S.l3Full_T)) 0 FUEL ((findLoop 2 (Try.f62.body.getD .skip)).getD .skip) σ k) [0, 1, 5] [0, 1, 4] n σ k
noncomputable def S.l3Full_k2 (κ : V → List E → R) : X → St → R := (afterC TD (tableK S.l3Full_T) S.l3Full_ann (drawOk (tableP S.l3Full_T)) 0 FUEL 2 (Try.f62.body.getD .skip) (finC 0 Try.f62 κ)).getD (fun _ _ => none)
noncomputable def S.l3Full_step2 {α : Type} (x0 : List Int) (x1 : Int) (x5 : Int) (next_ : Int → α) (out0_ : Bool → α) (out1_ : Unit → α) (fail_ : α) : α :=
  (bif decide (x5 < (↑x0.length : Int)) then (bif decide (x5 < 0) then fail_ else (bif (x1.fdiv (2 ^ min x5.toNat IntKind.i64.bits)).tmod 2 == 0 then (bif decide (x5 < 0) then fail_ else (optC (S.l3Needs_t x0 (bits BinOp.or IntKind.i64 x1 (IntKind.i64.wrap (1 * 2 ^ min x5.toNat IntKind.i64.bits)))) (fun c_1 => (bif c_1 then (out0_ false) else (next_ (IntKind.i64.wrap (x5 + 1))))) fail_)) else (next_ (IntKind.i64.wrap (x5 + 1))))) else (out1_ ()))
theorem S.l3Full_step2_nat {α γ : Type} (g : α → γ) (x0 : List Int) (x1 : Int) (x5 : Int) (next_ : Int → α) (out0_ : Bool → α) (out1_ : Unit → α) (fail_ : α) : g (S.l3Full_step2 x0 x1 x5 next_ out0_ out1_ fail_) = S.l3Full_step2 x0 x1 x5 (fun s => g (next_ s)) (fun d => g (out0_ d)) (fun d => g (out1_ d)) (g fail_) := by
  unfold S.l3Full_step2; simp only [apply_cnd g, apply_optC g, apply_sumC g]
noncomputable def S.l3Full_run2 (x0 : List Int) (x1 : Int) : Nat → Int → Option ((Bool) ⊕ (Unit))
  | 0, _ => none
  | n + 1, s_ => S.l3Full_step2 x0 x1 s_ (S.l3Full_run2 x0 x1 n) (fun d => some ((Sum.inl d))) (fun d => some ((Sum.inr d))) none
theorem S.l3Full_L2_run (x0 : List Int) (x1 : Int) (n : Nat) (s_ : Int) (k : X → St → R) : S.l3Full_L2 n { n := 28, t := [(0, (.ro false (.ints .i64 x0))), (1, (.int .i64 x1)), (5, (.int .i64 s_))], h := [] } k = optC (S.l3Full_run2 x0 x1 n s_) (fun (r : (Bool) ⊕ (Unit)) => (sumC r (fun (r : Bool) => k (.ret) { n := 28, t := [(0, (.ro false (.ints .i64 x0))), (1, (.int .i64 x1)), (4, (.bool r))], h := [] }) (fun (r : Unit) => k (.exit 0) { n := 28, t := [(0, (.ro false (.ints .i64 x0))), (1, (.int .i64 x1)), (4, .junk)], h := [] }))) none := by
  induction n generalizing s_ with
  | zero => rfl
  | succ n ih =>
    have hu : S.l3Full_L2 (n + 1) { n := 28, t := [(0, (.ro false (.ints .i64 x0))), (1, (.int .i64 x1)), (5, (.int .i64 s_))], h := [] } k = S.l3Full_step2 x0 x1 s_ (fun s_ => S.l3Full_L2 n { n := 28, t := [(0, (.ro false (.ints .i64 x0))), (1, (.int .i64 x1)), (5, (.int .i64 s_))], h := [] } k) (fun d => k (.ret) { n := 28, t := [(0, (.ro false (.ints .i64 x0))), (1, (.int .i64 x1)), (4, (.bool d))], h := [] }) (fun d => k (.exit 0) { n := 28, t := [(0, (.ro false (.ints .i64 x0))), (1, (.int .i64 x1)), (4, .junk)], h := [] }) none := by
      kernel_rfl
    have hs : (fun s_ : Int => S.l3Full_L2 n { n := 28, t := [(0, (.ro false (.ints .i64 x0))), (1, (.int .i64 x1)), (5, (.int .i64 s_))], h := [] } k) = fun s_ => optC (S.l3Full_run2 x0 x1 n s_) (fun (r : (Bool) ⊕ (Unit)) => (sumC r (fun (r : Bool) => k (.ret) { n := 28, t := [(0, (.ro false (.ints .i64 x0))), (1, (.int .i64 x1)), (4, (.bool r))], h := [] }) (fun (r : Unit) => k (.exit 0) { n := 28, t := [(0, (.ro false (.ints .i64 x0))), (1, (.int .i64 x1)), (4, .junk)], h := [] }))) none := funext ih
    rw [hu, hs]
    exact (S.l3Full_step2_nat (fun o => optC o (fun (r : (Bool) ⊕ (Unit)) => (sumC r (fun (r : Bool) => k (.ret) { n := 28, t := [(0, (.ro false (.ints .i64 x0))), (1, (.int .i64 x1)), (4, (.bool r))], h := [] }) (fun (r : Unit) => k (.exit 0) { n := 28, t := [(0, (.ro false (.ints .i64 x0))), (1, (.int .i64 x1)), (4, .junk)], h := [] }))) none) x0 x1 s_ (S.l3Full_run2 x0 x1 n) (fun d => some ((Sum.inl d))) (fun d => some ((Sum.inr d))) none).symm
noncomputable def S.l3Full_tree {α : Type} (net : List Int) (set_ : Int) (leaf0_ : Bool → α) (fail_ : α) : α :=
  (optC (S.l3Full_run2 net set_ FUEL 0) (fun qy_2 => (sumC qy_2 (fun (qy_2 : Bool) => (leaf0_ qy_2)) (fun (qy_2 : Unit) => (optC (S.l3Needs_t net set_) (fun c_3 => (leaf0_ c_3)) fail_)))) fail_)
theorem S.l3Full_tree_nat {α γ : Type} (g : α → γ) (net : List Int) (set_ : Int) (leaf0_ : Bool → α) (fail_ : α) : g (S.l3Full_tree net set_ leaf0_ fail_) = S.l3Full_tree net set_ (fun d => g (leaf0_ d)) (g fail_) := by
  unfold S.l3Full_tree; simp only [apply_cnd g, apply_optC g, apply_sumC g]
noncomputable def S.l3Full_t (net : List Int) (set_ : Int) : Option (Bool) := S.l3Full_tree net set_ (fun d => some d) none
theorem S.l3Full_den (net : List Int) (set_ : Int) (κ : V → List E → R) : S.l3Full_F [.ro false (.ints .i64 net), .int .i64 set_] [] κ = optC (S.l3Full_t net set_) (fun (r : Bool) => κ (.bool r) []) none := by
  have hu : S.l3Full_F [.ro false (.ints .i64 net), .int .i64 set_] [] κ = S.l3Full_tree net set_ (fun d => κ (.bool d) []) none := by
    refine Eq.trans (show S.l3Full_F [.ro false (.ints .i64 net), .int .i64 set_] [] κ = (S.l3Full_L2 FUEL { n := 28, t := [(0, (.ro false (.ints .i64 net))), (1, (.int .i64 set_)), (5, (.int .i64 0))], h := [] } (S.l3Full_k2 κ)) by kernel_rfl) ?_
    refine (S.l3Full_L2_run net set_ FUEL 0 (S.l3Full_k2 κ)).trans (optC_congr (fun qy_2 => ?_))
    rcases qy_2 with qy_2 | qy_2
    · kernel_rfl
    · kernel_rfl
  rw [hu]
  exact (S.l3Full_tree_nat (fun o => optC o (fun (r : Bool) => κ (.bool r) []) none) net set_ (fun d => some d) none).symm
noncomputable def S.l3Full_s : D.Spec where
  keep := false
  pure := true
  ds := [.int .i64, .invalid]
  sp := fun args h κ => match args, h with
    | [.ro false (.ints .i64 net), .int .i64 set_], [] => optC (S.l3Full_t net set_) (fun (r : Bool) => κ (.bool r) []) none
    | _, _ => none
theorem S.l3Full_ok : SpecOk Try.prog 62 S.l3Full_s := by
  refine SpecOk.of TDok mixed (T := S.l3Full_T) ?_ (ann := S.l3Full_ann) Try.func62 rfl (by decide +kernel) ?_ ?_ ?_
  · intro p hp
    simp only [S.l3Full_T, List.mem_cons, List.not_mem_nil, or_false] at hp
    rcases hp with rfl
    · exact S.l3Needs_ok
  · intro args h κ r hh
    simp only [S.l3Full_s] at hh
    split at hh
    · exact (S.l3Full_den _ _ κ).trans hh
    · cases hh
  · intro args h κ r hh
    simp only [S.l3Full_s] at hh ⊢
    split at hh
    · exact optC_law2 (F := fun (r : Bool) κ => κ (.bool r) []) (fun b κ r hb => ⟨_, _, hb, fun _ => rfl⟩) hh
    · cases hh
  · intro _ args h κ r hh
    simp only [S.l3Full_s] at hh
    split at hh
    · exact ⟨rfl, fun _ => rfl⟩
    · cases hh

-- loop.example/guardsonnets/spec.FullNeedsOk
noncomputable def S.FullNeedsOk_T : List (Nat × D.Spec) := [(55, S.l1SetOk_s), (62, S.l3Full_s)]
def S.FullNeedsOk_ann : Nat → List Nat × List Nat
  | _ => ([], [])
noncomputable def S.FullNeedsOk_F (args : List V) (h : List E) (κ : V → List E → R) : R := funC TD (tableK S.FullNeedsOk_T) S.FullNeedsOk_ann (drawOk (tableP S.FullNeedsOk_T)) FUEL Try.f31 args h κ
noncomputable def S.FullNeedsOk_tree {α : Type} (net : List Int) (set_ : Int) (leaf0_ : Bool → α) (fail_ : α) : α :=
  (optC (S.l1SetOk_t net set_) (fun c_1 => (bif c_1 then (optC (S.l3Full_t net set_) (fun c_2 => (leaf0_ c_2)) fail_) else (leaf0_ false))) fail_)
theorem S.FullNeedsOk_tree_nat {α γ : Type} (g : α → γ) (net : List Int) (set_ : Int) (leaf0_ : Bool → α) (fail_ : α) : g (S.FullNeedsOk_tree net set_ leaf0_ fail_) = S.FullNeedsOk_tree net set_ (fun d => g (leaf0_ d)) (g fail_) := by
  unfold S.FullNeedsOk_tree; simp only [apply_cnd g, apply_optC g, apply_sumC g]
noncomputable def S.FullNeedsOk_t (net : List Int) (set_ : Int) : Option (Bool) := S.FullNeedsOk_tree net set_ (fun d => some d) none
theorem S.FullNeedsOk_den (net : List Int) (set_ : Int) (κ : V → List E → R) : S.FullNeedsOk_F [.ro false (.ints .i64 net), .int .i64 set_] [] κ = optC (S.FullNeedsOk_t net set_) (fun (r : Bool) => κ (.bool r) []) none := by
  have hu : S.FullNeedsOk_F [.ro false (.ints .i64 net), .int .i64 set_] [] κ = S.FullNeedsOk_tree net set_ (fun d => κ (.bool d) []) none := by
    kernel_rfl
  rw [hu]
  exact (S.FullNeedsOk_tree_nat (fun o => optC o (fun (r : Bool) => κ (.bool r) []) none) net set_ (fun d => some d) none).symm
noncomputable def S.FullNeedsOk_s : D.Spec where
  keep := false
  pure := true
  ds := [.int .i64, .invalid]
  sp := fun args h κ => match args, h with
    | [.ro false (.ints .i64 net), .int .i64 set_], [] => optC (S.FullNeedsOk_t net set_) (fun (r : Bool) => κ (.bool r) []) none
    | _, _ => none
theorem S.FullNeedsOk_ok : SpecOk Try.prog 31 S.FullNeedsOk_s := by
  refine SpecOk.of TDok mixed (T := S.FullNeedsOk_T) ?_ (ann := S.FullNeedsOk_ann) Try.func31 rfl (by decide +kernel) ?_ ?_ ?_
  · intro p hp
    simp only [S.FullNeedsOk_T, List.mem_cons, List.not_mem_nil, or_false] at hp
    rcases hp with rfl | rfl
    · exact S.l1SetOk_ok
    · exact S.l3Full_ok
  · intro args h κ r hh
    simp only [S.FullNeedsOk_s] at hh
    split at hh
    · exact (S.FullNeedsOk_den _ _ κ).trans hh
    · cases hh
  · intro args h κ r hh
    simp only [S.FullNeedsOk_s] at hh ⊢
    split at hh
    · exact optC_law2 (F := fun (r : Bool) κ => κ (.bool r) []) (fun b κ r hb => ⟨_, _, hb, fun _ => rfl⟩) hh
    · cases hh
  · intro _ args h κ r hh
    simp only [S.FullNeedsOk_s] at hh
    split at hh
    · exact ⟨rfl, fun _ => rfl⟩
    · cases hh

-- loop.example/guardsonnets/impl.allOf
noncomputable def I.allOf_T : List (Nat × D.Spec) := []
def I.allOf_ann : Nat → List Nat × List Nat
  | _ => ([], [])
noncomputable def I.allOf_F (args : List V) (h : List E) (κ : V → List E → R) : R := funC TD (tableK I.allOf_T) I.allOf_ann (drawOk (tableP I.allOf_T)) FUEL Try.f75 args h κ
noncomputable def I.allOf_tree {α : Type} (net : List Int) (leaf0_ : Int → α) (fail_ : α) : α :=
  (leaf0_ (IntKind.i64.wrap (IntKind.i64.wrap (1 * 2 ^ min (↑net.length : Int).toNat IntKind.i64.bits) - 1)))
theorem I.allOf_tree_nat {α γ : Type} (g : α → γ) (net : List Int) (leaf0_ : Int → α) (fail_ : α) : g (I.allOf_tree net leaf0_ fail_) = I.allOf_tree net (fun d => g (leaf0_ d)) (g fail_) := by
  unfold I.allOf_tree; simp only [apply_cnd g, apply_optC g, apply_sumC g]
noncomputable def I.allOf_t (net : List Int) : Option (Int) := I.allOf_tree net (fun d => some d) none
theorem I.allOf_den (net : List Int) (κ : V → List E → R) : I.allOf_F [.ro false (.ints .i64 net)] [] κ = optC (I.allOf_t net) (fun (r : Int) => κ (.int .i64 r) []) none := by
  have hu : I.allOf_F [.ro false (.ints .i64 net)] [] κ = I.allOf_tree net (fun d => κ (.int .i64 d) []) none := by
    kernel_rfl
  rw [hu]
  exact (I.allOf_tree_nat (fun o => optC o (fun (r : Int) => κ (.int .i64 r) []) none) net (fun d => some d) none).symm
noncomputable def I.allOf_s : D.Spec where
  keep := false
  pure := true
  ds := [.int .i64]
  sp := fun args h κ => match args, h with
    | [.ro false (.ints .i64 net)], [] => optC (I.allOf_t net) (fun (r : Int) => κ (.int .i64 r) []) none
    | _, _ => none
theorem I.allOf_ok : SpecOk Try.prog 75 I.allOf_s := by
  refine SpecOk.of TDok mixed (T := I.allOf_T) ?_ (ann := I.allOf_ann) Try.func75 rfl (by decide +kernel) ?_ ?_ ?_
  · intro p hp; cases hp
  · intro args h κ r hh
    simp only [I.allOf_s] at hh
    split at hh
    · exact (I.allOf_den _ κ).trans hh
    · cases hh
  · intro args h κ r hh
    simp only [I.allOf_s] at hh ⊢
    split at hh
    · exact optC_law2 (F := fun (r : Int) κ => κ (.int .i64 r) []) (fun b κ r hb => ⟨_, _, hb, fun _ => rfl⟩) hh
    · cases hh
  · intro _ args h κ r hh
    simp only [I.allOf_s] at hh
    split at hh
    · exact ⟨rfl, fun _ => rfl⟩
    · cases hh

-- loop.example/guardsonnets/impl.watchIn
noncomputable def I.watchIn_T : List (Nat × D.Spec) := [(58, I.seenIn_s), (75, I.allOf_s)]
def I.watchIn_ann : Nat → List Nat × List Nat
  | _ => ([], [])
noncomputable def I.watchIn_F (args : List V) (h : List E) (κ : V → List E → R) : R := funC TD (tableK I.watchIn_T) I.watchIn_ann (drawOk (tableP I.watchIn_T)) FUEL Try.f64 args h κ
noncomputable def I.watchIn_tree {α : Type} (net : List Int) (set_ : Int) (leaf0_ : Bool → α) (fail_ : α) : α :=
  (optC (I.seenIn_t net set_) (fun c_1 => (optC (I.allOf_t net) (fun c_2 => (leaf0_ (c_1 == c_2))) fail_)) fail_)
theorem I.watchIn_tree_nat {α γ : Type} (g : α → γ) (net : List Int) (set_ : Int) (leaf0_ : Bool → α) (fail_ : α) : g (I.watchIn_tree net set_ leaf0_ fail_) = I.watchIn_tree net set_ (fun d => g (leaf0_ d)) (g fail_) := by
  unfold I.watchIn_tree; simp only [apply_cnd g, apply_optC g, apply_sumC g]
noncomputable def I.watchIn_t (net : List Int) (set_ : Int) : Option (Bool) := I.watchIn_tree net set_ (fun d => some d) none
theorem I.watchIn_den (net : List Int) (set_ : Int) (κ : V → List E → R) : I.watchIn_F [.ro false (.ints .i64 net), .int .i64 set_] [] κ = optC (I.watchIn_t net set_) (fun (r : Bool) => κ (.bool r) []) none := by
  have hu : I.watchIn_F [.ro false (.ints .i64 net), .int .i64 set_] [] κ = I.watchIn_tree net set_ (fun d => κ (.bool d) []) none := by
    kernel_rfl
  rw [hu]
  exact (I.watchIn_tree_nat (fun o => optC o (fun (r : Bool) => κ (.bool r) []) none) net set_ (fun d => some d) none).symm
noncomputable def I.watchIn_s : D.Spec where
  keep := false
  pure := true
  ds := [.int .i64, .invalid]
  sp := fun args h κ => match args, h with
    | [.ro false (.ints .i64 net), .int .i64 set_], [] => optC (I.watchIn_t net set_) (fun (r : Bool) => κ (.bool r) []) none
    | _, _ => none
theorem I.watchIn_ok : SpecOk Try.prog 64 I.watchIn_s := by
  refine SpecOk.of TDok mixed (T := I.watchIn_T) ?_ (ann := I.watchIn_ann) Try.func64 rfl (by decide +kernel) ?_ ?_ ?_
  · intro p hp
    simp only [I.watchIn_T, List.mem_cons, List.not_mem_nil, or_false] at hp
    rcases hp with rfl | rfl
    · exact I.seenIn_ok
    · exact I.allOf_ok
  · intro args h κ r hh
    simp only [I.watchIn_s] at hh
    split at hh
    · exact (I.watchIn_den _ _ κ).trans hh
    · cases hh
  · intro args h κ r hh
    simp only [I.watchIn_s] at hh ⊢
    split at hh
    · exact optC_law2 (F := fun (r : Bool) κ => κ (.bool r) []) (fun b κ r hb => ⟨_, _, hb, fun _ => rfl⟩) hh
    · cases hh
  · intro _ args h κ r hh
    simp only [I.watchIn_s] at hh
    split at hh
    · exact ⟨rfl, fun _ => rfl⟩
    · cases hh

-- loop.example/guardsonnets/impl.without
noncomputable def I.without_T : List (Nat × D.Spec) := []
def I.without_ann : Nat → List Nat × List Nat
  | _ => ([], [])
noncomputable def I.without_F (args : List V) (h : List E) (κ : V → List E → R) : R := funC TD (tableK I.without_T) I.without_ann (drawOk (tableP I.without_T)) FUEL Try.f74 args h κ
noncomputable def I.without_tree {α : Type} (set_ : Int) (place : Int) (leaf0_ : Int → α) (fail_ : α) : α :=
  (bif decide (place < 0) then fail_ else (leaf0_ (bits BinOp.andNot IntKind.i64 set_ (IntKind.i64.wrap (1 * 2 ^ min place.toNat IntKind.i64.bits)))))
theorem I.without_tree_nat {α γ : Type} (g : α → γ) (set_ : Int) (place : Int) (leaf0_ : Int → α) (fail_ : α) : g (I.without_tree set_ place leaf0_ fail_) = I.without_tree set_ place (fun d => g (leaf0_ d)) (g fail_) := by
  unfold I.without_tree; simp only [apply_cnd g, apply_optC g, apply_sumC g]
noncomputable def I.without_t (set_ : Int) (place : Int) : Option (Int) := I.without_tree set_ place (fun d => some d) none
theorem I.without_den (set_ : Int) (place : Int) (κ : V → List E → R) : I.without_F [.int .i64 set_, .int .i64 place] [] κ = optC (I.without_t set_ place) (fun (r : Int) => κ (.int .i64 r) []) none := by
  have hu : I.without_F [.int .i64 set_, .int .i64 place] [] κ = I.without_tree set_ place (fun d => κ (.int .i64 d) []) none := by
    kernel_rfl
  rw [hu]
  exact (I.without_tree_nat (fun o => optC o (fun (r : Int) => κ (.int .i64 r) []) none) set_ place (fun d => some d) none).symm
noncomputable def I.without_s : D.Spec where
  keep := false
  pure := true
  ds := [.invalid, .invalid]
  sp := fun args h κ => match args, h with
    | [.int .i64 set_, .int .i64 place], [] => optC (I.without_t set_ place) (fun (r : Int) => κ (.int .i64 r) []) none
    | _, _ => none
theorem I.without_ok : SpecOk Try.prog 74 I.without_s := by
  refine SpecOk.of TDok mixed (T := I.without_T) ?_ (ann := I.without_ann) Try.func74 rfl (by decide +kernel) ?_ ?_ ?_
  · intro p hp; cases hp
  · intro args h κ r hh
    simp only [I.without_s] at hh
    split at hh
    · exact (I.without_den _ _ κ).trans hh
    · cases hh
  · intro args h κ r hh
    simp only [I.without_s] at hh ⊢
    split at hh
    · exact optC_law2 (F := fun (r : Int) κ => κ (.int .i64 r) []) (fun b κ r hb => ⟨_, _, hb, fun _ => rfl⟩) hh
    · cases hh
  · intro _ args h κ r hh
    simp only [I.without_s] at hh
    split at hh
    · exact ⟨rfl, fun _ => rfl⟩
    · cases hh

-- loop.example/guardsonnets/impl.leastWatchIn
noncomputable def I.leastWatchIn_T : List (Nat × D.Spec) := [(64, I.watchIn_s), (52, I.hasPlace_s), (74, I.without_s)]
def I.leastWatchIn_ann : Nat → List Nat × List Nat
  | 4 => ([0, 1, 5], [4])
  | _ => ([], [])
noncomputable def I.leastWatchIn_F (args : List V) (h : List E) (κ : V → List E → R) : R := funC TD (tableK I.leastWatchIn_T) I.leastWatchIn_ann (drawOk (tableP I.leastWatchIn_T)) FUEL Try.f63 args h κ
noncomputable def I.leastWatchIn_L4 (n : Nat) (σ : St) (k : X → St → R) : R := iterC 0 (fun σ k => denC TD (tableK I.leastWatchIn_T) I.leastWatchIn_ann (drawOk (tableP I.leastWatchIn_T)) 0 FUEL ((findLoop 4 (Try.f63.body.getD .skip)).getD .skip) σ k) [0, 1, 5] [4] n σ k
noncomputable def I.leastWatchIn_k4 (κ : V → List E → R) : X → St → R := (afterC TD (tableK I.leastWatchIn_T) I.leastWatchIn_ann (drawOk (tableP I.leastWatchIn_T)) 0 FUEL 4 (Try.f63.body.getD .skip) (finC 0 Try.f63 κ)).getD (fun _ _ => none)
noncomputable def I.leastWatchIn_step4 {α : Type} (x0 : List Int) (x1 : Int) (x5 : Int) (next_ : Int → α) (out0_ : Bool → α) (out1_ : Unit → α) (fail_ : α) : α :=
  (bif decide (x5 < (↑x0.length : Int)) then (optC (I.hasPlace_t x1 x5) (fun c_2 => (bif c_2 then (optC (I.without_t x1 x5) (fun c_3 => (optC (I.watchIn_t x0 c_3) (fun c_4 => (bif c_4 then (out0_ false) else (next_ (IntKind.i64.wrap (x5 + 1))))) fail_)) fail_) else (next_ (IntKind.i64.wrap (x5 + 1))))) fail_) else (out1_ ()))
theorem I.leastWatchIn_step4_nat {α γ : Type} (g : α → γ) (x0 : List Int) (x1 : Int) (x5 : Int) (next_ : Int → α) (out0_ : Bool → α) (out1_ : Unit → α) (fail_ : α) : g (I.leastWatchIn_step4 x0 x1 x5 next_ out0_ out1_ fail_) = I.leastWatchIn_step4 x0 x1 x5 (fun s => g (next_ s)) (fun d => g (out0_ d)) (fun d => g (out1_ d)) (g fail_) := by
  unfold I.leastWatchIn_step4; simp only [apply_cnd g, apply_optC g, apply_sumC g]
noncomputable def I.leastWatchIn_run4 (x0 : List Int) (x1 : Int) : Nat → Int → Option ((Bool) ⊕ (Unit))
  | 0, _ => none
  | n + 1, s_ => I.leastWatchIn_step4 x0 x1 s_ (I.leastWatchIn_run4 x0 x1 n) (fun d => some ((Sum.inl d))) (fun d => some ((Sum.inr d))) none
theorem I.leastWatchIn_L4_run (x0 : List Int) (x1 : Int) (n : Nat) (s_ : Int) (k : X → St → R) : I.leastWatchIn_L4 n { n := 26, t := [(0, (.ro false (.ints .i64 x0))), (1, (.int .i64 x1)), (5, (.int .i64 s_))], h := [] } k = optC (I.leastWatchIn_run4 x0 x1 n s_) (fun (r : (Bool) ⊕ (Unit)) => (sumC r (fun (r : Bool) => k (.ret) { n := 26, t := [(4, (.bool r))], h := [] }) (fun (r : Unit) => k (.exit 0) { n := 26, t := [(4, .junk)], h := [] }))) none := by
  induction n generalizing s_ with
  | zero => rfl
  | succ n ih =>
    have hu : I.leastWatchIn_L4 (n + 1) { n := 26, t := [(0, (.ro false (.ints .i64 x0))), (1, (.int .i64 x1)), (5, (.int .i64 s_))], h := [] } k = I.leastWatchIn_step4 x0 x1 s_ (fun s_ => I.leastWatchIn_L4 n { n := 26, t := [(0, (.ro false (.ints .i64 x0))), (1, (.int .i64 x1)), (5, (.int .i64 s_))], h := [] } k) (fun d => k (.ret) { n := 26, t := [(4, (.bool d))], h := [] }) (fun d => k (.exit 0) { n := 26, t := [(4, .junk)], h := [] }) none := by
      kernel_rfl
    have hs : (fun s_ : Int => I.leastWatchIn_L4 n { n := 26, t := [(0, (.ro false (.ints .i64 x0))), (1, (.int .i64 x1)), (5, (.int .i64 s_))], h := [] } k) = fun s_ => optC (I.leastWatchIn_run4 x0 x1 n s_) (fun (r : (Bool) ⊕ (Unit)) => (sumC r (fun (r : Bool) => k (.ret) { n := 26, t := [(4, (.bool r))], h := [] }) (fun (r : Unit) => k (.exit 0) { n := 26, t := [(4, .junk)], h := [] }))) none := funext ih
    rw [hu, hs]
    exact (I.leastWatchIn_step4_nat (fun o => optC o (fun (r : (Bool) ⊕ (Unit)) => (sumC r (fun (r : Bool) => k (.ret) { n := 26, t := [(4, (.bool r))], h := [] }) (fun (r : Unit) => k (.exit 0) { n := 26, t := [(4, .junk)], h := [] }))) none) x0 x1 s_ (I.leastWatchIn_run4 x0 x1 n) (fun d => some ((Sum.inl d))) (fun d => some ((Sum.inr d))) none).symm
noncomputable def I.leastWatchIn_tree {α : Type} (net : List Int) (set_ : Int) (leaf0_ : Bool → α) (fail_ : α) : α :=
  (optC (I.watchIn_t net set_) (fun c_1 => (bif !c_1 then (leaf0_ false) else (optC (I.leastWatchIn_run4 net set_ FUEL 0) (fun qy_5 => (sumC qy_5 (fun (qy_5 : Bool) => (leaf0_ qy_5)) (fun (qy_5 : Unit) => (leaf0_ true)))) fail_))) fail_)
theorem I.leastWatchIn_tree_nat {α γ : Type} (g : α → γ) (net : List Int) (set_ : Int) (leaf0_ : Bool → α) (fail_ : α) : g (I.leastWatchIn_tree net set_ leaf0_ fail_) = I.leastWatchIn_tree net set_ (fun d => g (leaf0_ d)) (g fail_) := by
  unfold I.leastWatchIn_tree; simp only [apply_cnd g, apply_optC g, apply_sumC g]
noncomputable def I.leastWatchIn_t (net : List Int) (set_ : Int) : Option (Bool) := I.leastWatchIn_tree net set_ (fun d => some d) none
theorem I.leastWatchIn_den (net : List Int) (set_ : Int) (κ : V → List E → R) : I.leastWatchIn_F [.ro false (.ints .i64 net), .int .i64 set_] [] κ = optC (I.leastWatchIn_t net set_) (fun (r : Bool) => κ (.bool r) []) none := by
  have hu : I.leastWatchIn_F [.ro false (.ints .i64 net), .int .i64 set_] [] κ = I.leastWatchIn_tree net set_ (fun d => κ (.bool d) []) none := by
    refine Eq.trans (show I.leastWatchIn_F [.ro false (.ints .i64 net), .int .i64 set_] [] κ = (optC (I.watchIn_t net set_) (fun c_1 => (bif !c_1 then (κ (.bool false) []) else (I.leastWatchIn_L4 FUEL { n := 26, t := [(0, (.ro false (.ints .i64 net))), (1, (.int .i64 set_)), (5, (.int .i64 0))], h := [] } (I.leastWatchIn_k4 κ)))) none) by kernel_rfl) ?_
    refine optC_congr (fun c_1 => ?_)
    refine cnd_congr ?_ ?_
    · kernel_rfl
    · refine (I.leastWatchIn_L4_run net set_ FUEL 0 (I.leastWatchIn_k4 κ)).trans (optC_congr (fun qy_5 => ?_))
      rcases qy_5 with qy_5 | qy_5
      · kernel_rfl
      · kernel_rfl
  rw [hu]
  exact (I.leastWatchIn_tree_nat (fun o => optC o (fun (r : Bool) => κ (.bool r) []) none) net set_ (fun d => some d) none).symm
noncomputable def I.leastWatchIn_s : D.Spec where
  keep := false
  pure := true
  ds := [.int .i64, .invalid]
  sp := fun args h κ => match args, h with
    | [.ro false (.ints .i64 net), .int .i64 set_], [] => optC (I.leastWatchIn_t net set_) (fun (r : Bool) => κ (.bool r) []) none
    | _, _ => none
theorem I.leastWatchIn_ok : SpecOk Try.prog 63 I.leastWatchIn_s := by
  refine SpecOk.of TDok mixed (T := I.leastWatchIn_T) ?_ (ann := I.leastWatchIn_ann) Try.func63 rfl (by decide +kernel) ?_ ?_ ?_
  · intro p hp
    simp only [I.leastWatchIn_T, List.mem_cons, List.not_mem_nil, or_false] at hp
    rcases hp with rfl | rfl | rfl
    · exact I.watchIn_ok
    · exact I.hasPlace_ok
    · exact I.without_ok
  · intro args h κ r hh
    simp only [I.leastWatchIn_s] at hh
    split at hh
    · exact (I.leastWatchIn_den _ _ κ).trans hh
    · cases hh
  · intro args h κ r hh
    simp only [I.leastWatchIn_s] at hh ⊢
    split at hh
    · exact optC_law2 (F := fun (r : Bool) κ => κ (.bool r) []) (fun b κ r hb => ⟨_, _, hb, fun _ => rfl⟩) hh
    · cases hh
  · intro _ args h κ r hh
    simp only [I.leastWatchIn_s] at hh
    split at hh
    · exact ⟨rfl, fun _ => rfl⟩
    · cases hh

-- loop.example/guardsonnets/impl.LeastWatchOk
noncomputable def I.LeastWatchOk_T : List (Nat × D.Spec) := [(49, I.NetOk_s), (50, I.setIn_s), (63, I.leastWatchIn_s)]
def I.LeastWatchOk_ann : Nat → List Nat × List Nat
  | _ => ([], [])
noncomputable def I.LeastWatchOk_F (args : List V) (h : List E) (κ : V → List E → R) : R := funC TD (tableK I.LeastWatchOk_T) I.LeastWatchOk_ann (drawOk (tableP I.LeastWatchOk_T)) FUEL Try.f32 args h κ
noncomputable def I.LeastWatchOk_tree {α : Type} (net : List Int) (set_ : Int) (leaf0_ : Bool → α) (fail_ : α) : α :=
  (optC (I.NetOk_t net) (fun c_1 => (bif c_1 then (optC (I.setIn_t net set_) (fun c_2 => (bif c_2 then (optC (I.leastWatchIn_t net set_) (fun c_3 => (leaf0_ c_3)) fail_) else (leaf0_ false))) fail_) else (leaf0_ false))) fail_)
theorem I.LeastWatchOk_tree_nat {α γ : Type} (g : α → γ) (net : List Int) (set_ : Int) (leaf0_ : Bool → α) (fail_ : α) : g (I.LeastWatchOk_tree net set_ leaf0_ fail_) = I.LeastWatchOk_tree net set_ (fun d => g (leaf0_ d)) (g fail_) := by
  unfold I.LeastWatchOk_tree; simp only [apply_cnd g, apply_optC g, apply_sumC g]
noncomputable def I.LeastWatchOk_t (net : List Int) (set_ : Int) : Option (Bool) := I.LeastWatchOk_tree net set_ (fun d => some d) none
theorem I.LeastWatchOk_den (net : List Int) (set_ : Int) (κ : V → List E → R) : I.LeastWatchOk_F [.ro false (.ints .i64 net), .int .i64 set_] [] κ = optC (I.LeastWatchOk_t net set_) (fun (r : Bool) => κ (.bool r) []) none := by
  have hu : I.LeastWatchOk_F [.ro false (.ints .i64 net), .int .i64 set_] [] κ = I.LeastWatchOk_tree net set_ (fun d => κ (.bool d) []) none := by
    kernel_rfl
  rw [hu]
  exact (I.LeastWatchOk_tree_nat (fun o => optC o (fun (r : Bool) => κ (.bool r) []) none) net set_ (fun d => some d) none).symm
noncomputable def I.LeastWatchOk_s : D.Spec where
  keep := false
  pure := true
  ds := [.int .i64, .invalid]
  sp := fun args h κ => match args, h with
    | [.ro false (.ints .i64 net), .int .i64 set_], [] => optC (I.LeastWatchOk_t net set_) (fun (r : Bool) => κ (.bool r) []) none
    | _, _ => none
theorem I.LeastWatchOk_ok : SpecOk Try.prog 32 I.LeastWatchOk_s := by
  refine SpecOk.of TDok mixed (T := I.LeastWatchOk_T) ?_ (ann := I.LeastWatchOk_ann) Try.func32 rfl (by decide +kernel) ?_ ?_ ?_
  · intro p hp
    simp only [I.LeastWatchOk_T, List.mem_cons, List.not_mem_nil, or_false] at hp
    rcases hp with rfl | rfl | rfl
    · exact I.NetOk_ok
    · exact I.setIn_ok
    · exact I.leastWatchIn_ok
  · intro args h κ r hh
    simp only [I.LeastWatchOk_s] at hh
    split at hh
    · exact (I.LeastWatchOk_den _ _ κ).trans hh
    · cases hh
  · intro args h κ r hh
    simp only [I.LeastWatchOk_s] at hh ⊢
    split at hh
    · exact optC_law2 (F := fun (r : Bool) κ => κ (.bool r) []) (fun b κ r hb => ⟨_, _, hb, fun _ => rfl⟩) hh
    · cases hh
  · intro _ args h κ r hh
    simp only [I.LeastWatchOk_s] at hh
    split at hh
    · exact ⟨rfl, fun _ => rfl⟩
    · cases hh

-- loop.example/guardsonnets/impl.WatchOk
noncomputable def I.WatchOk_T : List (Nat × D.Spec) := [(49, I.NetOk_s), (50, I.setIn_s), (64, I.watchIn_s)]
def I.WatchOk_ann : Nat → List Nat × List Nat
  | _ => ([], [])
noncomputable def I.WatchOk_F (args : List V) (h : List E) (κ : V → List E → R) : R := funC TD (tableK I.WatchOk_T) I.WatchOk_ann (drawOk (tableP I.WatchOk_T)) FUEL Try.f33 args h κ
noncomputable def I.WatchOk_tree {α : Type} (net : List Int) (set_ : Int) (leaf0_ : Bool → α) (fail_ : α) : α :=
  (optC (I.NetOk_t net) (fun c_1 => (bif c_1 then (optC (I.setIn_t net set_) (fun c_2 => (bif c_2 then (optC (I.watchIn_t net set_) (fun c_3 => (leaf0_ c_3)) fail_) else (leaf0_ false))) fail_) else (leaf0_ false))) fail_)
theorem I.WatchOk_tree_nat {α γ : Type} (g : α → γ) (net : List Int) (set_ : Int) (leaf0_ : Bool → α) (fail_ : α) : g (I.WatchOk_tree net set_ leaf0_ fail_) = I.WatchOk_tree net set_ (fun d => g (leaf0_ d)) (g fail_) := by
  unfold I.WatchOk_tree; simp only [apply_cnd g, apply_optC g, apply_sumC g]
noncomputable def I.WatchOk_t (net : List Int) (set_ : Int) : Option (Bool) := I.WatchOk_tree net set_ (fun d => some d) none
theorem I.WatchOk_den (net : List Int) (set_ : Int) (κ : V → List E → R) : I.WatchOk_F [.ro false (.ints .i64 net), .int .i64 set_] [] κ = optC (I.WatchOk_t net set_) (fun (r : Bool) => κ (.bool r) []) none := by
  have hu : I.WatchOk_F [.ro false (.ints .i64 net), .int .i64 set_] [] κ = I.WatchOk_tree net set_ (fun d => κ (.bool d) []) none := by
    kernel_rfl
  rw [hu]
  exact (I.WatchOk_tree_nat (fun o => optC o (fun (r : Bool) => κ (.bool r) []) none) net set_ (fun d => some d) none).symm
noncomputable def I.WatchOk_s : D.Spec where
  keep := false
  pure := true
  ds := [.int .i64, .invalid]
  sp := fun args h κ => match args, h with
    | [.ro false (.ints .i64 net), .int .i64 set_], [] => optC (I.WatchOk_t net set_) (fun (r : Bool) => κ (.bool r) []) none
    | _, _ => none
theorem I.WatchOk_ok : SpecOk Try.prog 33 I.WatchOk_s := by
  refine SpecOk.of TDok mixed (T := I.WatchOk_T) ?_ (ann := I.WatchOk_ann) Try.func33 rfl (by decide +kernel) ?_ ?_ ?_
  · intro p hp
    simp only [I.WatchOk_T, List.mem_cons, List.not_mem_nil, or_false] at hp
    rcases hp with rfl | rfl | rfl
    · exact I.NetOk_ok
    · exact I.setIn_ok
    · exact I.watchIn_ok
  · intro args h κ r hh
    simp only [I.WatchOk_s] at hh
    split at hh
    · exact (I.WatchOk_den _ _ κ).trans hh
    · cases hh
  · intro args h κ r hh
    simp only [I.WatchOk_s] at hh ⊢
    split at hh
    · exact optC_law2 (F := fun (r : Bool) κ => κ (.bool r) []) (fun b κ r hb => ⟨_, _, hb, fun _ => rfl⟩) hh
    · cases hh
  · intro _ args h κ r hh
    simp only [I.WatchOk_s] at hh
    split at hh
    · exact ⟨rfl, fun _ => rfl⟩
    · cases hh

-- loop.example/guardsonnets/laws.FnFullNeedsOk
noncomputable def L.FnFullNeedsOk_T : List (Nat × D.Spec) := [(29, S.DrawFullNeedsOk_s), (30, I.FullNeedsOk_s), (31, S.FullNeedsOk_s), (28, S.NetOk_s), (20, L.alive_s), (32, I.LeastWatchOk_s), (33, I.WatchOk_s), (26, I.NeedsAllOk_s)]
def L.FnFullNeedsOk_ann : Nat → List Nat × List Nat
  | _ => ([], [])
noncomputable def L.FnFullNeedsOk_F (args : List V) (h : List E) (κ : V → List E → R) : R := funC TD (tableK L.FnFullNeedsOk_T) L.FnFullNeedsOk_ann (drawOk (tableP L.FnFullNeedsOk_T)) FUEL Try.f7 args h κ
noncomputable def L.FnFullNeedsOk_tree {α : Type} (code : List Int) (leaf0_ : Bool → α) (fail_ : α) : α :=
  (bif decide ((↑code.length : Int) > 1048576) then (leaf0_ true) else (optC (S.DrawFullNeedsOk_t code) (fun c_1 => (optC (I.FullNeedsOk_t c_1.snd c_1.fst) (fun c_2 => (optC (S.FullNeedsOk_t c_1.snd c_1.fst) (fun c_3 => (bif !c_2 == c_3 then (leaf0_ false) else (optC (S.NetOk_t c_1.snd) (fun c_4 => (bif !c_4 then (bif !c_2 then (optC (L.alive_t) (fun c_5 => (leaf0_ c_5)) fail_) else (leaf0_ false)) else (bif decide (c_1.fst ≥ IntKind.i64.wrap (1 * 2 ^ min (↑c_1.snd.length : Int).toNat IntKind.i64.bits)) then (bif !c_2 then (optC (L.alive_t) (fun c_6 => (leaf0_ c_6)) fail_) else (leaf0_ false)) else (optC (I.LeastWatchOk_t c_1.snd c_1.fst) (fun c_7 => (optC (I.WatchOk_t c_1.snd c_1.fst) (fun c_8 => (bif c_8 then (optC (I.NeedsAllOk_t c_1.snd c_1.fst) (fun c_9 => (bif c_7 == c_9 then (bif !c_7 then (bif !c_2 then (optC (L.alive_t) (fun c_10 => (leaf0_ c_10)) fail_) else (optC (I.NeedsAllOk_t c_1.snd c_1.fst) (fun c_11 => (bif c_11 then (optC (L.alive_t) (fun c_12 => (leaf0_ c_12)) fail_) else (leaf0_ false))) fail_)) else (bif c_2 then (bif !c_2 then (optC (L.alive_t) (fun c_13 => (leaf0_ c_13)) fail_) else (optC (I.NeedsAllOk_t c_1.snd c_1.fst) (fun c_14 => (bif c_14 then (optC (L.alive_t) (fun c_15 => (leaf0_ c_15)) fail_) else (leaf0_ false))) fail_)) else (leaf0_ false))) else (leaf0_ false))) fail_) else (bif c_7 == false then (bif !c_7 then (bif !c_2 then (optC (L.alive_t) (fun c_16 => (leaf0_ c_16)) fail_) else (optC (I.NeedsAllOk_t c_1.snd c_1.fst) (fun c_17 => (bif c_17 then (optC (L.alive_t) (fun c_18 => (leaf0_ c_18)) fail_) else (leaf0_ false))) fail_)) else (bif c_2 then (bif !c_2 then (optC (L.alive_t) (fun c_19 => (leaf0_ c_19)) fail_) else (optC (I.NeedsAllOk_t c_1.snd c_1.fst) (fun c_20 => (bif c_20 then (optC (L.alive_t) (fun c_21 => (leaf0_ c_21)) fail_) else (leaf0_ false))) fail_)) else (leaf0_ false))) else (leaf0_ false)))) fail_)) fail_)))) fail_))) fail_)) fail_)) fail_))
theorem L.FnFullNeedsOk_tree_nat {α γ : Type} (g : α → γ) (code : List Int) (leaf0_ : Bool → α) (fail_ : α) : g (L.FnFullNeedsOk_tree code leaf0_ fail_) = L.FnFullNeedsOk_tree code (fun d => g (leaf0_ d)) (g fail_) := by
  unfold L.FnFullNeedsOk_tree; simp only [apply_cnd g, apply_optC g, apply_sumC g]
noncomputable def L.FnFullNeedsOk_t (code : List Int) : Option (Bool) := L.FnFullNeedsOk_tree code (fun d => some d) none
theorem L.FnFullNeedsOk_den (code : List Int) (κ : V → List E → R) : L.FnFullNeedsOk_F [.ro true (.ints .u8 code)] [] κ = optC (L.FnFullNeedsOk_t code) (fun (r : Bool) => κ (.bool r) []) none := by
  have hu : L.FnFullNeedsOk_F [.ro true (.ints .u8 code)] [] κ = L.FnFullNeedsOk_tree code (fun d => κ (.bool d) []) none := by
    kernel_rfl
  rw [hu]
  exact (L.FnFullNeedsOk_tree_nat (fun o => optC o (fun (r : Bool) => κ (.bool r) []) none) code (fun d => some d) none).symm
noncomputable def L.FnFullNeedsOk_s : D.Spec where
  keep := true
  pure := true
  ds := [.int .u8]
  sp := fun args h κ => match args, h with
    | [.ro true (.ints .u8 code)], [] => optC (L.FnFullNeedsOk_t code) (fun (r : Bool) => κ (.bool r) []) none
    | _, _ => none
theorem L.FnFullNeedsOk_ok : SpecOk Try.prog 7 L.FnFullNeedsOk_s := by
  refine SpecOk.of TDok mixed (T := L.FnFullNeedsOk_T) ?_ (ann := L.FnFullNeedsOk_ann) Try.func7 rfl (by decide +kernel) ?_ ?_ ?_
  · intro p hp
    simp only [L.FnFullNeedsOk_T, List.mem_cons, List.not_mem_nil, or_false] at hp
    rcases hp with rfl | rfl | rfl | rfl | rfl | rfl | rfl | rfl
    · exact S.DrawFullNeedsOk_ok
    · exact I.FullNeedsOk_ok
    · exact S.FullNeedsOk_ok
    · exact S.NetOk_ok
    · exact L.alive_ok
    · exact I.LeastWatchOk_ok
    · exact I.WatchOk_ok
    · exact I.NeedsAllOk_ok
  · intro args h κ r hh
    simp only [L.FnFullNeedsOk_s] at hh
    split at hh
    · exact (L.FnFullNeedsOk_den _ κ).trans hh
    · cases hh
  · intro args h κ r hh
    simp only [L.FnFullNeedsOk_s] at hh ⊢
    split at hh
    · exact optC_law2 (F := fun (r : Bool) κ => κ (.bool r) []) (fun b κ r hb => ⟨_, _, hb, fun _ => rfl⟩) hh
    · cases hh
  · intro _ args h κ r hh
    simp only [L.FnFullNeedsOk_s] at hh
    split at hh
    · exact ⟨rfl, fun _ => rfl⟩
    · cases hh

-- loop.example/guardsonnets/laws.FnExactFullNeedsOk
noncomputable def L.FnExactFullNeedsOk_T : List (Nat × D.Spec) := [(23, L.toIntS_s), (31, S.FullNeedsOk_s), (30, I.FullNeedsOk_s), (24, L.eqIntS_s)]
def L.FnExactFullNeedsOk_ann : Nat → List Nat × List Nat
  | _ => ([], [])
noncomputable def L.FnExactFullNeedsOk_F (args : List V) (h : List E) (κ : V → List E → R) : R := funC TD (tableK L.FnExactFullNeedsOk_T) L.FnExactFullNeedsOk_ann (drawOk (tableP L.FnExactFullNeedsOk_T)) FUEL Try.f8 args h κ
noncomputable def L.FnExactFullNeedsOk_tree {α : Type} (aNet : List Int) (aSet : Int) (leaf0_ : Bool → α) (fail_ : α) : α :=
  (bif decide ((↑aNet.length : Int) > 1048576) then (leaf0_ true) else (optC (L.toIntS_t aNet) (fun c_1 => (optC (S.FullNeedsOk_t c_1 aSet) (fun c_2 => (optC (L.toIntS_t aNet) (fun c_3 => (optC (I.FullNeedsOk_t c_3 aSet) (fun c_4 => (bif !c_4 == c_2 then (leaf0_ false) else (optC (L.toIntS_t aNet) (fun c_5 => (optC (L.eqIntS_t c_3 c_5) (fun c_6 => (bif !c_6 then (leaf0_ false) else (leaf0_ true))) fail_)) fail_))) fail_)) fail_)) fail_)) fail_))
theorem L.FnExactFullNeedsOk_tree_nat {α γ : Type} (g : α → γ) (aNet : List Int) (aSet : Int) (leaf0_ : Bool → α) (fail_ : α) : g (L.FnExactFullNeedsOk_tree aNet aSet leaf0_ fail_) = L.FnExactFullNeedsOk_tree aNet aSet (fun d => g (leaf0_ d)) (g fail_) := by
  unfold L.FnExactFullNeedsOk_tree; simp only [apply_cnd g, apply_optC g, apply_sumC g]
noncomputable def L.FnExactFullNeedsOk_t (aNet : List Int) (aSet : Int) : Option (Bool) := L.FnExactFullNeedsOk_tree aNet aSet (fun d => some d) none
theorem L.FnExactFullNeedsOk_den (aNet : List Int) (aSet : Int) (κ : V → List E → R) : L.FnExactFullNeedsOk_F [.ro true (.ints .i64 aNet), .int .i64 aSet] [] κ = optC (L.FnExactFullNeedsOk_t aNet aSet) (fun (r : Bool) => κ (.bool r) []) none := by
  have hu : L.FnExactFullNeedsOk_F [.ro true (.ints .i64 aNet), .int .i64 aSet] [] κ = L.FnExactFullNeedsOk_tree aNet aSet (fun d => κ (.bool d) []) none := by
    kernel_rfl
  rw [hu]
  exact (L.FnExactFullNeedsOk_tree_nat (fun o => optC o (fun (r : Bool) => κ (.bool r) []) none) aNet aSet (fun d => some d) none).symm
noncomputable def L.FnExactFullNeedsOk_s : D.Spec where
  keep := true
  pure := true
  ds := [.int .i64, .invalid]
  sp := fun args h κ => match args, h with
    | [.ro true (.ints .i64 aNet), .int .i64 aSet], [] => optC (L.FnExactFullNeedsOk_t aNet aSet) (fun (r : Bool) => κ (.bool r) []) none
    | _, _ => none
theorem L.FnExactFullNeedsOk_ok : SpecOk Try.prog 8 L.FnExactFullNeedsOk_s := by
  refine SpecOk.of TDok mixed (T := L.FnExactFullNeedsOk_T) ?_ (ann := L.FnExactFullNeedsOk_ann) Try.func8 rfl (by decide +kernel) ?_ ?_ ?_
  · intro p hp
    simp only [L.FnExactFullNeedsOk_T, List.mem_cons, List.not_mem_nil, or_false] at hp
    rcases hp with rfl | rfl | rfl | rfl
    · exact L.toIntS_ok
    · exact S.FullNeedsOk_ok
    · exact I.FullNeedsOk_ok
    · exact L.eqIntS_ok
  · intro args h κ r hh
    simp only [L.FnExactFullNeedsOk_s] at hh
    split at hh
    · exact (L.FnExactFullNeedsOk_den _ _ κ).trans hh
    · cases hh
  · intro args h κ r hh
    simp only [L.FnExactFullNeedsOk_s] at hh ⊢
    split at hh
    · exact optC_law2 (F := fun (r : Bool) κ => κ (.bool r) []) (fun b κ r hb => ⟨_, _, hb, fun _ => rfl⟩) hh
    · cases hh
  · intro _ args h κ r hh
    simp only [L.FnExactFullNeedsOk_s] at hh
    split at hh
    · exact ⟨rfl, fun _ => rfl⟩
    · cases hh

-- loop.example/guardsonnets/spec.DrawSeenTwice
noncomputable def S.DrawSeenTwice_T : List (Nat × D.Spec) := [(46, S.l20Open_s), (65, S.l20Set_s)]
def S.DrawSeenTwice_ann : Nat → List Nat × List Nat
  | _ => ([], [])
noncomputable def S.DrawSeenTwice_F (args : List V) (h : List E) (κ : V → List E → R) : R := funC TD (tableK S.DrawSeenTwice_T) S.DrawSeenTwice_ann (drawOk (tableP S.DrawSeenTwice_T)) FUEL Try.f34 args h κ
noncomputable def S.DrawSeenTwice_tree {α : Type} (code : List Int) (leaf0_ : Int × (List Int) → α) (fail_ : α) : α :=
  (optC (S.l20Open_t code) (fun c_1 => (optC (S.l20Set_t c_1.fst c_1.snd 12) (fun c_2 => (leaf0_ (c_2.fst, c_2.snd.snd.snd))) fail_)) fail_)
theorem S.DrawSeenTwice_tree_nat {α γ : Type} (g : α → γ) (code : List Int) (leaf0_ : Int × (List Int) → α) (fail_ : α) : g (S.DrawSeenTwice_tree code leaf0_ fail_) = S.DrawSeenTwice_tree code (fun d => g (leaf0_ d)) (g fail_) := by
  unfold S.DrawSeenTwice_tree; simp only [apply_cnd g, apply_optC g, apply_sumC g]
noncomputable def S.DrawSeenTwice_t (code : List Int) : Option (Int × (List Int)) := S.DrawSeenTwice_tree code (fun d => some d) none
theorem S.DrawSeenTwice_den (code : List Int) (κ : V → List E → R) : S.DrawSeenTwice_F [.ro true (.ints .u8 code)] [] κ = optC (S.DrawSeenTwice_t code) (fun (r : Int × (List Int)) => κ (.tup [(.own 0), (.int .i64 r.1)]) [.row (.ints .i64 r.2)]) none := by
  have hu : S.DrawSeenTwice_F [.ro true (.ints .u8 code)] [] κ = S.DrawSeenTwice_tree code (fun d => κ (.tup [(.own 0), (.int .i64 d.1)]) [.row (.ints .i64 d.2)]) none := by
    kernel_rfl
  rw [hu]
  exact (S.DrawSeenTwice_tree_nat (fun o => optC o (fun (r : Int × (List Int)) => κ (.tup [(.own 0), (.int .i64 r.1)]) [.row (.ints .i64 r.2)]) none) code (fun d => some d) none).symm
noncomputable def S.DrawSeenTwice_s : D.Spec where
  keep := true
  pure := false
  ds := [.int .u8]
  sp := fun args h κ => match args, h with
    | [.ro true (.ints .u8 code)], [] => optC (S.DrawSeenTwice_t code) (fun (r : Int × (List Int)) => κ (.tup [(.own 0), (.int .i64 r.1)]) [.row (.ints .i64 r.2)]) none
    | _, _ => none
theorem S.DrawSeenTwice_ok : SpecOk Try.prog 34 S.DrawSeenTwice_s := by
  refine SpecOk.of TDok mixed (T := S.DrawSeenTwice_T) ?_ (ann := S.DrawSeenTwice_ann) Try.func34 rfl (by decide +kernel) ?_ ?_ ?_
  · intro p hp
    simp only [S.DrawSeenTwice_T, List.mem_cons, List.not_mem_nil, or_false] at hp
    rcases hp with rfl | rfl
    · exact S.l20Open_ok
    · exact S.l20Set_ok
  · intro args h κ r hh
    simp only [S.DrawSeenTwice_s] at hh
    split at hh
    · exact (S.DrawSeenTwice_den _ κ).trans hh
    · cases hh
  · intro args h κ r hh
    simp only [S.DrawSeenTwice_s] at hh ⊢
    split at hh
    · exact optC_law2 (F := fun (r : Int × (List Int)) κ => κ (.tup [(.own 0), (.int .i64 r.1)]) [.row (.ints .i64 r.2)]) (fun b κ r hb => ⟨_, _, hb, fun _ => rfl⟩) hh
    · cases hh
  · intro hh; cases hh

-- loop.example/guardsonnets/impl.SeenTwice
noncomputable def I.SeenTwice_T : List (Nat × D.Spec) := [(49, I.NetOk_s), (50, I.setIn_s), (54, I.twiceIn_s)]
def I.SeenTwice_ann : Nat → List Nat × List Nat
  | _ => ([], [])
noncomputable def I.SeenTwice_F (args : List V) (h : List E) (κ : V → List E → R) : R := funC TD (tableK I.SeenTwice_T) I.SeenTwice_ann (drawOk (tableP I.SeenTwice_T)) FUEL Try.f35 args h κ
noncomputable def I.SeenTwice_tree {α : Type} (net : List Int) (set_ : Int) (leaf0_ : Int → α) (fail_ : α) : α :=
  (optC (I.NetOk_t net) (fun c_1 => (bif !c_1 then (leaf0_ (-1)) else (optC (I.setIn_t net set_) (fun c_2 => (bif !c_2 then (leaf0_ (-1)) else (optC (I.twiceIn_t net set_) (fun c_3 => (leaf0_ c_3)) fail_))) fail_))) fail_)
theorem I.SeenTwice_tree_nat {α γ : Type} (g : α → γ) (net : List Int) (set_ : Int) (leaf0_ : Int → α) (fail_ : α) : g (I.SeenTwice_tree net set_ leaf0_ fail_) = I.SeenTwice_tree net set_ (fun d => g (leaf0_ d)) (g fail_) := by
  unfold I.SeenTwice_tree; simp only [apply_cnd g, apply_optC g, apply_sumC g]
noncomputable def I.SeenTwice_t (net : List Int) (set_ : Int) : Option (Int) := I.SeenTwice_tree net set_ (fun d => some d) none
theorem I.SeenTwice_den (net : List Int) (set_ : Int) (κ : V → List E → R) : I.SeenTwice_F [.ro false (.ints .i64 net), .int .i64 set_] [] κ = optC (I.SeenTwice_t net set_) (fun (r : Int) => κ (.int .i64 r) []) none := by
  have hu : I.SeenTwice_F [.ro false (.ints .i64 net), .int .i64 set_] [] κ = I.SeenTwice_tree net set_ (fun d => κ (.int .i64 d) []) none := by
    kernel_rfl
  rw [hu]
  exact (I.SeenTwice_tree_nat (fun o => optC o (fun (r : Int) => κ (.int .i64 r) []) none) net set_ (fun d => some d) none).symm
noncomputable def I.SeenTwice_s : D.Spec where
  keep := false
  pure := true
  ds := [.int .i64, .invalid]
  sp := fun args h κ => match args, h with
    | [.ro false (.ints .i64 net), .int .i64 set_], [] => optC (I.SeenTwice_t net set_) (fun (r : Int) => κ (.int .i64 r) []) none
    | _, _ => none
theorem I.SeenTwice_ok : SpecOk Try.prog 35 I.SeenTwice_s := by
  refine SpecOk.of TDok mixed (T := I.SeenTwice_T) ?_ (ann := I.SeenTwice_ann) Try.func35 rfl (by decide +kernel) ?_ ?_ ?_
  · intro p hp
    simp only [I.SeenTwice_T, List.mem_cons, List.not_mem_nil, or_false] at hp
    rcases hp with rfl | rfl | rfl
    · exact I.NetOk_ok
    · exact I.setIn_ok
    · exact I.twiceIn_ok
  · intro args h κ r hh
    simp only [I.SeenTwice_s] at hh
    split at hh
    · exact (I.SeenTwice_den _ _ κ).trans hh
    · cases hh
  · intro args h κ r hh
    simp only [I.SeenTwice_s] at hh ⊢
    split at hh
    · exact optC_law2 (F := fun (r : Int) κ => κ (.int .i64 r) []) (fun b κ r hb => ⟨_, _, hb, fun _ => rfl⟩) hh
    · cases hh
  · intro _ args h κ r hh
    simp only [I.SeenTwice_s] at hh
    split at hh
    · exact ⟨rfl, fun _ => rfl⟩
    · cases hh

-- loop.example/guardsonnets/spec.SeenTwice
noncomputable def S.SeenTwice_T : List (Nat × D.Spec) := [(55, S.l1SetOk_s)]
def S.SeenTwice_ann : Nat → List Nat × List Nat
  | 6 => ([0, 1, 5, 6, 7], [6])
  | _ => ([], [])
noncomputable def S.SeenTwice_F (args : List V) (h : List E) (κ : V → List E → R) : R := funC TD (tableK S.SeenTwice_T) S.SeenTwice_ann (drawOk (tableP S.SeenTwice_T)) FUEL Try.f36 args h κ
noncomputable def S.SeenTwice_L6 (n : Nat) (σ : St) (k : X → St → R) : R := iterC 0 (fun σ k => denC TD (tableK S.SeenTwice_T) S.SeenTwice_ann (drawOk (tableP S.SeenTwice_T)) 0 FUEL ((findLoop 6 (Try.f36.body.getD .skip)).getD .skip) σ k) [0, 1, 5, 6, 7] [6] n σ k
noncomputable def S.SeenTwice_k6 (κ : V → List E → R) : X → St → R := (afterC TD (tableK S.SeenTwice_T) S.SeenTwice_ann (drawOk (tableP S.SeenTwice_T)) 0 FUEL 6 (Try.f36.body.getD .skip) (finC 0 Try.f36 κ)).getD (fun _ _ => none)
noncomputable def S.SeenTwice_step6 {α : Type} (x0 : List Int) (x1 : Int) (x5 : Int) (x6 : Int) (x7 : Int) (next_ : Int × Int × Int → α) (out0_ : Int → α) (fail_ : α) : α :=
  (bif decide (x7 < (↑x0.length : Int)) then (bif decide (x7 < 0) then fail_ else (bif (x1.fdiv (2 ^ min x7.toNat IntKind.i64.bits)).tmod 2 == 1 then (bif decide (0 ≤ x7) && decide (x7 < (↑x0.length : Int)) then (bif decide (x7 < 0) then fail_ else (next_ (bits BinOp.or IntKind.i64 x5 (bits BinOp.or IntKind.i64 (eli x0 x7.toNat) (IntKind.i64.wrap (1 * 2 ^ min x7.toNat IntKind.i64.bits))), bits BinOp.or IntKind.i64 x6 (bits BinOp.and IntKind.i64 x5 (bits BinOp.or IntKind.i64 (eli x0 x7.toNat) (IntKind.i64.wrap (1 * 2 ^ min x7.toNat IntKind.i64.bits)))), IntKind.i64.wrap (x7 + 1)))) else fail_) else (next_ (x5, x6, IntKind.i64.wrap (x7 + 1))))) else (out0_ x6))
theorem S.SeenTwice_step6_nat {α γ : Type} (g : α → γ) (x0 : List Int) (x1 : Int) (x5 : Int) (x6 : Int) (x7 : Int) (next_ : Int × Int × Int → α) (out0_ : Int → α) (fail_ : α) : g (S.SeenTwice_step6 x0 x1 x5 x6 x7 next_ out0_ fail_) = S.SeenTwice_step6 x0 x1 x5 x6 x7 (fun s => g (next_ s)) (fun d => g (out0_ d)) (g fail_) := by
  unfold S.SeenTwice_step6; simp only [apply_cnd g, apply_optC g, apply_sumC g]
noncomputable def S.SeenTwice_run6 (x0 : List Int) (x1 : Int) : Nat → Int × Int × Int → Option (Int)
  | 0, _ => none
  | n + 1, s_ => S.SeenTwice_step6 x0 x1 s_.1 s_.2.1 s_.2.2 (S.SeenTwice_run6 x0 x1 n) (fun d => some d) none
theorem S.SeenTwice_L6_run (x0 : List Int) (x1 : Int) (n : Nat) (s_ : Int × Int × Int) (k : X → St → R) : S.SeenTwice_L6 n { n := 40, t := [(0, (.ro false (.ints .i64 x0))), (1, (.int .i64 x1)), (5, (.int .i64 s_.1)), (6, (.int .i64 s_.2.1)), (7, (.int .i64 s_.2.2))], h := [] } k = optC (S.SeenTwice_run6 x0 x1 n s_) (fun (r : Int) => k (.exit 0) { n := 40, t := [(6, (.int .i64 r))], h := [] }) none := by
  induction n generalizing s_ with
  | zero => rfl
  | succ n ih =>
    have hu : S.SeenTwice_L6 (n + 1) { n := 40, t := [(0, (.ro false (.ints .i64 x0))), (1, (.int .i64 x1)), (5, (.int .i64 s_.1)), (6, (.int .i64 s_.2.1)), (7, (.int .i64 s_.2.2))], h := [] } k = S.SeenTwice_step6 x0 x1 s_.1 s_.2.1 s_.2.2 (fun s_ => S.SeenTwice_L6 n { n := 40, t := [(0, (.ro false (.ints .i64 x0))), (1, (.int .i64 x1)), (5, (.int .i64 s_.1)), (6, (.int .i64 s_.2.1)), (7, (.int .i64 s_.2.2))], h := [] } k) (fun d => k (.exit 0) { n := 40, t := [(6, (.int .i64 d))], h := [] }) none := by
      kernel_rfl
    have hs : (fun s_ : Int × Int × Int => S.SeenTwice_L6 n { n := 40, t := [(0, (.ro false (.ints .i64 x0))), (1, (.int .i64 x1)), (5, (.int .i64 s_.1)), (6, (.int .i64 s_.2.1)), (7, (.int .i64 s_.2.2))], h := [] } k) = fun s_ => optC (S.SeenTwice_run6 x0 x1 n s_) (fun (r : Int) => k (.exit 0) { n := 40, t := [(6, (.int .i64 r))], h := [] }) none := funext ih
    rw [hu, hs]
    exact (S.SeenTwice_step6_nat (fun o => optC o (fun (r : Int) => k (.exit 0) { n := 40, t := [(6, (.int .i64 r))], h := [] }) none) x0 x1 s_.1 s_.2.1 s_.2.2 (S.SeenTwice_run6 x0 x1 n) (fun d => some d) none).symm
noncomputable def S.SeenTwice_tree {α : Type} (net : List Int) (set_ : Int) (leaf0_ : Int → α) (fail_ : α) : α :=
  (optC (S.l1SetOk_t net set_) (fun c_1 => (bif !c_1 then (leaf0_ (-1)) else (optC (S.SeenTwice_run6 net set_ FUEL (0, 0, 0)) (fun qy_2 => (leaf0_ qy_2)) fail_))) fail_)
theorem S.SeenTwice_tree_nat {α γ : Type} (g : α → γ) (net : List Int) (set_ : Int) (leaf0_ : Int → α) (fail_ : α) : g (S.SeenTwice_tree net set_ leaf0_ fail_) = S.SeenTwice_tree net set_ (fun d => g (leaf0_ d)) (g fail_) := by
  unfold S.SeenTwice_tree; simp only [apply_cnd g, apply_optC g, apply_sumC g]
noncomputable def S.SeenTwice_t (net : List Int) (set_ : Int) : Option (Int) := S.SeenTwice_tree net set_ (fun d => some d) none
theorem S.SeenTwice_den (net : List Int) (set_ : Int) (κ : V → List E → R) : S.SeenTwice_F [.ro false (.ints .i64 net), .int .i64 set_] [] κ = optC (S.SeenTwice_t net set_) (fun (r : Int) => κ (.int .i64 r) []) none := by
  have hu : S.SeenTwice_F [.ro false (.ints .i64 net), .int .i64 set_] [] κ = S.SeenTwice_tree net set_ (fun d => κ (.int .i64 d) []) none := by
    refine Eq.trans (show S.SeenTwice_F [.ro false (.ints .i64 net), .int .i64 set_] [] κ = (optC (S.l1SetOk_t net set_) (fun c_1 => (bif !c_1 then (κ (.int .i64 (-1)) []) else (S.SeenTwice_L6 FUEL { n := 40, t := [(0, (.ro false (.ints .i64 net))), (1, (.int .i64 set_)), (5, (.int .i64 0)), (6, (.int .i64 0)), (7, (.int .i64 0))], h := [] } (S.SeenTwice_k6 κ)))) none) by kernel_rfl) ?_
    refine optC_congr (fun c_1 => ?_)
    refine cnd_congr ?_ ?_
    · kernel_rfl
    · refine (S.SeenTwice_L6_run net set_ FUEL (0, 0, 0) (S.SeenTwice_k6 κ)).trans (optC_congr (fun qy_2 => ?_))
      kernel_rfl
  rw [hu]
  exact (S.SeenTwice_tree_nat (fun o => optC o (fun (r : Int) => κ (.int .i64 r) []) none) net set_ (fun d => some d) none).symm
noncomputable def S.SeenTwice_s : D.Spec where
  keep := false
  pure := true
  ds := [.int .i64, .invalid]
  sp := fun args h κ => match args, h with
    | [.ro false (.ints .i64 net), .int .i64 set_], [] => optC (S.SeenTwice_t net set_) (fun (r : Int) => κ (.int .i64 r) []) none
    | _, _ => none
theorem S.SeenTwice_ok : SpecOk Try.prog 36 S.SeenTwice_s := by
  refine SpecOk.of TDok mixed (T := S.SeenTwice_T) ?_ (ann := S.SeenTwice_ann) Try.func36 rfl (by decide +kernel) ?_ ?_ ?_
  · intro p hp
    simp only [S.SeenTwice_T, List.mem_cons, List.not_mem_nil, or_false] at hp
    rcases hp with rfl
    · exact S.l1SetOk_ok
  · intro args h κ r hh
    simp only [S.SeenTwice_s] at hh
    split at hh
    · exact (S.SeenTwice_den _ _ κ).trans hh
    · cases hh
  · intro args h κ r hh
    simp only [S.SeenTwice_s] at hh ⊢
    split at hh
    · exact optC_law2 (F := fun (r : Int) κ => κ (.int .i64 r) []) (fun b κ r hb => ⟨_, _, hb, fun _ => rfl⟩) hh
    · cases hh
  · intro _ args h κ r hh
    simp only [S.SeenTwice_s] at hh
    split at hh
    · exact ⟨rfl, fun _ => rfl⟩
    · cases hh

-- loop.example/guardsonnets/laws.FnSeenTwice
noncomputable def L.FnSeenTwice_T : List (Nat × D.Spec) := [(34, S.DrawSeenTwice_s), (35, I.SeenTwice_s), (36, S.SeenTwice_s), (20, L.alive_s), (18, I.PrivateOf_s), (22, I.SeenBy_s)]
def L.FnSeenTwice_ann : Nat → List Nat × List Nat
  | 11 => ([3, 4, 5, 6, 7], [3, 4, 5, 6])
  | _ => ([], [])
noncomputable def L.FnSeenTwice_F (args : List V) (h : List E) (κ : V → List E → R) : R := funC TD (tableK L.FnSeenTwice_T) L.FnSeenTwice_ann (drawOk (tableP L.FnSeenTwice_T)) FUEL Try.f9 args h κ
noncomputable def L.FnSeenTwice_L11 (n : Nat) (σ : St) (k : X → St → R) : R := iterC 0 (fun σ k => denC TD (tableK L.FnSeenTwice_T) L.FnSeenTwice_ann (drawOk (tableP L.FnSeenTwice_T)) 0 FUEL ((findLoop 11 (Try.f9.body.getD .skip)).getD .skip) σ k) [3, 4, 5, 6, 7] [3, 4, 5, 6] n σ k
noncomputable def L.FnSeenTwice_k11 (κ : V → List E → R) : X → St → R := (afterC TD (tableK L.FnSeenTwice_T) L.FnSeenTwice_ann (drawOk (tableP L.FnSeenTwice_T)) 0 FUEL 11 (Try.f9.body.getD .skip) (finC 0 Try.f9 κ)).getD (fun _ _ => none)
noncomputable def L.FnSeenTwice_step11 {α : Type} (x4 : Int) (x5 : Int) (x6 : Int) (x7 : Int) (r0 : List Int) (next_ : Int × Int × (List Int) → α) (out0_ : Int × (List Int) → α) (fail_ : α) : α :=
  (bif decide (x7 < (↑r0.length : Int)) then (bif decide (x7 < 0) then fail_ else (bif (x4.fdiv (2 ^ min x7.toNat IntKind.i64.bits)).tmod 2 == 1 then (optC (I.PrivateOf_t r0 x4 x7) (fun c_5 => (next_ (bits BinOp.or IntKind.i64 x6 c_5, IntKind.i64.wrap (x7 + 1), r0))) fail_) else (next_ (x6, IntKind.i64.wrap (x7 + 1), r0)))) else (out0_ (x6, r0)))
theorem L.FnSeenTwice_step11_nat {α γ : Type} (g : α → γ) (x4 : Int) (x5 : Int) (x6 : Int) (x7 : Int) (r0 : List Int) (next_ : Int × Int × (List Int) → α) (out0_ : Int × (List Int) → α) (fail_ : α) : g (L.FnSeenTwice_step11 x4 x5 x6 x7 r0 next_ out0_ fail_) = L.FnSeenTwice_step11 x4 x5 x6 x7 r0 (fun s => g (next_ s)) (fun d => g (out0_ d)) (g fail_) := by
  unfold L.FnSeenTwice_step11; simp only [apply_cnd g, apply_optC g, apply_sumC g]
noncomputable def L.FnSeenTwice_run11 (x4 : Int) (x5 : Int) : Nat → Int × Int × (List Int) → Option (Int × (List Int))
  | 0, _ => none
  | n + 1, s_ => L.FnSeenTwice_step11 x4 x5 s_.1 s_.2.1 s_.2.2 (L.FnSeenTwice_run11 x4 x5 n) (fun d => some d) none
theorem L.FnSeenTwice_L11_run (x4 : Int) (x5 : Int) (n : Nat) (s_ : Int × Int × (List Int)) (k : X → St → R) : L.FnSeenTwice_L11 n { n := 64, t := [(3, (.own 0)), (4, (.int .i64 x4)), (5, (.int .i64 x5)), (6, (.int .i64 s_.1)), (7, (.int .i64 s_.2.1))], h := [.row (.ints .i64 s_.2.2)] } k = optC (L.FnSeenTwice_run11 x4 x5 n s_) (fun (r : Int × (List Int)) => k (.exit 0) { n := 64, t := [(3, (.own 0)), (4, (.int .i64 x4)), (5, (.int .i64 x5)), (6, (.int .i64 r.1))], h := [.row (.ints .i64 r.2)] }) none := by
  induction n generalizing s_ with
  | zero => rfl
  | succ n ih =>
    have hu : L.FnSeenTwice_L11 (n + 1) { n := 64, t := [(3, (.own 0)), (4, (.int .i64 x4)), (5, (.int .i64 x5)), (6, (.int .i64 s_.1)), (7, (.int .i64 s_.2.1))], h := [.row (.ints .i64 s_.2.2)] } k = L.FnSeenTwice_step11 x4 x5 s_.1 s_.2.1 s_.2.2 (fun s_ => L.FnSeenTwice_L11 n { n := 64, t := [(3, (.own 0)), (4, (.int .i64 x4)), (5, (.int .i64 x5)), (6, (.int .i64 s_.1)), (7, (.int .i64 s_.2.1))], h := [.row (.ints .i64 s_.2.2)] } k) (fun d => k (.exit 0) { n := 64, t := [(3, (.own 0)), (4, (.int .i64 x4)), (5, (.int .i64 x5)), (6, (.int .i64 d.1))], h := [.row (.ints .i64 d.2)] }) none := by
      kernel_rfl
    have hs : (fun s_ : Int × Int × (List Int) => L.FnSeenTwice_L11 n { n := 64, t := [(3, (.own 0)), (4, (.int .i64 x4)), (5, (.int .i64 x5)), (6, (.int .i64 s_.1)), (7, (.int .i64 s_.2.1))], h := [.row (.ints .i64 s_.2.2)] } k) = fun s_ => optC (L.FnSeenTwice_run11 x4 x5 n s_) (fun (r : Int × (List Int)) => k (.exit 0) { n := 64, t := [(3, (.own 0)), (4, (.int .i64 x4)), (5, (.int .i64 x5)), (6, (.int .i64 r.1))], h := [.row (.ints .i64 r.2)] }) none := funext ih
    rw [hu, hs]
    exact (L.FnSeenTwice_step11_nat (fun o => optC o (fun (r : Int × (List Int)) => k (.exit 0) { n := 64, t := [(3, (.own 0)), (4, (.int .i64 x4)), (5, (.int .i64 x5)), (6, (.int .i64 r.1))], h := [.row (.ints .i64 r.2)] }) none) x4 x5 s_.1 s_.2.1 s_.2.2 (L.FnSeenTwice_run11 x4 x5 n) (fun d => some d) none).symm
noncomputable def L.FnSeenTwice_tree {α : Type} (code : List Int) (leaf0_ : Bool → α) (fail_ : α) : α :=
  (bif decide ((↑code.length : Int) > 1048576) then (leaf0_ true) else (optC (S.DrawSeenTwice_t code) (fun c_1 => (optC (I.SeenTwice_t c_1.snd c_1.fst) (fun c_2 => (optC (S.SeenTwice_t c_1.snd c_1.fst) (fun c_3 => (bif !c_2 == c_3 then (leaf0_ false) else (bif decide (c_2 < 0) then (bif c_2 == -1 then (optC (L.alive_t) (fun c_4 => (leaf0_ c_4)) fail_) else (leaf0_ false)) else (optC (L.FnSeenTwice_run11 c_1.fst c_2 FUEL (0, 0, c_1.snd)) (fun qy_6 => (bif bits BinOp.and IntKind.i64 qy_6.1 c_2 == 0 then (optC (I.SeenBy_t qy_6.2 c_1.fst) (fun c_7 => (bif bits BinOp.or IntKind.i64 qy_6.1 c_2 == c_7 then (optC (L.alive_t) (fun c_8 => (leaf0_ c_8)) fail_) else (leaf0_ false))) fail_) else (leaf0_ false))) fail_)))) fail_)) fail_)) fail_))
theorem L.FnSeenTwice_tree_nat {α γ : Type} (g : α → γ) (code : List Int) (leaf0_ : Bool → α) (fail_ : α) : g (L.FnSeenTwice_tree code leaf0_ fail_) = L.FnSeenTwice_tree code (fun d => g (leaf0_ d)) (g fail_) := by
  unfold L.FnSeenTwice_tree; simp only [apply_cnd g, apply_optC g, apply_sumC g]
noncomputable def L.FnSeenTwice_t (code : List Int) : Option (Bool) := L.FnSeenTwice_tree code (fun d => some d) none
theorem L.FnSeenTwice_den (code : List Int) (κ : V → List E → R) : L.FnSeenTwice_F [.ro true (.ints .u8 code)] [] κ = optC (L.FnSeenTwice_t code) (fun (r : Bool) => κ (.bool r) []) none := by
  have hu : L.FnSeenTwice_F [.ro true (.ints .u8 code)] [] κ = L.FnSeenTwice_tree code (fun d => κ (.bool d) []) none := by
    refine Eq.trans (show L.FnSeenTwice_F [.ro true (.ints .u8 code)] [] κ = (bif decide ((↑code.length : Int) > 1048576) then (κ (.bool true) []) else (optC (S.DrawSeenTwice_t code) (fun c_1 => (optC (I.SeenTwice_t c_1.snd c_1.fst) (fun c_2 => (optC (S.SeenTwice_t c_1.snd c_1.fst) (fun c_3 => (bif !c_2 == c_3 then (κ (.bool false) []) else (bif decide (c_2 < 0) then (bif c_2 == -1 then (optC (L.alive_t) (fun c_4 => (κ (.bool c_4) [])) none) else (κ (.bool false) [])) else (L.FnSeenTwice_L11 FUEL { n := 64, t := [(3, (.own 0)), (4, (.int .i64 c_1.fst)), (5, (.int .i64 c_2)), (6, (.int .i64 0)), (7, (.int .i64 0))], h := [.row (.ints .i64 c_1.snd)] } (L.FnSeenTwice_k11 κ))))) none)) none)) none)) by kernel_rfl) ?_
    refine cnd_congr ?_ ?_
    · kernel_rfl
    · refine optC_congr (fun c_1 => ?_)
      refine optC_congr (fun c_2 => ?_)
      refine optC_congr (fun c_3 => ?_)
      refine cnd_congr ?_ ?_
      · kernel_rfl
      · refine cnd_congr ?_ ?_
        · kernel_rfl
        · refine (L.FnSeenTwice_L11_run c_1.fst c_2 FUEL (0, 0, c_1.snd) (L.FnSeenTwice_k11 κ)).trans (optC_congr (fun qy_6 => ?_))
          kernel_rfl
  rw [hu]
  exact (L.FnSeenTwice_tree_nat (fun o => optC o (fun (r : Bool) => κ (.bool r) []) none) code (fun d => some d) none).symm
noncomputable def L.FnSeenTwice_s : D.Spec where
  keep := true
  pure := true
  ds := [.int .u8]
  sp := fun args h κ => match args, h with
    | [.ro true (.ints .u8 code)], [] => optC (L.FnSeenTwice_t code) (fun (r : Bool) => κ (.bool r) []) none
    | _, _ => none
theorem L.FnSeenTwice_ok : SpecOk Try.prog 9 L.FnSeenTwice_s := by
  refine SpecOk.of TDok mixed (T := L.FnSeenTwice_T) ?_ (ann := L.FnSeenTwice_ann) Try.func9 rfl (by decide +kernel) ?_ ?_ ?_
  · intro p hp
    simp only [L.FnSeenTwice_T, List.mem_cons, List.not_mem_nil, or_false] at hp
    rcases hp with rfl | rfl | rfl | rfl | rfl | rfl
    · exact S.DrawSeenTwice_ok
    · exact I.SeenTwice_ok
    · exact S.SeenTwice_ok
    · exact L.alive_ok
    · exact I.PrivateOf_ok
    · exact I.SeenBy_ok
  · intro args h κ r hh
    simp only [L.FnSeenTwice_s] at hh
    split at hh
    · exact (L.FnSeenTwice_den _ κ).trans hh
    · cases hh
  · intro args h κ r hh
    simp only [L.FnSeenTwice_s] at hh ⊢
    split at hh
    · exact optC_law2 (F := fun (r : Bool) κ => κ (.bool r) []) (fun b κ r hb => ⟨_, _, hb, fun _ => rfl⟩) hh
    · cases hh
  · intro _ args h κ r hh
    simp only [L.FnSeenTwice_s] at hh
    split at hh
    · exact ⟨rfl, fun _ => rfl⟩
    · cases hh

-- loop.example/guardsonnets/laws.FnExactSeenTwice
noncomputable def L.FnExactSeenTwice_T : List (Nat × D.Spec) := [(23, L.toIntS_s), (36, S.SeenTwice_s), (35, I.SeenTwice_s), (24, L.eqIntS_s)]
def L.FnExactSeenTwice_ann : Nat → List Nat × List Nat
  | _ => ([], [])
noncomputable def L.FnExactSeenTwice_F (args : List V) (h : List E) (κ : V → List E → R) : R := funC TD (tableK L.FnExactSeenTwice_T) L.FnExactSeenTwice_ann (drawOk (tableP L.FnExactSeenTwice_T)) FUEL Try.f10 args h κ
noncomputable def L.FnExactSeenTwice_tree {α : Type} (aNet : List Int) (aSet : Int) (leaf0_ : Bool → α) (fail_ : α) : α :=
  (bif decide ((↑aNet.length : Int) > 1048576) then (leaf0_ true) else (optC (L.toIntS_t aNet) (fun c_1 => (optC (S.SeenTwice_t c_1 aSet) (fun c_2 => (optC (L.toIntS_t aNet) (fun c_3 => (optC (I.SeenTwice_t c_3 aSet) (fun c_4 => (bif !c_4 == c_2 then (leaf0_ false) else (optC (L.toIntS_t aNet) (fun c_5 => (optC (L.eqIntS_t c_3 c_5) (fun c_6 => (bif !c_6 then (leaf0_ false) else (leaf0_ true))) fail_)) fail_))) fail_)) fail_)) fail_)) fail_))
theorem L.FnExactSeenTwice_tree_nat {α γ : Type} (g : α → γ) (aNet : List Int) (aSet : Int) (leaf0_ : Bool → α) (fail_ : α) : g (L.FnExactSeenTwice_tree aNet aSet leaf0_ fail_) = L.FnExactSeenTwice_tree aNet aSet (fun d => g (leaf0_ d)) (g fail_) := by
  unfold L.FnExactSeenTwice_tree; simp only [apply_cnd g, apply_optC g, apply_sumC g]
noncomputable def L.FnExactSeenTwice_t (aNet : List Int) (aSet : Int) : Option (Bool) := L.FnExactSeenTwice_tree aNet aSet (fun d => some d) none
theorem L.FnExactSeenTwice_den (aNet : List Int) (aSet : Int) (κ : V → List E → R) : L.FnExactSeenTwice_F [.ro true (.ints .i64 aNet), .int .i64 aSet] [] κ = optC (L.FnExactSeenTwice_t aNet aSet) (fun (r : Bool) => κ (.bool r) []) none := by
  have hu : L.FnExactSeenTwice_F [.ro true (.ints .i64 aNet), .int .i64 aSet] [] κ = L.FnExactSeenTwice_tree aNet aSet (fun d => κ (.bool d) []) none := by
    kernel_rfl
  rw [hu]
  exact (L.FnExactSeenTwice_tree_nat (fun o => optC o (fun (r : Bool) => κ (.bool r) []) none) aNet aSet (fun d => some d) none).symm
noncomputable def L.FnExactSeenTwice_s : D.Spec where
  keep := true
  pure := true
  ds := [.int .i64, .invalid]
  sp := fun args h κ => match args, h with
    | [.ro true (.ints .i64 aNet), .int .i64 aSet], [] => optC (L.FnExactSeenTwice_t aNet aSet) (fun (r : Bool) => κ (.bool r) []) none
    | _, _ => none
theorem L.FnExactSeenTwice_ok : SpecOk Try.prog 10 L.FnExactSeenTwice_s := by
  refine SpecOk.of TDok mixed (T := L.FnExactSeenTwice_T) ?_ (ann := L.FnExactSeenTwice_ann) Try.func10 rfl (by decide +kernel) ?_ ?_ ?_
  · intro p hp
    simp only [L.FnExactSeenTwice_T, List.mem_cons, List.not_mem_nil, or_false] at hp
    rcases hp with rfl | rfl | rfl | rfl
    · exact L.toIntS_ok
    · exact S.SeenTwice_ok
    · exact I.SeenTwice_ok
    · exact L.eqIntS_ok
  · intro args h κ r hh
    simp only [L.FnExactSeenTwice_s] at hh
    split at hh
    · exact (L.FnExactSeenTwice_den _ _ κ).trans hh
    · cases hh
  · intro args h κ r hh
    simp only [L.FnExactSeenTwice_s] at hh ⊢
    split at hh
    · exact optC_law2 (F := fun (r : Bool) κ => κ (.bool r) []) (fun b κ r hb => ⟨_, _, hb, fun _ => rfl⟩) hh
    · cases hh
  · intro _ args h κ r hh
    simp only [L.FnExactSeenTwice_s] at hh
    split at hh
    · exact ⟨rfl, fun _ => rfl⟩
    · cases hh

-- loop.example/guardsonnets/spec.l20Order
noncomputable def S.l20Order_T : List (Nat × D.Spec) := [(48, S.l20Rd_pick_s), (80, S.l20Rd_odd_s)]
def S.l20Order_ann : Nat → List Nat × List Nat
  | 3 => ([0, 1, 2, 7, 8], [0, 2, 7])
  | _ => ([], [])
noncomputable def S.l20Order_F (args : List V) (h : List E) (κ : V → List E → R) : R := funC TD (tableK S.l20Order_T) S.l20Order_ann (drawOk (tableP S.l20Order_T)) FUEL Try.f77 args h κ
noncomputable def S.l20Order_L3 (n : Nat) (σ : St) (k : X → St → R) : R := iterC 1 (fun σ k => denC TD (tableK S.l20Order_T) S.l20Order_ann (drawOk (tableP S.l20Order_T)) 1 FUEL ((findLoop 3 (Try.f77.body.getD .skip)).getD .skip) σ k) [0, 1, 2, 7, 8] [0, 2, 7] n σ k
noncomputable def S.l20Order_k3 (κ : V → List E → R) : X → St → R := (afterC TD (tableK S.l20Order_T) S.l20Order_ann (drawOk (tableP S.l20Order_T)) 1 FUEL 3 (Try.f77.body.getD .skip) (finC 1 Try.f77 κ)).getD (fun _ _ => none)
noncomputable def S.l20Order_step3 {α : Type} (x1 : Int) (x2 : Int) (x8 : Int) (r0_0 : List Int) (r0_1 : Int) (r1 : List Int) (next_ : Int × (List Int) × Int × (List Int) → α) (out0_ : (List Int) × Int × (List Int) → α) (fail_ : α) : α :=
  (bif decide (x8 < x1) then (optC (S.l20Rd_pick_t r0_0 r0_1 (IntKind.i64.wrap ((↑r1.length : Int) + 1))) (fun c_1 => (bif decide (0 ≤ c_1.fst) && decide (c_1.fst ≤ (↑r1.length : Int)) then (bif small ([] ++ List.take c_1.fst.toNat (List.drop 0 r1)).length then (bif small ([] ++ List.take c_1.fst.toNat (List.drop 0 r1) ++ [x8]).length then (bif decide (0 ≤ c_1.fst) && decide (c_1.fst ≤ (↑r1.length : Int)) && decide ((↑r1.length : Int) ≤ (↑r1.length : Int)) then (bif small ([] ++ List.take c_1.fst.toNat (List.drop 0 r1) ++ [x8] ++ List.take (r1.length - c_1.fst.toNat) (List.drop c_1.fst.toNat r1)).length then (next_ (IntKind.i64.wrap (x8 + 1), c_1.snd.fst, c_1.snd.snd, [] ++ List.take c_1.fst.toNat (List.drop 0 r1) ++ [x8] ++ List.take (r1.length - c_1.fst.toNat) (List.drop c_1.fst.toNat r1))) else fail_) else fail_) else fail_) else fail_) else fail_)) fail_) else (out0_ (r0_0, r0_1, r1)))
theorem S.l20Order_step3_nat {α γ : Type} (g : α → γ) (x1 : Int) (x2 : Int) (x8 : Int) (r0_0 : List Int) (r0_1 : Int) (r1 : List Int) (next_ : Int × (List Int) × Int × (List Int) → α) (out0_ : (List Int) × Int × (List Int) → α) (fail_ : α) : g (S.l20Order_step3 x1 x2 x8 r0_0 r0_1 r1 next_ out0_ fail_) = S.l20Order_step3 x1 x2 x8 r0_0 r0_1 r1 (fun s => g (next_ s)) (fun d => g (out0_ d)) (g fail_) := by
  unfold S.l20Order_step3; simp only [apply_cnd g, apply_optC g, apply_sumC g]
noncomputable def S.l20Order_run3 (x1 : Int) (x2 : Int) : Nat → Int × (List Int) × Int × (List Int) → Option ((List Int) × Int × (List Int))
  | 0, _ => none
  | n + 1, s_ => S.l20Order_step3 x1 x2 s_.1 s_.2.1 s_.2.2.1 s_.2.2.2 (S.l20Order_run3 x1 x2 n) (fun d => some d) none
theorem S.l20Order_L3_run (x1 : Int) (x2 : Int) (n : Nat) (s_ : Int × (List Int) × Int × (List Int)) (k : X → St → R) : S.l20Order_L3 n { n := 43, t := [(0, (.ptr 0 0)), (1, (.int .i64 x1)), (2, (.int .i64 x2)), (7, (.own 1)), (8, (.int .i64 s_.1))], h := [.cells [(.ro true (.ints .u8 s_.2.1)), (.int .i64 s_.2.2.1)], .row (.ints .i64 s_.2.2.2)] } k = optC (S.l20Order_run3 x1 x2 n s_) (fun (r : (List Int) × Int × (List Int)) => k (.exit 0) { n := 43, t := [(0, (.ptr 0 0)), (2, (.int .i64 x2)), (7, (.own 1))], h := [.cells [(.ro true (.ints .u8 r.1)), (.int .i64 r.2.1)], .row (.ints .i64 r.2.2)] }) none := by
  induction n generalizing s_ with
  | zero => rfl
  | succ n ih =>
    have hu : S.l20Order_L3 (n + 1) { n := 43, t := [(0, (.ptr 0 0)), (1, (.int .i64 x1)), (2, (.int .i64 x2)), (7, (.own 1)), (8, (.int .i64 s_.1))], h := [.cells [(.ro true (.ints .u8 s_.2.1)), (.int .i64 s_.2.2.1)], .row (.ints .i64 s_.2.2.2)] } k = S.l20Order_step3 x1 x2 s_.1 s_.2.1 s_.2.2.1 s_.2.2.2 (fun s_ => S.l20Order_L3 n { n := 43, t := [(0, (.ptr 0 0)), (1, (.int .i64 x1)), (2, (.int .i64 x2)), (7, (.own 1)), (8, (.int .i64 s_.1))], h := [.cells [(.ro true (.ints .u8 s_.2.1)), (.int .i64 s_.2.2.1)], .row (.ints .i64 s_.2.2.2)] } k) (fun d => k (.exit 0) { n := 43, t := [(0, (.ptr 0 0)), (2, (.int .i64 x2)), (7, (.own 1))], h := [.cells [(.ro true (.ints .u8 d.1)), (.int .i64 d.2.1)], .row (.ints .i64 d.2.2)] }) none := by
      kernel_rfl
    have hs : (fun s_ : Int × (List Int) × Int × (List Int) => S.l20Order_L3 n { n := 43, t := [(0, (.ptr 0 0)), (1, (.int .i64 x1)), (2, (.int .i64 x2)), (7, (.own 1)), (8, (.int .i64 s_.1))], h := [.cells [(.ro true (.ints .u8 s_.2.1)), (.int .i64 s_.2.2.1)], .row (.ints .i64 s_.2.2.2)] } k) = fun s_ => optC (S.l20Order_run3 x1 x2 n s_) (fun (r : (List Int) × Int × (List Int)) => k (.exit 0) { n := 43, t := [(0, (.ptr 0 0)), (2, (.int .i64 x2)), (7, (.own 1))], h := [.cells [(.ro true (.ints .u8 r.1)), (.int .i64 r.2.1)], .row (.ints .i64 r.2.2)] }) none := funext ih
    rw [hu, hs]
    exact (S.l20Order_step3_nat (fun o => optC o (fun (r : (List Int) × Int × (List Int)) => k (.exit 0) { n := 43, t := [(0, (.ptr 0 0)), (2, (.int .i64 x2)), (7, (.own 1))], h := [.cells [(.ro true (.ints .u8 r.1)), (.int .i64 r.2.1)], .row (.ints .i64 r.2.2)] }) none) x1 x2 s_.1 s_.2.1 s_.2.2.1 s_.2.2.2 (S.l20Order_run3 x1 x2 n) (fun d => some d) none).symm
noncomputable def S.l20Order_tree {α : Type} (rb : List Int) (rp : Int) (many : Int) (n_ : Int) (leaf0_ : (List Int) × Int × (List Int) → α) (fail_ : α) : α :=
  (optC (S.l20Order_run3 many n_ FUEL (0, rb, rp, [])) (fun qy_2 => (optC (S.l20Rd_odd_t qy_2.1 qy_2.2.1 n_) (fun c_3 => (bif c_3.fst then (bif small (qy_2.2.2 ++ [0]).length then (leaf0_ (c_3.snd.fst, c_3.snd.snd, qy_2.2.2 ++ [0])) else fail_) else (leaf0_ (c_3.snd.fst, c_3.snd.snd, qy_2.2.2)))) fail_)) fail_)
theorem S.l20Order_tree_nat {α γ : Type} (g : α → γ) (rb : List Int) (rp : Int) (many : Int) (n_ : Int) (leaf0_ : (List Int) × Int × (List Int) → α) (fail_ : α) : g (S.l20Order_tree rb rp many n_ leaf0_ fail_) = S.l20Order_tree rb rp many n_ (fun d => g (leaf0_ d)) (g fail_) := by
  unfold S.l20Order_tree; simp only [apply_cnd g, apply_optC g, apply_sumC g]
noncomputable def S.l20Order_t (rb : List Int) (rp : Int) (many : Int) (n_ : Int) : Option ((List Int) × Int × (List Int)) := S.l20Order_tree rb rp many n_ (fun d => some d) none
theorem S.l20Order_den (rb : List Int) (rp : Int) (many : Int) (n_ : Int) (κ : V → List E → R) : S.l20Order_F [.ptr 0 0, .int .i64 many, .int .i64 n_] [.cells [.ro true (.ints .u8 rb), .int .i64 rp]] κ = optC (S.l20Order_t rb rp many n_) (fun (r : (List Int) × Int × (List Int)) => κ (.own 1) [.cells [(.ro true (.ints .u8 r.1)), (.int .i64 r.2.1)], .row (.ints .i64 r.2.2)]) none := by
  have hu : S.l20Order_F [.ptr 0 0, .int .i64 many, .int .i64 n_] [.cells [.ro true (.ints .u8 rb), .int .i64 rp]] κ = S.l20Order_tree rb rp many n_ (fun d => κ (.own 1) [.cells [(.ro true (.ints .u8 d.1)), (.int .i64 d.2.1)], .row (.ints .i64 d.2.2)]) none := by
    refine Eq.trans (show S.l20Order_F [.ptr 0 0, .int .i64 many, .int .i64 n_] [.cells [.ro true (.ints .u8 rb), .int .i64 rp]] κ = (S.l20Order_L3 FUEL { n := 43, t := [(0, (.ptr 0 0)), (1, (.int .i64 many)), (2, (.int .i64 n_)), (7, (.own 1)), (8, (.int .i64 0))], h := [.cells [(.ro true (.ints .u8 rb)), (.int .i64 rp)], .row (.ints .i64 ([]))] } (S.l20Order_k3 κ)) by kernel_rfl) ?_
    refine (S.l20Order_L3_run many n_ FUEL (0, rb, rp, []) (S.l20Order_k3 κ)).trans (optC_congr (fun qy_2 => ?_))
    kernel_rfl
  rw [hu]
  exact (S.l20Order_tree_nat (fun o => optC o (fun (r : (List Int) × Int × (List Int)) => κ (.own 1) [.cells [(.ro true (.ints .u8 r.1)), (.int .i64 r.2.1)], .row (.ints .i64 r.2.2)]) none) rb rp many n_ (fun d => some d) none).symm
noncomputable def S.l20Order_s : D.Spec where
  keep := false
  pure := false
  ds := [.invalid, .invalid, .invalid]
  sp := fun args h κ => match args, h with
    | [.ptr 0 0, .int .i64 many, .int .i64 n_], [.cells [.ro true (.ints .u8 rb), .int .i64 rp]] => optC (S.l20Order_t rb rp many n_) (fun (r : (List Int) × Int × (List Int)) => κ (.own 1) [.cells [(.ro true (.ints .u8 r.1)), (.int .i64 r.2.1)], .row (.ints .i64 r.2.2)]) none
    | _, _ => none
theorem S.l20Order_ok : SpecOk Try.prog 77 S.l20Order_s := by
  refine SpecOk.of TDok mixed (T := S.l20Order_T) ?_ (ann := S.l20Order_ann) Try.func77 rfl (by decide +kernel) ?_ ?_ ?_
  · intro p hp
    simp only [S.l20Order_T, List.mem_cons, List.not_mem_nil, or_false] at hp
    rcases hp with rfl | rfl
    · exact S.l20Rd_pick_ok
    · exact S.l20Rd_odd_ok
  · intro args h κ r hh
    simp only [S.l20Order_s] at hh
    split at hh
    · exact (S.l20Order_den _ _ _ _ κ).trans hh
    · cases hh
  · intro args h κ r hh
    simp only [S.l20Order_s] at hh ⊢
    split at hh
    · exact optC_law2 (F := fun (r : (List Int) × Int × (List Int)) κ => κ (.own 1) [.cells [(.ro true (.ints .u8 r.1)), (.int .i64 r.2.1)], .row (.ints .i64 r.2.2)]) (fun b κ r hb => ⟨_, _, hb, fun _ => rfl⟩) hh
    · cases hh
  · intro hh; cases hh

-- loop.example/guardsonnets/spec.l20Apart
noncomputable def S.l20Apart_T : List (Nat × D.Spec) := [(65, S.l20Set_s), (28, S.NetOk_s), (48, S.l20Rd_pick_s), (77, S.l20Order_s)]
def S.l20Apart_ann : Nat → List Nat × List Nat
  | 6 => ([0, 6, 8, 9, 10], [6, 8])
  | _ => ([], [])
noncomputable def S.l20Apart_F (args : List V) (h : List E) (κ : V → List E → R) : R := funC TD (tableK S.l20Apart_T) S.l20Apart_ann (drawOk (tableP S.l20Apart_T)) FUEL Try.f66 args h κ
noncomputable def S.l20Apart_L6 (n : Nat) (σ : St) (k : X → St → R) : R := iterC 1 (fun σ k => denC TD (tableK S.l20Apart_T) S.l20Apart_ann (drawOk (tableP S.l20Apart_T)) 1 FUEL ((findLoop 6 (Try.f66.body.getD .skip)).getD .skip) σ k) [0, 6, 8, 9, 10] [6, 8] n σ k
noncomputable def S.l20Apart_k6 (κ : V → List E → R) : X → St → R := (afterC TD (tableK S.l20Apart_T) S.l20Apart_ann (drawOk (tableP S.l20Apart_T)) 1 FUEL 6 (Try.f66.body.getD .skip) (finC 1 Try.f66 κ)).getD (fun _ _ => none)
noncomputable def S.l20Apart_step6 {α : Type} (x8 : Int) (x10 : Int) (r0_0 : List Int) (r0_1 : Int) (r1 : List Int) (r2 : List Int) (next_ : Int × Int × (List Int) × Int × (List Int) × (List Int) → α) (out0_ : Int × (List Int) × Int × (List Int) → α) (fail_ : α) : α :=
  (bif decide (x10 < (↑r2.length : Int)) then (bif decide (0 ≤ x10) && decide (x10 < (↑r2.length : Int)) then (bif decide (x10.toNat < r2.length) then (bif decide (0 ≤ eli r2 x10.toNat) && decide (eli r2 x10.toNat < (↑r1.length : Int)) then (bif decide ((eli r2 x10.toNat).toNat < r1.length) then (bif bits BinOp.and IntKind.i64 (eli r1 (eli r2 x10.toNat).toNat) x8 == 0 then (optC (S.l20Rd_pick_t r0_0 r0_1 4) (fun c_5 => (bif decide (c_5.fst > 0) then (bif decide (0 ≤ x10) && decide (x10 < (↑r2.length : Int)) then (bif decide (x10.toNat < r2.length) then (bif decide (eli r2 x10.toNat < 0) then fail_ else (next_ (bits BinOp.or IntKind.i64 x8 (IntKind.i64.wrap (1 * 2 ^ min (eli r2 x10.toNat).toNat IntKind.i64.bits)), IntKind.i64.wrap (x10 + 1), c_5.snd.fst, c_5.snd.snd, r1, r2))) else fail_) else fail_) else (next_ (x8, IntKind.i64.wrap (x10 + 1), c_5.snd.fst, c_5.snd.snd, r1, r2)))) fail_) else (next_ (x8, IntKind.i64.wrap (x10 + 1), r0_0, r0_1, r1, r2))) else fail_) else fail_) else fail_) else fail_) else (out0_ (x8, r0_0, r0_1, r1)))
theorem S.l20Apart_step6_nat {α γ : Type} (g : α → γ) (x8 : Int) (x10 : Int) (r0_0 : List Int) (r0_1 : Int) (r1 : List Int) (r2 : List Int) (next_ : Int × Int × (List Int) × Int × (List Int) × (List Int) → α) (out0_ : Int × (List Int) × Int × (List Int) → α) (fail_ : α) : g (S.l20Apart_step6 x8 x10 r0_0 r0_1 r1 r2 next_ out0_ fail_) = S.l20Apart_step6 x8 x10 r0_0 r0_1 r1 r2 (fun s => g (next_ s)) (fun d => g (out0_ d)) (g fail_) := by
  unfold S.l20Apart_step6; simp only [apply_cnd g, apply_optC g, apply_sumC g]
noncomputable def S.l20Apart_run6 : Nat → Int × Int × (List Int) × Int × (List Int) × (List Int) → Option (Int × (List Int) × Int × (List Int))
  | 0, _ => none
  | n + 1, s_ => S.l20Apart_step6 s_.1 s_.2.1 s_.2.2.1 s_.2.2.2.1 s_.2.2.2.2.1 s_.2.2.2.2.2 (S.l20Apart_run6 n) (fun d => some d) none
theorem S.l20Apart_L6_run (n : Nat) (s_ : Int × Int × (List Int) × Int × (List Int) × (List Int)) (k : X → St → R) : S.l20Apart_L6 n { n := 60, t := [(0, (.ptr 0 0)), (6, (.own 1)), (8, (.int .i64 s_.1)), (9, (.own 2)), (10, (.int .i64 s_.2.1))], h := [.cells [(.ro true (.ints .u8 s_.2.2.1)), (.int .i64 s_.2.2.2.1)], .row (.ints .i64 s_.2.2.2.2.1), .row (.ints .i64 s_.2.2.2.2.2)] } k = optC (S.l20Apart_run6 n s_) (fun (r : Int × (List Int) × Int × (List Int)) => k (.exit 0) { n := 60, t := [(6, (.own 1)), (8, (.int .i64 r.1))], h := [.cells [(.ro true (.ints .u8 r.2.1)), (.int .i64 r.2.2.1)], .row (.ints .i64 r.2.2.2)] }) none := by
  induction n generalizing s_ with
  | zero => rfl
  | succ n ih =>
    have hu : S.l20Apart_L6 (n + 1) { n := 60, t := [(0, (.ptr 0 0)), (6, (.own 1)), (8, (.int .i64 s_.1)), (9, (.own 2)), (10, (.int .i64 s_.2.1))], h := [.cells [(.ro true (.ints .u8 s_.2.2.1)), (.int .i64 s_.2.2.2.1)], .row (.ints .i64 s_.2.2.2.2.1), .row (.ints .i64 s_.2.2.2.2.2)] } k = S.l20Apart_step6 s_.1 s_.2.1 s_.2.2.1 s_.2.2.2.1 s_.2.2.2.2.1 s_.2.2.2.2.2 (fun s_ => S.l20Apart_L6 n { n := 60, t := [(0, (.ptr 0 0)), (6, (.own 1)), (8, (.int .i64 s_.1)), (9, (.own 2)), (10, (.int .i64 s_.2.1))], h := [.cells [(.ro true (.ints .u8 s_.2.2.1)), (.int .i64 s_.2.2.2.1)], .row (.ints .i64 s_.2.2.2.2.1), .row (.ints .i64 s_.2.2.2.2.2)] } k) (fun d => k (.exit 0) { n := 60, t := [(6, (.own 1)), (8, (.int .i64 d.1))], h := [.cells [(.ro true (.ints .u8 d.2.1)), (.int .i64 d.2.2.1)], .row (.ints .i64 d.2.2.2)] }) none := by
      kernel_rfl
    have hs : (fun s_ : Int × Int × (List Int) × Int × (List Int) × (List Int) => S.l20Apart_L6 n { n := 60, t := [(0, (.ptr 0 0)), (6, (.own 1)), (8, (.int .i64 s_.1)), (9, (.own 2)), (10, (.int .i64 s_.2.1))], h := [.cells [(.ro true (.ints .u8 s_.2.2.1)), (.int .i64 s_.2.2.2.1)], .row (.ints .i64 s_.2.2.2.2.1), .row (.ints .i64 s_.2.2.2.2.2)] } k) = fun s_ => optC (S.l20Apart_run6 n s_) (fun (r : Int × (List Int) × Int × (List Int)) => k (.exit 0) { n := 60, t := [(6, (.own 1)), (8, (.int .i64 r.1))], h := [.cells [(.ro true (.ints .u8 r.2.1)), (.int .i64 r.2.2.1)], .row (.ints .i64 r.2.2.2)] }) none := funext ih
    rw [hu, hs]
    exact (S.l20Apart_step6_nat (fun o => optC o (fun (r : Int × (List Int) × Int × (List Int)) => k (.exit 0) { n := 60, t := [(6, (.own 1)), (8, (.int .i64 r.1))], h := [.cells [(.ro true (.ints .u8 r.2.1)), (.int .i64 r.2.2.1)], .row (.ints .i64 r.2.2.2)] }) none) s_.1 s_.2.1 s_.2.2.1 s_.2.2.2.1 s_.2.2.2.2.1 s_.2.2.2.2.2 (S.l20Apart_run6 n) (fun d => some d) none).symm
noncomputable def S.l20Apart_tree {α : Type} (rb : List Int) (rp : Int) (n_ : Int) (leaf0_ : Int × (List Int) × Int × (List Int) → α) (fail_ : α) : α :=
  (optC (S.l20Set_t rb rp n_) (fun c_1 => (optC (S.NetOk_t c_1.snd.snd.snd) (fun c_2 => (bif c_2 then (optC (S.l20Rd_pick_t c_1.snd.fst c_1.snd.snd.fst 3) (fun c_3 => (bif decide (c_3.fst > 0) then (optC (S.l20Order_t c_3.snd.fst c_3.snd.snd (↑c_1.snd.snd.snd.length : Int) 0) (fun c_4 => (optC (S.l20Apart_run6 FUEL (0, 0, c_4.fst, c_4.snd.fst, c_1.snd.snd.snd, c_4.snd.snd)) (fun qy_6 => (leaf0_ (qy_6.1, qy_6.2.1, qy_6.2.2.1, qy_6.2.2.2))) fail_)) fail_) else (leaf0_ (c_1.fst, c_3.snd.fst, c_3.snd.snd, c_1.snd.snd.snd)))) fail_) else (leaf0_ (c_1.fst, c_1.snd.fst, c_1.snd.snd.fst, c_1.snd.snd.snd)))) fail_)) fail_)
theorem S.l20Apart_tree_nat {α γ : Type} (g : α → γ) (rb : List Int) (rp : Int) (n_ : Int) (leaf0_ : Int × (List Int) × Int × (List Int) → α) (fail_ : α) : g (S.l20Apart_tree rb rp n_ leaf0_ fail_) = S.l20Apart_tree rb rp n_ (fun d => g (leaf0_ d)) (g fail_) := by
  unfold S.l20Apart_tree; simp only [apply_cnd g, apply_optC g, apply_sumC g]
noncomputable def S.l20Apart_t (rb : List Int) (rp : Int) (n_ : Int) : Option (Int × (List Int) × Int × (List Int)) := S.l20Apart_tree rb rp n_ (fun d => some d) none
theorem S.l20Apart_den (rb : List Int) (rp : Int) (n_ : Int) (κ : V → List E → R) : S.l20Apart_F [.ptr 0 0, .int .i64 n_] [.cells [.ro true (.ints .u8 rb), .int .i64 rp]] κ = optC (S.l20Apart_t rb rp n_) (fun (r : Int × (List Int) × Int × (List Int)) => κ (.tup [(.own 1), (.int .i64 r.1)]) [.cells [(.ro true (.ints .u8 r.2.1)), (.int .i64 r.2.2.1)], .row (.ints .i64 r.2.2.2)]) none := by
  have hu : S.l20Apart_F [.ptr 0 0, .int .i64 n_] [.cells [.ro true (.ints .u8 rb), .int .i64 rp]] κ = S.l20Apart_tree rb rp n_ (fun d => κ (.tup [(.own 1), (.int .i64 d.1)]) [.cells [(.ro true (.ints .u8 d.2.1)), (.int .i64 d.2.2.1)], .row (.ints .i64 d.2.2.2)]) none := by
    refine Eq.trans (show S.l20Apart_F [.ptr 0 0, .int .i64 n_] [.cells [.ro true (.ints .u8 rb), .int .i64 rp]] κ = (optC (S.l20Set_t rb rp n_) (fun c_1 => (optC (S.NetOk_t c_1.snd.snd.snd) (fun c_2 => (bif c_2 then (optC (S.l20Rd_pick_t c_1.snd.fst c_1.snd.snd.fst 3) (fun c_3 => (bif decide (c_3.fst > 0) then (optC (S.l20Order_t c_3.snd.fst c_3.snd.snd (↑c_1.snd.snd.snd.length : Int) 0) (fun c_4 => (S.l20Apart_L6 FUEL { n := 60, t := [(0, (.ptr 0 0)), (6, (.own 1)), (8, (.int .i64 0)), (9, (.own 2)), (10, (.int .i64 0))], h := [.cells [(.ro true (.ints .u8 c_4.fst)), (.int .i64 c_4.snd.fst)], .row (.ints .i64 c_1.snd.snd.snd), .row (.ints .i64 c_4.snd.snd)] } (S.l20Apart_k6 κ))) none) else (κ (.tup [(.own 1), (.int .i64 c_1.fst)]) [.cells [(.ro true (.ints .u8 c_3.snd.fst)), (.int .i64 c_3.snd.snd)], .row (.ints .i64 c_1.snd.snd.snd)]))) none) else (κ (.tup [(.own 1), (.int .i64 c_1.fst)]) [.cells [(.ro true (.ints .u8 c_1.snd.fst)), (.int .i64 c_1.snd.snd.fst)], .row (.ints .i64 c_1.snd.snd.snd)]))) none)) none) by kernel_rfl) ?_
    refine optC_congr (fun c_1 => ?_)
    refine optC_congr (fun c_2 => ?_)
    refine cnd_congr ?_ ?_
    · refine optC_congr (fun c_3 => ?_)
      refine cnd_congr ?_ ?_
      · refine optC_congr (fun c_4 => ?_)
        refine (S.l20Apart_L6_run FUEL (0, 0, c_4.fst, c_4.snd.fst, c_1.snd.snd.snd, c_4.snd.snd) (S.l20Apart_k6 κ)).trans (optC_congr (fun qy_6 => ?_))
        kernel_rfl
      · kernel_rfl
    · kernel_rfl
  rw [hu]
  exact (S.l20Apart_tree_nat (fun o => optC o (fun (r : Int × (List Int) × Int × (List Int)) => κ (.tup [(.own 1), (.int .i64 r.1)]) [.cells [(.ro true (.ints .u8 r.2.1)), (.int .i64 r.2.2.1)], .row (.ints .i64 r.2.2.2)]) none) rb rp n_ (fun d => some d) none).symm
noncomputable def S.l20Apart_s : D.Spec where
  keep := false
  pure := false
  ds := [.invalid, .invalid]
  sp := fun args h κ => match args, h with
    | [.ptr 0 0, .int .i64 n_], [.cells [.ro true (.ints .u8 rb), .int .i64 rp]] => optC (S.l20Apart_t rb rp n_) (fun (r : Int × (List Int) × Int × (List Int)) => κ (.tup [(.own 1), (.int .i64 r.1)]) [.cells [(.ro true (.ints .u8 r.2.1)), (.int .i64 r.2.2.1)], .row (.ints .i64 r.2.2.2)]) none
    | _, _ => none
theorem S.l20Apart_ok : SpecOk Try.prog 66 S.l20Apart_s := by
  refine SpecOk.of TDok mixed (T := S.l20Apart_T) ?_ (ann := S.l20Apart_ann) Try.func66 rfl (by decide +kernel) ?_ ?_ ?_
  · intro p hp
    simp only [S.l20Apart_T, List.mem_cons, List.not_mem_nil, or_false] at hp
    rcases hp with rfl | rfl | rfl | rfl
    · exact S.l20Set_ok
    · exact S.NetOk_ok
    · exact S.l20Rd_pick_ok
    · exact S.l20Order_ok
  · intro args h κ r hh
    simp only [S.l20Apart_s] at hh
    split at hh
    · exact (S.l20Apart_den _ _ _ κ).trans hh
    · cases hh
  · intro args h κ r hh
    simp only [S.l20Apart_s] at hh ⊢
    split at hh
    · exact optC_law2 (F := fun (r : Int × (List Int) × Int × (List Int)) κ => κ (.tup [(.own 1), (.int .i64 r.1)]) [.cells [(.ro true (.ints .u8 r.2.1)), (.int .i64 r.2.2.1)], .row (.ints .i64 r.2.2.2)]) (fun b κ r hb => ⟨_, _, hb, fun _ => rfl⟩) hh
    · cases hh
  · intro hh; cases hh

-- loop.example/guardsonnets/spec.DrawApartOk
noncomputable def S.DrawApartOk_T : List (Nat × D.Spec) := [(46, S.l20Open_s), (66, S.l20Apart_s)]
def S.DrawApartOk_ann : Nat → List Nat × List Nat
  | _ => ([], [])
noncomputable def S.DrawApartOk_F (args : List V) (h : List E) (κ : V → List E → R) : R := funC TD (tableK S.DrawApartOk_T) S.DrawApartOk_ann (drawOk (tableP S.DrawApartOk_T)) FUEL Try.f37 args h κ
noncomputable def S.DrawApartOk_tree {α : Type} (code : List Int) (leaf0_ : Int × (List Int) → α) (fail_ : α) : α :=
  (optC (S.l20Open_t code) (fun c_1 => (optC (S.l20Apart_t c_1.fst c_1.snd 12) (fun c_2 => (leaf0_ (c_2.fst, c_2.snd.snd.snd))) fail_)) fail_)
theorem S.DrawApartOk_tree_nat {α γ : Type} (g : α → γ) (code : List Int) (leaf0_ : Int × (List Int) → α) (fail_ : α) : g (S.DrawApartOk_tree code leaf0_ fail_) = S.DrawApartOk_tree code (fun d => g (leaf0_ d)) (g fail_) := by
  unfold S.DrawApartOk_tree; simp only [apply_cnd g, apply_optC g, apply_sumC g]
noncomputable def S.DrawApartOk_t (code : List Int) : Option (Int × (List Int)) := S.DrawApartOk_tree code (fun d => some d) none
theorem S.DrawApartOk_den (code : List Int) (κ : V → List E → R) : S.DrawApartOk_F [.ro true (.ints .u8 code)] [] κ = optC (S.DrawApartOk_t code) (fun (r : Int × (List Int)) => κ (.tup [(.own 0), (.int .i64 r.1)]) [.row (.ints .i64 r.2)]) none := by
  have hu : S.DrawApartOk_F [.ro true (.ints .u8 code)] [] κ = S.DrawApartOk_tree code (fun d => κ (.tup [(.own 0), (.int .i64 d.1)]) [.row (.ints .i64 d.2)]) none := by
    kernel_rfl
  rw [hu]
  exact (S.DrawApartOk_tree_nat (fun o => optC o (fun (r : Int × (List Int)) => κ (.tup [(.own 0), (.int .i64 r.1)]) [.row (.ints .i64 r.2)]) none) code (fun d => some d) none).symm
noncomputable def S.DrawApartOk_s : D.Spec where
  keep := true
  pure := false
  ds := [.int .u8]
  sp := fun args h κ => match args, h with
    | [.ro true (.ints .u8 code)], [] => optC (S.DrawApartOk_t code) (fun (r : Int × (List Int)) => κ (.tup [(.own 0), (.int .i64 r.1)]) [.row (.ints .i64 r.2)]) none
    | _, _ => none
theorem S.DrawApartOk_ok : SpecOk Try.prog 37 S.DrawApartOk_s := by
  refine SpecOk.of TDok mixed (T := S.DrawApartOk_T) ?_ (ann := S.DrawApartOk_ann) Try.func37 rfl (by decide +kernel) ?_ ?_ ?_
  · intro p hp
    simp only [S.DrawApartOk_T, List.mem_cons, List.not_mem_nil, or_false] at hp
    rcases hp with rfl | rfl
    · exact S.l20Open_ok
    · exact S.l20Apart_ok
  · intro args h κ r hh
    simp only [S.DrawApartOk_s] at hh
    split at hh
    · exact (S.DrawApartOk_den _ κ).trans hh
    · cases hh
  · intro args h κ r hh
    simp only [S.DrawApartOk_s] at hh ⊢
    split at hh
    · exact optC_law2 (F := fun (r : Int × (List Int)) κ => κ (.tup [(.own 0), (.int .i64 r.1)]) [.row (.ints .i64 r.2)]) (fun b κ r hb => ⟨_, _, hb, fun _ => rfl⟩) hh
    · cases hh
  · intro hh; cases hh

-- loop.example/guardsonnets/impl.nextTo
noncomputable def I.nextTo_T : List (Nat × D.Spec) := [(52, I.hasPlace_s)]
def I.nextTo_ann : Nat → List Nat × List Nat
  | 3 => ([0, 1, 5, 6], [5])
  | _ => ([], [])
noncomputable def I.nextTo_F (args : List V) (h : List E) (κ : V → List E → R) : R := funC TD (tableK I.nextTo_T) I.nextTo_ann (drawOk (tableP I.nextTo_T)) FUEL Try.f78 args h κ
noncomputable def I.nextTo_L3 (n : Nat) (σ : St) (k : X → St → R) : R := iterC 0 (fun σ k => denC TD (tableK I.nextTo_T) I.nextTo_ann (drawOk (tableP I.nextTo_T)) 0 FUEL ((findLoop 3 (Try.f78.body.getD .skip)).getD .skip) σ k) [0, 1, 5, 6] [5] n σ k
noncomputable def I.nextTo_k3 (κ : V → List E → R) : X → St → R := (afterC TD (tableK I.nextTo_T) I.nextTo_ann (drawOk (tableP I.nextTo_T)) 0 FUEL 3 (Try.f78.body.getD .skip) (finC 0 Try.f78 κ)).getD (fun _ _ => none)
noncomputable def I.nextTo_step3 {α : Type} (x0 : List Int) (x1 : Int) (x5 : Int) (x6 : Int) (next_ : Int × Int → α) (out0_ : Int → α) (fail_ : α) : α :=
  (bif decide (x6 < (↑x0.length : Int)) then (optC (I.hasPlace_t x1 x6) (fun c_1 => (bif c_1 then (bif decide (0 ≤ x6) && decide (x6 < (↑x0.length : Int)) then (next_ (bits BinOp.or IntKind.i64 x5 (eli x0 x6.toNat), IntKind.i64.wrap (x6 + 1))) else fail_) else (next_ (x5, IntKind.i64.wrap (x6 + 1))))) fail_) else (out0_ x5))
theorem I.nextTo_step3_nat {α γ : Type} (g : α → γ) (x0 : List Int) (x1 : Int) (x5 : Int) (x6 : Int) (next_ : Int × Int → α) (out0_ : Int → α) (fail_ : α) : g (I.nextTo_step3 x0 x1 x5 x6 next_ out0_ fail_) = I.nextTo_step3 x0 x1 x5 x6 (fun s => g (next_ s)) (fun d => g (out0_ d)) (g fail_) := by
  unfold I.nextTo_step3; simp only [apply_cnd g, apply_optC g, apply_sumC g]
noncomputable def I.nextTo_run3 (x0 : List Int) (x1 : Int) : Nat → Int × Int → Option (Int)
  | 0, _ => none
  | n + 1, s_ => I.nextTo_step3 x0 x1 s_.1 s_.2 (I.nextTo_run3 x0 x1 n) (fun d => some d) none
theorem I.nextTo_L3_run (x0 : List Int) (x1 : Int) (n : Nat) (s_ : Int × Int) (k : X → St → R) : I.nextTo_L3 n { n := 23, t := [(0, (.ro false (.ints .i64 x0))), (1, (.int .i64 x1)), (5, (.int .i64 s_.1)), (6, (.int .i64 s_.2))], h := [] } k = optC (I.nextTo_run3 x0 x1 n s_) (fun (r : Int) => k (.exit 0) { n := 23, t := [(5, (.int .i64 r))], h := [] }) none := by
  induction n generalizing s_ with
  | zero => rfl
  | succ n ih =>
    have hu : I.nextTo_L3 (n + 1) { n := 23, t := [(0, (.ro false (.ints .i64 x0))), (1, (.int .i64 x1)), (5, (.int .i64 s_.1)), (6, (.int .i64 s_.2))], h := [] } k = I.nextTo_step3 x0 x1 s_.1 s_.2 (fun s_ => I.nextTo_L3 n { n := 23, t := [(0, (.ro false (.ints .i64 x0))), (1, (.int .i64 x1)), (5, (.int .i64 s_.1)), (6, (.int .i64 s_.2))], h := [] } k) (fun d => k (.exit 0) { n := 23, t := [(5, (.int .i64 d))], h := [] }) none := by
      kernel_rfl
    have hs : (fun s_ : Int × Int => I.nextTo_L3 n { n := 23, t := [(0, (.ro false (.ints .i64 x0))), (1, (.int .i64 x1)), (5, (.int .i64 s_.1)), (6, (.int .i64 s_.2))], h := [] } k) = fun s_ => optC (I.nextTo_run3 x0 x1 n s_) (fun (r : Int) => k (.exit 0) { n := 23, t := [(5, (.int .i64 r))], h := [] }) none := funext ih
    rw [hu, hs]
    exact (I.nextTo_step3_nat (fun o => optC o (fun (r : Int) => k (.exit 0) { n := 23, t := [(5, (.int .i64 r))], h := [] }) none) x0 x1 s_.1 s_.2 (I.nextTo_run3 x0 x1 n) (fun d => some d) none).symm
noncomputable def I.nextTo_tree {α : Type} (net : List Int) (set_ : Int) (leaf0_ : Int → α) (fail_ : α) : α :=
  (optC (I.nextTo_run3 net set_ FUEL (0, 0)) (fun qy_2 => (leaf0_ qy_2)) fail_)
theorem I.nextTo_tree_nat {α γ : Type} (g : α → γ) (net : List Int) (set_ : Int) (leaf0_ : Int → α) (fail_ : α) : g (I.nextTo_tree net set_ leaf0_ fail_) = I.nextTo_tree net set_ (fun d => g (leaf0_ d)) (g fail_) := by
  unfold I.nextTo_tree; simp only [apply_cnd g, apply_optC g, apply_sumC g]
noncomputable def I.nextTo_t (net : List Int) (set_ : Int) : Option (Int) := I.nextTo_tree net set_ (fun d => some d) none
theorem I.nextTo_den (net : List Int) (set_ : Int) (κ : V → List E → R) : I.nextTo_F [.ro false (.ints .i64 net), .int .i64 set_] [] κ = optC (I.nextTo_t net set_) (fun (r : Int) => κ (.int .i64 r) []) none := by
  have hu : I.nextTo_F [.ro false (.ints .i64 net), .int .i64 set_] [] κ = I.nextTo_tree net set_ (fun d => κ (.int .i64 d) []) none := by
    refine Eq.trans (show I.nextTo_F [.ro false (.ints .i64 net), .int .i64 set_] [] κ = (I.nextTo_L3 FUEL { n := 23, t := [(0, (.ro false (.ints .i64 net))), (1, (.int .i64 set_)), (5, (.int .i64 0)), (6, (.int .i64 0))], h := [] } (I.nextTo_k3 κ)) by kernel_rfl) ?_
    refine (I.nextTo_L3_run net set_ FUEL (0, 0) (I.nextTo_k3 κ)).trans (optC_congr (fun qy_2 => ?_))
    kernel_rfl
  rw [hu]
  exact (I.nextTo_tree_nat (fun o => optC o (fun (r : Int) => κ (.int .i64 r) []) none) net set_ (fun d => some d) none).symm
noncomputable def I.nextTo_s : D.Spec where
  keep := false
  pure := true
  ds := [.int .i64, .invalid]
  sp := fun args h κ => match args, h with
    | [.ro false (.ints .i64 net), .int .i64 set_], [] => optC (I.nextTo_t net set_) (fun (r : Int) => κ (.int .i64 r) []) none
    | _, _ => none
theorem I.nextTo_ok : SpecOk Try.prog 78 I.nextTo_s := by
  refine SpecOk.of TDok mixed (T := I.nextTo_T) ?_ (ann := I.nextTo_ann) Try.func78 rfl (by decide +kernel) ?_ ?_ ?_
  · intro p hp
    simp only [I.nextTo_T, List.mem_cons, List.not_mem_nil, or_false] at hp
    rcases hp with rfl
    · exact I.hasPlace_ok
  · intro args h κ r hh
    simp only [I.nextTo_s] at hh
    split at hh
    · exact (I.nextTo_den _ _ κ).trans hh
    · cases hh
  · intro args h κ r hh
    simp only [I.nextTo_s] at hh ⊢
    split at hh
    · exact optC_law2 (F := fun (r : Int) κ => κ (.int .i64 r) []) (fun b κ r hb => ⟨_, _, hb, fun _ => rfl⟩) hh
    · cases hh
  · intro _ args h κ r hh
    simp only [I.nextTo_s] at hh
    split at hh
    · exact ⟨rfl, fun _ => rfl⟩
    · cases hh

-- loop.example/guardsonnets/impl.apartIn
noncomputable def I.apartIn_T : List (Nat × D.Spec) := [(78, I.nextTo_s)]
def I.apartIn_ann : Nat → List Nat × List Nat
  | _ => ([], [])
noncomputable def I.apartIn_F (args : List V) (h : List E) (κ : V → List E → R) : R := funC TD (tableK I.apartIn_T) I.apartIn_ann (drawOk (tableP I.apartIn_T)) FUEL Try.f67 args h κ
noncomputable def I.apartIn_tree {α : Type} (net : List Int) (set_ : Int) (leaf0_ : Bool → α) (fail_ : α) : α :=
  (optC (I.nextTo_t net set_) (fun c_1 => (leaf0_ (bits BinOp.and IntKind.i64 set_ c_1 == 0))) fail_)
theorem I.apartIn_tree_nat {α γ : Type} (g : α → γ) (net : List Int) (set_ : Int) (leaf0_ : Bool → α) (fail_ : α) : g (I.apartIn_tree net set_ leaf0_ fail_) = I.apartIn_tree net set_ (fun d => g (leaf0_ d)) (g fail_) := by
  unfold I.apartIn_tree; simp only [apply_cnd g, apply_optC g, apply_sumC g]
noncomputable def I.apartIn_t (net : List Int) (set_ : Int) : Option (Bool) := I.apartIn_tree net set_ (fun d => some d) none
theorem I.apartIn_den (net : List Int) (set_ : Int) (κ : V → List E → R) : I.apartIn_F [.ro false (.ints .i64 net), .int .i64 set_] [] κ = optC (I.apartIn_t net set_) (fun (r : Bool) => κ (.bool r) []) none := by
  have hu : I.apartIn_F [.ro false (.ints .i64 net), .int .i64 set_] [] κ = I.apartIn_tree net set_ (fun d => κ (.bool d) []) none := by
    kernel_rfl
  rw [hu]
  exact (I.apartIn_tree_nat (fun o => optC o (fun (r : Bool) => κ (.bool r) []) none) net set_ (fun d => some d) none).symm
noncomputable def I.apartIn_s : D.Spec where
  keep := false
  pure := true
  ds := [.int .i64, .invalid]
  sp := fun args h κ => match args, h with
    | [.ro false (.ints .i64 net), .int .i64 set_], [] => optC (I.apartIn_t net set_) (fun (r : Bool) => κ (.bool r) []) none
    | _, _ => none
theorem I.apartIn_ok : SpecOk Try.prog 67 I.apartIn_s := by
  refine SpecOk.of TDok mixed (T := I.apartIn_T) ?_ (ann := I.apartIn_ann) Try.func67 rfl (by decide +kernel) ?_ ?_ ?_
  · intro p hp
    simp only [I.apartIn_T, List.mem_cons, List.not_mem_nil, or_false] at hp
    rcases hp with rfl
    · exact I.nextTo_ok
  · intro args h κ r hh
    simp only [I.apartIn_s] at hh
    split at hh
    · exact (I.apartIn_den _ _ κ).trans hh
    · cases hh
  · intro args h κ r hh
    simp only [I.apartIn_s] at hh ⊢
    split at hh
    · exact optC_law2 (F := fun (r : Bool) κ => κ (.bool r) []) (fun b κ r hb => ⟨_, _, hb, fun _ => rfl⟩) hh
    · cases hh
  · intro _ args h κ r hh
    simp only [I.apartIn_s] at hh
    split at hh
    · exact ⟨rfl, fun _ => rfl⟩
    · cases hh

-- loop.example/guardsonnets/impl.ApartOk
noncomputable def I.ApartOk_T : List (Nat × D.Spec) := [(49, I.NetOk_s), (50, I.setIn_s), (67, I.apartIn_s)]
def I.ApartOk_ann : Nat → List Nat × List Nat
  | _ => ([], [])
noncomputable def I.ApartOk_F (args : List V) (h : List E) (κ : V → List E → R) : R := funC TD (tableK I.ApartOk_T) I.ApartOk_ann (drawOk (tableP I.ApartOk_T)) FUEL Try.f38 args h κ
noncomputable def I.ApartOk_tree {α : Type} (net : List Int) (set_ : Int) (leaf0_ : Bool → α) (fail_ : α) : α :=
  (optC (I.NetOk_t net) (fun c_1 => (bif c_1 then (optC (I.setIn_t net set_) (fun c_2 => (bif c_2 then (optC (I.apartIn_t net set_) (fun c_3 => (leaf0_ c_3)) fail_) else (leaf0_ false))) fail_) else (leaf0_ false))) fail_)
theorem I.ApartOk_tree_nat {α γ : Type} (g : α → γ) (net : List Int) (set_ : Int) (leaf0_ : Bool → α) (fail_ : α) : g (I.ApartOk_tree net set_ leaf0_ fail_) = I.ApartOk_tree net set_ (fun d => g (leaf0_ d)) (g fail_) := by
  unfold I.ApartOk_tree; simp only [apply_cnd g, apply_optC g, apply_sumC g]
noncomputable def I.ApartOk_t (net : List Int) (set_ : Int) : Option (Bool) := I.ApartOk_tree net set_ (fun d => some d) none
theorem I.ApartOk_den (net : List Int) (set_ : Int) (κ : V → List E → R) : I.ApartOk_F [.ro false (.ints .i64 net), .int .i64 set_] [] κ = optC (I.ApartOk_t net set_) (fun (r : Bool) => κ (.bool r) []) none := by
  have hu : I.ApartOk_F [.ro false (.ints .i64 net), .int .i64 set_] [] κ = I.ApartOk_tree net set_ (fun d => κ (.bool d) []) none := by
    kernel_rfl
  rw [hu]
  exact (I.ApartOk_tree_nat (fun o => optC o (fun (r : Bool) => κ (.bool r) []) none) net set_ (fun d => some d) none).symm
noncomputable def I.ApartOk_s : D.Spec where
  keep := false
  pure := true
  ds := [.int .i64, .invalid]
  sp := fun args h κ => match args, h with
    | [.ro false (.ints .i64 net), .int .i64 set_], [] => optC (I.ApartOk_t net set_) (fun (r : Bool) => κ (.bool r) []) none
    | _, _ => none
theorem I.ApartOk_ok : SpecOk Try.prog 38 I.ApartOk_s := by
  refine SpecOk.of TDok mixed (T := I.ApartOk_T) ?_ (ann := I.ApartOk_ann) Try.func38 rfl (by decide +kernel) ?_ ?_ ?_
  · intro p hp
    simp only [I.ApartOk_T, List.mem_cons, List.not_mem_nil, or_false] at hp
    rcases hp with rfl | rfl | rfl
    · exact I.NetOk_ok
    · exact I.setIn_ok
    · exact I.apartIn_ok
  · intro args h κ r hh
    simp only [I.ApartOk_s] at hh
    split at hh
    · exact (I.ApartOk_den _ _ κ).trans hh
    · cases hh
  · intro args h κ r hh
    simp only [I.ApartOk_s] at hh ⊢
    split at hh
    · exact optC_law2 (F := fun (r : Bool) κ => κ (.bool r) []) (fun b κ r hb => ⟨_, _, hb, fun _ => rfl⟩) hh
    · cases hh
  · intro _ args h κ r hh
    simp only [I.ApartOk_s] at hh
    split at hh
    · exact ⟨rfl, fun _ => rfl⟩
    · cases hh

-- loop.example/guardsonnets/spec.l4Apart
noncomputable def S.l4Apart_T : List (Nat × D.Spec) := [(73, S.l1Near_s)]
def S.l4Apart_ann : Nat → List Nat × List Nat
  | _ => ([], [])
noncomputable def S.l4Apart_F (args : List V) (h : List E) (κ : V → List E → R) : R := funC TD (tableK S.l4Apart_T) S.l4Apart_ann (drawOk (tableP S.l4Apart_T)) FUEL Try.f68 args h κ
noncomputable def S.l4Apart_tree {α : Type} (net : List Int) (set_ : Int) (leaf0_ : Bool → α) (fail_ : α) : α :=
  (optC (S.l1Near_t net set_) (fun c_1 => (leaf0_ (bits BinOp.and IntKind.i64 c_1 set_ == 0))) fail_)
theorem S.l4Apart_tree_nat {α γ : Type} (g : α → γ) (net : List Int) (set_ : Int) (leaf0_ : Bool → α) (fail_ : α) : g (S.l4Apart_tree net set_ leaf0_ fail_) = S.l4Apart_tree net set_ (fun d => g (leaf0_ d)) (g fail_) := by
  unfold S.l4Apart_tree; simp only [apply_cnd g, apply_optC g, apply_sumC g]
noncomputable def S.l4Apart_t (net : List Int) (set_ : Int) : Option (Bool) := S.l4Apart_tree net set_ (fun d => some d) none
theorem S.l4Apart_den (net : List Int) (set_ : Int) (κ : V → List E → R) : S.l4Apart_F [.ro false (.ints .i64 net), .int .i64 set_] [] κ = optC (S.l4Apart_t net set_) (fun (r : Bool) => κ (.bool r) []) none := by
  have hu : S.l4Apart_F [.ro false (.ints .i64 net), .int .i64 set_] [] κ = S.l4Apart_tree net set_ (fun d => κ (.bool d) []) none := by
    kernel_rfl
  rw [hu]
  exact (S.l4Apart_tree_nat (fun o => optC o (fun (r : Bool) => κ (.bool r) []) none) net set_ (fun d => some d) none).symm
noncomputable def S.l4Apart_s : D.Spec where
  keep := false
  pure := true
  ds := [.int .i64, .invalid]
  sp := fun args h κ => match args, h with
    | [.ro false (.ints .i64 net), .int .i64 set_], [] => optC (S.l4Apart_t net set_) (fun (r : Bool) => κ (.bool r) []) none
    | _, _ => none
theorem S.l4Apart_ok : SpecOk Try.prog 68 S.l4Apart_s := by
  refine SpecOk.of TDok mixed (T := S.l4Apart_T) ?_ (ann := S.l4Apart_ann) Try.func68 rfl (by decide +kernel) ?_ ?_ ?_
  · intro p hp
    simp only [S.l4Apart_T, List.mem_cons, List.not_mem_nil, or_false] at hp
    rcases hp with rfl
    · exact S.l1Near_ok
  · intro args h κ r hh
    simp only [S.l4Apart_s] at hh
    split at hh
    · exact (S.l4Apart_den _ _ κ).trans hh
    · cases hh
  · intro args h κ r hh
    simp only [S.l4Apart_s] at hh ⊢
    split at hh
    · exact optC_law2 (F := fun (r : Bool) κ => κ (.bool r) []) (fun b κ r hb => ⟨_, _, hb, fun _ => rfl⟩) hh
    · cases hh
  · intro _ args h κ r hh
    simp only [S.l4Apart_s] at hh
    split at hh
    · exact ⟨rfl, fun _ => rfl⟩
    · cases hh

-- loop.example/guardsonnets/spec.ApartOk
noncomputable def S.ApartOk_T : List (Nat × D.Spec) := [(55, S.l1SetOk_s), (68, S.l4Apart_s)]
def S.ApartOk_ann : Nat → List Nat × List Nat
  | _ => ([], [])
noncomputable def S.ApartOk_F (args : List V) (h : List E) (κ : V → List E → R) : R := funC TD (tableK S.ApartOk_T) S.ApartOk_ann (drawOk (tableP S.ApartOk_T)) FUEL Try.f39 args h κ
noncomputable def S.ApartOk_tree {α : Type} (net : List Int) (set_ : Int) (leaf0_ : Bool → α) (fail_ : α) : α :=
  (optC (S.l1SetOk_t net set_) (fun c_1 => (bif c_1 then (optC (S.l4Apart_t net set_) (fun c_2 => (leaf0_ c_2)) fail_) else (leaf0_ false))) fail_)
theorem S.ApartOk_tree_nat {α γ : Type} (g : α → γ) (net : List Int) (set_ : Int) (leaf0_ : Bool → α) (fail_ : α) : g (S.ApartOk_tree net set_ leaf0_ fail_) = S.ApartOk_tree net set_ (fun d => g (leaf0_ d)) (g fail_) := by
  unfold S.ApartOk_tree; simp only [apply_cnd g, apply_optC g, apply_sumC g]
noncomputable def S.ApartOk_t (net : List Int) (set_ : Int) : Option (Bool) := S.ApartOk_tree net set_ (fun d => some d) none
theorem S.ApartOk_den (net : List Int) (set_ : Int) (κ : V → List E → R) : S.ApartOk_F [.ro false (.ints .i64 net), .int .i64 set_] [] κ = optC (S.ApartOk_t net set_) (fun (r : Bool) => κ (.bool r) []) none := by
  have hu : S.ApartOk_F [.ro false (.ints .i64 net), .int .i64 set_] [] κ = S.ApartOk_tree net set_ (fun d => κ (.bool d) []) none := by
    kernel_rfl
  rw [hu]
  exact (S.ApartOk_tree_nat (fun o => optC o (fun (r : Bool) => κ (.bool r) []) none) net set_ (fun d => some d) none).symm
noncomputable def S.ApartOk_s : D.Spec where
  keep := false
  pure := true
  ds := [.int .i64, .invalid]
  sp := fun args h κ => match args, h with
    | [.ro false (.ints .i64 net), .int .i64 set_], [] => optC (S.ApartOk_t net set_) (fun (r : Bool) => κ (.bool r) []) none
    | _, _ => none
theorem S.ApartOk_ok : SpecOk Try.prog 39 S.ApartOk_s := by
  refine SpecOk.of TDok mixed (T := S.ApartOk_T) ?_ (ann := S.ApartOk_ann) Try.func39 rfl (by decide +kernel) ?_ ?_ ?_
  · intro p hp
    simp only [S.ApartOk_T, List.mem_cons, List.not_mem_nil, or_false] at hp
    rcases hp with rfl | rfl
    · exact S.l1SetOk_ok
    · exact S.l4Apart_ok
  · intro args h κ r hh
    simp only [S.ApartOk_s] at hh
    split at hh
    · exact (S.ApartOk_den _ _ κ).trans hh
    · cases hh
  · intro args h κ r hh
    simp only [S.ApartOk_s] at hh ⊢
    split at hh
    · exact optC_law2 (F := fun (r : Bool) κ => κ (.bool r) []) (fun b κ r hb => ⟨_, _, hb, fun _ => rfl⟩) hh
    · cases hh
  · intro _ args h κ r hh
    simp only [S.ApartOk_s] at hh
    split at hh
    · exact ⟨rfl, fun _ => rfl⟩
    · cases hh

-- loop.example/guardsonnets/laws.FnApartOk
noncomputable def L.FnApartOk_T : List (Nat × D.Spec) := [(37, S.DrawApartOk_s), (38, I.ApartOk_s), (39, S.ApartOk_s), (20, L.alive_s), (18, I.PrivateOf_s), (26, I.NeedsAllOk_s)]
def L.FnApartOk_ann : Nat → List Nat × List Nat
  | 10 => ([3, 4, 6], [2, 3, 4])
  | _ => ([], [])
noncomputable def L.FnApartOk_F (args : List V) (h : List E) (κ : V → List E → R) : R := funC TD (tableK L.FnApartOk_T) L.FnApartOk_ann (drawOk (tableP L.FnApartOk_T)) FUEL Try.f11 args h κ
noncomputable def L.FnApartOk_L10 (n : Nat) (σ : St) (k : X → St → R) : R := iterC 0 (fun σ k => denC TD (tableK L.FnApartOk_T) L.FnApartOk_ann (drawOk (tableP L.FnApartOk_T)) 0 FUEL ((findLoop 10 (Try.f11.body.getD .skip)).getD .skip) σ k) [3, 4, 6] [2, 3, 4] n σ k
noncomputable def L.FnApartOk_k10 (κ : V → List E → R) : X → St → R := (afterC TD (tableK L.FnApartOk_T) L.FnApartOk_ann (drawOk (tableP L.FnApartOk_T)) 0 FUEL 10 (Try.f11.body.getD .skip) (finC 0 Try.f11 κ)).getD (fun _ _ => none)
noncomputable def L.FnApartOk_step10 {α : Type} (x4 : Int) (x6 : Int) (r0 : List Int) (next_ : Int × (List Int) → α) (out0_ : Bool × (List Int) → α) (out1_ : List Int → α) (fail_ : α) : α :=
  (bif decide (x6 < (↑r0.length : Int)) then (bif decide (x6 < 0) then fail_ else (bif (x4.fdiv (2 ^ min x6.toNat IntKind.i64.bits)).tmod 2 == 1 then (bif decide (x6 < 0) then fail_ else (optC (I.ApartOk_t r0 (IntKind.i64.wrap (x4 - IntKind.i64.wrap (1 * 2 ^ min x6.toNat IntKind.i64.bits)))) (fun c_5 => (bif !c_5 then (out0_ (false, r0)) else (optC (I.PrivateOf_t r0 x4 x6) (fun c_6 => (bif decide (x6 < 0) then fail_ else (bif (c_6.fdiv (2 ^ min x6.toNat IntKind.i64.bits)).tmod 2 == 0 then (out0_ (false, r0)) else (next_ (IntKind.i64.wrap (x6 + 1), r0))))) fail_))) fail_)) else (next_ (IntKind.i64.wrap (x6 + 1), r0)))) else (out1_ r0))
theorem L.FnApartOk_step10_nat {α γ : Type} (g : α → γ) (x4 : Int) (x6 : Int) (r0 : List Int) (next_ : Int × (List Int) → α) (out0_ : Bool × (List Int) → α) (out1_ : List Int → α) (fail_ : α) : g (L.FnApartOk_step10 x4 x6 r0 next_ out0_ out1_ fail_) = L.FnApartOk_step10 x4 x6 r0 (fun s => g (next_ s)) (fun d => g (out0_ d)) (fun d => g (out1_ d)) (g fail_) := by
  unfold L.FnApartOk_step10; simp only [apply_cnd g, apply_optC g, apply_sumC g]
noncomputable def L.FnApartOk_run10 (x4 : Int) : Nat → Int × (List Int) → Option ((Bool × (List Int)) ⊕ (List Int))
  | 0, _ => none
  | n + 1, s_ => L.FnApartOk_step10 x4 s_.1 s_.2 (L.FnApartOk_run10 x4 n) (fun d => some ((Sum.inl d))) (fun d => some ((Sum.inr d))) none
theorem L.FnApartOk_L10_run (x4 : Int) (n : Nat) (s_ : Int × (List Int)) (k : X → St → R) : L.FnApartOk_L10 n { n := 63, t := [(3, (.own 0)), (4, (.int .i64 x4)), (6, (.int .i64 s_.1))], h := [.row (.ints .i64 s_.2)] } k = optC (L.FnApartOk_run10 x4 n s_) (fun (r : (Bool × (List Int)) ⊕ (List Int)) => (sumC r (fun (r : Bool × (List Int)) => k (.ret) { n := 63, t := [(2, (.bool r.1)), (3, (.own 0)), (4, (.int .i64 x4))], h := [.row (.ints .i64 r.2)] }) (fun (r : List Int) => k (.exit 0) { n := 63, t := [(2, .junk), (3, (.own 0)), (4, (.int .i64 x4))], h := [.row (.ints .i64 r)] }))) none := by
  induction n generalizing s_ with
  | zero => rfl
  | succ n ih =>
    have hu : L.FnApartOk_L10 (n + 1) { n := 63, t := [(3, (.own 0)), (4, (.int .i64 x4)), (6, (.int .i64 s_.1))], h := [.row (.ints .i64 s_.2)] } k = L.FnApartOk_step10 x4 s_.1 s_.2 (fun s_ => L.FnApartOk_L10 n { n := 63, t := [(3, (.own 0)), (4, (.int .i64 x4)), (6, (.int .i64 s_.1))], h := [.row (.ints .i64 s_.2)] } k) (fun d => k (.ret) { n := 63, t := [(2, (.bool d.1)), (3, (.own 0)), (4, (.int .i64 x4))], h := [.row (.ints .i64 d.2)] }) (fun d => k (.exit 0) { n := 63, t := [(2, .junk), (3, (.own 0)), (4, (.int .i64 x4))], h := [.row (.ints .i64 d)] }) none := by
      kernel_rfl
    have hs : (fun s_ : Int × (List Int) => L.FnApartOk_L10 n { n := 63, t := [(3, (.own 0)), (4, (.int .i64 x4)), (6, (.int .i64 s_.1))], h := [.row (.ints .i64 s_.2)] } k) = fun s_ => optC (L.FnApartOk_run10 x4 n s_) (fun (r : (Bool × (List Int)) ⊕ (List Int)) => (sumC r (fun (r : Bool × (List Int)) => k (.ret) { n := 63, t := [(2, (.bool r.1)), (3, (.own 0)), (4, (.int .i64 x4))], h := [.row (.ints .i64 r.2)] }) (fun (r : List Int) => k (.exit 0) { n := 63, t := [(2, .junk), (3, (.own 0)), (4, (.int .i64 x4))], h := [.row (.ints .i64 r)] }))) none := funext ih
    rw [hu, hs]
    exact (L.FnApartOk_step10_nat (fun o => optC o (fun (r : (Bool × (List Int)) ⊕ (List Int)) => (sumC r (fun (r : Bool × (List Int)) => k (.ret) { n := 63, t := [(2, (.bool r.1)), (3, (.own 0)), (4, (.int .i64 x4))], h := [.row (.ints .i64 r.2)] }) (fun (r : List Int) => k (.exit 0) { n := 63, t := [(2, .junk), (3, (.own 0)), (4, (.int .i64 x4))], h := [.row (.ints .i64 r)] }))) none) x4 s_.1 s_.2 (L.FnApartOk_run10 x4 n) (fun d => some ((Sum.inl d))) (fun d => some ((Sum.inr d))) none).symm
noncomputable def L.FnApartOk_tree {α : Type} (code : List Int) (leaf0_ : Bool → α) (fail_ : α) : α :=
  (bif decide ((↑code.length : Int) > 1048576) then (leaf0_ true) else (optC (S.DrawApartOk_t code) (fun c_1 => (optC (I.ApartOk_t c_1.snd c_1.fst) (fun c_2 => (optC (S.ApartOk_t c_1.snd c_1.fst) (fun c_3 => (bif !c_2 == c_3 then (leaf0_ false) else (bif !c_2 then (optC (L.alive_t) (fun c_4 => (leaf0_ c_4)) fail_) else (optC (L.FnApartOk_run10 c_1.fst FUEL (0, c_1.snd)) (fun qy_7 => (sumC qy_7 (fun (qy_7 : Bool × (List Int)) => (leaf0_ qy_7.1)) (fun (qy_7 : List Int) => (optC (I.NeedsAllOk_t qy_7 c_1.fst) (fun c_8 => (bif c_8 then (optC (I.ApartOk_t qy_7 0) (fun c_9 => (leaf0_ c_9)) fail_) else (leaf0_ false))) fail_)))) fail_)))) fail_)) fail_)) fail_))
theorem L.FnApartOk_tree_nat {α γ : Type} (g : α → γ) (code : List Int) (leaf0_ : Bool → α) (fail_ : α) : g (L.FnApartOk_tree code leaf0_ fail_) = L.FnApartOk_tree code (fun d => g (leaf0_ d)) (g fail_) := by
  unfold L.FnApartOk_tree; simp only [apply_cnd g, apply_optC g, apply_sumC g]
noncomputable def L.FnApartOk_t (code : List Int) : Option (Bool) := L.FnApartOk_tree code (fun d => some d) none
theorem L.FnApartOk_den (code : List Int) (κ : V → List E → R) : L.FnApartOk_F [.ro true (.ints .u8 code)] [] κ = optC (L.FnApartOk_t code) (fun (r : Bool) => κ (.bool r) []) none := by
  have hu : L.FnApartOk_F [.ro true (.ints .u8 code)] [] κ = L.FnApartOk_tree code (fun d => κ (.bool d) []) none := by
    refine Eq.trans (show L.FnApartOk_F [.ro true (.ints .u8 code)] [] κ = (bif decide ((↑code.length : Int) > 1048576) then (κ (.bool true) []) else (optC (S.DrawApartOk_t code) (fun c_1 => (optC (I.ApartOk_t c_1.snd c_1.fst) (fun c_2 => (optC (S.ApartOk_t c_1.snd c_1.fst) (fun c_3 => (bif !c_2 == c_3 then (κ (.bool false) []) else (bif !c_2 then (optC (L.alive_t) (fun c_4 => (κ (.bool c_4) [])) none) else (L.FnApartOk_L10 FUEL { n := 63, t := [(3, (.own 0)), (4, (.int .i64 c_1.fst)), (6, (.int .i64 0))], h := [.row (.ints .i64 c_1.snd)] } (L.FnApartOk_k10 κ))))) none)) none)) none)) by kernel_rfl) ?_
    refine cnd_congr ?_ ?_
    · kernel_rfl
    · refine optC_congr (fun c_1 => ?_)
      refine optC_congr (fun c_2 => ?_)
      refine optC_congr (fun c_3 => ?_)
      refine cnd_congr ?_ ?_
      · kernel_rfl
      · refine cnd_congr ?_ ?_
        · kernel_rfl
        · refine (L.FnApartOk_L10_run c_1.fst FUEL (0, c_1.snd) (L.FnApartOk_k10 κ)).trans (optC_congr (fun qy_7 => ?_))
          rcases qy_7 with qy_7 | qy_7
          · kernel_rfl
          · kernel_rfl
  rw [hu]
  exact (L.FnApartOk_tree_nat (fun o => optC o (fun (r : Bool) => κ (.bool r) []) none) code (fun d => some d) none).symm
noncomputable def L.FnApartOk_s : D.Spec where
  keep := true
  pure := true
  ds := [.int .u8]
  sp := fun args h κ => match args, h with
    | [.ro true (.ints .u8 code)], [] => optC (L.FnApartOk_t code) (fun (r : Bool) => κ (.bool r) []) none
    | _, _ => none
theorem L.FnApartOk_ok : SpecOk Try.prog 11 L.FnApartOk_s := by
  refine SpecOk.of TDok mixed (T := L.FnApartOk_T) ?_ (ann := L.FnApartOk_ann) Try.func11 rfl (by decide +kernel) ?_ ?_ ?_
  · intro p hp
    simp only [L.FnApartOk_T, List.mem_cons, List.not_mem_nil, or_false] at hp
    rcases hp with rfl | rfl | rfl | rfl | rfl | rfl
    · exact S.DrawApartOk_ok
    · exact I.ApartOk_ok
    · exact S.ApartOk_ok
    · exact L.alive_ok
    · exact I.PrivateOf_ok
    · exact I.NeedsAllOk_ok
  · intro args h κ r hh
    simp only [L.FnApartOk_s] at hh
    split at hh
    · exact (L.FnApartOk_den _ κ).trans hh
    · cases hh
  · intro args h κ r hh
    simp only [L.FnApartOk_s] at hh ⊢
    split at hh
    · exact optC_law2 (F := fun (r : Bool) κ => κ (.bool r) []) (fun b κ r hb => ⟨_, _, hb, fun _ => rfl⟩) hh
    · cases hh
  · intro _ args h κ r hh
    simp only [L.FnApartOk_s] at hh
    split at hh
    · exact ⟨rfl, fun _ => rfl⟩
    · cases hh

-- loop.example/guardsonnets/laws.FnExactApartOk
noncomputable def L.FnExactApartOk_T : List (Nat × D.Spec) := [(23, L.toIntS_s), (39, S.ApartOk_s), (38, I.ApartOk_s), (24, L.eqIntS_s)]
def L.FnExactApartOk_ann : Nat → List Nat × List Nat
  | _ => ([], [])
noncomputable def L.FnExactApartOk_F (args : List V) (h : List E) (κ : V → List E → R) : R := funC TD (tableK L.FnExactApartOk_T) L.FnExactApartOk_ann (drawOk (tableP L.FnExactApartOk_T)) FUEL Try.f12 args h κ
noncomputable def L.FnExactApartOk_tree {α : Type} (aNet : List Int) (aSet : Int) (leaf0_ : Bool → α) (fail_ : α) : α :=
  (bif decide ((↑aNet.length : Int) > 1048576) then (leaf0_ true) else (optC (L.toIntS_t aNet) (fun c_1 => (optC (S.ApartOk_t c_1 aSet) (fun c_2 => (optC (L.toIntS_t aNet) (fun c_3 => (optC (I.ApartOk_t c_3 aSet) (fun c_4 => (bif !c_4 == c_2 then (leaf0_ false) else (optC (L.toIntS_t aNet) (fun c_5 => (optC (L.eqIntS_t c_3 c_5) (fun c_6 => (bif !c_6 then (leaf0_ false) else (leaf0_ true))) fail_)) fail_))) fail_)) fail_)) fail_)) fail_))
theorem L.FnExactApartOk_tree_nat {α γ : Type} (g : α → γ) (aNet : List Int) (aSet : Int) (leaf0_ : Bool → α) (fail_ : α) : g (L.FnExactApartOk_tree aNet aSet leaf0_ fail_) = L.FnExactApartOk_tree aNet aSet (fun d => g (leaf0_ d)) (g fail_) := by
  unfold L.FnExactApartOk_tree; simp only [apply_cnd g, apply_optC g, apply_sumC g]
noncomputable def L.FnExactApartOk_t (aNet : List Int) (aSet : Int) : Option (Bool) := L.FnExactApartOk_tree aNet aSet (fun d => some d) none
theorem L.FnExactApartOk_den (aNet : List Int) (aSet : Int) (κ : V → List E → R) : L.FnExactApartOk_F [.ro true (.ints .i64 aNet), .int .i64 aSet] [] κ = optC (L.FnExactApartOk_t aNet aSet) (fun (r : Bool) => κ (.bool r) []) none := by
  have hu : L.FnExactApartOk_F [.ro true (.ints .i64 aNet), .int .i64 aSet] [] κ = L.FnExactApartOk_tree aNet aSet (fun d => κ (.bool d) []) none := by
    kernel_rfl
  rw [hu]
  exact (L.FnExactApartOk_tree_nat (fun o => optC o (fun (r : Bool) => κ (.bool r) []) none) aNet aSet (fun d => some d) none).symm
noncomputable def L.FnExactApartOk_s : D.Spec where
  keep := true
  pure := true
  ds := [.int .i64, .invalid]
  sp := fun args h κ => match args, h with
    | [.ro true (.ints .i64 aNet), .int .i64 aSet], [] => optC (L.FnExactApartOk_t aNet aSet) (fun (r : Bool) => κ (.bool r) []) none
    | _, _ => none
theorem L.FnExactApartOk_ok : SpecOk Try.prog 12 L.FnExactApartOk_s := by
  refine SpecOk.of TDok mixed (T := L.FnExactApartOk_T) ?_ (ann := L.FnExactApartOk_ann) Try.func12 rfl (by decide +kernel) ?_ ?_ ?_
  · intro p hp
    simp only [L.FnExactApartOk_T, List.mem_cons, List.not_mem_nil, or_false] at hp
    rcases hp with rfl | rfl | rfl | rfl
    · exact L.toIntS_ok
    · exact S.ApartOk_ok
    · exact I.ApartOk_ok
    · exact L.eqIntS_ok
  · intro args h κ r hh
    simp only [L.FnExactApartOk_s] at hh
    split at hh
    · exact (L.FnExactApartOk_den _ _ κ).trans hh
    · cases hh
  · intro args h κ r hh
    simp only [L.FnExactApartOk_s] at hh ⊢
    split at hh
    · exact optC_law2 (F := fun (r : Bool) κ => κ (.bool r) []) (fun b κ r hb => ⟨_, _, hb, fun _ => rfl⟩) hh
    · cases hh
  · intro _ args h κ r hh
    simp only [L.FnExactApartOk_s] at hh
    split at hh
    · exact ⟨rfl, fun _ => rfl⟩
    · cases hh

-- loop.example/guardsonnets/spec.GrownApart
noncomputable def S.GrownApart_T : List (Nat × D.Spec) := [(39, S.ApartOk_s)]
def S.GrownApart_ann : Nat → List Nat × List Nat
  | 4 => ([0, 1, 5], [1])
  | _ => ([], [])
noncomputable def S.GrownApart_F (args : List V) (h : List E) (κ : V → List E → R) : R := funC TD (tableK S.GrownApart_T) S.GrownApart_ann (drawOk (tableP S.GrownApart_T)) FUEL Try.f45 args h κ
noncomputable def S.GrownApart_L4 (n : Nat) (σ : St) (k : X → St → R) : R := iterC 0 (fun σ k => denC TD (tableK S.GrownApart_T) S.GrownApart_ann (drawOk (tableP S.GrownApart_T)) 0 FUEL ((findLoop 4 (Try.f45.body.getD .skip)).getD .skip) σ k) [0, 1, 5] [1] n σ k
noncomputable def S.GrownApart_k4 (κ : V → List E → R) : X → St → R := (afterC TD (tableK S.GrownApart_T) S.GrownApart_ann (drawOk (tableP S.GrownApart_T)) 0 FUEL 4 (Try.f45.body.getD .skip) (finC 0 Try.f45 κ)).getD (fun _ _ => none)
noncomputable def S.GrownApart_step4 {α : Type} (x0 : List Int) (x1 : Int) (x5 : Int) (next_ : Int × Int → α) (out0_ : Int → α) (fail_ : α) : α :=
  (bif decide (x5 < (↑x0.length : Int)) then (bif decide (x5 < 0) then fail_ else (bif (x1.fdiv (2 ^ min x5.toNat IntKind.i64.bits)).tmod 2 == 0 then (bif decide (0 ≤ x5) && decide (x5 < (↑x0.length : Int)) then (bif bits BinOp.and IntKind.i64 (eli x0 x5.toNat) x1 == 0 then (bif decide (x5 < 0) then fail_ else (next_ (bits BinOp.or IntKind.i64 x1 (IntKind.i64.wrap (1 * 2 ^ min x5.toNat IntKind.i64.bits)), IntKind.i64.wrap (x5 + 1)))) else (next_ (x1, IntKind.i64.wrap (x5 + 1)))) else fail_) else (next_ (x1, IntKind.i64.wrap (x5 + 1))))) else (out0_ x1))
theorem S.GrownApart_step4_nat {α γ : Type} (g : α → γ) (x0 : List Int) (x1 : Int) (x5 : Int) (next_ : Int × Int → α) (out0_ : Int → α) (fail_ : α) : g (S.GrownApart_step4 x0 x1 x5 next_ out0_ fail_) = S.GrownApart_step4 x0 x1 x5 (fun s => g (next_ s)) (fun d => g (out0_ d)) (g fail_) := by
  unfold S.GrownApart_step4; simp only [apply_cnd g, apply_optC g, apply_sumC g]
noncomputable def S.GrownApart_run4 (x0 : List Int) : Nat → Int × Int → Option (Int)
  | 0, _ => none
  | n + 1, s_ => S.GrownApart_step4 x0 s_.1 s_.2 (S.GrownApart_run4 x0 n) (fun d => some d) none
theorem S.GrownApart_L4_run (x0 : List Int) (n : Nat) (s_ : Int × Int) (k : X → St → R) : S.GrownApart_L4 n { n := 35, t := [(0, (.ro false (.ints .i64 x0))), (1, (.int .i64 s_.1)), (5, (.int .i64 s_.2))], h := [] } k = optC (S.GrownApart_run4 x0 n s_) (fun (r : Int) => k (.exit 0) { n := 35, t := [(1, (.int .i64 r))], h := [] }) none := by
  induction n generalizing s_ with
  | zero => rfl
  | succ n ih =>
    have hu : S.GrownApart_L4 (n + 1) { n := 35, t := [(0, (.ro false (.ints .i64 x0))), (1, (.int .i64 s_.1)), (5, (.int .i64 s_.2))], h := [] } k = S.GrownApart_step4 x0 s_.1 s_.2 (fun s_ => S.GrownApart_L4 n { n := 35, t := [(0, (.ro false (.ints .i64 x0))), (1, (.int .i64 s_.1)), (5, (.int .i64 s_.2))], h := [] } k) (fun d => k (.exit 0) { n := 35, t := [(1, (.int .i64 d))], h := [] }) none := by
      kernel_rfl
    have hs : (fun s_ : Int × Int => S.GrownApart_L4 n { n := 35, t := [(0, (.ro false (.ints .i64 x0))), (1, (.int .i64 s_.1)), (5, (.int .i64 s_.2))], h := [] } k) = fun s_ => optC (S.GrownApart_run4 x0 n s_) (fun (r : Int) => k (.exit 0) { n := 35, t := [(1, (.int .i64 r))], h := [] }) none := funext ih
    rw [hu, hs]
    exact (S.GrownApart_step4_nat (fun o => optC o (fun (r : Int) => k (.exit 0) { n := 35, t := [(1, (.int .i64 r))], h := [] }) none) x0 s_.1 s_.2 (S.GrownApart_run4 x0 n) (fun d => some d) none).symm
noncomputable def S.GrownApart_tree {α : Type} (net : List Int) (set_ : Int) (leaf0_ : Int → α) (fail_ : α) : α :=
  (optC (S.ApartOk_t net set_) (fun c_1 => (bif !c_1 then (leaf0_ (-1)) else (optC (S.GrownApart_run4 net FUEL (set_, 0)) (fun qy_2 => (leaf0_ qy_2)) fail_))) fail_)
theorem S.GrownApart_tree_nat {α γ : Type} (g : α → γ) (net : List Int) (set_ : Int) (leaf0_ : Int → α) (fail_ : α) : g (S.GrownApart_tree net set_ leaf0_ fail_) = S.GrownApart_tree net set_ (fun d => g (leaf0_ d)) (g fail_) := by
  unfold S.GrownApart_tree; simp only [apply_cnd g, apply_optC g, apply_sumC g]
noncomputable def S.GrownApart_t (net : List Int) (set_ : Int) : Option (Int) := S.GrownApart_tree net set_ (fun d => some d) none
theorem S.GrownApart_den (net : List Int) (set_ : Int) (κ : V → List E → R) : S.GrownApart_F [.ro false (.ints .i64 net), .int .i64 set_] [] κ = optC (S.GrownApart_t net set_) (fun (r : Int) => κ (.int .i64 r) []) none := by
  have hu : S.GrownApart_F [.ro false (.ints .i64 net), .int .i64 set_] [] κ = S.GrownApart_tree net set_ (fun d => κ (.int .i64 d) []) none := by
    refine Eq.trans (show S.GrownApart_F [.ro false (.ints .i64 net), .int .i64 set_] [] κ = (optC (S.ApartOk_t net set_) (fun c_1 => (bif !c_1 then (κ (.int .i64 (-1)) []) else (S.GrownApart_L4 FUEL { n := 35, t := [(0, (.ro false (.ints .i64 net))), (1, (.int .i64 set_)), (5, (.int .i64 0))], h := [] } (S.GrownApart_k4 κ)))) none) by kernel_rfl) ?_
    refine optC_congr (fun c_1 => ?_)
    refine cnd_congr ?_ ?_
    · kernel_rfl
    · refine (S.GrownApart_L4_run net FUEL (set_, 0) (S.GrownApart_k4 κ)).trans (optC_congr (fun qy_2 => ?_))
      kernel_rfl
  rw [hu]
  exact (S.GrownApart_tree_nat (fun o => optC o (fun (r : Int) => κ (.int .i64 r) []) none) net set_ (fun d => some d) none).symm
noncomputable def S.GrownApart_s : D.Spec where
  keep := false
  pure := true
  ds := [.int .i64, .invalid]
  sp := fun args h κ => match args, h with
    | [.ro false (.ints .i64 net), .int .i64 set_], [] => optC (S.GrownApart_t net set_) (fun (r : Int) => κ (.int .i64 r) []) none
    | _, _ => none
theorem S.GrownApart_ok : SpecOk Try.prog 45 S.GrownApart_s := by
  refine SpecOk.of TDok mixed (T := S.GrownApart_T) ?_ (ann := S.GrownApart_ann) Try.func45 rfl (by decide +kernel) ?_ ?_ ?_
  · intro p hp
    simp only [S.GrownApart_T, List.mem_cons, List.not_mem_nil, or_false] at hp
    rcases hp with rfl
    · exact S.ApartOk_ok
  · intro args h κ r hh
    simp only [S.GrownApart_s] at hh
    split at hh
    · exact (S.GrownApart_den _ _ κ).trans hh
    · cases hh
  · intro args h κ r hh
    simp only [S.GrownApart_s] at hh ⊢
    split at hh
    · exact optC_law2 (F := fun (r : Int) κ => κ (.int .i64 r) []) (fun b κ r hb => ⟨_, _, hb, fun _ => rfl⟩) hh
    · cases hh
  · intro _ args h κ r hh
    simp only [S.GrownApart_s] at hh
    split at hh
    · exact ⟨rfl, fun _ => rfl⟩
    · cases hh

-- loop.example/guardsonnets/spec.DrawFullApartOk
noncomputable def S.DrawFullApartOk_T : List (Nat × D.Spec) := [(46, S.l20Open_s), (66, S.l20Apart_s), (48, S.l20Rd_pick_s), (39, S.ApartOk_s), (45, S.GrownApart_s)]
def S.DrawFullApartOk_ann : Nat → List Nat × List Nat
  | _ => ([], [])
noncomputable def S.DrawFullApartOk_F (args : List V) (h : List E) (κ : V → List E → R) : R := funC TD (tableK S.DrawFullApartOk_T) S.DrawFullApartOk_ann (drawOk (tableP S.DrawFullApartOk_T)) FUEL Try.f40 args h κ
noncomputable def S.DrawFullApartOk_tree {α : Type} (code : List Int) (leaf0_ : Int × (List Int) → α) (fail_ : α) : α :=
  (optC (S.l20Open_t code) (fun c_1 => (optC (S.l20Apart_t c_1.fst c_1.snd 12) (fun c_2 => (optC (S.l20Rd_pick_t c_2.snd.fst c_2.snd.snd.fst 2) (fun c_3 => (bif c_3.fst == 0 then (optC (S.ApartOk_t c_2.snd.snd.snd c_2.fst) (fun c_4 => (bif c_4 then (optC (S.GrownApart_t c_2.snd.snd.snd c_2.fst) (fun c_5 => (leaf0_ (c_5, c_2.snd.snd.snd))) fail_) else (leaf0_ (c_2.fst, c_2.snd.snd.snd)))) fail_) else (leaf0_ (c_2.fst, c_2.snd.snd.snd)))) fail_)) fail_)) fail_)
theorem S.DrawFullApartOk_tree_nat {α γ : Type} (g : α → γ) (code : List Int) (leaf0_ : Int × (List Int) → α) (fail_ : α) : g (S.DrawFullApartOk_tree code leaf0_ fail_) = S.DrawFullApartOk_tree code (fun d => g (leaf0_ d)) (g fail_) := by
  unfold S.DrawFullApartOk_tree; simp only [apply_cnd g, apply_optC g, apply_sumC g]
noncomputable def S.DrawFullApartOk_t (code : List Int) : Option (Int × (List Int)) := S.DrawFullApartOk_tree code (fun d => some d) none
theorem S.DrawFullApartOk_den (code : List Int) (κ : V → List E → R) : S.DrawFullApartOk_F [.ro true (.ints .u8 code)] [] κ = optC (S.DrawFullApartOk_t code) (fun (r : Int × (List Int)) => κ (.tup [(.own 0), (.int .i64 r.1)]) [.row (.ints .i64 r.2)]) none := by
  have hu : S.DrawFullApartOk_F [.ro true (.ints .u8 code)] [] κ = S.DrawFullApartOk_tree code (fun d => κ (.tup [(.own 0), (.int .i64 d.1)]) [.row (.ints .i64 d.2)]) none := by
    kernel_rfl
  rw [hu]
  exact (S.DrawFullApartOk_tree_nat (fun o => optC o (fun (r : Int × (List Int)) => κ (.tup [(.own 0), (.int .i64 r.1)]) [.row (.ints .i64 r.2)]) none) code (fun d => some d) none).symm
noncomputable def S.DrawFullApartOk_s : D.Spec where
  keep := true
  pure := false
  ds := [.int .u8]
  sp := fun args h κ => match args, h with
    | [.ro true (.ints .u8 code)], [] => optC (S.DrawFullApartOk_t code) (fun (r : Int × (List Int)) => κ (.tup [(.own 0), (.int .i64 r.1)]) [.row (.ints .i64 r.2)]) none
    | _, _ => none
theorem S.DrawFullApartOk_ok : SpecOk Try.prog 40 S.DrawFullApartOk_s := by
  refine SpecOk.of TDok mixed (T := S.DrawFullApartOk_T) ?_ (ann := S.DrawFullApartOk_ann) Try.func40 rfl (by decide +kernel) ?_ ?_ ?_
  · intro p hp
    simp only [S.DrawFullApartOk_T, List.mem_cons, List.not_mem_nil, or_false] at hp
    rcases hp with rfl | rfl | rfl | rfl | rfl
    · exact S.l20Open_ok
    · exact S.l20Apart_ok
    · exact S.l20Rd_pick_ok
    · exact S.ApartOk_ok
    · exact S.GrownApart_ok
  · intro args h κ r hh
    simp only [S.DrawFullApartOk_s] at hh
    split at hh
    · exact (S.DrawFullApartOk_den _ κ).trans hh
    · cases hh
  · intro args h κ r hh
    simp only [S.DrawFullApartOk_s] at hh ⊢
    split at hh
    · exact optC_law2 (F := fun (r : Int × (List Int)) κ => κ (.tup [(.own 0), (.int .i64 r.1)]) [.row (.ints .i64 r.2)]) (fun b κ r hb => ⟨_, _, hb, fun _ => rfl⟩) hh
    · cases hh
  · intro hh; cases hh

-- loop.example/guardsonnets/impl.fullApartIn
noncomputable def I.fullApartIn_T : List (Nat × D.Spec) := [(67, I.apartIn_s), (78, I.nextTo_s), (75, I.allOf_s)]
def I.fullApartIn_ann : Nat → List Nat × List Nat
  | _ => ([], [])
noncomputable def I.fullApartIn_F (args : List V) (h : List E) (κ : V → List E → R) : R := funC TD (tableK I.fullApartIn_T) I.fullApartIn_ann (drawOk (tableP I.fullApartIn_T)) FUEL Try.f69 args h κ
noncomputable def I.fullApartIn_tree {α : Type} (net : List Int) (set_ : Int) (leaf0_ : Bool → α) (fail_ : α) : α :=
  (optC (I.apartIn_t net set_) (fun c_1 => (bif c_1 then (optC (I.nextTo_t net set_) (fun c_2 => (optC (I.allOf_t net) (fun c_3 => (leaf0_ (bits BinOp.or IntKind.i64 set_ c_2 == c_3))) fail_)) fail_) else (leaf0_ false))) fail_)
theorem I.fullApartIn_tree_nat {α γ : Type} (g : α → γ) (net : List Int) (set_ : Int) (leaf0_ : Bool → α) (fail_ : α) : g (I.fullApartIn_tree net set_ leaf0_ fail_) = I.fullApartIn_tree net set_ (fun d => g (leaf0_ d)) (g fail_) := by
  unfold I.fullApartIn_tree; simp only [apply_cnd g, apply_optC g, apply_sumC g]
noncomputable def I.fullApartIn_t (net : List Int) (set_ : Int) : Option (Bool) := I.fullApartIn_tree net set_ (fun d => some d) none
theorem I.fullApartIn_den (net : List Int) (set_ : Int) (κ : V → List E → R) : I.fullApartIn_F [.ro false (.ints .i64 net), .int .i64 set_] [] κ = optC (I.fullApartIn_t net set_) (fun (r : Bool) => κ (.bool r) []) none := by
  have hu : I.fullApartIn_F [.ro false (.ints .i64 net), .int .i64 set_] [] κ = I.fullApartIn_tree net set_ (fun d => κ (.bool d) []) none := by
    kernel_rfl
  rw [hu]
  exact (I.fullApartIn_tree_nat (fun o => optC o (fun (r : Bool) => κ (.bool r) []) none) net set_ (fun d => some d) none).symm
noncomputable def I.fullApartIn_s : D.Spec where
  keep := false
  pure := true
  ds := [.int .i64, .invalid]
  sp := fun args h κ => match args, h with
    | [.ro false (.ints .i64 net), .int .i64 set_], [] => optC (I.fullApartIn_t net set_) (fun (r : Bool) => κ (.bool r) []) none
    | _, _ => none
theorem I.fullApartIn_ok : SpecOk Try.prog 69 I.fullApartIn_s := by
  refine SpecOk.of TDok mixed (T := I.fullApartIn_T) ?_ (ann := I.fullApartIn_ann) Try.func69 rfl (by decide +kernel) ?_ ?_ ?_
  · intro p hp
    simp only [I.fullApartIn_T, List.mem_cons, List.not_mem_nil, or_false] at hp
    rcases hp with rfl | rfl | rfl
    · exact I.apartIn_ok
    · exact I.nextTo_ok
    · exact I.allOf_ok
  · intro args h κ r hh
    simp only [I.fullApartIn_s] at hh
    split at hh
    · exact (I.fullApartIn_den _ _ κ).trans hh
    · cases hh
  · intro args h κ r hh
    simp only [I.fullApartIn_s] at hh ⊢
    split at hh
    · exact optC_law2 (F := fun (r : Bool) κ => κ (.bool r) []) (fun b κ r hb => ⟨_, _, hb, fun _ => rfl⟩) hh
    · cases hh
  · intro _ args h κ r hh
    simp only [I.fullApartIn_s] at hh
    split at hh
    · exact ⟨rfl, fun _ => rfl⟩
    · cases hh

-- loop.example/guardsonnets/impl.FullApartOk
noncomputable def I.FullApartOk_T : List (Nat × D.Spec) := [(49, I.NetOk_s), (50, I.setIn_s), (69, I.fullApartIn_s)]
def I.FullApartOk_ann : Nat → List Nat × List Nat
  | _ => ([], [])
noncomputable def I.FullApartOk_F (args : List V) (h : List E) (κ : V → List E → R) : R := funC TD (tableK I.FullApartOk_T) I.FullApartOk_ann (drawOk (tableP I.FullApartOk_T)) FUEL Try.f41 args h κ
noncomputable def I.FullApartOk_tree {α : Type} (net : List Int) (set_ : Int) (leaf0_ : Bool → α) (fail_ : α) : α :=
  (optC (I.NetOk_t net) (fun c_1 => (bif c_1 then (optC (I.setIn_t net set_) (fun c_2 => (bif c_2 then (optC (I.fullApartIn_t net set_) (fun c_3 => (leaf0_ c_3)) fail_) else (leaf0_ false))) fail_) else (leaf0_ false))) fail_)
theorem I.FullApartOk_tree_nat {α γ : Type} (g : α → γ) (net : List Int) (set_ : Int) (leaf0_ : Bool → α) (fail_ : α) : g (I.FullApartOk_tree net set_ leaf0_ fail_) = I.FullApartOk_tree net set_ (fun d => g (leaf0_ d)) (g fail_) := by
  unfold I.FullApartOk_tree; simp only [apply_cnd g, apply_optC g, apply_sumC g]
noncomputable def I.FullApartOk_t (net : List Int) (set_ : Int) : Option (Bool) := I.FullApartOk_tree net set_ (fun d => some d) none
theorem I.FullApartOk_den (net : List Int) (set_ : Int) (κ : V → List E → R) : I.FullApartOk_F [.ro false (.ints .i64 net), .int .i64 set_] [] κ = optC (I.FullApartOk_t net set_) (fun (r : Bool) => κ (.bool r) []) none := by
  have hu : I.FullApartOk_F [.ro false (.ints .i64 net), .int .i64 set_] [] κ = I.FullApartOk_tree net set_ (fun d => κ (.bool d) []) none := by
    kernel_rfl
  rw [hu]
  exact (I.FullApartOk_tree_nat (fun o => optC o (fun (r : Bool) => κ (.bool r) []) none) net set_ (fun d => some d) none).symm
noncomputable def I.FullApartOk_s : D.Spec where
  keep := false
  pure := true
  ds := [.int .i64, .invalid]
  sp := fun args h κ => match args, h with
    | [.ro false (.ints .i64 net), .int .i64 set_], [] => optC (I.FullApartOk_t net set_) (fun (r : Bool) => κ (.bool r) []) none
    | _, _ => none
theorem I.FullApartOk_ok : SpecOk Try.prog 41 I.FullApartOk_s := by
  refine SpecOk.of TDok mixed (T := I.FullApartOk_T) ?_ (ann := I.FullApartOk_ann) Try.func41 rfl (by decide +kernel) ?_ ?_ ?_
  · intro p hp
    simp only [I.FullApartOk_T, List.mem_cons, List.not_mem_nil, or_false] at hp
    rcases hp with rfl | rfl | rfl
    · exact I.NetOk_ok
    · exact I.setIn_ok
    · exact I.fullApartIn_ok
  · intro args h κ r hh
    simp only [I.FullApartOk_s] at hh
    split at hh
    · exact (I.FullApartOk_den _ _ κ).trans hh
    · cases hh
  · intro args h κ r hh
    simp only [I.FullApartOk_s] at hh ⊢
    split at hh
    · exact optC_law2 (F := fun (r : Bool) κ => κ (.bool r) []) (fun b κ r hb => ⟨_, _, hb, fun _ => rfl⟩) hh
    · cases hh
  · intro _ args h κ r hh
    simp only [I.FullApartOk_s] at hh
    split at hh
    · exact ⟨rfl, fun _ => rfl⟩
    · cases hh

-- loop.example/guardsonnets/spec.FullApartOk
noncomputable def S.FullApartOk_T : List (Nat × D.Spec) := [(39, S.ApartOk_s), (68, S.l4Apart_s)]
def S.FullApartOk_ann : Nat → List Nat × List Nat
  | 4 => ([0, 1, 5], [4])
  | _ => ([], [])
noncomputable def S.FullApartOk_F (args : List V) (h : List E) (κ : V → List E → R) : R := funC TD (tableK S.FullApartOk_T) S.FullApartOk_ann (drawOk (tableP S.FullApartOk_T)) FUEL Try.f42 args h κ
noncomputable def S.FullApartOk_L4 (n : Nat) (σ : St) (k : X → St → R) : R := iterC 0 (fun σ k => denC TD (tableK S.FullApartOk_T) S.FullApartOk_ann (drawOk (tableP S.FullApartOk_T)) 0 FUEL ((findLoop 4 (Try.f42.body.getD .skip)).getD .skip) σ k) [0, 1, 5] [4] n σ k
noncomputable def S.FullApartOk_k4 (κ : V → List E → R) : X → St → R := (afterC TD (tableK S.FullApartOk_T) S.FullApartOk_ann (drawOk (tableP S.FullApartOk_T)) 0 FUEL 4 (Try.f42.body.getD .skip) (finC 0 Try.f42 κ)).getD (fun _ _ => none)
noncomputable def S.FullApartOk_step4 {α : Type} (x0 : List Int) (x1 : Int) (x5 : Int) (next_ : Int → α) (out0_ : Bool → α) (out1_ : Unit → α) (fail_ : α) : α :=
  (bif decide (x5 < (↑x0.length : Int)) then (bif decide (x5 < 0) then fail_ else (bif (x1.fdiv (2 ^ min x5.toNat IntKind.i64.bits)).tmod 2 == 0 then (bif decide (x5 < 0) then fail_ else (optC (S.l4Apart_t x0 (bits BinOp.or IntKind.i64 x1 (IntKind.i64.wrap (1 * 2 ^ min x5.toNat IntKind.i64.bits)))) (fun c_2 => (bif c_2 then (out0_ false) else (next_ (IntKind.i64.wrap (x5 + 1))))) fail_)) else (next_ (IntKind.i64.wrap (x5 + 1))))) else (out1_ ()))
theorem S.FullApartOk_step4_nat {α γ : Type} (g : α → γ) (x0 : List Int) (x1 : Int) (x5 : Int) (next_ : Int → α) (out0_ : Bool → α) (out1_ : Unit → α) (fail_ : α) : g (S.FullApartOk_step4 x0 x1 x5 next_ out0_ out1_ fail_) = S.FullApartOk_step4 x0 x1 x5 (fun s => g (next_ s)) (fun d => g (out0_ d)) (fun d => g (out1_ d)) (g fail_) := by
  unfold S.FullApartOk_step4; simp only [apply_cnd g, apply_optC g, apply_sumC g]
noncomputable def S.FullApartOk_run4 (x0 : List Int) (x1 : Int) : Nat → Int → Option ((Bool) ⊕ (Unit))
  | 0, _ => none
  | n + 1, s_ => S.FullApartOk_step4 x0 x1 s_ (S.FullApartOk_run4 x0 x1 n) (fun d => some ((Sum.inl d))) (fun d => some ((Sum.inr d))) none
theorem S.FullApartOk_L4_run (x0 : List Int) (x1 : Int) (n : Nat) (s_ : Int) (k : X → St → R) : S.FullApartOk_L4 n { n := 29, t := [(0, (.ro false (.ints .i64 x0))), (1, (.int .i64 x1)), (5, (.int .i64 s_))], h := [] } k = optC (S.FullApartOk_run4 x0 x1 n s_) (fun (r : (Bool) ⊕ (Unit)) => (sumC r (fun (r : Bool) => k (.ret) { n := 29, t := [(4, (.bool r))], h := [] }) (fun (r : Unit) => k (.exit 0) { n := 29, t := [(4, .junk)], h := [] }))) none := by
  induction n generalizing s_ with
  | zero => rfl
  | succ n ih =>
    have hu : S.FullApartOk_L4 (n + 1) { n := 29, t := [(0, (.ro false (.ints .i64 x0))), (1, (.int .i64 x1)), (5, (.int .i64 s_))], h := [] } k = S.FullApartOk_step4 x0 x1 s_ (fun s_ => S.FullApartOk_L4 n { n := 29, t := [(0, (.ro false (.ints .i64 x0))), (1, (.int .i64 x1)), (5, (.int .i64 s_))], h := [] } k) (fun d => k (.ret) { n := 29, t := [(4, (.bool d))], h := [] }) (fun d => k (.exit 0) { n := 29, t := [(4, .junk)], h := [] }) none := by
      kernel_rfl
    have hs : (fun s_ : Int => S.FullApartOk_L4 n { n := 29, t := [(0, (.ro false (.ints .i64 x0))), (1, (.int .i64 x1)), (5, (.int .i64 s_))], h := [] } k) = fun s_ => optC (S.FullApartOk_run4 x0 x1 n s_) (fun (r : (Bool) ⊕ (Unit)) => (sumC r (fun (r : Bool) => k (.ret) { n := 29, t := [(4, (.bool r))], h := [] }) (fun (r : Unit) => k (.exit 0) { n := 29, t := [(4, .junk)], h := [] }))) none := funext ih
    rw [hu, hs]
    exact (S.FullApartOk_step4_nat (fun o => optC o (fun (r : (Bool) ⊕ (Unit)) => (sumC r (fun (r : Bool) => k (.ret) { n := 29, t := [(4, (.bool r))], h := [] }) (fun (r : Unit) => k (.exit 0) { n := 29, t := [(4, .junk)], h := [] }))) none) x0 x1 s_ (S.FullApartOk_run4 x0 x1 n) (fun d => some ((Sum.inl d))) (fun d => some ((Sum.inr d))) none).symm
noncomputable def S.FullApartOk_tree {α : Type} (net : List Int) (set_ : Int) (leaf0_ : Bool → α) (fail_ : α) : α :=
  (optC (S.ApartOk_t net set_) (fun c_1 => (bif !c_1 then (leaf0_ false) else (optC (S.FullApartOk_run4 net set_ FUEL 0) (fun qy_3 => (sumC qy_3 (fun (qy_3 : Bool) => (leaf0_ qy_3)) (fun (qy_3 : Unit) => (leaf0_ true)))) fail_))) fail_)
theorem S.FullApartOk_tree_nat {α γ : Type} (g : α → γ) (net : List Int) (set_ : Int) (leaf0_ : Bool → α) (fail_ : α) : g (S.FullApartOk_tree net set_ leaf0_ fail_) = S.FullApartOk_tree net set_ (fun d => g (leaf0_ d)) (g fail_) := by
  unfold S.FullApartOk_tree; simp only [apply_cnd g, apply_optC g, apply_sumC g]
noncomputable def S.FullApartOk_t (net : List Int) (set_ : Int) : Option (Bool) := S.FullApartOk_tree net set_ (fun d => some d) none
theorem S.FullApartOk_den (net : List Int) (set_ : Int) (κ : V → List E → R) : S.FullApartOk_F [.ro false (.ints .i64 net), .int .i64 set_] [] κ = optC (S.FullApartOk_t net set_) (fun (r : Bool) => κ (.bool r) []) none := by
  have hu : S.FullApartOk_F [.ro false (.ints .i64 net), .int .i64 set_] [] κ = S.FullApartOk_tree net set_ (fun d => κ (.bool d) []) none := by
    refine Eq.trans (show S.FullApartOk_F [.ro false (.ints .i64 net), .int .i64 set_] [] κ = (optC (S.ApartOk_t net set_) (fun c_1 => (bif !c_1 then (κ (.bool false) []) else (S.FullApartOk_L4 FUEL { n := 29, t := [(0, (.ro false (.ints .i64 net))), (1, (.int .i64 set_)), (5, (.int .i64 0))], h := [] } (S.FullApartOk_k4 κ)))) none) by kernel_rfl) ?_
    refine optC_congr (fun c_1 => ?_)
    refine cnd_congr ?_ ?_
    · kernel_rfl
    · refine (S.FullApartOk_L4_run net set_ FUEL 0 (S.FullApartOk_k4 κ)).trans (optC_congr (fun qy_3 => ?_))
      rcases qy_3 with qy_3 | qy_3
      · kernel_rfl
      · kernel_rfl
  rw [hu]
  exact (S.FullApartOk_tree_nat (fun o => optC o (fun (r : Bool) => κ (.bool r) []) none) net set_ (fun d => some d) none).symm
noncomputable def S.FullApartOk_s : D.Spec where
  keep := false
  pure := true
  ds := [.int .i64, .invalid]
  sp := fun args h κ => match args, h with
    | [.ro false (.ints .i64 net), .int .i64 set_], [] => optC (S.FullApartOk_t net set_) (fun (r : Bool) => κ (.bool r) []) none
    | _, _ => none
theorem S.FullApartOk_ok : SpecOk Try.prog 42 S.FullApartOk_s := by
  refine SpecOk.of TDok mixed (T := S.FullApartOk_T) ?_ (ann := S.FullApartOk_ann) Try.func42 rfl (by decide +kernel) ?_ ?_ ?_
  · intro p hp
    simp only [S.FullApartOk_T, List.mem_cons, List.not_mem_nil, or_false] at hp
    rcases hp with rfl | rfl
    · exact S.ApartOk_ok
    · exact S.l4Apart_ok
  · intro args h κ r hh
    simp only [S.FullApartOk_s] at hh
    split at hh
    · exact (S.FullApartOk_den _ _ κ).trans hh
    · cases hh
  · intro args h κ r hh
    simp only [S.FullApartOk_s] at hh ⊢
    split at hh
    · exact optC_law2 (F := fun (r : Bool) κ => κ (.bool r) []) (fun b κ r hb => ⟨_, _, hb, fun _ => rfl⟩) hh
    · cases hh
  · intro _ args h κ r hh
    simp only [S.FullApartOk_s] at hh
    split at hh
    · exact ⟨rfl, fun _ => rfl⟩
    · cases hh

-- loop.example/guardsonnets/laws.FnFullApartOk
noncomputable def L.FnFullApartOk_T : List (Nat × D.Spec) := [(40, S.DrawFullApartOk_s), (41, I.FullApartOk_s), (42, S.FullApartOk_s), (38, I.ApartOk_s), (33, I.WatchOk_s), (32, I.LeastWatchOk_s), (20, L.alive_s)]
def L.FnFullApartOk_ann : Nat → List Nat × List Nat
  | _ => ([], [])
noncomputable def L.FnFullApartOk_F (args : List V) (h : List E) (κ : V → List E → R) : R := funC TD (tableK L.FnFullApartOk_T) L.FnFullApartOk_ann (drawOk (tableP L.FnFullApartOk_T)) FUEL Try.f13 args h κ
noncomputable def L.FnFullApartOk_tree {α : Type} (code : List Int) (leaf0_ : Bool → α) (fail_ : α) : α :=
  (bif decide ((↑code.length : Int) > 1048576) then (leaf0_ true) else (optC (S.DrawFullApartOk_t code) (fun c_1 => (optC (I.FullApartOk_t c_1.snd c_1.fst) (fun c_2 => (optC (S.FullApartOk_t c_1.snd c_1.fst) (fun c_3 => (bif !c_2 == c_3 then (leaf0_ false) else (optC (I.ApartOk_t c_1.snd c_1.fst) (fun c_4 => (bif c_4 then (optC (I.WatchOk_t c_1.snd c_1.fst) (fun c_5 => (bif c_2 == c_5 then (bif !c_2 then (optC (L.alive_t) (fun c_6 => (leaf0_ c_6)) fail_) else (optC (I.LeastWatchOk_t c_1.snd c_1.fst) (fun c_7 => (bif c_7 then (optC (L.alive_t) (fun c_8 => (leaf0_ c_8)) fail_) else (leaf0_ false))) fail_)) else (leaf0_ false))) fail_) else (bif c_2 == false then (bif !c_2 then (optC (L.alive_t) (fun c_9 => (leaf0_ c_9)) fail_) else (optC (I.LeastWatchOk_t c_1.snd c_1.fst) (fun c_10 => (bif c_10 then (optC (L.alive_t) (fun c_11 => (leaf0_ c_11)) fail_) else (leaf0_ false))) fail_)) else (leaf0_ false)))) fail_))) fail_)) fail_)) fail_))
theorem L.FnFullApartOk_tree_nat {α γ : Type} (g : α → γ) (code : List Int) (leaf0_ : Bool → α) (fail_ : α) : g (L.FnFullApartOk_tree code leaf0_ fail_) = L.FnFullApartOk_tree code (fun d => g (leaf0_ d)) (g fail_) := by
  unfold L.FnFullApartOk_tree; simp only [apply_cnd g, apply_optC g, apply_sumC g]
noncomputable def L.FnFullApartOk_t (code : List Int) : Option (Bool) := L.FnFullApartOk_tree code (fun d => some d) none
theorem L.FnFullApartOk_den (code : List Int) (κ : V → List E → R) : L.FnFullApartOk_F [.ro true (.ints .u8 code)] [] κ = optC (L.FnFullApartOk_t code) (fun (r : Bool) => κ (.bool r) []) none := by
  have hu : L.FnFullApartOk_F [.ro true (.ints .u8 code)] [] κ = L.FnFullApartOk_tree code (fun d => κ (.bool d) []) none := by
    kernel_rfl
  rw [hu]
  exact (L.FnFullApartOk_tree_nat (fun o => optC o (fun (r : Bool) => κ (.bool r) []) none) code (fun d => some d) none).symm
noncomputable def L.FnFullApartOk_s : D.Spec where
  keep := true
  pure := true
  ds := [.int .u8]
  sp := fun args h κ => match args, h with
    | [.ro true (.ints .u8 code)], [] => optC (L.FnFullApartOk_t code) (fun (r : Bool) => κ (.bool r) []) none
    | _, _ => none
theorem L.FnFullApartOk_ok : SpecOk Try.prog 13 L.FnFullApartOk_s := by
  refine SpecOk.of TDok mixed (T := L.FnFullApartOk_T) ?_ (ann := L.FnFullApartOk_ann) Try.func13 rfl (by decide +kernel) ?_ ?_ ?_
  · intro p hp
    simp only [L.FnFullApartOk_T, List.mem_cons, List.not_mem_nil, or_false] at hp
    rcases hp with rfl | rfl | rfl | rfl | rfl | rfl | rfl
    · exact S.DrawFullApartOk_ok
    · exact I.FullApartOk_ok
    · exact S.FullApartOk_ok
    · exact I.ApartOk_ok
    · exact I.WatchOk_ok
    · exact I.LeastWatchOk_ok
    · exact L.alive_ok
  · intro args h κ r hh
    simp only [L.FnFullApartOk_s] at hh
    split at hh
    · exact (L.FnFullApartOk_den _ κ).trans hh
    · cases hh
  · intro args h κ r hh
    simp only [L.FnFullApartOk_s] at hh ⊢
    split at hh
    · exact optC_law2 (F := fun (r : Bool) κ => κ (.bool r) []) (fun b κ r hb => ⟨_, _, hb, fun _ => rfl⟩) hh
    · cases hh
  · intro _ args h κ r hh
    simp only [L.FnFullApartOk_s] at hh
    split at hh
    · exact ⟨rfl, fun _ => rfl⟩
    · cases hh


end Go.Proofs.Ytojgnfejoeaehaa
