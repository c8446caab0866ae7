/- Twins of the translated functions, with their proofs. Conditions: none. -/
import Derived.Test.YtbfgmhhmnnjajaaBzT1
set_option linter.unusedVariables false
set_option linter.unusedSimpArgs false
namespace Go.Proofs.Ytbfgmhhmnnjajaa
open D Go.RowKit
-- loop.example/guardsonnets/impl.answeredBy
noncomputable def I.answeredBy_T : List (Nat × D.Spec) := []
def I.answeredBy_ann : Nat → List Nat × List Nat
  | 3 => ([0, 2, 7, 8], [7])
  | _ => ([], [])
noncomputable def I.answeredBy_F (args : List V) (h : List E) (κ : V → List E → R) : R := funC TD (tableK I.answeredBy_T) I.answeredBy_ann (drawOk (tableP I.answeredBy_T)) FUEL Try.f80 args h κ
noncomputable def I.answeredBy_L3 (n : Nat) (σ : St) (k : X → St → R) : R := iterC 0 (fun σ k => denC TD (tableK I.answeredBy_T) I.answeredBy_ann (drawOk (tableP I.answeredBy_T)) 0 FUEL ((findLoop 3 (Try.f80.body.getD .skip)).getD .skip) σ k) [0, 2, 7, 8] [7] n σ k
noncomputable def I.answeredBy_k3 (κ : V → List E → R) : X → St → R := (afterC TD (tableK I.answeredBy_T) I.answeredBy_ann (drawOk (tableP I.answeredBy_T)) 0 FUEL 3 (Try.f80.body.getD .skip) (finC TD 0 Try.f80 κ)).getD (fun _ _ => none)
noncomputable def I.answeredBy_step3 {α : Type} (x0 : List Bool) (x2 : List Int) (x7 : Int) (x8 : Int) (next_ : Int × Int → α) (out0_ : Int → α) (fail_ : α) : α :=
  (bif decide (x8 < (↑x2.length : Int)) then (bif decide (0 ≤ x8) && decide (x8 < (↑x2.length : Int)) then (bif decide (0 ≤ eli x2 x8.toNat) && decide (eli x2 x8.toNat < (↑x0.length : Int)) then (bif elb x0 (eli x2 x8.toNat).toNat then (bif decide (0 ≤ x8) && decide (x8 < (↑x2.length : Int)) then (next_ (bits BinOp.or IntKind.i64 x7 (eli x2 x8.toNat), IntKind.i64.wrap (x8 + 1))) else fail_) else (next_ (x7, IntKind.i64.wrap (x8 + 1)))) else fail_) else fail_) else (out0_ x7))
theorem I.answeredBy_step3_nat {α γ : Type} (g : α → γ) (x0 : List Bool) (x2 : List Int) (x7 : Int) (x8 : Int) (next_ : Int × Int → α) (out0_ : Int → α) (fail_ : α) : g (I.answeredBy_step3 x0 x2 x7 x8 next_ out0_ fail_) = I.answeredBy_step3 x0 x2 x7 x8 (fun s => g (next_ s)) (fun d => g (out0_ d)) (g fail_) := by
  unfold I.answeredBy_step3; simp only [apply_cnd g, apply_optC g, apply_sumC g]
noncomputable def I.answeredBy_run3 (x0 : List Bool) (x2 : List Int) : Nat → Int × Int → Option (Int)
  | 0, _ => none
  | n + 1, s_ => I.answeredBy_step3 x0 x2 s_.1 s_.2 (I.answeredBy_run3 x0 x2 n) (fun d => some d) none
theorem I.answeredBy_L3_run (x0 : List Bool) (x2 : List Int) (n : Nat) (s_ : Int × Int) (k : X → St → R) : I.answeredBy_L3 n { n := 30, t := [(0, (.ro false (.bools x0))), (2, (.ro false (.ints .i64 x2))), (7, (.int .i64 s_.1)), (8, (.int .i64 s_.2))], h := [] } k = optC (I.answeredBy_run3 x0 x2 n s_) (fun (r : Int) => k (.exit 0) { n := 30, t := [(7, (.int .i64 r))], h := [] }) none := by
  induction n generalizing s_ with
  | zero => rfl
  | succ n ih =>
    have hu : I.answeredBy_L3 (n + 1) { n := 30, t := [(0, (.ro false (.bools x0))), (2, (.ro false (.ints .i64 x2))), (7, (.int .i64 s_.1)), (8, (.int .i64 s_.2))], h := [] } k = I.answeredBy_step3 x0 x2 s_.1 s_.2 (fun s_ => I.answeredBy_L3 n { n := 30, t := [(0, (.ro false (.bools x0))), (2, (.ro false (.ints .i64 x2))), (7, (.int .i64 s_.1)), (8, (.int .i64 s_.2))], h := [] } k) (fun d => k (.exit 0) { n := 30, t := [(7, (.int .i64 d))], h := [] }) none := by
      kernel_rfl
    have hs : (fun s_ : Int × Int => I.answeredBy_L3 n { n := 30, t := [(0, (.ro false (.bools x0))), (2, (.ro false (.ints .i64 x2))), (7, (.int .i64 s_.1)), (8, (.int .i64 s_.2))], h := [] } k) = fun s_ => optC (I.answeredBy_run3 x0 x2 n s_) (fun (r : Int) => k (.exit 0) { n := 30, t := [(7, (.int .i64 r))], h := [] }) none := funext ih
    rw [hu, hs]
    exact (I.answeredBy_step3_nat (fun o => optC o (fun (r : Int) => k (.exit 0) { n := 30, t := [(7, (.int .i64 r))], h := [] }) none) x0 x2 s_.1 s_.2 (I.answeredBy_run3 x0 x2 n) (fun d => some d) none).symm
noncomputable def I.answeredBy_tree {α : Type} (lasting : List Bool) (set_ : Int) (leads : List Int) (leaf0_ : Int → α) (fail_ : α) : α :=
  (optC (I.answeredBy_run3 lasting leads FUEL (set_, 0)) (fun qy_1 => (leaf0_ qy_1)) fail_)
theorem I.answeredBy_tree_nat {α γ : Type} (g : α → γ) (lasting : List Bool) (set_ : Int) (leads : List Int) (leaf0_ : Int → α) (fail_ : α) : g (I.answeredBy_tree lasting set_ leads leaf0_ fail_) = I.answeredBy_tree lasting set_ leads (fun d => g (leaf0_ d)) (g fail_) := by
  unfold I.answeredBy_tree; simp only [apply_cnd g, apply_optC g, apply_sumC g]
noncomputable def I.answeredBy_t (lasting : List Bool) (set_ : Int) (leads : List Int) : Option (Int) := I.answeredBy_tree lasting set_ leads (fun d => some d) none
theorem I.answeredBy_den (lasting : List Bool) (set_ : Int) (leads : List Int) (κ : V → List E → R) : I.answeredBy_F [.ro false (.bools lasting), .int .i64 set_, .ro false (.ints .i64 leads)] [] κ = optC (I.answeredBy_t lasting set_ leads) (fun (r : Int) => κ (.int .i64 r) []) none := by
  have hu : I.answeredBy_F [.ro false (.bools lasting), .int .i64 set_, .ro false (.ints .i64 leads)] [] κ = I.answeredBy_tree lasting set_ leads (fun d => κ (.int .i64 d) []) none := by
    refine Eq.trans (show I.answeredBy_F [.ro false (.bools lasting), .int .i64 set_, .ro false (.ints .i64 leads)] [] κ = (I.answeredBy_L3 FUEL { n := 30, t := [(0, (.ro false (.bools lasting))), (2, (.ro false (.ints .i64 leads))), (7, (.int .i64 set_)), (8, (.int .i64 0))], h := [] } (I.answeredBy_k3 κ)) by kernel_rfl) ?_
    refine (I.answeredBy_L3_run lasting leads FUEL (set_, 0) (I.answeredBy_k3 κ)).trans (optC_congr (fun qy_1 => ?_))
    kernel_rfl
  rw [hu]
  exact (I.answeredBy_tree_nat (fun o => optC o (fun (r : Int) => κ (.int .i64 r) []) none) lasting set_ leads (fun d => some d) none).symm
noncomputable def I.answeredBy_s : D.Spec where
  keep := false
  pure := true
  ds := [.bool, .invalid, .int .i64]
  sp := fun args h κ => match args, h with
    | [.ro false (.bools lasting), .int .i64 set_, .ro false (.ints .i64 leads)], [] => optC (I.answeredBy_t lasting set_ leads) (fun (r : Int) => κ (.int .i64 r) []) none
    | _, _ => none
theorem I.answeredBy_ok : SpecOk Try.prog 80 I.answeredBy_s := by
  refine SpecOk.of TDok mixed (T := I.answeredBy_T) ?_ (ann := I.answeredBy_ann) Try.func80 rfl (by decide +kernel) ?_ ?_ ?_
  · intro p hp; cases hp
  · intro args h κ r hh
    simp only [I.answeredBy_s] at hh
    split at hh
    · exact (I.answeredBy_den _ _ _ κ).trans hh
    · cases hh
  · intro args h κ r hh
    simp only [I.answeredBy_s] at hh ⊢
    split at hh
    · exact optC_law2 (F := fun (r : Int) κ => κ (.int .i64 r) []) (fun b κ r hb => ⟨_, _, hb, fun _ => rfl⟩) hh
    · cases hh
  · intro _ args h κ r hh
    simp only [I.answeredBy_s] at hh
    split at hh
    · exact ⟨rfl, fun _ => rfl⟩
    · cases hh

-- loop.example/guardsonnets/impl.lastingIn
noncomputable def I.lastingIn_T : List (Nat × D.Spec) := [(54, I.allOf_s), (80, I.answeredBy_s)]
def I.lastingIn_ann : Nat → List Nat × List Nat
  | 10 => ([0, 1, 5, 7, 8], [0, 1, 5, 7])
  | 7 => ([0, 1, 5, 7], [5])
  | 3 => ([0, 1, 5, 6], [0, 1, 5])
  | _ => ([], [])
noncomputable def I.lastingIn_F (args : List V) (h : List E) (κ : V → List E → R) : R := funC TD (tableK I.lastingIn_T) I.lastingIn_ann (drawOk (tableP I.lastingIn_T)) FUEL Try.f69 args h κ
noncomputable def I.lastingIn_L10 (n : Nat) (σ : St) (k : X → St → R) : R := iterC 0 (fun σ k => denC TD (tableK I.lastingIn_T) I.lastingIn_ann (drawOk (tableP I.lastingIn_T)) 0 FUEL ((findLoop 10 (Try.f69.body.getD .skip)).getD .skip) σ k) [0, 1, 5, 7, 8] [0, 1, 5, 7] n σ k
noncomputable def I.lastingIn_L7 (n : Nat) (σ : St) (k : X → St → R) : R := iterC 0 (fun σ k => denC TD (tableK I.lastingIn_T) I.lastingIn_ann (drawOk (tableP I.lastingIn_T)) 0 FUEL ((findLoop 7 (Try.f69.body.getD .skip)).getD .skip) σ k) [0, 1, 5, 7] [5] n σ k
noncomputable def I.lastingIn_L3 (n : Nat) (σ : St) (k : X → St → R) : R := iterC 0 (fun σ k => denC TD (tableK I.lastingIn_T) I.lastingIn_ann (drawOk (tableP I.lastingIn_T)) 0 FUEL ((findLoop 3 (Try.f69.body.getD .skip)).getD .skip) σ k) [0, 1, 5, 6] [0, 1, 5] n σ k
noncomputable def I.lastingIn_k3 (κ : V → List E → R) : X → St → R := (afterC TD (tableK I.lastingIn_T) I.lastingIn_ann (drawOk (tableP I.lastingIn_T)) 0 FUEL 3 (Try.f69.body.getD .skip) (finC TD 0 Try.f69 κ)).getD (fun _ _ => none)
noncomputable def I.lastingIn_k10 (c : (St → R) × (X → St → R)) : X → St → R := (afterC TD (tableK I.lastingIn_T) I.lastingIn_ann (drawOk (tableP I.lastingIn_T)) 0 FUEL 10 ((findLoop 7 (Try.f69.body.getD .skip)).getD .skip) (roundC 0 [0, 1, 5, 7] [5] c.1 c.2)).getD (fun _ _ => none)
noncomputable def I.lastingIn_k7 (κ : V → List E → R) : X → St → R := (afterC TD (tableK I.lastingIn_T) I.lastingIn_ann (drawOk (tableP I.lastingIn_T)) 0 FUEL 7 (Try.f69.body.getD .skip) (finC TD 0 Try.f69 κ)).getD (fun _ _ => none)
noncomputable def I.lastingIn_step3 {α : Type} (x0 : List Int) (x1 : List (List Int)) (x6 : Int) (r0 : List Bool) (next_ : Int × (List Bool) → α) (out0_ : List Bool → α) (fail_ : α) : α :=
  (optC (I.allOf_t x0) (fun c_2 => (bif decide (x6 ≤ c_2) then (bif decide (0 ≤ x6) && decide (x6 < (↑r0.length : Int)) then (bif decide (x6.toNat < r0.length) then (next_ (IntKind.i64.wrap (x6 + 1), r0.set x6.toNat true)) else fail_) else fail_) else (out0_ r0))) fail_)
theorem I.lastingIn_step3_nat {α γ : Type} (g : α → γ) (x0 : List Int) (x1 : List (List Int)) (x6 : Int) (r0 : List Bool) (next_ : Int × (List Bool) → α) (out0_ : List Bool → α) (fail_ : α) : g (I.lastingIn_step3 x0 x1 x6 r0 next_ out0_ fail_) = I.lastingIn_step3 x0 x1 x6 r0 (fun s => g (next_ s)) (fun d => g (out0_ d)) (g fail_) := by
  unfold I.lastingIn_step3; simp only [apply_cnd g, apply_optC g, apply_sumC g]
noncomputable def I.lastingIn_run3 (x0 : List Int) (x1 : List (List Int)) : Nat → Int × (List Bool) → Option (List Bool)
  | 0, _ => none
  | n + 1, s_ => I.lastingIn_step3 x0 x1 s_.1 s_.2 (I.lastingIn_run3 x0 x1 n) (fun d => some d) none
theorem I.lastingIn_L3_run (x0 : List Int) (x1 : List (List Int)) (n : Nat) (s_ : Int × (List Bool)) (k : X → St → R) : I.lastingIn_L3 n { n := 49, t := [(0, (.ro false (.ints .i64 x0))), (1, (.ro false (.rows x1))), (5, (.own 0)), (6, (.int .i64 s_.1))], h := [.row (.bools s_.2)] } k = optC (I.lastingIn_run3 x0 x1 n s_) (fun (r : List Bool) => k (.exit 0) { n := 49, t := [(0, (.ro false (.ints .i64 x0))), (1, (.ro false (.rows x1))), (5, (.own 0))], h := [.row (.bools r)] }) none := by
  induction n generalizing s_ with
  | zero => rfl
  | succ n ih =>
    have hu : I.lastingIn_L3 (n + 1) { n := 49, t := [(0, (.ro false (.ints .i64 x0))), (1, (.ro false (.rows x1))), (5, (.own 0)), (6, (.int .i64 s_.1))], h := [.row (.bools s_.2)] } k = I.lastingIn_step3 x0 x1 s_.1 s_.2 (fun s_ => I.lastingIn_L3 n { n := 49, t := [(0, (.ro false (.ints .i64 x0))), (1, (.ro false (.rows x1))), (5, (.own 0)), (6, (.int .i64 s_.1))], h := [.row (.bools s_.2)] } k) (fun d => k (.exit 0) { n := 49, t := [(0, (.ro false (.ints .i64 x0))), (1, (.ro false (.rows x1))), (5, (.own 0))], h := [.row (.bools d)] }) none := by
      kernel_rfl
    have hs : (fun s_ : Int × (List Bool) => I.lastingIn_L3 n { n := 49, t := [(0, (.ro false (.ints .i64 x0))), (1, (.ro false (.rows x1))), (5, (.own 0)), (6, (.int .i64 s_.1))], h := [.row (.bools s_.2)] } k) = fun s_ => optC (I.lastingIn_run3 x0 x1 n s_) (fun (r : List Bool) => k (.exit 0) { n := 49, t := [(0, (.ro false (.ints .i64 x0))), (1, (.ro false (.rows x1))), (5, (.own 0))], h := [.row (.bools r)] }) none := funext ih
    rw [hu, hs]
    exact (I.lastingIn_step3_nat (fun o => optC o (fun (r : List Bool) => k (.exit 0) { n := 49, t := [(0, (.ro false (.ints .i64 x0))), (1, (.ro false (.rows x1))), (5, (.own 0))], h := [.row (.bools r)] }) none) x0 x1 s_.1 s_.2 (I.lastingIn_run3 x0 x1 n) (fun d => some d) none).symm
noncomputable def I.lastingIn_step10 {α : Type} (x0 : List Int) (x1 : List (List Int)) (x7 : Bool) (x8 : Int) (r0 : List Bool) (next_ : Bool × Int × (List Bool) → α) (out0_ : Bool × (List Bool) → α) (fail_ : α) : α :=
  (optC (I.allOf_t x0) (fun c_4 => (bif decide (x8 ≤ c_4) then (bif decide (0 ≤ x8) && decide (x8 < (↑r0.length : Int)) then (bif decide (x8.toNat < r0.length) then (bif elb r0 x8.toNat then (bif decide (0 ≤ x8) && decide (x8 < (↑x1.length : Int)) then (optC (I.answeredBy_t r0 x8 (elr x1 x8.toNat)) (fun c_5 => (optC (I.allOf_t x0) (fun c_6 => (bif !c_5 == c_6 then (bif decide (0 ≤ x8) && decide (x8 < (↑r0.length : Int)) then (bif decide (x8.toNat < r0.length) then (next_ (true, IntKind.i64.wrap (x8 + 1), r0.set x8.toNat false)) else fail_) else fail_) else (next_ (x7, IntKind.i64.wrap (x8 + 1), r0)))) fail_)) fail_) else fail_) else (next_ (x7, IntKind.i64.wrap (x8 + 1), r0))) else fail_) else fail_) else (out0_ (x7, r0)))) fail_)
theorem I.lastingIn_step10_nat {α γ : Type} (g : α → γ) (x0 : List Int) (x1 : List (List Int)) (x7 : Bool) (x8 : Int) (r0 : List Bool) (next_ : Bool × Int × (List Bool) → α) (out0_ : Bool × (List Bool) → α) (fail_ : α) : g (I.lastingIn_step10 x0 x1 x7 x8 r0 next_ out0_ fail_) = I.lastingIn_step10 x0 x1 x7 x8 r0 (fun s => g (next_ s)) (fun d => g (out0_ d)) (g fail_) := by
  unfold I.lastingIn_step10; simp only [apply_cnd g, apply_optC g, apply_sumC g]
noncomputable def I.lastingIn_run10 (x0 : List Int) (x1 : List (List Int)) : Nat → Bool × Int × (List Bool) → Option (Bool × (List Bool))
  | 0, _ => none
  | n + 1, s_ => I.lastingIn_step10 x0 x1 s_.1 s_.2.1 s_.2.2 (I.lastingIn_run10 x0 x1 n) (fun d => some d) none
theorem I.lastingIn_L10_run (x0 : List Int) (x1 : List (List Int)) (n : Nat) (s_ : Bool × Int × (List Bool)) (k : X → St → R) : I.lastingIn_L10 n { n := 49, t := [(0, (.ro false (.ints .i64 x0))), (1, (.ro false (.rows x1))), (5, (.own 0)), (7, (.bool s_.1)), (8, (.int .i64 s_.2.1))], h := [.row (.bools s_.2.2)] } k = optC (I.lastingIn_run10 x0 x1 n s_) (fun (r : Bool × (List Bool)) => k (.exit 4) { n := 49, t := [(0, (.ro false (.ints .i64 x0))), (1, (.ro false (.rows x1))), (5, (.own 0)), (7, (.bool r.1))], h := [.row (.bools r.2)] }) none := by
  induction n generalizing s_ with
  | zero => rfl
  | succ n ih =>
    have hu : I.lastingIn_L10 (n + 1) { n := 49, t := [(0, (.ro false (.ints .i64 x0))), (1, (.ro false (.rows x1))), (5, (.own 0)), (7, (.bool s_.1)), (8, (.int .i64 s_.2.1))], h := [.row (.bools s_.2.2)] } k = I.lastingIn_step10 x0 x1 s_.1 s_.2.1 s_.2.2 (fun s_ => I.lastingIn_L10 n { n := 49, t := [(0, (.ro false (.ints .i64 x0))), (1, (.ro false (.rows x1))), (5, (.own 0)), (7, (.bool s_.1)), (8, (.int .i64 s_.2.1))], h := [.row (.bools s_.2.2)] } k) (fun d => k (.exit 4) { n := 49, t := [(0, (.ro false (.ints .i64 x0))), (1, (.ro false (.rows x1))), (5, (.own 0)), (7, (.bool d.1))], h := [.row (.bools d.2)] }) none := by
      kernel_rfl
    have hs : (fun s_ : Bool × Int × (List Bool) => I.lastingIn_L10 n { n := 49, t := [(0, (.ro false (.ints .i64 x0))), (1, (.ro false (.rows x1))), (5, (.own 0)), (7, (.bool s_.1)), (8, (.int .i64 s_.2.1))], h := [.row (.bools s_.2.2)] } k) = fun s_ => optC (I.lastingIn_run10 x0 x1 n s_) (fun (r : Bool × (List Bool)) => k (.exit 4) { n := 49, t := [(0, (.ro false (.ints .i64 x0))), (1, (.ro false (.rows x1))), (5, (.own 0)), (7, (.bool r.1))], h := [.row (.bools r.2)] }) none := funext ih
    rw [hu, hs]
    exact (I.lastingIn_step10_nat (fun o => optC o (fun (r : Bool × (List Bool)) => k (.exit 4) { n := 49, t := [(0, (.ro false (.ints .i64 x0))), (1, (.ro false (.rows x1))), (5, (.own 0)), (7, (.bool r.1))], h := [.row (.bools r.2)] }) none) x0 x1 s_.1 s_.2.1 s_.2.2 (I.lastingIn_run10 x0 x1 n) (fun d => some d) none).symm
noncomputable def I.lastingIn_step7 {α : Type} (x0 : List Int) (x1 : List (List Int)) (x7 : Bool) (r0 : List Bool) (next_ : Bool × (List Bool) → α) (out0_ : List Bool → α) (fail_ : α) : α :=
  (bif x7 then (optC (I.lastingIn_run10 x0 x1 FUEL (false, 0, r0)) (fun qy_7 => (next_ (qy_7.1, qy_7.2))) fail_) else (out0_ r0))
theorem I.lastingIn_step7_nat {α γ : Type} (g : α → γ) (x0 : List Int) (x1 : List (List Int)) (x7 : Bool) (r0 : List Bool) (next_ : Bool × (List Bool) → α) (out0_ : List Bool → α) (fail_ : α) : g (I.lastingIn_step7 x0 x1 x7 r0 next_ out0_ fail_) = I.lastingIn_step7 x0 x1 x7 r0 (fun s => g (next_ s)) (fun d => g (out0_ d)) (g fail_) := by
  unfold I.lastingIn_step7; simp only [apply_cnd g, apply_optC g, apply_sumC g]
noncomputable def I.lastingIn_run7 (x0 : List Int) (x1 : List (List Int)) : Nat → Bool × (List Bool) → Option (List Bool)
  | 0, _ => none
  | n + 1, s_ => I.lastingIn_step7 x0 x1 s_.1 s_.2 (I.lastingIn_run7 x0 x1 n) (fun d => some d) none
theorem I.lastingIn_L7_run (x0 : List Int) (x1 : List (List Int)) (n : Nat) (s_ : Bool × (List Bool)) (k : X → St → R) : I.lastingIn_L7 n { n := 49, t := [(0, (.ro false (.ints .i64 x0))), (1, (.ro false (.rows x1))), (5, (.own 0)), (7, (.bool s_.1))], h := [.row (.bools s_.2)] } k = optC (I.lastingIn_run7 x0 x1 n s_) (fun (r : List Bool) => k (.exit 2) { n := 49, t := [(5, (.own 0))], h := [.row (.bools r)] }) none := by
  induction n generalizing s_ with
  | zero => rfl
  | succ n ih =>
    have hu : I.lastingIn_L7 (n + 1) { n := 49, t := [(0, (.ro false (.ints .i64 x0))), (1, (.ro false (.rows x1))), (5, (.own 0)), (7, (.bool s_.1))], h := [.row (.bools s_.2)] } k = I.lastingIn_step7 x0 x1 s_.1 s_.2 (fun s_ => I.lastingIn_L7 n { n := 49, t := [(0, (.ro false (.ints .i64 x0))), (1, (.ro false (.rows x1))), (5, (.own 0)), (7, (.bool s_.1))], h := [.row (.bools s_.2)] } k) (fun d => k (.exit 2) { n := 49, t := [(5, (.own 0))], h := [.row (.bools d)] }) none := by
      refine Eq.trans (show I.lastingIn_L7 (n + 1) { n := 49, t := [(0, (.ro false (.ints .i64 x0))), (1, (.ro false (.rows x1))), (5, (.own 0)), (7, (.bool s_.1))], h := [.row (.bools s_.2)] } k = (bif s_.1 then (I.lastingIn_L10 FUEL { n := 49, t := [(0, (.ro false (.ints .i64 x0))), (1, (.ro false (.rows x1))), (5, (.own 0)), (7, (.bool false)), (8, (.int .i64 0))], h := [.row (.bools s_.2)] } (I.lastingIn_k10 ((fun σ => I.lastingIn_L7 n σ k), k))) else (k (.exit 2) { n := 49, t := [(5, (.own 0))], h := [.row (.bools s_.2)] })) by kernel_rfl) ?_
      refine cnd_congr ?_ ?_
      · refine (I.lastingIn_L10_run x0 x1 FUEL (false, 0, s_.2) (I.lastingIn_k10 ((fun σ => I.lastingIn_L7 n σ k), k))).trans (optC_congr (fun qy_7 => ?_))
        kernel_rfl
      · kernel_rfl
    have hs : (fun s_ : Bool × (List Bool) => I.lastingIn_L7 n { n := 49, t := [(0, (.ro false (.ints .i64 x0))), (1, (.ro false (.rows x1))), (5, (.own 0)), (7, (.bool s_.1))], h := [.row (.bools s_.2)] } k) = fun s_ => optC (I.lastingIn_run7 x0 x1 n s_) (fun (r : List Bool) => k (.exit 2) { n := 49, t := [(5, (.own 0))], h := [.row (.bools r)] }) none := funext ih
    rw [hu, hs]
    exact (I.lastingIn_step7_nat (fun o => optC o (fun (r : List Bool) => k (.exit 2) { n := 49, t := [(5, (.own 0))], h := [.row (.bools r)] }) none) x0 x1 s_.1 s_.2 (I.lastingIn_run7 x0 x1 n) (fun d => some d) none).symm
noncomputable def I.lastingIn_tree {α : Type} (net : List Int) (leads : List (List Int)) (leaf0_ : List Bool → α) (fail_ : α) : α :=
  (optC (I.allOf_t net) (fun c_1 => (bif decide (0 ≤ IntKind.i64.wrap (c_1 + 1)) && small (IntKind.i64.wrap (c_1 + 1)).toNat && true then (optC (I.lastingIn_run3 net leads FUEL (0, List.replicate (IntKind.i64.wrap (c_1 + 1)).toNat false)) (fun qy_3 => (optC (I.lastingIn_run7 net leads FUEL (true, qy_3)) (fun qy_8 => (leaf0_ qy_8)) fail_)) fail_) else fail_)) fail_)
theorem I.lastingIn_tree_nat {α γ : Type} (g : α → γ) (net : List Int) (leads : List (List Int)) (leaf0_ : List Bool → α) (fail_ : α) : g (I.lastingIn_tree net leads leaf0_ fail_) = I.lastingIn_tree net leads (fun d => g (leaf0_ d)) (g fail_) := by
  unfold I.lastingIn_tree; simp only [apply_cnd g, apply_optC g, apply_sumC g]
noncomputable def I.lastingIn_t (net : List Int) (leads : List (List Int)) : Option (List Bool) := I.lastingIn_tree net leads (fun d => some d) none
theorem I.lastingIn_den (net : List Int) (leads : List (List Int)) (κ : V → List E → R) : I.lastingIn_F [.ro false (.ints .i64 net), .ro false (.rows leads)] [] κ = optC (I.lastingIn_t net leads) (fun (r : List Bool) => κ (.own 0) [.row (.bools r)]) none := by
  have hu : I.lastingIn_F [.ro false (.ints .i64 net), .ro false (.rows leads)] [] κ = I.lastingIn_tree net leads (fun d => κ (.own 0) [.row (.bools d)]) none := by
    refine Eq.trans (show I.lastingIn_F [.ro false (.ints .i64 net), .ro false (.rows leads)] [] κ = (optC (I.allOf_t net) (fun c_1 => (bif decide (0 ≤ IntKind.i64.wrap (c_1 + 1)) && small (IntKind.i64.wrap (c_1 + 1)).toNat && true then (I.lastingIn_L3 FUEL { n := 49, t := [(0, (.ro false (.ints .i64 net))), (1, (.ro false (.rows leads))), (5, (.own 0)), (6, (.int .i64 0))], h := [.row (.bools (List.replicate (IntKind.i64.wrap (c_1 + 1)).toNat false))] } (I.lastingIn_k3 κ)) else none)) none) by kernel_rfl) ?_
    refine optC_congr (fun c_1 => ?_)
    refine cnd_congr ?_ ?_
    · refine (I.lastingIn_L3_run net leads FUEL (0, List.replicate (IntKind.i64.wrap (c_1 + 1)).toNat false) (I.lastingIn_k3 κ)).trans (optC_congr (fun qy_3 => ?_))
      refine Eq.trans (show (I.lastingIn_k3 κ (.exit 0) { n := 49, t := [(0, (.ro false (.ints .i64 net))), (1, (.ro false (.rows leads))), (5, (.own 0))], h := [.row (.bools qy_3)] }) = (I.lastingIn_L7 FUEL { n := 49, t := [(0, (.ro false (.ints .i64 net))), (1, (.ro false (.rows leads))), (5, (.own 0)), (7, (.bool true))], h := [.row (.bools qy_3)] } (I.lastingIn_k7 κ)) by kernel_rfl) ?_
      refine (I.lastingIn_L7_run net leads FUEL (true, qy_3) (I.lastingIn_k7 κ)).trans (optC_congr (fun qy_8 => ?_))
      kernel_rfl
    · kernel_rfl
  rw [hu]
  exact (I.lastingIn_tree_nat (fun o => optC o (fun (r : List Bool) => κ (.own 0) [.row (.bools r)]) none) net leads (fun d => some d) none).symm
noncomputable def I.lastingIn_s : D.Spec where
  keep := false
  pure := false
  ds := [.int .i64, .slice 3]
  sp := fun args h κ => match args, h with
    | [.ro false (.ints .i64 net), .ro false (.rows leads)], [] => optC (I.lastingIn_t net leads) (fun (r : List Bool) => κ (.own 0) [.row (.bools r)]) none
    | _, _ => none
theorem I.lastingIn_ok : SpecOk Try.prog 69 I.lastingIn_s := by
  refine SpecOk.of TDok mixed (T := I.lastingIn_T) ?_ (ann := I.lastingIn_ann) Try.func69 rfl (by decide +kernel) ?_ ?_ ?_
  · intro p hp
    simp only [I.lastingIn_T, List.mem_cons, List.not_mem_nil, or_false] at hp
    rcases hp with rfl | rfl
    · exact I.allOf_ok
    · exact I.answeredBy_ok
  · intro args h κ r hh
    simp only [I.lastingIn_s] at hh
    split at hh
    · exact (I.lastingIn_den _ _ κ).trans hh
    · cases hh
  · intro args h κ r hh
    simp only [I.lastingIn_s] at hh ⊢
    split at hh
    · exact optC_law2 (F := fun (r : List Bool) κ => κ (.own 0) [.row (.bools r)]) (fun b κ r hb => ⟨_, _, hb, fun _ => rfl⟩) hh
    · cases hh
  · intro hh; cases hh

-- loop.example/guardsonnets/impl.eternalIn
noncomputable def I.eternalIn_T : List (Nat × D.Spec) := [(70, I.movesIn_s), (69, I.lastingIn_s)]
def I.eternalIn_ann : Nat → List Nat × List Nat
  | _ => ([], [])
noncomputable def I.eternalIn_F (args : List V) (h : List E) (κ : V → List E → R) : R := funC TD (tableK I.eternalIn_T) I.eternalIn_ann (drawOk (tableP I.eternalIn_T)) FUEL Try.f45 args h κ
noncomputable def I.eternalIn_tree {α : Type} (net : List Int) (leaf0_ : List Bool → α) (fail_ : α) : α :=
  (optC (I.movesIn_t net) (fun c_1 => (optC (I.lastingIn_t net c_1) (fun c_2 => (leaf0_ c_2)) fail_)) fail_)
theorem I.eternalIn_tree_nat {α γ : Type} (g : α → γ) (net : List Int) (leaf0_ : List Bool → α) (fail_ : α) : g (I.eternalIn_tree net leaf0_ fail_) = I.eternalIn_tree net (fun d => g (leaf0_ d)) (g fail_) := by
  unfold I.eternalIn_tree; simp only [apply_cnd g, apply_optC g, apply_sumC g]
noncomputable def I.eternalIn_t (net : List Int) : Option (List Bool) := I.eternalIn_tree net (fun d => some d) none
theorem I.eternalIn_den (net : List Int) (κ : V → List E → R) : I.eternalIn_F [.ro false (.ints .i64 net)] [] κ = optC (I.eternalIn_t net) (fun (r : List Bool) => κ (.own 0) [.row (.bools r)]) none := by
  have hu : I.eternalIn_F [.ro false (.ints .i64 net)] [] κ = I.eternalIn_tree net (fun d => κ (.own 0) [.row (.bools d)]) none := by
    kernel_rfl
  rw [hu]
  exact (I.eternalIn_tree_nat (fun o => optC o (fun (r : List Bool) => κ (.own 0) [.row (.bools r)]) none) net (fun d => some d) none).symm
noncomputable def I.eternalIn_s : D.Spec where
  keep := false
  pure := false
  ds := [.int .i64]
  sp := fun args h κ => match args, h with
    | [.ro false (.ints .i64 net)], [] => optC (I.eternalIn_t net) (fun (r : List Bool) => κ (.own 0) [.row (.bools r)]) none
    | _, _ => none
theorem I.eternalIn_ok : SpecOk Try.prog 45 I.eternalIn_s := by
  refine SpecOk.of TDok mixed (T := I.eternalIn_T) ?_ (ann := I.eternalIn_ann) Try.func45 rfl (by decide +kernel) ?_ ?_ ?_
  · intro p hp
    simp only [I.eternalIn_T, List.mem_cons, List.not_mem_nil, or_false] at hp
    rcases hp with rfl | rfl
    · exact I.movesIn_ok
    · exact I.lastingIn_ok
  · intro args h κ r hh
    simp only [I.eternalIn_s] at hh
    split at hh
    · exact (I.eternalIn_den _ κ).trans hh
    · cases hh
  · intro args h κ r hh
    simp only [I.eternalIn_s] at hh ⊢
    split at hh
    · exact optC_law2 (F := fun (r : List Bool) κ => κ (.own 0) [.row (.bools r)]) (fun b κ r hb => ⟨_, _, hb, fun _ => rfl⟩) hh
    · cases hh
  · intro hh; cases hh

-- loop.example/guardsonnets/impl.EternalOk
noncomputable def I.EternalOk_T : List (Nat × D.Spec) := [(26, I.NetOk_s), (44, I.setIn_s), (45, I.eternalIn_s)]
def I.EternalOk_ann : Nat → List Nat × List Nat
  | _ => ([], [])
noncomputable def I.EternalOk_F (args : List V) (h : List E) (κ : V → List E → R) : R := funC TD (tableK I.EternalOk_T) I.EternalOk_ann (drawOk (tableP I.EternalOk_T)) FUEL Try.f14 args h κ
noncomputable def I.EternalOk_tree {α : Type} (net : List Int) (set_ : Int) (leaf0_ : Bool → α) (fail_ : α) : α :=
  (optC (I.NetOk_t net) (fun c_1 => (bif c_1 then (optC (I.setIn_t net set_) (fun c_2 => (bif c_2 then (optC (I.eternalIn_t net) (fun c_3 => (bif decide (0 ≤ set_) && decide (set_ < (↑c_3.length : Int)) then (bif decide (set_.toNat < c_3.length) then (leaf0_ (elb c_3 set_.toNat)) else fail_) else fail_)) fail_) else (leaf0_ false))) fail_) else (leaf0_ false))) fail_)
theorem I.EternalOk_tree_nat {α γ : Type} (g : α → γ) (net : List Int) (set_ : Int) (leaf0_ : Bool → α) (fail_ : α) : g (I.EternalOk_tree net set_ leaf0_ fail_) = I.EternalOk_tree net set_ (fun d => g (leaf0_ d)) (g fail_) := by
  unfold I.EternalOk_tree; simp only [apply_cnd g, apply_optC g, apply_sumC g]
noncomputable def I.EternalOk_t (net : List Int) (set_ : Int) : Option (Bool) := I.EternalOk_tree net set_ (fun d => some d) none
theorem I.EternalOk_den (net : List Int) (set_ : Int) (κ : V → List E → R) : I.EternalOk_F [.ro false (.ints .i64 net), .int .i64 set_] [] κ = optC (I.EternalOk_t net set_) (fun (r : Bool) => κ (.bool r) []) none := by
  have hu : I.EternalOk_F [.ro false (.ints .i64 net), .int .i64 set_] [] κ = I.EternalOk_tree net set_ (fun d => κ (.bool d) []) none := by
    kernel_rfl
  rw [hu]
  exact (I.EternalOk_tree_nat (fun o => optC o (fun (r : Bool) => κ (.bool r) []) none) net set_ (fun d => some d) none).symm
noncomputable def I.EternalOk_s : D.Spec where
  keep := false
  pure := true
  ds := [.int .i64, .invalid]
  sp := fun args h κ => match args, h with
    | [.ro false (.ints .i64 net), .int .i64 set_], [] => optC (I.EternalOk_t net set_) (fun (r : Bool) => κ (.bool r) []) none
    | _, _ => none
theorem I.EternalOk_ok : SpecOk Try.prog 14 I.EternalOk_s := by
  refine SpecOk.of TDok mixed (T := I.EternalOk_T) ?_ (ann := I.EternalOk_ann) Try.func14 rfl (by decide +kernel) ?_ ?_ ?_
  · intro p hp
    simp only [I.EternalOk_T, List.mem_cons, List.not_mem_nil, or_false] at hp
    rcases hp with rfl | rfl | rfl
    · exact I.NetOk_ok
    · exact I.setIn_ok
    · exact I.eternalIn_ok
  · intro args h κ r hh
    simp only [I.EternalOk_s] at hh
    split at hh
    · exact (I.EternalOk_den _ _ κ).trans hh
    · cases hh
  · intro args h κ r hh
    simp only [I.EternalOk_s] at hh ⊢
    split at hh
    · exact optC_law2 (F := fun (r : Bool) κ => κ (.bool r) []) (fun b κ r hb => ⟨_, _, hb, fun _ => rfl⟩) hh
    · cases hh
  · intro _ args h κ r hh
    simp only [I.EternalOk_s] at hh
    split at hh
    · exact ⟨rfl, fun _ => rfl⟩
    · cases hh

-- loop.example/guardsonnets/spec.EternalOk
noncomputable def S.EternalOk_T : List (Nat × D.Spec) := [(46, S.l1SetOk_s), (47, S.l9Lasts_s)]
def S.EternalOk_ann : Nat → List Nat × List Nat
  | _ => ([], [])
noncomputable def S.EternalOk_F (args : List V) (h : List E) (κ : V → List E → R) : R := funC TD (tableK S.EternalOk_T) S.EternalOk_ann (drawOk (tableP S.EternalOk_T)) FUEL Try.f15 args h κ
noncomputable def S.EternalOk_tree {α : Type} (net : List Int) (set_ : Int) (leaf0_ : Bool → α) (fail_ : α) : α :=
  (optC (S.l1SetOk_t net set_) (fun c_1 => (bif c_1 then (optC (S.l9Lasts_t net) (fun c_2 => (bif decide (0 ≤ set_) && decide (set_ < (↑c_2.length : Int)) then (bif decide (set_.toNat < c_2.length) then (leaf0_ (elb c_2 set_.toNat)) else fail_) else fail_)) fail_) else (leaf0_ false))) fail_)
theorem S.EternalOk_tree_nat {α γ : Type} (g : α → γ) (net : List Int) (set_ : Int) (leaf0_ : Bool → α) (fail_ : α) : g (S.EternalOk_tree net set_ leaf0_ fail_) = S.EternalOk_tree net set_ (fun d => g (leaf0_ d)) (g fail_) := by
  unfold S.EternalOk_tree; simp only [apply_cnd g, apply_optC g, apply_sumC g]
noncomputable def S.EternalOk_t (net : List Int) (set_ : Int) : Option (Bool) := S.EternalOk_tree net set_ (fun d => some d) none
theorem S.EternalOk_den (net : List Int) (set_ : Int) (κ : V → List E → R) : S.EternalOk_F [.ro false (.ints .i64 net), .int .i64 set_] [] κ = optC (S.EternalOk_t net set_) (fun (r : Bool) => κ (.bool r) []) none := by
  have hu : S.EternalOk_F [.ro false (.ints .i64 net), .int .i64 set_] [] κ = S.EternalOk_tree net set_ (fun d => κ (.bool d) []) none := by
    kernel_rfl
  rw [hu]
  exact (S.EternalOk_tree_nat (fun o => optC o (fun (r : Bool) => κ (.bool r) []) none) net set_ (fun d => some d) none).symm
noncomputable def S.EternalOk_s : D.Spec where
  keep := false
  pure := true
  ds := [.int .i64, .invalid]
  sp := fun args h κ => match args, h with
    | [.ro false (.ints .i64 net), .int .i64 set_], [] => optC (S.EternalOk_t net set_) (fun (r : Bool) => κ (.bool r) []) none
    | _, _ => none
theorem S.EternalOk_ok : SpecOk Try.prog 15 S.EternalOk_s := by
  refine SpecOk.of TDok mixed (T := S.EternalOk_T) ?_ (ann := S.EternalOk_ann) Try.func15 rfl (by decide +kernel) ?_ ?_ ?_
  · intro p hp
    simp only [S.EternalOk_T, List.mem_cons, List.not_mem_nil, or_false] at hp
    rcases hp with rfl | rfl
    · exact S.l1SetOk_ok
    · exact S.l9Lasts_ok
  · intro args h κ r hh
    simp only [S.EternalOk_s] at hh
    split at hh
    · exact (S.EternalOk_den _ _ κ).trans hh
    · cases hh
  · intro args h κ r hh
    simp only [S.EternalOk_s] at hh ⊢
    split at hh
    · exact optC_law2 (F := fun (r : Bool) κ => κ (.bool r) []) (fun b κ r hb => ⟨_, _, hb, fun _ => rfl⟩) hh
    · cases hh
  · intro _ args h κ r hh
    simp only [S.EternalOk_s] at hh
    split at hh
    · exact ⟨rfl, fun _ => rfl⟩
    · cases hh

-- loop.example/guardsonnets/laws.alive
noncomputable def L.alive_T : List (Nat × D.Spec) := [(26, I.NetOk_s)]
def L.alive_ann : Nat → List Nat × List Nat
  | _ => ([], [])
noncomputable def L.alive_F (args : List V) (h : List E) (κ : V → List E → R) : R := funC TD (tableK L.alive_T) L.alive_ann (drawOk (tableP L.alive_T)) FUEL Try.f16 args h κ
noncomputable def L.alive_tree {α : Type} (leaf0_ : Bool → α) (fail_ : α) : α :=
  (optC (I.NetOk_t [2, 1]) (fun c_1 => (bif c_1 then (optC (I.NetOk_t [1]) (fun c_2 => (leaf0_ (!c_2))) fail_) else (leaf0_ false))) fail_)
theorem L.alive_tree_nat {α γ : Type} (g : α → γ) (leaf0_ : Bool → α) (fail_ : α) : g (L.alive_tree leaf0_ fail_) = L.alive_tree (fun d => g (leaf0_ d)) (g fail_) := by
  unfold L.alive_tree; simp only [apply_cnd g, apply_optC g, apply_sumC g]
noncomputable def L.alive_t : Option (Bool) := L.alive_tree (fun d => some d) none
theorem L.alive_den (κ : V → List E → R) : L.alive_F [] [] κ = optC (L.alive_t) (fun (r : Bool) => κ (.bool r) []) none := by
  have hu : L.alive_F [] [] κ = L.alive_tree (fun d => κ (.bool d) []) none := by
    kernel_rfl
  rw [hu]
  exact (L.alive_tree_nat (fun o => optC o (fun (r : Bool) => κ (.bool r) []) none) (fun d => some d) none).symm
noncomputable def L.alive_s : D.Spec where
  keep := false
  pure := true
  ds := []
  sp := fun args h κ => match args, h with
    | [], [] => optC (L.alive_t) (fun (r : Bool) => κ (.bool r) []) none
    | _, _ => none
theorem L.alive_ok : SpecOk Try.prog 16 L.alive_s := by
  refine SpecOk.of TDok mixed (T := L.alive_T) ?_ (ann := L.alive_ann) Try.func16 rfl (by decide +kernel) ?_ ?_ ?_
  · intro p hp
    simp only [L.alive_T, List.mem_cons, List.not_mem_nil, or_false] at hp
    rcases hp with rfl
    · exact I.NetOk_ok
  · intro args h κ r hh
    simp only [L.alive_s] at hh
    split at hh
    · exact (L.alive_den κ).trans hh
    · cases hh
  · intro args h κ r hh
    simp only [L.alive_s] at hh ⊢
    split at hh
    · exact optC_law2 (F := fun (r : Bool) κ => κ (.bool r) []) (fun b κ r hb => ⟨_, _, hb, fun _ => rfl⟩) hh
    · cases hh
  · intro _ args h κ r hh
    simp only [L.alive_s] at hh
    split at hh
    · exact ⟨rfl, fun _ => rfl⟩
    · cases hh

-- loop.example/guardsonnets/impl.placeIn
noncomputable def I.placeIn_T : List (Nat × D.Spec) := []
def I.placeIn_ann : Nat → List Nat × List Nat
  | _ => ([], [])
noncomputable def I.placeIn_F (args : List V) (h : List E) (κ : V → List E → R) : R := funC TD (tableK I.placeIn_T) I.placeIn_ann (drawOk (tableP I.placeIn_T)) FUEL Try.f48 args h κ
noncomputable def I.placeIn_tree {α : Type} (net : List Int) (place : Int) (leaf0_ : Bool → α) (fail_ : α) : α :=
  (bif decide (place ≥ 0) then (leaf0_ (decide (place < (↑net.length : Int)))) else (leaf0_ false))
theorem I.placeIn_tree_nat {α γ : Type} (g : α → γ) (net : List Int) (place : Int) (leaf0_ : Bool → α) (fail_ : α) : g (I.placeIn_tree net place leaf0_ fail_) = I.placeIn_tree net place (fun d => g (leaf0_ d)) (g fail_) := by
  unfold I.placeIn_tree; simp only [apply_cnd g, apply_optC g, apply_sumC g]
noncomputable def I.placeIn_t (net : List Int) (place : Int) : Option (Bool) := I.placeIn_tree net place (fun d => some d) none
theorem I.placeIn_den (net : List Int) (place : Int) (κ : V → List E → R) : I.placeIn_F [.ro false (.ints .i64 net), .int .i64 place] [] κ = optC (I.placeIn_t net place) (fun (r : Bool) => κ (.bool r) []) none := by
  have hu : I.placeIn_F [.ro false (.ints .i64 net), .int .i64 place] [] κ = I.placeIn_tree net place (fun d => κ (.bool d) []) none := by
    kernel_rfl
  rw [hu]
  exact (I.placeIn_tree_nat (fun o => optC o (fun (r : Bool) => κ (.bool r) []) none) net place (fun d => some d) none).symm
noncomputable def I.placeIn_s : D.Spec where
  keep := false
  pure := true
  ds := [.int .i64, .invalid]
  sp := fun args h κ => match args, h with
    | [.ro false (.ints .i64 net), .int .i64 place], [] => optC (I.placeIn_t net place) (fun (r : Bool) => κ (.bool r) []) none
    | _, _ => none
theorem I.placeIn_ok : SpecOk Try.prog 48 I.placeIn_s := by
  refine SpecOk.of TDok mixed (T := I.placeIn_T) ?_ (ann := I.placeIn_ann) Try.func48 rfl (by decide +kernel) ?_ ?_ ?_
  · intro p hp; cases hp
  · intro args h κ r hh
    simp only [I.placeIn_s] at hh
    split at hh
    · exact (I.placeIn_den _ _ κ).trans hh
    · cases hh
  · intro args h κ r hh
    simp only [I.placeIn_s] at hh ⊢
    split at hh
    · exact optC_law2 (F := fun (r : Bool) κ => κ (.bool r) []) (fun b κ r hb => ⟨_, _, hb, fun _ => rfl⟩) hh
    · cases hh
  · intro _ args h κ r hh
    simp only [I.placeIn_s] at hh
    split at hh
    · exact ⟨rfl, fun _ => rfl⟩
    · cases hh

-- loop.example/guardsonnets/impl.answerIn
noncomputable def I.answerIn_T : List (Nat × D.Spec) := [(49, I.moveIn_s), (50, I.moved_s)]
def I.answerIn_ann : Nat → List Nat × List Nat
  | 2 => ([0, 1, 2, 3, 9], [8])
  | _ => ([], [])
noncomputable def I.answerIn_F (args : List V) (h : List E) (κ : V → List E → R) : R := funC TD (tableK I.answerIn_T) I.answerIn_ann (drawOk (tableP I.answerIn_T)) FUEL Try.f51 args h κ
noncomputable def I.answerIn_L2 (n : Nat) (σ : St) (k : X → St → R) : R := iterC 0 (fun σ k => denC TD (tableK I.answerIn_T) I.answerIn_ann (drawOk (tableP I.answerIn_T)) 0 FUEL ((findLoop 2 (Try.f51.body.getD .skip)).getD .skip) σ k) [0, 1, 2, 3, 9] [8] n σ k
noncomputable def I.answerIn_k2 (κ : V → List E → R) : X → St → R := (afterC TD (tableK I.answerIn_T) I.answerIn_ann (drawOk (tableP I.answerIn_T)) 0 FUEL 2 (Try.f51.body.getD .skip) (finC TD 0 Try.f51 κ)).getD (fun _ _ => none)
noncomputable def I.answerIn_step2 {α : Type} (x0 : List Int) (x1 : List Bool) (x2 : Int) (x3 : Int) (x9 : Int) (next_ : Int → α) (out0_ : Int → α) (out1_ : Unit → α) (fail_ : α) : α :=
  (bif decide (x9 < (↑x0.length : Int)) then (optC (I.moveIn_t x0 x2 x9 x3) (fun c_1 => (bif c_1 then (optC (I.moved_t x2 x9 x3) (fun c_2 => (bif decide (0 ≤ c_2) && decide (c_2 < (↑x1.length : Int)) then (bif elb x1 c_2.toNat then (out0_ x9) else (next_ (IntKind.i64.wrap (x9 + 1)))) else fail_)) fail_) else (next_ (IntKind.i64.wrap (x9 + 1))))) fail_) else (out1_ ()))
theorem I.answerIn_step2_nat {α γ : Type} (g : α → γ) (x0 : List Int) (x1 : List Bool) (x2 : Int) (x3 : Int) (x9 : Int) (next_ : Int → α) (out0_ : Int → α) (out1_ : Unit → α) (fail_ : α) : g (I.answerIn_step2 x0 x1 x2 x3 x9 next_ out0_ out1_ fail_) = I.answerIn_step2 x0 x1 x2 x3 x9 (fun s => g (next_ s)) (fun d => g (out0_ d)) (fun d => g (out1_ d)) (g fail_) := by
  unfold I.answerIn_step2; simp only [apply_cnd g, apply_optC g, apply_sumC g]
noncomputable def I.answerIn_run2 (x0 : List Int) (x1 : List Bool) (x2 : Int) (x3 : Int) : Nat → Int → Option ((Int) ⊕ (Unit))
  | 0, _ => none
  | n + 1, s_ => I.answerIn_step2 x0 x1 x2 x3 s_ (I.answerIn_run2 x0 x1 x2 x3 n) (fun d => some ((Sum.inl d))) (fun d => some ((Sum.inr d))) none
theorem I.answerIn_L2_run (x0 : List Int) (x1 : List Bool) (x2 : Int) (x3 : Int) (n : Nat) (s_ : Int) (k : X → St → R) : I.answerIn_L2 n { n := 31, t := [(0, (.ro false (.ints .i64 x0))), (1, (.ro false (.bools x1))), (2, (.int .i64 x2)), (3, (.int .i64 x3)), (9, (.int .i64 s_))], h := [] } k = optC (I.answerIn_run2 x0 x1 x2 x3 n s_) (fun (r : (Int) ⊕ (Unit)) => (sumC r (fun (r : Int) => k (.ret) { n := 31, t := [(8, (.int .i64 r))], h := [] }) (fun (r : Unit) => k (.exit 0) { n := 31, t := [(8, .junk)], h := [] }))) none := by
  induction n generalizing s_ with
  | zero => rfl
  | succ n ih =>
    have hu : I.answerIn_L2 (n + 1) { n := 31, t := [(0, (.ro false (.ints .i64 x0))), (1, (.ro false (.bools x1))), (2, (.int .i64 x2)), (3, (.int .i64 x3)), (9, (.int .i64 s_))], h := [] } k = I.answerIn_step2 x0 x1 x2 x3 s_ (fun s_ => I.answerIn_L2 n { n := 31, t := [(0, (.ro false (.ints .i64 x0))), (1, (.ro false (.bools x1))), (2, (.int .i64 x2)), (3, (.int .i64 x3)), (9, (.int .i64 s_))], h := [] } k) (fun d => k (.ret) { n := 31, t := [(8, (.int .i64 d))], h := [] }) (fun d => k (.exit 0) { n := 31, t := [(8, .junk)], h := [] }) none := by
      kernel_rfl
    have hs : (fun s_ : Int => I.answerIn_L2 n { n := 31, t := [(0, (.ro false (.ints .i64 x0))), (1, (.ro false (.bools x1))), (2, (.int .i64 x2)), (3, (.int .i64 x3)), (9, (.int .i64 s_))], h := [] } k) = fun s_ => optC (I.answerIn_run2 x0 x1 x2 x3 n s_) (fun (r : (Int) ⊕ (Unit)) => (sumC r (fun (r : Int) => k (.ret) { n := 31, t := [(8, (.int .i64 r))], h := [] }) (fun (r : Unit) => k (.exit 0) { n := 31, t := [(8, .junk)], h := [] }))) none := funext ih
    rw [hu, hs]
    exact (I.answerIn_step2_nat (fun o => optC o (fun (r : (Int) ⊕ (Unit)) => (sumC r (fun (r : Int) => k (.ret) { n := 31, t := [(8, (.int .i64 r))], h := [] }) (fun (r : Unit) => k (.exit 0) { n := 31, t := [(8, .junk)], h := [] }))) none) x0 x1 x2 x3 s_ (I.answerIn_run2 x0 x1 x2 x3 n) (fun d => some ((Sum.inl d))) (fun d => some ((Sum.inr d))) none).symm
noncomputable def I.answerIn_tree {α : Type} (net : List Int) (eternal : List Bool) (set_ : Int) (place : Int) (leaf0_ : Int → α) (fail_ : α) : α :=
  (optC (I.answerIn_run2 net eternal set_ place FUEL 0) (fun qy_3 => (sumC qy_3 (fun (qy_3 : Int) => (leaf0_ qy_3)) (fun (qy_3 : Unit) => (leaf0_ (-1))))) fail_)
theorem I.answerIn_tree_nat {α γ : Type} (g : α → γ) (net : List Int) (eternal : List Bool) (set_ : Int) (place : Int) (leaf0_ : Int → α) (fail_ : α) : g (I.answerIn_tree net eternal set_ place leaf0_ fail_) = I.answerIn_tree net eternal set_ place (fun d => g (leaf0_ d)) (g fail_) := by
  unfold I.answerIn_tree; simp only [apply_cnd g, apply_optC g, apply_sumC g]
noncomputable def I.answerIn_t (net : List Int) (eternal : List Bool) (set_ : Int) (place : Int) : Option (Int) := I.answerIn_tree net eternal set_ place (fun d => some d) none
theorem I.answerIn_den (net : List Int) (eternal : List Bool) (set_ : Int) (place : Int) (κ : V → List E → R) : I.answerIn_F [.ro false (.ints .i64 net), .ro false (.bools eternal), .int .i64 set_, .int .i64 place] [] κ = optC (I.answerIn_t net eternal set_ place) (fun (r : Int) => κ (.int .i64 r) []) none := by
  have hu : I.answerIn_F [.ro false (.ints .i64 net), .ro false (.bools eternal), .int .i64 set_, .int .i64 place] [] κ = I.answerIn_tree net eternal set_ place (fun d => κ (.int .i64 d) []) none := by
    refine Eq.trans (show I.answerIn_F [.ro false (.ints .i64 net), .ro false (.bools eternal), .int .i64 set_, .int .i64 place] [] κ = (I.answerIn_L2 FUEL { n := 31, t := [(0, (.ro false (.ints .i64 net))), (1, (.ro false (.bools eternal))), (2, (.int .i64 set_)), (3, (.int .i64 place)), (9, (.int .i64 0))], h := [] } (I.answerIn_k2 κ)) by kernel_rfl) ?_
    refine (I.answerIn_L2_run net eternal set_ place FUEL 0 (I.answerIn_k2 κ)).trans (optC_congr (fun qy_3 => ?_))
    rcases qy_3 with qy_3 | qy_3
    · kernel_rfl
    · kernel_rfl
  rw [hu]
  exact (I.answerIn_tree_nat (fun o => optC o (fun (r : Int) => κ (.int .i64 r) []) none) net eternal set_ place (fun d => some d) none).symm
noncomputable def I.answerIn_s : D.Spec where
  keep := false
  pure := true
  ds := [.int .i64, .bool, .invalid, .invalid]
  sp := fun args h κ => match args, h with
    | [.ro false (.ints .i64 net), .ro false (.bools eternal), .int .i64 set_, .int .i64 place], [] => optC (I.answerIn_t net eternal set_ place) (fun (r : Int) => κ (.int .i64 r) []) none
    | _, _ => none
theorem I.answerIn_ok : SpecOk Try.prog 51 I.answerIn_s := by
  refine SpecOk.of TDok mixed (T := I.answerIn_T) ?_ (ann := I.answerIn_ann) Try.func51 rfl (by decide +kernel) ?_ ?_ ?_
  · intro p hp
    simp only [I.answerIn_T, List.mem_cons, List.not_mem_nil, or_false] at hp
    rcases hp with rfl | rfl
    · exact I.moveIn_ok
    · exact I.moved_ok
  · intro args h κ r hh
    simp only [I.answerIn_s] at hh
    split at hh
    · exact (I.answerIn_den _ _ _ _ κ).trans hh
    · cases hh
  · intro args h κ r hh
    simp only [I.answerIn_s] at hh ⊢
    split at hh
    · exact optC_law2 (F := fun (r : Int) κ => κ (.int .i64 r) []) (fun b κ r hb => ⟨_, _, hb, fun _ => rfl⟩) hh
    · cases hh
  · intro _ args h κ r hh
    simp only [I.answerIn_s] at hh
    split at hh
    · exact ⟨rfl, fun _ => rfl⟩
    · cases hh

-- loop.example/guardsonnets/impl.AnswerOf
noncomputable def I.AnswerOf_T : List (Nat × D.Spec) := [(26, I.NetOk_s), (44, I.setIn_s), (48, I.placeIn_s), (45, I.eternalIn_s), (51, I.answerIn_s)]
def I.AnswerOf_ann : Nat → List Nat × List Nat
  | _ => ([], [])
noncomputable def I.AnswerOf_F (args : List V) (h : List E) (κ : V → List E → R) : R := funC TD (tableK I.AnswerOf_T) I.AnswerOf_ann (drawOk (tableP I.AnswerOf_T)) FUEL Try.f18 args h κ
noncomputable def I.AnswerOf_tree {α : Type} (net : List Int) (set_ : Int) (place : Int) (leaf0_ : Int → α) (fail_ : α) : α :=
  (optC (I.NetOk_t net) (fun c_1 => (bif !c_1 then (leaf0_ (-1)) else (optC (I.setIn_t net set_) (fun c_2 => (bif !c_2 then (leaf0_ (-1)) else (optC (I.placeIn_t net place) (fun c_3 => (bif !c_3 then (leaf0_ (-1)) else (optC (I.eternalIn_t net) (fun c_4 => (bif decide (0 ≤ set_) && decide (set_ < (↑c_4.length : Int)) then (bif decide (set_.toNat < c_4.length) then (bif !elb c_4 set_.toNat then (leaf0_ (-1)) else (optC (I.answerIn_t net c_4 set_ place) (fun c_5 => (leaf0_ c_5)) fail_)) else fail_) else fail_)) fail_))) fail_))) fail_))) fail_)
theorem I.AnswerOf_tree_nat {α γ : Type} (g : α → γ) (net : List Int) (set_ : Int) (place : Int) (leaf0_ : Int → α) (fail_ : α) : g (I.AnswerOf_tree net set_ place leaf0_ fail_) = I.AnswerOf_tree net set_ place (fun d => g (leaf0_ d)) (g fail_) := by
  unfold I.AnswerOf_tree; simp only [apply_cnd g, apply_optC g, apply_sumC g]
noncomputable def I.AnswerOf_t (net : List Int) (set_ : Int) (place : Int) : Option (Int) := I.AnswerOf_tree net set_ place (fun d => some d) none
theorem I.AnswerOf_den (net : List Int) (set_ : Int) (place : Int) (κ : V → List E → R) : I.AnswerOf_F [.ro false (.ints .i64 net), .int .i64 set_, .int .i64 place] [] κ = optC (I.AnswerOf_t net set_ place) (fun (r : Int) => κ (.int .i64 r) []) none := by
  have hu : I.AnswerOf_F [.ro false (.ints .i64 net), .int .i64 set_, .int .i64 place] [] κ = I.AnswerOf_tree net set_ place (fun d => κ (.int .i64 d) []) none := by
    kernel_rfl
  rw [hu]
  exact (I.AnswerOf_tree_nat (fun o => optC o (fun (r : Int) => κ (.int .i64 r) []) none) net set_ place (fun d => some d) none).symm
noncomputable def I.AnswerOf_s : D.Spec where
  keep := false
  pure := true
  ds := [.int .i64, .invalid, .invalid]
  sp := fun args h κ => match args, h with
    | [.ro false (.ints .i64 net), .int .i64 set_, .int .i64 place], [] => optC (I.AnswerOf_t net set_ place) (fun (r : Int) => κ (.int .i64 r) []) none
    | _, _ => none
theorem I.AnswerOf_ok : SpecOk Try.prog 18 I.AnswerOf_s := by
  refine SpecOk.of TDok mixed (T := I.AnswerOf_T) ?_ (ann := I.AnswerOf_ann) Try.func18 rfl (by decide +kernel) ?_ ?_ ?_
  · intro p hp
    simp only [I.AnswerOf_T, List.mem_cons, List.not_mem_nil, or_false] at hp
    rcases hp with rfl | rfl | rfl | rfl | rfl
    · exact I.NetOk_ok
    · exact I.setIn_ok
    · exact I.placeIn_ok
    · exact I.eternalIn_ok
    · exact I.answerIn_ok
  · intro args h κ r hh
    simp only [I.AnswerOf_s] at hh
    split at hh
    · exact (I.AnswerOf_den _ _ _ κ).trans hh
    · cases hh
  · intro args h κ r hh
    simp only [I.AnswerOf_s] at hh ⊢
    split at hh
    · exact optC_law2 (F := fun (r : Int) κ => κ (.int .i64 r) []) (fun b κ r hb => ⟨_, _, hb, fun _ => rfl⟩) hh
    · cases hh
  · intro _ args h κ r hh
    simp only [I.AnswerOf_s] at hh
    split at hh
    · exact ⟨rfl, fun _ => rfl⟩
    · cases hh

-- loop.example/guardsonnets/impl.GuardMoved
noncomputable def I.GuardMoved_T : List (Nat × D.Spec) := [(26, I.NetOk_s), (44, I.setIn_s), (48, I.placeIn_s), (49, I.moveIn_s), (50, I.moved_s)]
def I.GuardMoved_ann : Nat → List Nat × List Nat
  | _ => ([], [])
noncomputable def I.GuardMoved_F (args : List V) (h : List E) (κ : V → List E → R) : R := funC TD (tableK I.GuardMoved_T) I.GuardMoved_ann (drawOk (tableP I.GuardMoved_T)) FUEL Try.f17 args h κ
noncomputable def I.GuardMoved_tree {α : Type} (net : List Int) (set_ : Int) (from_ : Int) (to_ : Int) (leaf0_ : Int → α) (fail_ : α) : α :=
  (optC (I.NetOk_t net) (fun c_1 => (bif !c_1 then (leaf0_ (-1)) else (optC (I.setIn_t net set_) (fun c_2 => (bif !c_2 then (leaf0_ (-1)) else (optC (I.placeIn_t net from_) (fun c_3 => (bif !c_3 then (leaf0_ (-1)) else (optC (I.placeIn_t net to_) (fun c_4 => (bif !c_4 then (leaf0_ (-1)) else (optC (I.moveIn_t net set_ from_ to_) (fun c_5 => (bif !c_5 then (leaf0_ (-1)) else (optC (I.moved_t set_ from_ to_) (fun c_6 => (leaf0_ c_6)) fail_))) fail_))) fail_))) fail_))) fail_))) fail_)
theorem I.GuardMoved_tree_nat {α γ : Type} (g : α → γ) (net : List Int) (set_ : Int) (from_ : Int) (to_ : Int) (leaf0_ : Int → α) (fail_ : α) : g (I.GuardMoved_tree net set_ from_ to_ leaf0_ fail_) = I.GuardMoved_tree net set_ from_ to_ (fun d => g (leaf0_ d)) (g fail_) := by
  unfold I.GuardMoved_tree; simp only [apply_cnd g, apply_optC g, apply_sumC g]
noncomputable def I.GuardMoved_t (net : List Int) (set_ : Int) (from_ : Int) (to_ : Int) : Option (Int) := I.GuardMoved_tree net set_ from_ to_ (fun d => some d) none
theorem I.GuardMoved_den (net : List Int) (set_ : Int) (from_ : Int) (to_ : Int) (κ : V → List E → R) : I.GuardMoved_F [.ro false (.ints .i64 net), .int .i64 set_, .int .i64 from_, .int .i64 to_] [] κ = optC (I.GuardMoved_t net set_ from_ to_) (fun (r : Int) => κ (.int .i64 r) []) none := by
  have hu : I.GuardMoved_F [.ro false (.ints .i64 net), .int .i64 set_, .int .i64 from_, .int .i64 to_] [] κ = I.GuardMoved_tree net set_ from_ to_ (fun d => κ (.int .i64 d) []) none := by
    kernel_rfl
  rw [hu]
  exact (I.GuardMoved_tree_nat (fun o => optC o (fun (r : Int) => κ (.int .i64 r) []) none) net set_ from_ to_ (fun d => some d) none).symm
noncomputable def I.GuardMoved_s : D.Spec where
  keep := false
  pure := true
  ds := [.int .i64, .invalid, .invalid, .invalid]
  sp := fun args h κ => match args, h with
    | [.ro false (.ints .i64 net), .int .i64 set_, .int .i64 from_, .int .i64 to_], [] => optC (I.GuardMoved_t net set_ from_ to_) (fun (r : Int) => κ (.int .i64 r) []) none
    | _, _ => none
theorem I.GuardMoved_ok : SpecOk Try.prog 17 I.GuardMoved_s := by
  refine SpecOk.of TDok mixed (T := I.GuardMoved_T) ?_ (ann := I.GuardMoved_ann) Try.func17 rfl (by decide +kernel) ?_ ?_ ?_
  · intro p hp
    simp only [I.GuardMoved_T, List.mem_cons, List.not_mem_nil, or_false] at hp
    rcases hp with rfl | rfl | rfl | rfl | rfl
    · exact I.NetOk_ok
    · exact I.setIn_ok
    · exact I.placeIn_ok
    · exact I.moveIn_ok
    · exact I.moved_ok
  · intro args h κ r hh
    simp only [I.GuardMoved_s] at hh
    split at hh
    · exact (I.GuardMoved_den _ _ _ _ κ).trans hh
    · cases hh
  · intro args h κ r hh
    simp only [I.GuardMoved_s] at hh ⊢
    split at hh
    · exact optC_law2 (F := fun (r : Int) κ => κ (.int .i64 r) []) (fun b κ r hb => ⟨_, _, hb, fun _ => rfl⟩) hh
    · cases hh
  · intro _ args h κ r hh
    simp only [I.GuardMoved_s] at hh
    split at hh
    · exact ⟨rfl, fun _ => rfl⟩
    · cases hh

-- loop.example/guardsonnets/impl.ballIn
noncomputable def I.ballIn_T : List (Nat × D.Spec) := []
def I.ballIn_ann : Nat → List Nat × List Nat
  | _ => ([], [])
noncomputable def I.ballIn_F (args : List V) (h : List E) (κ : V → List E → R) : R := funC TD (tableK I.ballIn_T) I.ballIn_ann (drawOk (tableP I.ballIn_T)) FUEL Try.f85 args h κ
noncomputable def I.ballIn_tree {α : Type} (net : List Int) (place : Int) (leaf0_ : Int → α) (fail_ : α) : α :=
  (bif decide (0 ≤ place) && decide (place < (↑net.length : Int)) then (bif decide (place < 0) then fail_ else (leaf0_ (bits BinOp.or IntKind.i64 (eli net place.toNat) (IntKind.i64.wrap (1 * 2 ^ min place.toNat IntKind.i64.bits))))) else fail_)
theorem I.ballIn_tree_nat {α γ : Type} (g : α → γ) (net : List Int) (place : Int) (leaf0_ : Int → α) (fail_ : α) : g (I.ballIn_tree net place leaf0_ fail_) = I.ballIn_tree net place (fun d => g (leaf0_ d)) (g fail_) := by
  unfold I.ballIn_tree; simp only [apply_cnd g, apply_optC g, apply_sumC g]
noncomputable def I.ballIn_t (net : List Int) (place : Int) : Option (Int) := I.ballIn_tree net place (fun d => some d) none
theorem I.ballIn_den (net : List Int) (place : Int) (κ : V → List E → R) : I.ballIn_F [.ro false (.ints .i64 net), .int .i64 place] [] κ = optC (I.ballIn_t net place) (fun (r : Int) => κ (.int .i64 r) []) none := by
  have hu : I.ballIn_F [.ro false (.ints .i64 net), .int .i64 place] [] κ = I.ballIn_tree net place (fun d => κ (.int .i64 d) []) none := by
    kernel_rfl
  rw [hu]
  exact (I.ballIn_tree_nat (fun o => optC o (fun (r : Int) => κ (.int .i64 r) []) none) net place (fun d => some d) none).symm
noncomputable def I.ballIn_s : D.Spec where
  keep := false
  pure := true
  ds := [.int .i64, .invalid]
  sp := fun args h κ => match args, h with
    | [.ro false (.ints .i64 net), .int .i64 place], [] => optC (I.ballIn_t net place) (fun (r : Int) => κ (.int .i64 r) []) none
    | _, _ => none
theorem I.ballIn_ok : SpecOk Try.prog 85 I.ballIn_s := by
  refine SpecOk.of TDok mixed (T := I.ballIn_T) ?_ (ann := I.ballIn_ann) Try.func85 rfl (by decide +kernel) ?_ ?_ ?_
  · intro p hp; cases hp
  · intro args h κ r hh
    simp only [I.ballIn_s] at hh
    split at hh
    · exact (I.ballIn_den _ _ κ).trans hh
    · cases hh
  · intro args h κ r hh
    simp only [I.ballIn_s] at hh ⊢
    split at hh
    · exact optC_law2 (F := fun (r : Int) κ => κ (.int .i64 r) []) (fun b κ r hb => ⟨_, _, hb, fun _ => rfl⟩) hh
    · cases hh
  · intro _ args h κ r hh
    simp only [I.ballIn_s] at hh
    split at hh
    · exact ⟨rfl, fun _ => rfl⟩
    · cases hh

-- loop.example/guardsonnets/impl.seenIn
noncomputable def I.seenIn_T : List (Nat × D.Spec) := [(56, I.hasPlace_s), (85, I.ballIn_s)]
def I.seenIn_ann : Nat → List Nat × List Nat
  | 3 => ([0, 1, 5, 6], [5])
  | _ => ([], [])
noncomputable def I.seenIn_F (args : List V) (h : List E) (κ : V → List E → R) : R := funC TD (tableK I.seenIn_T) I.seenIn_ann (drawOk (tableP I.seenIn_T)) FUEL Try.f82 args h κ
noncomputable def I.seenIn_L3 (n : Nat) (σ : St) (k : X → St → R) : R := iterC 0 (fun σ k => denC TD (tableK I.seenIn_T) I.seenIn_ann (drawOk (tableP I.seenIn_T)) 0 FUEL ((findLoop 3 (Try.f82.body.getD .skip)).getD .skip) σ k) [0, 1, 5, 6] [5] n σ k
noncomputable def I.seenIn_k3 (κ : V → List E → R) : X → St → R := (afterC TD (tableK I.seenIn_T) I.seenIn_ann (drawOk (tableP I.seenIn_T)) 0 FUEL 3 (Try.f82.body.getD .skip) (finC TD 0 Try.f82 κ)).getD (fun _ _ => none)
noncomputable def I.seenIn_step3 {α : Type} (x0 : List Int) (x1 : Int) (x5 : Int) (x6 : Int) (next_ : Int × Int → α) (out0_ : Int → α) (fail_ : α) : α :=
  (bif decide (x6 < (↑x0.length : Int)) then (optC (I.hasPlace_t x1 x6) (fun c_1 => (bif c_1 then (optC (I.ballIn_t x0 x6) (fun c_2 => (next_ (bits BinOp.or IntKind.i64 x5 c_2, IntKind.i64.wrap (x6 + 1)))) fail_) else (next_ (x5, IntKind.i64.wrap (x6 + 1))))) fail_) else (out0_ x5))
theorem I.seenIn_step3_nat {α γ : Type} (g : α → γ) (x0 : List Int) (x1 : Int) (x5 : Int) (x6 : Int) (next_ : Int × Int → α) (out0_ : Int → α) (fail_ : α) : g (I.seenIn_step3 x0 x1 x5 x6 next_ out0_ fail_) = I.seenIn_step3 x0 x1 x5 x6 (fun s => g (next_ s)) (fun d => g (out0_ d)) (g fail_) := by
  unfold I.seenIn_step3; simp only [apply_cnd g, apply_optC g, apply_sumC g]
noncomputable def I.seenIn_run3 (x0 : List Int) (x1 : Int) : Nat → Int × Int → Option (Int)
  | 0, _ => none
  | n + 1, s_ => I.seenIn_step3 x0 x1 s_.1 s_.2 (I.seenIn_run3 x0 x1 n) (fun d => some d) none
theorem I.seenIn_L3_run (x0 : List Int) (x1 : Int) (n : Nat) (s_ : Int × Int) (k : X → St → R) : I.seenIn_L3 n { n := 22, t := [(0, (.ro false (.ints .i64 x0))), (1, (.int .i64 x1)), (5, (.int .i64 s_.1)), (6, (.int .i64 s_.2))], h := [] } k = optC (I.seenIn_run3 x0 x1 n s_) (fun (r : Int) => k (.exit 0) { n := 22, t := [(5, (.int .i64 r))], h := [] }) none := by
  induction n generalizing s_ with
  | zero => rfl
  | succ n ih =>
    have hu : I.seenIn_L3 (n + 1) { n := 22, t := [(0, (.ro false (.ints .i64 x0))), (1, (.int .i64 x1)), (5, (.int .i64 s_.1)), (6, (.int .i64 s_.2))], h := [] } k = I.seenIn_step3 x0 x1 s_.1 s_.2 (fun s_ => I.seenIn_L3 n { n := 22, t := [(0, (.ro false (.ints .i64 x0))), (1, (.int .i64 x1)), (5, (.int .i64 s_.1)), (6, (.int .i64 s_.2))], h := [] } k) (fun d => k (.exit 0) { n := 22, t := [(5, (.int .i64 d))], h := [] }) none := by
      kernel_rfl
    have hs : (fun s_ : Int × Int => I.seenIn_L3 n { n := 22, t := [(0, (.ro false (.ints .i64 x0))), (1, (.int .i64 x1)), (5, (.int .i64 s_.1)), (6, (.int .i64 s_.2))], h := [] } k) = fun s_ => optC (I.seenIn_run3 x0 x1 n s_) (fun (r : Int) => k (.exit 0) { n := 22, t := [(5, (.int .i64 r))], h := [] }) none := funext ih
    rw [hu, hs]
    exact (I.seenIn_step3_nat (fun o => optC o (fun (r : Int) => k (.exit 0) { n := 22, t := [(5, (.int .i64 r))], h := [] }) none) x0 x1 s_.1 s_.2 (I.seenIn_run3 x0 x1 n) (fun d => some d) none).symm
noncomputable def I.seenIn_tree {α : Type} (net : List Int) (set_ : Int) (leaf0_ : Int → α) (fail_ : α) : α :=
  (optC (I.seenIn_run3 net set_ FUEL (0, 0)) (fun qy_3 => (leaf0_ qy_3)) fail_)
theorem I.seenIn_tree_nat {α γ : Type} (g : α → γ) (net : List Int) (set_ : Int) (leaf0_ : Int → α) (fail_ : α) : g (I.seenIn_tree net set_ leaf0_ fail_) = I.seenIn_tree net set_ (fun d => g (leaf0_ d)) (g fail_) := by
  unfold I.seenIn_tree; simp only [apply_cnd g, apply_optC g, apply_sumC g]
noncomputable def I.seenIn_t (net : List Int) (set_ : Int) : Option (Int) := I.seenIn_tree net set_ (fun d => some d) none
theorem I.seenIn_den (net : List Int) (set_ : Int) (κ : V → List E → R) : I.seenIn_F [.ro false (.ints .i64 net), .int .i64 set_] [] κ = optC (I.seenIn_t net set_) (fun (r : Int) => κ (.int .i64 r) []) none := by
  have hu : I.seenIn_F [.ro false (.ints .i64 net), .int .i64 set_] [] κ = I.seenIn_tree net set_ (fun d => κ (.int .i64 d) []) none := by
    refine Eq.trans (show I.seenIn_F [.ro false (.ints .i64 net), .int .i64 set_] [] κ = (I.seenIn_L3 FUEL { n := 22, t := [(0, (.ro false (.ints .i64 net))), (1, (.int .i64 set_)), (5, (.int .i64 0)), (6, (.int .i64 0))], h := [] } (I.seenIn_k3 κ)) by kernel_rfl) ?_
    refine (I.seenIn_L3_run net set_ FUEL (0, 0) (I.seenIn_k3 κ)).trans (optC_congr (fun qy_3 => ?_))
    kernel_rfl
  rw [hu]
  exact (I.seenIn_tree_nat (fun o => optC o (fun (r : Int) => κ (.int .i64 r) []) none) net set_ (fun d => some d) none).symm
noncomputable def I.seenIn_s : D.Spec where
  keep := false
  pure := true
  ds := [.int .i64, .invalid]
  sp := fun args h κ => match args, h with
    | [.ro false (.ints .i64 net), .int .i64 set_], [] => optC (I.seenIn_t net set_) (fun (r : Int) => κ (.int .i64 r) []) none
    | _, _ => none
theorem I.seenIn_ok : SpecOk Try.prog 82 I.seenIn_s := by
  refine SpecOk.of TDok mixed (T := I.seenIn_T) ?_ (ann := I.seenIn_ann) Try.func82 rfl (by decide +kernel) ?_ ?_ ?_
  · intro p hp
    simp only [I.seenIn_T, List.mem_cons, List.not_mem_nil, or_false] at hp
    rcases hp with rfl | rfl
    · exact I.hasPlace_ok
    · exact I.ballIn_ok
  · intro args h κ r hh
    simp only [I.seenIn_s] at hh
    split at hh
    · exact (I.seenIn_den _ _ κ).trans hh
    · cases hh
  · intro args h κ r hh
    simp only [I.seenIn_s] at hh ⊢
    split at hh
    · exact optC_law2 (F := fun (r : Int) κ => κ (.int .i64 r) []) (fun b κ r hb => ⟨_, _, hb, fun _ => rfl⟩) hh
    · cases hh
  · intro _ args h κ r hh
    simp only [I.seenIn_s] at hh
    split at hh
    · exact ⟨rfl, fun _ => rfl⟩
    · cases hh

-- loop.example/guardsonnets/impl.watchIn
noncomputable def I.watchIn_T : List (Nat × D.Spec) := [(82, I.seenIn_s), (54, I.allOf_s)]
def I.watchIn_ann : Nat → List Nat × List Nat
  | _ => ([], [])
noncomputable def I.watchIn_F (args : List V) (h : List E) (κ : V → List E → R) : R := funC TD (tableK I.watchIn_T) I.watchIn_ann (drawOk (tableP I.watchIn_T)) FUEL Try.f74 args h κ
noncomputable def I.watchIn_tree {α : Type} (net : List Int) (set_ : Int) (leaf0_ : Bool → α) (fail_ : α) : α :=
  (optC (I.seenIn_t net set_) (fun c_1 => (optC (I.allOf_t net) (fun c_2 => (leaf0_ (c_1 == c_2))) fail_)) fail_)
theorem I.watchIn_tree_nat {α γ : Type} (g : α → γ) (net : List Int) (set_ : Int) (leaf0_ : Bool → α) (fail_ : α) : g (I.watchIn_tree net set_ leaf0_ fail_) = I.watchIn_tree net set_ (fun d => g (leaf0_ d)) (g fail_) := by
  unfold I.watchIn_tree; simp only [apply_cnd g, apply_optC g, apply_sumC g]
noncomputable def I.watchIn_t (net : List Int) (set_ : Int) : Option (Bool) := I.watchIn_tree net set_ (fun d => some d) none
theorem I.watchIn_den (net : List Int) (set_ : Int) (κ : V → List E → R) : I.watchIn_F [.ro false (.ints .i64 net), .int .i64 set_] [] κ = optC (I.watchIn_t net set_) (fun (r : Bool) => κ (.bool r) []) none := by
  have hu : I.watchIn_F [.ro false (.ints .i64 net), .int .i64 set_] [] κ = I.watchIn_tree net set_ (fun d => κ (.bool d) []) none := by
    kernel_rfl
  rw [hu]
  exact (I.watchIn_tree_nat (fun o => optC o (fun (r : Bool) => κ (.bool r) []) none) net set_ (fun d => some d) none).symm
noncomputable def I.watchIn_s : D.Spec where
  keep := false
  pure := true
  ds := [.int .i64, .invalid]
  sp := fun args h κ => match args, h with
    | [.ro false (.ints .i64 net), .int .i64 set_], [] => optC (I.watchIn_t net set_) (fun (r : Bool) => κ (.bool r) []) none
    | _, _ => none
theorem I.watchIn_ok : SpecOk Try.prog 74 I.watchIn_s := by
  refine SpecOk.of TDok mixed (T := I.watchIn_T) ?_ (ann := I.watchIn_ann) Try.func74 rfl (by decide +kernel) ?_ ?_ ?_
  · intro p hp
    simp only [I.watchIn_T, List.mem_cons, List.not_mem_nil, or_false] at hp
    rcases hp with rfl | rfl
    · exact I.seenIn_ok
    · exact I.allOf_ok
  · intro args h κ r hh
    simp only [I.watchIn_s] at hh
    split at hh
    · exact (I.watchIn_den _ _ κ).trans hh
    · cases hh
  · intro args h κ r hh
    simp only [I.watchIn_s] at hh ⊢
    split at hh
    · exact optC_law2 (F := fun (r : Bool) κ => κ (.bool r) []) (fun b κ r hb => ⟨_, _, hb, fun _ => rfl⟩) hh
    · cases hh
  · intro _ args h κ r hh
    simp only [I.watchIn_s] at hh
    split at hh
    · exact ⟨rfl, fun _ => rfl⟩
    · cases hh

-- loop.example/guardsonnets/impl.securedAt
noncomputable def I.securedAt_T : List (Nat × D.Spec) := [(49, I.moveIn_s), (50, I.moved_s), (74, I.watchIn_s)]
def I.securedAt_ann : Nat → List Nat × List Nat
  | 2 => ([0, 1, 2, 7], [6])
  | _ => ([], [])
noncomputable def I.securedAt_F (args : List V) (h : List E) (κ : V → List E → R) : R := funC TD (tableK I.securedAt_T) I.securedAt_ann (drawOk (tableP I.securedAt_T)) FUEL Try.f75 args h κ
noncomputable def I.securedAt_L2 (n : Nat) (σ : St) (k : X → St → R) : R := iterC 0 (fun σ k => denC TD (tableK I.securedAt_T) I.securedAt_ann (drawOk (tableP I.securedAt_T)) 0 FUEL ((findLoop 2 (Try.f75.body.getD .skip)).getD .skip) σ k) [0, 1, 2, 7] [6] n σ k
noncomputable def I.securedAt_k2 (κ : V → List E → R) : X → St → R := (afterC TD (tableK I.securedAt_T) I.securedAt_ann (drawOk (tableP I.securedAt_T)) 0 FUEL 2 (Try.f75.body.getD .skip) (finC TD 0 Try.f75 κ)).getD (fun _ _ => none)
noncomputable def I.securedAt_step2 {α : Type} (x0 : List Int) (x1 : Int) (x2 : Int) (x7 : Int) (next_ : Int → α) (out0_ : Bool → α) (out1_ : Unit → α) (fail_ : α) : α :=
  (bif decide (x7 < (↑x0.length : Int)) then (optC (I.moveIn_t x0 x1 x7 x2) (fun c_1 => (bif c_1 then (optC (I.moved_t x1 x7 x2) (fun c_2 => (optC (I.watchIn_t x0 c_2) (fun c_3 => (bif c_3 then (out0_ true) else (next_ (IntKind.i64.wrap (x7 + 1))))) fail_)) fail_) else (next_ (IntKind.i64.wrap (x7 + 1))))) fail_) else (out1_ ()))
theorem I.securedAt_step2_nat {α γ : Type} (g : α → γ) (x0 : List Int) (x1 : Int) (x2 : Int) (x7 : Int) (next_ : Int → α) (out0_ : Bool → α) (out1_ : Unit → α) (fail_ : α) : g (I.securedAt_step2 x0 x1 x2 x7 next_ out0_ out1_ fail_) = I.securedAt_step2 x0 x1 x2 x7 (fun s => g (next_ s)) (fun d => g (out0_ d)) (fun d => g (out1_ d)) (g fail_) := by
  unfold I.securedAt_step2; simp only [apply_cnd g, apply_optC g, apply_sumC g]
noncomputable def I.securedAt_run2 (x0 : List Int) (x1 : Int) (x2 : Int) : Nat → Int → Option ((Bool) ⊕ (Unit))
  | 0, _ => none
  | n + 1, s_ => I.securedAt_step2 x0 x1 x2 s_ (I.securedAt_run2 x0 x1 x2 n) (fun d => some ((Sum.inl d))) (fun d => some ((Sum.inr d))) none
theorem I.securedAt_L2_run (x0 : List Int) (x1 : Int) (x2 : Int) (n : Nat) (s_ : Int) (k : X → St → R) : I.securedAt_L2 n { n := 27, t := [(0, (.ro false (.ints .i64 x0))), (1, (.int .i64 x1)), (2, (.int .i64 x2)), (7, (.int .i64 s_))], h := [] } k = optC (I.securedAt_run2 x0 x1 x2 n s_) (fun (r : (Bool) ⊕ (Unit)) => (sumC r (fun (r : Bool) => k (.ret) { n := 27, t := [(6, (.bool r))], h := [] }) (fun (r : Unit) => k (.exit 0) { n := 27, t := [(6, .junk)], h := [] }))) none := by
  induction n generalizing s_ with
  | zero => rfl
  | succ n ih =>
    have hu : I.securedAt_L2 (n + 1) { n := 27, t := [(0, (.ro false (.ints .i64 x0))), (1, (.int .i64 x1)), (2, (.int .i64 x2)), (7, (.int .i64 s_))], h := [] } k = I.securedAt_step2 x0 x1 x2 s_ (fun s_ => I.securedAt_L2 n { n := 27, t := [(0, (.ro false (.ints .i64 x0))), (1, (.int .i64 x1)), (2, (.int .i64 x2)), (7, (.int .i64 s_))], h := [] } k) (fun d => k (.ret) { n := 27, t := [(6, (.bool d))], h := [] }) (fun d => k (.exit 0) { n := 27, t := [(6, .junk)], h := [] }) none := by
      kernel_rfl
    have hs : (fun s_ : Int => I.securedAt_L2 n { n := 27, t := [(0, (.ro false (.ints .i64 x0))), (1, (.int .i64 x1)), (2, (.int .i64 x2)), (7, (.int .i64 s_))], h := [] } k) = fun s_ => optC (I.securedAt_run2 x0 x1 x2 n s_) (fun (r : (Bool) ⊕ (Unit)) => (sumC r (fun (r : Bool) => k (.ret) { n := 27, t := [(6, (.bool r))], h := [] }) (fun (r : Unit) => k (.exit 0) { n := 27, t := [(6, .junk)], h := [] }))) none := funext ih
    rw [hu, hs]
    exact (I.securedAt_step2_nat (fun o => optC o (fun (r : (Bool) ⊕ (Unit)) => (sumC r (fun (r : Bool) => k (.ret) { n := 27, t := [(6, (.bool r))], h := [] }) (fun (r : Unit) => k (.exit 0) { n := 27, t := [(6, .junk)], h := [] }))) none) x0 x1 x2 s_ (I.securedAt_run2 x0 x1 x2 n) (fun d => some ((Sum.inl d))) (fun d => some ((Sum.inr d))) none).symm
noncomputable def I.securedAt_tree {α : Type} (net : List Int) (set_ : Int) (place : Int) (leaf0_ : Bool → α) (fail_ : α) : α :=
  (optC (I.securedAt_run2 net set_ place FUEL 0) (fun qy_4 => (sumC qy_4 (fun (qy_4 : Bool) => (leaf0_ qy_4)) (fun (qy_4 : Unit) => (leaf0_ false)))) fail_)
theorem I.securedAt_tree_nat {α γ : Type} (g : α → γ) (net : List Int) (set_ : Int) (place : Int) (leaf0_ : Bool → α) (fail_ : α) : g (I.securedAt_tree net set_ place leaf0_ fail_) = I.securedAt_tree net set_ place (fun d => g (leaf0_ d)) (g fail_) := by
  unfold I.securedAt_tree; simp only [apply_cnd g, apply_optC g, apply_sumC g]
noncomputable def I.securedAt_t (net : List Int) (set_ : Int) (place : Int) : Option (Bool) := I.securedAt_tree net set_ place (fun d => some d) none
theorem I.securedAt_den (net : List Int) (set_ : Int) (place : Int) (κ : V → List E → R) : I.securedAt_F [.ro false (.ints .i64 net), .int .i64 set_, .int .i64 place] [] κ = optC (I.securedAt_t net set_ place) (fun (r : Bool) => κ (.bool r) []) none := by
  have hu : I.securedAt_F [.ro false (.ints .i64 net), .int .i64 set_, .int .i64 place] [] κ = I.securedAt_tree net set_ place (fun d => κ (.bool d) []) none := by
    refine Eq.trans (show I.securedAt_F [.ro false (.ints .i64 net), .int .i64 set_, .int .i64 place] [] κ = (I.securedAt_L2 FUEL { n := 27, t := [(0, (.ro false (.ints .i64 net))), (1, (.int .i64 set_)), (2, (.int .i64 place)), (7, (.int .i64 0))], h := [] } (I.securedAt_k2 κ)) by kernel_rfl) ?_
    refine (I.securedAt_L2_run net set_ place FUEL 0 (I.securedAt_k2 κ)).trans (optC_congr (fun qy_4 => ?_))
    rcases qy_4 with qy_4 | qy_4
    · kernel_rfl
    · kernel_rfl
  rw [hu]
  exact (I.securedAt_tree_nat (fun o => optC o (fun (r : Bool) => κ (.bool r) []) none) net set_ place (fun d => some d) none).symm
noncomputable def I.securedAt_s : D.Spec where
  keep := false
  pure := true
  ds := [.int .i64, .invalid, .invalid]
  sp := fun args h κ => match args, h with
    | [.ro false (.ints .i64 net), .int .i64 set_, .int .i64 place], [] => optC (I.securedAt_t net set_ place) (fun (r : Bool) => κ (.bool r) []) none
    | _, _ => none
theorem I.securedAt_ok : SpecOk Try.prog 75 I.securedAt_s := by
  refine SpecOk.of TDok mixed (T := I.securedAt_T) ?_ (ann := I.securedAt_ann) Try.func75 rfl (by decide +kernel) ?_ ?_ ?_
  · intro p hp
    simp only [I.securedAt_T, List.mem_cons, List.not_mem_nil, or_false] at hp
    rcases hp with rfl | rfl | rfl
    · exact I.moveIn_ok
    · exact I.moved_ok
    · exact I.watchIn_ok
  · intro args h κ r hh
    simp only [I.securedAt_s] at hh
    split at hh
    · exact (I.securedAt_den _ _ _ κ).trans hh
    · cases hh
  · intro args h κ r hh
    simp only [I.securedAt_s] at hh ⊢
    split at hh
    · exact optC_law2 (F := fun (r : Bool) κ => κ (.bool r) []) (fun b κ r hb => ⟨_, _, hb, fun _ => rfl⟩) hh
    · cases hh
  · intro _ args h κ r hh
    simp only [I.securedAt_s] at hh
    split at hh
    · exact ⟨rfl, fun _ => rfl⟩
    · cases hh

-- loop.example/guardsonnets/impl.secureIn
noncomputable def I.secureIn_T : List (Nat × D.Spec) := [(74, I.watchIn_s), (56, I.hasPlace_s), (75, I.securedAt_s)]
def I.secureIn_ann : Nat → List Nat × List Nat
  | 4 => ([0, 1, 5], [4])
  | _ => ([], [])
noncomputable def I.secureIn_F (args : List V) (h : List E) (κ : V → List E → R) : R := funC TD (tableK I.secureIn_T) I.secureIn_ann (drawOk (tableP I.secureIn_T)) FUEL Try.f52 args h κ
noncomputable def I.secureIn_L4 (n : Nat) (σ : St) (k : X → St → R) : R := iterC 0 (fun σ k => denC TD (tableK I.secureIn_T) I.secureIn_ann (drawOk (tableP I.secureIn_T)) 0 FUEL ((findLoop 4 (Try.f52.body.getD .skip)).getD .skip) σ k) [0, 1, 5] [4] n σ k
noncomputable def I.secureIn_k4 (κ : V → List E → R) : X → St → R := (afterC TD (tableK I.secureIn_T) I.secureIn_ann (drawOk (tableP I.secureIn_T)) 0 FUEL 4 (Try.f52.body.getD .skip) (finC TD 0 Try.f52 κ)).getD (fun _ _ => none)
noncomputable def I.secureIn_step4 {α : Type} (x0 : List Int) (x1 : Int) (x5 : Int) (next_ : Int → α) (out0_ : Bool → α) (out1_ : Unit → α) (fail_ : α) : α :=
  (bif decide (x5 < (↑x0.length : Int)) then (optC (I.hasPlace_t x1 x5) (fun c_2 => (bif !c_2 then (optC (I.securedAt_t x0 x1 x5) (fun c_3 => (bif !c_3 then (out0_ false) else (next_ (IntKind.i64.wrap (x5 + 1))))) fail_) else (next_ (IntKind.i64.wrap (x5 + 1))))) fail_) else (out1_ ()))
theorem I.secureIn_step4_nat {α γ : Type} (g : α → γ) (x0 : List Int) (x1 : Int) (x5 : Int) (next_ : Int → α) (out0_ : Bool → α) (out1_ : Unit → α) (fail_ : α) : g (I.secureIn_step4 x0 x1 x5 next_ out0_ out1_ fail_) = I.secureIn_step4 x0 x1 x5 (fun s => g (next_ s)) (fun d => g (out0_ d)) (fun d => g (out1_ d)) (g fail_) := by
  unfold I.secureIn_step4; simp only [apply_cnd g, apply_optC g, apply_sumC g]
noncomputable def I.secureIn_run4 (x0 : List Int) (x1 : Int) : Nat → Int → Option ((Bool) ⊕ (Unit))
  | 0, _ => none
  | n + 1, s_ => I.secureIn_step4 x0 x1 s_ (I.secureIn_run4 x0 x1 n) (fun d => some ((Sum.inl d))) (fun d => some ((Sum.inr d))) none
theorem I.secureIn_L4_run (x0 : List Int) (x1 : Int) (n : Nat) (s_ : Int) (k : X → St → R) : I.secureIn_L4 n { n := 27, t := [(0, (.ro false (.ints .i64 x0))), (1, (.int .i64 x1)), (5, (.int .i64 s_))], h := [] } k = optC (I.secureIn_run4 x0 x1 n s_) (fun (r : (Bool) ⊕ (Unit)) => (sumC r (fun (r : Bool) => k (.ret) { n := 27, t := [(4, (.bool r))], h := [] }) (fun (r : Unit) => k (.exit 0) { n := 27, t := [(4, .junk)], h := [] }))) none := by
  induction n generalizing s_ with
  | zero => rfl
  | succ n ih =>
    have hu : I.secureIn_L4 (n + 1) { n := 27, t := [(0, (.ro false (.ints .i64 x0))), (1, (.int .i64 x1)), (5, (.int .i64 s_))], h := [] } k = I.secureIn_step4 x0 x1 s_ (fun s_ => I.secureIn_L4 n { n := 27, t := [(0, (.ro false (.ints .i64 x0))), (1, (.int .i64 x1)), (5, (.int .i64 s_))], h := [] } k) (fun d => k (.ret) { n := 27, t := [(4, (.bool d))], h := [] }) (fun d => k (.exit 0) { n := 27, t := [(4, .junk)], h := [] }) none := by
      kernel_rfl
    have hs : (fun s_ : Int => I.secureIn_L4 n { n := 27, t := [(0, (.ro false (.ints .i64 x0))), (1, (.int .i64 x1)), (5, (.int .i64 s_))], h := [] } k) = fun s_ => optC (I.secureIn_run4 x0 x1 n s_) (fun (r : (Bool) ⊕ (Unit)) => (sumC r (fun (r : Bool) => k (.ret) { n := 27, t := [(4, (.bool r))], h := [] }) (fun (r : Unit) => k (.exit 0) { n := 27, t := [(4, .junk)], h := [] }))) none := funext ih
    rw [hu, hs]
    exact (I.secureIn_step4_nat (fun o => optC o (fun (r : (Bool) ⊕ (Unit)) => (sumC r (fun (r : Bool) => k (.ret) { n := 27, t := [(4, (.bool r))], h := [] }) (fun (r : Unit) => k (.exit 0) { n := 27, t := [(4, .junk)], h := [] }))) none) x0 x1 s_ (I.secureIn_run4 x0 x1 n) (fun d => some ((Sum.inl d))) (fun d => some ((Sum.inr d))) none).symm
noncomputable def I.secureIn_tree {α : Type} (net : List Int) (set_ : Int) (leaf0_ : Bool → α) (fail_ : α) : α :=
  (optC (I.watchIn_t net set_) (fun c_1 => (bif !c_1 then (leaf0_ false) else (optC (I.secureIn_run4 net set_ FUEL 0) (fun qy_4 => (sumC qy_4 (fun (qy_4 : Bool) => (leaf0_ qy_4)) (fun (qy_4 : Unit) => (leaf0_ true)))) fail_))) fail_)
theorem I.secureIn_tree_nat {α γ : Type} (g : α → γ) (net : List Int) (set_ : Int) (leaf0_ : Bool → α) (fail_ : α) : g (I.secureIn_tree net set_ leaf0_ fail_) = I.secureIn_tree net set_ (fun d => g (leaf0_ d)) (g fail_) := by
  unfold I.secureIn_tree; simp only [apply_cnd g, apply_optC g, apply_sumC g]
noncomputable def I.secureIn_t (net : List Int) (set_ : Int) : Option (Bool) := I.secureIn_tree net set_ (fun d => some d) none
theorem I.secureIn_den (net : List Int) (set_ : Int) (κ : V → List E → R) : I.secureIn_F [.ro false (.ints .i64 net), .int .i64 set_] [] κ = optC (I.secureIn_t net set_) (fun (r : Bool) => κ (.bool r) []) none := by
  have hu : I.secureIn_F [.ro false (.ints .i64 net), .int .i64 set_] [] κ = I.secureIn_tree net set_ (fun d => κ (.bool d) []) none := by
    refine Eq.trans (show I.secureIn_F [.ro false (.ints .i64 net), .int .i64 set_] [] κ = (optC (I.watchIn_t net set_) (fun c_1 => (bif !c_1 then (κ (.bool false) []) else (I.secureIn_L4 FUEL { n := 27, t := [(0, (.ro false (.ints .i64 net))), (1, (.int .i64 set_)), (5, (.int .i64 0))], h := [] } (I.secureIn_k4 κ)))) none) by kernel_rfl) ?_
    refine optC_congr (fun c_1 => ?_)
    refine cnd_congr ?_ ?_
    · kernel_rfl
    · refine (I.secureIn_L4_run net set_ FUEL 0 (I.secureIn_k4 κ)).trans (optC_congr (fun qy_4 => ?_))
      rcases qy_4 with qy_4 | qy_4
      · kernel_rfl
      · kernel_rfl
  rw [hu]
  exact (I.secureIn_tree_nat (fun o => optC o (fun (r : Bool) => κ (.bool r) []) none) net set_ (fun d => some d) none).symm
noncomputable def I.secureIn_s : D.Spec where
  keep := false
  pure := true
  ds := [.int .i64, .invalid]
  sp := fun args h κ => match args, h with
    | [.ro false (.ints .i64 net), .int .i64 set_], [] => optC (I.secureIn_t net set_) (fun (r : Bool) => κ (.bool r) []) none
    | _, _ => none
theorem I.secureIn_ok : SpecOk Try.prog 52 I.secureIn_s := by
  refine SpecOk.of TDok mixed (T := I.secureIn_T) ?_ (ann := I.secureIn_ann) Try.func52 rfl (by decide +kernel) ?_ ?_ ?_
  · intro p hp
    simp only [I.secureIn_T, List.mem_cons, List.not_mem_nil, or_false] at hp
    rcases hp with rfl | rfl | rfl
    · exact I.watchIn_ok
    · exact I.hasPlace_ok
    · exact I.securedAt_ok
  · intro args h κ r hh
    simp only [I.secureIn_s] at hh
    split at hh
    · exact (I.secureIn_den _ _ κ).trans hh
    · cases hh
  · intro args h κ r hh
    simp only [I.secureIn_s] at hh ⊢
    split at hh
    · exact optC_law2 (F := fun (r : Bool) κ => κ (.bool r) []) (fun b κ r hb => ⟨_, _, hb, fun _ => rfl⟩) hh
    · cases hh
  · intro _ args h κ r hh
    simp only [I.secureIn_s] at hh
    split at hh
    · exact ⟨rfl, fun _ => rfl⟩
    · cases hh

-- loop.example/guardsonnets/impl.SecureOk
noncomputable def I.SecureOk_T : List (Nat × D.Spec) := [(26, I.NetOk_s), (44, I.setIn_s), (52, I.secureIn_s)]
def I.SecureOk_ann : Nat → List Nat × List Nat
  | _ => ([], [])
noncomputable def I.SecureOk_F (args : List V) (h : List E) (κ : V → List E → R) : R := funC TD (tableK I.SecureOk_T) I.SecureOk_ann (drawOk (tableP I.SecureOk_T)) FUEL Try.f19 args h κ
noncomputable def I.SecureOk_tree {α : Type} (net : List Int) (set_ : Int) (leaf0_ : Bool → α) (fail_ : α) : α :=
  (optC (I.NetOk_t net) (fun c_1 => (bif c_1 then (optC (I.setIn_t net set_) (fun c_2 => (bif c_2 then (optC (I.secureIn_t net set_) (fun c_3 => (leaf0_ c_3)) fail_) else (leaf0_ false))) fail_) else (leaf0_ false))) fail_)
theorem I.SecureOk_tree_nat {α γ : Type} (g : α → γ) (net : List Int) (set_ : Int) (leaf0_ : Bool → α) (fail_ : α) : g (I.SecureOk_tree net set_ leaf0_ fail_) = I.SecureOk_tree net set_ (fun d => g (leaf0_ d)) (g fail_) := by
  unfold I.SecureOk_tree; simp only [apply_cnd g, apply_optC g, apply_sumC g]
noncomputable def I.SecureOk_t (net : List Int) (set_ : Int) : Option (Bool) := I.SecureOk_tree net set_ (fun d => some d) none
theorem I.SecureOk_den (net : List Int) (set_ : Int) (κ : V → List E → R) : I.SecureOk_F [.ro false (.ints .i64 net), .int .i64 set_] [] κ = optC (I.SecureOk_t net set_) (fun (r : Bool) => κ (.bool r) []) none := by
  have hu : I.SecureOk_F [.ro false (.ints .i64 net), .int .i64 set_] [] κ = I.SecureOk_tree net set_ (fun d => κ (.bool d) []) none := by
    kernel_rfl
  rw [hu]
  exact (I.SecureOk_tree_nat (fun o => optC o (fun (r : Bool) => κ (.bool r) []) none) net set_ (fun d => some d) none).symm
noncomputable def I.SecureOk_s : D.Spec where
  keep := false
  pure := true
  ds := [.int .i64, .invalid]
  sp := fun args h κ => match args, h with
    | [.ro false (.ints .i64 net), .int .i64 set_], [] => optC (I.SecureOk_t net set_) (fun (r : Bool) => κ (.bool r) []) none
    | _, _ => none
theorem I.SecureOk_ok : SpecOk Try.prog 19 I.SecureOk_s := by
  refine SpecOk.of TDok mixed (T := I.SecureOk_T) ?_ (ann := I.SecureOk_ann) Try.func19 rfl (by decide +kernel) ?_ ?_ ?_
  · intro p hp
    simp only [I.SecureOk_T, List.mem_cons, List.not_mem_nil, or_false] at hp
    rcases hp with rfl | rfl | rfl
    · exact I.NetOk_ok
    · exact I.setIn_ok
    · exact I.secureIn_ok
  · intro args h κ r hh
    simp only [I.SecureOk_s] at hh
    split at hh
    · exact (I.SecureOk_den _ _ κ).trans hh
    · cases hh
  · intro args h κ r hh
    simp only [I.SecureOk_s] at hh ⊢
    split at hh
    · exact optC_law2 (F := fun (r : Bool) κ => κ (.bool r) []) (fun b κ r hb => ⟨_, _, hb, fun _ => rfl⟩) hh
    · cases hh
  · intro _ args h κ r hh
    simp only [I.SecureOk_s] at hh
    split at hh
    · exact ⟨rfl, fun _ => rfl⟩
    · cases hh

-- loop.example/guardsonnets/laws.FnEternalOk
noncomputable def L.FnEternalOk_T : List (Nat × D.Spec) := [(13, S.DrawEternalOk_s), (14, I.EternalOk_s), (15, S.EternalOk_s), (16, L.alive_s), (18, I.AnswerOf_s), (17, I.GuardMoved_s), (19, I.SecureOk_s)]
def L.FnEternalOk_ann : Nat → List Nat × List Nat
  | 10 => ([3, 4, 6], [2, 3, 4])
  | _ => ([], [])
noncomputable def L.FnEternalOk_F (args : List V) (h : List E) (κ : V → List E → R) : R := funC TD (tableK L.FnEternalOk_T) L.FnEternalOk_ann (drawOk (tableP L.FnEternalOk_T)) FUEL Try.f3 args h κ
noncomputable def L.FnEternalOk_L10 (n : Nat) (σ : St) (k : X → St → R) : R := iterC 0 (fun σ k => denC TD (tableK L.FnEternalOk_T) L.FnEternalOk_ann (drawOk (tableP L.FnEternalOk_T)) 0 FUEL ((findLoop 10 (Try.f3.body.getD .skip)).getD .skip) σ k) [3, 4, 6] [2, 3, 4] n σ k
noncomputable def L.FnEternalOk_k10 (κ : V → List E → R) : X → St → R := (afterC TD (tableK L.FnEternalOk_T) L.FnEternalOk_ann (drawOk (tableP L.FnEternalOk_T)) 0 FUEL 10 (Try.f3.body.getD .skip) (finC TD 0 Try.f3 κ)).getD (fun _ _ => none)
noncomputable def L.FnEternalOk_step10 {α : Type} (x4 : Int) (x6 : Int) (r0 : List Int) (next_ : Int × (List Int) → α) (out0_ : Bool × (List Int) → α) (out1_ : List Int → α) (fail_ : α) : α :=
  (bif decide (x6 < (↑r0.length : Int)) then (bif decide (x6 < 0) then fail_ else (optC (I.EternalOk_t r0 (bits BinOp.or IntKind.i64 x4 (IntKind.i64.wrap (1 * 2 ^ min x6.toNat IntKind.i64.bits)))) (fun c_5 => (bif !c_5 then (out0_ (false, r0)) else (bif decide (x6 < 0) then fail_ else (bif (x4.fdiv (2 ^ min x6.toNat IntKind.i64.bits)).tmod 2 == 0 then (optC (I.AnswerOf_t r0 x4 x6) (fun c_6 => (optC (I.GuardMoved_t r0 x4 c_6 x6) (fun c_7 => (optC (I.EternalOk_t r0 c_7) (fun c_8 => (bif !c_8 then (out0_ (false, r0)) else (next_ (IntKind.i64.wrap (x6 + 1), r0)))) fail_)) fail_)) fail_) else (next_ (IntKind.i64.wrap (x6 + 1), r0)))))) fail_)) else (out1_ r0))
theorem L.FnEternalOk_step10_nat {α γ : Type} (g : α → γ) (x4 : Int) (x6 : Int) (r0 : List Int) (next_ : Int × (List Int) → α) (out0_ : Bool × (List Int) → α) (out1_ : List Int → α) (fail_ : α) : g (L.FnEternalOk_step10 x4 x6 r0 next_ out0_ out1_ fail_) = L.FnEternalOk_step10 x4 x6 r0 (fun s => g (next_ s)) (fun d => g (out0_ d)) (fun d => g (out1_ d)) (g fail_) := by
  unfold L.FnEternalOk_step10; simp only [apply_cnd g, apply_optC g, apply_sumC g]
noncomputable def L.FnEternalOk_run10 (x4 : Int) : Nat → Int × (List Int) → Option ((Bool × (List Int)) ⊕ (List Int))
  | 0, _ => none
  | n + 1, s_ => L.FnEternalOk_step10 x4 s_.1 s_.2 (L.FnEternalOk_run10 x4 n) (fun d => some ((Sum.inl d))) (fun d => some ((Sum.inr d))) none
theorem L.FnEternalOk_L10_run (x4 : Int) (n : Nat) (s_ : Int × (List Int)) (k : X → St → R) : L.FnEternalOk_L10 n { n := 60, t := [(3, (.own 0)), (4, (.int .i64 x4)), (6, (.int .i64 s_.1))], h := [.row (.ints .i64 s_.2)] } k = optC (L.FnEternalOk_run10 x4 n s_) (fun (r : (Bool × (List Int)) ⊕ (List Int)) => (sumC r (fun (r : Bool × (List Int)) => k (.ret) { n := 60, t := [(2, (.bool r.1)), (3, (.own 0)), (4, (.int .i64 x4))], h := [.row (.ints .i64 r.2)] }) (fun (r : List Int) => k (.exit 0) { n := 60, t := [(2, .junk), (3, (.own 0)), (4, (.int .i64 x4))], h := [.row (.ints .i64 r)] }))) none := by
  induction n generalizing s_ with
  | zero => rfl
  | succ n ih =>
    have hu : L.FnEternalOk_L10 (n + 1) { n := 60, t := [(3, (.own 0)), (4, (.int .i64 x4)), (6, (.int .i64 s_.1))], h := [.row (.ints .i64 s_.2)] } k = L.FnEternalOk_step10 x4 s_.1 s_.2 (fun s_ => L.FnEternalOk_L10 n { n := 60, t := [(3, (.own 0)), (4, (.int .i64 x4)), (6, (.int .i64 s_.1))], h := [.row (.ints .i64 s_.2)] } k) (fun d => k (.ret) { n := 60, t := [(2, (.bool d.1)), (3, (.own 0)), (4, (.int .i64 x4))], h := [.row (.ints .i64 d.2)] }) (fun d => k (.exit 0) { n := 60, t := [(2, .junk), (3, (.own 0)), (4, (.int .i64 x4))], h := [.row (.ints .i64 d)] }) none := by
      kernel_rfl
    have hs : (fun s_ : Int × (List Int) => L.FnEternalOk_L10 n { n := 60, t := [(3, (.own 0)), (4, (.int .i64 x4)), (6, (.int .i64 s_.1))], h := [.row (.ints .i64 s_.2)] } k) = fun s_ => optC (L.FnEternalOk_run10 x4 n s_) (fun (r : (Bool × (List Int)) ⊕ (List Int)) => (sumC r (fun (r : Bool × (List Int)) => k (.ret) { n := 60, t := [(2, (.bool r.1)), (3, (.own 0)), (4, (.int .i64 x4))], h := [.row (.ints .i64 r.2)] }) (fun (r : List Int) => k (.exit 0) { n := 60, t := [(2, .junk), (3, (.own 0)), (4, (.int .i64 x4))], h := [.row (.ints .i64 r)] }))) none := funext ih
    rw [hu, hs]
    exact (L.FnEternalOk_step10_nat (fun o => optC o (fun (r : (Bool × (List Int)) ⊕ (List Int)) => (sumC r (fun (r : Bool × (List Int)) => k (.ret) { n := 60, t := [(2, (.bool r.1)), (3, (.own 0)), (4, (.int .i64 x4))], h := [.row (.ints .i64 r.2)] }) (fun (r : List Int) => k (.exit 0) { n := 60, t := [(2, .junk), (3, (.own 0)), (4, (.int .i64 x4))], h := [.row (.ints .i64 r)] }))) none) x4 s_.1 s_.2 (L.FnEternalOk_run10 x4 n) (fun d => some ((Sum.inl d))) (fun d => some ((Sum.inr d))) none).symm
noncomputable def L.FnEternalOk_tree {α : Type} (code : List Int) (leaf0_ : Bool → α) (fail_ : α) : α :=
  (bif decide ((↑code.length : Int) > 1048576) then (leaf0_ true) else (optC (S.DrawEternalOk_t code) (fun c_1 => (optC (I.EternalOk_t c_1.snd c_1.fst) (fun c_2 => (optC (S.EternalOk_t c_1.snd c_1.fst) (fun c_3 => (bif !c_2 == c_3 then (leaf0_ false) else (bif !c_2 then (optC (L.alive_t) (fun c_4 => (leaf0_ c_4)) fail_) else (optC (L.FnEternalOk_run10 c_1.fst FUEL (0, c_1.snd)) (fun qy_9 => (sumC qy_9 (fun (qy_9 : Bool × (List Int)) => (leaf0_ qy_9.1)) (fun (qy_9 : List Int) => (optC (I.SecureOk_t qy_9 c_1.fst) (fun c_10 => (leaf0_ c_10)) fail_)))) fail_)))) fail_)) fail_)) fail_))
theorem L.FnEternalOk_tree_nat {α γ : Type} (g : α → γ) (code : List Int) (leaf0_ : Bool → α) (fail_ : α) : g (L.FnEternalOk_tree code leaf0_ fail_) = L.FnEternalOk_tree code (fun d => g (leaf0_ d)) (g fail_) := by
  unfold L.FnEternalOk_tree; simp only [apply_cnd g, apply_optC g, apply_sumC g]
noncomputable def L.FnEternalOk_t (code : List Int) : Option (Bool) := L.FnEternalOk_tree code (fun d => some d) none
theorem L.FnEternalOk_den (code : List Int) (κ : V → List E → R) : L.FnEternalOk_F [.ro true (.ints .u8 code)] [] κ = optC (L.FnEternalOk_t code) (fun (r : Bool) => κ (.bool r) []) none := by
  have hu : L.FnEternalOk_F [.ro true (.ints .u8 code)] [] κ = L.FnEternalOk_tree code (fun d => κ (.bool d) []) none := by
    refine Eq.trans (show L.FnEternalOk_F [.ro true (.ints .u8 code)] [] κ = (bif decide ((↑code.length : Int) > 1048576) then (κ (.bool true) []) else (optC (S.DrawEternalOk_t code) (fun c_1 => (optC (I.EternalOk_t c_1.snd c_1.fst) (fun c_2 => (optC (S.EternalOk_t c_1.snd c_1.fst) (fun c_3 => (bif !c_2 == c_3 then (κ (.bool false) []) else (bif !c_2 then (optC (L.alive_t) (fun c_4 => (κ (.bool c_4) [])) none) else (L.FnEternalOk_L10 FUEL { n := 60, t := [(3, (.own 0)), (4, (.int .i64 c_1.fst)), (6, (.int .i64 0))], h := [.row (.ints .i64 c_1.snd)] } (L.FnEternalOk_k10 κ))))) none)) none)) none)) by kernel_rfl) ?_
    refine cnd_congr ?_ ?_
    · kernel_rfl
    · refine optC_congr (fun c_1 => ?_)
      refine optC_congr (fun c_2 => ?_)
      refine optC_congr (fun c_3 => ?_)
      refine cnd_congr ?_ ?_
      · kernel_rfl
      · refine cnd_congr ?_ ?_
        · kernel_rfl
        · refine (L.FnEternalOk_L10_run c_1.fst FUEL (0, c_1.snd) (L.FnEternalOk_k10 κ)).trans (optC_congr (fun qy_9 => ?_))
          rcases qy_9 with qy_9 | qy_9
          · kernel_rfl
          · kernel_rfl
  rw [hu]
  exact (L.FnEternalOk_tree_nat (fun o => optC o (fun (r : Bool) => κ (.bool r) []) none) code (fun d => some d) none).symm
noncomputable def L.FnEternalOk_s : D.Spec where
  keep := true
  pure := true
  ds := [.int .u8]
  sp := fun args h κ => match args, h with
    | [.ro true (.ints .u8 code)], [] => optC (L.FnEternalOk_t code) (fun (r : Bool) => κ (.bool r) []) none
    | _, _ => none
theorem L.FnEternalOk_ok : SpecOk Try.prog 3 L.FnEternalOk_s := by
  refine SpecOk.of TDok mixed (T := L.FnEternalOk_T) ?_ (ann := L.FnEternalOk_ann) Try.func3 rfl (by decide +kernel) ?_ ?_ ?_
  · intro p hp
    simp only [L.FnEternalOk_T, List.mem_cons, List.not_mem_nil, or_false] at hp
    rcases hp with rfl | rfl | rfl | rfl | rfl | rfl | rfl
    · exact S.DrawEternalOk_ok
    · exact I.EternalOk_ok
    · exact S.EternalOk_ok
    · exact L.alive_ok
    · exact I.AnswerOf_ok
    · exact I.GuardMoved_ok
    · exact I.SecureOk_ok
  · intro args h κ r hh
    simp only [L.FnEternalOk_s] at hh
    split at hh
    · exact (L.FnEternalOk_den _ κ).trans hh
    · cases hh
  · intro args h κ r hh
    simp only [L.FnEternalOk_s] at hh ⊢
    split at hh
    · exact optC_law2 (F := fun (r : Bool) κ => κ (.bool r) []) (fun b κ r hb => ⟨_, _, hb, fun _ => rfl⟩) hh
    · cases hh
  · intro _ args h κ r hh
    simp only [L.FnEternalOk_s] at hh
    split at hh
    · exact ⟨rfl, fun _ => rfl⟩
    · cases hh

-- loop.example/guardsonnets/laws.toIntS
noncomputable def L.toIntS_T : List (Nat × D.Spec) := []
def L.toIntS_ann : Nat → List Nat × List Nat
  | 3 => ([0, 3, 4], [3])
  | _ => ([], [])
noncomputable def L.toIntS_F (args : List V) (h : List E) (κ : V → List E → R) : R := funC TD (tableK L.toIntS_T) L.toIntS_ann (drawOk (tableP L.toIntS_T)) FUEL Try.f20 args h κ
noncomputable def L.toIntS_L3 (n : Nat) (σ : St) (k : X → St → R) : R := iterC 0 (fun σ k => denC TD (tableK L.toIntS_T) L.toIntS_ann (drawOk (tableP L.toIntS_T)) 0 FUEL ((findLoop 3 (Try.f20.body.getD .skip)).getD .skip) σ k) [0, 3, 4] [3] n σ k
noncomputable def L.toIntS_k3 (κ : V → List E → R) : X → St → R := (afterC TD (tableK L.toIntS_T) L.toIntS_ann (drawOk (tableP L.toIntS_T)) 0 FUEL 3 (Try.f20.body.getD .skip) (finC TD 0 Try.f20 κ)).getD (fun _ _ => none)
noncomputable def L.toIntS_step3 {α : Type} (x0 : List Int) (x4 : Int) (r0 : List Int) (next_ : Int × (List Int) → α) (out0_ : List Int → α) (fail_ : α) : α :=
  (bif decide (x4 < (↑x0.length : Int)) then (bif decide (0 ≤ x4) && decide (x4 < (↑x0.length : Int)) then (bif decide (0 ≤ x4) && decide (x4 < (↑r0.length : Int)) then (bif decide (x4.toNat < r0.length) then (next_ (IntKind.i64.wrap (x4 + 1), r0.set x4.toNat (eli x0 x4.toNat))) else fail_) else fail_) else fail_) else (out0_ r0))
theorem L.toIntS_step3_nat {α γ : Type} (g : α → γ) (x0 : List Int) (x4 : Int) (r0 : List Int) (next_ : Int × (List Int) → α) (out0_ : List Int → α) (fail_ : α) : g (L.toIntS_step3 x0 x4 r0 next_ out0_ fail_) = L.toIntS_step3 x0 x4 r0 (fun s => g (next_ s)) (fun d => g (out0_ d)) (g fail_) := by
  unfold L.toIntS_step3; simp only [apply_cnd g, apply_optC g, apply_sumC g]
noncomputable def L.toIntS_run3 (x0 : List Int) : Nat → Int × (List Int) → Option (List Int)
  | 0, _ => none
  | n + 1, s_ => L.toIntS_step3 x0 s_.1 s_.2 (L.toIntS_run3 x0 n) (fun d => some d) none
theorem L.toIntS_L3_run (x0 : List Int) (n : Nat) (s_ : Int × (List Int)) (k : X → St → R) : L.toIntS_L3 n { n := 22, t := [(0, (.ro false (.ints .i64 x0))), (3, (.own 0)), (4, (.int .i64 s_.1))], h := [.row (.ints .i64 s_.2)] } k = optC (L.toIntS_run3 x0 n s_) (fun (r : List Int) => k (.exit 0) { n := 22, t := [(3, (.own 0))], h := [.row (.ints .i64 r)] }) none := by
  induction n generalizing s_ with
  | zero => rfl
  | succ n ih =>
    have hu : L.toIntS_L3 (n + 1) { n := 22, t := [(0, (.ro false (.ints .i64 x0))), (3, (.own 0)), (4, (.int .i64 s_.1))], h := [.row (.ints .i64 s_.2)] } k = L.toIntS_step3 x0 s_.1 s_.2 (fun s_ => L.toIntS_L3 n { n := 22, t := [(0, (.ro false (.ints .i64 x0))), (3, (.own 0)), (4, (.int .i64 s_.1))], h := [.row (.ints .i64 s_.2)] } k) (fun d => k (.exit 0) { n := 22, t := [(3, (.own 0))], h := [.row (.ints .i64 d)] }) none := by
      kernel_rfl
    have hs : (fun s_ : Int × (List Int) => L.toIntS_L3 n { n := 22, t := [(0, (.ro false (.ints .i64 x0))), (3, (.own 0)), (4, (.int .i64 s_.1))], h := [.row (.ints .i64 s_.2)] } k) = fun s_ => optC (L.toIntS_run3 x0 n s_) (fun (r : List Int) => k (.exit 0) { n := 22, t := [(3, (.own 0))], h := [.row (.ints .i64 r)] }) none := funext ih
    rw [hu, hs]
    exact (L.toIntS_step3_nat (fun o => optC o (fun (r : List Int) => k (.exit 0) { n := 22, t := [(3, (.own 0))], h := [.row (.ints .i64 r)] }) none) x0 s_.1 s_.2 (L.toIntS_run3 x0 n) (fun d => some d) none).symm
noncomputable def L.toIntS_tree {α : Type} (a : List Int) (leaf0_ : List Int → α) (fail_ : α) : α :=
  (bif small (↑a.length : Int).toNat && true then (optC (L.toIntS_run3 a FUEL (0, List.replicate (↑a.length : Int).toNat 0)) (fun qy_1 => (leaf0_ qy_1)) fail_) else fail_)
theorem L.toIntS_tree_nat {α γ : Type} (g : α → γ) (a : List Int) (leaf0_ : List Int → α) (fail_ : α) : g (L.toIntS_tree a leaf0_ fail_) = L.toIntS_tree a (fun d => g (leaf0_ d)) (g fail_) := by
  unfold L.toIntS_tree; simp only [apply_cnd g, apply_optC g, apply_sumC g]
noncomputable def L.toIntS_t (a : List Int) : Option (List Int) := L.toIntS_tree a (fun d => some d) none
theorem L.toIntS_den (a : List Int) (κ : V → List E → R) : L.toIntS_F [.ro false (.ints .i64 a)] [] κ = optC (L.toIntS_t a) (fun (r : List Int) => κ (.own 0) [.row (.ints .i64 r)]) none := by
  have hu : L.toIntS_F [.ro false (.ints .i64 a)] [] κ = L.toIntS_tree a (fun d => κ (.own 0) [.row (.ints .i64 d)]) none := by
    refine Eq.trans (show L.toIntS_F [.ro false (.ints .i64 a)] [] κ = (bif small (↑a.length : Int).toNat && true then (L.toIntS_L3 FUEL { n := 22, t := [(0, (.ro false (.ints .i64 a))), (3, (.own 0)), (4, (.int .i64 0))], h := [.row (.ints .i64 (List.replicate (↑a.length : Int).toNat 0))] } (L.toIntS_k3 κ)) else none) by kernel_rfl) ?_
    refine cnd_congr ?_ ?_
    · refine (L.toIntS_L3_run a FUEL (0, List.replicate (↑a.length : Int).toNat 0) (L.toIntS_k3 κ)).trans (optC_congr (fun qy_1 => ?_))
      kernel_rfl
    · kernel_rfl
  rw [hu]
  exact (L.toIntS_tree_nat (fun o => optC o (fun (r : List Int) => κ (.own 0) [.row (.ints .i64 r)]) none) a (fun d => some d) none).symm
noncomputable def L.toIntS_s : D.Spec where
  keep := false
  pure := false
  ds := [.int .i64]
  sp := fun args h κ => match args, h with
    | [.ro false (.ints .i64 a)], [] => optC (L.toIntS_t a) (fun (r : List Int) => κ (.own 0) [.row (.ints .i64 r)]) none
    | _, _ => none
theorem L.toIntS_ok : SpecOk Try.prog 20 L.toIntS_s := by
  refine SpecOk.of TDok mixed (T := L.toIntS_T) ?_ (ann := L.toIntS_ann) Try.func20 rfl (by decide +kernel) ?_ ?_ ?_
  · intro p hp; cases hp
  · intro args h κ r hh
    simp only [L.toIntS_s] at hh
    split at hh
    · exact (L.toIntS_den _ κ).trans hh
    · cases hh
  · intro args h κ r hh
    simp only [L.toIntS_s] at hh ⊢
    split at hh
    · exact optC_law2 (F := fun (r : List Int) κ => κ (.own 0) [.row (.ints .i64 r)]) (fun b κ r hb => ⟨_, _, hb, fun _ => rfl⟩) hh
    · cases hh
  · intro hh; cases hh

-- loop.example/guardsonnets/laws.eqIntS
noncomputable def L.eqIntS_T : List (Nat × D.Spec) := []
def L.eqIntS_ann : Nat → List Nat × List Nat
  | 4 => ([0, 1, 5], [4])
  | _ => ([], [])
noncomputable def L.eqIntS_F (args : List V) (h : List E) (κ : V → List E → R) : R := funC TD (tableK L.eqIntS_T) L.eqIntS_ann (drawOk (tableP L.eqIntS_T)) FUEL Try.f21 args h κ
noncomputable def L.eqIntS_L4 (n : Nat) (σ : St) (k : X → St → R) : R := iterC 0 (fun σ k => denC TD (tableK L.eqIntS_T) L.eqIntS_ann (drawOk (tableP L.eqIntS_T)) 0 FUEL ((findLoop 4 (Try.f21.body.getD .skip)).getD .skip) σ k) [0, 1, 5] [4] n σ k
noncomputable def L.eqIntS_k4 (κ : V → List E → R) : X → St → R := (afterC TD (tableK L.eqIntS_T) L.eqIntS_ann (drawOk (tableP L.eqIntS_T)) 0 FUEL 4 (Try.f21.body.getD .skip) (finC TD 0 Try.f21 κ)).getD (fun _ _ => none)
noncomputable def L.eqIntS_step4 {α : Type} (x0 : List Int) (x1 : List Int) (x5 : Int) (next_ : Int → α) (out0_ : Bool → α) (out1_ : Unit → α) (fail_ : α) : α :=
  (bif decide (x5 < (↑x0.length : Int)) then (bif decide (0 ≤ x5) && decide (x5 < (↑x0.length : Int)) then (bif decide (0 ≤ x5) && decide (x5 < (↑x1.length : Int)) then (bif !eli x0 x5.toNat == eli x1 x5.toNat then (out0_ false) else (next_ (IntKind.i64.wrap (x5 + 1)))) else fail_) else fail_) else (out1_ ()))
theorem L.eqIntS_step4_nat {α γ : Type} (g : α → γ) (x0 : List Int) (x1 : List Int) (x5 : Int) (next_ : Int → α) (out0_ : Bool → α) (out1_ : Unit → α) (fail_ : α) : g (L.eqIntS_step4 x0 x1 x5 next_ out0_ out1_ fail_) = L.eqIntS_step4 x0 x1 x5 (fun s => g (next_ s)) (fun d => g (out0_ d)) (fun d => g (out1_ d)) (g fail_) := by
  unfold L.eqIntS_step4; simp only [apply_cnd g, apply_optC g, apply_sumC g]
noncomputable def L.eqIntS_run4 (x0 : List Int) (x1 : List Int) : Nat → Int → Option ((Bool) ⊕ (Unit))
  | 0, _ => none
  | n + 1, s_ => L.eqIntS_step4 x0 x1 s_ (L.eqIntS_run4 x0 x1 n) (fun d => some ((Sum.inl d))) (fun d => some ((Sum.inr d))) none
theorem L.eqIntS_L4_run (x0 : List Int) (x1 : List Int) (n : Nat) (s_ : Int) (k : X → St → R) : L.eqIntS_L4 n { n := 26, t := [(0, (.ro false (.ints .i64 x0))), (1, (.ro false (.ints .i64 x1))), (5, (.int .i64 s_))], h := [] } k = optC (L.eqIntS_run4 x0 x1 n s_) (fun (r : (Bool) ⊕ (Unit)) => (sumC r (fun (r : Bool) => k (.ret) { n := 26, t := [(4, (.bool r))], h := [] }) (fun (r : Unit) => k (.exit 0) { n := 26, t := [(4, .junk)], h := [] }))) none := by
  induction n generalizing s_ with
  | zero => rfl
  | succ n ih =>
    have hu : L.eqIntS_L4 (n + 1) { n := 26, t := [(0, (.ro false (.ints .i64 x0))), (1, (.ro false (.ints .i64 x1))), (5, (.int .i64 s_))], h := [] } k = L.eqIntS_step4 x0 x1 s_ (fun s_ => L.eqIntS_L4 n { n := 26, t := [(0, (.ro false (.ints .i64 x0))), (1, (.ro false (.ints .i64 x1))), (5, (.int .i64 s_))], h := [] } k) (fun d => k (.ret) { n := 26, t := [(4, (.bool d))], h := [] }) (fun d => k (.exit 0) { n := 26, t := [(4, .junk)], h := [] }) none := by
      kernel_rfl
    have hs : (fun s_ : Int => L.eqIntS_L4 n { n := 26, t := [(0, (.ro false (.ints .i64 x0))), (1, (.ro false (.ints .i64 x1))), (5, (.int .i64 s_))], h := [] } k) = fun s_ => optC (L.eqIntS_run4 x0 x1 n s_) (fun (r : (Bool) ⊕ (Unit)) => (sumC r (fun (r : Bool) => k (.ret) { n := 26, t := [(4, (.bool r))], h := [] }) (fun (r : Unit) => k (.exit 0) { n := 26, t := [(4, .junk)], h := [] }))) none := funext ih
    rw [hu, hs]
    exact (L.eqIntS_step4_nat (fun o => optC o (fun (r : (Bool) ⊕ (Unit)) => (sumC r (fun (r : Bool) => k (.ret) { n := 26, t := [(4, (.bool r))], h := [] }) (fun (r : Unit) => k (.exit 0) { n := 26, t := [(4, .junk)], h := [] }))) none) x0 x1 s_ (L.eqIntS_run4 x0 x1 n) (fun d => some ((Sum.inl d))) (fun d => some ((Sum.inr d))) none).symm
noncomputable def L.eqIntS_tree {α : Type} (a : List Int) (b_ : List Int) (leaf0_ : Bool → α) (fail_ : α) : α :=
  (bif !(↑a.length : Int) == (↑b_.length : Int) then (leaf0_ false) else (optC (L.eqIntS_run4 a b_ FUEL 0) (fun qy_1 => (sumC qy_1 (fun (qy_1 : Bool) => (leaf0_ qy_1)) (fun (qy_1 : Unit) => (leaf0_ true)))) fail_))
theorem L.eqIntS_tree_nat {α γ : Type} (g : α → γ) (a : List Int) (b_ : List Int) (leaf0_ : Bool → α) (fail_ : α) : g (L.eqIntS_tree a b_ leaf0_ fail_) = L.eqIntS_tree a b_ (fun d => g (leaf0_ d)) (g fail_) := by
  unfold L.eqIntS_tree; simp only [apply_cnd g, apply_optC g, apply_sumC g]
noncomputable def L.eqIntS_t (a : List Int) (b_ : List Int) : Option (Bool) := L.eqIntS_tree a b_ (fun d => some d) none
theorem L.eqIntS_den (a : List Int) (b_ : List Int) (κ : V → List E → R) : L.eqIntS_F [.ro false (.ints .i64 a), .ro false (.ints .i64 b_)] [] κ = optC (L.eqIntS_t a b_) (fun (r : Bool) => κ (.bool r) []) none := by
  have hu : L.eqIntS_F [.ro false (.ints .i64 a), .ro false (.ints .i64 b_)] [] κ = L.eqIntS_tree a b_ (fun d => κ (.bool d) []) none := by
    refine Eq.trans (show L.eqIntS_F [.ro false (.ints .i64 a), .ro false (.ints .i64 b_)] [] κ = (bif !(↑a.length : Int) == (↑b_.length : Int) then (κ (.bool false) []) else (L.eqIntS_L4 FUEL { n := 26, t := [(0, (.ro false (.ints .i64 a))), (1, (.ro false (.ints .i64 b_))), (5, (.int .i64 0))], h := [] } (L.eqIntS_k4 κ))) by kernel_rfl) ?_
    refine cnd_congr ?_ ?_
    · kernel_rfl
    · refine (L.eqIntS_L4_run a b_ FUEL 0 (L.eqIntS_k4 κ)).trans (optC_congr (fun qy_1 => ?_))
      rcases qy_1 with qy_1 | qy_1
      · kernel_rfl
      · kernel_rfl
  rw [hu]
  exact (L.eqIntS_tree_nat (fun o => optC o (fun (r : Bool) => κ (.bool r) []) none) a b_ (fun d => some d) none).symm
noncomputable def L.eqIntS_s : D.Spec where
  keep := false
  pure := true
  ds := [.int .i64, .int .i64]
  sp := fun args h κ => match args, h with
    | [.ro false (.ints .i64 a), .ro false (.ints .i64 b_)], [] => optC (L.eqIntS_t a b_) (fun (r : Bool) => κ (.bool r) []) none
    | _, _ => none
theorem L.eqIntS_ok : SpecOk Try.prog 21 L.eqIntS_s := by
  refine SpecOk.of TDok mixed (T := L.eqIntS_T) ?_ (ann := L.eqIntS_ann) Try.func21 rfl (by decide +kernel) ?_ ?_ ?_
  · intro p hp; cases hp
  · intro args h κ r hh
    simp only [L.eqIntS_s] at hh
    split at hh
    · exact (L.eqIntS_den _ _ κ).trans hh
    · cases hh
  · intro args h κ r hh
    simp only [L.eqIntS_s] at hh ⊢
    split at hh
    · exact optC_law2 (F := fun (r : Bool) κ => κ (.bool r) []) (fun b κ r hb => ⟨_, _, hb, fun _ => rfl⟩) hh
    · cases hh
  · intro _ args h κ r hh
    simp only [L.eqIntS_s] at hh
    split at hh
    · exact ⟨rfl, fun _ => rfl⟩
    · cases hh

-- loop.example/guardsonnets/laws.FnExactEternalOk
noncomputable def L.FnExactEternalOk_T : List (Nat × D.Spec) := [(20, L.toIntS_s), (15, S.EternalOk_s), (14, I.EternalOk_s), (21, L.eqIntS_s)]
def L.FnExactEternalOk_ann : Nat → List Nat × List Nat
  | _ => ([], [])
noncomputable def L.FnExactEternalOk_F (args : List V) (h : List E) (κ : V → List E → R) : R := funC TD (tableK L.FnExactEternalOk_T) L.FnExactEternalOk_ann (drawOk (tableP L.FnExactEternalOk_T)) FUEL Try.f4 args h κ
noncomputable def L.FnExactEternalOk_tree {α : Type} (aNet : List Int) (aSet : Int) (leaf0_ : Bool → α) (fail_ : α) : α :=
  (bif decide ((↑aNet.length : Int) > 1048576) then (leaf0_ true) else (optC (L.toIntS_t aNet) (fun c_1 => (optC (S.EternalOk_t c_1 aSet) (fun c_2 => (optC (L.toIntS_t aNet) (fun c_3 => (optC (I.EternalOk_t c_3 aSet) (fun c_4 => (bif !c_4 == c_2 then (leaf0_ false) else (optC (L.toIntS_t aNet) (fun c_5 => (optC (L.eqIntS_t c_3 c_5) (fun c_6 => (bif !c_6 then (leaf0_ false) else (leaf0_ true))) fail_)) fail_))) fail_)) fail_)) fail_)) fail_))
theorem L.FnExactEternalOk_tree_nat {α γ : Type} (g : α → γ) (aNet : List Int) (aSet : Int) (leaf0_ : Bool → α) (fail_ : α) : g (L.FnExactEternalOk_tree aNet aSet leaf0_ fail_) = L.FnExactEternalOk_tree aNet aSet (fun d => g (leaf0_ d)) (g fail_) := by
  unfold L.FnExactEternalOk_tree; simp only [apply_cnd g, apply_optC g, apply_sumC g]
noncomputable def L.FnExactEternalOk_t (aNet : List Int) (aSet : Int) : Option (Bool) := L.FnExactEternalOk_tree aNet aSet (fun d => some d) none
theorem L.FnExactEternalOk_den (aNet : List Int) (aSet : Int) (κ : V → List E → R) : L.FnExactEternalOk_F [.ro true (.ints .i64 aNet), .int .i64 aSet] [] κ = optC (L.FnExactEternalOk_t aNet aSet) (fun (r : Bool) => κ (.bool r) []) none := by
  have hu : L.FnExactEternalOk_F [.ro true (.ints .i64 aNet), .int .i64 aSet] [] κ = L.FnExactEternalOk_tree aNet aSet (fun d => κ (.bool d) []) none := by
    kernel_rfl
  rw [hu]
  exact (L.FnExactEternalOk_tree_nat (fun o => optC o (fun (r : Bool) => κ (.bool r) []) none) aNet aSet (fun d => some d) none).symm
noncomputable def L.FnExactEternalOk_s : D.Spec where
  keep := true
  pure := true
  ds := [.int .i64, .invalid]
  sp := fun args h κ => match args, h with
    | [.ro true (.ints .i64 aNet), .int .i64 aSet], [] => optC (L.FnExactEternalOk_t aNet aSet) (fun (r : Bool) => κ (.bool r) []) none
    | _, _ => none
theorem L.FnExactEternalOk_ok : SpecOk Try.prog 4 L.FnExactEternalOk_s := by
  refine SpecOk.of TDok mixed (T := L.FnExactEternalOk_T) ?_ (ann := L.FnExactEternalOk_ann) Try.func4 rfl (by decide +kernel) ?_ ?_ ?_
  · intro p hp
    simp only [L.FnExactEternalOk_T, List.mem_cons, List.not_mem_nil, or_false] at hp
    rcases hp with rfl | rfl | rfl | rfl
    · exact L.toIntS_ok
    · exact S.EternalOk_ok
    · exact I.EternalOk_ok
    · exact L.eqIntS_ok
  · intro args h κ r hh
    simp only [L.FnExactEternalOk_s] at hh
    split at hh
    · exact (L.FnExactEternalOk_den _ _ κ).trans hh
    · cases hh
  · intro args h κ r hh
    simp only [L.FnExactEternalOk_s] at hh ⊢
    split at hh
    · exact optC_law2 (F := fun (r : Bool) κ => κ (.bool r) []) (fun b κ r hb => ⟨_, _, hb, fun _ => rfl⟩) hh
    · cases hh
  · intro _ args h κ r hh
    simp only [L.FnExactEternalOk_s] at hh
    split at hh
    · exact ⟨rfl, fun _ => rfl⟩
    · cases hh

-- loop.example/guardsonnets/spec.DrawEternalSets
noncomputable def S.DrawEternalSets_T : List (Nat × D.Spec) := [(43, S.l20Open_s), (53, S.l20Net_s)]
def S.DrawEternalSets_ann : Nat → List Nat × List Nat
  | _ => ([], [])
noncomputable def S.DrawEternalSets_F (args : List V) (h : List E) (κ : V → List E → R) : R := funC TD (tableK S.DrawEternalSets_T) S.DrawEternalSets_ann (drawOk (tableP S.DrawEternalSets_T)) FUEL Try.f22 args h κ
noncomputable def S.DrawEternalSets_tree {α : Type} (code : List Int) (leaf0_ : List Int → α) (fail_ : α) : α :=
  (optC (S.l20Open_t code) (fun c_1 => (optC (S.l20Net_t c_1.fst c_1.snd 9) (fun c_2 => (leaf0_ c_2.snd.snd)) fail_)) fail_)
theorem S.DrawEternalSets_tree_nat {α γ : Type} (g : α → γ) (code : List Int) (leaf0_ : List Int → α) (fail_ : α) : g (S.DrawEternalSets_tree code leaf0_ fail_) = S.DrawEternalSets_tree code (fun d => g (leaf0_ d)) (g fail_) := by
  unfold S.DrawEternalSets_tree; simp only [apply_cnd g, apply_optC g, apply_sumC g]
noncomputable def S.DrawEternalSets_t (code : List Int) : Option (List Int) := S.DrawEternalSets_tree code (fun d => some d) none
theorem S.DrawEternalSets_den (code : List Int) (κ : V → List E → R) : S.DrawEternalSets_F [.ro true (.ints .u8 code)] [] κ = optC (S.DrawEternalSets_t code) (fun (r : List Int) => κ (.own 0) [.row (.ints .i64 r)]) none := by
  have hu : S.DrawEternalSets_F [.ro true (.ints .u8 code)] [] κ = S.DrawEternalSets_tree code (fun d => κ (.own 0) [.row (.ints .i64 d)]) none := by
    kernel_rfl
  rw [hu]
  exact (S.DrawEternalSets_tree_nat (fun o => optC o (fun (r : List Int) => κ (.own 0) [.row (.ints .i64 r)]) none) code (fun d => some d) none).symm
noncomputable def S.DrawEternalSets_s : D.Spec where
  keep := true
  pure := false
  ds := [.int .u8]
  sp := fun args h κ => match args, h with
    | [.ro true (.ints .u8 code)], [] => optC (S.DrawEternalSets_t code) (fun (r : List Int) => κ (.own 0) [.row (.ints .i64 r)]) none
    | _, _ => none
theorem S.DrawEternalSets_ok : SpecOk Try.prog 22 S.DrawEternalSets_s := by
  refine SpecOk.of TDok mixed (T := S.DrawEternalSets_T) ?_ (ann := S.DrawEternalSets_ann) Try.func22 rfl (by decide +kernel) ?_ ?_ ?_
  · intro p hp
    simp only [S.DrawEternalSets_T, List.mem_cons, List.not_mem_nil, or_false] at hp
    rcases hp with rfl | rfl
    · exact S.l20Open_ok
    · exact S.l20Net_ok
  · intro args h κ r hh
    simp only [S.DrawEternalSets_s] at hh
    split at hh
    · exact (S.DrawEternalSets_den _ κ).trans hh
    · cases hh
  · intro args h κ r hh
    simp only [S.DrawEternalSets_s] at hh ⊢
    split at hh
    · exact optC_law2 (F := fun (r : List Int) κ => κ (.own 0) [.row (.ints .i64 r)]) (fun b κ r hb => ⟨_, _, hb, fun _ => rfl⟩) hh
    · cases hh
  · intro hh; cases hh

-- loop.example/guardsonnets/impl.EternalSets
noncomputable def I.EternalSets_T : List (Nat × D.Spec) := [(26, I.NetOk_s), (45, I.eternalIn_s), (54, I.allOf_s)]
def I.EternalSets_ann : Nat → List Nat × List Nat
  | 6 => ([0, 3, 4, 5], [3])
  | _ => ([], [])
noncomputable def I.EternalSets_F (args : List V) (h : List E) (κ : V → List E → R) : R := funC TD (tableK I.EternalSets_T) I.EternalSets_ann (drawOk (tableP I.EternalSets_T)) FUEL Try.f23 args h κ
noncomputable def I.EternalSets_L6 (n : Nat) (σ : St) (k : X → St → R) : R := iterC 0 (fun σ k => denC TD (tableK I.EternalSets_T) I.EternalSets_ann (drawOk (tableP I.EternalSets_T)) 0 FUEL ((findLoop 6 (Try.f23.body.getD .skip)).getD .skip) σ k) [0, 3, 4, 5] [3] n σ k
noncomputable def I.EternalSets_k6 (κ : V → List E → R) : X → St → R := (afterC TD (tableK I.EternalSets_T) I.EternalSets_ann (drawOk (tableP I.EternalSets_T)) 0 FUEL 6 (Try.f23.body.getD .skip) (finC TD 0 Try.f23 κ)).getD (fun _ _ => none)
noncomputable def I.EternalSets_step6 {α : Type} (x0 : List Int) (x5 : Int) (r0 : List Int) (r1 : List Bool) (next_ : Int × (List Int) × (List Bool) → α) (out0_ : List Int → α) (fail_ : α) : α :=
  (optC (I.allOf_t x0) (fun c_3 => (bif decide (x5 ≤ c_3) then (bif decide (0 ≤ x5) && decide (x5 < (↑r1.length : Int)) then (bif decide (x5.toNat < r1.length) then (bif elb r1 x5.toNat then (bif small (r0 ++ [x5]).length then (next_ (IntKind.i64.wrap (x5 + 1), r0 ++ [x5], r1)) else fail_) else (next_ (IntKind.i64.wrap (x5 + 1), r0, r1))) else fail_) else fail_) else (out0_ r0))) fail_)
theorem I.EternalSets_step6_nat {α γ : Type} (g : α → γ) (x0 : List Int) (x5 : Int) (r0 : List Int) (r1 : List Bool) (next_ : Int × (List Int) × (List Bool) → α) (out0_ : List Int → α) (fail_ : α) : g (I.EternalSets_step6 x0 x5 r0 r1 next_ out0_ fail_) = I.EternalSets_step6 x0 x5 r0 r1 (fun s => g (next_ s)) (fun d => g (out0_ d)) (g fail_) := by
  unfold I.EternalSets_step6; simp only [apply_cnd g, apply_optC g, apply_sumC g]
noncomputable def I.EternalSets_run6 (x0 : List Int) : Nat → Int × (List Int) × (List Bool) → Option (List Int)
  | 0, _ => none
  | n + 1, s_ => I.EternalSets_step6 x0 s_.1 s_.2.1 s_.2.2 (I.EternalSets_run6 x0 n) (fun d => some d) none
theorem I.EternalSets_L6_run (x0 : List Int) (n : Nat) (s_ : Int × (List Int) × (List Bool)) (k : X → St → R) : I.EternalSets_L6 n { n := 27, t := [(0, (.ro false (.ints .i64 x0))), (3, (.own 0)), (4, (.own 1)), (5, (.int .i64 s_.1))], h := [.row (.ints .i64 s_.2.1), .row (.bools s_.2.2)] } k = optC (I.EternalSets_run6 x0 n s_) (fun (r : List Int) => k (.exit 0) { n := 27, t := [(3, (.own 0))], h := [.row (.ints .i64 r)] }) none := by
  induction n generalizing s_ with
  | zero => rfl
  | succ n ih =>
    have hu : I.EternalSets_L6 (n + 1) { n := 27, t := [(0, (.ro false (.ints .i64 x0))), (3, (.own 0)), (4, (.own 1)), (5, (.int .i64 s_.1))], h := [.row (.ints .i64 s_.2.1), .row (.bools s_.2.2)] } k = I.EternalSets_step6 x0 s_.1 s_.2.1 s_.2.2 (fun s_ => I.EternalSets_L6 n { n := 27, t := [(0, (.ro false (.ints .i64 x0))), (3, (.own 0)), (4, (.own 1)), (5, (.int .i64 s_.1))], h := [.row (.ints .i64 s_.2.1), .row (.bools s_.2.2)] } k) (fun d => k (.exit 0) { n := 27, t := [(3, (.own 0))], h := [.row (.ints .i64 d)] }) none := by
      kernel_rfl
    have hs : (fun s_ : Int × (List Int) × (List Bool) => I.EternalSets_L6 n { n := 27, t := [(0, (.ro false (.ints .i64 x0))), (3, (.own 0)), (4, (.own 1)), (5, (.int .i64 s_.1))], h := [.row (.ints .i64 s_.2.1), .row (.bools s_.2.2)] } k) = fun s_ => optC (I.EternalSets_run6 x0 n s_) (fun (r : List Int) => k (.exit 0) { n := 27, t := [(3, (.own 0))], h := [.row (.ints .i64 r)] }) none := funext ih
    rw [hu, hs]
    exact (I.EternalSets_step6_nat (fun o => optC o (fun (r : List Int) => k (.exit 0) { n := 27, t := [(3, (.own 0))], h := [.row (.ints .i64 r)] }) none) x0 s_.1 s_.2.1 s_.2.2 (I.EternalSets_run6 x0 n) (fun d => some d) none).symm
noncomputable def I.EternalSets_tree {α : Type} (net : List Int) (leaf0_ : List Int → α) (fail_ : α) : α :=
  (optC (I.NetOk_t net) (fun c_1 => (bif !c_1 then (leaf0_ ([])) else (optC (I.eternalIn_t net) (fun c_2 => (optC (I.EternalSets_run6 net FUEL (0, [], c_2)) (fun qy_4 => (leaf0_ qy_4)) fail_)) fail_))) fail_)
theorem I.EternalSets_tree_nat {α γ : Type} (g : α → γ) (net : List Int) (leaf0_ : List Int → α) (fail_ : α) : g (I.EternalSets_tree net leaf0_ fail_) = I.EternalSets_tree net (fun d => g (leaf0_ d)) (g fail_) := by
  unfold I.EternalSets_tree; simp only [apply_cnd g, apply_optC g, apply_sumC g]
noncomputable def I.EternalSets_t (net : List Int) : Option (List Int) := I.EternalSets_tree net (fun d => some d) none
theorem I.EternalSets_den (net : List Int) (κ : V → List E → R) : I.EternalSets_F [.ro false (.ints .i64 net)] [] κ = optC (I.EternalSets_t net) (fun (r : List Int) => κ (.own 0) [.row (.ints .i64 r)]) none := by
  have hu : I.EternalSets_F [.ro false (.ints .i64 net)] [] κ = I.EternalSets_tree net (fun d => κ (.own 0) [.row (.ints .i64 d)]) none := by
    refine Eq.trans (show I.EternalSets_F [.ro false (.ints .i64 net)] [] κ = (optC (I.NetOk_t net) (fun c_1 => (bif !c_1 then (κ (.own 0) [.row (.ints .i64 ([]))]) else (optC (I.eternalIn_t net) (fun c_2 => (I.EternalSets_L6 FUEL { n := 27, t := [(0, (.ro false (.ints .i64 net))), (3, (.own 0)), (4, (.own 1)), (5, (.int .i64 0))], h := [.row (.ints .i64 ([])), .row (.bools c_2)] } (I.EternalSets_k6 κ))) none))) none) by kernel_rfl) ?_
    refine optC_congr (fun c_1 => ?_)
    refine cnd_congr ?_ ?_
    · kernel_rfl
    · refine optC_congr (fun c_2 => ?_)
      refine (I.EternalSets_L6_run net FUEL (0, [], c_2) (I.EternalSets_k6 κ)).trans (optC_congr (fun qy_4 => ?_))
      kernel_rfl
  rw [hu]
  exact (I.EternalSets_tree_nat (fun o => optC o (fun (r : List Int) => κ (.own 0) [.row (.ints .i64 r)]) none) net (fun d => some d) none).symm
noncomputable def I.EternalSets_s : D.Spec where
  keep := false
  pure := false
  ds := [.int .i64]
  sp := fun args h κ => match args, h with
    | [.ro false (.ints .i64 net)], [] => optC (I.EternalSets_t net) (fun (r : List Int) => κ (.own 0) [.row (.ints .i64 r)]) none
    | _, _ => none
theorem I.EternalSets_ok : SpecOk Try.prog 23 I.EternalSets_s := by
  refine SpecOk.of TDok mixed (T := I.EternalSets_T) ?_ (ann := I.EternalSets_ann) Try.func23 rfl (by decide +kernel) ?_ ?_ ?_
  · intro p hp
    simp only [I.EternalSets_T, List.mem_cons, List.not_mem_nil, or_false] at hp
    rcases hp with rfl | rfl | rfl
    · exact I.NetOk_ok
    · exact I.eternalIn_ok
    · exact I.allOf_ok
  · intro args h κ r hh
    simp only [I.EternalSets_s] at hh
    split at hh
    · exact (I.EternalSets_den _ κ).trans hh
    · cases hh
  · intro args h κ r hh
    simp only [I.EternalSets_s] at hh ⊢
    split at hh
    · exact optC_law2 (F := fun (r : List Int) κ => κ (.own 0) [.row (.ints .i64 r)]) (fun b κ r hb => ⟨_, _, hb, fun _ => rfl⟩) hh
    · cases hh
  · intro hh; cases hh

-- loop.example/guardsonnets/laws.sameInts
noncomputable def L.sameInts_T : List (Nat × D.Spec) := []
def L.sameInts_ann : Nat → List Nat × List Nat
  | 4 => ([0, 1, 5], [4])
  | _ => ([], [])
noncomputable def L.sameInts_F (args : List V) (h : List E) (κ : V → List E → R) : R := funC TD (tableK L.sameInts_T) L.sameInts_ann (drawOk (tableP L.sameInts_T)) FUEL Try.f24 args h κ
noncomputable def L.sameInts_L4 (n : Nat) (σ : St) (k : X → St → R) : R := iterC 0 (fun σ k => denC TD (tableK L.sameInts_T) L.sameInts_ann (drawOk (tableP L.sameInts_T)) 0 FUEL ((findLoop 4 (Try.f24.body.getD .skip)).getD .skip) σ k) [0, 1, 5] [4] n σ k
noncomputable def L.sameInts_k4 (κ : V → List E → R) : X → St → R := (afterC TD (tableK L.sameInts_T) L.sameInts_ann (drawOk (tableP L.sameInts_T)) 0 FUEL 4 (Try.f24.body.getD .skip) (finC TD 0 Try.f24 κ)).getD (fun _ _ => none)
noncomputable def L.sameInts_step4 {α : Type} (x0 : List Int) (x1 : List Int) (x5 : Int) (next_ : Int → α) (out0_ : Bool → α) (out1_ : Unit → α) (fail_ : α) : α :=
  (bif decide (x5 < (↑x0.length : Int)) then (bif decide (0 ≤ x5) && decide (x5 < (↑x0.length : Int)) then (bif decide (0 ≤ x5) && decide (x5 < (↑x1.length : Int)) then (bif !eli x0 x5.toNat == eli x1 x5.toNat then (out0_ false) else (next_ (IntKind.i64.wrap (x5 + 1)))) else fail_) else fail_) else (out1_ ()))
theorem L.sameInts_step4_nat {α γ : Type} (g : α → γ) (x0 : List Int) (x1 : List Int) (x5 : Int) (next_ : Int → α) (out0_ : Bool → α) (out1_ : Unit → α) (fail_ : α) : g (L.sameInts_step4 x0 x1 x5 next_ out0_ out1_ fail_) = L.sameInts_step4 x0 x1 x5 (fun s => g (next_ s)) (fun d => g (out0_ d)) (fun d => g (out1_ d)) (g fail_) := by
  unfold L.sameInts_step4; simp only [apply_cnd g, apply_optC g, apply_sumC g]
noncomputable def L.sameInts_run4 (x0 : List Int) (x1 : List Int) : Nat → Int → Option ((Bool) ⊕ (Unit))
  | 0, _ => none
  | n + 1, s_ => L.sameInts_step4 x0 x1 s_ (L.sameInts_run4 x0 x1 n) (fun d => some ((Sum.inl d))) (fun d => some ((Sum.inr d))) none
theorem L.sameInts_L4_run (x0 : List Int) (x1 : List Int) (n : Nat) (s_ : Int) (k : X → St → R) : L.sameInts_L4 n { n := 26, t := [(0, (.ro false (.ints .i64 x0))), (1, (.ro false (.ints .i64 x1))), (5, (.int .i64 s_))], h := [] } k = optC (L.sameInts_run4 x0 x1 n s_) (fun (r : (Bool) ⊕ (Unit)) => (sumC r (fun (r : Bool) => k (.ret) { n := 26, t := [(4, (.bool r))], h := [] }) (fun (r : Unit) => k (.exit 0) { n := 26, t := [(4, .junk)], h := [] }))) none := by
  induction n generalizing s_ with
  | zero => rfl
  | succ n ih =>
    have hu : L.sameInts_L4 (n + 1) { n := 26, t := [(0, (.ro false (.ints .i64 x0))), (1, (.ro false (.ints .i64 x1))), (5, (.int .i64 s_))], h := [] } k = L.sameInts_step4 x0 x1 s_ (fun s_ => L.sameInts_L4 n { n := 26, t := [(0, (.ro false (.ints .i64 x0))), (1, (.ro false (.ints .i64 x1))), (5, (.int .i64 s_))], h := [] } k) (fun d => k (.ret) { n := 26, t := [(4, (.bool d))], h := [] }) (fun d => k (.exit 0) { n := 26, t := [(4, .junk)], h := [] }) none := by
      kernel_rfl
    have hs : (fun s_ : Int => L.sameInts_L4 n { n := 26, t := [(0, (.ro false (.ints .i64 x0))), (1, (.ro false (.ints .i64 x1))), (5, (.int .i64 s_))], h := [] } k) = fun s_ => optC (L.sameInts_run4 x0 x1 n s_) (fun (r : (Bool) ⊕ (Unit)) => (sumC r (fun (r : Bool) => k (.ret) { n := 26, t := [(4, (.bool r))], h := [] }) (fun (r : Unit) => k (.exit 0) { n := 26, t := [(4, .junk)], h := [] }))) none := funext ih
    rw [hu, hs]
    exact (L.sameInts_step4_nat (fun o => optC o (fun (r : (Bool) ⊕ (Unit)) => (sumC r (fun (r : Bool) => k (.ret) { n := 26, t := [(4, (.bool r))], h := [] }) (fun (r : Unit) => k (.exit 0) { n := 26, t := [(4, .junk)], h := [] }))) none) x0 x1 s_ (L.sameInts_run4 x0 x1 n) (fun d => some ((Sum.inl d))) (fun d => some ((Sum.inr d))) none).symm
noncomputable def L.sameInts_tree {α : Type} (a : List Int) (b_ : List Int) (leaf0_ : Bool → α) (fail_ : α) : α :=
  (bif !(↑a.length : Int) == (↑b_.length : Int) then (leaf0_ false) else (optC (L.sameInts_run4 a b_ FUEL 0) (fun qy_1 => (sumC qy_1 (fun (qy_1 : Bool) => (leaf0_ qy_1)) (fun (qy_1 : Unit) => (leaf0_ true)))) fail_))
theorem L.sameInts_tree_nat {α γ : Type} (g : α → γ) (a : List Int) (b_ : List Int) (leaf0_ : Bool → α) (fail_ : α) : g (L.sameInts_tree a b_ leaf0_ fail_) = L.sameInts_tree a b_ (fun d => g (leaf0_ d)) (g fail_) := by
  unfold L.sameInts_tree; simp only [apply_cnd g, apply_optC g, apply_sumC g]
noncomputable def L.sameInts_t (a : List Int) (b_ : List Int) : Option (Bool) := L.sameInts_tree a b_ (fun d => some d) none
theorem L.sameInts_den (a : List Int) (b_ : List Int) (κ : V → List E → R) : L.sameInts_F [.ro false (.ints .i64 a), .ro false (.ints .i64 b_)] [] κ = optC (L.sameInts_t a b_) (fun (r : Bool) => κ (.bool r) []) none := by
  have hu : L.sameInts_F [.ro false (.ints .i64 a), .ro false (.ints .i64 b_)] [] κ = L.sameInts_tree a b_ (fun d => κ (.bool d) []) none := by
    refine Eq.trans (show L.sameInts_F [.ro false (.ints .i64 a), .ro false (.ints .i64 b_)] [] κ = (bif !(↑a.length : Int) == (↑b_.length : Int) then (κ (.bool false) []) else (L.sameInts_L4 FUEL { n := 26, t := [(0, (.ro false (.ints .i64 a))), (1, (.ro false (.ints .i64 b_))), (5, (.int .i64 0))], h := [] } (L.sameInts_k4 κ))) by kernel_rfl) ?_
    refine cnd_congr ?_ ?_
    · kernel_rfl
    · refine (L.sameInts_L4_run a b_ FUEL 0 (L.sameInts_k4 κ)).trans (optC_congr (fun qy_1 => ?_))
      rcases qy_1 with qy_1 | qy_1
      · kernel_rfl
      · kernel_rfl
  rw [hu]
  exact (L.sameInts_tree_nat (fun o => optC o (fun (r : Bool) => κ (.bool r) []) none) a b_ (fun d => some d) none).symm
noncomputable def L.sameInts_s : D.Spec where
  keep := false
  pure := true
  ds := [.int .i64, .int .i64]
  sp := fun args h κ => match args, h with
    | [.ro false (.ints .i64 a), .ro false (.ints .i64 b_)], [] => optC (L.sameInts_t a b_) (fun (r : Bool) => κ (.bool r) []) none
    | _, _ => none
theorem L.sameInts_ok : SpecOk Try.prog 24 L.sameInts_s := by
  refine SpecOk.of TDok mixed (T := L.sameInts_T) ?_ (ann := L.sameInts_ann) Try.func24 rfl (by decide +kernel) ?_ ?_ ?_
  · intro p hp; cases hp
  · intro args h κ r hh
    simp only [L.sameInts_s] at hh
    split at hh
    · exact (L.sameInts_den _ _ κ).trans hh
    · cases hh
  · intro args h κ r hh
    simp only [L.sameInts_s] at hh ⊢
    split at hh
    · exact optC_law2 (F := fun (r : Bool) κ => κ (.bool r) []) (fun b κ r hb => ⟨_, _, hb, fun _ => rfl⟩) hh
    · cases hh
  · intro _ args h κ r hh
    simp only [L.sameInts_s] at hh
    split at hh
    · exact ⟨rfl, fun _ => rfl⟩
    · cases hh

-- loop.example/guardsonnets/laws.hasInt
noncomputable def L.hasInt_T : List (Nat × D.Spec) := []
def L.hasInt_ann : Nat → List Nat × List Nat
  | 2 => ([0, 1, 5], [4])
  | _ => ([], [])
noncomputable def L.hasInt_F (args : List V) (h : List E) (κ : V → List E → R) : R := funC TD (tableK L.hasInt_T) L.hasInt_ann (drawOk (tableP L.hasInt_T)) FUEL Try.f27 args h κ
noncomputable def L.hasInt_L2 (n : Nat) (σ : St) (k : X → St → R) : R := iterC 0 (fun σ k => denC TD (tableK L.hasInt_T) L.hasInt_ann (drawOk (tableP L.hasInt_T)) 0 FUEL ((findLoop 2 (Try.f27.body.getD .skip)).getD .skip) σ k) [0, 1, 5] [4] n σ k
noncomputable def L.hasInt_k2 (κ : V → List E → R) : X → St → R := (afterC TD (tableK L.hasInt_T) L.hasInt_ann (drawOk (tableP L.hasInt_T)) 0 FUEL 2 (Try.f27.body.getD .skip) (finC TD 0 Try.f27 κ)).getD (fun _ _ => none)
noncomputable def L.hasInt_step2 {α : Type} (x0 : List Int) (x1 : Int) (x5 : Int) (next_ : Int → α) (out0_ : Bool → α) (out1_ : Unit → α) (fail_ : α) : α :=
  (bif decide (x5 < (↑x0.length : Int)) then (bif decide (0 ≤ x5) && decide (x5 < (↑x0.length : Int)) then (bif eli x0 x5.toNat == x1 then (out0_ true) else (next_ (IntKind.i64.wrap (x5 + 1)))) else fail_) else (out1_ ()))
theorem L.hasInt_step2_nat {α γ : Type} (g : α → γ) (x0 : List Int) (x1 : Int) (x5 : Int) (next_ : Int → α) (out0_ : Bool → α) (out1_ : Unit → α) (fail_ : α) : g (L.hasInt_step2 x0 x1 x5 next_ out0_ out1_ fail_) = L.hasInt_step2 x0 x1 x5 (fun s => g (next_ s)) (fun d => g (out0_ d)) (fun d => g (out1_ d)) (g fail_) := by
  unfold L.hasInt_step2; simp only [apply_cnd g, apply_optC g, apply_sumC g]
noncomputable def L.hasInt_run2 (x0 : List Int) (x1 : Int) : Nat → Int → Option ((Bool) ⊕ (Unit))
  | 0, _ => none
  | n + 1, s_ => L.hasInt_step2 x0 x1 s_ (L.hasInt_run2 x0 x1 n) (fun d => some ((Sum.inl d))) (fun d => some ((Sum.inr d))) none
theorem L.hasInt_L2_run (x0 : List Int) (x1 : Int) (n : Nat) (s_ : Int) (k : X → St → R) : L.hasInt_L2 n { n := 18, t := [(0, (.ro false (.ints .i64 x0))), (1, (.int .i64 x1)), (5, (.int .i64 s_))], h := [] } k = optC (L.hasInt_run2 x0 x1 n s_) (fun (r : (Bool) ⊕ (Unit)) => (sumC r (fun (r : Bool) => k (.ret) { n := 18, t := [(4, (.bool r))], h := [] }) (fun (r : Unit) => k (.exit 0) { n := 18, t := [(4, .junk)], h := [] }))) none := by
  induction n generalizing s_ with
  | zero => rfl
  | succ n ih =>
    have hu : L.hasInt_L2 (n + 1) { n := 18, t := [(0, (.ro false (.ints .i64 x0))), (1, (.int .i64 x1)), (5, (.int .i64 s_))], h := [] } k = L.hasInt_step2 x0 x1 s_ (fun s_ => L.hasInt_L2 n { n := 18, t := [(0, (.ro false (.ints .i64 x0))), (1, (.int .i64 x1)), (5, (.int .i64 s_))], h := [] } k) (fun d => k (.ret) { n := 18, t := [(4, (.bool d))], h := [] }) (fun d => k (.exit 0) { n := 18, t := [(4, .junk)], h := [] }) none := by
      kernel_rfl
    have hs : (fun s_ : Int => L.hasInt_L2 n { n := 18, t := [(0, (.ro false (.ints .i64 x0))), (1, (.int .i64 x1)), (5, (.int .i64 s_))], h := [] } k) = fun s_ => optC (L.hasInt_run2 x0 x1 n s_) (fun (r : (Bool) ⊕ (Unit)) => (sumC r (fun (r : Bool) => k (.ret) { n := 18, t := [(4, (.bool r))], h := [] }) (fun (r : Unit) => k (.exit 0) { n := 18, t := [(4, .junk)], h := [] }))) none := funext ih
    rw [hu, hs]
    exact (L.hasInt_step2_nat (fun o => optC o (fun (r : (Bool) ⊕ (Unit)) => (sumC r (fun (r : Bool) => k (.ret) { n := 18, t := [(4, (.bool r))], h := [] }) (fun (r : Unit) => k (.exit 0) { n := 18, t := [(4, .junk)], h := [] }))) none) x0 x1 s_ (L.hasInt_run2 x0 x1 n) (fun d => some ((Sum.inl d))) (fun d => some ((Sum.inr d))) none).symm
noncomputable def L.hasInt_tree {α : Type} (list : List Int) (n_ : Int) (leaf0_ : Bool → α) (fail_ : α) : α :=
  (optC (L.hasInt_run2 list n_ FUEL 0) (fun qy_1 => (sumC qy_1 (fun (qy_1 : Bool) => (leaf0_ qy_1)) (fun (qy_1 : Unit) => (leaf0_ false)))) fail_)
theorem L.hasInt_tree_nat {α γ : Type} (g : α → γ) (list : List Int) (n_ : Int) (leaf0_ : Bool → α) (fail_ : α) : g (L.hasInt_tree list n_ leaf0_ fail_) = L.hasInt_tree list n_ (fun d => g (leaf0_ d)) (g fail_) := by
  unfold L.hasInt_tree; simp only [apply_cnd g, apply_optC g, apply_sumC g]
noncomputable def L.hasInt_t (list : List Int) (n_ : Int) : Option (Bool) := L.hasInt_tree list n_ (fun d => some d) none
theorem L.hasInt_den (list : List Int) (n_ : Int) (κ : V → List E → R) : L.hasInt_F [.ro false (.ints .i64 list), .int .i64 n_] [] κ = optC (L.hasInt_t list n_) (fun (r : Bool) => κ (.bool r) []) none := by
  have hu : L.hasInt_F [.ro false (.ints .i64 list), .int .i64 n_] [] κ = L.hasInt_tree list n_ (fun d => κ (.bool d) []) none := by
    refine Eq.trans (show L.hasInt_F [.ro false (.ints .i64 list), .int .i64 n_] [] κ = (L.hasInt_L2 FUEL { n := 18, t := [(0, (.ro false (.ints .i64 list))), (1, (.int .i64 n_)), (5, (.int .i64 0))], h := [] } (L.hasInt_k2 κ)) by kernel_rfl) ?_
    refine (L.hasInt_L2_run list n_ FUEL 0 (L.hasInt_k2 κ)).trans (optC_congr (fun qy_1 => ?_))
    rcases qy_1 with qy_1 | qy_1
    · kernel_rfl
    · kernel_rfl
  rw [hu]
  exact (L.hasInt_tree_nat (fun o => optC o (fun (r : Bool) => κ (.bool r) []) none) list n_ (fun d => some d) none).symm
noncomputable def L.hasInt_s : D.Spec where
  keep := false
  pure := true
  ds := [.int .i64, .invalid]
  sp := fun args h κ => match args, h with
    | [.ro false (.ints .i64 list), .int .i64 n_], [] => optC (L.hasInt_t list n_) (fun (r : Bool) => κ (.bool r) []) none
    | _, _ => none
theorem L.hasInt_ok : SpecOk Try.prog 27 L.hasInt_s := by
  refine SpecOk.of TDok mixed (T := L.hasInt_T) ?_ (ann := L.hasInt_ann) Try.func27 rfl (by decide +kernel) ?_ ?_ ?_
  · intro p hp; cases hp
  · intro args h κ r hh
    simp only [L.hasInt_s] at hh
    split at hh
    · exact (L.hasInt_den _ _ κ).trans hh
    · cases hh
  · intro args h κ r hh
    simp only [L.hasInt_s] at hh ⊢
    split at hh
    · exact optC_law2 (F := fun (r : Bool) κ => κ (.bool r) []) (fun b κ r hb => ⟨_, _, hb, fun _ => rfl⟩) hh
    · cases hh
  · intro _ args h κ r hh
    simp only [L.hasInt_s] at hh
    split at hh
    · exact ⟨rfl, fun _ => rfl⟩
    · cases hh

-- loop.example/guardsonnets/laws.ascend
noncomputable def L.ascend_T : List (Nat × D.Spec) := []
def L.ascend_ann : Nat → List Nat × List Nat
  | 2 => ([0, 3], [2])
  | _ => ([], [])
noncomputable def L.ascend_F (args : List V) (h : List E) (κ : V → List E → R) : R := funC TD (tableK L.ascend_T) L.ascend_ann (drawOk (tableP L.ascend_T)) FUEL Try.f28 args h κ
noncomputable def L.ascend_L2 (n : Nat) (σ : St) (k : X → St → R) : R := iterC 0 (fun σ k => denC TD (tableK L.ascend_T) L.ascend_ann (drawOk (tableP L.ascend_T)) 0 FUEL ((findLoop 2 (Try.f28.body.getD .skip)).getD .skip) σ k) [0, 3] [2] n σ k
noncomputable def L.ascend_k2 (κ : V → List E → R) : X → St → R := (afterC TD (tableK L.ascend_T) L.ascend_ann (drawOk (tableP L.ascend_T)) 0 FUEL 2 (Try.f28.body.getD .skip) (finC TD 0 Try.f28 κ)).getD (fun _ _ => none)
noncomputable def L.ascend_step2 {α : Type} (x0 : List Int) (x3 : Int) (next_ : Int → α) (out0_ : Bool → α) (out1_ : Unit → α) (fail_ : α) : α :=
  (bif decide (x3 < (↑x0.length : Int)) then (bif decide (0 ≤ IntKind.i64.wrap (x3 - 1)) && decide (IntKind.i64.wrap (x3 - 1) < (↑x0.length : Int)) then (bif decide (0 ≤ x3) && decide (x3 < (↑x0.length : Int)) then (bif decide (eli x0 (IntKind.i64.wrap (x3 - 1)).toNat ≥ eli x0 x3.toNat) then (out0_ false) else (next_ (IntKind.i64.wrap (x3 + 1)))) else fail_) else fail_) else (out1_ ()))
theorem L.ascend_step2_nat {α γ : Type} (g : α → γ) (x0 : List Int) (x3 : Int) (next_ : Int → α) (out0_ : Bool → α) (out1_ : Unit → α) (fail_ : α) : g (L.ascend_step2 x0 x3 next_ out0_ out1_ fail_) = L.ascend_step2 x0 x3 (fun s => g (next_ s)) (fun d => g (out0_ d)) (fun d => g (out1_ d)) (g fail_) := by
  unfold L.ascend_step2; simp only [apply_cnd g, apply_optC g, apply_sumC g]
noncomputable def L.ascend_run2 (x0 : List Int) : Nat → Int → Option ((Bool) ⊕ (Unit))
  | 0, _ => none
  | n + 1, s_ => L.ascend_step2 x0 s_ (L.ascend_run2 x0 n) (fun d => some ((Sum.inl d))) (fun d => some ((Sum.inr d))) none
theorem L.ascend_L2_run (x0 : List Int) (n : Nat) (s_ : Int) (k : X → St → R) : L.ascend_L2 n { n := 20, t := [(0, (.ro false (.ints .i64 x0))), (3, (.int .i64 s_))], h := [] } k = optC (L.ascend_run2 x0 n s_) (fun (r : (Bool) ⊕ (Unit)) => (sumC r (fun (r : Bool) => k (.ret) { n := 20, t := [(2, (.bool r))], h := [] }) (fun (r : Unit) => k (.exit 0) { n := 20, t := [(2, .junk)], h := [] }))) none := by
  induction n generalizing s_ with
  | zero => rfl
  | succ n ih =>
    have hu : L.ascend_L2 (n + 1) { n := 20, t := [(0, (.ro false (.ints .i64 x0))), (3, (.int .i64 s_))], h := [] } k = L.ascend_step2 x0 s_ (fun s_ => L.ascend_L2 n { n := 20, t := [(0, (.ro false (.ints .i64 x0))), (3, (.int .i64 s_))], h := [] } k) (fun d => k (.ret) { n := 20, t := [(2, (.bool d))], h := [] }) (fun d => k (.exit 0) { n := 20, t := [(2, .junk)], h := [] }) none := by
      kernel_rfl
    have hs : (fun s_ : Int => L.ascend_L2 n { n := 20, t := [(0, (.ro false (.ints .i64 x0))), (3, (.int .i64 s_))], h := [] } k) = fun s_ => optC (L.ascend_run2 x0 n s_) (fun (r : (Bool) ⊕ (Unit)) => (sumC r (fun (r : Bool) => k (.ret) { n := 20, t := [(2, (.bool r))], h := [] }) (fun (r : Unit) => k (.exit 0) { n := 20, t := [(2, .junk)], h := [] }))) none := funext ih
    rw [hu, hs]
    exact (L.ascend_step2_nat (fun o => optC o (fun (r : (Bool) ⊕ (Unit)) => (sumC r (fun (r : Bool) => k (.ret) { n := 20, t := [(2, (.bool r))], h := [] }) (fun (r : Unit) => k (.exit 0) { n := 20, t := [(2, .junk)], h := [] }))) none) x0 s_ (L.ascend_run2 x0 n) (fun d => some ((Sum.inl d))) (fun d => some ((Sum.inr d))) none).symm
noncomputable def L.ascend_tree {α : Type} (list : List Int) (leaf0_ : Bool → α) (fail_ : α) : α :=
  (optC (L.ascend_run2 list FUEL 1) (fun qy_1 => (sumC qy_1 (fun (qy_1 : Bool) => (leaf0_ qy_1)) (fun (qy_1 : Unit) => (leaf0_ true)))) fail_)
theorem L.ascend_tree_nat {α γ : Type} (g : α → γ) (list : List Int) (leaf0_ : Bool → α) (fail_ : α) : g (L.ascend_tree list leaf0_ fail_) = L.ascend_tree list (fun d => g (leaf0_ d)) (g fail_) := by
  unfold L.ascend_tree; simp only [apply_cnd g, apply_optC g, apply_sumC g]
noncomputable def L.ascend_t (list : List Int) : Option (Bool) := L.ascend_tree list (fun d => some d) none
theorem L.ascend_den (list : List Int) (κ : V → List E → R) : L.ascend_F [.ro false (.ints .i64 list)] [] κ = optC (L.ascend_t list) (fun (r : Bool) => κ (.bool r) []) none := by
  have hu : L.ascend_F [.ro false (.ints .i64 list)] [] κ = L.ascend_tree list (fun d => κ (.bool d) []) none := by
    refine Eq.trans (show L.ascend_F [.ro false (.ints .i64 list)] [] κ = (L.ascend_L2 FUEL { n := 20, t := [(0, (.ro false (.ints .i64 list))), (3, (.int .i64 1))], h := [] } (L.ascend_k2 κ)) by kernel_rfl) ?_
    refine (L.ascend_L2_run list FUEL 1 (L.ascend_k2 κ)).trans (optC_congr (fun qy_1 => ?_))
    rcases qy_1 with qy_1 | qy_1
    · kernel_rfl
    · kernel_rfl
  rw [hu]
  exact (L.ascend_tree_nat (fun o => optC o (fun (r : Bool) => κ (.bool r) []) none) list (fun d => some d) none).symm
noncomputable def L.ascend_s : D.Spec where
  keep := false
  pure := true
  ds := [.int .i64]
  sp := fun args h κ => match args, h with
    | [.ro false (.ints .i64 list)], [] => optC (L.ascend_t list) (fun (r : Bool) => κ (.bool r) []) none
    | _, _ => none
theorem L.ascend_ok : SpecOk Try.prog 28 L.ascend_s := by
  refine SpecOk.of TDok mixed (T := L.ascend_T) ?_ (ann := L.ascend_ann) Try.func28 rfl (by decide +kernel) ?_ ?_ ?_
  · intro p hp; cases hp
  · intro args h κ r hh
    simp only [L.ascend_s] at hh
    split at hh
    · exact (L.ascend_den _ κ).trans hh
    · cases hh
  · intro args h κ r hh
    simp only [L.ascend_s] at hh ⊢
    split at hh
    · exact optC_law2 (F := fun (r : Bool) κ => κ (.bool r) []) (fun b κ r hb => ⟨_, _, hb, fun _ => rfl⟩) hh
    · cases hh
  · intro _ args h κ r hh
    simp only [L.ascend_s] at hh
    split at hh
    · exact ⟨rfl, fun _ => rfl⟩
    · cases hh

-- loop.example/guardsonnets/laws.FnEternalSets
noncomputable def L.FnEternalSets_T : List (Nat × D.Spec) := [(22, S.DrawEternalSets_s), (23, I.EternalSets_s), (25, S.EternalSets_s), (24, L.sameInts_s), (26, I.NetOk_s), (16, L.alive_s), (27, L.hasInt_s), (14, I.EternalOk_s), (28, L.ascend_s)]
def L.FnEternalSets_ann : Nat → List Nat × List Nat
  | 10 => ([3, 4, 5], [2, 3, 4])
  | _ => ([], [])
noncomputable def L.FnEternalSets_F (args : List V) (h : List E) (κ : V → List E → R) : R := funC TD (tableK L.FnEternalSets_T) L.FnEternalSets_ann (drawOk (tableP L.FnEternalSets_T)) FUEL Try.f5 args h κ
noncomputable def L.FnEternalSets_L10 (n : Nat) (σ : St) (k : X → St → R) : R := iterC 0 (fun σ k => denC TD (tableK L.FnEternalSets_T) L.FnEternalSets_ann (drawOk (tableP L.FnEternalSets_T)) 0 FUEL ((findLoop 10 (Try.f5.body.getD .skip)).getD .skip) σ k) [3, 4, 5] [2, 3, 4] n σ k
noncomputable def L.FnEternalSets_k10 (κ : V → List E → R) : X → St → R := (afterC TD (tableK L.FnEternalSets_T) L.FnEternalSets_ann (drawOk (tableP L.FnEternalSets_T)) 0 FUEL 10 (Try.f5.body.getD .skip) (finC TD 0 Try.f5 κ)).getD (fun _ _ => none)
noncomputable def L.FnEternalSets_step10 {α : Type} (x5 : Int) (r0 : List Int) (r1 : List Int) (next_ : Int × (List Int) × (List Int) → α) (out0_ : Bool × (List Int) × (List Int) → α) (out1_ : (List Int) × (List Int) → α) (fail_ : α) : α :=
  (bif decide (x5 < IntKind.i64.wrap (1 * 2 ^ min (↑r0.length : Int).toNat IntKind.i64.bits)) then (optC (L.hasInt_t r1 x5) (fun c_7 => (optC (I.EternalOk_t r0 x5) (fun c_8 => (bif !c_7 == c_8 then (out0_ (false, r0, r1)) else (next_ (IntKind.i64.wrap (x5 + 1), r0, r1)))) fail_)) fail_) else (out1_ (r0, r1)))
theorem L.FnEternalSets_step10_nat {α γ : Type} (g : α → γ) (x5 : Int) (r0 : List Int) (r1 : List Int) (next_ : Int × (List Int) × (List Int) → α) (out0_ : Bool × (List Int) × (List Int) → α) (out1_ : (List Int) × (List Int) → α) (fail_ : α) : g (L.FnEternalSets_step10 x5 r0 r1 next_ out0_ out1_ fail_) = L.FnEternalSets_step10 x5 r0 r1 (fun s => g (next_ s)) (fun d => g (out0_ d)) (fun d => g (out1_ d)) (g fail_) := by
  unfold L.FnEternalSets_step10; simp only [apply_cnd g, apply_optC g, apply_sumC g]
noncomputable def L.FnEternalSets_run10 : Nat → Int × (List Int) × (List Int) → Option ((Bool × (List Int) × (List Int)) ⊕ ((List Int) × (List Int)))
  | 0, _ => none
  | n + 1, s_ => L.FnEternalSets_step10 s_.1 s_.2.1 s_.2.2 (L.FnEternalSets_run10 n) (fun d => some ((Sum.inl d))) (fun d => some ((Sum.inr d))) none
theorem L.FnEternalSets_L10_run (n : Nat) (s_ : Int × (List Int) × (List Int)) (k : X → St → R) : L.FnEternalSets_L10 n { n := 56, t := [(3, (.own 0)), (4, (.own 1)), (5, (.int .i64 s_.1))], h := [.row (.ints .i64 s_.2.1), .row (.ints .i64 s_.2.2)] } k = optC (L.FnEternalSets_run10 n s_) (fun (r : (Bool × (List Int) × (List Int)) ⊕ ((List Int) × (List Int))) => (sumC r (fun (r : Bool × (List Int) × (List Int)) => k (.ret) { n := 56, t := [(2, (.bool r.1)), (3, (.own 0)), (4, (.own 1))], h := [.row (.ints .i64 r.2.1), .row (.ints .i64 r.2.2)] }) (fun (r : (List Int) × (List Int)) => k (.exit 0) { n := 56, t := [(2, .junk), (3, (.own 0)), (4, (.own 1))], h := [.row (.ints .i64 r.1), .row (.ints .i64 r.2)] }))) none := by
  induction n generalizing s_ with
  | zero => rfl
  | succ n ih =>
    have hu : L.FnEternalSets_L10 (n + 1) { n := 56, t := [(3, (.own 0)), (4, (.own 1)), (5, (.int .i64 s_.1))], h := [.row (.ints .i64 s_.2.1), .row (.ints .i64 s_.2.2)] } k = L.FnEternalSets_step10 s_.1 s_.2.1 s_.2.2 (fun s_ => L.FnEternalSets_L10 n { n := 56, t := [(3, (.own 0)), (4, (.own 1)), (5, (.int .i64 s_.1))], h := [.row (.ints .i64 s_.2.1), .row (.ints .i64 s_.2.2)] } k) (fun d => k (.ret) { n := 56, t := [(2, (.bool d.1)), (3, (.own 0)), (4, (.own 1))], h := [.row (.ints .i64 d.2.1), .row (.ints .i64 d.2.2)] }) (fun d => k (.exit 0) { n := 56, t := [(2, .junk), (3, (.own 0)), (4, (.own 1))], h := [.row (.ints .i64 d.1), .row (.ints .i64 d.2)] }) none := by
      kernel_rfl
    have hs : (fun s_ : Int × (List Int) × (List Int) => L.FnEternalSets_L10 n { n := 56, t := [(3, (.own 0)), (4, (.own 1)), (5, (.int .i64 s_.1))], h := [.row (.ints .i64 s_.2.1), .row (.ints .i64 s_.2.2)] } k) = fun s_ => optC (L.FnEternalSets_run10 n s_) (fun (r : (Bool × (List Int) × (List Int)) ⊕ ((List Int) × (List Int))) => (sumC r (fun (r : Bool × (List Int) × (List Int)) => k (.ret) { n := 56, t := [(2, (.bool r.1)), (3, (.own 0)), (4, (.own 1))], h := [.row (.ints .i64 r.2.1), .row (.ints .i64 r.2.2)] }) (fun (r : (List Int) × (List Int)) => k (.exit 0) { n := 56, t := [(2, .junk), (3, (.own 0)), (4, (.own 1))], h := [.row (.ints .i64 r.1), .row (.ints .i64 r.2)] }))) none := funext ih
    rw [hu, hs]
    exact (L.FnEternalSets_step10_nat (fun o => optC o (fun (r : (Bool × (List Int) × (List Int)) ⊕ ((List Int) × (List Int))) => (sumC r (fun (r : Bool × (List Int) × (List Int)) => k (.ret) { n := 56, t := [(2, (.bool r.1)), (3, (.own 0)), (4, (.own 1))], h := [.row (.ints .i64 r.2.1), .row (.ints .i64 r.2.2)] }) (fun (r : (List Int) × (List Int)) => k (.exit 0) { n := 56, t := [(2, .junk), (3, (.own 0)), (4, (.own 1))], h := [.row (.ints .i64 r.1), .row (.ints .i64 r.2)] }))) none) s_.1 s_.2.1 s_.2.2 (L.FnEternalSets_run10 n) (fun d => some ((Sum.inl d))) (fun d => some ((Sum.inr d))) none).symm
noncomputable def L.FnEternalSets_tree {α : Type} (code : List Int) (leaf0_ : Bool → α) (fail_ : α) : α :=
  (bif decide ((↑code.length : Int) > 1048576) then (leaf0_ true) else (optC (S.DrawEternalSets_t code) (fun c_1 => (optC (I.EternalSets_t c_1) (fun c_2 => (optC (S.EternalSets_t c_1) (fun c_3 => (optC (L.sameInts_t c_2 c_3) (fun c_4 => (bif !c_4 then (leaf0_ false) else (bif (↑c_2.length : Int) == 0 then (optC (I.NetOk_t c_1) (fun c_5 => (bif !c_5 then (optC (L.alive_t) (fun c_6 => (leaf0_ c_6)) fail_) else (leaf0_ false))) fail_) else (optC (L.FnEternalSets_run10 FUEL (0, c_1, c_2)) (fun qy_9 => (sumC qy_9 (fun (qy_9 : Bool × (List Int) × (List Int)) => (leaf0_ qy_9.1)) (fun (qy_9 : (List Int) × (List Int)) => (optC (L.ascend_t qy_9.2) (fun c_10 => (bif c_10 then (bif decide (0 ≤ IntKind.i64.wrap ((↑qy_9.2.length : Int) - 1)) && decide (IntKind.i64.wrap ((↑qy_9.2.length : Int) - 1) < (↑qy_9.2.length : Int)) then (bif decide ((IntKind.i64.wrap ((↑qy_9.2.length : Int) - 1)).toNat < qy_9.2.length) then (leaf0_ (eli qy_9.2 (IntKind.i64.wrap ((↑qy_9.2.length : Int) - 1)).toNat == IntKind.i64.wrap (IntKind.i64.wrap (1 * 2 ^ min (↑qy_9.1.length : Int).toNat IntKind.i64.bits) - 1))) else fail_) else fail_) else (leaf0_ false))) fail_)))) fail_)))) fail_)) fail_)) fail_)) fail_))
theorem L.FnEternalSets_tree_nat {α γ : Type} (g : α → γ) (code : List Int) (leaf0_ : Bool → α) (fail_ : α) : g (L.FnEternalSets_tree code leaf0_ fail_) = L.FnEternalSets_tree code (fun d => g (leaf0_ d)) (g fail_) := by
  unfold L.FnEternalSets_tree; simp only [apply_cnd g, apply_optC g, apply_sumC g]
noncomputable def L.FnEternalSets_t (code : List Int) : Option (Bool) := L.FnEternalSets_tree code (fun d => some d) none
theorem L.FnEternalSets_den (code : List Int) (κ : V → List E → R) : L.FnEternalSets_F [.ro true (.ints .u8 code)] [] κ = optC (L.FnEternalSets_t code) (fun (r : Bool) => κ (.bool r) []) none := by
  have hu : L.FnEternalSets_F [.ro true (.ints .u8 code)] [] κ = L.FnEternalSets_tree code (fun d => κ (.bool d) []) none := by
    refine Eq.trans (show L.FnEternalSets_F [.ro true (.ints .u8 code)] [] κ = (bif decide ((↑code.length : Int) > 1048576) then (κ (.bool true) []) else (optC (S.DrawEternalSets_t code) (fun c_1 => (optC (I.EternalSets_t c_1) (fun c_2 => (optC (S.EternalSets_t c_1) (fun c_3 => (optC (L.sameInts_t c_2 c_3) (fun c_4 => (bif !c_4 then (κ (.bool false) []) else (bif (↑c_2.length : Int) == 0 then (optC (I.NetOk_t c_1) (fun c_5 => (bif !c_5 then (optC (L.alive_t) (fun c_6 => (κ (.bool c_6) [])) none) else (κ (.bool false) []))) none) else (L.FnEternalSets_L10 FUEL { n := 56, t := [(3, (.own 0)), (4, (.own 1)), (5, (.int .i64 0))], h := [.row (.ints .i64 c_1), .row (.ints .i64 c_2)] } (L.FnEternalSets_k10 κ))))) none)) none)) none)) none)) by kernel_rfl) ?_
    refine cnd_congr ?_ ?_
    · kernel_rfl
    · refine optC_congr (fun c_1 => ?_)
      refine optC_congr (fun c_2 => ?_)
      refine optC_congr (fun c_3 => ?_)
      refine optC_congr (fun c_4 => ?_)
      refine cnd_congr ?_ ?_
      · kernel_rfl
      · refine cnd_congr ?_ ?_
        · kernel_rfl
        · refine (L.FnEternalSets_L10_run FUEL (0, c_1, c_2) (L.FnEternalSets_k10 κ)).trans (optC_congr (fun qy_9 => ?_))
          rcases qy_9 with qy_9 | qy_9
          · kernel_rfl
          · kernel_rfl
  rw [hu]
  exact (L.FnEternalSets_tree_nat (fun o => optC o (fun (r : Bool) => κ (.bool r) []) none) code (fun d => some d) none).symm
noncomputable def L.FnEternalSets_s : D.Spec where
  keep := true
  pure := true
  ds := [.int .u8]
  sp := fun args h κ => match args, h with
    | [.ro true (.ints .u8 code)], [] => optC (L.FnEternalSets_t code) (fun (r : Bool) => κ (.bool r) []) none
    | _, _ => none
theorem L.FnEternalSets_ok : SpecOk Try.prog 5 L.FnEternalSets_s := by
  refine SpecOk.of TDok mixed (T := L.FnEternalSets_T) ?_ (ann := L.FnEternalSets_ann) Try.func5 rfl (by decide +kernel) ?_ ?_ ?_
  · intro p hp
    simp only [L.FnEternalSets_T, List.mem_cons, List.not_mem_nil, or_false] at hp
    rcases hp with rfl | rfl | rfl | rfl | rfl | rfl | rfl | rfl | rfl
    · exact S.DrawEternalSets_ok
    · exact I.EternalSets_ok
    · exact S.EternalSets_ok
    · exact L.sameInts_ok
    · exact I.NetOk_ok
    · exact L.alive_ok
    · exact L.hasInt_ok
    · exact I.EternalOk_ok
    · exact L.ascend_ok
  · intro args h κ r hh
    simp only [L.FnEternalSets_s] at hh
    split at hh
    · exact (L.FnEternalSets_den _ κ).trans hh
    · cases hh
  · intro args h κ r hh
    simp only [L.FnEternalSets_s] at hh ⊢
    split at hh
    · exact optC_law2 (F := fun (r : Bool) κ => κ (.bool r) []) (fun b κ r hb => ⟨_, _, hb, fun _ => rfl⟩) hh
    · cases hh
  · intro _ args h κ r hh
    simp only [L.FnEternalSets_s] at hh
    split at hh
    · exact ⟨rfl, fun _ => rfl⟩
    · cases hh

-- loop.example/guardsonnets/laws.markIntS
noncomputable def L.markIntS_T : List (Nat × D.Spec) := []
def L.markIntS_ann : Nat → List Nat × List Nat
  | 2 => ([0, 1, 5], [1])
  | _ => ([], [])
noncomputable def L.markIntS_F (args : List V) (h : List E) (κ : V → List E → R) : R := funC TD (tableK L.markIntS_T) L.markIntS_ann (drawOk (tableP L.markIntS_T)) FUEL Try.f29 args h κ
noncomputable def L.markIntS_L2 (n : Nat) (σ : St) (k : X → St → R) : R := iterC 1 (fun σ k => denC TD (tableK L.markIntS_T) L.markIntS_ann (drawOk (tableP L.markIntS_T)) 1 FUEL ((findLoop 2 (Try.f29.body.getD .skip)).getD .skip) σ k) [0, 1, 5] [1] n σ k
noncomputable def L.markIntS_k2 (κ : V → List E → R) : X → St → R := (afterC TD (tableK L.markIntS_T) L.markIntS_ann (drawOk (tableP L.markIntS_T)) 1 FUEL 2 (Try.f29.body.getD .skip) (finC TD 1 Try.f29 κ)).getD (fun _ _ => none)
noncomputable def L.markIntS_step2 {α : Type} (x1 : Int) (x5 : Int) (r0 : List Int) (next_ : Int × Int × (List Int) → α) (out0_ : Int × (List Int) → α) (fail_ : α) : α :=
  (bif decide (x5 < (↑r0.length : Int)) then (bif decide (0 ≤ x5) && decide (x5 < (↑r0.length : Int)) then (bif decide (x5.toNat < r0.length) then (next_ (IntKind.i64.wrap (x1 + 1), IntKind.i64.wrap (x5 + 1), r0.set x5.toNat x1)) else fail_) else fail_) else (out0_ (x1, r0)))
theorem L.markIntS_step2_nat {α γ : Type} (g : α → γ) (x1 : Int) (x5 : Int) (r0 : List Int) (next_ : Int × Int × (List Int) → α) (out0_ : Int × (List Int) → α) (fail_ : α) : g (L.markIntS_step2 x1 x5 r0 next_ out0_ fail_) = L.markIntS_step2 x1 x5 r0 (fun s => g (next_ s)) (fun d => g (out0_ d)) (g fail_) := by
  unfold L.markIntS_step2; simp only [apply_cnd g, apply_optC g, apply_sumC g]
noncomputable def L.markIntS_run2 : Nat → Int × Int × (List Int) → Option (Int × (List Int))
  | 0, _ => none
  | n + 1, s_ => L.markIntS_step2 s_.1 s_.2.1 s_.2.2 (L.markIntS_run2 n) (fun d => some d) none
theorem L.markIntS_L2_run (n : Nat) (s_ : Int × Int × (List Int)) (k : X → St → R) : L.markIntS_L2 n { n := 19, t := [(0, (.own 0)), (1, (.int .i64 s_.1)), (5, (.int .i64 s_.2.1))], h := [.row (.ints .i64 s_.2.2)] } k = optC (L.markIntS_run2 n s_) (fun (r : Int × (List Int)) => k (.exit 0) { n := 19, t := [(1, (.int .i64 r.1))], h := [.row (.ints .i64 r.2)] }) none := by
  induction n generalizing s_ with
  | zero => rfl
  | succ n ih =>
    have hu : L.markIntS_L2 (n + 1) { n := 19, t := [(0, (.own 0)), (1, (.int .i64 s_.1)), (5, (.int .i64 s_.2.1))], h := [.row (.ints .i64 s_.2.2)] } k = L.markIntS_step2 s_.1 s_.2.1 s_.2.2 (fun s_ => L.markIntS_L2 n { n := 19, t := [(0, (.own 0)), (1, (.int .i64 s_.1)), (5, (.int .i64 s_.2.1))], h := [.row (.ints .i64 s_.2.2)] } k) (fun d => k (.exit 0) { n := 19, t := [(1, (.int .i64 d.1))], h := [.row (.ints .i64 d.2)] }) none := by
      kernel_rfl
    have hs : (fun s_ : Int × Int × (List Int) => L.markIntS_L2 n { n := 19, t := [(0, (.own 0)), (1, (.int .i64 s_.1)), (5, (.int .i64 s_.2.1))], h := [.row (.ints .i64 s_.2.2)] } k) = fun s_ => optC (L.markIntS_run2 n s_) (fun (r : Int × (List Int)) => k (.exit 0) { n := 19, t := [(1, (.int .i64 r.1))], h := [.row (.ints .i64 r.2)] }) none := funext ih
    rw [hu, hs]
    exact (L.markIntS_step2_nat (fun o => optC o (fun (r : Int × (List Int)) => k (.exit 0) { n := 19, t := [(1, (.int .i64 r.1))], h := [.row (.ints .i64 r.2)] }) none) s_.1 s_.2.1 s_.2.2 (L.markIntS_run2 n) (fun d => some d) none).symm
noncomputable def L.markIntS_tree {α : Type} (a : List Int) (k_ : Int) (leaf0_ : Int × (List Int) → α) (fail_ : α) : α :=
  (optC (L.markIntS_run2 FUEL (k_, 0, a)) (fun qy_1 => (leaf0_ (qy_1.1, qy_1.2))) fail_)
theorem L.markIntS_tree_nat {α γ : Type} (g : α → γ) (a : List Int) (k_ : Int) (leaf0_ : Int × (List Int) → α) (fail_ : α) : g (L.markIntS_tree a k_ leaf0_ fail_) = L.markIntS_tree a k_ (fun d => g (leaf0_ d)) (g fail_) := by
  unfold L.markIntS_tree; simp only [apply_cnd g, apply_optC g, apply_sumC g]
noncomputable def L.markIntS_t (a : List Int) (k_ : Int) : Option (Int × (List Int)) := L.markIntS_tree a k_ (fun d => some d) none
theorem L.markIntS_den (a : List Int) (k_ : Int) (κ : V → List E → R) : L.markIntS_F [.own 0, .int .i64 k_] [.row (.ints .i64 a)] κ = optC (L.markIntS_t a k_) (fun (r : Int × (List Int)) => κ (.int .i64 r.1) [.row (.ints .i64 r.2)]) none := by
  have hu : L.markIntS_F [.own 0, .int .i64 k_] [.row (.ints .i64 a)] κ = L.markIntS_tree a k_ (fun d => κ (.int .i64 d.1) [.row (.ints .i64 d.2)]) none := by
    refine Eq.trans (show L.markIntS_F [.own 0, .int .i64 k_] [.row (.ints .i64 a)] κ = (L.markIntS_L2 FUEL { n := 19, t := [(0, (.own 0)), (1, (.int .i64 k_)), (5, (.int .i64 0))], h := [.row (.ints .i64 a)] } (L.markIntS_k2 κ)) by kernel_rfl) ?_
    refine (L.markIntS_L2_run FUEL (k_, 0, a) (L.markIntS_k2 κ)).trans (optC_congr (fun qy_1 => ?_))
    kernel_rfl
  rw [hu]
  exact (L.markIntS_tree_nat (fun o => optC o (fun (r : Int × (List Int)) => κ (.int .i64 r.1) [.row (.ints .i64 r.2)]) none) a k_ (fun d => some d) none).symm
noncomputable def L.markIntS_s : D.Spec where
  keep := false
  pure := false
  ds := [.pointer 0, .invalid]
  sp := fun args h κ => match args, h with
    | [.own 0, .int .i64 k_], [.row (.ints .i64 a)] => optC (L.markIntS_t a k_) (fun (r : Int × (List Int)) => κ (.int .i64 r.1) [.row (.ints .i64 r.2)]) none
    | _, _ => none
theorem L.markIntS_ok : SpecOk Try.prog 29 L.markIntS_s := by
  refine SpecOk.of TDok mixed (T := L.markIntS_T) ?_ (ann := L.markIntS_ann) Try.func29 rfl (by decide +kernel) ?_ ?_ ?_
  · intro p hp; cases hp
  · intro args h κ r hh
    simp only [L.markIntS_s] at hh
    split at hh
    · exact (L.markIntS_den _ _ κ).trans hh
    · cases hh
  · intro args h κ r hh
    simp only [L.markIntS_s] at hh ⊢
    split at hh
    · exact optC_law2 (F := fun (r : Int × (List Int)) κ => κ (.int .i64 r.1) [.row (.ints .i64 r.2)]) (fun b κ r hb => ⟨_, _, hb, fun _ => rfl⟩) hh
    · cases hh
  · intro hh; cases hh

-- loop.example/guardsonnets/laws.heldIntS
noncomputable def L.heldIntS_T : List (Nat × D.Spec) := []
def L.heldIntS_ann : Nat → List Nat × List Nat
  | 2 => ([0, 1, 5], [1, 4])
  | _ => ([], [])
noncomputable def L.heldIntS_F (args : List V) (h : List E) (κ : V → List E → R) : R := funC TD (tableK L.heldIntS_T) L.heldIntS_ann (drawOk (tableP L.heldIntS_T)) FUEL Try.f30 args h κ
noncomputable def L.heldIntS_L2 (n : Nat) (σ : St) (k : X → St → R) : R := iterC 0 (fun σ k => denC TD (tableK L.heldIntS_T) L.heldIntS_ann (drawOk (tableP L.heldIntS_T)) 0 FUEL ((findLoop 2 (Try.f30.body.getD .skip)).getD .skip) σ k) [0, 1, 5] [1, 4] n σ k
noncomputable def L.heldIntS_k2 (κ : V → List E → R) : X → St → R := (afterC TD (tableK L.heldIntS_T) L.heldIntS_ann (drawOk (tableP L.heldIntS_T)) 0 FUEL 2 (Try.f30.body.getD .skip) (finC TD 0 Try.f30 κ)).getD (fun _ _ => none)
noncomputable def L.heldIntS_step2 {α : Type} (x0 : List Int) (x1 : Int) (x5 : Int) (next_ : Int × Int → α) (out0_ : Int × Int → α) (out1_ : Int → α) (fail_ : α) : α :=
  (bif decide (x5 < (↑x0.length : Int)) then (bif decide (0 ≤ x5) && decide (x5 < (↑x0.length : Int)) then (bif !eli x0 x5.toNat == x1 then (out0_ (x1, -1)) else (next_ (IntKind.i64.wrap (x1 + 1), IntKind.i64.wrap (x5 + 1)))) else fail_) else (out1_ x1))
theorem L.heldIntS_step2_nat {α γ : Type} (g : α → γ) (x0 : List Int) (x1 : Int) (x5 : Int) (next_ : Int × Int → α) (out0_ : Int × Int → α) (out1_ : Int → α) (fail_ : α) : g (L.heldIntS_step2 x0 x1 x5 next_ out0_ out1_ fail_) = L.heldIntS_step2 x0 x1 x5 (fun s => g (next_ s)) (fun d => g (out0_ d)) (fun d => g (out1_ d)) (g fail_) := by
  unfold L.heldIntS_step2; simp only [apply_cnd g, apply_optC g, apply_sumC g]
noncomputable def L.heldIntS_run2 (x0 : List Int) : Nat → Int × Int → Option ((Int × Int) ⊕ (Int))
  | 0, _ => none
  | n + 1, s_ => L.heldIntS_step2 x0 s_.1 s_.2 (L.heldIntS_run2 x0 n) (fun d => some ((Sum.inl d))) (fun d => some ((Sum.inr d))) none
theorem L.heldIntS_L2_run (x0 : List Int) (n : Nat) (s_ : Int × Int) (k : X → St → R) : L.heldIntS_L2 n { n := 21, t := [(0, (.ro false (.ints .i64 x0))), (1, (.int .i64 s_.1)), (5, (.int .i64 s_.2))], h := [] } k = optC (L.heldIntS_run2 x0 n s_) (fun (r : (Int × Int) ⊕ (Int)) => (sumC r (fun (r : Int × Int) => k (.ret) { n := 21, t := [(1, (.int .i64 r.1)), (4, (.int .i64 r.2))], h := [] }) (fun (r : Int) => k (.exit 0) { n := 21, t := [(1, (.int .i64 r)), (4, .junk)], h := [] }))) none := by
  induction n generalizing s_ with
  | zero => rfl
  | succ n ih =>
    have hu : L.heldIntS_L2 (n + 1) { n := 21, t := [(0, (.ro false (.ints .i64 x0))), (1, (.int .i64 s_.1)), (5, (.int .i64 s_.2))], h := [] } k = L.heldIntS_step2 x0 s_.1 s_.2 (fun s_ => L.heldIntS_L2 n { n := 21, t := [(0, (.ro false (.ints .i64 x0))), (1, (.int .i64 s_.1)), (5, (.int .i64 s_.2))], h := [] } k) (fun d => k (.ret) { n := 21, t := [(1, (.int .i64 d.1)), (4, (.int .i64 d.2))], h := [] }) (fun d => k (.exit 0) { n := 21, t := [(1, (.int .i64 d)), (4, .junk)], h := [] }) none := by
      kernel_rfl
    have hs : (fun s_ : Int × Int => L.heldIntS_L2 n { n := 21, t := [(0, (.ro false (.ints .i64 x0))), (1, (.int .i64 s_.1)), (5, (.int .i64 s_.2))], h := [] } k) = fun s_ => optC (L.heldIntS_run2 x0 n s_) (fun (r : (Int × Int) ⊕ (Int)) => (sumC r (fun (r : Int × Int) => k (.ret) { n := 21, t := [(1, (.int .i64 r.1)), (4, (.int .i64 r.2))], h := [] }) (fun (r : Int) => k (.exit 0) { n := 21, t := [(1, (.int .i64 r)), (4, .junk)], h := [] }))) none := funext ih
    rw [hu, hs]
    exact (L.heldIntS_step2_nat (fun o => optC o (fun (r : (Int × Int) ⊕ (Int)) => (sumC r (fun (r : Int × Int) => k (.ret) { n := 21, t := [(1, (.int .i64 r.1)), (4, (.int .i64 r.2))], h := [] }) (fun (r : Int) => k (.exit 0) { n := 21, t := [(1, (.int .i64 r)), (4, .junk)], h := [] }))) none) x0 s_.1 s_.2 (L.heldIntS_run2 x0 n) (fun d => some ((Sum.inl d))) (fun d => some ((Sum.inr d))) none).symm
noncomputable def L.heldIntS_tree {α : Type} (a : List Int) (k_ : Int) (leaf0_ : Int → α) (fail_ : α) : α :=
  (optC (L.heldIntS_run2 a FUEL (k_, 0)) (fun qy_1 => (sumC qy_1 (fun (qy_1 : Int × Int) => (leaf0_ qy_1.2)) (fun (qy_1 : Int) => (leaf0_ qy_1)))) fail_)
theorem L.heldIntS_tree_nat {α γ : Type} (g : α → γ) (a : List Int) (k_ : Int) (leaf0_ : Int → α) (fail_ : α) : g (L.heldIntS_tree a k_ leaf0_ fail_) = L.heldIntS_tree a k_ (fun d => g (leaf0_ d)) (g fail_) := by
  unfold L.heldIntS_tree; simp only [apply_cnd g, apply_optC g, apply_sumC g]
noncomputable def L.heldIntS_t (a : List Int) (k_ : Int) : Option (Int) := L.heldIntS_tree a k_ (fun d => some d) none
theorem L.heldIntS_den (a : List Int) (k_ : Int) (κ : V → List E → R) : L.heldIntS_F [.ro false (.ints .i64 a), .int .i64 k_] [] κ = optC (L.heldIntS_t a k_) (fun (r : Int) => κ (.int .i64 r) []) none := by
  have hu : L.heldIntS_F [.ro false (.ints .i64 a), .int .i64 k_] [] κ = L.heldIntS_tree a k_ (fun d => κ (.int .i64 d) []) none := by
    refine Eq.trans (show L.heldIntS_F [.ro false (.ints .i64 a), .int .i64 k_] [] κ = (L.heldIntS_L2 FUEL { n := 21, t := [(0, (.ro false (.ints .i64 a))), (1, (.int .i64 k_)), (5, (.int .i64 0))], h := [] } (L.heldIntS_k2 κ)) by kernel_rfl) ?_
    refine (L.heldIntS_L2_run a FUEL (k_, 0) (L.heldIntS_k2 κ)).trans (optC_congr (fun qy_1 => ?_))
    rcases qy_1 with qy_1 | qy_1
    · kernel_rfl
    · kernel_rfl
  rw [hu]
  exact (L.heldIntS_tree_nat (fun o => optC o (fun (r : Int) => κ (.int .i64 r) []) none) a k_ (fun d => some d) none).symm
noncomputable def L.heldIntS_s : D.Spec where
  keep := false
  pure := true
  ds := [.int .i64, .invalid]
  sp := fun args h κ => match args, h with
    | [.ro false (.ints .i64 a), .int .i64 k_], [] => optC (L.heldIntS_t a k_) (fun (r : Int) => κ (.int .i64 r) []) none
    | _, _ => none
theorem L.heldIntS_ok : SpecOk Try.prog 30 L.heldIntS_s := by
  refine SpecOk.of TDok mixed (T := L.heldIntS_T) ?_ (ann := L.heldIntS_ann) Try.func30 rfl (by decide +kernel) ?_ ?_ ?_
  · intro p hp; cases hp
  · intro args h κ r hh
    simp only [L.heldIntS_s] at hh
    split at hh
    · exact (L.heldIntS_den _ _ κ).trans hh
    · cases hh
  · intro args h κ r hh
    simp only [L.heldIntS_s] at hh ⊢
    split at hh
    · exact optC_law2 (F := fun (r : Int) κ => κ (.int .i64 r) []) (fun b κ r hb => ⟨_, _, hb, fun _ => rfl⟩) hh
    · cases hh
  · intro _ args h κ r hh
    simp only [L.heldIntS_s] at hh
    split at hh
    · exact ⟨rfl, fun _ => rfl⟩
    · cases hh

-- loop.example/guardsonnets/laws.FnExactEternalSets
noncomputable def L.FnExactEternalSets_T : List (Nat × D.Spec) := [(20, L.toIntS_s), (25, S.EternalSets_s), (23, I.EternalSets_s), (21, L.eqIntS_s), (29, L.markIntS_s), (30, L.heldIntS_s)]
def L.FnExactEternalSets_ann : Nat → List Nat × List Nat
  | _ => ([], [])
noncomputable def L.FnExactEternalSets_F (args : List V) (h : List E) (κ : V → List E → R) : R := funC TD (tableK L.FnExactEternalSets_T) L.FnExactEternalSets_ann (drawOk (tableP L.FnExactEternalSets_T)) FUEL Try.f6 args h κ
noncomputable def L.FnExactEternalSets_tree {α : Type} (aNet : List Int) (leaf0_ : Bool → α) (fail_ : α) : α :=
  (bif decide ((↑aNet.length : Int) > 1048576) then (leaf0_ true) else (optC (L.toIntS_t aNet) (fun c_1 => (optC (S.EternalSets_t c_1) (fun c_2 => (optC (L.toIntS_t aNet) (fun c_3 => (optC (I.EternalSets_t c_3) (fun c_4 => (optC (L.eqIntS_t c_4 c_2) (fun c_5 => (bif !c_5 then (leaf0_ false) else (optC (L.toIntS_t aNet) (fun c_6 => (optC (L.eqIntS_t c_3 c_6) (fun c_7 => (bif !c_7 then (leaf0_ false) else (optC (L.markIntS_t c_3 1) (fun c_8 => (bif decide (c_8.fst < 0) then (leaf0_ false) else (optC (L.eqIntS_t c_4 c_2) (fun c_9 => (bif !c_9 then (leaf0_ false) else (optC (L.markIntS_t c_4 1) (fun c_10 => (optC (L.heldIntS_t c_10.snd 1) (fun c_11 => (bif decide (c_11 < 0) then (leaf0_ false) else (bif !c_11 == c_10.fst then (leaf0_ false) else (optC (L.toIntS_t aNet) (fun c_12 => (optC (I.EternalSets_t c_12) (fun c_13 => (optC (L.eqIntS_t c_13 c_2) (fun c_14 => (bif !c_14 then (leaf0_ false) else (optC (L.heldIntS_t c_10.snd 1) (fun c_15 => (bif decide (c_15 < 0) then (leaf0_ false) else (bif !c_15 == c_10.fst then (leaf0_ false) else (leaf0_ true)))) fail_))) fail_)) fail_)) fail_)))) fail_)) fail_))) fail_))) fail_))) fail_)) fail_))) fail_)) fail_)) fail_)) fail_)) fail_))
theorem L.FnExactEternalSets_tree_nat {α γ : Type} (g : α → γ) (aNet : List Int) (leaf0_ : Bool → α) (fail_ : α) : g (L.FnExactEternalSets_tree aNet leaf0_ fail_) = L.FnExactEternalSets_tree aNet (fun d => g (leaf0_ d)) (g fail_) := by
  unfold L.FnExactEternalSets_tree; simp only [apply_cnd g, apply_optC g, apply_sumC g]
noncomputable def L.FnExactEternalSets_t (aNet : List Int) : Option (Bool) := L.FnExactEternalSets_tree aNet (fun d => some d) none
theorem L.FnExactEternalSets_den (aNet : List Int) (κ : V → List E → R) : L.FnExactEternalSets_F [.ro true (.ints .i64 aNet)] [] κ = optC (L.FnExactEternalSets_t aNet) (fun (r : Bool) => κ (.bool r) []) none := by
  have hu : L.FnExactEternalSets_F [.ro true (.ints .i64 aNet)] [] κ = L.FnExactEternalSets_tree aNet (fun d => κ (.bool d) []) none := by
    kernel_rfl
  rw [hu]
  exact (L.FnExactEternalSets_tree_nat (fun o => optC o (fun (r : Bool) => κ (.bool r) []) none) aNet (fun d => some d) none).symm
noncomputable def L.FnExactEternalSets_s : D.Spec where
  keep := true
  pure := true
  ds := [.int .i64]
  sp := fun args h κ => match args, h with
    | [.ro true (.ints .i64 aNet)], [] => optC (L.FnExactEternalSets_t aNet) (fun (r : Bool) => κ (.bool r) []) none
    | _, _ => none
theorem L.FnExactEternalSets_ok : SpecOk Try.prog 6 L.FnExactEternalSets_s := by
  refine SpecOk.of TDok mixed (T := L.FnExactEternalSets_T) ?_ (ann := L.FnExactEternalSets_ann) Try.func6 rfl (by decide +kernel) ?_ ?_ ?_
  · intro p hp
    simp only [L.FnExactEternalSets_T, List.mem_cons, List.not_mem_nil, or_false] at hp
    rcases hp with rfl | rfl | rfl | rfl | rfl | rfl
    · exact L.toIntS_ok
    · exact S.EternalSets_ok
    · exact I.EternalSets_ok
    · exact L.eqIntS_ok
    · exact L.markIntS_ok
    · exact L.heldIntS_ok
  · intro args h κ r hh
    simp only [L.FnExactEternalSets_s] at hh
    split at hh
    · exact (L.FnExactEternalSets_den _ κ).trans hh
    · cases hh
  · intro args h κ r hh
    simp only [L.FnExactEternalSets_s] at hh ⊢
    split at hh
    · exact optC_law2 (F := fun (r : Bool) κ => κ (.bool r) []) (fun b κ r hb => ⟨_, _, hb, fun _ => rfl⟩) hh
    · cases hh
  · intro _ args h κ r hh
    simp only [L.FnExactEternalSets_s] at hh
    split at hh
    · exact ⟨rfl, fun _ => rfl⟩
    · cases hh

-- loop.example/guardsonnets/spec.DrawFewestEternal
noncomputable def S.DrawFewestEternal_T : List (Nat × D.Spec) := [(43, S.l20Open_s), (53, S.l20Net_s)]
def S.DrawFewestEternal_ann : Nat → List Nat × List Nat
  | _ => ([], [])
noncomputable def S.DrawFewestEternal_F (args : List V) (h : List E) (κ : V → List E → R) : R := funC TD (tableK S.DrawFewestEternal_T) S.DrawFewestEternal_ann (drawOk (tableP S.DrawFewestEternal_T)) FUEL Try.f31 args h κ
noncomputable def S.DrawFewestEternal_tree {α : Type} (code : List Int) (leaf0_ : List Int → α) (fail_ : α) : α :=
  (optC (S.l20Open_t code) (fun c_1 => (optC (S.l20Net_t c_1.fst c_1.snd 9) (fun c_2 => (leaf0_ c_2.snd.snd)) fail_)) fail_)
theorem S.DrawFewestEternal_tree_nat {α γ : Type} (g : α → γ) (code : List Int) (leaf0_ : List Int → α) (fail_ : α) : g (S.DrawFewestEternal_tree code leaf0_ fail_) = S.DrawFewestEternal_tree code (fun d => g (leaf0_ d)) (g fail_) := by
  unfold S.DrawFewestEternal_tree; simp only [apply_cnd g, apply_optC g, apply_sumC g]
noncomputable def S.DrawFewestEternal_t (code : List Int) : Option (List Int) := S.DrawFewestEternal_tree code (fun d => some d) none
theorem S.DrawFewestEternal_den (code : List Int) (κ : V → List E → R) : S.DrawFewestEternal_F [.ro true (.ints .u8 code)] [] κ = optC (S.DrawFewestEternal_t code) (fun (r : List Int) => κ (.own 0) [.row (.ints .i64 r)]) none := by
  have hu : S.DrawFewestEternal_F [.ro true (.ints .u8 code)] [] κ = S.DrawFewestEternal_tree code (fun d => κ (.own 0) [.row (.ints .i64 d)]) none := by
    kernel_rfl
  rw [hu]
  exact (S.DrawFewestEternal_tree_nat (fun o => optC o (fun (r : List Int) => κ (.own 0) [.row (.ints .i64 r)]) none) code (fun d => some d) none).symm
noncomputable def S.DrawFewestEternal_s : D.Spec where
  keep := true
  pure := false
  ds := [.int .u8]
  sp := fun args h κ => match args, h with
    | [.ro true (.ints .u8 code)], [] => optC (S.DrawFewestEternal_t code) (fun (r : List Int) => κ (.own 0) [.row (.ints .i64 r)]) none
    | _, _ => none
theorem S.DrawFewestEternal_ok : SpecOk Try.prog 31 S.DrawFewestEternal_s := by
  refine SpecOk.of TDok mixed (T := S.DrawFewestEternal_T) ?_ (ann := S.DrawFewestEternal_ann) Try.func31 rfl (by decide +kernel) ?_ ?_ ?_
  · intro p hp
    simp only [S.DrawFewestEternal_T, List.mem_cons, List.not_mem_nil, or_false] at hp
    rcases hp with rfl | rfl
    · exact S.l20Open_ok
    · exact S.l20Net_ok
  · intro args h κ r hh
    simp only [S.DrawFewestEternal_s] at hh
    split at hh
    · exact (S.DrawFewestEternal_den _ κ).trans hh
    · cases hh
  · intro args h κ r hh
    simp only [S.DrawFewestEternal_s] at hh ⊢
    split at hh
    · exact optC_law2 (F := fun (r : List Int) κ => κ (.own 0) [.row (.ints .i64 r)]) (fun b κ r hb => ⟨_, _, hb, fun _ => rfl⟩) hh
    · cases hh
  · intro hh; cases hh

-- loop.example/guardsonnets/impl.sizeOf
noncomputable def I.sizeOf_T : List (Nat × D.Spec) := []
def I.sizeOf_ann : Nat → List Nat × List Nat
  | 3 => ([0, 3, 4], [3])
  | _ => ([], [])
noncomputable def I.sizeOf_F (args : List V) (h : List E) (κ : V → List E → R) : R := funC TD (tableK I.sizeOf_T) I.sizeOf_ann (drawOk (tableP I.sizeOf_T)) FUEL Try.f60 args h κ
noncomputable def I.sizeOf_L3 (n : Nat) (σ : St) (k : X → St → R) : R := iterC 0 (fun σ k => denC TD (tableK I.sizeOf_T) I.sizeOf_ann (drawOk (tableP I.sizeOf_T)) 0 FUEL ((findLoop 3 (Try.f60.body.getD .skip)).getD .skip) σ k) [0, 3, 4] [3] n σ k
noncomputable def I.sizeOf_k3 (κ : V → List E → R) : X → St → R := (afterC TD (tableK I.sizeOf_T) I.sizeOf_ann (drawOk (tableP I.sizeOf_T)) 0 FUEL 3 (Try.f60.body.getD .skip) (finC TD 0 Try.f60 κ)).getD (fun _ _ => none)
noncomputable def I.sizeOf_step3 {α : Type} (x0 : Int) (x3 : Int) (x4 : Int) (next_ : Int × Int → α) (out0_ : Int → α) (fail_ : α) : α :=
  (bif decide (x4 < 6) then (bif decide (x4 < 0) then fail_ else (next_ (IntKind.i64.wrap (x3 + bits BinOp.and IntKind.i64 (x0.fdiv (2 ^ min x4.toNat IntKind.i64.bits)) 1), IntKind.i64.wrap (x4 + 1)))) else (out0_ x3))
theorem I.sizeOf_step3_nat {α γ : Type} (g : α → γ) (x0 : Int) (x3 : Int) (x4 : Int) (next_ : Int × Int → α) (out0_ : Int → α) (fail_ : α) : g (I.sizeOf_step3 x0 x3 x4 next_ out0_ fail_) = I.sizeOf_step3 x0 x3 x4 (fun s => g (next_ s)) (fun d => g (out0_ d)) (g fail_) := by
  unfold I.sizeOf_step3; simp only [apply_cnd g, apply_optC g, apply_sumC g]
noncomputable def I.sizeOf_run3 (x0 : Int) : Nat → Int × Int → Option (Int)
  | 0, _ => none
  | n + 1, s_ => I.sizeOf_step3 x0 s_.1 s_.2 (I.sizeOf_run3 x0 n) (fun d => some d) none
theorem I.sizeOf_L3_run (x0 : Int) (n : Nat) (s_ : Int × Int) (k : X → St → R) : I.sizeOf_L3 n { n := 16, t := [(0, (.int .i64 x0)), (3, (.int .i64 s_.1)), (4, (.int .i64 s_.2))], h := [] } k = optC (I.sizeOf_run3 x0 n s_) (fun (r : Int) => k (.exit 0) { n := 16, t := [(3, (.int .i64 r))], h := [] }) none := by
  induction n generalizing s_ with
  | zero => rfl
  | succ n ih =>
    have hu : I.sizeOf_L3 (n + 1) { n := 16, t := [(0, (.int .i64 x0)), (3, (.int .i64 s_.1)), (4, (.int .i64 s_.2))], h := [] } k = I.sizeOf_step3 x0 s_.1 s_.2 (fun s_ => I.sizeOf_L3 n { n := 16, t := [(0, (.int .i64 x0)), (3, (.int .i64 s_.1)), (4, (.int .i64 s_.2))], h := [] } k) (fun d => k (.exit 0) { n := 16, t := [(3, (.int .i64 d))], h := [] }) none := by
      kernel_rfl
    have hs : (fun s_ : Int × Int => I.sizeOf_L3 n { n := 16, t := [(0, (.int .i64 x0)), (3, (.int .i64 s_.1)), (4, (.int .i64 s_.2))], h := [] } k) = fun s_ => optC (I.sizeOf_run3 x0 n s_) (fun (r : Int) => k (.exit 0) { n := 16, t := [(3, (.int .i64 r))], h := [] }) none := funext ih
    rw [hu, hs]
    exact (I.sizeOf_step3_nat (fun o => optC o (fun (r : Int) => k (.exit 0) { n := 16, t := [(3, (.int .i64 r))], h := [] }) none) x0 s_.1 s_.2 (I.sizeOf_run3 x0 n) (fun d => some d) none).symm
noncomputable def I.sizeOf_tree {α : Type} (set_ : Int) (leaf0_ : Int → α) (fail_ : α) : α :=
  (optC (I.sizeOf_run3 set_ FUEL (0, 0)) (fun qy_1 => (leaf0_ qy_1)) fail_)
theorem I.sizeOf_tree_nat {α γ : Type} (g : α → γ) (set_ : Int) (leaf0_ : Int → α) (fail_ : α) : g (I.sizeOf_tree set_ leaf0_ fail_) = I.sizeOf_tree set_ (fun d => g (leaf0_ d)) (g fail_) := by
  unfold I.sizeOf_tree; simp only [apply_cnd g, apply_optC g, apply_sumC g]
noncomputable def I.sizeOf_t (set_ : Int) : Option (Int) := I.sizeOf_tree set_ (fun d => some d) none
theorem I.sizeOf_den (set_ : Int) (κ : V → List E → R) : I.sizeOf_F [.int .i64 set_] [] κ = optC (I.sizeOf_t set_) (fun (r : Int) => κ (.int .i64 r) []) none := by
  have hu : I.sizeOf_F [.int .i64 set_] [] κ = I.sizeOf_tree set_ (fun d => κ (.int .i64 d) []) none := by
    refine Eq.trans (show I.sizeOf_F [.int .i64 set_] [] κ = (I.sizeOf_L3 FUEL { n := 16, t := [(0, (.int .i64 set_)), (3, (.int .i64 0)), (4, (.int .i64 0))], h := [] } (I.sizeOf_k3 κ)) by kernel_rfl) ?_
    refine (I.sizeOf_L3_run set_ FUEL (0, 0) (I.sizeOf_k3 κ)).trans (optC_congr (fun qy_1 => ?_))
    kernel_rfl
  rw [hu]
  exact (I.sizeOf_tree_nat (fun o => optC o (fun (r : Int) => κ (.int .i64 r) []) none) set_ (fun d => some d) none).symm
noncomputable def I.sizeOf_s : D.Spec where
  keep := false
  pure := true
  ds := [.invalid]
  sp := fun args h κ => match args, h with
    | [.int .i64 set_], [] => optC (I.sizeOf_t set_) (fun (r : Int) => κ (.int .i64 r) []) none
    | _, _ => none
theorem I.sizeOf_ok : SpecOk Try.prog 60 I.sizeOf_s := by
  refine SpecOk.of TDok mixed (T := I.sizeOf_T) ?_ (ann := I.sizeOf_ann) Try.func60 rfl (by decide +kernel) ?_ ?_ ?_
  · intro p hp; cases hp
  · intro args h κ r hh
    simp only [I.sizeOf_s] at hh
    split at hh
    · exact (I.sizeOf_den _ κ).trans hh
    · cases hh
  · intro args h κ r hh
    simp only [I.sizeOf_s] at hh ⊢
    split at hh
    · exact optC_law2 (F := fun (r : Int) κ => κ (.int .i64 r) []) (fun b κ r hb => ⟨_, _, hb, fun _ => rfl⟩) hh
    · cases hh
  · intro _ args h κ r hh
    simp only [I.sizeOf_s] at hh
    split at hh
    · exact ⟨rfl, fun _ => rfl⟩
    · cases hh

-- loop.example/guardsonnets/impl.fewerOf
noncomputable def I.fewerOf_T : List (Nat × D.Spec) := []
def I.fewerOf_ann : Nat → List Nat × List Nat
  | _ => ([], [])
noncomputable def I.fewerOf_F (args : List V) (h : List E) (κ : V → List E → R) : R := funC TD (tableK I.fewerOf_T) I.fewerOf_ann (drawOk (tableP I.fewerOf_T)) FUEL Try.f62 args h κ
noncomputable def I.fewerOf_tree {α : Type} (fewest : Int) (number : Int) (leaf0_ : Int → α) (fail_ : α) : α :=
  (bif decide (fewest < 0) then (leaf0_ number) else (bif decide (number < fewest) then (leaf0_ number) else (leaf0_ fewest)))
theorem I.fewerOf_tree_nat {α γ : Type} (g : α → γ) (fewest : Int) (number : Int) (leaf0_ : Int → α) (fail_ : α) : g (I.fewerOf_tree fewest number leaf0_ fail_) = I.fewerOf_tree fewest number (fun d => g (leaf0_ d)) (g fail_) := by
  unfold I.fewerOf_tree; simp only [apply_cnd g, apply_optC g, apply_sumC g]
noncomputable def I.fewerOf_t (fewest : Int) (number : Int) : Option (Int) := I.fewerOf_tree fewest number (fun d => some d) none
theorem I.fewerOf_den (fewest : Int) (number : Int) (κ : V → List E → R) : I.fewerOf_F [.int .i64 fewest, .int .i64 number] [] κ = optC (I.fewerOf_t fewest number) (fun (r : Int) => κ (.int .i64 r) []) none := by
  have hu : I.fewerOf_F [.int .i64 fewest, .int .i64 number] [] κ = I.fewerOf_tree fewest number (fun d => κ (.int .i64 d) []) none := by
    kernel_rfl
  rw [hu]
  exact (I.fewerOf_tree_nat (fun o => optC o (fun (r : Int) => κ (.int .i64 r) []) none) fewest number (fun d => some d) none).symm
noncomputable def I.fewerOf_s : D.Spec where
  keep := false
  pure := true
  ds := [.invalid, .invalid]
  sp := fun args h κ => match args, h with
    | [.int .i64 fewest, .int .i64 number], [] => optC (I.fewerOf_t fewest number) (fun (r : Int) => κ (.int .i64 r) []) none
    | _, _ => none
theorem I.fewerOf_ok : SpecOk Try.prog 62 I.fewerOf_s := by
  refine SpecOk.of TDok mixed (T := I.fewerOf_T) ?_ (ann := I.fewerOf_ann) Try.func62 rfl (by decide +kernel) ?_ ?_ ?_
  · intro p hp; cases hp
  · intro args h κ r hh
    simp only [I.fewerOf_s] at hh
    split at hh
    · exact (I.fewerOf_den _ _ κ).trans hh
    · cases hh
  · intro args h κ r hh
    simp only [I.fewerOf_s] at hh ⊢
    split at hh
    · exact optC_law2 (F := fun (r : Int) κ => κ (.int .i64 r) []) (fun b κ r hb => ⟨_, _, hb, fun _ => rfl⟩) hh
    · cases hh
  · intro _ args h κ r hh
    simp only [I.fewerOf_s] at hh
    split at hh
    · exact ⟨rfl, fun _ => rfl⟩
    · cases hh

-- loop.example/guardsonnets/impl.fewestIn
noncomputable def I.fewestIn_T : List (Nat × D.Spec) := [(60, I.sizeOf_s), (62, I.fewerOf_s)]
def I.fewestIn_ann : Nat → List Nat × List Nat
  | 3 => ([0, 3, 4], [3])
  | _ => ([], [])
noncomputable def I.fewestIn_F (args : List V) (h : List E) (κ : V → List E → R) : R := funC TD (tableK I.fewestIn_T) I.fewestIn_ann (drawOk (tableP I.fewestIn_T)) FUEL Try.f58 args h κ
noncomputable def I.fewestIn_L3 (n : Nat) (σ : St) (k : X → St → R) : R := iterC 0 (fun σ k => denC TD (tableK I.fewestIn_T) I.fewestIn_ann (drawOk (tableP I.fewestIn_T)) 0 FUEL ((findLoop 3 (Try.f58.body.getD .skip)).getD .skip) σ k) [0, 3, 4] [3] n σ k
noncomputable def I.fewestIn_k3 (κ : V → List E → R) : X → St → R := (afterC TD (tableK I.fewestIn_T) I.fewestIn_ann (drawOk (tableP I.fewestIn_T)) 0 FUEL 3 (Try.f58.body.getD .skip) (finC TD 0 Try.f58 κ)).getD (fun _ _ => none)
noncomputable def I.fewestIn_step3 {α : Type} (x0 : List Bool) (x3 : Int) (x4 : Int) (next_ : Int × Int → α) (out0_ : Int → α) (fail_ : α) : α :=
  (bif decide (x4 < (↑x0.length : Int)) then (bif decide (0 ≤ x4) && decide (x4 < (↑x0.length : Int)) then (bif elb x0 x4.toNat then (optC (I.sizeOf_t x4) (fun c_1 => (optC (I.fewerOf_t x3 c_1) (fun c_2 => (next_ (c_2, IntKind.i64.wrap (x4 + 1)))) fail_)) fail_) else (next_ (x3, IntKind.i64.wrap (x4 + 1)))) else fail_) else (out0_ x3))
theorem I.fewestIn_step3_nat {α γ : Type} (g : α → γ) (x0 : List Bool) (x3 : Int) (x4 : Int) (next_ : Int × Int → α) (out0_ : Int → α) (fail_ : α) : g (I.fewestIn_step3 x0 x3 x4 next_ out0_ fail_) = I.fewestIn_step3 x0 x3 x4 (fun s => g (next_ s)) (fun d => g (out0_ d)) (g fail_) := by
  unfold I.fewestIn_step3; simp only [apply_cnd g, apply_optC g, apply_sumC g]
noncomputable def I.fewestIn_run3 (x0 : List Bool) : Nat → Int × Int → Option (Int)
  | 0, _ => none
  | n + 1, s_ => I.fewestIn_step3 x0 s_.1 s_.2 (I.fewestIn_run3 x0 n) (fun d => some d) none
theorem I.fewestIn_L3_run (x0 : List Bool) (n : Nat) (s_ : Int × Int) (k : X → St → R) : I.fewestIn_L3 n { n := 20, t := [(0, (.ro false (.bools x0))), (3, (.int .i64 s_.1)), (4, (.int .i64 s_.2))], h := [] } k = optC (I.fewestIn_run3 x0 n s_) (fun (r : Int) => k (.exit 0) { n := 20, t := [(3, (.int .i64 r))], h := [] }) none := by
  induction n generalizing s_ with
  | zero => rfl
  | succ n ih =>
    have hu : I.fewestIn_L3 (n + 1) { n := 20, t := [(0, (.ro false (.bools x0))), (3, (.int .i64 s_.1)), (4, (.int .i64 s_.2))], h := [] } k = I.fewestIn_step3 x0 s_.1 s_.2 (fun s_ => I.fewestIn_L3 n { n := 20, t := [(0, (.ro false (.bools x0))), (3, (.int .i64 s_.1)), (4, (.int .i64 s_.2))], h := [] } k) (fun d => k (.exit 0) { n := 20, t := [(3, (.int .i64 d))], h := [] }) none := by
      kernel_rfl
    have hs : (fun s_ : Int × Int => I.fewestIn_L3 n { n := 20, t := [(0, (.ro false (.bools x0))), (3, (.int .i64 s_.1)), (4, (.int .i64 s_.2))], h := [] } k) = fun s_ => optC (I.fewestIn_run3 x0 n s_) (fun (r : Int) => k (.exit 0) { n := 20, t := [(3, (.int .i64 r))], h := [] }) none := funext ih
    rw [hu, hs]
    exact (I.fewestIn_step3_nat (fun o => optC o (fun (r : Int) => k (.exit 0) { n := 20, t := [(3, (.int .i64 r))], h := [] }) none) x0 s_.1 s_.2 (I.fewestIn_run3 x0 n) (fun d => some d) none).symm
noncomputable def I.fewestIn_tree {α : Type} (lasting : List Bool) (leaf0_ : Int → α) (fail_ : α) : α :=
  (optC (I.fewestIn_run3 lasting FUEL (-1, 0)) (fun qy_3 => (leaf0_ qy_3)) fail_)
theorem I.fewestIn_tree_nat {α γ : Type} (g : α → γ) (lasting : List Bool) (leaf0_ : Int → α) (fail_ : α) : g (I.fewestIn_tree lasting leaf0_ fail_) = I.fewestIn_tree lasting (fun d => g (leaf0_ d)) (g fail_) := by
  unfold I.fewestIn_tree; simp only [apply_cnd g, apply_optC g, apply_sumC g]
noncomputable def I.fewestIn_t (lasting : List Bool) : Option (Int) := I.fewestIn_tree lasting (fun d => some d) none
theorem I.fewestIn_den (lasting : List Bool) (κ : V → List E → R) : I.fewestIn_F [.ro false (.bools lasting)] [] κ = optC (I.fewestIn_t lasting) (fun (r : Int) => κ (.int .i64 r) []) none := by
  have hu : I.fewestIn_F [.ro false (.bools lasting)] [] κ = I.fewestIn_tree lasting (fun d => κ (.int .i64 d) []) none := by
    refine Eq.trans (show I.fewestIn_F [.ro false (.bools lasting)] [] κ = (I.fewestIn_L3 FUEL { n := 20, t := [(0, (.ro false (.bools lasting))), (3, (.int .i64 (-1))), (4, (.int .i64 0))], h := [] } (I.fewestIn_k3 κ)) by kernel_rfl) ?_
    refine (I.fewestIn_L3_run lasting FUEL (-1, 0) (I.fewestIn_k3 κ)).trans (optC_congr (fun qy_3 => ?_))
    kernel_rfl
  rw [hu]
  exact (I.fewestIn_tree_nat (fun o => optC o (fun (r : Int) => κ (.int .i64 r) []) none) lasting (fun d => some d) none).symm
noncomputable def I.fewestIn_s : D.Spec where
  keep := false
  pure := true
  ds := [.bool]
  sp := fun args h κ => match args, h with
    | [.ro false (.bools lasting)], [] => optC (I.fewestIn_t lasting) (fun (r : Int) => κ (.int .i64 r) []) none
    | _, _ => none
theorem I.fewestIn_ok : SpecOk Try.prog 58 I.fewestIn_s := by
  refine SpecOk.of TDok mixed (T := I.fewestIn_T) ?_ (ann := I.fewestIn_ann) Try.func58 rfl (by decide +kernel) ?_ ?_ ?_
  · intro p hp
    simp only [I.fewestIn_T, List.mem_cons, List.not_mem_nil, or_false] at hp
    rcases hp with rfl | rfl
    · exact I.sizeOf_ok
    · exact I.fewerOf_ok
  · intro args h κ r hh
    simp only [I.fewestIn_s] at hh
    split at hh
    · exact (I.fewestIn_den _ κ).trans hh
    · cases hh
  · intro args h κ r hh
    simp only [I.fewestIn_s] at hh ⊢
    split at hh
    · exact optC_law2 (F := fun (r : Int) κ => κ (.int .i64 r) []) (fun b κ r hb => ⟨_, _, hb, fun _ => rfl⟩) hh
    · cases hh
  · intro _ args h κ r hh
    simp only [I.fewestIn_s] at hh
    split at hh
    · exact ⟨rfl, fun _ => rfl⟩
    · cases hh

-- loop.example/guardsonnets/impl.FewestEternal
noncomputable def I.FewestEternal_T : List (Nat × D.Spec) := [(26, I.NetOk_s), (45, I.eternalIn_s), (58, I.fewestIn_s)]
def I.FewestEternal_ann : Nat → List Nat × List Nat
  | _ => ([], [])
noncomputable def I.FewestEternal_F (args : List V) (h : List E) (κ : V → List E → R) : R := funC TD (tableK I.FewestEternal_T) I.FewestEternal_ann (drawOk (tableP I.FewestEternal_T)) FUEL Try.f32 args h κ
noncomputable def I.FewestEternal_tree {α : Type} (net : List Int) (leaf0_ : Int → α) (fail_ : α) : α :=
  (optC (I.NetOk_t net) (fun c_1 => (bif !c_1 then (leaf0_ (-1)) else (optC (I.eternalIn_t net) (fun c_2 => (optC (I.fewestIn_t c_2) (fun c_3 => (leaf0_ c_3)) fail_)) fail_))) fail_)
theorem I.FewestEternal_tree_nat {α γ : Type} (g : α → γ) (net : List Int) (leaf0_ : Int → α) (fail_ : α) : g (I.FewestEternal_tree net leaf0_ fail_) = I.FewestEternal_tree net (fun d => g (leaf0_ d)) (g fail_) := by
  unfold I.FewestEternal_tree; simp only [apply_cnd g, apply_optC g, apply_sumC g]
noncomputable def I.FewestEternal_t (net : List Int) : Option (Int) := I.FewestEternal_tree net (fun d => some d) none
theorem I.FewestEternal_den (net : List Int) (κ : V → List E → R) : I.FewestEternal_F [.ro false (.ints .i64 net)] [] κ = optC (I.FewestEternal_t net) (fun (r : Int) => κ (.int .i64 r) []) none := by
  have hu : I.FewestEternal_F [.ro false (.ints .i64 net)] [] κ = I.FewestEternal_tree net (fun d => κ (.int .i64 d) []) none := by
    kernel_rfl
  rw [hu]
  exact (I.FewestEternal_tree_nat (fun o => optC o (fun (r : Int) => κ (.int .i64 r) []) none) net (fun d => some d) none).symm
noncomputable def I.FewestEternal_s : D.Spec where
  keep := false
  pure := true
  ds := [.int .i64]
  sp := fun args h κ => match args, h with
    | [.ro false (.ints .i64 net)], [] => optC (I.FewestEternal_t net) (fun (r : Int) => κ (.int .i64 r) []) none
    | _, _ => none
theorem I.FewestEternal_ok : SpecOk Try.prog 32 I.FewestEternal_s := by
  refine SpecOk.of TDok mixed (T := I.FewestEternal_T) ?_ (ann := I.FewestEternal_ann) Try.func32 rfl (by decide +kernel) ?_ ?_ ?_
  · intro p hp
    simp only [I.FewestEternal_T, List.mem_cons, List.not_mem_nil, or_false] at hp
    rcases hp with rfl | rfl | rfl
    · exact I.NetOk_ok
    · exact I.eternalIn_ok
    · exact I.fewestIn_ok
  · intro args h κ r hh
    simp only [I.FewestEternal_s] at hh
    split at hh
    · exact (I.FewestEternal_den _ κ).trans hh
    · cases hh
  · intro args h κ r hh
    simp only [I.FewestEternal_s] at hh ⊢
    split at hh
    · exact optC_law2 (F := fun (r : Int) κ => κ (.int .i64 r) []) (fun b κ r hb => ⟨_, _, hb, fun _ => rfl⟩) hh
    · cases hh
  · intro _ args h κ r hh
    simp only [I.FewestEternal_s] at hh
    split at hh
    · exact ⟨rfl, fun _ => rfl⟩
    · cases hh


end Go.Proofs.Ytbfgmhhmnnjajaa
