/- Twins of the translated functions, with their proofs. Conditions: none. -/
import Derived.Test.YtgpgifpblchjjaaBzTab
set_option linter.unusedVariables false
set_option linter.unusedSimpArgs false
set_option linter.unusedSectionVars false
namespace Go.Proofs.Ytgpgifpblchjjaa
open D Go.RowKit
-- loop.example/guardsonnets/spec.l20Open
noncomputable def S.l20Open_T : List (Nat × D.Spec) := []
def S.l20Open_ann : Nat → List Nat × List Nat
  | _ => ([], [])
noncomputable def S.l20Open_F (args : List V) (h : List E) (κ : V → List E → R) : R := funC TD (tableK S.l20Open_T) S.l20Open_ann (drawAny TD (tableP S.l20Open_T)) FUEL Try.f41 args h κ
noncomputable def S.l20Open_tree {α : Type} (code : List Int) (leaf0_ : (List Int) × Int → α) (fail_ : α) : α :=
  (bif decide ((↑code.length : Int) > 2000) then (bif decide (2000 ≤ (↑code.length : Int)) then (leaf0_ (List.take (Int.toNat 2000) (List.drop 0 code), 0)) else fail_) else (leaf0_ (code, 0)))
theorem S.l20Open_tree_nat {α γ : Type} (g : α → γ) (code : List Int) (leaf0_ : (List Int) × Int → α) (fail_ : α) : g (S.l20Open_tree code leaf0_ fail_) = S.l20Open_tree code (fun d => g (leaf0_ d)) (g fail_) := by
  unfold S.l20Open_tree; simp only [apply_cnd g, apply_optC g, apply_sumC g]
noncomputable def S.l20Open_t (code : List Int) : Option ((List Int) × Int) := S.l20Open_tree code (fun d => some d) none
theorem S.l20Open_den (code : List Int) (κ : V → List E → R) : S.l20Open_F [.ro true (.ints .u8 code)] [] κ = optC (S.l20Open_t code) (fun (r : (List Int) × Int) => κ (.ptr 0 0) [.cells [(.ro true (.ints .u8 r.1)), (.int .i64 r.2)]]) none := by
  have hu : S.l20Open_F [.ro true (.ints .u8 code)] [] κ = S.l20Open_tree code (fun d => κ (.ptr 0 0) [.cells [(.ro true (.ints .u8 d.1)), (.int .i64 d.2)]]) none := by
    kernel_rfl
  rw [hu]
  exact (S.l20Open_tree_nat (fun o => optC o (fun (r : (List Int) × Int) => κ (.ptr 0 0) [.cells [(.ro true (.ints .u8 r.1)), (.int .i64 r.2)]]) none) code (fun d => some d) none).symm
noncomputable def S.l20Open_s : D.Spec where
  keep := true
  pure := false
  add := true
  ds := [.int .u8]
  sp := fun args h κ => match args, h with
    | [.ro true (.ints .u8 code)], [] => optC (S.l20Open_t code) (fun (r : (List Int) × Int) => κ (.ptr 0 0) [.cells [(.ro true (.ints .u8 r.1)), (.int .i64 r.2)]]) none
    | _, _ => none
theorem S.l20Open_ok : SpecOk Try.prog 41 S.l20Open_s := by
  refine SpecOk.of TDok mixed (T := S.l20Open_T) ?_ (ann := S.l20Open_ann) Try.func41 rfl (by decide +kernel) ?_ ?_ ?_ ?_
  · intro p hp; cases hp
  · intro args h κ r hh
    simp only [S.l20Open_s] at hh
    split at hh
    · exact (S.l20Open_den _ κ).trans hh
    · cases hh
  · intro args h κ r hh
    simp only [S.l20Open_s] at hh ⊢
    split at hh
    · exact optC_law2 (F := fun (r : (List Int) × Int) κ => κ (.ptr 0 0) [.cells [(.ro true (.ints .u8 r.1)), (.int .i64 r.2)]]) (fun b κ r hb => ⟨_, _, hb, fun _ => rfl⟩) hh
    · cases hh
  · intro hh; cases hh
  · intro _ args h κ r hh
    simp only [S.l20Open_s] at hh
    split at hh
    · rfl
    · cases hh


-- (*loop.example/guardsonnets/spec.l20Rd).pick
noncomputable def S.l20Rd_pick_T : List (Nat × D.Spec) := []
def S.l20Rd_pick_ann : Nat → List Nat × List Nat
  | _ => ([], [])
noncomputable def S.l20Rd_pick_F (args : List V) (h : List E) (κ : V → List E → R) : R := funC TD (tableK S.l20Rd_pick_T) S.l20Rd_pick_ann (drawAny TD (tableP S.l20Rd_pick_T)) FUEL Try.f51 args h κ
noncomputable def S.l20Rd_pick_tree {α : Type} (rb : List Int) (rp : Int) (n_ : Int) (leaf0_ : Int × (List Int) × Int → α) (fail_ : α) : α :=
  (bif decide (n_ < 1) then (leaf0_ (0, rb, IntKind.i64.wrap (rp + 1))) else (bif (↑rb.length : Int) == 0 then (leaf0_ (0, rb, IntKind.i64.wrap (rp + 1))) else (bif decide (IntKind.i64.wrap (IntKind.i64.wrap (rp + 1) - 1) < (↑rb.length : Int)) then (bif decide (0 ≤ IntKind.i64.wrap (IntKind.i64.wrap (rp + 1) - 1)) && decide (IntKind.i64.wrap (IntKind.i64.wrap (rp + 1) - 1) < (↑rb.length : Int)) then (bif n_ == 0 then fail_ else (leaf0_ ((IntKind.i64.wrap (eli rb (IntKind.i64.wrap (IntKind.i64.wrap (rp + 1) - 1)).toNat)).tmod n_, rb, IntKind.i64.wrap (rp + 1)))) else fail_) else (bif (↑rb.length : Int) == 0 then fail_ else (bif decide (0 ≤ (IntKind.i64.wrap (IntKind.i64.wrap (rp + 1) - 1)).tmod (↑rb.length : Int)) && decide ((IntKind.i64.wrap (IntKind.i64.wrap (rp + 1) - 1)).tmod (↑rb.length : Int) < (↑rb.length : Int)) then (bif (↑rb.length : Int) == 0 then fail_ else (bif decide (0 ≤ (IntKind.i64.wrap (IntKind.i64.wrap (IntKind.i64.wrap (IntKind.i64.wrap (rp + 1) - 1) * 7) + 3)).tmod (↑rb.length : Int)) && decide ((IntKind.i64.wrap (IntKind.i64.wrap (IntKind.i64.wrap (IntKind.i64.wrap (rp + 1) - 1) * 7) + 3)).tmod (↑rb.length : Int) < (↑rb.length : Int)) then (bif (↑rb.length : Int) == 0 then fail_ else (bif n_ == 0 then fail_ else (leaf0_ ((bits BinOp.xor IntKind.i64 (IntKind.i64.wrap (IntKind.i64.wrap (IntKind.i64.wrap (IntKind.i64.wrap (IntKind.i64.wrap (eli rb ((IntKind.i64.wrap (IntKind.i64.wrap (rp + 1) - 1)).tmod (↑rb.length : Int)).toNat) * 131) + IntKind.i64.wrap (IntKind.i64.wrap (eli rb ((IntKind.i64.wrap (IntKind.i64.wrap (IntKind.i64.wrap (IntKind.i64.wrap (rp + 1) - 1) * 7) + 3)).tmod (↑rb.length : Int)).toNat) * 1117)) + IntKind.i64.wrap (IntKind.i64.wrap (IntKind.i64.wrap (rp + 1) - 1) * 29)) + IntKind.i64.wrap (IntKind.i64.wrap ((IntKind.i64.wrap (IntKind.i64.wrap (rp + 1) - 1)).tdiv (↑rb.length : Int)) * 53))) (IntKind.i64.wrap ((IntKind.i64.wrap (IntKind.i64.wrap (IntKind.i64.wrap (IntKind.i64.wrap (IntKind.i64.wrap (eli rb ((IntKind.i64.wrap (IntKind.i64.wrap (rp + 1) - 1)).tmod (↑rb.length : Int)).toNat) * 131) + IntKind.i64.wrap (IntKind.i64.wrap (eli rb ((IntKind.i64.wrap (IntKind.i64.wrap (IntKind.i64.wrap (IntKind.i64.wrap (rp + 1) - 1) * 7) + 3)).tmod (↑rb.length : Int)).toNat) * 1117)) + IntKind.i64.wrap (IntKind.i64.wrap (IntKind.i64.wrap (rp + 1) - 1) * 29)) + IntKind.i64.wrap (IntKind.i64.wrap ((IntKind.i64.wrap (IntKind.i64.wrap (rp + 1) - 1)).tdiv (↑rb.length : Int)) * 53))).tdiv 64))).tmod n_, rb, IntKind.i64.wrap (rp + 1))))) else fail_)) else fail_)))))
theorem S.l20Rd_pick_tree_nat {α γ : Type} (g : α → γ) (rb : List Int) (rp : Int) (n_ : Int) (leaf0_ : Int × (List Int) × Int → α) (fail_ : α) : g (S.l20Rd_pick_tree rb rp n_ leaf0_ fail_) = S.l20Rd_pick_tree rb rp n_ (fun d => g (leaf0_ d)) (g fail_) := by
  unfold S.l20Rd_pick_tree; simp only [apply_cnd g, apply_optC g, apply_sumC g]
noncomputable def S.l20Rd_pick_t (rb : List Int) (rp : Int) (n_ : Int) : Option (Int × (List Int) × Int) := S.l20Rd_pick_tree rb rp n_ (fun d => some d) none
theorem S.l20Rd_pick_den (rb : List Int) (rp : Int) (n_ : Int) (κ : V → List E → R) : S.l20Rd_pick_F [.ptr 0 0, .int .i64 n_] [.cells [.ro true (.ints .u8 rb), .int .i64 rp]] κ = optC (S.l20Rd_pick_t rb rp n_) (fun (r : Int × (List Int) × Int) => κ (.int .i64 r.1) [.cells [(.ro true (.ints .u8 r.2.1)), (.int .i64 r.2.2)]]) none := by
  have hu : S.l20Rd_pick_F [.ptr 0 0, .int .i64 n_] [.cells [.ro true (.ints .u8 rb), .int .i64 rp]] κ = S.l20Rd_pick_tree rb rp n_ (fun d => κ (.int .i64 d.1) [.cells [(.ro true (.ints .u8 d.2.1)), (.int .i64 d.2.2)]]) none := by
    kernel_rfl
  rw [hu]
  exact (S.l20Rd_pick_tree_nat (fun o => optC o (fun (r : Int × (List Int) × Int) => κ (.int .i64 r.1) [.cells [(.ro true (.ints .u8 r.2.1)), (.int .i64 r.2.2)]]) none) rb rp n_ (fun d => some d) none).symm
noncomputable def S.l20Rd_pick_s : D.Spec where
  keep := false
  pure := false
  add := false
  ds := [.invalid, .invalid]
  sp := fun args h κ => match args, h with
    | [.ptr 0 0, .int .i64 n_], [.cells [.ro true (.ints .u8 rb), .int .i64 rp]] => optC (S.l20Rd_pick_t rb rp n_) (fun (r : Int × (List Int) × Int) => κ (.int .i64 r.1) [.cells [(.ro true (.ints .u8 r.2.1)), (.int .i64 r.2.2)]]) none
    | _, _ => none
theorem S.l20Rd_pick_ok : SpecOk Try.prog 51 S.l20Rd_pick_s := by
  refine SpecOk.of TDok mixed (T := S.l20Rd_pick_T) ?_ (ann := S.l20Rd_pick_ann) Try.func51 rfl (by decide +kernel) ?_ ?_ ?_ ?_
  · intro p hp; cases hp
  · intro args h κ r hh
    simp only [S.l20Rd_pick_s] at hh
    split at hh
    · exact (S.l20Rd_pick_den _ _ _ κ).trans hh
    · cases hh
  · intro args h κ r hh
    simp only [S.l20Rd_pick_s] at hh ⊢
    split at hh
    · exact optC_law2 (F := fun (r : Int × (List Int) × Int) κ => κ (.int .i64 r.1) [.cells [(.ro true (.ints .u8 r.2.1)), (.int .i64 r.2.2)]]) (fun b κ r hb => ⟨_, _, hb, fun _ => rfl⟩) hh
    · cases hh
  · intro hh; cases hh
  · intro hh; cases hh


-- (*loop.example/guardsonnets/spec.l20Rd).odd
noncomputable def S.l20Rd_odd_T : List (Nat × D.Spec) := [(51, S.l20Rd_pick_s)]
def S.l20Rd_odd_ann : Nat → List Nat × List Nat
  | _ => ([], [])
noncomputable def S.l20Rd_odd_F (args : List V) (h : List E) (κ : V → List E → R) : R := funC TD (tableK S.l20Rd_odd_T) S.l20Rd_odd_ann (drawAny TD (tableP S.l20Rd_odd_T)) FUEL Try.f66 args h κ
noncomputable def S.l20Rd_odd_tree {α : Type} (rb : List Int) (rp : Int) (n_ : Int) (leaf0_ : Bool × (List Int) × Int → α) (fail_ : α) : α :=
  (bif decide (n_ > 0) then (optC (S.l20Rd_pick_t rb rp n_) (fun c_1 => (leaf0_ (c_1.fst == IntKind.i64.wrap (n_ - 1), c_1.snd.fst, c_1.snd.snd))) fail_) else (leaf0_ (false, rb, rp)))
theorem S.l20Rd_odd_tree_nat {α γ : Type} (g : α → γ) (rb : List Int) (rp : Int) (n_ : Int) (leaf0_ : Bool × (List Int) × Int → α) (fail_ : α) : g (S.l20Rd_odd_tree rb rp n_ leaf0_ fail_) = S.l20Rd_odd_tree rb rp n_ (fun d => g (leaf0_ d)) (g fail_) := by
  unfold S.l20Rd_odd_tree; simp only [apply_cnd g, apply_optC g, apply_sumC g]
noncomputable def S.l20Rd_odd_t (rb : List Int) (rp : Int) (n_ : Int) : Option (Bool × (List Int) × Int) := S.l20Rd_odd_tree rb rp n_ (fun d => some d) none
theorem S.l20Rd_odd_den (rb : List Int) (rp : Int) (n_ : Int) (κ : V → List E → R) : S.l20Rd_odd_F [.ptr 0 0, .int .i64 n_] [.cells [.ro true (.ints .u8 rb), .int .i64 rp]] κ = optC (S.l20Rd_odd_t rb rp n_) (fun (r : Bool × (List Int) × Int) => κ (.bool r.1) [.cells [(.ro true (.ints .u8 r.2.1)), (.int .i64 r.2.2)]]) none := by
  have hu : S.l20Rd_odd_F [.ptr 0 0, .int .i64 n_] [.cells [.ro true (.ints .u8 rb), .int .i64 rp]] κ = S.l20Rd_odd_tree rb rp n_ (fun d => κ (.bool d.1) [.cells [(.ro true (.ints .u8 d.2.1)), (.int .i64 d.2.2)]]) none := by
    kernel_rfl
  rw [hu]
  exact (S.l20Rd_odd_tree_nat (fun o => optC o (fun (r : Bool × (List Int) × Int) => κ (.bool r.1) [.cells [(.ro true (.ints .u8 r.2.1)), (.int .i64 r.2.2)]]) none) rb rp n_ (fun d => some d) none).symm
noncomputable def S.l20Rd_odd_s : D.Spec where
  keep := false
  pure := false
  add := false
  ds := [.invalid, .invalid]
  sp := fun args h κ => match args, h with
    | [.ptr 0 0, .int .i64 n_], [.cells [.ro true (.ints .u8 rb), .int .i64 rp]] => optC (S.l20Rd_odd_t rb rp n_) (fun (r : Bool × (List Int) × Int) => κ (.bool r.1) [.cells [(.ro true (.ints .u8 r.2.1)), (.int .i64 r.2.2)]]) none
    | _, _ => none
theorem S.l20Rd_odd_ok : SpecOk Try.prog 66 S.l20Rd_odd_s := by
  refine SpecOk.of TDok mixed (T := S.l20Rd_odd_T) ?_ (ann := S.l20Rd_odd_ann) Try.func66 rfl (by decide +kernel) ?_ ?_ ?_ ?_
  · intro p hp
    simp only [S.l20Rd_odd_T, List.mem_cons, List.not_mem_nil, or_false] at hp
    rcases hp with rfl
    · exact S.l20Rd_pick_ok
  · intro args h κ r hh
    simp only [S.l20Rd_odd_s] at hh
    split at hh
    · exact (S.l20Rd_odd_den _ _ _ κ).trans hh
    · cases hh
  · intro args h κ r hh
    simp only [S.l20Rd_odd_s] at hh ⊢
    split at hh
    · exact optC_law2 (F := fun (r : Bool × (List Int) × Int) κ => κ (.bool r.1) [.cells [(.ro true (.ints .u8 r.2.1)), (.int .i64 r.2.2)]]) (fun b κ r hb => ⟨_, _, hb, fun _ => rfl⟩) hh
    · cases hh
  · intro hh; cases hh
  · intro hh; cases hh


-- loop.example/guardsonnets/spec.l20Net
noncomputable def S.l20Net_T : List (Nat × D.Spec) := [(51, S.l20Rd_pick_s), (66, S.l20Rd_odd_s)]
def S.l20Net_ann : Nat → List Nat × List Nat
  | 8 => ([0, 1, 5, 6, 7, 8, 9], [0, 1, 5, 6, 7, 8])
  | 5 => ([0, 1, 5, 6, 7, 8], [0, 1, 5, 6])
  | _ => ([], [])
noncomputable def S.l20Net_F (args : List V) (h : List E) (κ : V → List E → R) : R := funC TD (tableK S.l20Net_T) S.l20Net_ann (drawAny TD (tableP S.l20Net_T)) FUEL Try.f64 args h κ
noncomputable def S.l20Net_L8 (n : Nat) (σ : St) (k : X → St → R) : R := iterC 1 (fun σ k => denC TD (tableK S.l20Net_T) S.l20Net_ann (drawAny TD (tableP S.l20Net_T)) 1 FUEL ((findLoop 8 (Try.f64.body.getD .skip)).getD .skip) σ k) [0, 1, 5, 6, 7, 8, 9] [0, 1, 5, 6, 7, 8] n σ k
noncomputable def S.l20Net_L5 (n : Nat) (σ : St) (k : X → St → R) : R := iterC 1 (fun σ k => denC TD (tableK S.l20Net_T) S.l20Net_ann (drawAny TD (tableP S.l20Net_T)) 1 FUEL ((findLoop 5 (Try.f64.body.getD .skip)).getD .skip) σ k) [0, 1, 5, 6, 7, 8] [0, 1, 5, 6] n σ k
noncomputable def S.l20Net_k8 (c : (St → R) × (X → St → R)) : X → St → R := (afterC TD (tableK S.l20Net_T) S.l20Net_ann (drawAny TD (tableP S.l20Net_T)) 1 FUEL 8 ((findLoop 5 (Try.f64.body.getD .skip)).getD .skip) (roundC 1 [0, 1, 5, 6, 7, 8] [0, 1, 5, 6] c.1 c.2)).getD (fun _ _ => none)
noncomputable def S.l20Net_k5 (κ : V → List E → R) : X → St → R := (afterC TD (tableK S.l20Net_T) S.l20Net_ann (drawAny TD (tableP S.l20Net_T)) 1 FUEL 5 (Try.f64.body.getD .skip) (finC TD 1 Try.f64 κ)).getD (fun _ _ => none)
noncomputable def S.l20Net_step8 {α : Type} (x1 : Int) (x5 : Int) (x7 : Int) (x8 : Int) (x9 : Int) (r0_0 : List Int) (r0_1 : Int) (r1 : List Int) (next_ : Int × (List Int) × Int × (List Int) → α) (out0_ : (List Int) × Int × (List Int) → α) (fail_ : α) : α :=
  (bif decide (x9 < x8) then (optC (S.l20Rd_pick_t r0_0 r0_1 3) (fun c_3 => (bif x7 == 0 then (bif x9 == IntKind.i64.wrap (x8 - 1) then (bif decide (0 ≤ x8) && decide (x8 < (↑r1.length : Int)) then (bif decide (x8.toNat < r1.length) then (bif decide (x9 < 0) then fail_ else (bif decide (0 ≤ x8) && decide (x8 < (↑r1.length : Int)) then (bif decide (x8.toNat < r1.length) then (bif decide (0 ≤ x9) && decide (x9 < (↑(r1.set x8.toNat (bits BinOp.or IntKind.i64 (eli r1 x8.toNat) (IntKind.i64.wrap (1 * 2 ^ min x9.toNat IntKind.i64.bits)))).length : Int)) then (bif decide (x9.toNat < (r1.set x8.toNat (bits BinOp.or IntKind.i64 (eli r1 x8.toNat) (IntKind.i64.wrap (1 * 2 ^ min x9.toNat IntKind.i64.bits)))).length) then (bif decide (x8 < 0) then fail_ else (bif decide (0 ≤ x9) && decide (x9 < (↑(r1.set x8.toNat (bits BinOp.or IntKind.i64 (eli r1 x8.toNat) (IntKind.i64.wrap (1 * 2 ^ min x9.toNat IntKind.i64.bits)))).length : Int)) then (bif decide (x9.toNat < (r1.set x8.toNat (bits BinOp.or IntKind.i64 (eli r1 x8.toNat) (IntKind.i64.wrap (1 * 2 ^ min x9.toNat IntKind.i64.bits)))).length) then (next_ (IntKind.i64.wrap (x9 + 1), c_3.snd.fst, c_3.snd.snd, (r1.set x8.toNat (bits BinOp.or IntKind.i64 (eli r1 x8.toNat) (IntKind.i64.wrap (1 * 2 ^ min x9.toNat IntKind.i64.bits)))).set x9.toNat (bits BinOp.or IntKind.i64 (eli (r1.set x8.toNat (bits BinOp.or IntKind.i64 (eli r1 x8.toNat) (IntKind.i64.wrap (1 * 2 ^ min x9.toNat IntKind.i64.bits)))) x9.toNat) (IntKind.i64.wrap (1 * 2 ^ min x8.toNat IntKind.i64.bits))))) else fail_) else fail_)) else fail_) else fail_) else fail_) else fail_)) else fail_) else fail_) else (bif x8 == IntKind.i64.wrap (x5 - 1) then (bif x9 == 0 then (bif decide (x5 > 2) then (bif decide (0 ≤ x8) && decide (x8 < (↑r1.length : Int)) then (bif decide (x8.toNat < r1.length) then (bif decide (x9 < 0) then fail_ else (bif decide (0 ≤ x8) && decide (x8 < (↑r1.length : Int)) then (bif decide (x8.toNat < r1.length) then (bif decide (0 ≤ x9) && decide (x9 < (↑(r1.set x8.toNat (bits BinOp.or IntKind.i64 (eli r1 x8.toNat) (IntKind.i64.wrap (1 * 2 ^ min x9.toNat IntKind.i64.bits)))).length : Int)) then (bif decide (x9.toNat < (r1.set x8.toNat (bits BinOp.or IntKind.i64 (eli r1 x8.toNat) (IntKind.i64.wrap (1 * 2 ^ min x9.toNat IntKind.i64.bits)))).length) then (bif decide (x8 < 0) then fail_ else (bif decide (0 ≤ x9) && decide (x9 < (↑(r1.set x8.toNat (bits BinOp.or IntKind.i64 (eli r1 x8.toNat) (IntKind.i64.wrap (1 * 2 ^ min x9.toNat IntKind.i64.bits)))).length : Int)) then (bif decide (x9.toNat < (r1.set x8.toNat (bits BinOp.or IntKind.i64 (eli r1 x8.toNat) (IntKind.i64.wrap (1 * 2 ^ min x9.toNat IntKind.i64.bits)))).length) then (next_ (IntKind.i64.wrap (x9 + 1), c_3.snd.fst, c_3.snd.snd, (r1.set x8.toNat (bits BinOp.or IntKind.i64 (eli r1 x8.toNat) (IntKind.i64.wrap (1 * 2 ^ min x9.toNat IntKind.i64.bits)))).set x9.toNat (bits BinOp.or IntKind.i64 (eli (r1.set x8.toNat (bits BinOp.or IntKind.i64 (eli r1 x8.toNat) (IntKind.i64.wrap (1 * 2 ^ min x9.toNat IntKind.i64.bits)))) x9.toNat) (IntKind.i64.wrap (1 * 2 ^ min x8.toNat IntKind.i64.bits))))) else fail_) else fail_)) else fail_) else fail_) else fail_) else fail_)) else fail_) else fail_) else (next_ (IntKind.i64.wrap (x9 + 1), c_3.snd.fst, c_3.snd.snd, r1))) else (next_ (IntKind.i64.wrap (x9 + 1), c_3.snd.fst, c_3.snd.snd, r1))) else (next_ (IntKind.i64.wrap (x9 + 1), c_3.snd.fst, c_3.snd.snd, r1)))) else (bif x7 == 1 then (bif x9 == IntKind.i64.wrap (x8 - 1) then (bif decide (0 ≤ x8) && decide (x8 < (↑r1.length : Int)) then (bif decide (x8.toNat < r1.length) then (bif decide (x9 < 0) then fail_ else (bif decide (0 ≤ x8) && decide (x8 < (↑r1.length : Int)) then (bif decide (x8.toNat < r1.length) then (bif decide (0 ≤ x9) && decide (x9 < (↑(r1.set x8.toNat (bits BinOp.or IntKind.i64 (eli r1 x8.toNat) (IntKind.i64.wrap (1 * 2 ^ min x9.toNat IntKind.i64.bits)))).length : Int)) then (bif decide (x9.toNat < (r1.set x8.toNat (bits BinOp.or IntKind.i64 (eli r1 x8.toNat) (IntKind.i64.wrap (1 * 2 ^ min x9.toNat IntKind.i64.bits)))).length) then (bif decide (x8 < 0) then fail_ else (bif decide (0 ≤ x9) && decide (x9 < (↑(r1.set x8.toNat (bits BinOp.or IntKind.i64 (eli r1 x8.toNat) (IntKind.i64.wrap (1 * 2 ^ min x9.toNat IntKind.i64.bits)))).length : Int)) then (bif decide (x9.toNat < (r1.set x8.toNat (bits BinOp.or IntKind.i64 (eli r1 x8.toNat) (IntKind.i64.wrap (1 * 2 ^ min x9.toNat IntKind.i64.bits)))).length) then (next_ (IntKind.i64.wrap (x9 + 1), c_3.snd.fst, c_3.snd.snd, (r1.set x8.toNat (bits BinOp.or IntKind.i64 (eli r1 x8.toNat) (IntKind.i64.wrap (1 * 2 ^ min x9.toNat IntKind.i64.bits)))).set x9.toNat (bits BinOp.or IntKind.i64 (eli (r1.set x8.toNat (bits BinOp.or IntKind.i64 (eli r1 x8.toNat) (IntKind.i64.wrap (1 * 2 ^ min x9.toNat IntKind.i64.bits)))) x9.toNat) (IntKind.i64.wrap (1 * 2 ^ min x8.toNat IntKind.i64.bits))))) else fail_) else fail_)) else fail_) else fail_) else fail_) else fail_)) else fail_) else fail_) else (bif x9 == 0 then (optC (S.l20Rd_pick_t c_3.snd.fst c_3.snd.snd 3) (fun c_4 => (bif c_4.fst == 0 then (bif decide (0 ≤ x8) && decide (x8 < (↑r1.length : Int)) then (bif decide (x8.toNat < r1.length) then (bif decide (x9 < 0) then fail_ else (bif decide (0 ≤ x8) && decide (x8 < (↑r1.length : Int)) then (bif decide (x8.toNat < r1.length) then (bif decide (0 ≤ x9) && decide (x9 < (↑(r1.set x8.toNat (bits BinOp.or IntKind.i64 (eli r1 x8.toNat) (IntKind.i64.wrap (1 * 2 ^ min x9.toNat IntKind.i64.bits)))).length : Int)) then (bif decide (x9.toNat < (r1.set x8.toNat (bits BinOp.or IntKind.i64 (eli r1 x8.toNat) (IntKind.i64.wrap (1 * 2 ^ min x9.toNat IntKind.i64.bits)))).length) then (bif decide (x8 < 0) then fail_ else (bif decide (0 ≤ x9) && decide (x9 < (↑(r1.set x8.toNat (bits BinOp.or IntKind.i64 (eli r1 x8.toNat) (IntKind.i64.wrap (1 * 2 ^ min x9.toNat IntKind.i64.bits)))).length : Int)) then (bif decide (x9.toNat < (r1.set x8.toNat (bits BinOp.or IntKind.i64 (eli r1 x8.toNat) (IntKind.i64.wrap (1 * 2 ^ min x9.toNat IntKind.i64.bits)))).length) then (next_ (IntKind.i64.wrap (x9 + 1), c_4.snd.fst, c_4.snd.snd, (r1.set x8.toNat (bits BinOp.or IntKind.i64 (eli r1 x8.toNat) (IntKind.i64.wrap (1 * 2 ^ min x9.toNat IntKind.i64.bits)))).set x9.toNat (bits BinOp.or IntKind.i64 (eli (r1.set x8.toNat (bits BinOp.or IntKind.i64 (eli r1 x8.toNat) (IntKind.i64.wrap (1 * 2 ^ min x9.toNat IntKind.i64.bits)))) x9.toNat) (IntKind.i64.wrap (1 * 2 ^ min x8.toNat IntKind.i64.bits))))) else fail_) else fail_)) else fail_) else fail_) else fail_) else fail_)) else fail_) else fail_) else (next_ (IntKind.i64.wrap (x9 + 1), c_4.snd.fst, c_4.snd.snd, r1)))) fail_) else (next_ (IntKind.i64.wrap (x9 + 1), c_3.snd.fst, c_3.snd.snd, r1)))) else (bif x7 == 2 then (bif x9 == IntKind.i64.wrap ((IntKind.i64.wrap (x8 - 1)).tdiv 2) then (bif decide (0 ≤ x8) && decide (x8 < (↑r1.length : Int)) then (bif decide (x8.toNat < r1.length) then (bif decide (x9 < 0) then fail_ else (bif decide (0 ≤ x8) && decide (x8 < (↑r1.length : Int)) then (bif decide (x8.toNat < r1.length) then (bif decide (0 ≤ x9) && decide (x9 < (↑(r1.set x8.toNat (bits BinOp.or IntKind.i64 (eli r1 x8.toNat) (IntKind.i64.wrap (1 * 2 ^ min x9.toNat IntKind.i64.bits)))).length : Int)) then (bif decide (x9.toNat < (r1.set x8.toNat (bits BinOp.or IntKind.i64 (eli r1 x8.toNat) (IntKind.i64.wrap (1 * 2 ^ min x9.toNat IntKind.i64.bits)))).length) then (bif decide (x8 < 0) then fail_ else (bif decide (0 ≤ x9) && decide (x9 < (↑(r1.set x8.toNat (bits BinOp.or IntKind.i64 (eli r1 x8.toNat) (IntKind.i64.wrap (1 * 2 ^ min x9.toNat IntKind.i64.bits)))).length : Int)) then (bif decide (x9.toNat < (r1.set x8.toNat (bits BinOp.or IntKind.i64 (eli r1 x8.toNat) (IntKind.i64.wrap (1 * 2 ^ min x9.toNat IntKind.i64.bits)))).length) then (next_ (IntKind.i64.wrap (x9 + 1), c_3.snd.fst, c_3.snd.snd, (r1.set x8.toNat (bits BinOp.or IntKind.i64 (eli r1 x8.toNat) (IntKind.i64.wrap (1 * 2 ^ min x9.toNat IntKind.i64.bits)))).set x9.toNat (bits BinOp.or IntKind.i64 (eli (r1.set x8.toNat (bits BinOp.or IntKind.i64 (eli r1 x8.toNat) (IntKind.i64.wrap (1 * 2 ^ min x9.toNat IntKind.i64.bits)))) x9.toNat) (IntKind.i64.wrap (1 * 2 ^ min x8.toNat IntKind.i64.bits))))) else fail_) else fail_)) else fail_) else fail_) else fail_) else fail_)) else fail_) else fail_) else (next_ (IntKind.i64.wrap (x9 + 1), c_3.snd.fst, c_3.snd.snd, r1))) else (bif c_3.fst == 0 then (bif decide (0 ≤ x8) && decide (x8 < (↑r1.length : Int)) then (bif decide (x8.toNat < r1.length) then (bif decide (x9 < 0) then fail_ else (bif decide (0 ≤ x8) && decide (x8 < (↑r1.length : Int)) then (bif decide (x8.toNat < r1.length) then (bif decide (0 ≤ x9) && decide (x9 < (↑(r1.set x8.toNat (bits BinOp.or IntKind.i64 (eli r1 x8.toNat) (IntKind.i64.wrap (1 * 2 ^ min x9.toNat IntKind.i64.bits)))).length : Int)) then (bif decide (x9.toNat < (r1.set x8.toNat (bits BinOp.or IntKind.i64 (eli r1 x8.toNat) (IntKind.i64.wrap (1 * 2 ^ min x9.toNat IntKind.i64.bits)))).length) then (bif decide (x8 < 0) then fail_ else (bif decide (0 ≤ x9) && decide (x9 < (↑(r1.set x8.toNat (bits BinOp.or IntKind.i64 (eli r1 x8.toNat) (IntKind.i64.wrap (1 * 2 ^ min x9.toNat IntKind.i64.bits)))).length : Int)) then (bif decide (x9.toNat < (r1.set x8.toNat (bits BinOp.or IntKind.i64 (eli r1 x8.toNat) (IntKind.i64.wrap (1 * 2 ^ min x9.toNat IntKind.i64.bits)))).length) then (next_ (IntKind.i64.wrap (x9 + 1), c_3.snd.fst, c_3.snd.snd, (r1.set x8.toNat (bits BinOp.or IntKind.i64 (eli r1 x8.toNat) (IntKind.i64.wrap (1 * 2 ^ min x9.toNat IntKind.i64.bits)))).set x9.toNat (bits BinOp.or IntKind.i64 (eli (r1.set x8.toNat (bits BinOp.or IntKind.i64 (eli r1 x8.toNat) (IntKind.i64.wrap (1 * 2 ^ min x9.toNat IntKind.i64.bits)))) x9.toNat) (IntKind.i64.wrap (1 * 2 ^ min x8.toNat IntKind.i64.bits))))) else fail_) else fail_)) else fail_) else fail_) else fail_) else fail_)) else fail_) else fail_) else (next_ (IntKind.i64.wrap (x9 + 1), c_3.snd.fst, c_3.snd.snd, r1))))))) fail_) else (out0_ (r0_0, r0_1, r1)))
theorem S.l20Net_step8_nat {α γ : Type} (g : α → γ) (x1 : Int) (x5 : Int) (x7 : Int) (x8 : Int) (x9 : Int) (r0_0 : List Int) (r0_1 : Int) (r1 : List Int) (next_ : Int × (List Int) × Int × (List Int) → α) (out0_ : (List Int) × Int × (List Int) → α) (fail_ : α) : g (S.l20Net_step8 x1 x5 x7 x8 x9 r0_0 r0_1 r1 next_ out0_ fail_) = S.l20Net_step8 x1 x5 x7 x8 x9 r0_0 r0_1 r1 (fun s => g (next_ s)) (fun d => g (out0_ d)) (g fail_) := by
  unfold S.l20Net_step8; simp only [apply_cnd g, apply_optC g, apply_sumC g]
noncomputable def S.l20Net_run8 (x1 : Int) (x5 : Int) (x7 : Int) (x8 : Int) : Nat → Int × (List Int) × Int × (List Int) → Option ((List Int) × Int × (List Int))
  | 0, _ => none
  | n + 1, s_ => S.l20Net_step8 x1 x5 x7 x8 s_.1 s_.2.1 s_.2.2.1 s_.2.2.2 (S.l20Net_run8 x1 x5 x7 x8 n) (fun d => some d) none
theorem S.l20Net_L8_run (x1 : Int) (x5 : Int) (x7 : Int) (x8 : Int) (n : Nat) (s_ : Int × (List Int) × Int × (List Int)) (k : X → St → R) : S.l20Net_L8 n { n := 125, t := [(0, (.ptr 0 0)), (1, (.int .i64 x1)), (5, (.int .i64 x5)), (6, (.own 1)), (7, (.int .i64 x7)), (8, (.int .i64 x8)), (9, (.int .i64 s_.1))], h := [.cells [(.ro true (.ints .u8 s_.2.1)), (.int .i64 s_.2.2.1)], .row (.ints .i64 s_.2.2.2)] } k = optC (S.l20Net_run8 x1 x5 x7 x8 n s_) (fun (r : (List Int) × Int × (List Int)) => k (.exit 2) { n := 125, t := [(0, (.ptr 0 0)), (1, (.int .i64 x1)), (5, (.int .i64 x5)), (6, (.own 1)), (7, (.int .i64 x7)), (8, (.int .i64 x8))], h := [.cells [(.ro true (.ints .u8 r.1)), (.int .i64 r.2.1)], .row (.ints .i64 r.2.2)] }) none := by
  induction n generalizing s_ with
  | zero => rfl
  | succ n ih =>
    have hu : S.l20Net_L8 (n + 1) { n := 125, t := [(0, (.ptr 0 0)), (1, (.int .i64 x1)), (5, (.int .i64 x5)), (6, (.own 1)), (7, (.int .i64 x7)), (8, (.int .i64 x8)), (9, (.int .i64 s_.1))], h := [.cells [(.ro true (.ints .u8 s_.2.1)), (.int .i64 s_.2.2.1)], .row (.ints .i64 s_.2.2.2)] } k = S.l20Net_step8 x1 x5 x7 x8 s_.1 s_.2.1 s_.2.2.1 s_.2.2.2 (fun s_ => S.l20Net_L8 n { n := 125, t := [(0, (.ptr 0 0)), (1, (.int .i64 x1)), (5, (.int .i64 x5)), (6, (.own 1)), (7, (.int .i64 x7)), (8, (.int .i64 x8)), (9, (.int .i64 s_.1))], h := [.cells [(.ro true (.ints .u8 s_.2.1)), (.int .i64 s_.2.2.1)], .row (.ints .i64 s_.2.2.2)] } k) (fun d => k (.exit 2) { n := 125, t := [(0, (.ptr 0 0)), (1, (.int .i64 x1)), (5, (.int .i64 x5)), (6, (.own 1)), (7, (.int .i64 x7)), (8, (.int .i64 x8))], h := [.cells [(.ro true (.ints .u8 d.1)), (.int .i64 d.2.1)], .row (.ints .i64 d.2.2)] }) none := by
      kernel_rfl
    have hs : (fun s_ : Int × (List Int) × Int × (List Int) => S.l20Net_L8 n { n := 125, t := [(0, (.ptr 0 0)), (1, (.int .i64 x1)), (5, (.int .i64 x5)), (6, (.own 1)), (7, (.int .i64 x7)), (8, (.int .i64 x8)), (9, (.int .i64 s_.1))], h := [.cells [(.ro true (.ints .u8 s_.2.1)), (.int .i64 s_.2.2.1)], .row (.ints .i64 s_.2.2.2)] } k) = fun s_ => optC (S.l20Net_run8 x1 x5 x7 x8 n s_) (fun (r : (List Int) × Int × (List Int)) => k (.exit 2) { n := 125, t := [(0, (.ptr 0 0)), (1, (.int .i64 x1)), (5, (.int .i64 x5)), (6, (.own 1)), (7, (.int .i64 x7)), (8, (.int .i64 x8))], h := [.cells [(.ro true (.ints .u8 r.1)), (.int .i64 r.2.1)], .row (.ints .i64 r.2.2)] }) none := funext ih
    rw [hu, hs]
    exact (S.l20Net_step8_nat (fun o => optC o (fun (r : (List Int) × Int × (List Int)) => k (.exit 2) { n := 125, t := [(0, (.ptr 0 0)), (1, (.int .i64 x1)), (5, (.int .i64 x5)), (6, (.own 1)), (7, (.int .i64 x7)), (8, (.int .i64 x8))], h := [.cells [(.ro true (.ints .u8 r.1)), (.int .i64 r.2.1)], .row (.ints .i64 r.2.2)] }) none) x1 x5 x7 x8 s_.1 s_.2.1 s_.2.2.1 s_.2.2.2 (S.l20Net_run8 x1 x5 x7 x8 n) (fun d => some d) none).symm
noncomputable def S.l20Net_step5 {α : Type} (x1 : Int) (x5 : Int) (x7 : Int) (x8 : Int) (r0_0 : List Int) (r0_1 : Int) (r1 : List Int) (next_ : Int × (List Int) × Int × (List Int) → α) (out0_ : (List Int) × Int × (List Int) → α) (fail_ : α) : α :=
  (bif decide (x8 < x5) then (optC (S.l20Net_run8 x1 x5 x7 x8 FUEL (0, r0_0, r0_1, r1)) (fun qy_5 => (next_ (IntKind.i64.wrap (x8 + 1), qy_5.1, qy_5.2.1, qy_5.2.2))) fail_) else (out0_ (r0_0, r0_1, r1)))
theorem S.l20Net_step5_nat {α γ : Type} (g : α → γ) (x1 : Int) (x5 : Int) (x7 : Int) (x8 : Int) (r0_0 : List Int) (r0_1 : Int) (r1 : List Int) (next_ : Int × (List Int) × Int × (List Int) → α) (out0_ : (List Int) × Int × (List Int) → α) (fail_ : α) : g (S.l20Net_step5 x1 x5 x7 x8 r0_0 r0_1 r1 next_ out0_ fail_) = S.l20Net_step5 x1 x5 x7 x8 r0_0 r0_1 r1 (fun s => g (next_ s)) (fun d => g (out0_ d)) (g fail_) := by
  unfold S.l20Net_step5; simp only [apply_cnd g, apply_optC g, apply_sumC g]
noncomputable def S.l20Net_run5 (x1 : Int) (x5 : Int) (x7 : Int) : Nat → Int × (List Int) × Int × (List Int) → Option ((List Int) × Int × (List Int))
  | 0, _ => none
  | n + 1, s_ => S.l20Net_step5 x1 x5 x7 s_.1 s_.2.1 s_.2.2.1 s_.2.2.2 (S.l20Net_run5 x1 x5 x7 n) (fun d => some d) none
theorem S.l20Net_L5_run (x1 : Int) (x5 : Int) (x7 : Int) (n : Nat) (s_ : Int × (List Int) × Int × (List Int)) (k : X → St → R) : S.l20Net_L5 n { n := 125, t := [(0, (.ptr 0 0)), (1, (.int .i64 x1)), (5, (.int .i64 x5)), (6, (.own 1)), (7, (.int .i64 x7)), (8, (.int .i64 s_.1))], h := [.cells [(.ro true (.ints .u8 s_.2.1)), (.int .i64 s_.2.2.1)], .row (.ints .i64 s_.2.2.2)] } k = optC (S.l20Net_run5 x1 x5 x7 n s_) (fun (r : (List Int) × Int × (List Int)) => k (.exit 0) { n := 125, t := [(0, (.ptr 0 0)), (1, (.int .i64 x1)), (5, (.int .i64 x5)), (6, (.own 1))], h := [.cells [(.ro true (.ints .u8 r.1)), (.int .i64 r.2.1)], .row (.ints .i64 r.2.2)] }) none := by
  induction n generalizing s_ with
  | zero => rfl
  | succ n ih =>
    have hu : S.l20Net_L5 (n + 1) { n := 125, t := [(0, (.ptr 0 0)), (1, (.int .i64 x1)), (5, (.int .i64 x5)), (6, (.own 1)), (7, (.int .i64 x7)), (8, (.int .i64 s_.1))], h := [.cells [(.ro true (.ints .u8 s_.2.1)), (.int .i64 s_.2.2.1)], .row (.ints .i64 s_.2.2.2)] } k = S.l20Net_step5 x1 x5 x7 s_.1 s_.2.1 s_.2.2.1 s_.2.2.2 (fun s_ => S.l20Net_L5 n { n := 125, t := [(0, (.ptr 0 0)), (1, (.int .i64 x1)), (5, (.int .i64 x5)), (6, (.own 1)), (7, (.int .i64 x7)), (8, (.int .i64 s_.1))], h := [.cells [(.ro true (.ints .u8 s_.2.1)), (.int .i64 s_.2.2.1)], .row (.ints .i64 s_.2.2.2)] } k) (fun d => k (.exit 0) { n := 125, t := [(0, (.ptr 0 0)), (1, (.int .i64 x1)), (5, (.int .i64 x5)), (6, (.own 1))], h := [.cells [(.ro true (.ints .u8 d.1)), (.int .i64 d.2.1)], .row (.ints .i64 d.2.2)] }) none := by
      refine Eq.trans (show S.l20Net_L5 (n + 1) { n := 125, t := [(0, (.ptr 0 0)), (1, (.int .i64 x1)), (5, (.int .i64 x5)), (6, (.own 1)), (7, (.int .i64 x7)), (8, (.int .i64 s_.1))], h := [.cells [(.ro true (.ints .u8 s_.2.1)), (.int .i64 s_.2.2.1)], .row (.ints .i64 s_.2.2.2)] } k = (bif decide (s_.1 < x5) then (S.l20Net_L8 FUEL { n := 125, t := [(0, (.ptr 0 0)), (1, (.int .i64 x1)), (5, (.int .i64 x5)), (6, (.own 1)), (7, (.int .i64 x7)), (8, (.int .i64 s_.1)), (9, (.int .i64 0))], h := [.cells [(.ro true (.ints .u8 s_.2.1)), (.int .i64 s_.2.2.1)], .row (.ints .i64 s_.2.2.2)] } (S.l20Net_k8 ((fun σ => S.l20Net_L5 n σ k), k))) else (k (.exit 0) { n := 125, t := [(0, (.ptr 0 0)), (1, (.int .i64 x1)), (5, (.int .i64 x5)), (6, (.own 1))], h := [.cells [(.ro true (.ints .u8 s_.2.1)), (.int .i64 s_.2.2.1)], .row (.ints .i64 s_.2.2.2)] })) by kernel_rfl) ?_
      refine cnd_congr ?_ ?_
      · refine (S.l20Net_L8_run x1 x5 x7 s_.1 FUEL (0, s_.2.1, s_.2.2.1, s_.2.2.2) (S.l20Net_k8 ((fun σ => S.l20Net_L5 n σ k), k))).trans (optC_congr (fun qy_5 => ?_))
        kernel_rfl
      · kernel_rfl
    have hs : (fun s_ : Int × (List Int) × Int × (List Int) => S.l20Net_L5 n { n := 125, t := [(0, (.ptr 0 0)), (1, (.int .i64 x1)), (5, (.int .i64 x5)), (6, (.own 1)), (7, (.int .i64 x7)), (8, (.int .i64 s_.1))], h := [.cells [(.ro true (.ints .u8 s_.2.1)), (.int .i64 s_.2.2.1)], .row (.ints .i64 s_.2.2.2)] } k) = fun s_ => optC (S.l20Net_run5 x1 x5 x7 n s_) (fun (r : (List Int) × Int × (List Int)) => k (.exit 0) { n := 125, t := [(0, (.ptr 0 0)), (1, (.int .i64 x1)), (5, (.int .i64 x5)), (6, (.own 1))], h := [.cells [(.ro true (.ints .u8 r.1)), (.int .i64 r.2.1)], .row (.ints .i64 r.2.2)] }) none := funext ih
    rw [hu, hs]
    exact (S.l20Net_step5_nat (fun o => optC o (fun (r : (List Int) × Int × (List Int)) => k (.exit 0) { n := 125, t := [(0, (.ptr 0 0)), (1, (.int .i64 x1)), (5, (.int .i64 x5)), (6, (.own 1))], h := [.cells [(.ro true (.ints .u8 r.1)), (.int .i64 r.2.1)], .row (.ints .i64 r.2.2)] }) none) x1 x5 x7 s_.1 s_.2.1 s_.2.2.1 s_.2.2.2 (S.l20Net_run5 x1 x5 x7 n) (fun d => some d) none).symm
noncomputable def S.l20Net_tree {α : Type} (rb : List Int) (rp : Int) (n_ : Int) (leaf0_ : (List Int) × Int × (List Int) → α) (fail_ : α) : α :=
  (optC (S.l20Rd_pick_t rb rp 6) (fun c_1 => (bif decide (0 ≤ IntKind.i64.wrap (1 + c_1.fst)) && small (IntKind.i64.wrap (1 + c_1.fst)).toNat && true then (optC (S.l20Rd_pick_t c_1.snd.fst c_1.snd.snd 4) (fun c_2 => (optC (S.l20Net_run5 n_ (IntKind.i64.wrap (1 + c_1.fst)) c_2.fst FUEL (0, c_2.snd.fst, c_2.snd.snd, List.replicate (IntKind.i64.wrap (1 + c_1.fst)).toNat 0)) (fun qy_6 => (optC (S.l20Rd_odd_t qy_6.1 qy_6.2.1 n_) (fun c_7 => (bif c_7.fst then (optC (S.l20Rd_pick_t c_7.snd.fst c_7.snd.snd 3) (fun c_8 => (bif c_8.fst == 0 then (leaf0_ (c_8.snd.fst, c_8.snd.snd, [])) else (bif c_8.fst == 1 then (bif decide (0 < (↑qy_6.2.2.length : Int)) then (bif decide (0 < qy_6.2.2.length) then (bif decide (0 < (↑qy_6.2.2.length : Int)) then (bif decide (0 < qy_6.2.2.length) then (leaf0_ (c_8.snd.fst, c_8.snd.snd, qy_6.2.2.set 0 (bits BinOp.or IntKind.i64 (eli qy_6.2.2 0) 1))) else fail_) else fail_) else fail_) else fail_) else (bif decide (0 < (↑qy_6.2.2.length : Int)) then (bif decide (0 < qy_6.2.2.length) then (bif decide (IntKind.i64.wrap (IntKind.i64.wrap (1 + c_1.fst) - 1) < 0) then fail_ else (bif decide (0 < (↑qy_6.2.2.length : Int)) then (bif decide (0 < qy_6.2.2.length) then (bif IntKind.i64.wrap (1 + c_1.fst) == 1 then (bif decide (0 < (↑(qy_6.2.2.set 0 (bits BinOp.xor IntKind.i64 (eli qy_6.2.2 0) (IntKind.i64.wrap (1 * 2 ^ min (IntKind.i64.wrap (IntKind.i64.wrap (1 + c_1.fst) - 1)).toNat IntKind.i64.bits)))).length : Int)) then (bif decide (0 < (qy_6.2.2.set 0 (bits BinOp.xor IntKind.i64 (eli qy_6.2.2 0) (IntKind.i64.wrap (1 * 2 ^ min (IntKind.i64.wrap (IntKind.i64.wrap (1 + c_1.fst) - 1)).toNat IntKind.i64.bits)))).length) then (leaf0_ (c_8.snd.fst, c_8.snd.snd, (qy_6.2.2.set 0 (bits BinOp.xor IntKind.i64 (eli qy_6.2.2 0) (IntKind.i64.wrap (1 * 2 ^ min (IntKind.i64.wrap (IntKind.i64.wrap (1 + c_1.fst) - 1)).toNat IntKind.i64.bits)))).set 0 (-1))) else fail_) else fail_) else (leaf0_ (c_8.snd.fst, c_8.snd.snd, qy_6.2.2.set 0 (bits BinOp.xor IntKind.i64 (eli qy_6.2.2 0) (IntKind.i64.wrap (1 * 2 ^ min (IntKind.i64.wrap (IntKind.i64.wrap (1 + c_1.fst) - 1)).toNat IntKind.i64.bits)))))) else fail_) else fail_)) else fail_) else fail_)))) fail_) else (leaf0_ (c_7.snd.fst, c_7.snd.snd, qy_6.2.2)))) fail_)) fail_)) fail_) else fail_)) fail_)
theorem S.l20Net_tree_nat {α γ : Type} (g : α → γ) (rb : List Int) (rp : Int) (n_ : Int) (leaf0_ : (List Int) × Int × (List Int) → α) (fail_ : α) : g (S.l20Net_tree rb rp n_ leaf0_ fail_) = S.l20Net_tree rb rp n_ (fun d => g (leaf0_ d)) (g fail_) := by
  unfold S.l20Net_tree; simp only [apply_cnd g, apply_optC g, apply_sumC g]
noncomputable def S.l20Net_t (rb : List Int) (rp : Int) (n_ : Int) : Option ((List Int) × Int × (List Int)) := S.l20Net_tree rb rp n_ (fun d => some d) none
theorem S.l20Net_den (rb : List Int) (rp : Int) (n_ : Int) (κ : V → List E → R) : S.l20Net_F [.ptr 0 0, .int .i64 n_] [.cells [.ro true (.ints .u8 rb), .int .i64 rp]] κ = optC (S.l20Net_t rb rp n_) (fun (r : (List Int) × Int × (List Int)) => κ (.own 1) [.cells [(.ro true (.ints .u8 r.1)), (.int .i64 r.2.1)], .row (.ints .i64 r.2.2)]) none := by
  have hu : S.l20Net_F [.ptr 0 0, .int .i64 n_] [.cells [.ro true (.ints .u8 rb), .int .i64 rp]] κ = S.l20Net_tree rb rp n_ (fun d => κ (.own 1) [.cells [(.ro true (.ints .u8 d.1)), (.int .i64 d.2.1)], .row (.ints .i64 d.2.2)]) none := by
    refine Eq.trans (show S.l20Net_F [.ptr 0 0, .int .i64 n_] [.cells [.ro true (.ints .u8 rb), .int .i64 rp]] κ = (optC (S.l20Rd_pick_t rb rp 6) (fun c_1 => (bif decide (0 ≤ IntKind.i64.wrap (1 + c_1.fst)) && small (IntKind.i64.wrap (1 + c_1.fst)).toNat && true then (optC (S.l20Rd_pick_t c_1.snd.fst c_1.snd.snd 4) (fun c_2 => (S.l20Net_L5 FUEL { n := 125, t := [(0, (.ptr 0 0)), (1, (.int .i64 n_)), (5, (.int .i64 (IntKind.i64.wrap (1 + c_1.fst)))), (6, (.own 1)), (7, (.int .i64 c_2.fst)), (8, (.int .i64 0))], h := [.cells [(.ro true (.ints .u8 c_2.snd.fst)), (.int .i64 c_2.snd.snd)], .row (.ints .i64 (List.replicate (IntKind.i64.wrap (1 + c_1.fst)).toNat 0))] } (S.l20Net_k5 κ))) none) else none)) none) by kernel_rfl) ?_
    refine optC_congr (fun c_1 => ?_)
    refine cnd_congr ?_ ?_
    · refine optC_congr (fun c_2 => ?_)
      refine (S.l20Net_L5_run n_ (IntKind.i64.wrap (1 + c_1.fst)) c_2.fst FUEL (0, c_2.snd.fst, c_2.snd.snd, List.replicate (IntKind.i64.wrap (1 + c_1.fst)).toNat 0) (S.l20Net_k5 κ)).trans (optC_congr (fun qy_6 => ?_))
      kernel_rfl
    · kernel_rfl
  rw [hu]
  exact (S.l20Net_tree_nat (fun o => optC o (fun (r : (List Int) × Int × (List Int)) => κ (.own 1) [.cells [(.ro true (.ints .u8 r.1)), (.int .i64 r.2.1)], .row (.ints .i64 r.2.2)]) none) rb rp n_ (fun d => some d) none).symm
noncomputable def S.l20Net_s : D.Spec where
  keep := false
  pure := false
  add := false
  ds := [.invalid, .invalid]
  sp := fun args h κ => match args, h with
    | [.ptr 0 0, .int .i64 n_], [.cells [.ro true (.ints .u8 rb), .int .i64 rp]] => optC (S.l20Net_t rb rp n_) (fun (r : (List Int) × Int × (List Int)) => κ (.own 1) [.cells [(.ro true (.ints .u8 r.1)), (.int .i64 r.2.1)], .row (.ints .i64 r.2.2)]) none
    | _, _ => none
theorem S.l20Net_ok : SpecOk Try.prog 64 S.l20Net_s := by
  refine SpecOk.of TDok mixed (T := S.l20Net_T) ?_ (ann := S.l20Net_ann) Try.func64 rfl (by decide +kernel) ?_ ?_ ?_ ?_
  · intro p hp
    simp only [S.l20Net_T, List.mem_cons, List.not_mem_nil, or_false] at hp
    rcases hp with rfl | rfl
    · exact S.l20Rd_pick_ok
    · exact S.l20Rd_odd_ok
  · intro args h κ r hh
    simp only [S.l20Net_s] at hh
    split at hh
    · exact (S.l20Net_den _ _ _ κ).trans hh
    · cases hh
  · intro args h κ r hh
    simp only [S.l20Net_s] at hh ⊢
    split at hh
    · exact optC_law2 (F := fun (r : (List Int) × Int × (List Int)) κ => κ (.own 1) [.cells [(.ro true (.ints .u8 r.1)), (.int .i64 r.2.1)], .row (.ints .i64 r.2.2)]) (fun b κ r hb => ⟨_, _, hb, fun _ => rfl⟩) hh
    · cases hh
  · intro hh; cases hh
  · intro hh; cases hh


-- loop.example/guardsonnets/spec.l20Places
noncomputable def S.l20Places_T : List (Nat × D.Spec) := [(51, S.l20Rd_pick_s)]
def S.l20Places_ann : Nat → List Nat × List Nat
  | 3 => ([0, 1, 7, 8], [7])
  | _ => ([], [])
noncomputable def S.l20Places_F (args : List V) (h : List E) (κ : V → List E → R) : R := funC TD (tableK S.l20Places_T) S.l20Places_ann (drawAny TD (tableP S.l20Places_T)) FUEL Try.f65 args h κ
noncomputable def S.l20Places_L3 (n : Nat) (σ : St) (k : X → St → R) : R := iterC 1 (fun σ k => denC TD (tableK S.l20Places_T) S.l20Places_ann (drawAny TD (tableP S.l20Places_T)) 1 FUEL ((findLoop 3 (Try.f65.body.getD .skip)).getD .skip) σ k) [0, 1, 7, 8] [7] n σ k
noncomputable def S.l20Places_k3 (κ : V → List E → R) : X → St → R := (afterC TD (tableK S.l20Places_T) S.l20Places_ann (drawAny TD (tableP S.l20Places_T)) 1 FUEL 3 (Try.f65.body.getD .skip) (finC TD 1 Try.f65 κ)).getD (fun _ _ => none)
noncomputable def S.l20Places_step3 {α : Type} (x1 : Int) (x8 : Int) (r0_0 : List Int) (r0_1 : Int) (r1 : List Int) (next_ : Int × (List Int) × Int × (List Int) → α) (out0_ : (List Int) × Int × (List Int) → α) (fail_ : α) : α :=
  (bif decide (x8 > 0) then (optC (S.l20Rd_pick_t r0_0 r0_1 (if 1 > x1 then 1 else x1)) (fun c_2 => (bif small (r1 ++ [c_2.fst]).length then (next_ (IntKind.i64.wrap (x8 - 1), c_2.snd.fst, c_2.snd.snd, r1 ++ [c_2.fst])) else fail_)) fail_) else (out0_ (r0_0, r0_1, r1)))
theorem S.l20Places_step3_nat {α γ : Type} (g : α → γ) (x1 : Int) (x8 : Int) (r0_0 : List Int) (r0_1 : Int) (r1 : List Int) (next_ : Int × (List Int) × Int × (List Int) → α) (out0_ : (List Int) × Int × (List Int) → α) (fail_ : α) : g (S.l20Places_step3 x1 x8 r0_0 r0_1 r1 next_ out0_ fail_) = S.l20Places_step3 x1 x8 r0_0 r0_1 r1 (fun s => g (next_ s)) (fun d => g (out0_ d)) (g fail_) := by
  unfold S.l20Places_step3; simp only [apply_cnd g, apply_optC g, apply_sumC g]
noncomputable def S.l20Places_run3 (x1 : Int) : Nat → Int × (List Int) × Int × (List Int) → Option ((List Int) × Int × (List Int))
  | 0, _ => none
  | n + 1, s_ => S.l20Places_step3 x1 s_.1 s_.2.1 s_.2.2.1 s_.2.2.2 (S.l20Places_run3 x1 n) (fun d => some d) none
theorem S.l20Places_L3_run (x1 : Int) (n : Nat) (s_ : Int × (List Int) × Int × (List Int)) (k : X → St → R) : S.l20Places_L3 n { n := 26, t := [(0, (.ptr 0 0)), (1, (.int .i64 x1)), (7, (.own 1)), (8, (.int .i64 s_.1))], h := [.cells [(.ro true (.ints .u8 s_.2.1)), (.int .i64 s_.2.2.1)], .row (.ints .i64 s_.2.2.2)] } k = optC (S.l20Places_run3 x1 n s_) (fun (r : (List Int) × Int × (List Int)) => k (.exit 0) { n := 26, t := [(7, (.own 1))], h := [.cells [(.ro true (.ints .u8 r.1)), (.int .i64 r.2.1)], .row (.ints .i64 r.2.2)] }) none := by
  induction n generalizing s_ with
  | zero => rfl
  | succ n ih =>
    have hu : S.l20Places_L3 (n + 1) { n := 26, t := [(0, (.ptr 0 0)), (1, (.int .i64 x1)), (7, (.own 1)), (8, (.int .i64 s_.1))], h := [.cells [(.ro true (.ints .u8 s_.2.1)), (.int .i64 s_.2.2.1)], .row (.ints .i64 s_.2.2.2)] } k = S.l20Places_step3 x1 s_.1 s_.2.1 s_.2.2.1 s_.2.2.2 (fun s_ => S.l20Places_L3 n { n := 26, t := [(0, (.ptr 0 0)), (1, (.int .i64 x1)), (7, (.own 1)), (8, (.int .i64 s_.1))], h := [.cells [(.ro true (.ints .u8 s_.2.1)), (.int .i64 s_.2.2.1)], .row (.ints .i64 s_.2.2.2)] } k) (fun d => k (.exit 0) { n := 26, t := [(7, (.own 1))], h := [.cells [(.ro true (.ints .u8 d.1)), (.int .i64 d.2.1)], .row (.ints .i64 d.2.2)] }) none := by
      kernel_rfl
    have hs : (fun s_ : Int × (List Int) × Int × (List Int) => S.l20Places_L3 n { n := 26, t := [(0, (.ptr 0 0)), (1, (.int .i64 x1)), (7, (.own 1)), (8, (.int .i64 s_.1))], h := [.cells [(.ro true (.ints .u8 s_.2.1)), (.int .i64 s_.2.2.1)], .row (.ints .i64 s_.2.2.2)] } k) = fun s_ => optC (S.l20Places_run3 x1 n s_) (fun (r : (List Int) × Int × (List Int)) => k (.exit 0) { n := 26, t := [(7, (.own 1))], h := [.cells [(.ro true (.ints .u8 r.1)), (.int .i64 r.2.1)], .row (.ints .i64 r.2.2)] }) none := funext ih
    rw [hu, hs]
    exact (S.l20Places_step3_nat (fun o => optC o (fun (r : (List Int) × Int × (List Int)) => k (.exit 0) { n := 26, t := [(7, (.own 1))], h := [.cells [(.ro true (.ints .u8 r.1)), (.int .i64 r.2.1)], .row (.ints .i64 r.2.2)] }) none) x1 s_.1 s_.2.1 s_.2.2.1 s_.2.2.2 (S.l20Places_run3 x1 n) (fun d => some d) none).symm
noncomputable def S.l20Places_tree {α : Type} (rb : List Int) (rp : Int) (many : Int) (most : Int) (leaf0_ : (List Int) × Int × (List Int) → α) (fail_ : α) : α :=
  (optC (S.l20Rd_pick_t rb rp (IntKind.i64.wrap (most + 1))) (fun c_1 => (optC (S.l20Places_run3 many FUEL (c_1.fst, c_1.snd.fst, c_1.snd.snd, [])) (fun qy_3 => (leaf0_ (qy_3.1, qy_3.2.1, qy_3.2.2))) fail_)) fail_)
theorem S.l20Places_tree_nat {α γ : Type} (g : α → γ) (rb : List Int) (rp : Int) (many : Int) (most : Int) (leaf0_ : (List Int) × Int × (List Int) → α) (fail_ : α) : g (S.l20Places_tree rb rp many most leaf0_ fail_) = S.l20Places_tree rb rp many most (fun d => g (leaf0_ d)) (g fail_) := by
  unfold S.l20Places_tree; simp only [apply_cnd g, apply_optC g, apply_sumC g]
noncomputable def S.l20Places_t (rb : List Int) (rp : Int) (many : Int) (most : Int) : Option ((List Int) × Int × (List Int)) := S.l20Places_tree rb rp many most (fun d => some d) none
theorem S.l20Places_den (rb : List Int) (rp : Int) (many : Int) (most : Int) (κ : V → List E → R) : S.l20Places_F [.ptr 0 0, .int .i64 many, .int .i64 most] [.cells [.ro true (.ints .u8 rb), .int .i64 rp]] κ = optC (S.l20Places_t rb rp many most) (fun (r : (List Int) × Int × (List Int)) => κ (.own 1) [.cells [(.ro true (.ints .u8 r.1)), (.int .i64 r.2.1)], .row (.ints .i64 r.2.2)]) none := by
  have hu : S.l20Places_F [.ptr 0 0, .int .i64 many, .int .i64 most] [.cells [.ro true (.ints .u8 rb), .int .i64 rp]] κ = S.l20Places_tree rb rp many most (fun d => κ (.own 1) [.cells [(.ro true (.ints .u8 d.1)), (.int .i64 d.2.1)], .row (.ints .i64 d.2.2)]) none := by
    refine Eq.trans (show S.l20Places_F [.ptr 0 0, .int .i64 many, .int .i64 most] [.cells [.ro true (.ints .u8 rb), .int .i64 rp]] κ = (optC (S.l20Rd_pick_t rb rp (IntKind.i64.wrap (most + 1))) (fun c_1 => (S.l20Places_L3 FUEL { n := 26, t := [(0, (.ptr 0 0)), (1, (.int .i64 many)), (7, (.own 1)), (8, (.int .i64 c_1.fst))], h := [.cells [(.ro true (.ints .u8 c_1.snd.fst)), (.int .i64 c_1.snd.snd)], .row (.ints .i64 ([]))] } (S.l20Places_k3 κ))) none) by kernel_rfl) ?_
    refine optC_congr (fun c_1 => ?_)
    refine (S.l20Places_L3_run many FUEL (c_1.fst, c_1.snd.fst, c_1.snd.snd, []) (S.l20Places_k3 κ)).trans (optC_congr (fun qy_3 => ?_))
    kernel_rfl
  rw [hu]
  exact (S.l20Places_tree_nat (fun o => optC o (fun (r : (List Int) × Int × (List Int)) => κ (.own 1) [.cells [(.ro true (.ints .u8 r.1)), (.int .i64 r.2.1)], .row (.ints .i64 r.2.2)]) none) rb rp many most (fun d => some d) none).symm
noncomputable def S.l20Places_s : D.Spec where
  keep := false
  pure := false
  add := false
  ds := [.invalid, .invalid, .invalid]
  sp := fun args h κ => match args, h with
    | [.ptr 0 0, .int .i64 many, .int .i64 most], [.cells [.ro true (.ints .u8 rb), .int .i64 rp]] => optC (S.l20Places_t rb rp many most) (fun (r : (List Int) × Int × (List Int)) => κ (.own 1) [.cells [(.ro true (.ints .u8 r.1)), (.int .i64 r.2.1)], .row (.ints .i64 r.2.2)]) none
    | _, _ => none
theorem S.l20Places_ok : SpecOk Try.prog 65 S.l20Places_s := by
  refine SpecOk.of TDok mixed (T := S.l20Places_T) ?_ (ann := S.l20Places_ann) Try.func65 rfl (by decide +kernel) ?_ ?_ ?_ ?_
  · intro p hp
    simp only [S.l20Places_T, List.mem_cons, List.not_mem_nil, or_false] at hp
    rcases hp with rfl
    · exact S.l20Rd_pick_ok
  · intro args h κ r hh
    simp only [S.l20Places_s] at hh
    split at hh
    · exact (S.l20Places_den _ _ _ _ κ).trans hh
    · cases hh
  · intro args h κ r hh
    simp only [S.l20Places_s] at hh ⊢
    split at hh
    · exact optC_law2 (F := fun (r : (List Int) × Int × (List Int)) κ => κ (.own 1) [.cells [(.ro true (.ints .u8 r.1)), (.int .i64 r.2.1)], .row (.ints .i64 r.2.2)]) (fun b κ r hb => ⟨_, _, hb, fun _ => rfl⟩) hh
    · cases hh
  · intro hh; cases hh
  · intro hh; cases hh


-- loop.example/guardsonnets/spec.l1In
noncomputable def S.l1In_T : List (Nat × D.Spec) := []
def S.l1In_ann : Nat → List Nat × List Nat
  | _ => ([], [])
noncomputable def S.l1In_F (args : List V) (h : List E) (κ : V → List E → R) : R := funC TD (tableK S.l1In_T) S.l1In_ann (drawAny TD (tableP S.l1In_T)) FUEL Try.f55 args h κ
noncomputable def S.l1In_tree {α : Type} (n_ : Int) (low : Int) (high : Int) (leaf0_ : Bool → α) (fail_ : α) : α :=
  (bif decide (n_ ≥ low) then (leaf0_ (decide (n_ ≤ high))) else (leaf0_ false))
theorem S.l1In_tree_nat {α γ : Type} (g : α → γ) (n_ : Int) (low : Int) (high : Int) (leaf0_ : Bool → α) (fail_ : α) : g (S.l1In_tree n_ low high leaf0_ fail_) = S.l1In_tree n_ low high (fun d => g (leaf0_ d)) (g fail_) := by
  unfold S.l1In_tree; simp only [apply_cnd g, apply_optC g, apply_sumC g]
noncomputable def S.l1In_t (n_ : Int) (low : Int) (high : Int) : Option (Bool) := S.l1In_tree n_ low high (fun d => some d) none
theorem S.l1In_den (n_ : Int) (low : Int) (high : Int) (κ : V → List E → R) : S.l1In_F [.int .i64 n_, .int .i64 low, .int .i64 high] [] κ = optC (S.l1In_t n_ low high) (fun (r : Bool) => κ (.bool r) []) none := by
  have hu : S.l1In_F [.int .i64 n_, .int .i64 low, .int .i64 high] [] κ = S.l1In_tree n_ low high (fun d => κ (.bool d) []) none := by
    kernel_rfl
  rw [hu]
  exact (S.l1In_tree_nat (fun o => optC o (fun (r : Bool) => κ (.bool r) []) none) n_ low high (fun d => some d) none).symm
noncomputable def S.l1In_s : D.Spec where
  keep := false
  pure := true
  add := true
  ds := [.invalid, .invalid, .invalid]
  sp := fun args h κ => match args, h with
    | [.int .i64 n_, .int .i64 low, .int .i64 high], [] => optC (S.l1In_t n_ low high) (fun (r : Bool) => κ (.bool r) []) none
    | _, _ => none
theorem S.l1In_ok : SpecOk Try.prog 55 S.l1In_s := by
  refine SpecOk.of TDok mixed (T := S.l1In_T) ?_ (ann := S.l1In_ann) Try.func55 rfl (by decide +kernel) ?_ ?_ ?_ ?_
  · intro p hp; cases hp
  · intro args h κ r hh
    simp only [S.l1In_s] at hh
    split at hh
    · exact (S.l1In_den _ _ _ κ).trans hh
    · cases hh
  · intro args h κ r hh
    simp only [S.l1In_s] at hh ⊢
    split at hh
    · exact optC_law2 (F := fun (r : Bool) κ => κ (.bool r) []) (fun b κ r hb => ⟨_, _, hb, fun _ => rfl⟩) hh
    · cases hh
  · intro _ args h κ r hh
    simp only [S.l1In_s] at hh
    split at hh
    · exact ⟨rfl, fun _ => rfl⟩
    · cases hh
  · intro _ args h κ r hh
    simp only [S.l1In_s] at hh
    split at hh
    · rfl
    · cases hh


-- loop.example/guardsonnets/spec.l17Record
noncomputable def S.l17Record_T : List (Nat × D.Spec) := []
def S.l17Record_ann : Nat → List Nat × List Nat
  | _ => ([], [])
noncomputable def S.l17Record_F (args : List V) (h : List E) (κ : V → List E → R) : R := funC TD (tableK S.l17Record_T) S.l17Record_ann (drawAny TD (tableP S.l17Record_T)) FUEL Try.f58 args h κ
noncomputable def S.l17Record_tree {α : Type} (place : Int) (number : Int) (leaf0_ : List Int → α) (fail_ : α) : α :=
  (leaf0_ ([IntKind.u8.wrap (IntKind.i64.wrap (place + 1)), IntKind.u8.wrap (IntKind.i64.wrap (number + 1)), IntKind.u8.wrap ((IntKind.i64.wrap (IntKind.i64.wrap (place + 1) * IntKind.i64.wrap (number + 7))).tmod 251)]))
theorem S.l17Record_tree_nat {α γ : Type} (g : α → γ) (place : Int) (number : Int) (leaf0_ : List Int → α) (fail_ : α) : g (S.l17Record_tree place number leaf0_ fail_) = S.l17Record_tree place number (fun d => g (leaf0_ d)) (g fail_) := by
  unfold S.l17Record_tree; simp only [apply_cnd g, apply_optC g, apply_sumC g]
noncomputable def S.l17Record_t (place : Int) (number : Int) : Option (List Int) := S.l17Record_tree place number (fun d => some d) none
theorem S.l17Record_den (place : Int) (number : Int) (κ : V → List E → R) : S.l17Record_F [.int .i64 place, .int .i64 number] [] κ = optC (S.l17Record_t place number) (fun (r : List Int) => κ (.own 0) [.row (.ints .u8 r)]) none := by
  have hu : S.l17Record_F [.int .i64 place, .int .i64 number] [] κ = S.l17Record_tree place number (fun d => κ (.own 0) [.row (.ints .u8 d)]) none := by
    kernel_rfl
  rw [hu]
  exact (S.l17Record_tree_nat (fun o => optC o (fun (r : List Int) => κ (.own 0) [.row (.ints .u8 r)]) none) place number (fun d => some d) none).symm
noncomputable def S.l17Record_s : D.Spec where
  keep := false
  pure := false
  add := true
  ds := [.invalid, .invalid]
  sp := fun args h κ => match args, h with
    | [.int .i64 place, .int .i64 number], [] => optC (S.l17Record_t place number) (fun (r : List Int) => κ (.own 0) [.row (.ints .u8 r)]) none
    | _, _ => none
theorem S.l17Record_ok : SpecOk Try.prog 58 S.l17Record_s := by
  refine SpecOk.of TDok mixed (T := S.l17Record_T) ?_ (ann := S.l17Record_ann) Try.func58 rfl (by decide +kernel) ?_ ?_ ?_ ?_
  · intro p hp; cases hp
  · intro args h κ r hh
    simp only [S.l17Record_s] at hh
    split at hh
    · exact (S.l17Record_den _ _ κ).trans hh
    · cases hh
  · intro args h κ r hh
    simp only [S.l17Record_s] at hh ⊢
    split at hh
    · exact optC_law2 (F := fun (r : List Int) κ => κ (.own 0) [.row (.ints .u8 r)]) (fun b κ r hb => ⟨_, _, hb, fun _ => rfl⟩) hh
    · cases hh
  · intro hh; cases hh
  · intro _ args h κ r hh
    simp only [S.l17Record_s] at hh
    split at hh
    · rfl
    · cases hh


-- loop.example/guardsonnets/spec.LogOf
noncomputable def S.LogOf_T : List (Nat × D.Spec) := [(55, S.l1In_s), (58, S.l17Record_s)]
def S.LogOf_ann : Nat → List Nat × List Nat
  | 5 => ([0, 3, 4], [2, 3])
  | _ => ([], [])
noncomputable def S.LogOf_F (args : List V) (h : List E) (κ : V → List E → R) : R := funC TD (tableK S.LogOf_T) S.LogOf_ann (drawAny TD (tableP S.LogOf_T)) FUEL Try.f56 args h κ
noncomputable def S.LogOf_L5 (n : Nat) (σ : St) (k : X → St → R) : R := iterC 0 (fun σ k => denC TD (tableK S.LogOf_T) S.LogOf_ann (drawAny TD (tableP S.LogOf_T)) 0 FUEL ((findLoop 5 (Try.f56.body.getD .skip)).getD .skip) σ k) [0, 3, 4] [2, 3] n σ k
noncomputable def S.LogOf_k5 (κ : V → List E → R) : X → St → R := (afterC TD (tableK S.LogOf_T) S.LogOf_ann (drawAny TD (tableP S.LogOf_T)) 0 FUEL 5 (Try.f56.body.getD .skip) (finC TD 0 Try.f56 κ)).getD (fun _ _ => none)
noncomputable def S.LogOf_step5 {α : Type} (x0 : List Int) (x4 : Int) (r0 : List Int) (next_ : Int × (List Int) → α) (out0_ : (List Int) × (List Int) → α) (out1_ : List Int → α) (fail_ : α) : α :=
  (bif decide (x4 < (↑x0.length : Int)) then (bif decide (0 ≤ x4) && decide (x4 < (↑x0.length : Int)) then (optC (S.l1In_t (eli x0 x4.toNat) 0 5) (fun c_1 => (bif !c_1 then (out0_ ([], r0)) else (bif decide (0 ≤ x4) && decide (x4 < (↑x0.length : Int)) then (optC (S.l17Record_t (eli x0 x4.toNat) x4) (fun c_2 => (bif small (r0 ++ c_2).length then (next_ (IntKind.i64.wrap (x4 + 1), r0 ++ c_2)) else fail_)) fail_) else fail_))) fail_) else fail_) else (out1_ r0))
theorem S.LogOf_step5_nat {α γ : Type} (g : α → γ) (x0 : List Int) (x4 : Int) (r0 : List Int) (next_ : Int × (List Int) → α) (out0_ : (List Int) × (List Int) → α) (out1_ : List Int → α) (fail_ : α) : g (S.LogOf_step5 x0 x4 r0 next_ out0_ out1_ fail_) = S.LogOf_step5 x0 x4 r0 (fun s => g (next_ s)) (fun d => g (out0_ d)) (fun d => g (out1_ d)) (g fail_) := by
  unfold S.LogOf_step5; simp only [apply_cnd g, apply_optC g, apply_sumC g]
noncomputable def S.LogOf_run5 (x0 : List Int) : Nat → Int × (List Int) → Option (((List Int) × (List Int)) ⊕ (List Int))
  | 0, _ => none
  | n + 1, s_ => S.LogOf_step5 x0 s_.1 s_.2 (S.LogOf_run5 x0 n) (fun d => some ((Sum.inl d))) (fun d => some ((Sum.inr d))) none
theorem S.LogOf_L5_run (x0 : List Int) (n : Nat) (s_ : Int × (List Int)) (k : X → St → R) : S.LogOf_L5 n { n := 32, t := [(0, (.ro false (.ints .i64 x0))), (3, (.own 0)), (4, (.int .i64 s_.1))], h := [.row (.ints .u8 s_.2)] } k = optC (S.LogOf_run5 x0 n s_) (fun (r : ((List Int) × (List Int)) ⊕ (List Int)) => (sumC r (fun (r : (List Int) × (List Int)) => k (.ret) { n := 32, t := [(2, (.own 0)), (3, (.own 1))], h := [.row (.ints .u8 r.1), .row (.ints .u8 r.2)] }) (fun (r : List Int) => k (.exit 0) { n := 32, t := [(2, .junk), (3, (.own 0))], h := [.row (.ints .u8 r)] }))) none := by
  induction n generalizing s_ with
  | zero => rfl
  | succ n ih =>
    have hu : S.LogOf_L5 (n + 1) { n := 32, t := [(0, (.ro false (.ints .i64 x0))), (3, (.own 0)), (4, (.int .i64 s_.1))], h := [.row (.ints .u8 s_.2)] } k = S.LogOf_step5 x0 s_.1 s_.2 (fun s_ => S.LogOf_L5 n { n := 32, t := [(0, (.ro false (.ints .i64 x0))), (3, (.own 0)), (4, (.int .i64 s_.1))], h := [.row (.ints .u8 s_.2)] } k) (fun d => k (.ret) { n := 32, t := [(2, (.own 0)), (3, (.own 1))], h := [.row (.ints .u8 d.1), .row (.ints .u8 d.2)] }) (fun d => k (.exit 0) { n := 32, t := [(2, .junk), (3, (.own 0))], h := [.row (.ints .u8 d)] }) none := by
      kernel_rfl
    have hs : (fun s_ : Int × (List Int) => S.LogOf_L5 n { n := 32, t := [(0, (.ro false (.ints .i64 x0))), (3, (.own 0)), (4, (.int .i64 s_.1))], h := [.row (.ints .u8 s_.2)] } k) = fun s_ => optC (S.LogOf_run5 x0 n s_) (fun (r : ((List Int) × (List Int)) ⊕ (List Int)) => (sumC r (fun (r : (List Int) × (List Int)) => k (.ret) { n := 32, t := [(2, (.own 0)), (3, (.own 1))], h := [.row (.ints .u8 r.1), .row (.ints .u8 r.2)] }) (fun (r : List Int) => k (.exit 0) { n := 32, t := [(2, .junk), (3, (.own 0))], h := [.row (.ints .u8 r)] }))) none := funext ih
    rw [hu, hs]
    exact (S.LogOf_step5_nat (fun o => optC o (fun (r : ((List Int) × (List Int)) ⊕ (List Int)) => (sumC r (fun (r : (List Int) × (List Int)) => k (.ret) { n := 32, t := [(2, (.own 0)), (3, (.own 1))], h := [.row (.ints .u8 r.1), .row (.ints .u8 r.2)] }) (fun (r : List Int) => k (.exit 0) { n := 32, t := [(2, .junk), (3, (.own 0))], h := [.row (.ints .u8 r)] }))) none) x0 s_.1 s_.2 (S.LogOf_run5 x0 n) (fun d => some ((Sum.inl d))) (fun d => some ((Sum.inr d))) none).symm
noncomputable def S.LogOf_tree {α : Type} (places : List Int) (leaf0_ : List Int → α) (fail_ : α) : α :=
  (bif decide ((↑places.length : Int) > 40) then (leaf0_ ([])) else (optC (S.LogOf_run5 places FUEL (0, [])) (fun qy_3 => (sumC qy_3 (fun (qy_3 : (List Int) × (List Int)) => (leaf0_ qy_3.1)) (fun (qy_3 : List Int) => (leaf0_ qy_3)))) fail_))
theorem S.LogOf_tree_nat {α γ : Type} (g : α → γ) (places : List Int) (leaf0_ : List Int → α) (fail_ : α) : g (S.LogOf_tree places leaf0_ fail_) = S.LogOf_tree places (fun d => g (leaf0_ d)) (g fail_) := by
  unfold S.LogOf_tree; simp only [apply_cnd g, apply_optC g, apply_sumC g]
noncomputable def S.LogOf_t (places : List Int) : Option (List Int) := S.LogOf_tree places (fun d => some d) none
theorem S.LogOf_den (places : List Int) (κ : V → List E → R) : S.LogOf_F [.ro false (.ints .i64 places)] [] κ = optC (S.LogOf_t places) (fun (r : List Int) => κ (.own 0) [.row (.ints .u8 r)]) none := by
  have hu : S.LogOf_F [.ro false (.ints .i64 places)] [] κ = S.LogOf_tree places (fun d => κ (.own 0) [.row (.ints .u8 d)]) none := by
    refine Eq.trans (show S.LogOf_F [.ro false (.ints .i64 places)] [] κ = (bif decide ((↑places.length : Int) > 40) then (κ (.own 0) [.row (.ints .u8 ([]))]) else (S.LogOf_L5 FUEL { n := 32, t := [(0, (.ro false (.ints .i64 places))), (3, (.own 0)), (4, (.int .i64 0))], h := [.row (.ints .u8 ([]))] } (S.LogOf_k5 κ))) by kernel_rfl) ?_
    refine cnd_congr ?_ ?_
    · kernel_rfl
    · refine (S.LogOf_L5_run places FUEL (0, []) (S.LogOf_k5 κ)).trans (optC_congr (fun qy_3 => ?_))
      rcases qy_3 with qy_3 | qy_3
      · kernel_rfl
      · kernel_rfl
  rw [hu]
  exact (S.LogOf_tree_nat (fun o => optC o (fun (r : List Int) => κ (.own 0) [.row (.ints .u8 r)]) none) places (fun d => some d) none).symm
noncomputable def S.LogOf_s : D.Spec where
  keep := false
  pure := false
  add := true
  ds := [.int .i64]
  sp := fun args h κ => match args, h with
    | [.ro false (.ints .i64 places)], [] => optC (S.LogOf_t places) (fun (r : List Int) => κ (.own 0) [.row (.ints .u8 r)]) none
    | _, _ => none
theorem S.LogOf_ok : SpecOk Try.prog 56 S.LogOf_s := by
  refine SpecOk.of TDok mixed (T := S.LogOf_T) ?_ (ann := S.LogOf_ann) Try.func56 rfl (by decide +kernel) ?_ ?_ ?_ ?_
  · intro p hp
    simp only [S.LogOf_T, List.mem_cons, List.not_mem_nil, or_false] at hp
    rcases hp with rfl | rfl
    · exact S.l1In_ok
    · exact S.l17Record_ok
  · intro args h κ r hh
    simp only [S.LogOf_s] at hh
    split at hh
    · exact (S.LogOf_den _ κ).trans hh
    · cases hh
  · intro args h κ r hh
    simp only [S.LogOf_s] at hh ⊢
    split at hh
    · exact optC_law2 (F := fun (r : List Int) κ => κ (.own 0) [.row (.ints .u8 r)]) (fun b κ r hb => ⟨_, _, hb, fun _ => rfl⟩) hh
    · cases hh
  · intro hh; cases hh
  · intro _ args h κ r hh
    simp only [S.LogOf_s] at hh
    split at hh
    · rfl
    · cases hh


-- loop.example/guardsonnets/spec.NetOk
noncomputable def S.NetOk_T : List (Nat × D.Spec) := [(55, S.l1In_s)]
def S.NetOk_ann : Nat → List Nat × List Nat
  | 12 => ([0, 4, 5], [0, 2, 4])
  | 9 => ([0, 4], [2])
  | 4 => ([0, 3], [0, 2])
  | _ => ([], [])
noncomputable def S.NetOk_F (args : List V) (h : List E) (κ : V → List E → R) : R := funC TD (tableK S.NetOk_T) S.NetOk_ann (drawAny TD (tableP S.NetOk_T)) FUEL Try.f46 args h κ
noncomputable def S.NetOk_L12 (n : Nat) (σ : St) (k : X → St → R) : R := iterC 0 (fun σ k => denC TD (tableK S.NetOk_T) S.NetOk_ann (drawAny TD (tableP S.NetOk_T)) 0 FUEL ((findLoop 12 (Try.f46.body.getD .skip)).getD .skip) σ k) [0, 4, 5] [0, 2, 4] n σ k
noncomputable def S.NetOk_L9 (n : Nat) (σ : St) (k : X → St → R) : R := iterC 0 (fun σ k => denC TD (tableK S.NetOk_T) S.NetOk_ann (drawAny TD (tableP S.NetOk_T)) 0 FUEL ((findLoop 9 (Try.f46.body.getD .skip)).getD .skip) σ k) [0, 4] [2] n σ k
noncomputable def S.NetOk_L4 (n : Nat) (σ : St) (k : X → St → R) : R := iterC 0 (fun σ k => denC TD (tableK S.NetOk_T) S.NetOk_ann (drawAny TD (tableP S.NetOk_T)) 0 FUEL ((findLoop 4 (Try.f46.body.getD .skip)).getD .skip) σ k) [0, 3] [0, 2] n σ k
noncomputable def S.NetOk_k4 (κ : V → List E → R) : X → St → R := (afterC TD (tableK S.NetOk_T) S.NetOk_ann (drawAny TD (tableP S.NetOk_T)) 0 FUEL 4 (Try.f46.body.getD .skip) (finC TD 0 Try.f46 κ)).getD (fun _ _ => none)
noncomputable def S.NetOk_k12 (c : (St → R) × (X → St → R)) : X → St → R := (afterC TD (tableK S.NetOk_T) S.NetOk_ann (drawAny TD (tableP S.NetOk_T)) 0 FUEL 12 ((findLoop 9 (Try.f46.body.getD .skip)).getD .skip) (roundC 0 [0, 4] [2] c.1 c.2)).getD (fun _ _ => none)
noncomputable def S.NetOk_k9 (κ : V → List E → R) : X → St → R := (afterC TD (tableK S.NetOk_T) S.NetOk_ann (drawAny TD (tableP S.NetOk_T)) 0 FUEL 9 (Try.f46.body.getD .skip) (finC TD 0 Try.f46 κ)).getD (fun _ _ => none)
noncomputable def S.NetOk_step4 {α : Type} (x0 : List Int) (x3 : Int) (next_ : Int → α) (out0_ : Bool → α) (out1_ : Unit → α) (fail_ : α) : α :=
  (bif decide (x3 < (↑x0.length : Int)) then (bif decide (0 ≤ x3) && decide (x3 < (↑x0.length : Int)) then (optC (S.l1In_t (eli x0 x3.toNat) 0 (IntKind.i64.wrap (IntKind.i64.wrap (1 * 2 ^ min (↑x0.length : Int).toNat IntKind.i64.bits) - 1))) (fun c_2 => (bif !c_2 then (out0_ false) else (next_ (IntKind.i64.wrap (x3 + 1))))) fail_) else fail_) else (out1_ ()))
theorem S.NetOk_step4_nat {α γ : Type} (g : α → γ) (x0 : List Int) (x3 : Int) (next_ : Int → α) (out0_ : Bool → α) (out1_ : Unit → α) (fail_ : α) : g (S.NetOk_step4 x0 x3 next_ out0_ out1_ fail_) = S.NetOk_step4 x0 x3 (fun s => g (next_ s)) (fun d => g (out0_ d)) (fun d => g (out1_ d)) (g fail_) := by
  unfold S.NetOk_step4; simp only [apply_cnd g, apply_optC g, apply_sumC g]
noncomputable def S.NetOk_run4 (x0 : List Int) : Nat → Int → Option ((Bool) ⊕ (Unit))
  | 0, _ => none
  | n + 1, s_ => S.NetOk_step4 x0 s_ (S.NetOk_run4 x0 n) (fun d => some ((Sum.inl d))) (fun d => some ((Sum.inr d))) none
theorem S.NetOk_L4_run (x0 : List Int) (n : Nat) (s_ : Int) (k : X → St → R) : S.NetOk_L4 n { n := 68, t := [(0, (.ro false (.ints .i64 x0))), (3, (.int .i64 s_))], h := [] } k = optC (S.NetOk_run4 x0 n s_) (fun (r : (Bool) ⊕ (Unit)) => (sumC r (fun (r : Bool) => k (.ret) { n := 68, t := [(0, (.ro false (.ints .i64 x0))), (2, (.bool r))], h := [] }) (fun (r : Unit) => k (.exit 0) { n := 68, t := [(0, (.ro false (.ints .i64 x0))), (2, .junk)], h := [] }))) none := by
  induction n generalizing s_ with
  | zero => rfl
  | succ n ih =>
    have hu : S.NetOk_L4 (n + 1) { n := 68, t := [(0, (.ro false (.ints .i64 x0))), (3, (.int .i64 s_))], h := [] } k = S.NetOk_step4 x0 s_ (fun s_ => S.NetOk_L4 n { n := 68, t := [(0, (.ro false (.ints .i64 x0))), (3, (.int .i64 s_))], h := [] } k) (fun d => k (.ret) { n := 68, t := [(0, (.ro false (.ints .i64 x0))), (2, (.bool d))], h := [] }) (fun d => k (.exit 0) { n := 68, t := [(0, (.ro false (.ints .i64 x0))), (2, .junk)], h := [] }) none := by
      kernel_rfl
    have hs : (fun s_ : Int => S.NetOk_L4 n { n := 68, t := [(0, (.ro false (.ints .i64 x0))), (3, (.int .i64 s_))], h := [] } k) = fun s_ => optC (S.NetOk_run4 x0 n s_) (fun (r : (Bool) ⊕ (Unit)) => (sumC r (fun (r : Bool) => k (.ret) { n := 68, t := [(0, (.ro false (.ints .i64 x0))), (2, (.bool r))], h := [] }) (fun (r : Unit) => k (.exit 0) { n := 68, t := [(0, (.ro false (.ints .i64 x0))), (2, .junk)], h := [] }))) none := funext ih
    rw [hu, hs]
    exact (S.NetOk_step4_nat (fun o => optC o (fun (r : (Bool) ⊕ (Unit)) => (sumC r (fun (r : Bool) => k (.ret) { n := 68, t := [(0, (.ro false (.ints .i64 x0))), (2, (.bool r))], h := [] }) (fun (r : Unit) => k (.exit 0) { n := 68, t := [(0, (.ro false (.ints .i64 x0))), (2, .junk)], h := [] }))) none) x0 s_ (S.NetOk_run4 x0 n) (fun d => some ((Sum.inl d))) (fun d => some ((Sum.inr d))) none).symm
noncomputable def S.NetOk_step12 {α : Type} (x0 : List Int) (x4 : Int) (x5 : Int) (next_ : Int → α) (out0_ : Bool → α) (out1_ : Unit → α) (fail_ : α) : α :=
  (bif decide (x5 < (↑x0.length : Int)) then (bif decide (0 ≤ x4) && decide (x4 < (↑x0.length : Int)) then (bif decide (x5 < 0) then fail_ else (bif decide (0 ≤ x5) && decide (x5 < (↑x0.length : Int)) then (bif decide (x4 < 0) then fail_ else (bif !((eli x0 x4.toNat).fdiv (2 ^ min x5.toNat IntKind.i64.bits)).tmod 2 == ((eli x0 x5.toNat).fdiv (2 ^ min x4.toNat IntKind.i64.bits)).tmod 2 then (out0_ false) else (bif x5 == x4 then (bif decide (0 ≤ x4) && decide (x4 < (↑x0.length : Int)) then (bif decide (x5 < 0) then fail_ else (bif ((eli x0 x4.toNat).fdiv (2 ^ min x5.toNat IntKind.i64.bits)).tmod 2 == 1 then (out0_ false) else (next_ (IntKind.i64.wrap (x5 + 1))))) else fail_) else (next_ (IntKind.i64.wrap (x5 + 1)))))) else fail_)) else fail_) else (out1_ ()))
theorem S.NetOk_step12_nat {α γ : Type} (g : α → γ) (x0 : List Int) (x4 : Int) (x5 : Int) (next_ : Int → α) (out0_ : Bool → α) (out1_ : Unit → α) (fail_ : α) : g (S.NetOk_step12 x0 x4 x5 next_ out0_ out1_ fail_) = S.NetOk_step12 x0 x4 x5 (fun s => g (next_ s)) (fun d => g (out0_ d)) (fun d => g (out1_ d)) (g fail_) := by
  unfold S.NetOk_step12; simp only [apply_cnd g, apply_optC g, apply_sumC g]
noncomputable def S.NetOk_run12 (x0 : List Int) (x4 : Int) : Nat → Int → Option ((Bool) ⊕ (Unit))
  | 0, _ => none
  | n + 1, s_ => S.NetOk_step12 x0 x4 s_ (S.NetOk_run12 x0 x4 n) (fun d => some ((Sum.inl d))) (fun d => some ((Sum.inr d))) none
theorem S.NetOk_L12_run (x0 : List Int) (x4 : Int) (n : Nat) (s_ : Int) (k : X → St → R) : S.NetOk_L12 n { n := 68, t := [(0, (.ro false (.ints .i64 x0))), (4, (.int .i64 x4)), (5, (.int .i64 s_))], h := [] } k = optC (S.NetOk_run12 x0 x4 n s_) (fun (r : (Bool) ⊕ (Unit)) => (sumC r (fun (r : Bool) => k (.ret) { n := 68, t := [(0, (.ro false (.ints .i64 x0))), (2, (.bool r)), (4, (.int .i64 x4))], h := [] }) (fun (r : Unit) => k (.exit 4) { n := 68, t := [(0, (.ro false (.ints .i64 x0))), (2, .junk), (4, (.int .i64 x4))], h := [] }))) none := by
  induction n generalizing s_ with
  | zero => rfl
  | succ n ih =>
    have hu : S.NetOk_L12 (n + 1) { n := 68, t := [(0, (.ro false (.ints .i64 x0))), (4, (.int .i64 x4)), (5, (.int .i64 s_))], h := [] } k = S.NetOk_step12 x0 x4 s_ (fun s_ => S.NetOk_L12 n { n := 68, t := [(0, (.ro false (.ints .i64 x0))), (4, (.int .i64 x4)), (5, (.int .i64 s_))], h := [] } k) (fun d => k (.ret) { n := 68, t := [(0, (.ro false (.ints .i64 x0))), (2, (.bool d)), (4, (.int .i64 x4))], h := [] }) (fun d => k (.exit 4) { n := 68, t := [(0, (.ro false (.ints .i64 x0))), (2, .junk), (4, (.int .i64 x4))], h := [] }) none := by
      kernel_rfl
    have hs : (fun s_ : Int => S.NetOk_L12 n { n := 68, t := [(0, (.ro false (.ints .i64 x0))), (4, (.int .i64 x4)), (5, (.int .i64 s_))], h := [] } k) = fun s_ => optC (S.NetOk_run12 x0 x4 n s_) (fun (r : (Bool) ⊕ (Unit)) => (sumC r (fun (r : Bool) => k (.ret) { n := 68, t := [(0, (.ro false (.ints .i64 x0))), (2, (.bool r)), (4, (.int .i64 x4))], h := [] }) (fun (r : Unit) => k (.exit 4) { n := 68, t := [(0, (.ro false (.ints .i64 x0))), (2, .junk), (4, (.int .i64 x4))], h := [] }))) none := funext ih
    rw [hu, hs]
    exact (S.NetOk_step12_nat (fun o => optC o (fun (r : (Bool) ⊕ (Unit)) => (sumC r (fun (r : Bool) => k (.ret) { n := 68, t := [(0, (.ro false (.ints .i64 x0))), (2, (.bool r)), (4, (.int .i64 x4))], h := [] }) (fun (r : Unit) => k (.exit 4) { n := 68, t := [(0, (.ro false (.ints .i64 x0))), (2, .junk), (4, (.int .i64 x4))], h := [] }))) none) x0 x4 s_ (S.NetOk_run12 x0 x4 n) (fun d => some ((Sum.inl d))) (fun d => some ((Sum.inr d))) none).symm
noncomputable def S.NetOk_step9 {α : Type} (x0 : List Int) (x4 : Int) (next_ : Int → α) (out0_ : Bool → α) (out1_ : Unit → α) (fail_ : α) : α :=
  (bif decide (x4 < (↑x0.length : Int)) then (optC (S.NetOk_run12 x0 x4 FUEL 0) (fun qy_4 => (sumC qy_4 (fun (qy_4 : Bool) => (out0_ qy_4)) (fun (qy_4 : Unit) => (next_ (IntKind.i64.wrap (x4 + 1)))))) fail_) else (out1_ ()))
theorem S.NetOk_step9_nat {α γ : Type} (g : α → γ) (x0 : List Int) (x4 : Int) (next_ : Int → α) (out0_ : Bool → α) (out1_ : Unit → α) (fail_ : α) : g (S.NetOk_step9 x0 x4 next_ out0_ out1_ fail_) = S.NetOk_step9 x0 x4 (fun s => g (next_ s)) (fun d => g (out0_ d)) (fun d => g (out1_ d)) (g fail_) := by
  unfold S.NetOk_step9; simp only [apply_cnd g, apply_optC g, apply_sumC g]
noncomputable def S.NetOk_run9 (x0 : List Int) : Nat → Int → Option ((Bool) ⊕ (Unit))
  | 0, _ => none
  | n + 1, s_ => S.NetOk_step9 x0 s_ (S.NetOk_run9 x0 n) (fun d => some ((Sum.inl d))) (fun d => some ((Sum.inr d))) none
theorem S.NetOk_L9_run (x0 : List Int) (n : Nat) (s_ : Int) (k : X → St → R) : S.NetOk_L9 n { n := 68, t := [(0, (.ro false (.ints .i64 x0))), (4, (.int .i64 s_))], h := [] } k = optC (S.NetOk_run9 x0 n s_) (fun (r : (Bool) ⊕ (Unit)) => (sumC r (fun (r : Bool) => k (.ret) { n := 68, t := [(2, (.bool r))], h := [] }) (fun (r : Unit) => k (.exit 2) { n := 68, t := [(2, .junk)], h := [] }))) none := by
  induction n generalizing s_ with
  | zero => rfl
  | succ n ih =>
    have hu : S.NetOk_L9 (n + 1) { n := 68, t := [(0, (.ro false (.ints .i64 x0))), (4, (.int .i64 s_))], h := [] } k = S.NetOk_step9 x0 s_ (fun s_ => S.NetOk_L9 n { n := 68, t := [(0, (.ro false (.ints .i64 x0))), (4, (.int .i64 s_))], h := [] } k) (fun d => k (.ret) { n := 68, t := [(2, (.bool d))], h := [] }) (fun d => k (.exit 2) { n := 68, t := [(2, .junk)], h := [] }) none := by
      refine Eq.trans (show S.NetOk_L9 (n + 1) { n := 68, t := [(0, (.ro false (.ints .i64 x0))), (4, (.int .i64 s_))], h := [] } k = (bif decide (s_ < (↑x0.length : Int)) then (S.NetOk_L12 FUEL { n := 68, t := [(0, (.ro false (.ints .i64 x0))), (4, (.int .i64 s_)), (5, (.int .i64 0))], h := [] } (S.NetOk_k12 ((fun σ => S.NetOk_L9 n σ k), k))) else (k (.exit 2) { n := 68, t := [(2, .junk)], h := [] })) by kernel_rfl) ?_
      refine cnd_congr ?_ ?_
      · refine (S.NetOk_L12_run x0 s_ FUEL 0 (S.NetOk_k12 ((fun σ => S.NetOk_L9 n σ k), k))).trans (optC_congr (fun qy_4 => ?_))
        rcases qy_4 with qy_4 | qy_4
        · kernel_rfl
        · kernel_rfl
      · kernel_rfl
    have hs : (fun s_ : Int => S.NetOk_L9 n { n := 68, t := [(0, (.ro false (.ints .i64 x0))), (4, (.int .i64 s_))], h := [] } k) = fun s_ => optC (S.NetOk_run9 x0 n s_) (fun (r : (Bool) ⊕ (Unit)) => (sumC r (fun (r : Bool) => k (.ret) { n := 68, t := [(2, (.bool r))], h := [] }) (fun (r : Unit) => k (.exit 2) { n := 68, t := [(2, .junk)], h := [] }))) none := funext ih
    rw [hu, hs]
    exact (S.NetOk_step9_nat (fun o => optC o (fun (r : (Bool) ⊕ (Unit)) => (sumC r (fun (r : Bool) => k (.ret) { n := 68, t := [(2, (.bool r))], h := [] }) (fun (r : Unit) => k (.exit 2) { n := 68, t := [(2, .junk)], h := [] }))) none) x0 s_ (S.NetOk_run9 x0 n) (fun d => some ((Sum.inl d))) (fun d => some ((Sum.inr d))) none).symm
noncomputable def S.NetOk_tree {α : Type} (net : List Int) (leaf0_ : Bool → α) (fail_ : α) : α :=
  (optC (S.l1In_t (↑net.length : Int) 1 6) (fun c_1 => (bif !c_1 then (leaf0_ false) else (optC (S.NetOk_run4 net FUEL 0) (fun qy_3 => (sumC qy_3 (fun (qy_3 : Bool) => (leaf0_ qy_3)) (fun (qy_3 : Unit) => (optC (S.NetOk_run9 net FUEL 0) (fun qy_5 => (sumC qy_5 (fun (qy_5 : Bool) => (leaf0_ qy_5)) (fun (qy_5 : Unit) => (leaf0_ true)))) fail_)))) fail_))) fail_)
theorem S.NetOk_tree_nat {α γ : Type} (g : α → γ) (net : List Int) (leaf0_ : Bool → α) (fail_ : α) : g (S.NetOk_tree net leaf0_ fail_) = S.NetOk_tree net (fun d => g (leaf0_ d)) (g fail_) := by
  unfold S.NetOk_tree; simp only [apply_cnd g, apply_optC g, apply_sumC g]
noncomputable def S.NetOk_t (net : List Int) : Option (Bool) := S.NetOk_tree net (fun d => some d) none
theorem S.NetOk_den (net : List Int) (κ : V → List E → R) : S.NetOk_F [.ro false (.ints .i64 net)] [] κ = optC (S.NetOk_t net) (fun (r : Bool) => κ (.bool r) []) none := by
  have hu : S.NetOk_F [.ro false (.ints .i64 net)] [] κ = S.NetOk_tree net (fun d => κ (.bool d) []) none := by
    refine Eq.trans (show S.NetOk_F [.ro false (.ints .i64 net)] [] κ = (optC (S.l1In_t (↑net.length : Int) 1 6) (fun c_1 => (bif !c_1 then (κ (.bool false) []) else (S.NetOk_L4 FUEL { n := 68, t := [(0, (.ro false (.ints .i64 net))), (3, (.int .i64 0))], h := [] } (S.NetOk_k4 κ)))) none) by kernel_rfl) ?_
    refine optC_congr (fun c_1 => ?_)
    refine cnd_congr ?_ ?_
    · kernel_rfl
    · refine (S.NetOk_L4_run net FUEL 0 (S.NetOk_k4 κ)).trans (optC_congr (fun qy_3 => ?_))
      rcases qy_3 with qy_3 | qy_3
      · kernel_rfl
      · refine Eq.trans (show (S.NetOk_k4 κ (.exit 0) { n := 68, t := [(0, (.ro false (.ints .i64 net))), (2, .junk)], h := [] }) = (S.NetOk_L9 FUEL { n := 68, t := [(0, (.ro false (.ints .i64 net))), (4, (.int .i64 0))], h := [] } (S.NetOk_k9 κ)) by kernel_rfl) ?_
        refine (S.NetOk_L9_run net FUEL 0 (S.NetOk_k9 κ)).trans (optC_congr (fun qy_5 => ?_))
        rcases qy_5 with qy_5 | qy_5
        · kernel_rfl
        · kernel_rfl
  rw [hu]
  exact (S.NetOk_tree_nat (fun o => optC o (fun (r : Bool) => κ (.bool r) []) none) net (fun d => some d) none).symm
noncomputable def S.NetOk_s : D.Spec where
  keep := false
  pure := true
  add := true
  ds := [.int .i64]
  sp := fun args h κ => match args, h with
    | [.ro false (.ints .i64 net)], [] => optC (S.NetOk_t net) (fun (r : Bool) => κ (.bool r) []) none
    | _, _ => none
theorem S.NetOk_ok : SpecOk Try.prog 46 S.NetOk_s := by
  refine SpecOk.of TDok mixed (T := S.NetOk_T) ?_ (ann := S.NetOk_ann) Try.func46 rfl (by decide +kernel) ?_ ?_ ?_ ?_
  · intro p hp
    simp only [S.NetOk_T, List.mem_cons, List.not_mem_nil, or_false] at hp
    rcases hp with rfl
    · exact S.l1In_ok
  · intro args h κ r hh
    simp only [S.NetOk_s] at hh
    split at hh
    · exact (S.NetOk_den _ κ).trans hh
    · cases hh
  · intro args h κ r hh
    simp only [S.NetOk_s] at hh ⊢
    split at hh
    · exact optC_law2 (F := fun (r : Bool) κ => κ (.bool r) []) (fun b κ r hb => ⟨_, _, hb, fun _ => rfl⟩) hh
    · cases hh
  · intro _ args h κ r hh
    simp only [S.NetOk_s] at hh
    split at hh
    · exact ⟨rfl, fun _ => rfl⟩
    · cases hh
  · intro _ args h κ r hh
    simp only [S.NetOk_s] at hh
    split at hh
    · rfl
    · cases hh


-- loop.example/guardsonnets/spec.LogPlaces
noncomputable def S.LogPlaces_T : List (Nat × D.Spec) := [(55, S.l1In_s), (58, S.l17Record_s)]
def S.LogPlaces_ann : Nat → List Nat × List Nat
  | 3 => ([0, 4, 5], [2, 3, 4])
  | _ => ([], [])
noncomputable def S.LogPlaces_F (args : List V) (h : List E) (κ : V → List E → R) : R := funC TD (tableK S.LogPlaces_T) S.LogPlaces_ann (drawAny TD (tableP S.LogPlaces_T)) FUEL Try.f25 args h κ
noncomputable def S.LogPlaces_L3 (n : Nat) (σ : St) (k : X → St → R) : R := iterC 0 (fun σ k => denC TD (tableK S.LogPlaces_T) S.LogPlaces_ann (drawAny TD (tableP S.LogPlaces_T)) 0 FUEL ((findLoop 3 (Try.f25.body.getD .skip)).getD .skip) σ k) [0, 4, 5] [2, 3, 4] n σ k
noncomputable def S.LogPlaces_k3 (κ : V → List E → R) : X → St → R := (afterC TD (tableK S.LogPlaces_T) S.LogPlaces_ann (drawAny TD (tableP S.LogPlaces_T)) 0 FUEL 3 (Try.f25.body.getD .skip) (finC TD 0 Try.f25 κ)).getD (fun _ _ => none)
noncomputable def S.LogPlaces_step3 {α : Type} (x0 : List Int) (x5 : Int) (r0 : List Int) (next_ : Int × (List Int) → α) (out0_ : Int × (List Int) → α) (out1_ : List Int → α) (fail_ : α) : α :=
  (bif decide (x5 < 40) then (bif decide ((↑x0.length : Int) ≥ IntKind.i64.wrap (IntKind.i64.wrap (3 * x5) + 3)) then (bif decide (0 ≤ IntKind.i64.wrap (3 * x5)) && decide (IntKind.i64.wrap (3 * x5) < (↑x0.length : Int)) then (optC (S.l1In_t (IntKind.i64.wrap (IntKind.i64.wrap (eli x0 (IntKind.i64.wrap (3 * x5)).toNat) - 1)) 0 5) (fun c_1 => (bif !c_1 then (out0_ (IntKind.i64.wrap (3 * x5), r0)) else (optC (S.l17Record_t (IntKind.i64.wrap (IntKind.i64.wrap (eli x0 (IntKind.i64.wrap (3 * x5)).toNat) - 1)) x5) (fun c_2 => (bif decide (0 ≤ IntKind.i64.wrap (3 * x5)) && decide (IntKind.i64.wrap (3 * x5) ≤ IntKind.i64.wrap (IntKind.i64.wrap (3 * x5) + 3)) && decide (IntKind.i64.wrap (IntKind.i64.wrap (3 * x5) + 3) ≤ (↑x0.length : Int)) then (bif !strEq (bytesOf c_2) (bytesOf (List.take ((IntKind.i64.wrap (IntKind.i64.wrap (3 * x5) + 3)).toNat - (IntKind.i64.wrap (3 * x5)).toNat) (List.drop (IntKind.i64.wrap (3 * x5)).toNat x0))) then (out0_ (IntKind.i64.wrap (3 * x5), r0)) else (bif small (r0 ++ [IntKind.i64.wrap (IntKind.i64.wrap (eli x0 (IntKind.i64.wrap (3 * x5)).toNat) - 1)]).length then (next_ (IntKind.i64.wrap (x5 + 1), r0 ++ [IntKind.i64.wrap (IntKind.i64.wrap (eli x0 (IntKind.i64.wrap (3 * x5)).toNat) - 1)])) else fail_)) else fail_)) fail_))) fail_) else fail_) else (out1_ r0)) else (out1_ r0))
theorem S.LogPlaces_step3_nat {α γ : Type} (g : α → γ) (x0 : List Int) (x5 : Int) (r0 : List Int) (next_ : Int × (List Int) → α) (out0_ : Int × (List Int) → α) (out1_ : List Int → α) (fail_ : α) : g (S.LogPlaces_step3 x0 x5 r0 next_ out0_ out1_ fail_) = S.LogPlaces_step3 x0 x5 r0 (fun s => g (next_ s)) (fun d => g (out0_ d)) (fun d => g (out1_ d)) (g fail_) := by
  unfold S.LogPlaces_step3; simp only [apply_cnd g, apply_optC g, apply_sumC g]
noncomputable def S.LogPlaces_run3 (x0 : List Int) : Nat → Int × (List Int) → Option ((Int × (List Int)) ⊕ (List Int))
  | 0, _ => none
  | n + 1, s_ => S.LogPlaces_step3 x0 s_.1 s_.2 (S.LogPlaces_run3 x0 n) (fun d => some ((Sum.inl d))) (fun d => some ((Sum.inr d))) none
theorem S.LogPlaces_L3_run (x0 : List Int) (n : Nat) (s_ : Int × (List Int)) (k : X → St → R) : S.LogPlaces_L3 n { n := 56, t := [(0, (.ro false (.ints .u8 x0))), (4, (.own 0)), (5, (.int .i64 s_.1))], h := [.row (.ints .i64 s_.2)] } k = optC (S.LogPlaces_run3 x0 n s_) (fun (r : (Int × (List Int)) ⊕ (List Int)) => (sumC r (fun (r : Int × (List Int)) => k (.ret) { n := 56, t := [(2, (.own 0)), (3, (.int .i64 r.1)), (4, (.own 0))], h := [.row (.ints .i64 r.2)] }) (fun (r : List Int) => k (.exit 0) { n := 56, t := [(2, .junk), (3, .junk), (4, (.own 0))], h := [.row (.ints .i64 r)] }))) none := by
  induction n generalizing s_ with
  | zero => rfl
  | succ n ih =>
    have hu : S.LogPlaces_L3 (n + 1) { n := 56, t := [(0, (.ro false (.ints .u8 x0))), (4, (.own 0)), (5, (.int .i64 s_.1))], h := [.row (.ints .i64 s_.2)] } k = S.LogPlaces_step3 x0 s_.1 s_.2 (fun s_ => S.LogPlaces_L3 n { n := 56, t := [(0, (.ro false (.ints .u8 x0))), (4, (.own 0)), (5, (.int .i64 s_.1))], h := [.row (.ints .i64 s_.2)] } k) (fun d => k (.ret) { n := 56, t := [(2, (.own 0)), (3, (.int .i64 d.1)), (4, (.own 0))], h := [.row (.ints .i64 d.2)] }) (fun d => k (.exit 0) { n := 56, t := [(2, .junk), (3, .junk), (4, (.own 0))], h := [.row (.ints .i64 d)] }) none := by
      kernel_rfl
    have hs : (fun s_ : Int × (List Int) => S.LogPlaces_L3 n { n := 56, t := [(0, (.ro false (.ints .u8 x0))), (4, (.own 0)), (5, (.int .i64 s_.1))], h := [.row (.ints .i64 s_.2)] } k) = fun s_ => optC (S.LogPlaces_run3 x0 n s_) (fun (r : (Int × (List Int)) ⊕ (List Int)) => (sumC r (fun (r : Int × (List Int)) => k (.ret) { n := 56, t := [(2, (.own 0)), (3, (.int .i64 r.1)), (4, (.own 0))], h := [.row (.ints .i64 r.2)] }) (fun (r : List Int) => k (.exit 0) { n := 56, t := [(2, .junk), (3, .junk), (4, (.own 0))], h := [.row (.ints .i64 r)] }))) none := funext ih
    rw [hu, hs]
    exact (S.LogPlaces_step3_nat (fun o => optC o (fun (r : (Int × (List Int)) ⊕ (List Int)) => (sumC r (fun (r : Int × (List Int)) => k (.ret) { n := 56, t := [(2, (.own 0)), (3, (.int .i64 r.1)), (4, (.own 0))], h := [.row (.ints .i64 r.2)] }) (fun (r : List Int) => k (.exit 0) { n := 56, t := [(2, .junk), (3, .junk), (4, (.own 0))], h := [.row (.ints .i64 r)] }))) none) x0 s_.1 s_.2 (S.LogPlaces_run3 x0 n) (fun d => some ((Sum.inl d))) (fun d => some ((Sum.inr d))) none).symm
noncomputable def S.LogPlaces_tree {α : Type} (log : List Int) (leaf0_ : Int × (List Int) → α) (fail_ : α) : α :=
  (optC (S.LogPlaces_run3 log FUEL (0, [])) (fun qy_3 => (sumC qy_3 (fun (qy_3 : Int × (List Int)) => (leaf0_ (qy_3.1, qy_3.2))) (fun (qy_3 : List Int) => (leaf0_ (IntKind.i64.wrap (3 * (↑qy_3.length : Int)), qy_3))))) fail_)
theorem S.LogPlaces_tree_nat {α γ : Type} (g : α → γ) (log : List Int) (leaf0_ : Int × (List Int) → α) (fail_ : α) : g (S.LogPlaces_tree log leaf0_ fail_) = S.LogPlaces_tree log (fun d => g (leaf0_ d)) (g fail_) := by
  unfold S.LogPlaces_tree; simp only [apply_cnd g, apply_optC g, apply_sumC g]
noncomputable def S.LogPlaces_t (log : List Int) : Option (Int × (List Int)) := S.LogPlaces_tree log (fun d => some d) none
theorem S.LogPlaces_den (log : List Int) (κ : V → List E → R) : S.LogPlaces_F [.ro false (.ints .u8 log)] [] κ = optC (S.LogPlaces_t log) (fun (r : Int × (List Int)) => κ (.tup [(.own 0), (.int .i64 r.1)]) [.row (.ints .i64 r.2)]) none := by
  have hu : S.LogPlaces_F [.ro false (.ints .u8 log)] [] κ = S.LogPlaces_tree log (fun d => κ (.tup [(.own 0), (.int .i64 d.1)]) [.row (.ints .i64 d.2)]) none := by
    refine Eq.trans (show S.LogPlaces_F [.ro false (.ints .u8 log)] [] κ = (S.LogPlaces_L3 FUEL { n := 56, t := [(0, (.ro false (.ints .u8 log))), (4, (.own 0)), (5, (.int .i64 0))], h := [.row (.ints .i64 ([]))] } (S.LogPlaces_k3 κ)) by kernel_rfl) ?_
    refine (S.LogPlaces_L3_run log FUEL (0, []) (S.LogPlaces_k3 κ)).trans (optC_congr (fun qy_3 => ?_))
    rcases qy_3 with qy_3 | qy_3
    · kernel_rfl
    · kernel_rfl
  rw [hu]
  exact (S.LogPlaces_tree_nat (fun o => optC o (fun (r : Int × (List Int)) => κ (.tup [(.own 0), (.int .i64 r.1)]) [.row (.ints .i64 r.2)]) none) log (fun d => some d) none).symm
noncomputable def S.LogPlaces_s : D.Spec where
  keep := false
  pure := false
  add := true
  ds := [.int .u8]
  sp := fun args h κ => match args, h with
    | [.ro false (.ints .u8 log)], [] => optC (S.LogPlaces_t log) (fun (r : Int × (List Int)) => κ (.tup [(.own 0), (.int .i64 r.1)]) [.row (.ints .i64 r.2)]) none
    | _, _ => none
theorem S.LogPlaces_ok : SpecOk Try.prog 25 S.LogPlaces_s := by
  refine SpecOk.of TDok mixed (T := S.LogPlaces_T) ?_ (ann := S.LogPlaces_ann) Try.func25 rfl (by decide +kernel) ?_ ?_ ?_ ?_
  · intro p hp
    simp only [S.LogPlaces_T, List.mem_cons, List.not_mem_nil, or_false] at hp
    rcases hp with rfl | rfl
    · exact S.l1In_ok
    · exact S.l17Record_ok
  · intro args h κ r hh
    simp only [S.LogPlaces_s] at hh
    split at hh
    · exact (S.LogPlaces_den _ κ).trans hh
    · cases hh
  · intro args h κ r hh
    simp only [S.LogPlaces_s] at hh ⊢
    split at hh
    · exact optC_law2 (F := fun (r : Int × (List Int)) κ => κ (.tup [(.own 0), (.int .i64 r.1)]) [.row (.ints .i64 r.2)]) (fun b κ r hb => ⟨_, _, hb, fun _ => rfl⟩) hh
    · cases hh
  · intro hh; cases hh
  · intro _ args h κ r hh
    simp only [S.LogPlaces_s] at hh
    split at hh
    · rfl
    · cases hh


-- loop.example/guardsonnets/spec.l8Moved
noncomputable def S.l8Moved_T : List (Nat × D.Spec) := []
def S.l8Moved_ann : Nat → List Nat × List Nat
  | _ => ([], [])
noncomputable def S.l8Moved_F (args : List V) (h : List E) (κ : V → List E → R) : R := funC TD (tableK S.l8Moved_T) S.l8Moved_ann (drawAny TD (tableP S.l8Moved_T)) FUEL Try.f86 args h κ
noncomputable def S.l8Moved_tree {α : Type} (set_ : Int) (from_ : Int) (to_ : Int) (leaf0_ : Int → α) (fail_ : α) : α :=
  (bif decide (from_ < 0) then fail_ else (bif decide (to_ < 0) then fail_ else (leaf0_ (bits BinOp.or IntKind.i64 (bits BinOp.andNot IntKind.i64 set_ (IntKind.i64.wrap (1 * 2 ^ min from_.toNat IntKind.i64.bits))) (IntKind.i64.wrap (1 * 2 ^ min to_.toNat IntKind.i64.bits))))))
theorem S.l8Moved_tree_nat {α γ : Type} (g : α → γ) (set_ : Int) (from_ : Int) (to_ : Int) (leaf0_ : Int → α) (fail_ : α) : g (S.l8Moved_tree set_ from_ to_ leaf0_ fail_) = S.l8Moved_tree set_ from_ to_ (fun d => g (leaf0_ d)) (g fail_) := by
  unfold S.l8Moved_tree; simp only [apply_cnd g, apply_optC g, apply_sumC g]
noncomputable def S.l8Moved_t (set_ : Int) (from_ : Int) (to_ : Int) : Option (Int) := S.l8Moved_tree set_ from_ to_ (fun d => some d) none
theorem S.l8Moved_den (set_ : Int) (from_ : Int) (to_ : Int) (κ : V → List E → R) : S.l8Moved_F [.int .i64 set_, .int .i64 from_, .int .i64 to_] [] κ = optC (S.l8Moved_t set_ from_ to_) (fun (r : Int) => κ (.int .i64 r) []) none := by
  have hu : S.l8Moved_F [.int .i64 set_, .int .i64 from_, .int .i64 to_] [] κ = S.l8Moved_tree set_ from_ to_ (fun d => κ (.int .i64 d) []) none := by
    kernel_rfl
  rw [hu]
  exact (S.l8Moved_tree_nat (fun o => optC o (fun (r : Int) => κ (.int .i64 r) []) none) set_ from_ to_ (fun d => some d) none).symm
noncomputable def S.l8Moved_s : D.Spec where
  keep := false
  pure := true
  add := true
  ds := [.invalid, .invalid, .invalid]
  sp := fun args h κ => match args, h with
    | [.int .i64 set_, .int .i64 from_, .int .i64 to_], [] => optC (S.l8Moved_t set_ from_ to_) (fun (r : Int) => κ (.int .i64 r) []) none
    | _, _ => none
theorem S.l8Moved_ok : SpecOk Try.prog 86 S.l8Moved_s := by
  refine SpecOk.of TDok mixed (T := S.l8Moved_T) ?_ (ann := S.l8Moved_ann) Try.func86 rfl (by decide +kernel) ?_ ?_ ?_ ?_
  · intro p hp; cases hp
  · intro args h κ r hh
    simp only [S.l8Moved_s] at hh
    split at hh
    · exact (S.l8Moved_den _ _ _ κ).trans hh
    · cases hh
  · intro args h κ r hh
    simp only [S.l8Moved_s] at hh ⊢
    split at hh
    · exact optC_law2 (F := fun (r : Int) κ => κ (.int .i64 r) []) (fun b κ r hb => ⟨_, _, hb, fun _ => rfl⟩) hh
    · cases hh
  · intro _ args h κ r hh
    simp only [S.l8Moved_s] at hh
    split at hh
    · exact ⟨rfl, fun _ => rfl⟩
    · cases hh
  · intro _ args h κ r hh
    simp only [S.l8Moved_s] at hh
    split at hh
    · rfl
    · cases hh


-- loop.example/guardsonnets/spec.l9Answer
noncomputable def S.l9Answer_T : List (Nat × D.Spec) := [(86, S.l8Moved_s)]
def S.l9Answer_ann : Nat → List Nat × List Nat
  | 2 => ([0, 1, 2, 3, 9], [8])
  | _ => ([], [])
noncomputable def S.l9Answer_F (args : List V) (h : List E) (κ : V → List E → R) : R := funC TD (tableK S.l9Answer_T) S.l9Answer_ann (drawAny TD (tableP S.l9Answer_T)) FUEL Try.f87 args h κ
noncomputable def S.l9Answer_L2 (n : Nat) (σ : St) (k : X → St → R) : R := iterC 0 (fun σ k => denC TD (tableK S.l9Answer_T) S.l9Answer_ann (drawAny TD (tableP S.l9Answer_T)) 0 FUEL ((findLoop 2 (Try.f87.body.getD .skip)).getD .skip) σ k) [0, 1, 2, 3, 9] [8] n σ k
noncomputable def S.l9Answer_k2 (κ : V → List E → R) : X → St → R := (afterC TD (tableK S.l9Answer_T) S.l9Answer_ann (drawAny TD (tableP S.l9Answer_T)) 0 FUEL 2 (Try.f87.body.getD .skip) (finC TD 0 Try.f87 κ)).getD (fun _ _ => none)
noncomputable def S.l9Answer_step2 {α : Type} (x0 : List Int) (x1 : List Bool) (x2 : Int) (x3 : Int) (x9 : Int) (next_ : Int → α) (out0_ : Int → α) (out1_ : Unit → α) (fail_ : α) : α :=
  (bif decide (x9 < (↑x0.length : Int)) then (bif decide (x9 < 0) then fail_ else (bif (x2.fdiv (2 ^ min x9.toNat IntKind.i64.bits)).tmod 2 == 1 then (bif decide (0 ≤ x3) && decide (x3 < (↑x0.length : Int)) then (bif decide (x9 < 0) then fail_ else (bif ((eli x0 x3.toNat).fdiv (2 ^ min x9.toNat IntKind.i64.bits)).tmod 2 == 1 then (optC (S.l8Moved_t x2 x9 x3) (fun c_1 => (bif decide (0 ≤ c_1) && decide (c_1 < (↑x1.length : Int)) then (bif elb x1 c_1.toNat then (out0_ x9) else (next_ (IntKind.i64.wrap (x9 + 1)))) else fail_)) fail_) else (next_ (IntKind.i64.wrap (x9 + 1))))) else fail_) else (next_ (IntKind.i64.wrap (x9 + 1))))) else (out1_ ()))
theorem S.l9Answer_step2_nat {α γ : Type} (g : α → γ) (x0 : List Int) (x1 : List Bool) (x2 : Int) (x3 : Int) (x9 : Int) (next_ : Int → α) (out0_ : Int → α) (out1_ : Unit → α) (fail_ : α) : g (S.l9Answer_step2 x0 x1 x2 x3 x9 next_ out0_ out1_ fail_) = S.l9Answer_step2 x0 x1 x2 x3 x9 (fun s => g (next_ s)) (fun d => g (out0_ d)) (fun d => g (out1_ d)) (g fail_) := by
  unfold S.l9Answer_step2; simp only [apply_cnd g, apply_optC g, apply_sumC g]
noncomputable def S.l9Answer_run2 (x0 : List Int) (x1 : List Bool) (x2 : Int) (x3 : Int) : Nat → Int → Option ((Int) ⊕ (Unit))
  | 0, _ => none
  | n + 1, s_ => S.l9Answer_step2 x0 x1 x2 x3 s_ (S.l9Answer_run2 x0 x1 x2 x3 n) (fun d => some ((Sum.inl d))) (fun d => some ((Sum.inr d))) none
theorem S.l9Answer_L2_run (x0 : List Int) (x1 : List Bool) (x2 : Int) (x3 : Int) (n : Nat) (s_ : Int) (k : X → St → R) : S.l9Answer_L2 n { n := 41, t := [(0, (.ro false (.ints .i64 x0))), (1, (.ro false (.bools x1))), (2, (.int .i64 x2)), (3, (.int .i64 x3)), (9, (.int .i64 s_))], h := [] } k = optC (S.l9Answer_run2 x0 x1 x2 x3 n s_) (fun (r : (Int) ⊕ (Unit)) => (sumC r (fun (r : Int) => k (.ret) { n := 41, t := [(8, (.int .i64 r))], h := [] }) (fun (r : Unit) => k (.exit 0) { n := 41, t := [(8, .junk)], h := [] }))) none := by
  induction n generalizing s_ with
  | zero => rfl
  | succ n ih =>
    have hu : S.l9Answer_L2 (n + 1) { n := 41, t := [(0, (.ro false (.ints .i64 x0))), (1, (.ro false (.bools x1))), (2, (.int .i64 x2)), (3, (.int .i64 x3)), (9, (.int .i64 s_))], h := [] } k = S.l9Answer_step2 x0 x1 x2 x3 s_ (fun s_ => S.l9Answer_L2 n { n := 41, t := [(0, (.ro false (.ints .i64 x0))), (1, (.ro false (.bools x1))), (2, (.int .i64 x2)), (3, (.int .i64 x3)), (9, (.int .i64 s_))], h := [] } k) (fun d => k (.ret) { n := 41, t := [(8, (.int .i64 d))], h := [] }) (fun d => k (.exit 0) { n := 41, t := [(8, .junk)], h := [] }) none := by
      kernel_rfl
    have hs : (fun s_ : Int => S.l9Answer_L2 n { n := 41, t := [(0, (.ro false (.ints .i64 x0))), (1, (.ro false (.bools x1))), (2, (.int .i64 x2)), (3, (.int .i64 x3)), (9, (.int .i64 s_))], h := [] } k) = fun s_ => optC (S.l9Answer_run2 x0 x1 x2 x3 n s_) (fun (r : (Int) ⊕ (Unit)) => (sumC r (fun (r : Int) => k (.ret) { n := 41, t := [(8, (.int .i64 r))], h := [] }) (fun (r : Unit) => k (.exit 0) { n := 41, t := [(8, .junk)], h := [] }))) none := funext ih
    rw [hu, hs]
    exact (S.l9Answer_step2_nat (fun o => optC o (fun (r : (Int) ⊕ (Unit)) => (sumC r (fun (r : Int) => k (.ret) { n := 41, t := [(8, (.int .i64 r))], h := [] }) (fun (r : Unit) => k (.exit 0) { n := 41, t := [(8, .junk)], h := [] }))) none) x0 x1 x2 x3 s_ (S.l9Answer_run2 x0 x1 x2 x3 n) (fun d => some ((Sum.inl d))) (fun d => some ((Sum.inr d))) none).symm
noncomputable def S.l9Answer_tree {α : Type} (net : List Int) (lasts : List Bool) (set_ : Int) (to_ : Int) (leaf0_ : Int → α) (fail_ : α) : α :=
  (optC (S.l9Answer_run2 net lasts set_ to_ FUEL 0) (fun qy_2 => (sumC qy_2 (fun (qy_2 : Int) => (leaf0_ qy_2)) (fun (qy_2 : Unit) => (leaf0_ (-1))))) fail_)
theorem S.l9Answer_tree_nat {α γ : Type} (g : α → γ) (net : List Int) (lasts : List Bool) (set_ : Int) (to_ : Int) (leaf0_ : Int → α) (fail_ : α) : g (S.l9Answer_tree net lasts set_ to_ leaf0_ fail_) = S.l9Answer_tree net lasts set_ to_ (fun d => g (leaf0_ d)) (g fail_) := by
  unfold S.l9Answer_tree; simp only [apply_cnd g, apply_optC g, apply_sumC g]
noncomputable def S.l9Answer_t (net : List Int) (lasts : List Bool) (set_ : Int) (to_ : Int) : Option (Int) := S.l9Answer_tree net lasts set_ to_ (fun d => some d) none
theorem S.l9Answer_den (net : List Int) (lasts : List Bool) (set_ : Int) (to_ : Int) (κ : V → List E → R) : S.l9Answer_F [.ro false (.ints .i64 net), .ro false (.bools lasts), .int .i64 set_, .int .i64 to_] [] κ = optC (S.l9Answer_t net lasts set_ to_) (fun (r : Int) => κ (.int .i64 r) []) none := by
  have hu : S.l9Answer_F [.ro false (.ints .i64 net), .ro false (.bools lasts), .int .i64 set_, .int .i64 to_] [] κ = S.l9Answer_tree net lasts set_ to_ (fun d => κ (.int .i64 d) []) none := by
    refine Eq.trans (show S.l9Answer_F [.ro false (.ints .i64 net), .ro false (.bools lasts), .int .i64 set_, .int .i64 to_] [] κ = (S.l9Answer_L2 FUEL { n := 41, t := [(0, (.ro false (.ints .i64 net))), (1, (.ro false (.bools lasts))), (2, (.int .i64 set_)), (3, (.int .i64 to_)), (9, (.int .i64 0))], h := [] } (S.l9Answer_k2 κ)) by kernel_rfl) ?_
    refine (S.l9Answer_L2_run net lasts set_ to_ FUEL 0 (S.l9Answer_k2 κ)).trans (optC_congr (fun qy_2 => ?_))
    rcases qy_2 with qy_2 | qy_2
    · kernel_rfl
    · kernel_rfl
  rw [hu]
  exact (S.l9Answer_tree_nat (fun o => optC o (fun (r : Int) => κ (.int .i64 r) []) none) net lasts set_ to_ (fun d => some d) none).symm
noncomputable def S.l9Answer_s : D.Spec where
  keep := false
  pure := true
  add := true
  ds := [.int .i64, .bool, .invalid, .invalid]
  sp := fun args h κ => match args, h with
    | [.ro false (.ints .i64 net), .ro false (.bools lasts), .int .i64 set_, .int .i64 to_], [] => optC (S.l9Answer_t net lasts set_ to_) (fun (r : Int) => κ (.int .i64 r) []) none
    | _, _ => none
theorem S.l9Answer_ok : SpecOk Try.prog 87 S.l9Answer_s := by
  refine SpecOk.of TDok mixed (T := S.l9Answer_T) ?_ (ann := S.l9Answer_ann) Try.func87 rfl (by decide +kernel) ?_ ?_ ?_ ?_
  · intro p hp
    simp only [S.l9Answer_T, List.mem_cons, List.not_mem_nil, or_false] at hp
    rcases hp with rfl
    · exact S.l8Moved_ok
  · intro args h κ r hh
    simp only [S.l9Answer_s] at hh
    split at hh
    · exact (S.l9Answer_den _ _ _ _ κ).trans hh
    · cases hh
  · intro args h κ r hh
    simp only [S.l9Answer_s] at hh ⊢
    split at hh
    · exact optC_law2 (F := fun (r : Int) κ => κ (.int .i64 r) []) (fun b κ r hb => ⟨_, _, hb, fun _ => rfl⟩) hh
    · cases hh
  · intro _ args h κ r hh
    simp only [S.l9Answer_s] at hh
    split at hh
    · exact ⟨rfl, fun _ => rfl⟩
    · cases hh
  · intro _ args h κ r hh
    simp only [S.l9Answer_s] at hh
    split at hh
    · rfl
    · cases hh


-- loop.example/guardsonnets/spec.l9Holds
noncomputable def S.l9Holds_T : List (Nat × D.Spec) := [(87, S.l9Answer_s)]
def S.l9Holds_ann : Nat → List Nat × List Nat
  | 2 => ([0, 1, 2, 7], [1, 2, 6])
  | _ => ([], [])
noncomputable def S.l9Holds_F (args : List V) (h : List E) (κ : V → List E → R) : R := funC TD (tableK S.l9Holds_T) S.l9Holds_ann (drawAny TD (tableP S.l9Holds_T)) FUEL Try.f94 args h κ
noncomputable def S.l9Holds_L2 (n : Nat) (σ : St) (k : X → St → R) : R := iterC 0 (fun σ k => denC TD (tableK S.l9Holds_T) S.l9Holds_ann (drawAny TD (tableP S.l9Holds_T)) 0 FUEL ((findLoop 2 (Try.f94.body.getD .skip)).getD .skip) σ k) [0, 1, 2, 7] [1, 2, 6] n σ k
noncomputable def S.l9Holds_k2 (κ : V → List E → R) : X → St → R := (afterC TD (tableK S.l9Holds_T) S.l9Holds_ann (drawAny TD (tableP S.l9Holds_T)) 0 FUEL 2 (Try.f94.body.getD .skip) (finC TD 0 Try.f94 κ)).getD (fun _ _ => none)
noncomputable def S.l9Holds_step2 {α : Type} (x0 : List Int) (x1 : List Bool) (x2 : Int) (x7 : Int) (next_ : Int → α) (out0_ : Bool → α) (out1_ : Unit → α) (fail_ : α) : α :=
  (bif decide (x7 < (↑x0.length : Int)) then (bif decide (x7 < 0) then fail_ else (bif (x2.fdiv (2 ^ min x7.toNat IntKind.i64.bits)).tmod 2 == 0 then (optC (S.l9Answer_t x0 x1 x2 x7) (fun c_1 => (bif decide (c_1 < 0) then (out0_ false) else (next_ (IntKind.i64.wrap (x7 + 1))))) fail_) else (next_ (IntKind.i64.wrap (x7 + 1))))) else (out1_ ()))
theorem S.l9Holds_step2_nat {α γ : Type} (g : α → γ) (x0 : List Int) (x1 : List Bool) (x2 : Int) (x7 : Int) (next_ : Int → α) (out0_ : Bool → α) (out1_ : Unit → α) (fail_ : α) : g (S.l9Holds_step2 x0 x1 x2 x7 next_ out0_ out1_ fail_) = S.l9Holds_step2 x0 x1 x2 x7 (fun s => g (next_ s)) (fun d => g (out0_ d)) (fun d => g (out1_ d)) (g fail_) := by
  unfold S.l9Holds_step2; simp only [apply_cnd g, apply_optC g, apply_sumC g]
noncomputable def S.l9Holds_run2 (x0 : List Int) (x1 : List Bool) (x2 : Int) : Nat → Int → Option ((Bool) ⊕ (Unit))
  | 0, _ => none
  | n + 1, s_ => S.l9Holds_step2 x0 x1 x2 s_ (S.l9Holds_run2 x0 x1 x2 n) (fun d => some ((Sum.inl d))) (fun d => some ((Sum.inr d))) none
theorem S.l9Holds_L2_run (x0 : List Int) (x1 : List Bool) (x2 : Int) (n : Nat) (s_ : Int) (k : X → St → R) : S.l9Holds_L2 n { n := 31, t := [(0, (.ro false (.ints .i64 x0))), (1, (.ro false (.bools x1))), (2, (.int .i64 x2)), (7, (.int .i64 s_))], h := [] } k = optC (S.l9Holds_run2 x0 x1 x2 n s_) (fun (r : (Bool) ⊕ (Unit)) => (sumC r (fun (r : Bool) => k (.ret) { n := 31, t := [(1, (.ro false (.bools x1))), (2, (.int .i64 x2)), (6, (.bool r))], h := [] }) (fun (r : Unit) => k (.exit 0) { n := 31, t := [(1, (.ro false (.bools x1))), (2, (.int .i64 x2)), (6, .junk)], h := [] }))) none := by
  induction n generalizing s_ with
  | zero => rfl
  | succ n ih =>
    have hu : S.l9Holds_L2 (n + 1) { n := 31, t := [(0, (.ro false (.ints .i64 x0))), (1, (.ro false (.bools x1))), (2, (.int .i64 x2)), (7, (.int .i64 s_))], h := [] } k = S.l9Holds_step2 x0 x1 x2 s_ (fun s_ => S.l9Holds_L2 n { n := 31, t := [(0, (.ro false (.ints .i64 x0))), (1, (.ro false (.bools x1))), (2, (.int .i64 x2)), (7, (.int .i64 s_))], h := [] } k) (fun d => k (.ret) { n := 31, t := [(1, (.ro false (.bools x1))), (2, (.int .i64 x2)), (6, (.bool d))], h := [] }) (fun d => k (.exit 0) { n := 31, t := [(1, (.ro false (.bools x1))), (2, (.int .i64 x2)), (6, .junk)], h := [] }) none := by
      kernel_rfl
    have hs : (fun s_ : Int => S.l9Holds_L2 n { n := 31, t := [(0, (.ro false (.ints .i64 x0))), (1, (.ro false (.bools x1))), (2, (.int .i64 x2)), (7, (.int .i64 s_))], h := [] } k) = fun s_ => optC (S.l9Holds_run2 x0 x1 x2 n s_) (fun (r : (Bool) ⊕ (Unit)) => (sumC r (fun (r : Bool) => k (.ret) { n := 31, t := [(1, (.ro false (.bools x1))), (2, (.int .i64 x2)), (6, (.bool r))], h := [] }) (fun (r : Unit) => k (.exit 0) { n := 31, t := [(1, (.ro false (.bools x1))), (2, (.int .i64 x2)), (6, .junk)], h := [] }))) none := funext ih
    rw [hu, hs]
    exact (S.l9Holds_step2_nat (fun o => optC o (fun (r : (Bool) ⊕ (Unit)) => (sumC r (fun (r : Bool) => k (.ret) { n := 31, t := [(1, (.ro false (.bools x1))), (2, (.int .i64 x2)), (6, (.bool r))], h := [] }) (fun (r : Unit) => k (.exit 0) { n := 31, t := [(1, (.ro false (.bools x1))), (2, (.int .i64 x2)), (6, .junk)], h := [] }))) none) x0 x1 x2 s_ (S.l9Holds_run2 x0 x1 x2 n) (fun d => some ((Sum.inl d))) (fun d => some ((Sum.inr d))) none).symm
noncomputable def S.l9Holds_tree {α : Type} (net : List Int) (lasts : List Bool) (set_ : Int) (leaf0_ : Bool → α) (fail_ : α) : α :=
  (optC (S.l9Holds_run2 net lasts set_ FUEL 0) (fun qy_2 => (sumC qy_2 (fun (qy_2 : Bool) => (leaf0_ qy_2)) (fun (qy_2 : Unit) => (bif decide (0 ≤ set_) && decide (set_ < (↑lasts.length : Int)) then (leaf0_ (elb lasts set_.toNat)) else fail_)))) fail_)
theorem S.l9Holds_tree_nat {α γ : Type} (g : α → γ) (net : List Int) (lasts : List Bool) (set_ : Int) (leaf0_ : Bool → α) (fail_ : α) : g (S.l9Holds_tree net lasts set_ leaf0_ fail_) = S.l9Holds_tree net lasts set_ (fun d => g (leaf0_ d)) (g fail_) := by
  unfold S.l9Holds_tree; simp only [apply_cnd g, apply_optC g, apply_sumC g]
noncomputable def S.l9Holds_t (net : List Int) (lasts : List Bool) (set_ : Int) : Option (Bool) := S.l9Holds_tree net lasts set_ (fun d => some d) none
theorem S.l9Holds_den (net : List Int) (lasts : List Bool) (set_ : Int) (κ : V → List E → R) : S.l9Holds_F [.ro false (.ints .i64 net), .ro false (.bools lasts), .int .i64 set_] [] κ = optC (S.l9Holds_t net lasts set_) (fun (r : Bool) => κ (.bool r) []) none := by
  have hu : S.l9Holds_F [.ro false (.ints .i64 net), .ro false (.bools lasts), .int .i64 set_] [] κ = S.l9Holds_tree net lasts set_ (fun d => κ (.bool d) []) none := by
    refine Eq.trans (show S.l9Holds_F [.ro false (.ints .i64 net), .ro false (.bools lasts), .int .i64 set_] [] κ = (S.l9Holds_L2 FUEL { n := 31, t := [(0, (.ro false (.ints .i64 net))), (1, (.ro false (.bools lasts))), (2, (.int .i64 set_)), (7, (.int .i64 0))], h := [] } (S.l9Holds_k2 κ)) by kernel_rfl) ?_
    refine (S.l9Holds_L2_run net lasts set_ FUEL 0 (S.l9Holds_k2 κ)).trans (optC_congr (fun qy_2 => ?_))
    rcases qy_2 with qy_2 | qy_2
    · kernel_rfl
    · kernel_rfl
  rw [hu]
  exact (S.l9Holds_tree_nat (fun o => optC o (fun (r : Bool) => κ (.bool r) []) none) net lasts set_ (fun d => some d) none).symm
noncomputable def S.l9Holds_s : D.Spec where
  keep := false
  pure := true
  add := true
  ds := [.int .i64, .bool, .invalid]
  sp := fun args h κ => match args, h with
    | [.ro false (.ints .i64 net), .ro false (.bools lasts), .int .i64 set_], [] => optC (S.l9Holds_t net lasts set_) (fun (r : Bool) => κ (.bool r) []) none
    | _, _ => none
theorem S.l9Holds_ok : SpecOk Try.prog 94 S.l9Holds_s := by
  refine SpecOk.of TDok mixed (T := S.l9Holds_T) ?_ (ann := S.l9Holds_ann) Try.func94 rfl (by decide +kernel) ?_ ?_ ?_ ?_
  · intro p hp
    simp only [S.l9Holds_T, List.mem_cons, List.not_mem_nil, or_false] at hp
    rcases hp with rfl
    · exact S.l9Answer_ok
  · intro args h κ r hh
    simp only [S.l9Holds_s] at hh
    split at hh
    · exact (S.l9Holds_den _ _ _ κ).trans hh
    · cases hh
  · intro args h κ r hh
    simp only [S.l9Holds_s] at hh ⊢
    split at hh
    · exact optC_law2 (F := fun (r : Bool) κ => κ (.bool r) []) (fun b κ r hb => ⟨_, _, hb, fun _ => rfl⟩) hh
    · cases hh
  · intro _ args h κ r hh
    simp only [S.l9Holds_s] at hh
    split at hh
    · exact ⟨rfl, fun _ => rfl⟩
    · cases hh
  · intro _ args h κ r hh
    simp only [S.l9Holds_s] at hh
    split at hh
    · rfl
    · cases hh


-- loop.example/guardsonnets/spec.l9Lasts
noncomputable def S.l9Lasts_T : List (Nat × D.Spec) := [(94, S.l9Holds_s)]
def S.l9Lasts_ann : Nat → List Nat × List Nat
  | 10 => ([0, 3, 5, 6], [0, 3, 5])
  | 7 => ([0, 3, 5], [3])
  | 3 => ([0, 3, 4], [0, 3])
  | _ => ([], [])
noncomputable def S.l9Lasts_F (args : List V) (h : List E) (κ : V → List E → R) : R := funC TD (tableK S.l9Lasts_T) S.l9Lasts_ann (drawAny TD (tableP S.l9Lasts_T)) FUEL Try.f85 args h κ
noncomputable def S.l9Lasts_L10 (n : Nat) (σ : St) (k : X → St → R) : R := iterC 0 (fun σ k => denC TD (tableK S.l9Lasts_T) S.l9Lasts_ann (drawAny TD (tableP S.l9Lasts_T)) 0 FUEL ((findLoop 10 (Try.f85.body.getD .skip)).getD .skip) σ k) [0, 3, 5, 6] [0, 3, 5] n σ k
noncomputable def S.l9Lasts_L7 (n : Nat) (σ : St) (k : X → St → R) : R := iterC 0 (fun σ k => denC TD (tableK S.l9Lasts_T) S.l9Lasts_ann (drawAny TD (tableP S.l9Lasts_T)) 0 FUEL ((findLoop 7 (Try.f85.body.getD .skip)).getD .skip) σ k) [0, 3, 5] [3] n σ k
noncomputable def S.l9Lasts_L3 (n : Nat) (σ : St) (k : X → St → R) : R := iterC 0 (fun σ k => denC TD (tableK S.l9Lasts_T) S.l9Lasts_ann (drawAny TD (tableP S.l9Lasts_T)) 0 FUEL ((findLoop 3 (Try.f85.body.getD .skip)).getD .skip) σ k) [0, 3, 4] [0, 3] n σ k
noncomputable def S.l9Lasts_k3 (κ : V → List E → R) : X → St → R := (afterC TD (tableK S.l9Lasts_T) S.l9Lasts_ann (drawAny TD (tableP S.l9Lasts_T)) 0 FUEL 3 (Try.f85.body.getD .skip) (finC TD 0 Try.f85 κ)).getD (fun _ _ => none)
noncomputable def S.l9Lasts_k10 (c : (St → R) × (X → St → R)) : X → St → R := (afterC TD (tableK S.l9Lasts_T) S.l9Lasts_ann (drawAny TD (tableP S.l9Lasts_T)) 0 FUEL 10 ((findLoop 7 (Try.f85.body.getD .skip)).getD .skip) (roundC 0 [0, 3, 5] [3] c.1 c.2)).getD (fun _ _ => none)
noncomputable def S.l9Lasts_k7 (κ : V → List E → R) : X → St → R := (afterC TD (tableK S.l9Lasts_T) S.l9Lasts_ann (drawAny TD (tableP S.l9Lasts_T)) 0 FUEL 7 (Try.f85.body.getD .skip) (finC TD 0 Try.f85 κ)).getD (fun _ _ => none)
noncomputable def S.l9Lasts_step3 {α : Type} (x0 : List Int) (x4 : Int) (r0 : List Bool) (next_ : Int × (List Bool) → α) (out0_ : List Bool → α) (fail_ : α) : α :=
  (bif decide (x4 < (↑r0.length : Int)) then (bif decide (0 ≤ x4) && decide (x4 < (↑r0.length : Int)) then (bif decide (x4.toNat < r0.length) then (next_ (IntKind.i64.wrap (x4 + 1), r0.set x4.toNat true)) else fail_) else fail_) else (out0_ r0))
theorem S.l9Lasts_step3_nat {α γ : Type} (g : α → γ) (x0 : List Int) (x4 : Int) (r0 : List Bool) (next_ : Int × (List Bool) → α) (out0_ : List Bool → α) (fail_ : α) : g (S.l9Lasts_step3 x0 x4 r0 next_ out0_ fail_) = S.l9Lasts_step3 x0 x4 r0 (fun s => g (next_ s)) (fun d => g (out0_ d)) (g fail_) := by
  unfold S.l9Lasts_step3; simp only [apply_cnd g, apply_optC g, apply_sumC g]
noncomputable def S.l9Lasts_run3 (x0 : List Int) : Nat → Int × (List Bool) → Option (List Bool)
  | 0, _ => none
  | n + 1, s_ => S.l9Lasts_step3 x0 s_.1 s_.2 (S.l9Lasts_run3 x0 n) (fun d => some d) none
theorem S.l9Lasts_L3_run (x0 : List Int) (n : Nat) (s_ : Int × (List Bool)) (k : X → St → R) : S.l9Lasts_L3 n { n := 42, t := [(0, (.ro false (.ints .i64 x0))), (3, (.own 0)), (4, (.int .i64 s_.1))], h := [.row (.bools s_.2)] } k = optC (S.l9Lasts_run3 x0 n s_) (fun (r : List Bool) => k (.exit 0) { n := 42, t := [(0, (.ro false (.ints .i64 x0))), (3, (.own 0))], h := [.row (.bools r)] }) none := by
  induction n generalizing s_ with
  | zero => rfl
  | succ n ih =>
    have hu : S.l9Lasts_L3 (n + 1) { n := 42, t := [(0, (.ro false (.ints .i64 x0))), (3, (.own 0)), (4, (.int .i64 s_.1))], h := [.row (.bools s_.2)] } k = S.l9Lasts_step3 x0 s_.1 s_.2 (fun s_ => S.l9Lasts_L3 n { n := 42, t := [(0, (.ro false (.ints .i64 x0))), (3, (.own 0)), (4, (.int .i64 s_.1))], h := [.row (.bools s_.2)] } k) (fun d => k (.exit 0) { n := 42, t := [(0, (.ro false (.ints .i64 x0))), (3, (.own 0))], h := [.row (.bools d)] }) none := by
      kernel_rfl
    have hs : (fun s_ : Int × (List Bool) => S.l9Lasts_L3 n { n := 42, t := [(0, (.ro false (.ints .i64 x0))), (3, (.own 0)), (4, (.int .i64 s_.1))], h := [.row (.bools s_.2)] } k) = fun s_ => optC (S.l9Lasts_run3 x0 n s_) (fun (r : List Bool) => k (.exit 0) { n := 42, t := [(0, (.ro false (.ints .i64 x0))), (3, (.own 0))], h := [.row (.bools r)] }) none := funext ih
    rw [hu, hs]
    exact (S.l9Lasts_step3_nat (fun o => optC o (fun (r : List Bool) => k (.exit 0) { n := 42, t := [(0, (.ro false (.ints .i64 x0))), (3, (.own 0))], h := [.row (.bools r)] }) none) x0 s_.1 s_.2 (S.l9Lasts_run3 x0 n) (fun d => some d) none).symm
noncomputable def S.l9Lasts_step10 {α : Type} (x0 : List Int) (x5 : Bool) (x6 : Int) (r0 : List Bool) (next_ : Bool × Int × (List Bool) → α) (out0_ : Bool × (List Bool) → α) (fail_ : α) : α :=
  (bif decide (x6 < (↑r0.length : Int)) then (bif decide (0 ≤ x6) && decide (x6 < (↑r0.length : Int)) then (bif decide (x6.toNat < r0.length) then (bif elb r0 x6.toNat then (optC (S.l9Holds_t x0 r0 x6) (fun c_2 => (bif !c_2 then (bif decide (0 ≤ x6) && decide (x6 < (↑r0.length : Int)) then (bif decide (x6.toNat < r0.length) then (next_ (true, IntKind.i64.wrap (x6 + 1), r0.set x6.toNat false)) else fail_) else fail_) else (next_ (x5, IntKind.i64.wrap (x6 + 1), r0)))) fail_) else (next_ (x5, IntKind.i64.wrap (x6 + 1), r0))) else fail_) else fail_) else (out0_ (x5, r0)))
theorem S.l9Lasts_step10_nat {α γ : Type} (g : α → γ) (x0 : List Int) (x5 : Bool) (x6 : Int) (r0 : List Bool) (next_ : Bool × Int × (List Bool) → α) (out0_ : Bool × (List Bool) → α) (fail_ : α) : g (S.l9Lasts_step10 x0 x5 x6 r0 next_ out0_ fail_) = S.l9Lasts_step10 x0 x5 x6 r0 (fun s => g (next_ s)) (fun d => g (out0_ d)) (g fail_) := by
  unfold S.l9Lasts_step10; simp only [apply_cnd g, apply_optC g, apply_sumC g]
noncomputable def S.l9Lasts_run10 (x0 : List Int) : Nat → Bool × Int × (List Bool) → Option (Bool × (List Bool))
  | 0, _ => none
  | n + 1, s_ => S.l9Lasts_step10 x0 s_.1 s_.2.1 s_.2.2 (S.l9Lasts_run10 x0 n) (fun d => some d) none
theorem S.l9Lasts_L10_run (x0 : List Int) (n : Nat) (s_ : Bool × Int × (List Bool)) (k : X → St → R) : S.l9Lasts_L10 n { n := 42, t := [(0, (.ro false (.ints .i64 x0))), (3, (.own 0)), (5, (.bool s_.1)), (6, (.int .i64 s_.2.1))], h := [.row (.bools s_.2.2)] } k = optC (S.l9Lasts_run10 x0 n s_) (fun (r : Bool × (List Bool)) => k (.exit 4) { n := 42, t := [(0, (.ro false (.ints .i64 x0))), (3, (.own 0)), (5, (.bool r.1))], h := [.row (.bools r.2)] }) none := by
  induction n generalizing s_ with
  | zero => rfl
  | succ n ih =>
    have hu : S.l9Lasts_L10 (n + 1) { n := 42, t := [(0, (.ro false (.ints .i64 x0))), (3, (.own 0)), (5, (.bool s_.1)), (6, (.int .i64 s_.2.1))], h := [.row (.bools s_.2.2)] } k = S.l9Lasts_step10 x0 s_.1 s_.2.1 s_.2.2 (fun s_ => S.l9Lasts_L10 n { n := 42, t := [(0, (.ro false (.ints .i64 x0))), (3, (.own 0)), (5, (.bool s_.1)), (6, (.int .i64 s_.2.1))], h := [.row (.bools s_.2.2)] } k) (fun d => k (.exit 4) { n := 42, t := [(0, (.ro false (.ints .i64 x0))), (3, (.own 0)), (5, (.bool d.1))], h := [.row (.bools d.2)] }) none := by
      kernel_rfl
    have hs : (fun s_ : Bool × Int × (List Bool) => S.l9Lasts_L10 n { n := 42, t := [(0, (.ro false (.ints .i64 x0))), (3, (.own 0)), (5, (.bool s_.1)), (6, (.int .i64 s_.2.1))], h := [.row (.bools s_.2.2)] } k) = fun s_ => optC (S.l9Lasts_run10 x0 n s_) (fun (r : Bool × (List Bool)) => k (.exit 4) { n := 42, t := [(0, (.ro false (.ints .i64 x0))), (3, (.own 0)), (5, (.bool r.1))], h := [.row (.bools r.2)] }) none := funext ih
    rw [hu, hs]
    exact (S.l9Lasts_step10_nat (fun o => optC o (fun (r : Bool × (List Bool)) => k (.exit 4) { n := 42, t := [(0, (.ro false (.ints .i64 x0))), (3, (.own 0)), (5, (.bool r.1))], h := [.row (.bools r.2)] }) none) x0 s_.1 s_.2.1 s_.2.2 (S.l9Lasts_run10 x0 n) (fun d => some d) none).symm
noncomputable def S.l9Lasts_step7 {α : Type} (x0 : List Int) (x5 : Bool) (r0 : List Bool) (next_ : Bool × (List Bool) → α) (out0_ : List Bool → α) (fail_ : α) : α :=
  (bif x5 then (optC (S.l9Lasts_run10 x0 FUEL (false, 0, r0)) (fun qy_3 => (next_ (qy_3.1, qy_3.2))) fail_) else (out0_ r0))
theorem S.l9Lasts_step7_nat {α γ : Type} (g : α → γ) (x0 : List Int) (x5 : Bool) (r0 : List Bool) (next_ : Bool × (List Bool) → α) (out0_ : List Bool → α) (fail_ : α) : g (S.l9Lasts_step7 x0 x5 r0 next_ out0_ fail_) = S.l9Lasts_step7 x0 x5 r0 (fun s => g (next_ s)) (fun d => g (out0_ d)) (g fail_) := by
  unfold S.l9Lasts_step7; simp only [apply_cnd g, apply_optC g, apply_sumC g]
noncomputable def S.l9Lasts_run7 (x0 : List Int) : Nat → Bool × (List Bool) → Option (List Bool)
  | 0, _ => none
  | n + 1, s_ => S.l9Lasts_step7 x0 s_.1 s_.2 (S.l9Lasts_run7 x0 n) (fun d => some d) none
theorem S.l9Lasts_L7_run (x0 : List Int) (n : Nat) (s_ : Bool × (List Bool)) (k : X → St → R) : S.l9Lasts_L7 n { n := 42, t := [(0, (.ro false (.ints .i64 x0))), (3, (.own 0)), (5, (.bool s_.1))], h := [.row (.bools s_.2)] } k = optC (S.l9Lasts_run7 x0 n s_) (fun (r : List Bool) => k (.exit 2) { n := 42, t := [(3, (.own 0))], h := [.row (.bools r)] }) none := by
  induction n generalizing s_ with
  | zero => rfl
  | succ n ih =>
    have hu : S.l9Lasts_L7 (n + 1) { n := 42, t := [(0, (.ro false (.ints .i64 x0))), (3, (.own 0)), (5, (.bool s_.1))], h := [.row (.bools s_.2)] } k = S.l9Lasts_step7 x0 s_.1 s_.2 (fun s_ => S.l9Lasts_L7 n { n := 42, t := [(0, (.ro false (.ints .i64 x0))), (3, (.own 0)), (5, (.bool s_.1))], h := [.row (.bools s_.2)] } k) (fun d => k (.exit 2) { n := 42, t := [(3, (.own 0))], h := [.row (.bools d)] }) none := by
      refine Eq.trans (show S.l9Lasts_L7 (n + 1) { n := 42, t := [(0, (.ro false (.ints .i64 x0))), (3, (.own 0)), (5, (.bool s_.1))], h := [.row (.bools s_.2)] } k = (bif s_.1 then (S.l9Lasts_L10 FUEL { n := 42, t := [(0, (.ro false (.ints .i64 x0))), (3, (.own 0)), (5, (.bool false)), (6, (.int .i64 0))], h := [.row (.bools s_.2)] } (S.l9Lasts_k10 ((fun σ => S.l9Lasts_L7 n σ k), k))) else (k (.exit 2) { n := 42, t := [(3, (.own 0))], h := [.row (.bools s_.2)] })) by kernel_rfl) ?_
      refine cnd_congr ?_ ?_
      · refine (S.l9Lasts_L10_run x0 FUEL (false, 0, s_.2) (S.l9Lasts_k10 ((fun σ => S.l9Lasts_L7 n σ k), k))).trans (optC_congr (fun qy_3 => ?_))
        kernel_rfl
      · kernel_rfl
    have hs : (fun s_ : Bool × (List Bool) => S.l9Lasts_L7 n { n := 42, t := [(0, (.ro false (.ints .i64 x0))), (3, (.own 0)), (5, (.bool s_.1))], h := [.row (.bools s_.2)] } k) = fun s_ => optC (S.l9Lasts_run7 x0 n s_) (fun (r : List Bool) => k (.exit 2) { n := 42, t := [(3, (.own 0))], h := [.row (.bools r)] }) none := funext ih
    rw [hu, hs]
    exact (S.l9Lasts_step7_nat (fun o => optC o (fun (r : List Bool) => k (.exit 2) { n := 42, t := [(3, (.own 0))], h := [.row (.bools r)] }) none) x0 s_.1 s_.2 (S.l9Lasts_run7 x0 n) (fun d => some d) none).symm
noncomputable def S.l9Lasts_tree {α : Type} (net : List Int) (leaf0_ : List Bool → α) (fail_ : α) : α :=
  (bif decide (0 ≤ IntKind.i64.wrap (1 * 2 ^ min (↑net.length : Int).toNat IntKind.i64.bits)) && small (IntKind.i64.wrap (1 * 2 ^ min (↑net.length : Int).toNat IntKind.i64.bits)).toNat && true then (optC (S.l9Lasts_run3 net FUEL (0, List.replicate (IntKind.i64.wrap (1 * 2 ^ min (↑net.length : Int).toNat IntKind.i64.bits)).toNat false)) (fun qy_1 => (optC (S.l9Lasts_run7 net FUEL (true, qy_1)) (fun qy_4 => (leaf0_ qy_4)) fail_)) fail_) else fail_)
theorem S.l9Lasts_tree_nat {α γ : Type} (g : α → γ) (net : List Int) (leaf0_ : List Bool → α) (fail_ : α) : g (S.l9Lasts_tree net leaf0_ fail_) = S.l9Lasts_tree net (fun d => g (leaf0_ d)) (g fail_) := by
  unfold S.l9Lasts_tree; simp only [apply_cnd g, apply_optC g, apply_sumC g]
noncomputable def S.l9Lasts_t (net : List Int) : Option (List Bool) := S.l9Lasts_tree net (fun d => some d) none
theorem S.l9Lasts_den (net : List Int) (κ : V → List E → R) : S.l9Lasts_F [.ro false (.ints .i64 net)] [] κ = optC (S.l9Lasts_t net) (fun (r : List Bool) => κ (.own 0) [.row (.bools r)]) none := by
  have hu : S.l9Lasts_F [.ro false (.ints .i64 net)] [] κ = S.l9Lasts_tree net (fun d => κ (.own 0) [.row (.bools d)]) none := by
    refine Eq.trans (show S.l9Lasts_F [.ro false (.ints .i64 net)] [] κ = (bif decide (0 ≤ IntKind.i64.wrap (1 * 2 ^ min (↑net.length : Int).toNat IntKind.i64.bits)) && small (IntKind.i64.wrap (1 * 2 ^ min (↑net.length : Int).toNat IntKind.i64.bits)).toNat && true then (S.l9Lasts_L3 FUEL { n := 42, t := [(0, (.ro false (.ints .i64 net))), (3, (.own 0)), (4, (.int .i64 0))], h := [.row (.bools (List.replicate (IntKind.i64.wrap (1 * 2 ^ min (↑net.length : Int).toNat IntKind.i64.bits)).toNat false))] } (S.l9Lasts_k3 κ)) else none) by kernel_rfl) ?_
    refine cnd_congr ?_ ?_
    · refine (S.l9Lasts_L3_run net FUEL (0, List.replicate (IntKind.i64.wrap (1 * 2 ^ min (↑net.length : Int).toNat IntKind.i64.bits)).toNat false) (S.l9Lasts_k3 κ)).trans (optC_congr (fun qy_1 => ?_))
      refine Eq.trans (show (S.l9Lasts_k3 κ (.exit 0) { n := 42, t := [(0, (.ro false (.ints .i64 net))), (3, (.own 0))], h := [.row (.bools qy_1)] }) = (S.l9Lasts_L7 FUEL { n := 42, t := [(0, (.ro false (.ints .i64 net))), (3, (.own 0)), (5, (.bool true))], h := [.row (.bools qy_1)] } (S.l9Lasts_k7 κ)) by kernel_rfl) ?_
      refine (S.l9Lasts_L7_run net FUEL (true, qy_1) (S.l9Lasts_k7 κ)).trans (optC_congr (fun qy_4 => ?_))
      kernel_rfl
    · kernel_rfl
  rw [hu]
  exact (S.l9Lasts_tree_nat (fun o => optC o (fun (r : List Bool) => κ (.own 0) [.row (.bools r)]) none) net (fun d => some d) none).symm
noncomputable def S.l9Lasts_s : D.Spec where
  keep := false
  pure := false
  add := true
  ds := [.int .i64]
  sp := fun args h κ => match args, h with
    | [.ro false (.ints .i64 net)], [] => optC (S.l9Lasts_t net) (fun (r : List Bool) => κ (.own 0) [.row (.bools r)]) none
    | _, _ => none
theorem S.l9Lasts_ok : SpecOk Try.prog 85 S.l9Lasts_s := by
  refine SpecOk.of TDok mixed (T := S.l9Lasts_T) ?_ (ann := S.l9Lasts_ann) Try.func85 rfl (by decide +kernel) ?_ ?_ ?_ ?_
  · intro p hp
    simp only [S.l9Lasts_T, List.mem_cons, List.not_mem_nil, or_false] at hp
    rcases hp with rfl
    · exact S.l9Holds_ok
  · intro args h κ r hh
    simp only [S.l9Lasts_s] at hh
    split at hh
    · exact (S.l9Lasts_den _ κ).trans hh
    · cases hh
  · intro args h κ r hh
    simp only [S.l9Lasts_s] at hh ⊢
    split at hh
    · exact optC_law2 (F := fun (r : List Bool) κ => κ (.own 0) [.row (.bools r)]) (fun b κ r hb => ⟨_, _, hb, fun _ => rfl⟩) hh
    · cases hh
  · intro hh; cases hh
  · intro _ args h κ r hh
    simp only [S.l9Lasts_s] at hh
    split at hh
    · rfl
    · cases hh


-- loop.example/guardsonnets/spec.EternalSets
noncomputable def S.EternalSets_T : List (Nat × D.Spec) := [(46, S.NetOk_s), (85, S.l9Lasts_s)]
def S.EternalSets_ann : Nat → List Nat × List Nat
  | 6 => ([3, 4, 5], [3])
  | _ => ([], [])
noncomputable def S.EternalSets_F (args : List V) (h : List E) (κ : V → List E → R) : R := funC TD (tableK S.EternalSets_T) S.EternalSets_ann (drawAny TD (tableP S.EternalSets_T)) FUEL Try.f79 args h κ
noncomputable def S.EternalSets_L6 (n : Nat) (σ : St) (k : X → St → R) : R := iterC 0 (fun σ k => denC TD (tableK S.EternalSets_T) S.EternalSets_ann (drawAny TD (tableP S.EternalSets_T)) 0 FUEL ((findLoop 6 (Try.f79.body.getD .skip)).getD .skip) σ k) [3, 4, 5] [3] n σ k
noncomputable def S.EternalSets_k6 (κ : V → List E → R) : X → St → R := (afterC TD (tableK S.EternalSets_T) S.EternalSets_ann (drawAny TD (tableP S.EternalSets_T)) 0 FUEL 6 (Try.f79.body.getD .skip) (finC TD 0 Try.f79 κ)).getD (fun _ _ => none)
noncomputable def S.EternalSets_step6 {α : Type} (x5 : Int) (r0 : List Int) (r1 : List Bool) (next_ : Int × (List Int) × (List Bool) → α) (out0_ : List Int → α) (fail_ : α) : α :=
  (bif decide (x5 < (↑r1.length : Int)) then (bif decide (0 ≤ x5) && decide (x5 < (↑r1.length : Int)) then (bif decide (x5.toNat < r1.length) then (bif elb r1 x5.toNat then (bif small (r0 ++ [x5]).length then (next_ (IntKind.i64.wrap (x5 + 1), r0 ++ [x5], r1)) else fail_) else (next_ (IntKind.i64.wrap (x5 + 1), r0, r1))) else fail_) else fail_) else (out0_ r0))
theorem S.EternalSets_step6_nat {α γ : Type} (g : α → γ) (x5 : Int) (r0 : List Int) (r1 : List Bool) (next_ : Int × (List Int) × (List Bool) → α) (out0_ : List Int → α) (fail_ : α) : g (S.EternalSets_step6 x5 r0 r1 next_ out0_ fail_) = S.EternalSets_step6 x5 r0 r1 (fun s => g (next_ s)) (fun d => g (out0_ d)) (g fail_) := by
  unfold S.EternalSets_step6; simp only [apply_cnd g, apply_optC g, apply_sumC g]
noncomputable def S.EternalSets_run6 : Nat → Int × (List Int) × (List Bool) → Option (List Int)
  | 0, _ => none
  | n + 1, s_ => S.EternalSets_step6 s_.1 s_.2.1 s_.2.2 (S.EternalSets_run6 n) (fun d => some d) none
theorem S.EternalSets_L6_run (n : Nat) (s_ : Int × (List Int) × (List Bool)) (k : X → St → R) : S.EternalSets_L6 n { n := 28, t := [(3, (.own 0)), (4, (.own 1)), (5, (.int .i64 s_.1))], h := [.row (.ints .i64 s_.2.1), .row (.bools s_.2.2)] } k = optC (S.EternalSets_run6 n s_) (fun (r : List Int) => k (.exit 0) { n := 28, t := [(3, (.own 0))], h := [.row (.ints .i64 r)] }) none := by
  induction n generalizing s_ with
  | zero => rfl
  | succ n ih =>
    have hu : S.EternalSets_L6 (n + 1) { n := 28, t := [(3, (.own 0)), (4, (.own 1)), (5, (.int .i64 s_.1))], h := [.row (.ints .i64 s_.2.1), .row (.bools s_.2.2)] } k = S.EternalSets_step6 s_.1 s_.2.1 s_.2.2 (fun s_ => S.EternalSets_L6 n { n := 28, t := [(3, (.own 0)), (4, (.own 1)), (5, (.int .i64 s_.1))], h := [.row (.ints .i64 s_.2.1), .row (.bools s_.2.2)] } k) (fun d => k (.exit 0) { n := 28, t := [(3, (.own 0))], h := [.row (.ints .i64 d)] }) none := by
      kernel_rfl
    have hs : (fun s_ : Int × (List Int) × (List Bool) => S.EternalSets_L6 n { n := 28, t := [(3, (.own 0)), (4, (.own 1)), (5, (.int .i64 s_.1))], h := [.row (.ints .i64 s_.2.1), .row (.bools s_.2.2)] } k) = fun s_ => optC (S.EternalSets_run6 n s_) (fun (r : List Int) => k (.exit 0) { n := 28, t := [(3, (.own 0))], h := [.row (.ints .i64 r)] }) none := funext ih
    rw [hu, hs]
    exact (S.EternalSets_step6_nat (fun o => optC o (fun (r : List Int) => k (.exit 0) { n := 28, t := [(3, (.own 0))], h := [.row (.ints .i64 r)] }) none) s_.1 s_.2.1 s_.2.2 (S.EternalSets_run6 n) (fun d => some d) none).symm
noncomputable def S.EternalSets_tree {α : Type} (net : List Int) (leaf0_ : List Int → α) (fail_ : α) : α :=
  (optC (S.NetOk_t net) (fun c_1 => (bif !c_1 then (leaf0_ ([])) else (optC (S.l9Lasts_t net) (fun c_2 => (optC (S.EternalSets_run6 FUEL (0, [], c_2)) (fun qy_3 => (leaf0_ qy_3)) fail_)) fail_))) fail_)
theorem S.EternalSets_tree_nat {α γ : Type} (g : α → γ) (net : List Int) (leaf0_ : List Int → α) (fail_ : α) : g (S.EternalSets_tree net leaf0_ fail_) = S.EternalSets_tree net (fun d => g (leaf0_ d)) (g fail_) := by
  unfold S.EternalSets_tree; simp only [apply_cnd g, apply_optC g, apply_sumC g]
noncomputable def S.EternalSets_t (net : List Int) : Option (List Int) := S.EternalSets_tree net (fun d => some d) none
theorem S.EternalSets_den (net : List Int) (κ : V → List E → R) : S.EternalSets_F [.ro false (.ints .i64 net)] [] κ = optC (S.EternalSets_t net) (fun (r : List Int) => κ (.own 0) [.row (.ints .i64 r)]) none := by
  have hu : S.EternalSets_F [.ro false (.ints .i64 net)] [] κ = S.EternalSets_tree net (fun d => κ (.own 0) [.row (.ints .i64 d)]) none := by
    refine Eq.trans (show S.EternalSets_F [.ro false (.ints .i64 net)] [] κ = (optC (S.NetOk_t net) (fun c_1 => (bif !c_1 then (κ (.own 0) [.row (.ints .i64 ([]))]) else (optC (S.l9Lasts_t net) (fun c_2 => (S.EternalSets_L6 FUEL { n := 28, t := [(3, (.own 0)), (4, (.own 1)), (5, (.int .i64 0))], h := [.row (.ints .i64 ([])), .row (.bools c_2)] } (S.EternalSets_k6 κ))) none))) none) by kernel_rfl) ?_
    refine optC_congr (fun c_1 => ?_)
    refine cnd_congr ?_ ?_
    · kernel_rfl
    · refine optC_congr (fun c_2 => ?_)
      refine (S.EternalSets_L6_run FUEL (0, [], c_2) (S.EternalSets_k6 κ)).trans (optC_congr (fun qy_3 => ?_))
      kernel_rfl
  rw [hu]
  exact (S.EternalSets_tree_nat (fun o => optC o (fun (r : List Int) => κ (.own 0) [.row (.ints .i64 r)]) none) net (fun d => some d) none).symm
noncomputable def S.EternalSets_s : D.Spec where
  keep := false
  pure := false
  add := true
  ds := [.int .i64]
  sp := fun args h κ => match args, h with
    | [.ro false (.ints .i64 net)], [] => optC (S.EternalSets_t net) (fun (r : List Int) => κ (.own 0) [.row (.ints .i64 r)]) none
    | _, _ => none
theorem S.EternalSets_ok : SpecOk Try.prog 79 S.EternalSets_s := by
  refine SpecOk.of TDok mixed (T := S.EternalSets_T) ?_ (ann := S.EternalSets_ann) Try.func79 rfl (by decide +kernel) ?_ ?_ ?_ ?_
  · intro p hp
    simp only [S.EternalSets_T, List.mem_cons, List.not_mem_nil, or_false] at hp
    rcases hp with rfl | rfl
    · exact S.NetOk_ok
    · exact S.l9Lasts_ok
  · intro args h κ r hh
    simp only [S.EternalSets_s] at hh
    split at hh
    · exact (S.EternalSets_den _ κ).trans hh
    · cases hh
  · intro args h κ r hh
    simp only [S.EternalSets_s] at hh ⊢
    split at hh
    · exact optC_law2 (F := fun (r : List Int) κ => κ (.own 0) [.row (.ints .i64 r)]) (fun b κ r hb => ⟨_, _, hb, fun _ => rfl⟩) hh
    · cases hh
  · intro hh; cases hh
  · intro _ args h κ r hh
    simp only [S.EternalSets_s] at hh
    split at hh
    · rfl
    · cases hh


-- loop.example/guardsonnets/spec.l1Size
noncomputable def S.l1Size_T : List (Nat × D.Spec) := []
def S.l1Size_ann : Nat → List Nat × List Nat
  | 2 => ([0, 3], [3])
  | _ => ([], [])
noncomputable def S.l1Size_F (args : List V) (h : List E) (κ : V → List E → R) : R := funC TD (tableK S.l1Size_T) S.l1Size_ann (drawAny TD (tableP S.l1Size_T)) FUEL Try.f81 args h κ
noncomputable def S.l1Size_L2 (n : Nat) (σ : St) (k : X → St → R) : R := iterC 0 (fun σ k => denC TD (tableK S.l1Size_T) S.l1Size_ann (drawAny TD (tableP S.l1Size_T)) 0 FUEL ((findLoop 2 (Try.f81.body.getD .skip)).getD .skip) σ k) [0, 3] [3] n σ k
noncomputable def S.l1Size_k2 (κ : V → List E → R) : X → St → R := (afterC TD (tableK S.l1Size_T) S.l1Size_ann (drawAny TD (tableP S.l1Size_T)) 0 FUEL 2 (Try.f81.body.getD .skip) (finC TD 0 Try.f81 κ)).getD (fun _ _ => none)
noncomputable def S.l1Size_step2 {α : Type} (x0 : Int) (x3 : Int) (next_ : Int × Int → α) (out0_ : Int → α) (fail_ : α) : α :=
  (bif decide (x0 > 0) then (next_ (IntKind.i64.wrap (x0.tdiv 2), IntKind.i64.wrap (x3 + x0.tmod 2))) else (out0_ x3))
theorem S.l1Size_step2_nat {α γ : Type} (g : α → γ) (x0 : Int) (x3 : Int) (next_ : Int × Int → α) (out0_ : Int → α) (fail_ : α) : g (S.l1Size_step2 x0 x3 next_ out0_ fail_) = S.l1Size_step2 x0 x3 (fun s => g (next_ s)) (fun d => g (out0_ d)) (g fail_) := by
  unfold S.l1Size_step2; simp only [apply_cnd g, apply_optC g, apply_sumC g]
noncomputable def S.l1Size_run2 : Nat → Int × Int → Option (Int)
  | 0, _ => none
  | n + 1, s_ => S.l1Size_step2 s_.1 s_.2 (S.l1Size_run2 n) (fun d => some d) none
theorem S.l1Size_L2_run (n : Nat) (s_ : Int × Int) (k : X → St → R) : S.l1Size_L2 n { n := 13, t := [(0, (.int .i64 s_.1)), (3, (.int .i64 s_.2))], h := [] } k = optC (S.l1Size_run2 n s_) (fun (r : Int) => k (.exit 0) { n := 13, t := [(3, (.int .i64 r))], h := [] }) none := by
  induction n generalizing s_ with
  | zero => rfl
  | succ n ih =>
    have hu : S.l1Size_L2 (n + 1) { n := 13, t := [(0, (.int .i64 s_.1)), (3, (.int .i64 s_.2))], h := [] } k = S.l1Size_step2 s_.1 s_.2 (fun s_ => S.l1Size_L2 n { n := 13, t := [(0, (.int .i64 s_.1)), (3, (.int .i64 s_.2))], h := [] } k) (fun d => k (.exit 0) { n := 13, t := [(3, (.int .i64 d))], h := [] }) none := by
      kernel_rfl
    have hs : (fun s_ : Int × Int => S.l1Size_L2 n { n := 13, t := [(0, (.int .i64 s_.1)), (3, (.int .i64 s_.2))], h := [] } k) = fun s_ => optC (S.l1Size_run2 n s_) (fun (r : Int) => k (.exit 0) { n := 13, t := [(3, (.int .i64 r))], h := [] }) none := funext ih
    rw [hu, hs]
    exact (S.l1Size_step2_nat (fun o => optC o (fun (r : Int) => k (.exit 0) { n := 13, t := [(3, (.int .i64 r))], h := [] }) none) s_.1 s_.2 (S.l1Size_run2 n) (fun d => some d) none).symm
noncomputable def S.l1Size_tree {α : Type} (set_ : Int) (leaf0_ : Int → α) (fail_ : α) : α :=
  (optC (S.l1Size_run2 FUEL (set_, 0)) (fun qy_1 => (leaf0_ qy_1)) fail_)
theorem S.l1Size_tree_nat {α γ : Type} (g : α → γ) (set_ : Int) (leaf0_ : Int → α) (fail_ : α) : g (S.l1Size_tree set_ leaf0_ fail_) = S.l1Size_tree set_ (fun d => g (leaf0_ d)) (g fail_) := by
  unfold S.l1Size_tree; simp only [apply_cnd g, apply_optC g, apply_sumC g]
noncomputable def S.l1Size_t (set_ : Int) : Option (Int) := S.l1Size_tree set_ (fun d => some d) none
theorem S.l1Size_den (set_ : Int) (κ : V → List E → R) : S.l1Size_F [.int .i64 set_] [] κ = optC (S.l1Size_t set_) (fun (r : Int) => κ (.int .i64 r) []) none := by
  have hu : S.l1Size_F [.int .i64 set_] [] κ = S.l1Size_tree set_ (fun d => κ (.int .i64 d) []) none := by
    refine Eq.trans (show S.l1Size_F [.int .i64 set_] [] κ = (S.l1Size_L2 FUEL { n := 13, t := [(0, (.int .i64 set_)), (3, (.int .i64 0))], h := [] } (S.l1Size_k2 κ)) by kernel_rfl) ?_
    refine (S.l1Size_L2_run FUEL (set_, 0) (S.l1Size_k2 κ)).trans (optC_congr (fun qy_1 => ?_))
    kernel_rfl
  rw [hu]
  exact (S.l1Size_tree_nat (fun o => optC o (fun (r : Int) => κ (.int .i64 r) []) none) set_ (fun d => some d) none).symm
noncomputable def S.l1Size_s : D.Spec where
  keep := false
  pure := true
  add := true
  ds := [.invalid]
  sp := fun args h κ => match args, h with
    | [.int .i64 set_], [] => optC (S.l1Size_t set_) (fun (r : Int) => κ (.int .i64 r) []) none
    | _, _ => none
theorem S.l1Size_ok : SpecOk Try.prog 81 S.l1Size_s := by
  refine SpecOk.of TDok mixed (T := S.l1Size_T) ?_ (ann := S.l1Size_ann) Try.func81 rfl (by decide +kernel) ?_ ?_ ?_ ?_
  · intro p hp; cases hp
  · intro args h κ r hh
    simp only [S.l1Size_s] at hh
    split at hh
    · exact (S.l1Size_den _ κ).trans hh
    · cases hh
  · intro args h κ r hh
    simp only [S.l1Size_s] at hh ⊢
    split at hh
    · exact optC_law2 (F := fun (r : Int) κ => κ (.int .i64 r) []) (fun b κ r hb => ⟨_, _, hb, fun _ => rfl⟩) hh
    · cases hh
  · intro _ args h κ r hh
    simp only [S.l1Size_s] at hh
    split at hh
    · exact ⟨rfl, fun _ => rfl⟩
    · cases hh
  · intro _ args h κ r hh
    simp only [S.l1Size_s] at hh
    split at hh
    · rfl
    · cases hh


-- loop.example/guardsonnets/spec.FewestEternal
noncomputable def S.FewestEternal_T : List (Nat × D.Spec) := [(46, S.NetOk_s), (79, S.EternalSets_s), (81, S.l1Size_s)]
def S.FewestEternal_ann : Nat → List Nat × List Nat
  | 6 => ([3, 4, 5], [3])
  | _ => ([], [])
noncomputable def S.FewestEternal_F (args : List V) (h : List E) (κ : V → List E → R) : R := funC TD (tableK S.FewestEternal_T) S.FewestEternal_ann (drawAny TD (tableP S.FewestEternal_T)) FUEL Try.f80 args h κ
noncomputable def S.FewestEternal_L6 (n : Nat) (σ : St) (k : X → St → R) : R := iterC 0 (fun σ k => denC TD (tableK S.FewestEternal_T) S.FewestEternal_ann (drawAny TD (tableP S.FewestEternal_T)) 0 FUEL ((findLoop 6 (Try.f80.body.getD .skip)).getD .skip) σ k) [3, 4, 5] [3] n σ k
noncomputable def S.FewestEternal_k6 (κ : V → List E → R) : X → St → R := (afterC TD (tableK S.FewestEternal_T) S.FewestEternal_ann (drawAny TD (tableP S.FewestEternal_T)) 0 FUEL 6 (Try.f80.body.getD .skip) (finC TD 0 Try.f80 κ)).getD (fun _ _ => none)
noncomputable def S.FewestEternal_step6 {α : Type} (x3 : Int) (x5 : Int) (r0 : List Int) (next_ : Int × Int × (List Int) → α) (out0_ : Int → α) (fail_ : α) : α :=
  (bif decide (x5 < (↑r0.length : Int)) then (bif decide (0 ≤ x5) && decide (x5 < (↑r0.length : Int)) then (bif decide (x5.toNat < r0.length) then (optC (S.l1Size_t (eli r0 x5.toNat)) (fun c_3 => (next_ (if c_3 < x3 then c_3 else x3, IntKind.i64.wrap (x5 + 1), r0))) fail_) else fail_) else fail_) else (out0_ x3))
theorem S.FewestEternal_step6_nat {α γ : Type} (g : α → γ) (x3 : Int) (x5 : Int) (r0 : List Int) (next_ : Int × Int × (List Int) → α) (out0_ : Int → α) (fail_ : α) : g (S.FewestEternal_step6 x3 x5 r0 next_ out0_ fail_) = S.FewestEternal_step6 x3 x5 r0 (fun s => g (next_ s)) (fun d => g (out0_ d)) (g fail_) := by
  unfold S.FewestEternal_step6; simp only [apply_cnd g, apply_optC g, apply_sumC g]
noncomputable def S.FewestEternal_run6 : Nat → Int × Int × (List Int) → Option (Int)
  | 0, _ => none
  | n + 1, s_ => S.FewestEternal_step6 s_.1 s_.2.1 s_.2.2 (S.FewestEternal_run6 n) (fun d => some d) none
theorem S.FewestEternal_L6_run (n : Nat) (s_ : Int × Int × (List Int)) (k : X → St → R) : S.FewestEternal_L6 n { n := 27, t := [(3, (.int .i64 s_.1)), (4, (.own 0)), (5, (.int .i64 s_.2.1))], h := [.row (.ints .i64 s_.2.2)] } k = optC (S.FewestEternal_run6 n s_) (fun (r : Int) => k (.exit 0) { n := 27, t := [(3, (.int .i64 r))], h := [] }) none := by
  induction n generalizing s_ with
  | zero => rfl
  | succ n ih =>
    have hu : S.FewestEternal_L6 (n + 1) { n := 27, t := [(3, (.int .i64 s_.1)), (4, (.own 0)), (5, (.int .i64 s_.2.1))], h := [.row (.ints .i64 s_.2.2)] } k = S.FewestEternal_step6 s_.1 s_.2.1 s_.2.2 (fun s_ => S.FewestEternal_L6 n { n := 27, t := [(3, (.int .i64 s_.1)), (4, (.own 0)), (5, (.int .i64 s_.2.1))], h := [.row (.ints .i64 s_.2.2)] } k) (fun d => k (.exit 0) { n := 27, t := [(3, (.int .i64 d))], h := [] }) none := by
      kernel_rfl
    have hs : (fun s_ : Int × Int × (List Int) => S.FewestEternal_L6 n { n := 27, t := [(3, (.int .i64 s_.1)), (4, (.own 0)), (5, (.int .i64 s_.2.1))], h := [.row (.ints .i64 s_.2.2)] } k) = fun s_ => optC (S.FewestEternal_run6 n s_) (fun (r : Int) => k (.exit 0) { n := 27, t := [(3, (.int .i64 r))], h := [] }) none := funext ih
    rw [hu, hs]
    exact (S.FewestEternal_step6_nat (fun o => optC o (fun (r : Int) => k (.exit 0) { n := 27, t := [(3, (.int .i64 r))], h := [] }) none) s_.1 s_.2.1 s_.2.2 (S.FewestEternal_run6 n) (fun d => some d) none).symm
noncomputable def S.FewestEternal_tree {α : Type} (net : List Int) (leaf0_ : Int → α) (fail_ : α) : α :=
  (optC (S.NetOk_t net) (fun c_1 => (bif !c_1 then (leaf0_ (-1)) else (optC (S.EternalSets_t net) (fun c_2 => (optC (S.FewestEternal_run6 FUEL ((↑net.length : Int), 0, c_2)) (fun qy_4 => (leaf0_ qy_4)) fail_)) fail_))) fail_)
theorem S.FewestEternal_tree_nat {α γ : Type} (g : α → γ) (net : List Int) (leaf0_ : Int → α) (fail_ : α) : g (S.FewestEternal_tree net leaf0_ fail_) = S.FewestEternal_tree net (fun d => g (leaf0_ d)) (g fail_) := by
  unfold S.FewestEternal_tree; simp only [apply_cnd g, apply_optC g, apply_sumC g]
noncomputable def S.FewestEternal_t (net : List Int) : Option (Int) := S.FewestEternal_tree net (fun d => some d) none
theorem S.FewestEternal_den (net : List Int) (κ : V → List E → R) : S.FewestEternal_F [.ro false (.ints .i64 net)] [] κ = optC (S.FewestEternal_t net) (fun (r : Int) => κ (.int .i64 r) []) none := by
  have hu : S.FewestEternal_F [.ro false (.ints .i64 net)] [] κ = S.FewestEternal_tree net (fun d => κ (.int .i64 d) []) none := by
    refine Eq.trans (show S.FewestEternal_F [.ro false (.ints .i64 net)] [] κ = (optC (S.NetOk_t net) (fun c_1 => (bif !c_1 then (κ (.int .i64 (-1)) []) else (optC (S.EternalSets_t net) (fun c_2 => (S.FewestEternal_L6 FUEL { n := 27, t := [(3, (.int .i64 ((↑net.length : Int)))), (4, (.own 0)), (5, (.int .i64 0))], h := [.row (.ints .i64 c_2)] } (S.FewestEternal_k6 κ))) none))) none) by kernel_rfl) ?_
    refine optC_congr (fun c_1 => ?_)
    refine cnd_congr ?_ ?_
    · kernel_rfl
    · refine optC_congr (fun c_2 => ?_)
      refine (S.FewestEternal_L6_run FUEL ((↑net.length : Int), 0, c_2) (S.FewestEternal_k6 κ)).trans (optC_congr (fun qy_4 => ?_))
      kernel_rfl
  rw [hu]
  exact (S.FewestEternal_tree_nat (fun o => optC o (fun (r : Int) => κ (.int .i64 r) []) none) net (fun d => some d) none).symm
noncomputable def S.FewestEternal_s : D.Spec where
  keep := false
  pure := true
  add := true
  ds := [.int .i64]
  sp := fun args h κ => match args, h with
    | [.ro false (.ints .i64 net)], [] => optC (S.FewestEternal_t net) (fun (r : Int) => κ (.int .i64 r) []) none
    | _, _ => none
theorem S.FewestEternal_ok : SpecOk Try.prog 80 S.FewestEternal_s := by
  refine SpecOk.of TDok mixed (T := S.FewestEternal_T) ?_ (ann := S.FewestEternal_ann) Try.func80 rfl (by decide +kernel) ?_ ?_ ?_ ?_
  · intro p hp
    simp only [S.FewestEternal_T, List.mem_cons, List.not_mem_nil, or_false] at hp
    rcases hp with rfl | rfl | rfl
    · exact S.NetOk_ok
    · exact S.EternalSets_ok
    · exact S.l1Size_ok
  · intro args h κ r hh
    simp only [S.FewestEternal_s] at hh
    split at hh
    · exact (S.FewestEternal_den _ κ).trans hh
    · cases hh
  · intro args h κ r hh
    simp only [S.FewestEternal_s] at hh ⊢
    split at hh
    · exact optC_law2 (F := fun (r : Int) κ => κ (.int .i64 r) []) (fun b κ r hb => ⟨_, _, hb, fun _ => rfl⟩) hh
    · cases hh
  · intro _ args h κ r hh
    simp only [S.FewestEternal_s] at hh
    split at hh
    · exact ⟨rfl, fun _ => rfl⟩
    · cases hh
  · intro _ args h κ r hh
    simp only [S.FewestEternal_s] at hh
    split at hh
    · rfl
    · cases hh


-- loop.example/guardsonnets/spec.FirstPost
noncomputable def S.FirstPost_T : List (Nat × D.Spec) := [(79, S.EternalSets_s), (80, S.FewestEternal_s), (81, S.l1Size_s)]
def S.FirstPost_ann : Nat → List Nat × List Nat
  | 4 => ([3, 4, 5], [2])
  | _ => ([], [])
noncomputable def S.FirstPost_F (args : List V) (h : List E) (κ : V → List E → R) : R := funC TD (tableK S.FirstPost_T) S.FirstPost_ann (drawAny TD (tableP S.FirstPost_T)) FUEL Try.f59 args h κ
noncomputable def S.FirstPost_L4 (n : Nat) (σ : St) (k : X → St → R) : R := iterC 0 (fun σ k => denC TD (tableK S.FirstPost_T) S.FirstPost_ann (drawAny TD (tableP S.FirstPost_T)) 0 FUEL ((findLoop 4 (Try.f59.body.getD .skip)).getD .skip) σ k) [3, 4, 5] [2] n σ k
noncomputable def S.FirstPost_k4 (κ : V → List E → R) : X → St → R := (afterC TD (tableK S.FirstPost_T) S.FirstPost_ann (drawAny TD (tableP S.FirstPost_T)) 0 FUEL 4 (Try.f59.body.getD .skip) (finC TD 0 Try.f59 κ)).getD (fun _ _ => none)
noncomputable def S.FirstPost_step4 {α : Type} (x4 : Int) (x5 : Int) (r0 : List Int) (next_ : Int × (List Int) → α) (out0_ : Int → α) (out1_ : Unit → α) (fail_ : α) : α :=
  (bif decide (x5 < (↑r0.length : Int)) then (bif decide (0 ≤ x5) && decide (x5 < (↑r0.length : Int)) then (bif decide (x5.toNat < r0.length) then (optC (S.l1Size_t (eli r0 x5.toNat)) (fun c_3 => (bif c_3 == x4 then (bif decide (0 ≤ x5) && decide (x5 < (↑r0.length : Int)) then (bif decide (x5.toNat < r0.length) then (out0_ (eli r0 x5.toNat)) else fail_) else fail_) else (next_ (IntKind.i64.wrap (x5 + 1), r0)))) fail_) else fail_) else fail_) else (out1_ ()))
theorem S.FirstPost_step4_nat {α γ : Type} (g : α → γ) (x4 : Int) (x5 : Int) (r0 : List Int) (next_ : Int × (List Int) → α) (out0_ : Int → α) (out1_ : Unit → α) (fail_ : α) : g (S.FirstPost_step4 x4 x5 r0 next_ out0_ out1_ fail_) = S.FirstPost_step4 x4 x5 r0 (fun s => g (next_ s)) (fun d => g (out0_ d)) (fun d => g (out1_ d)) (g fail_) := by
  unfold S.FirstPost_step4; simp only [apply_cnd g, apply_optC g, apply_sumC g]
noncomputable def S.FirstPost_run4 (x4 : Int) : Nat → Int × (List Int) → Option ((Int) ⊕ (Unit))
  | 0, _ => none
  | n + 1, s_ => S.FirstPost_step4 x4 s_.1 s_.2 (S.FirstPost_run4 x4 n) (fun d => some ((Sum.inl d))) (fun d => some ((Sum.inr d))) none
theorem S.FirstPost_L4_run (x4 : Int) (n : Nat) (s_ : Int × (List Int)) (k : X → St → R) : S.FirstPost_L4 n { n := 27, t := [(3, (.own 0)), (4, (.int .i64 x4)), (5, (.int .i64 s_.1))], h := [.row (.ints .i64 s_.2)] } k = optC (S.FirstPost_run4 x4 n s_) (fun (r : (Int) ⊕ (Unit)) => (sumC r (fun (r : Int) => k (.ret) { n := 27, t := [(2, (.int .i64 r))], h := [] }) (fun (r : Unit) => k (.exit 0) { n := 27, t := [(2, .junk)], h := [] }))) none := by
  induction n generalizing s_ with
  | zero => rfl
  | succ n ih =>
    have hu : S.FirstPost_L4 (n + 1) { n := 27, t := [(3, (.own 0)), (4, (.int .i64 x4)), (5, (.int .i64 s_.1))], h := [.row (.ints .i64 s_.2)] } k = S.FirstPost_step4 x4 s_.1 s_.2 (fun s_ => S.FirstPost_L4 n { n := 27, t := [(3, (.own 0)), (4, (.int .i64 x4)), (5, (.int .i64 s_.1))], h := [.row (.ints .i64 s_.2)] } k) (fun d => k (.ret) { n := 27, t := [(2, (.int .i64 d))], h := [] }) (fun d => k (.exit 0) { n := 27, t := [(2, .junk)], h := [] }) none := by
      kernel_rfl
    have hs : (fun s_ : Int × (List Int) => S.FirstPost_L4 n { n := 27, t := [(3, (.own 0)), (4, (.int .i64 x4)), (5, (.int .i64 s_.1))], h := [.row (.ints .i64 s_.2)] } k) = fun s_ => optC (S.FirstPost_run4 x4 n s_) (fun (r : (Int) ⊕ (Unit)) => (sumC r (fun (r : Int) => k (.ret) { n := 27, t := [(2, (.int .i64 r))], h := [] }) (fun (r : Unit) => k (.exit 0) { n := 27, t := [(2, .junk)], h := [] }))) none := funext ih
    rw [hu, hs]
    exact (S.FirstPost_step4_nat (fun o => optC o (fun (r : (Int) ⊕ (Unit)) => (sumC r (fun (r : Int) => k (.ret) { n := 27, t := [(2, (.int .i64 r))], h := [] }) (fun (r : Unit) => k (.exit 0) { n := 27, t := [(2, .junk)], h := [] }))) none) x4 s_.1 s_.2 (S.FirstPost_run4 x4 n) (fun d => some ((Sum.inl d))) (fun d => some ((Sum.inr d))) none).symm
noncomputable def S.FirstPost_tree {α : Type} (net : List Int) (leaf0_ : Int → α) (fail_ : α) : α :=
  (optC (S.EternalSets_t net) (fun c_1 => (optC (S.FewestEternal_t net) (fun c_2 => (optC (S.FirstPost_run4 c_2 FUEL (0, c_1)) (fun qy_4 => (sumC qy_4 (fun (qy_4 : Int) => (leaf0_ qy_4)) (fun (qy_4 : Unit) => (leaf0_ (-1))))) fail_)) fail_)) fail_)
theorem S.FirstPost_tree_nat {α γ : Type} (g : α → γ) (net : List Int) (leaf0_ : Int → α) (fail_ : α) : g (S.FirstPost_tree net leaf0_ fail_) = S.FirstPost_tree net (fun d => g (leaf0_ d)) (g fail_) := by
  unfold S.FirstPost_tree; simp only [apply_cnd g, apply_optC g, apply_sumC g]
noncomputable def S.FirstPost_t (net : List Int) : Option (Int) := S.FirstPost_tree net (fun d => some d) none
theorem S.FirstPost_den (net : List Int) (κ : V → List E → R) : S.FirstPost_F [.ro false (.ints .i64 net)] [] κ = optC (S.FirstPost_t net) (fun (r : Int) => κ (.int .i64 r) []) none := by
  have hu : S.FirstPost_F [.ro false (.ints .i64 net)] [] κ = S.FirstPost_tree net (fun d => κ (.int .i64 d) []) none := by
    refine Eq.trans (show S.FirstPost_F [.ro false (.ints .i64 net)] [] κ = (optC (S.EternalSets_t net) (fun c_1 => (optC (S.FewestEternal_t net) (fun c_2 => (S.FirstPost_L4 FUEL { n := 27, t := [(3, (.own 0)), (4, (.int .i64 c_2)), (5, (.int .i64 0))], h := [.row (.ints .i64 c_1)] } (S.FirstPost_k4 κ))) none)) none) by kernel_rfl) ?_
    refine optC_congr (fun c_1 => ?_)
    refine optC_congr (fun c_2 => ?_)
    refine (S.FirstPost_L4_run c_2 FUEL (0, c_1) (S.FirstPost_k4 κ)).trans (optC_congr (fun qy_4 => ?_))
    rcases qy_4 with qy_4 | qy_4
    · kernel_rfl
    · kernel_rfl
  rw [hu]
  exact (S.FirstPost_tree_nat (fun o => optC o (fun (r : Int) => κ (.int .i64 r) []) none) net (fun d => some d) none).symm
noncomputable def S.FirstPost_s : D.Spec where
  keep := false
  pure := true
  add := true
  ds := [.int .i64]
  sp := fun args h κ => match args, h with
    | [.ro false (.ints .i64 net)], [] => optC (S.FirstPost_t net) (fun (r : Int) => κ (.int .i64 r) []) none
    | _, _ => none
theorem S.FirstPost_ok : SpecOk Try.prog 59 S.FirstPost_s := by
  refine SpecOk.of TDok mixed (T := S.FirstPost_T) ?_ (ann := S.FirstPost_ann) Try.func59 rfl (by decide +kernel) ?_ ?_ ?_ ?_
  · intro p hp
    simp only [S.FirstPost_T, List.mem_cons, List.not_mem_nil, or_false] at hp
    rcases hp with rfl | rfl | rfl
    · exact S.EternalSets_ok
    · exact S.FewestEternal_ok
    · exact S.l1Size_ok
  · intro args h κ r hh
    simp only [S.FirstPost_s] at hh
    split at hh
    · exact (S.FirstPost_den _ κ).trans hh
    · cases hh
  · intro args h κ r hh
    simp only [S.FirstPost_s] at hh ⊢
    split at hh
    · exact optC_law2 (F := fun (r : Int) κ => κ (.int .i64 r) []) (fun b κ r hb => ⟨_, _, hb, fun _ => rfl⟩) hh
    · cases hh
  · intro _ args h κ r hh
    simp only [S.FirstPost_s] at hh
    split at hh
    · exact ⟨rfl, fun _ => rfl⟩
    · cases hh
  · intro _ args h κ r hh
    simp only [S.FirstPost_s] at hh
    split at hh
    · rfl
    · cases hh


-- loop.example/guardsonnets/spec.l1SetOk
noncomputable def S.l1SetOk_T : List (Nat × D.Spec) := [(46, S.NetOk_s), (55, S.l1In_s)]
def S.l1SetOk_ann : Nat → List Nat × List Nat
  | _ => ([], [])
noncomputable def S.l1SetOk_F (args : List V) (h : List E) (κ : V → List E → R) : R := funC TD (tableK S.l1SetOk_T) S.l1SetOk_ann (drawAny TD (tableP S.l1SetOk_T)) FUEL Try.f93 args h κ
noncomputable def S.l1SetOk_tree {α : Type} (net : List Int) (set_ : Int) (leaf0_ : Bool → α) (fail_ : α) : α :=
  (optC (S.NetOk_t net) (fun c_1 => (bif c_1 then (optC (S.l1In_t set_ 0 (IntKind.i64.wrap (IntKind.i64.wrap (1 * 2 ^ min (↑net.length : Int).toNat IntKind.i64.bits) - 1))) (fun c_2 => (leaf0_ c_2)) fail_) else (leaf0_ false))) fail_)
theorem S.l1SetOk_tree_nat {α γ : Type} (g : α → γ) (net : List Int) (set_ : Int) (leaf0_ : Bool → α) (fail_ : α) : g (S.l1SetOk_tree net set_ leaf0_ fail_) = S.l1SetOk_tree net set_ (fun d => g (leaf0_ d)) (g fail_) := by
  unfold S.l1SetOk_tree; simp only [apply_cnd g, apply_optC g, apply_sumC g]
noncomputable def S.l1SetOk_t (net : List Int) (set_ : Int) : Option (Bool) := S.l1SetOk_tree net set_ (fun d => some d) none
theorem S.l1SetOk_den (net : List Int) (set_ : Int) (κ : V → List E → R) : S.l1SetOk_F [.ro false (.ints .i64 net), .int .i64 set_] [] κ = optC (S.l1SetOk_t net set_) (fun (r : Bool) => κ (.bool r) []) none := by
  have hu : S.l1SetOk_F [.ro false (.ints .i64 net), .int .i64 set_] [] κ = S.l1SetOk_tree net set_ (fun d => κ (.bool d) []) none := by
    kernel_rfl
  rw [hu]
  exact (S.l1SetOk_tree_nat (fun o => optC o (fun (r : Bool) => κ (.bool r) []) none) net set_ (fun d => some d) none).symm
noncomputable def S.l1SetOk_s : D.Spec where
  keep := false
  pure := true
  add := true
  ds := [.int .i64, .invalid]
  sp := fun args h κ => match args, h with
    | [.ro false (.ints .i64 net), .int .i64 set_], [] => optC (S.l1SetOk_t net set_) (fun (r : Bool) => κ (.bool r) []) none
    | _, _ => none
theorem S.l1SetOk_ok : SpecOk Try.prog 93 S.l1SetOk_s := by
  refine SpecOk.of TDok mixed (T := S.l1SetOk_T) ?_ (ann := S.l1SetOk_ann) Try.func93 rfl (by decide +kernel) ?_ ?_ ?_ ?_
  · intro p hp
    simp only [S.l1SetOk_T, List.mem_cons, List.not_mem_nil, or_false] at hp
    rcases hp with rfl | rfl
    · exact S.NetOk_ok
    · exact S.l1In_ok
  · intro args h κ r hh
    simp only [S.l1SetOk_s] at hh
    split at hh
    · exact (S.l1SetOk_den _ _ κ).trans hh
    · cases hh
  · intro args h κ r hh
    simp only [S.l1SetOk_s] at hh ⊢
    split at hh
    · exact optC_law2 (F := fun (r : Bool) κ => κ (.bool r) []) (fun b κ r hb => ⟨_, _, hb, fun _ => rfl⟩) hh
    · cases hh
  · intro _ args h κ r hh
    simp only [S.l1SetOk_s] at hh
    split at hh
    · exact ⟨rfl, fun _ => rfl⟩
    · cases hh
  · intro _ args h κ r hh
    simp only [S.l1SetOk_s] at hh
    split at hh
    · rfl
    · cases hh


-- loop.example/guardsonnets/spec.EternalOk
noncomputable def S.EternalOk_T : List (Nat × D.Spec) := [(93, S.l1SetOk_s), (85, S.l9Lasts_s)]
def S.EternalOk_ann : Nat → List Nat × List Nat
  | _ => ([], [])
noncomputable def S.EternalOk_F (args : List V) (h : List E) (κ : V → List E → R) : R := funC TD (tableK S.EternalOk_T) S.EternalOk_ann (drawAny TD (tableP S.EternalOk_T)) FUEL Try.f84 args h κ
noncomputable def S.EternalOk_tree {α : Type} (net : List Int) (set_ : Int) (leaf0_ : Bool → α) (fail_ : α) : α :=
  (optC (S.l1SetOk_t net set_) (fun c_1 => (bif c_1 then (optC (S.l9Lasts_t net) (fun c_2 => (bif decide (0 ≤ set_) && decide (set_ < (↑c_2.length : Int)) then (bif decide (set_.toNat < c_2.length) then (leaf0_ (elb c_2 set_.toNat)) else fail_) else fail_)) fail_) else (leaf0_ false))) fail_)
theorem S.EternalOk_tree_nat {α γ : Type} (g : α → γ) (net : List Int) (set_ : Int) (leaf0_ : Bool → α) (fail_ : α) : g (S.EternalOk_tree net set_ leaf0_ fail_) = S.EternalOk_tree net set_ (fun d => g (leaf0_ d)) (g fail_) := by
  unfold S.EternalOk_tree; simp only [apply_cnd g, apply_optC g, apply_sumC g]
noncomputable def S.EternalOk_t (net : List Int) (set_ : Int) : Option (Bool) := S.EternalOk_tree net set_ (fun d => some d) none
theorem S.EternalOk_den (net : List Int) (set_ : Int) (κ : V → List E → R) : S.EternalOk_F [.ro false (.ints .i64 net), .int .i64 set_] [] κ = optC (S.EternalOk_t net set_) (fun (r : Bool) => κ (.bool r) []) none := by
  have hu : S.EternalOk_F [.ro false (.ints .i64 net), .int .i64 set_] [] κ = S.EternalOk_tree net set_ (fun d => κ (.bool d) []) none := by
    kernel_rfl
  rw [hu]
  exact (S.EternalOk_tree_nat (fun o => optC o (fun (r : Bool) => κ (.bool r) []) none) net set_ (fun d => some d) none).symm
noncomputable def S.EternalOk_s : D.Spec where
  keep := false
  pure := true
  add := true
  ds := [.int .i64, .invalid]
  sp := fun args h κ => match args, h with
    | [.ro false (.ints .i64 net), .int .i64 set_], [] => optC (S.EternalOk_t net set_) (fun (r : Bool) => κ (.bool r) []) none
    | _, _ => none
theorem S.EternalOk_ok : SpecOk Try.prog 84 S.EternalOk_s := by
  refine SpecOk.of TDok mixed (T := S.EternalOk_T) ?_ (ann := S.EternalOk_ann) Try.func84 rfl (by decide +kernel) ?_ ?_ ?_ ?_
  · intro p hp
    simp only [S.EternalOk_T, List.mem_cons, List.not_mem_nil, or_false] at hp
    rcases hp with rfl | rfl
    · exact S.l1SetOk_ok
    · exact S.l9Lasts_ok
  · intro args h κ r hh
    simp only [S.EternalOk_s] at hh
    split at hh
    · exact (S.EternalOk_den _ _ κ).trans hh
    · cases hh
  · intro args h κ r hh
    simp only [S.EternalOk_s] at hh ⊢
    split at hh
    · exact optC_law2 (F := fun (r : Bool) κ => κ (.bool r) []) (fun b κ r hb => ⟨_, _, hb, fun _ => rfl⟩) hh
    · cases hh
  · intro _ args h κ r hh
    simp only [S.EternalOk_s] at hh
    split at hh
    · exact ⟨rfl, fun _ => rfl⟩
    · cases hh
  · intro _ args h κ r hh
    simp only [S.EternalOk_s] at hh
    split at hh
    · rfl
    · cases hh


-- loop.example/guardsonnets/spec.AnsweredAll
noncomputable def S.AnsweredAll_T : List (Nat × D.Spec) := [(84, S.EternalOk_s), (85, S.l9Lasts_s), (55, S.l1In_s), (87, S.l9Answer_s), (86, S.l8Moved_s)]
def S.AnsweredAll_ann : Nat → List Nat × List Nat
  | 6 => ([0, 1, 2, 7, 8, 9], [6, 8])
  | _ => ([], [])
noncomputable def S.AnsweredAll_F (args : List V) (h : List E) (κ : V → List E → R) : R := funC TD (tableK S.AnsweredAll_T) S.AnsweredAll_ann (drawAny TD (tableP S.AnsweredAll_T)) FUEL Try.f73 args h κ
noncomputable def S.AnsweredAll_L6 (n : Nat) (σ : St) (k : X → St → R) : R := iterC 0 (fun σ k => denC TD (tableK S.AnsweredAll_T) S.AnsweredAll_ann (drawAny TD (tableP S.AnsweredAll_T)) 0 FUEL ((findLoop 6 (Try.f73.body.getD .skip)).getD .skip) σ k) [0, 1, 2, 7, 8, 9] [6, 8] n σ k
noncomputable def S.AnsweredAll_k6 (κ : V → List E → R) : X → St → R := (afterC TD (tableK S.AnsweredAll_T) S.AnsweredAll_ann (drawAny TD (tableP S.AnsweredAll_T)) 0 FUEL 6 (Try.f73.body.getD .skip) (finC TD 0 Try.f73 κ)).getD (fun _ _ => none)
noncomputable def S.AnsweredAll_step6 {α : Type} (x0 : List Int) (x2 : List Int) (x1 : Int) (x9 : Int) (r0 : List Bool) (r1 : List Int) (next_ : Int × Int × (List Bool) × (List Int) → α) (out0_ : (List Int) × (List Int) → α) (out1_ : List Int → α) (fail_ : α) : α :=
  (bif decide (x9 < (↑x2.length : Int)) then (bif decide (0 ≤ x9) && decide (x9 < (↑x2.length : Int)) then (optC (S.l1In_t (eli x2 x9.toNat) 0 (IntKind.i64.wrap ((↑x0.length : Int) - 1))) (fun c_3 => (bif !c_3 then (out0_ ([], r1)) else (bif decide (0 ≤ x9) && decide (x9 < (↑x2.length : Int)) then (bif decide (eli x2 x9.toNat < 0) then fail_ else (bif (x1.fdiv (2 ^ min (eli x2 x9.toNat).toNat IntKind.i64.bits)).tmod 2 == 0 then (bif decide (0 ≤ x9) && decide (x9 < (↑x2.length : Int)) then (optC (S.l9Answer_t x0 r0 x1 (eli x2 x9.toNat)) (fun c_4 => (bif decide (0 ≤ x9) && decide (x9 < (↑x2.length : Int)) then (optC (S.l8Moved_t x1 c_4 (eli x2 x9.toNat)) (fun c_5 => (bif small (r1 ++ [c_5]).length then (next_ (c_5, IntKind.i64.wrap (x9 + 1), r0, r1 ++ [c_5])) else fail_)) fail_) else fail_)) fail_) else fail_) else (bif small (r1 ++ [x1]).length then (next_ (x1, IntKind.i64.wrap (x9 + 1), r0, r1 ++ [x1])) else fail_))) else fail_))) fail_) else fail_) else (out1_ r1))
theorem S.AnsweredAll_step6_nat {α γ : Type} (g : α → γ) (x0 : List Int) (x2 : List Int) (x1 : Int) (x9 : Int) (r0 : List Bool) (r1 : List Int) (next_ : Int × Int × (List Bool) × (List Int) → α) (out0_ : (List Int) × (List Int) → α) (out1_ : List Int → α) (fail_ : α) : g (S.AnsweredAll_step6 x0 x2 x1 x9 r0 r1 next_ out0_ out1_ fail_) = S.AnsweredAll_step6 x0 x2 x1 x9 r0 r1 (fun s => g (next_ s)) (fun d => g (out0_ d)) (fun d => g (out1_ d)) (g fail_) := by
  unfold S.AnsweredAll_step6; simp only [apply_cnd g, apply_optC g, apply_sumC g]
noncomputable def S.AnsweredAll_run6 (x0 : List Int) (x2 : List Int) : Nat → Int × Int × (List Bool) × (List Int) → Option (((List Int) × (List Int)) ⊕ (List Int))
  | 0, _ => none
  | n + 1, s_ => S.AnsweredAll_step6 x0 x2 s_.1 s_.2.1 s_.2.2.1 s_.2.2.2 (S.AnsweredAll_run6 x0 x2 n) (fun d => some ((Sum.inl d))) (fun d => some ((Sum.inr d))) none
theorem S.AnsweredAll_L6_run (x0 : List Int) (x2 : List Int) (n : Nat) (s_ : Int × Int × (List Bool) × (List Int)) (k : X → St → R) : S.AnsweredAll_L6 n { n := 62, t := [(0, (.ro false (.ints .i64 x0))), (1, (.int .i64 s_.1)), (2, (.ro false (.ints .i64 x2))), (7, (.own 0)), (8, (.own 1)), (9, (.int .i64 s_.2.1))], h := [.row (.bools s_.2.2.1), .row (.ints .i64 s_.2.2.2)] } k = optC (S.AnsweredAll_run6 x0 x2 n s_) (fun (r : ((List Int) × (List Int)) ⊕ (List Int)) => (sumC r (fun (r : (List Int) × (List Int)) => k (.ret) { n := 62, t := [(6, (.own 0)), (8, (.own 1))], h := [.row (.ints .i64 r.1), .row (.ints .i64 r.2)] }) (fun (r : List Int) => k (.exit 0) { n := 62, t := [(6, .junk), (8, (.own 0))], h := [.row (.ints .i64 r)] }))) none := by
  induction n generalizing s_ with
  | zero => rfl
  | succ n ih =>
    have hu : S.AnsweredAll_L6 (n + 1) { n := 62, t := [(0, (.ro false (.ints .i64 x0))), (1, (.int .i64 s_.1)), (2, (.ro false (.ints .i64 x2))), (7, (.own 0)), (8, (.own 1)), (9, (.int .i64 s_.2.1))], h := [.row (.bools s_.2.2.1), .row (.ints .i64 s_.2.2.2)] } k = S.AnsweredAll_step6 x0 x2 s_.1 s_.2.1 s_.2.2.1 s_.2.2.2 (fun s_ => S.AnsweredAll_L6 n { n := 62, t := [(0, (.ro false (.ints .i64 x0))), (1, (.int .i64 s_.1)), (2, (.ro false (.ints .i64 x2))), (7, (.own 0)), (8, (.own 1)), (9, (.int .i64 s_.2.1))], h := [.row (.bools s_.2.2.1), .row (.ints .i64 s_.2.2.2)] } k) (fun d => k (.ret) { n := 62, t := [(6, (.own 0)), (8, (.own 1))], h := [.row (.ints .i64 d.1), .row (.ints .i64 d.2)] }) (fun d => k (.exit 0) { n := 62, t := [(6, .junk), (8, (.own 0))], h := [.row (.ints .i64 d)] }) none := by
      kernel_rfl
    have hs : (fun s_ : Int × Int × (List Bool) × (List Int) => S.AnsweredAll_L6 n { n := 62, t := [(0, (.ro false (.ints .i64 x0))), (1, (.int .i64 s_.1)), (2, (.ro false (.ints .i64 x2))), (7, (.own 0)), (8, (.own 1)), (9, (.int .i64 s_.2.1))], h := [.row (.bools s_.2.2.1), .row (.ints .i64 s_.2.2.2)] } k) = fun s_ => optC (S.AnsweredAll_run6 x0 x2 n s_) (fun (r : ((List Int) × (List Int)) ⊕ (List Int)) => (sumC r (fun (r : (List Int) × (List Int)) => k (.ret) { n := 62, t := [(6, (.own 0)), (8, (.own 1))], h := [.row (.ints .i64 r.1), .row (.ints .i64 r.2)] }) (fun (r : List Int) => k (.exit 0) { n := 62, t := [(6, .junk), (8, (.own 0))], h := [.row (.ints .i64 r)] }))) none := funext ih
    rw [hu, hs]
    exact (S.AnsweredAll_step6_nat (fun o => optC o (fun (r : ((List Int) × (List Int)) ⊕ (List Int)) => (sumC r (fun (r : (List Int) × (List Int)) => k (.ret) { n := 62, t := [(6, (.own 0)), (8, (.own 1))], h := [.row (.ints .i64 r.1), .row (.ints .i64 r.2)] }) (fun (r : List Int) => k (.exit 0) { n := 62, t := [(6, .junk), (8, (.own 0))], h := [.row (.ints .i64 r)] }))) none) x0 x2 s_.1 s_.2.1 s_.2.2.1 s_.2.2.2 (S.AnsweredAll_run6 x0 x2 n) (fun d => some ((Sum.inl d))) (fun d => some ((Sum.inr d))) none).symm
noncomputable def S.AnsweredAll_tree {α : Type} (net : List Int) (set_ : Int) (places : List Int) (leaf0_ : List Int → α) (fail_ : α) : α :=
  (optC (S.EternalOk_t net set_) (fun c_1 => (bif !c_1 then (leaf0_ ([])) else (optC (S.l9Lasts_t net) (fun c_2 => (optC (S.AnsweredAll_run6 net places FUEL (set_, 0, c_2, [set_])) (fun qy_6 => (sumC qy_6 (fun (qy_6 : (List Int) × (List Int)) => (leaf0_ qy_6.1)) (fun (qy_6 : List Int) => (leaf0_ qy_6)))) fail_)) fail_))) fail_)
theorem S.AnsweredAll_tree_nat {α γ : Type} (g : α → γ) (net : List Int) (set_ : Int) (places : List Int) (leaf0_ : List Int → α) (fail_ : α) : g (S.AnsweredAll_tree net set_ places leaf0_ fail_) = S.AnsweredAll_tree net set_ places (fun d => g (leaf0_ d)) (g fail_) := by
  unfold S.AnsweredAll_tree; simp only [apply_cnd g, apply_optC g, apply_sumC g]
noncomputable def S.AnsweredAll_t (net : List Int) (set_ : Int) (places : List Int) : Option (List Int) := S.AnsweredAll_tree net set_ places (fun d => some d) none
theorem S.AnsweredAll_den (net : List Int) (set_ : Int) (places : List Int) (κ : V → List E → R) : S.AnsweredAll_F [.ro false (.ints .i64 net), .int .i64 set_, .ro false (.ints .i64 places)] [] κ = optC (S.AnsweredAll_t net set_ places) (fun (r : List Int) => κ (.own 0) [.row (.ints .i64 r)]) none := by
  have hu : S.AnsweredAll_F [.ro false (.ints .i64 net), .int .i64 set_, .ro false (.ints .i64 places)] [] κ = S.AnsweredAll_tree net set_ places (fun d => κ (.own 0) [.row (.ints .i64 d)]) none := by
    refine Eq.trans (show S.AnsweredAll_F [.ro false (.ints .i64 net), .int .i64 set_, .ro false (.ints .i64 places)] [] κ = (optC (S.EternalOk_t net set_) (fun c_1 => (bif !c_1 then (κ (.own 0) [.row (.ints .i64 ([]))]) else (optC (S.l9Lasts_t net) (fun c_2 => (S.AnsweredAll_L6 FUEL { n := 62, t := [(0, (.ro false (.ints .i64 net))), (1, (.int .i64 set_)), (2, (.ro false (.ints .i64 places))), (7, (.own 0)), (8, (.own 1)), (9, (.int .i64 0))], h := [.row (.bools c_2), .row (.ints .i64 ([set_]))] } (S.AnsweredAll_k6 κ))) none))) none) by kernel_rfl) ?_
    refine optC_congr (fun c_1 => ?_)
    refine cnd_congr ?_ ?_
    · kernel_rfl
    · refine optC_congr (fun c_2 => ?_)
      refine (S.AnsweredAll_L6_run net places FUEL (set_, 0, c_2, [set_]) (S.AnsweredAll_k6 κ)).trans (optC_congr (fun qy_6 => ?_))
      rcases qy_6 with qy_6 | qy_6
      · kernel_rfl
      · kernel_rfl
  rw [hu]
  exact (S.AnsweredAll_tree_nat (fun o => optC o (fun (r : List Int) => κ (.own 0) [.row (.ints .i64 r)]) none) net set_ places (fun d => some d) none).symm
noncomputable def S.AnsweredAll_s : D.Spec where
  keep := false
  pure := false
  add := true
  ds := [.int .i64, .invalid, .int .i64]
  sp := fun args h κ => match args, h with
    | [.ro false (.ints .i64 net), .int .i64 set_, .ro false (.ints .i64 places)], [] => optC (S.AnsweredAll_t net set_ places) (fun (r : List Int) => κ (.own 0) [.row (.ints .i64 r)]) none
    | _, _ => none
theorem S.AnsweredAll_ok : SpecOk Try.prog 73 S.AnsweredAll_s := by
  refine SpecOk.of TDok mixed (T := S.AnsweredAll_T) ?_ (ann := S.AnsweredAll_ann) Try.func73 rfl (by decide +kernel) ?_ ?_ ?_ ?_
  · intro p hp
    simp only [S.AnsweredAll_T, List.mem_cons, List.not_mem_nil, or_false] at hp
    rcases hp with rfl | rfl | rfl | rfl | rfl
    · exact S.EternalOk_ok
    · exact S.l9Lasts_ok
    · exact S.l1In_ok
    · exact S.l9Answer_ok
    · exact S.l8Moved_ok
  · intro args h κ r hh
    simp only [S.AnsweredAll_s] at hh
    split at hh
    · exact (S.AnsweredAll_den _ _ _ κ).trans hh
    · cases hh
  · intro args h κ r hh
    simp only [S.AnsweredAll_s] at hh ⊢
    split at hh
    · exact optC_law2 (F := fun (r : List Int) κ => κ (.own 0) [.row (.ints .i64 r)]) (fun b κ r hb => ⟨_, _, hb, fun _ => rfl⟩) hh
    · cases hh
  · intro hh; cases hh
  · intro _ args h κ r hh
    simp only [S.AnsweredAll_s] at hh
    split at hh
    · rfl
    · cases hh


-- loop.example/guardsonnets/spec.l17Last
noncomputable def S.l17Last_T : List (Nat × D.Spec) := [(59, S.FirstPost_s), (73, S.AnsweredAll_s)]
def S.l17Last_ann : Nat → List Nat × List Nat
  | _ => ([], [])
noncomputable def S.l17Last_F (args : List V) (h : List E) (κ : V → List E → R) : R := funC TD (tableK S.l17Last_T) S.l17Last_ann (drawAny TD (tableP S.l17Last_T)) FUEL Try.f47 args h κ
noncomputable def S.l17Last_tree {α : Type} (net : List Int) (places : List Int) (leaf0_ : Int → α) (fail_ : α) : α :=
  (optC (S.FirstPost_t net) (fun c_1 => (optC (S.AnsweredAll_t net c_1 places) (fun c_2 => (bif (↑c_2.length : Int) == 0 then (leaf0_ (-1)) else (bif decide (0 ≤ IntKind.i64.wrap ((↑c_2.length : Int) - 1)) && decide (IntKind.i64.wrap ((↑c_2.length : Int) - 1) < (↑c_2.length : Int)) then (bif decide ((IntKind.i64.wrap ((↑c_2.length : Int) - 1)).toNat < c_2.length) then (leaf0_ (eli c_2 (IntKind.i64.wrap ((↑c_2.length : Int) - 1)).toNat)) else fail_) else fail_))) fail_)) fail_)
theorem S.l17Last_tree_nat {α γ : Type} (g : α → γ) (net : List Int) (places : List Int) (leaf0_ : Int → α) (fail_ : α) : g (S.l17Last_tree net places leaf0_ fail_) = S.l17Last_tree net places (fun d => g (leaf0_ d)) (g fail_) := by
  unfold S.l17Last_tree; simp only [apply_cnd g, apply_optC g, apply_sumC g]
noncomputable def S.l17Last_t (net : List Int) (places : List Int) : Option (Int) := S.l17Last_tree net places (fun d => some d) none
theorem S.l17Last_den (net : List Int) (places : List Int) (κ : V → List E → R) : S.l17Last_F [.ro false (.ints .i64 net), .ro false (.ints .i64 places)] [] κ = optC (S.l17Last_t net places) (fun (r : Int) => κ (.int .i64 r) []) none := by
  have hu : S.l17Last_F [.ro false (.ints .i64 net), .ro false (.ints .i64 places)] [] κ = S.l17Last_tree net places (fun d => κ (.int .i64 d) []) none := by
    kernel_rfl
  rw [hu]
  exact (S.l17Last_tree_nat (fun o => optC o (fun (r : Int) => κ (.int .i64 r) []) none) net places (fun d => some d) none).symm
noncomputable def S.l17Last_s : D.Spec where
  keep := false
  pure := true
  add := true
  ds := [.int .i64, .int .i64]
  sp := fun args h κ => match args, h with
    | [.ro false (.ints .i64 net), .ro false (.ints .i64 places)], [] => optC (S.l17Last_t net places) (fun (r : Int) => κ (.int .i64 r) []) none
    | _, _ => none
theorem S.l17Last_ok : SpecOk Try.prog 47 S.l17Last_s := by
  refine SpecOk.of TDok mixed (T := S.l17Last_T) ?_ (ann := S.l17Last_ann) Try.func47 rfl (by decide +kernel) ?_ ?_ ?_ ?_
  · intro p hp
    simp only [S.l17Last_T, List.mem_cons, List.not_mem_nil, or_false] at hp
    rcases hp with rfl | rfl
    · exact S.FirstPost_ok
    · exact S.AnsweredAll_ok
  · intro args h κ r hh
    simp only [S.l17Last_s] at hh
    split at hh
    · exact (S.l17Last_den _ _ κ).trans hh
    · cases hh
  · intro args h κ r hh
    simp only [S.l17Last_s] at hh ⊢
    split at hh
    · exact optC_law2 (F := fun (r : Int) κ => κ (.int .i64 r) []) (fun b κ r hb => ⟨_, _, hb, fun _ => rfl⟩) hh
    · cases hh
  · intro _ args h κ r hh
    simp only [S.l17Last_s] at hh
    split at hh
    · exact ⟨rfl, fun _ => rfl⟩
    · cases hh
  · intro _ args h κ r hh
    simp only [S.l17Last_s] at hh
    split at hh
    · rfl
    · cases hh


-- loop.example/guardsonnets/spec.PostRise
noncomputable def S.PostRise_T : List (Nat × D.Spec) := [(46, S.NetOk_s), (25, S.LogPlaces_s), (47, S.l17Last_s), (56, S.LogOf_s)]
def S.PostRise_ann : Nat → List Nat × List Nat
  | 6 => ([0, 4, 6, 8, 9], [0, 4, 8])
  | _ => ([], [])
noncomputable def S.PostRise_F (args : List V) (h : List E) (κ : V → List E → R) : R := funC TD (tableK S.PostRise_T) S.PostRise_ann (drawAny TD (tableP S.PostRise_T)) FUEL Try.f36 args h κ
noncomputable def S.PostRise_L6 (n : Nat) (σ : St) (k : X → St → R) : R := iterC 0 (fun σ k => denC TD (tableK S.PostRise_T) S.PostRise_ann (drawAny TD (tableP S.PostRise_T)) 0 FUEL ((findLoop 6 (Try.f36.body.getD .skip)).getD .skip) σ k) [0, 4, 6, 8, 9] [0, 4, 8] n σ k
noncomputable def S.PostRise_k6 (κ : V → List E → R) : X → St → R := (afterC TD (tableK S.PostRise_T) S.PostRise_ann (drawAny TD (tableP S.PostRise_T)) 0 FUEL 6 (Try.f36.body.getD .skip) (finC TD 0 Try.f36 κ)).getD (fun _ _ => none)
noncomputable def S.PostRise_step6 {α : Type} (x0 : List Int) (x9 : Int) (r0_1 : Int) (r1 : List Int) (r2 : List Int) (next_ : Int × Int × (List Int) × (List Int) → α) (out0_ : Int × (List Int) → α) (fail_ : α) : α :=
  (bif decide (x9 < (↑r1.length : Int)) then (bif decide (0 ≤ x9) && decide (x9 < (↑r1.length : Int)) then (bif decide (x9.toNat < r1.length) then (bif decide (eli r1 x9.toNat < (↑x0.length : Int)) then (bif decide (0 ≤ x9) && decide (x9 < (↑r1.length : Int)) then (bif decide (x9.toNat < r1.length) then (bif small (r2 ++ [eli r1 x9.toNat]).length then (next_ (IntKind.i64.wrap (x9 + 1), r0_1, r1, r2 ++ [eli r1 x9.toNat])) else fail_) else fail_) else fail_) else (out0_ (r0_1, r2))) else fail_) else fail_) else (out0_ (r0_1, r2)))
theorem S.PostRise_step6_nat {α γ : Type} (g : α → γ) (x0 : List Int) (x9 : Int) (r0_1 : Int) (r1 : List Int) (r2 : List Int) (next_ : Int × Int × (List Int) × (List Int) → α) (out0_ : Int × (List Int) → α) (fail_ : α) : g (S.PostRise_step6 x0 x9 r0_1 r1 r2 next_ out0_ fail_) = S.PostRise_step6 x0 x9 r0_1 r1 r2 (fun s => g (next_ s)) (fun d => g (out0_ d)) (g fail_) := by
  unfold S.PostRise_step6; simp only [apply_cnd g, apply_optC g, apply_sumC g]
noncomputable def S.PostRise_run6 (x0 : List Int) : Nat → Int × Int × (List Int) × (List Int) → Option (Int × (List Int))
  | 0, _ => none
  | n + 1, s_ => S.PostRise_step6 x0 s_.1 s_.2.1 s_.2.2.1 s_.2.2.2 (S.PostRise_run6 x0 n) (fun d => some d) none
theorem S.PostRise_L6_run (x0 : List Int) (n : Nat) (s_ : Int × Int × (List Int) × (List Int)) (k : X → St → R) : S.PostRise_L6 n { n := 51, t := [(0, (.ro false (.ints .i64 x0))), (4, (.ptr 0 0)), (6, (.own 1)), (8, (.own 2)), (9, (.int .i64 s_.1))], h := [.cells [.nil, (.int .i64 s_.2.1), .nil], .row (.ints .i64 s_.2.2.1), .row (.ints .i64 s_.2.2.2)] } k = optC (S.PostRise_run6 x0 n s_) (fun (r : Int × (List Int)) => k (.exit 0) { n := 51, t := [(0, (.ro false (.ints .i64 x0))), (4, (.ptr 0 0)), (8, (.own 1))], h := [.cells [.nil, (.int .i64 r.1), .nil], .row (.ints .i64 r.2)] }) none := by
  induction n generalizing s_ with
  | zero => rfl
  | succ n ih =>
    have hu : S.PostRise_L6 (n + 1) { n := 51, t := [(0, (.ro false (.ints .i64 x0))), (4, (.ptr 0 0)), (6, (.own 1)), (8, (.own 2)), (9, (.int .i64 s_.1))], h := [.cells [.nil, (.int .i64 s_.2.1), .nil], .row (.ints .i64 s_.2.2.1), .row (.ints .i64 s_.2.2.2)] } k = S.PostRise_step6 x0 s_.1 s_.2.1 s_.2.2.1 s_.2.2.2 (fun s_ => S.PostRise_L6 n { n := 51, t := [(0, (.ro false (.ints .i64 x0))), (4, (.ptr 0 0)), (6, (.own 1)), (8, (.own 2)), (9, (.int .i64 s_.1))], h := [.cells [.nil, (.int .i64 s_.2.1), .nil], .row (.ints .i64 s_.2.2.1), .row (.ints .i64 s_.2.2.2)] } k) (fun d => k (.exit 0) { n := 51, t := [(0, (.ro false (.ints .i64 x0))), (4, (.ptr 0 0)), (8, (.own 1))], h := [.cells [.nil, (.int .i64 d.1), .nil], .row (.ints .i64 d.2)] }) none := by
      kernel_rfl
    have hs : (fun s_ : Int × Int × (List Int) × (List Int) => S.PostRise_L6 n { n := 51, t := [(0, (.ro false (.ints .i64 x0))), (4, (.ptr 0 0)), (6, (.own 1)), (8, (.own 2)), (9, (.int .i64 s_.1))], h := [.cells [.nil, (.int .i64 s_.2.1), .nil], .row (.ints .i64 s_.2.2.1), .row (.ints .i64 s_.2.2.2)] } k) = fun s_ => optC (S.PostRise_run6 x0 n s_) (fun (r : Int × (List Int)) => k (.exit 0) { n := 51, t := [(0, (.ro false (.ints .i64 x0))), (4, (.ptr 0 0)), (8, (.own 1))], h := [.cells [.nil, (.int .i64 r.1), .nil], .row (.ints .i64 r.2)] }) none := funext ih
    rw [hu, hs]
    exact (S.PostRise_step6_nat (fun o => optC o (fun (r : Int × (List Int)) => k (.exit 0) { n := 51, t := [(0, (.ro false (.ints .i64 x0))), (4, (.ptr 0 0)), (8, (.own 1))], h := [.cells [.nil, (.int .i64 r.1), .nil], .row (.ints .i64 r.2)] }) none) x0 s_.1 s_.2.1 s_.2.2.1 s_.2.2.2 (S.PostRise_run6 x0 n) (fun d => some d) none).symm
noncomputable def S.PostRise_tree {α : Type} (net : List Int) (log : List Int) (leaf0_ : Int × Bool × (List Int) × (List Int) → α) (fail_ : α) : α :=
  (optC (S.NetOk_t net) (fun c_1 => (bif !c_1 then (leaf0_ (0, false, [], [])) else (optC (S.LogPlaces_t log) (fun c_2 => (optC (S.PostRise_run6 net FUEL (0, 0, c_2.snd, [])) (fun qy_3 => (bif small ([] ++ net).length then (optC (S.l17Last_t net qy_3.2) (fun c_4 => (optC (S.LogOf_t qy_3.2) (fun c_5 => (leaf0_ (c_4, true, [] ++ net, c_5))) fail_)) fail_) else fail_)) fail_)) fail_))) fail_)
theorem S.PostRise_tree_nat {α γ : Type} (g : α → γ) (net : List Int) (log : List Int) (leaf0_ : Int × Bool × (List Int) × (List Int) → α) (fail_ : α) : g (S.PostRise_tree net log leaf0_ fail_) = S.PostRise_tree net log (fun d => g (leaf0_ d)) (g fail_) := by
  unfold S.PostRise_tree; simp only [apply_cnd g, apply_optC g, apply_sumC g]
noncomputable def S.PostRise_t (net : List Int) (log : List Int) : Option (Int × Bool × (List Int) × (List Int)) := S.PostRise_tree net log (fun d => some d) none
theorem S.PostRise_den (net : List Int) (log : List Int) (κ : V → List E → R) : S.PostRise_F [.ro false (.ints .i64 net), .ro false (.ints .u8 log)] [] κ = optC (S.PostRise_t net log) (fun (r : Int × Bool × (List Int) × (List Int)) => κ (.tup [(.agg [(.own 0), (.int .i64 r.1), (.own 1)]), (.bool r.2.1)]) [.row (.ints .i64 r.2.2.1), .row (.ints .u8 r.2.2.2)]) none := by
  have hu : S.PostRise_F [.ro false (.ints .i64 net), .ro false (.ints .u8 log)] [] κ = S.PostRise_tree net log (fun d => κ (.tup [(.agg [(.own 0), (.int .i64 d.1), (.own 1)]), (.bool d.2.1)]) [.row (.ints .i64 d.2.2.1), .row (.ints .u8 d.2.2.2)]) none := by
    refine Eq.trans (show S.PostRise_F [.ro false (.ints .i64 net), .ro false (.ints .u8 log)] [] κ = (optC (S.NetOk_t net) (fun c_1 => (bif !c_1 then (κ (.tup [(.agg [(.own 0), (.int .i64 0), (.own 1)]), (.bool false)]) [.row (.ints .i64 ([])), .row (.ints .u8 ([]))]) else (optC (S.LogPlaces_t log) (fun c_2 => (S.PostRise_L6 FUEL { n := 51, t := [(0, (.ro false (.ints .i64 net))), (4, (.ptr 0 0)), (6, (.own 1)), (8, (.own 2)), (9, (.int .i64 0))], h := [.cells [.nil, (.int .i64 0), .nil], .row (.ints .i64 c_2.snd), .row (.ints .i64 ([]))] } (S.PostRise_k6 κ))) none))) none) by kernel_rfl) ?_
    refine optC_congr (fun c_1 => ?_)
    refine cnd_congr ?_ ?_
    · kernel_rfl
    · refine optC_congr (fun c_2 => ?_)
      refine (S.PostRise_L6_run net FUEL (0, 0, c_2.snd, []) (S.PostRise_k6 κ)).trans (optC_congr (fun qy_3 => ?_))
      kernel_rfl
  rw [hu]
  exact (S.PostRise_tree_nat (fun o => optC o (fun (r : Int × Bool × (List Int) × (List Int)) => κ (.tup [(.agg [(.own 0), (.int .i64 r.1), (.own 1)]), (.bool r.2.1)]) [.row (.ints .i64 r.2.2.1), .row (.ints .u8 r.2.2.2)]) none) net log (fun d => some d) none).symm
noncomputable def S.PostRise_s : D.Spec where
  keep := false
  pure := false
  add := true
  ds := [.int .i64, .int .u8]
  sp := fun args h κ => match args, h with
    | [.ro false (.ints .i64 net), .ro false (.ints .u8 log)], [] => optC (S.PostRise_t net log) (fun (r : Int × Bool × (List Int) × (List Int)) => κ (.tup [(.agg [(.own 0), (.int .i64 r.1), (.own 1)]), (.bool r.2.1)]) [.row (.ints .i64 r.2.2.1), .row (.ints .u8 r.2.2.2)]) none
    | _, _ => none
theorem S.PostRise_ok : SpecOk Try.prog 36 S.PostRise_s := by
  refine SpecOk.of TDok mixed (T := S.PostRise_T) ?_ (ann := S.PostRise_ann) Try.func36 rfl (by decide +kernel) ?_ ?_ ?_ ?_
  · intro p hp
    simp only [S.PostRise_T, List.mem_cons, List.not_mem_nil, or_false] at hp
    rcases hp with rfl | rfl | rfl | rfl
    · exact S.NetOk_ok
    · exact S.LogPlaces_ok
    · exact S.l17Last_ok
    · exact S.LogOf_ok
  · intro args h κ r hh
    simp only [S.PostRise_s] at hh
    split at hh
    · exact (S.PostRise_den _ _ κ).trans hh
    · cases hh
  · intro args h κ r hh
    simp only [S.PostRise_s] at hh ⊢
    split at hh
    · exact optC_law2 (F := fun (r : Int × Bool × (List Int) × (List Int)) κ => κ (.tup [(.agg [(.own 0), (.int .i64 r.1), (.own 1)]), (.bool r.2.1)]) [.row (.ints .i64 r.2.2.1), .row (.ints .u8 r.2.2.2)]) (fun b κ r hb => ⟨_, _, hb, fun _ => rfl⟩) hh
    · cases hh
  · intro hh; cases hh
  · intro _ args h κ r hh
    simp only [S.PostRise_s] at hh
    split at hh
    · rfl
    · cases hh


-- loop.example/guardsonnets/spec.l20Post
noncomputable def S.l20Post_T : List (Nat × D.Spec) := [(64, S.l20Net_s), (51, S.l20Rd_pick_s), (65, S.l20Places_s), (56, S.LogOf_s), (36, S.PostRise_s), (66, S.l20Rd_odd_s)]
def S.l20Post_ann : Nat → List Nat × List Nat
  | _ => ([], [])
noncomputable def S.l20Post_F (args : List V) (h : List E) (κ : V → List E → R) : R := funC TD (tableK S.l20Post_T) S.l20Post_ann (drawAny TD (tableP S.l20Post_T)) FUEL Try.f40 args h κ
noncomputable def S.l20Post_tree {α : Type} (rb : List Int) (rp : Int) (n_ : Int) (leaf0_ : Int × (List Int) × Int × (List Int) × (List Int) → α) (leaf1_ : Int × Nat × Nat × (List Int) × Int × (List Int) × (List Int) → α) (fail_ : α) : α :=
  (optC (S.l20Net_t rb rp n_) (fun c_1 => (optC (S.l20Rd_pick_t c_1.fst c_1.snd.fst 20) (fun c_2 => (optC (S.l20Places_t c_2.snd.fst c_2.snd.snd (↑c_1.snd.snd.length : Int) (IntKind.i64.wrap (8 + IntKind.i64.wrap (IntKind.i64.wrap (c_2.fst.tdiv 19) * 32)))) (fun c_3 => (optC (S.LogOf_t c_3.snd.snd) (fun c_4 => (optC (S.PostRise_t c_1.snd.snd c_4) (fun c_5 => (optC (S.l20Rd_odd_t c_3.fst c_3.snd.fst n_) (fun c_6 => (bif c_6.fst then (optC (S.l20Rd_pick_t c_6.snd.fst c_6.snd.snd 3) (fun c_7 => (bif c_7.fst == 0 then (optC (S.l20Rd_pick_t c_7.snd.fst c_7.snd.snd 64) (fun c_8 => (optC (S.l20Rd_pick_t c_8.snd.fst c_8.snd.snd 8) (fun c_9 => (leaf0_ (IntKind.i64.wrap (c_8.fst - IntKind.i64.wrap (c_9.fst.tdiv 7)), c_9.snd.fst, c_9.snd.snd, c_5.snd.snd.fst, c_5.snd.snd.snd))) fail_)) fail_) else (bif c_7.fst == 1 then (optC (S.l20Rd_pick_t c_7.snd.fst c_7.snd.snd 256) (fun c_10 => (bif small (c_5.snd.snd.snd ++ [IntKind.u8.wrap c_10.fst]).length then (leaf0_ (c_5.fst, c_10.snd.fst, c_10.snd.snd, c_5.snd.snd.fst, c_5.snd.snd.snd ++ [IntKind.u8.wrap c_10.fst])) else fail_)) fail_) else (bif decide (0 ≤ IntKind.i64.wrap (IntKind.i64.wrap ((↑c_5.snd.snd.snd.length : Int).tdiv 6) * 3)) && decide (IntKind.i64.wrap (IntKind.i64.wrap ((↑c_5.snd.snd.snd.length : Int).tdiv 6) * 3) ≤ (↑c_5.snd.snd.snd.length : Int)) then (leaf1_ (c_5.fst, 0, (IntKind.i64.wrap (IntKind.i64.wrap ((↑c_5.snd.snd.snd.length : Int).tdiv 6) * 3)).toNat, c_7.snd.fst, c_7.snd.snd, c_5.snd.snd.fst, c_5.snd.snd.snd)) else fail_)))) fail_) else (leaf0_ (c_5.fst, c_6.snd.fst, c_6.snd.snd, c_5.snd.snd.fst, c_5.snd.snd.snd)))) fail_)) fail_)) fail_)) fail_)) fail_)) fail_)
theorem S.l20Post_tree_nat {α γ : Type} (g : α → γ) (rb : List Int) (rp : Int) (n_ : Int) (leaf0_ : Int × (List Int) × Int × (List Int) × (List Int) → α) (leaf1_ : Int × Nat × Nat × (List Int) × Int × (List Int) × (List Int) → α) (fail_ : α) : g (S.l20Post_tree rb rp n_ leaf0_ leaf1_ fail_) = S.l20Post_tree rb rp n_ (fun d => g (leaf0_ d)) (fun d => g (leaf1_ d)) (g fail_) := by
  unfold S.l20Post_tree; simp only [apply_cnd g, apply_optC g, apply_sumC g]
noncomputable def S.l20Post_t (rb : List Int) (rp : Int) (n_ : Int) : Option ((Int × (List Int) × Int × (List Int) × (List Int)) ⊕ (Int × Nat × Nat × (List Int) × Int × (List Int) × (List Int))) := S.l20Post_tree rb rp n_ (fun d => some ((Sum.inl d))) (fun d => some ((Sum.inr d))) none
theorem S.l20Post_den (rb : List Int) (rp : Int) (n_ : Int) (κ : V → List E → R) : S.l20Post_F [.ptr 0 0, .int .i64 n_] [.cells [.ro true (.ints .u8 rb), .int .i64 rp]] κ = optC (S.l20Post_t rb rp n_) (fun (r : (Int × (List Int) × Int × (List Int) × (List Int)) ⊕ (Int × Nat × Nat × (List Int) × Int × (List Int) × (List Int))) => (sumC r (fun (r : Int × (List Int) × Int × (List Int) × (List Int)) => κ (.agg [(.own 1), (.int .i64 r.1), (.own 2)]) [.cells [(.ro true (.ints .u8 r.2.1)), (.int .i64 r.2.2.1)], .row (.ints .i64 r.2.2.2.1), .row (.ints .u8 r.2.2.2.2)]) (fun (r : Int × Nat × Nat × (List Int) × Int × (List Int) × (List Int)) => κ (.agg [(.own 1), (.int .i64 r.1), (.sub 2 r.2.1 r.2.2.1)]) [.cells [(.ro true (.ints .u8 r.2.2.2.1)), (.int .i64 r.2.2.2.2.1)], .row (.ints .i64 r.2.2.2.2.2.1), .row (.ints .u8 r.2.2.2.2.2.2)]))) none := by
  have hu : S.l20Post_F [.ptr 0 0, .int .i64 n_] [.cells [.ro true (.ints .u8 rb), .int .i64 rp]] κ = S.l20Post_tree rb rp n_ (fun d => κ (.agg [(.own 1), (.int .i64 d.1), (.own 2)]) [.cells [(.ro true (.ints .u8 d.2.1)), (.int .i64 d.2.2.1)], .row (.ints .i64 d.2.2.2.1), .row (.ints .u8 d.2.2.2.2)]) (fun d => κ (.agg [(.own 1), (.int .i64 d.1), (.sub 2 d.2.1 d.2.2.1)]) [.cells [(.ro true (.ints .u8 d.2.2.2.1)), (.int .i64 d.2.2.2.2.1)], .row (.ints .i64 d.2.2.2.2.2.1), .row (.ints .u8 d.2.2.2.2.2.2)]) none := by
    kernel_rfl
  rw [hu]
  exact (S.l20Post_tree_nat (fun o => optC o (fun (r : (Int × (List Int) × Int × (List Int) × (List Int)) ⊕ (Int × Nat × Nat × (List Int) × Int × (List Int) × (List Int))) => (sumC r (fun (r : Int × (List Int) × Int × (List Int) × (List Int)) => κ (.agg [(.own 1), (.int .i64 r.1), (.own 2)]) [.cells [(.ro true (.ints .u8 r.2.1)), (.int .i64 r.2.2.1)], .row (.ints .i64 r.2.2.2.1), .row (.ints .u8 r.2.2.2.2)]) (fun (r : Int × Nat × Nat × (List Int) × Int × (List Int) × (List Int)) => κ (.agg [(.own 1), (.int .i64 r.1), (.sub 2 r.2.1 r.2.2.1)]) [.cells [(.ro true (.ints .u8 r.2.2.2.1)), (.int .i64 r.2.2.2.2.1)], .row (.ints .i64 r.2.2.2.2.2.1), .row (.ints .u8 r.2.2.2.2.2.2)]))) none) rb rp n_ (fun d => some ((Sum.inl d))) (fun d => some ((Sum.inr d))) none).symm
noncomputable def S.l20Post_s : D.Spec where
  keep := false
  pure := false
  add := false
  ds := [.invalid, .invalid]
  sp := fun args h κ => match args, h with
    | [.ptr 0 0, .int .i64 n_], [.cells [.ro true (.ints .u8 rb), .int .i64 rp]] => optC (S.l20Post_t rb rp n_) (fun (r : (Int × (List Int) × Int × (List Int) × (List Int)) ⊕ (Int × Nat × Nat × (List Int) × Int × (List Int) × (List Int))) => (sumC r (fun (r : Int × (List Int) × Int × (List Int) × (List Int)) => κ (.agg [(.own 1), (.int .i64 r.1), (.own 2)]) [.cells [(.ro true (.ints .u8 r.2.1)), (.int .i64 r.2.2.1)], .row (.ints .i64 r.2.2.2.1), .row (.ints .u8 r.2.2.2.2)]) (fun (r : Int × Nat × Nat × (List Int) × Int × (List Int) × (List Int)) => κ (.agg [(.own 1), (.int .i64 r.1), (.sub 2 r.2.1 r.2.2.1)]) [.cells [(.ro true (.ints .u8 r.2.2.2.1)), (.int .i64 r.2.2.2.2.1)], .row (.ints .i64 r.2.2.2.2.2.1), .row (.ints .u8 r.2.2.2.2.2.2)]))) none
    | _, _ => none
theorem S.l20Post_ok : SpecOk Try.prog 40 S.l20Post_s := by
  refine SpecOk.of TDok mixed (T := S.l20Post_T) ?_ (ann := S.l20Post_ann) Try.func40 rfl (by decide +kernel) ?_ ?_ ?_ ?_
  · intro p hp
    simp only [S.l20Post_T, List.mem_cons, List.not_mem_nil, or_false] at hp
    rcases hp with rfl | rfl | rfl | rfl | rfl | rfl
    · exact S.l20Net_ok
    · exact S.l20Rd_pick_ok
    · exact S.l20Places_ok
    · exact S.LogOf_ok
    · exact S.PostRise_ok
    · exact S.l20Rd_odd_ok
  · intro args h κ r hh
    simp only [S.l20Post_s] at hh
    split at hh
    · exact (S.l20Post_den _ _ _ κ).trans hh
    · cases hh
  · intro args h κ r hh
    simp only [S.l20Post_s] at hh ⊢
    split at hh
    · exact optC_law2 (F := fun (r : (Int × (List Int) × Int × (List Int) × (List Int)) ⊕ (Int × Nat × Nat × (List Int) × Int × (List Int) × (List Int))) κ => (sumC r (fun (r : Int × (List Int) × Int × (List Int) × (List Int)) => κ (.agg [(.own 1), (.int .i64 r.1), (.own 2)]) [.cells [(.ro true (.ints .u8 r.2.1)), (.int .i64 r.2.2.1)], .row (.ints .i64 r.2.2.2.1), .row (.ints .u8 r.2.2.2.2)]) (fun (r : Int × Nat × Nat × (List Int) × Int × (List Int) × (List Int)) => κ (.agg [(.own 1), (.int .i64 r.1), (.sub 2 r.2.1 r.2.2.1)]) [.cells [(.ro true (.ints .u8 r.2.2.2.1)), (.int .i64 r.2.2.2.2.1)], .row (.ints .i64 r.2.2.2.2.2.1), .row (.ints .u8 r.2.2.2.2.2.2)]))) (fun b κ r hb => by rcases b with b | b <;> exact ⟨_, _, hb, fun _ => rfl⟩) hh
    · cases hh
  · intro hh; cases hh
  · intro hh; cases hh



end Go.Proofs.Ytgpgifpblchjjaa
