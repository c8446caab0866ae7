/- Twins of the translated functions, with their proofs. Conditions: none. -/
import Derived.Test.YtaidofcjijkbjaaBzTab
set_option linter.unusedVariables false
set_option linter.unusedSimpArgs false
set_option linter.unusedSectionVars false
namespace Go.Proofs.Ytaidofcjijkbjaa
open D Go.RowKit
-- loop.example/guardsonnets/spec.l20Open
noncomputable def S.l20Open_T : List (Nat × D.Spec) := []
def S.l20Open_ann : Nat → List Nat × List Nat
  | _ => ([], [])
noncomputable def S.l20Open_F (args : List V) (h : List E) (κ : V → List E → R) : R := funC TD (tableK S.l20Open_T) S.l20Open_ann (drawOk TD (tableP S.l20Open_T)) FUEL Try.f37 args h κ
noncomputable def S.l20Open_tree {α : Type} (code : List Int) (leaf0_ : (List Int) × Int → α) (fail_ : α) : α :=
  (bif decide ((↑code.length : Int) > 2000) then (bif decide (2000 ≤ (↑code.length : Int)) then (leaf0_ (List.take (Int.toNat 2000) (List.drop 0 code), 0)) else fail_) else (leaf0_ (code, 0)))
theorem S.l20Open_tree_nat {α γ : Type} (g : α → γ) (code : List Int) (leaf0_ : (List Int) × Int → α) (fail_ : α) : g (S.l20Open_tree code leaf0_ fail_) = S.l20Open_tree code (fun d => g (leaf0_ d)) (g fail_) := by
  unfold S.l20Open_tree; simp only [apply_cnd g, apply_optC g, apply_sumC g]
noncomputable def S.l20Open_t (code : List Int) : Option ((List Int) × Int) := S.l20Open_tree code (fun d => some d) none
theorem S.l20Open_den (code : List Int) (κ : V → List E → R) : S.l20Open_F [.ro true (.ints .u8 code)] [] κ = optC (S.l20Open_t code) (fun (r : (List Int) × Int) => κ (.ptr 0 0) [.cells [(.ro true (.ints .u8 r.1)), (.int .i64 r.2)]]) none := by
  have hu : S.l20Open_F [.ro true (.ints .u8 code)] [] κ = S.l20Open_tree code (fun d => κ (.ptr 0 0) [.cells [(.ro true (.ints .u8 d.1)), (.int .i64 d.2)]]) none := by
    kernel_rfl
  rw [hu]
  exact (S.l20Open_tree_nat (fun o => optC o (fun (r : (List Int) × Int) => κ (.ptr 0 0) [.cells [(.ro true (.ints .u8 r.1)), (.int .i64 r.2)]]) none) code (fun d => some d) none).symm
noncomputable def S.l20Open_s : D.Spec where
  keep := true
  pure := false
  add := true
  ds := [.int .u8]
  sp := fun args h κ => match args, h with
    | [.ro true (.ints .u8 code)], [] => optC (S.l20Open_t code) (fun (r : (List Int) × Int) => κ (.ptr 0 0) [.cells [(.ro true (.ints .u8 r.1)), (.int .i64 r.2)]]) none
    | _, _ => none
theorem S.l20Open_ok : SpecOk Try.prog 37 S.l20Open_s := by
  refine SpecOk.of TDok mixed (T := S.l20Open_T) ?_ (ann := S.l20Open_ann) Try.func37 rfl (by decide +kernel) ?_ ?_ ?_ ?_
  · intro p hp; cases hp
  · intro args h κ r hh
    simp only [S.l20Open_s] at hh
    split at hh
    · exact (S.l20Open_den _ κ).trans hh
    · cases hh
  · intro args h κ r hh
    simp only [S.l20Open_s] at hh ⊢
    split at hh
    · exact optC_law2 (F := fun (r : (List Int) × Int) κ => κ (.ptr 0 0) [.cells [(.ro true (.ints .u8 r.1)), (.int .i64 r.2)]]) (fun b κ r hb => ⟨_, _, hb, fun _ => rfl⟩) hh
    · cases hh
  · intro hh; cases hh
  · intro _ args h κ r hh
    simp only [S.l20Open_s] at hh
    split at hh
    · rfl
    · cases hh

-- (*loop.example/guardsonnets/spec.l20Rd).pick
noncomputable def S.l20Rd_pick_T : List (Nat × D.Spec) := []
def S.l20Rd_pick_ann : Nat → List Nat × List Nat
  | _ => ([], [])
noncomputable def S.l20Rd_pick_F (args : List V) (h : List E) (κ : V → List E → R) : R := funC TD (tableK S.l20Rd_pick_T) S.l20Rd_pick_ann (drawOk TD (tableP S.l20Rd_pick_T)) FUEL Try.f39 args h κ
noncomputable def S.l20Rd_pick_tree {α : Type} (rb : List Int) (rp : Int) (n_ : Int) (leaf0_ : Int × (List Int) × Int → α) (fail_ : α) : α :=
  (bif decide (n_ < 1) then (leaf0_ (0, rb, IntKind.i64.wrap (rp + 1))) else (bif (↑rb.length : Int) == 0 then (leaf0_ (0, rb, IntKind.i64.wrap (rp + 1))) else (bif decide (IntKind.i64.wrap (IntKind.i64.wrap (rp + 1) - 1) < (↑rb.length : Int)) then (bif decide (0 ≤ IntKind.i64.wrap (IntKind.i64.wrap (rp + 1) - 1)) && decide (IntKind.i64.wrap (IntKind.i64.wrap (rp + 1) - 1) < (↑rb.length : Int)) then (bif n_ == 0 then fail_ else (leaf0_ ((IntKind.i64.wrap (eli rb (IntKind.i64.wrap (IntKind.i64.wrap (rp + 1) - 1)).toNat)).tmod n_, rb, IntKind.i64.wrap (rp + 1)))) else fail_) else (bif (↑rb.length : Int) == 0 then fail_ else (bif decide (0 ≤ (IntKind.i64.wrap (IntKind.i64.wrap (rp + 1) - 1)).tmod (↑rb.length : Int)) && decide ((IntKind.i64.wrap (IntKind.i64.wrap (rp + 1) - 1)).tmod (↑rb.length : Int) < (↑rb.length : Int)) then (bif (↑rb.length : Int) == 0 then fail_ else (bif decide (0 ≤ (IntKind.i64.wrap (IntKind.i64.wrap (IntKind.i64.wrap (IntKind.i64.wrap (rp + 1) - 1) * 7) + 3)).tmod (↑rb.length : Int)) && decide ((IntKind.i64.wrap (IntKind.i64.wrap (IntKind.i64.wrap (IntKind.i64.wrap (rp + 1) - 1) * 7) + 3)).tmod (↑rb.length : Int) < (↑rb.length : Int)) then (bif (↑rb.length : Int) == 0 then fail_ else (bif n_ == 0 then fail_ else (leaf0_ ((bits BinOp.xor IntKind.i64 (IntKind.i64.wrap (IntKind.i64.wrap (IntKind.i64.wrap (IntKind.i64.wrap (IntKind.i64.wrap (eli rb ((IntKind.i64.wrap (IntKind.i64.wrap (rp + 1) - 1)).tmod (↑rb.length : Int)).toNat) * 131) + IntKind.i64.wrap (IntKind.i64.wrap (eli rb ((IntKind.i64.wrap (IntKind.i64.wrap (IntKind.i64.wrap (IntKind.i64.wrap (rp + 1) - 1) * 7) + 3)).tmod (↑rb.length : Int)).toNat) * 1117)) + IntKind.i64.wrap (IntKind.i64.wrap (IntKind.i64.wrap (rp + 1) - 1) * 29)) + IntKind.i64.wrap (IntKind.i64.wrap ((IntKind.i64.wrap (IntKind.i64.wrap (rp + 1) - 1)).tdiv (↑rb.length : Int)) * 53))) (IntKind.i64.wrap ((IntKind.i64.wrap (IntKind.i64.wrap (IntKind.i64.wrap (IntKind.i64.wrap (IntKind.i64.wrap (eli rb ((IntKind.i64.wrap (IntKind.i64.wrap (rp + 1) - 1)).tmod (↑rb.length : Int)).toNat) * 131) + IntKind.i64.wrap (IntKind.i64.wrap (eli rb ((IntKind.i64.wrap (IntKind.i64.wrap (IntKind.i64.wrap (IntKind.i64.wrap (rp + 1) - 1) * 7) + 3)).tmod (↑rb.length : Int)).toNat) * 1117)) + IntKind.i64.wrap (IntKind.i64.wrap (IntKind.i64.wrap (rp + 1) - 1) * 29)) + IntKind.i64.wrap (IntKind.i64.wrap ((IntKind.i64.wrap (IntKind.i64.wrap (rp + 1) - 1)).tdiv (↑rb.length : Int)) * 53))).tdiv 64))).tmod n_, rb, IntKind.i64.wrap (rp + 1))))) else fail_)) else fail_)))))
theorem S.l20Rd_pick_tree_nat {α γ : Type} (g : α → γ) (rb : List Int) (rp : Int) (n_ : Int) (leaf0_ : Int × (List Int) × Int → α) (fail_ : α) : g (S.l20Rd_pick_tree rb rp n_ leaf0_ fail_) = S.l20Rd_pick_tree rb rp n_ (fun d => g (leaf0_ d)) (g fail_) := by
  unfold S.l20Rd_pick_tree; simp only [apply_cnd g, apply_optC g, apply_sumC g]
noncomputable def S.l20Rd_pick_t (rb : List Int) (rp : Int) (n_ : Int) : Option (Int × (List Int) × Int) := S.l20Rd_pick_tree rb rp n_ (fun d => some d) none
theorem S.l20Rd_pick_den (rb : List Int) (rp : Int) (n_ : Int) (κ : V → List E → R) : S.l20Rd_pick_F [.ptr 0 0, .int .i64 n_] [.cells [.ro true (.ints .u8 rb), .int .i64 rp]] κ = optC (S.l20Rd_pick_t rb rp n_) (fun (r : Int × (List Int) × Int) => κ (.int .i64 r.1) [.cells [(.ro true (.ints .u8 r.2.1)), (.int .i64 r.2.2)]]) none := by
  have hu : S.l20Rd_pick_F [.ptr 0 0, .int .i64 n_] [.cells [.ro true (.ints .u8 rb), .int .i64 rp]] κ = S.l20Rd_pick_tree rb rp n_ (fun d => κ (.int .i64 d.1) [.cells [(.ro true (.ints .u8 d.2.1)), (.int .i64 d.2.2)]]) none := by
    kernel_rfl
  rw [hu]
  exact (S.l20Rd_pick_tree_nat (fun o => optC o (fun (r : Int × (List Int) × Int) => κ (.int .i64 r.1) [.cells [(.ro true (.ints .u8 r.2.1)), (.int .i64 r.2.2)]]) none) rb rp n_ (fun d => some d) none).symm
noncomputable def S.l20Rd_pick_s : D.Spec where
  keep := false
  pure := false
  add := false
  ds := [.invalid, .invalid]
  sp := fun args h κ => match args, h with
    | [.ptr 0 0, .int .i64 n_], [.cells [.ro true (.ints .u8 rb), .int .i64 rp]] => optC (S.l20Rd_pick_t rb rp n_) (fun (r : Int × (List Int) × Int) => κ (.int .i64 r.1) [.cells [(.ro true (.ints .u8 r.2.1)), (.int .i64 r.2.2)]]) none
    | _, _ => none
theorem S.l20Rd_pick_ok : SpecOk Try.prog 39 S.l20Rd_pick_s := by
  refine SpecOk.of TDok mixed (T := S.l20Rd_pick_T) ?_ (ann := S.l20Rd_pick_ann) Try.func39 rfl (by decide +kernel) ?_ ?_ ?_ ?_
  · intro p hp; cases hp
  · intro args h κ r hh
    simp only [S.l20Rd_pick_s] at hh
    split at hh
    · exact (S.l20Rd_pick_den _ _ _ κ).trans hh
    · cases hh
  · intro args h κ r hh
    simp only [S.l20Rd_pick_s] at hh ⊢
    split at hh
    · exact optC_law2 (F := fun (r : Int × (List Int) × Int) κ => κ (.int .i64 r.1) [.cells [(.ro true (.ints .u8 r.2.1)), (.int .i64 r.2.2)]]) (fun b κ r hb => ⟨_, _, hb, fun _ => rfl⟩) hh
    · cases hh
  · intro hh; cases hh
  · intro hh; cases hh

-- (*loop.example/guardsonnets/spec.l20Rd).odd
noncomputable def S.l20Rd_odd_T : List (Nat × D.Spec) := [(39, S.l20Rd_pick_s)]
def S.l20Rd_odd_ann : Nat → List Nat × List Nat
  | _ => ([], [])
noncomputable def S.l20Rd_odd_F (args : List V) (h : List E) (κ : V → List E → R) : R := funC TD (tableK S.l20Rd_odd_T) S.l20Rd_odd_ann (drawOk TD (tableP S.l20Rd_odd_T)) FUEL Try.f71 args h κ
noncomputable def S.l20Rd_odd_tree {α : Type} (rb : List Int) (rp : Int) (n_ : Int) (leaf0_ : Bool × (List Int) × Int → α) (fail_ : α) : α :=
  (bif decide (n_ > 0) then (optC (S.l20Rd_pick_t rb rp n_) (fun c_1 => (leaf0_ (c_1.fst == IntKind.i64.wrap (n_ - 1), c_1.snd.fst, c_1.snd.snd))) fail_) else (leaf0_ (false, rb, rp)))
theorem S.l20Rd_odd_tree_nat {α γ : Type} (g : α → γ) (rb : List Int) (rp : Int) (n_ : Int) (leaf0_ : Bool × (List Int) × Int → α) (fail_ : α) : g (S.l20Rd_odd_tree rb rp n_ leaf0_ fail_) = S.l20Rd_odd_tree rb rp n_ (fun d => g (leaf0_ d)) (g fail_) := by
  unfold S.l20Rd_odd_tree; simp only [apply_cnd g, apply_optC g, apply_sumC g]
noncomputable def S.l20Rd_odd_t (rb : List Int) (rp : Int) (n_ : Int) : Option (Bool × (List Int) × Int) := S.l20Rd_odd_tree rb rp n_ (fun d => some d) none
theorem S.l20Rd_odd_den (rb : List Int) (rp : Int) (n_ : Int) (κ : V → List E → R) : S.l20Rd_odd_F [.ptr 0 0, .int .i64 n_] [.cells [.ro true (.ints .u8 rb), .int .i64 rp]] κ = optC (S.l20Rd_odd_t rb rp n_) (fun (r : Bool × (List Int) × Int) => κ (.bool r.1) [.cells [(.ro true (.ints .u8 r.2.1)), (.int .i64 r.2.2)]]) none := by
  have hu : S.l20Rd_odd_F [.ptr 0 0, .int .i64 n_] [.cells [.ro true (.ints .u8 rb), .int .i64 rp]] κ = S.l20Rd_odd_tree rb rp n_ (fun d => κ (.bool d.1) [.cells [(.ro true (.ints .u8 d.2.1)), (.int .i64 d.2.2)]]) none := by
    kernel_rfl
  rw [hu]
  exact (S.l20Rd_odd_tree_nat (fun o => optC o (fun (r : Bool × (List Int) × Int) => κ (.bool r.1) [.cells [(.ro true (.ints .u8 r.2.1)), (.int .i64 r.2.2)]]) none) rb rp n_ (fun d => some d) none).symm
noncomputable def S.l20Rd_odd_s : D.Spec where
  keep := false
  pure := false
  add := false
  ds := [.invalid, .invalid]
  sp := fun args h κ => match args, h with
    | [.ptr 0 0, .int .i64 n_], [.cells [.ro true (.ints .u8 rb), .int .i64 rp]] => optC (S.l20Rd_odd_t rb rp n_) (fun (r : Bool × (List Int) × Int) => κ (.bool r.1) [.cells [(.ro true (.ints .u8 r.2.1)), (.int .i64 r.2.2)]]) none
    | _, _ => none
theorem S.l20Rd_odd_ok : SpecOk Try.prog 71 S.l20Rd_odd_s := by
  refine SpecOk.of TDok mixed (T := S.l20Rd_odd_T) ?_ (ann := S.l20Rd_odd_ann) Try.func71 rfl (by decide +kernel) ?_ ?_ ?_ ?_
  · intro p hp
    simp only [S.l20Rd_odd_T, List.mem_cons, List.not_mem_nil, or_false] at hp
    rcases hp with rfl
    · exact S.l20Rd_pick_ok
  · intro args h κ r hh
    simp only [S.l20Rd_odd_s] at hh
    split at hh
    · exact (S.l20Rd_odd_den _ _ _ κ).trans hh
    · cases hh
  · intro args h κ r hh
    simp only [S.l20Rd_odd_s] at hh ⊢
    split at hh
    · exact optC_law2 (F := fun (r : Bool × (List Int) × Int) κ => κ (.bool r.1) [.cells [(.ro true (.ints .u8 r.2.1)), (.int .i64 r.2.2)]]) (fun b κ r hb => ⟨_, _, hb, fun _ => rfl⟩) hh
    · cases hh
  · intro hh; cases hh
  · intro hh; cases hh

-- loop.example/guardsonnets/spec.l20Net
noncomputable def S.l20Net_T : List (Nat × D.Spec) := [(39, S.l20Rd_pick_s), (71, S.l20Rd_odd_s)]
def S.l20Net_ann : Nat → List Nat × List Nat
  | 8 => ([0, 1, 5, 6, 7, 8, 9], [0, 1, 5, 6, 7, 8])
  | 5 => ([0, 1, 5, 6, 7, 8], [0, 1, 5, 6])
  | _ => ([], [])
noncomputable def S.l20Net_F (args : List V) (h : List E) (κ : V → List E → R) : R := funC TD (tableK S.l20Net_T) S.l20Net_ann (drawOk TD (tableP S.l20Net_T)) FUEL Try.f53 args h κ
noncomputable def S.l20Net_L8 (n : Nat) (σ : St) (k : X → St → R) : R := iterC 1 (fun σ k => denC TD (tableK S.l20Net_T) S.l20Net_ann (drawOk TD (tableP S.l20Net_T)) 1 FUEL ((findLoop 8 (Try.f53.body.getD .skip)).getD .skip) σ k) [0, 1, 5, 6, 7, 8, 9] [0, 1, 5, 6, 7, 8] n σ k
noncomputable def S.l20Net_L5 (n : Nat) (σ : St) (k : X → St → R) : R := iterC 1 (fun σ k => denC TD (tableK S.l20Net_T) S.l20Net_ann (drawOk TD (tableP S.l20Net_T)) 1 FUEL ((findLoop 5 (Try.f53.body.getD .skip)).getD .skip) σ k) [0, 1, 5, 6, 7, 8] [0, 1, 5, 6] n σ k
noncomputable def S.l20Net_k8 (c : (St → R) × (X → St → R)) : X → St → R := (afterC TD (tableK S.l20Net_T) S.l20Net_ann (drawOk TD (tableP S.l20Net_T)) 1 FUEL 8 ((findLoop 5 (Try.f53.body.getD .skip)).getD .skip) (roundC 1 [0, 1, 5, 6, 7, 8] [0, 1, 5, 6] c.1 c.2)).getD (fun _ _ => none)
noncomputable def S.l20Net_k5 (κ : V → List E → R) : X → St → R := (afterC TD (tableK S.l20Net_T) S.l20Net_ann (drawOk TD (tableP S.l20Net_T)) 1 FUEL 5 (Try.f53.body.getD .skip) (finC TD 1 Try.f53 κ)).getD (fun _ _ => none)
noncomputable def S.l20Net_step8 {α : Type} (x1 : Int) (x5 : Int) (x7 : Int) (x8 : Int) (x9 : Int) (r0_0 : List Int) (r0_1 : Int) (r1 : List Int) (next_ : Int × (List Int) × Int × (List Int) → α) (out0_ : (List Int) × Int × (List Int) → α) (fail_ : α) : α :=
  (bif decide (x9 < x8) then (optC (S.l20Rd_pick_t r0_0 r0_1 3) (fun c_3 => (bif x7 == 0 then (bif x9 == IntKind.i64.wrap (x8 - 1) then (bif decide (0 ≤ x8) && decide (x8 < (↑r1.length : Int)) then (bif decide (x8.toNat < r1.length) then (bif decide (x9 < 0) then fail_ else (bif decide (0 ≤ x8) && decide (x8 < (↑r1.length : Int)) then (bif decide (x8.toNat < r1.length) then (bif decide (0 ≤ x9) && decide (x9 < (↑(r1.set x8.toNat (bits BinOp.or IntKind.i64 (eli r1 x8.toNat) (IntKind.i64.wrap (1 * 2 ^ min x9.toNat IntKind.i64.bits)))).length : Int)) then (bif decide (x9.toNat < (r1.set x8.toNat (bits BinOp.or IntKind.i64 (eli r1 x8.toNat) (IntKind.i64.wrap (1 * 2 ^ min x9.toNat IntKind.i64.bits)))).length) then (bif decide (x8 < 0) then fail_ else (bif decide (0 ≤ x9) && decide (x9 < (↑(r1.set x8.toNat (bits BinOp.or IntKind.i64 (eli r1 x8.toNat) (IntKind.i64.wrap (1 * 2 ^ min x9.toNat IntKind.i64.bits)))).length : Int)) then (bif decide (x9.toNat < (r1.set x8.toNat (bits BinOp.or IntKind.i64 (eli r1 x8.toNat) (IntKind.i64.wrap (1 * 2 ^ min x9.toNat IntKind.i64.bits)))).length) then (next_ (IntKind.i64.wrap (x9 + 1), c_3.snd.fst, c_3.snd.snd, (r1.set x8.toNat (bits BinOp.or IntKind.i64 (eli r1 x8.toNat) (IntKind.i64.wrap (1 * 2 ^ min x9.toNat IntKind.i64.bits)))).set x9.toNat (bits BinOp.or IntKind.i64 (eli (r1.set x8.toNat (bits BinOp.or IntKind.i64 (eli r1 x8.toNat) (IntKind.i64.wrap (1 * 2 ^ min x9.toNat IntKind.i64.bits)))) x9.toNat) (IntKind.i64.wrap (1 * 2 ^ min x8.toNat IntKind.i64.bits))))) else fail_) else fail_)) else fail_) else fail_) else fail_) else fail_)) else fail_) else fail_) else (bif x8 == IntKind.i64.wrap (x5 - 1) then (bif x9 == 0 then (bif decide (x5 > 2) then (bif decide (0 ≤ x8) && decide (x8 < (↑r1.length : Int)) then (bif decide (x8.toNat < r1.length) then (bif decide (x9 < 0) then fail_ else (bif decide (0 ≤ x8) && decide (x8 < (↑r1.length : Int)) then (bif decide (x8.toNat < r1.length) then (bif decide (0 ≤ x9) && decide (x9 < (↑(r1.set x8.toNat (bits BinOp.or IntKind.i64 (eli r1 x8.toNat) (IntKind.i64.wrap (1 * 2 ^ min x9.toNat IntKind.i64.bits)))).length : Int)) then (bif decide (x9.toNat < (r1.set x8.toNat (bits BinOp.or IntKind.i64 (eli r1 x8.toNat) (IntKind.i64.wrap (1 * 2 ^ min x9.toNat IntKind.i64.bits)))).length) then (bif decide (x8 < 0) then fail_ else (bif decide (0 ≤ x9) && decide (x9 < (↑(r1.set x8.toNat (bits BinOp.or IntKind.i64 (eli r1 x8.toNat) (IntKind.i64.wrap (1 * 2 ^ min x9.toNat IntKind.i64.bits)))).length : Int)) then (bif decide (x9.toNat < (r1.set x8.toNat (bits BinOp.or IntKind.i64 (eli r1 x8.toNat) (IntKind.i64.wrap (1 * 2 ^ min x9.toNat IntKind.i64.bits)))).length) then (next_ (IntKind.i64.wrap (x9 + 1), c_3.snd.fst, c_3.snd.snd, (r1.set x8.toNat (bits BinOp.or IntKind.i64 (eli r1 x8.toNat) (IntKind.i64.wrap (1 * 2 ^ min x9.toNat IntKind.i64.bits)))).set x9.toNat (bits BinOp.or IntKind.i64 (eli (r1.set x8.toNat (bits BinOp.or IntKind.i64 (eli r1 x8.toNat) (IntKind.i64.wrap (1 * 2 ^ min x9.toNat IntKind.i64.bits)))) x9.toNat) (IntKind.i64.wrap (1 * 2 ^ min x8.toNat IntKind.i64.bits))))) else fail_) else fail_)) else fail_) else fail_) else fail_) else fail_)) else fail_) else fail_) else (next_ (IntKind.i64.wrap (x9 + 1), c_3.snd.fst, c_3.snd.snd, r1))) else (next_ (IntKind.i64.wrap (x9 + 1), c_3.snd.fst, c_3.snd.snd, r1))) else (next_ (IntKind.i64.wrap (x9 + 1), c_3.snd.fst, c_3.snd.snd, r1)))) else (bif x7 == 1 then (bif x9 == IntKind.i64.wrap (x8 - 1) then (bif decide (0 ≤ x8) && decide (x8 < (↑r1.length : Int)) then (bif decide (x8.toNat < r1.length) then (bif decide (x9 < 0) then fail_ else (bif decide (0 ≤ x8) && decide (x8 < (↑r1.length : Int)) then (bif decide (x8.toNat < r1.length) then (bif decide (0 ≤ x9) && decide (x9 < (↑(r1.set x8.toNat (bits BinOp.or IntKind.i64 (eli r1 x8.toNat) (IntKind.i64.wrap (1 * 2 ^ min x9.toNat IntKind.i64.bits)))).length : Int)) then (bif decide (x9.toNat < (r1.set x8.toNat (bits BinOp.or IntKind.i64 (eli r1 x8.toNat) (IntKind.i64.wrap (1 * 2 ^ min x9.toNat IntKind.i64.bits)))).length) then (bif decide (x8 < 0) then fail_ else (bif decide (0 ≤ x9) && decide (x9 < (↑(r1.set x8.toNat (bits BinOp.or IntKind.i64 (eli r1 x8.toNat) (IntKind.i64.wrap (1 * 2 ^ min x9.toNat IntKind.i64.bits)))).length : Int)) then (bif decide (x9.toNat < (r1.set x8.toNat (bits BinOp.or IntKind.i64 (eli r1 x8.toNat) (IntKind.i64.wrap (1 * 2 ^ min x9.toNat IntKind.i64.bits)))).length) then (next_ (IntKind.i64.wrap (x9 + 1), c_3.snd.fst, c_3.snd.snd, (r1.set x8.toNat (bits BinOp.or IntKind.i64 (eli r1 x8.toNat) (IntKind.i64.wrap (1 * 2 ^ min x9.toNat IntKind.i64.bits)))).set x9.toNat (bits BinOp.or IntKind.i64 (eli (r1.set x8.toNat (bits BinOp.or IntKind.i64 (eli r1 x8.toNat) (IntKind.i64.wrap (1 * 2 ^ min x9.toNat IntKind.i64.bits)))) x9.toNat) (IntKind.i64.wrap (1 * 2 ^ min x8.toNat IntKind.i64.bits))))) else fail_) else fail_)) else fail_) else fail_) else fail_) else fail_)) else fail_) else fail_) else (bif x9 == 0 then (optC (S.l20Rd_pick_t c_3.snd.fst c_3.snd.snd 3) (fun c_4 => (bif c_4.fst == 0 then (bif decide (0 ≤ x8) && decide (x8 < (↑r1.length : Int)) then (bif decide (x8.toNat < r1.length) then (bif decide (x9 < 0) then fail_ else (bif decide (0 ≤ x8) && decide (x8 < (↑r1.length : Int)) then (bif decide (x8.toNat < r1.length) then (bif decide (0 ≤ x9) && decide (x9 < (↑(r1.set x8.toNat (bits BinOp.or IntKind.i64 (eli r1 x8.toNat) (IntKind.i64.wrap (1 * 2 ^ min x9.toNat IntKind.i64.bits)))).length : Int)) then (bif decide (x9.toNat < (r1.set x8.toNat (bits BinOp.or IntKind.i64 (eli r1 x8.toNat) (IntKind.i64.wrap (1 * 2 ^ min x9.toNat IntKind.i64.bits)))).length) then (bif decide (x8 < 0) then fail_ else (bif decide (0 ≤ x9) && decide (x9 < (↑(r1.set x8.toNat (bits BinOp.or IntKind.i64 (eli r1 x8.toNat) (IntKind.i64.wrap (1 * 2 ^ min x9.toNat IntKind.i64.bits)))).length : Int)) then (bif decide (x9.toNat < (r1.set x8.toNat (bits BinOp.or IntKind.i64 (eli r1 x8.toNat) (IntKind.i64.wrap (1 * 2 ^ min x9.toNat IntKind.i64.bits)))).length) then (next_ (IntKind.i64.wrap (x9 + 1), c_4.snd.fst, c_4.snd.snd, (r1.set x8.toNat (bits BinOp.or IntKind.i64 (eli r1 x8.toNat) (IntKind.i64.wrap (1 * 2 ^ min x9.toNat IntKind.i64.bits)))).set x9.toNat (bits BinOp.or IntKind.i64 (eli (r1.set x8.toNat (bits BinOp.or IntKind.i64 (eli r1 x8.toNat) (IntKind.i64.wrap (1 * 2 ^ min x9.toNat IntKind.i64.bits)))) x9.toNat) (IntKind.i64.wrap (1 * 2 ^ min x8.toNat IntKind.i64.bits))))) else fail_) else fail_)) else fail_) else fail_) else fail_) else fail_)) else fail_) else fail_) else (next_ (IntKind.i64.wrap (x9 + 1), c_4.snd.fst, c_4.snd.snd, r1)))) fail_) else (next_ (IntKind.i64.wrap (x9 + 1), c_3.snd.fst, c_3.snd.snd, r1)))) else (bif x7 == 2 then (bif x9 == IntKind.i64.wrap ((IntKind.i64.wrap (x8 - 1)).tdiv 2) then (bif decide (0 ≤ x8) && decide (x8 < (↑r1.length : Int)) then (bif decide (x8.toNat < r1.length) then (bif decide (x9 < 0) then fail_ else (bif decide (0 ≤ x8) && decide (x8 < (↑r1.length : Int)) then (bif decide (x8.toNat < r1.length) then (bif decide (0 ≤ x9) && decide (x9 < (↑(r1.set x8.toNat (bits BinOp.or IntKind.i64 (eli r1 x8.toNat) (IntKind.i64.wrap (1 * 2 ^ min x9.toNat IntKind.i64.bits)))).length : Int)) then (bif decide (x9.toNat < (r1.set x8.toNat (bits BinOp.or IntKind.i64 (eli r1 x8.toNat) (IntKind.i64.wrap (1 * 2 ^ min x9.toNat IntKind.i64.bits)))).length) then (bif decide (x8 < 0) then fail_ else (bif decide (0 ≤ x9) && decide (x9 < (↑(r1.set x8.toNat (bits BinOp.or IntKind.i64 (eli r1 x8.toNat) (IntKind.i64.wrap (1 * 2 ^ min x9.toNat IntKind.i64.bits)))).length : Int)) then (bif decide (x9.toNat < (r1.set x8.toNat (bits BinOp.or IntKind.i64 (eli r1 x8.toNat) (IntKind.i64.wrap (1 * 2 ^ min x9.toNat IntKind.i64.bits)))).length) then (next_ (IntKind.i64.wrap (x9 + 1), c_3.snd.fst, c_3.snd.snd, (r1.set x8.toNat (bits BinOp.or IntKind.i64 (eli r1 x8.toNat) (IntKind.i64.wrap (1 * 2 ^ min x9.toNat IntKind.i64.bits)))).set x9.toNat (bits BinOp.or IntKind.i64 (eli (r1.set x8.toNat (bits BinOp.or IntKind.i64 (eli r1 x8.toNat) (IntKind.i64.wrap (1 * 2 ^ min x9.toNat IntKind.i64.bits)))) x9.toNat) (IntKind.i64.wrap (1 * 2 ^ min x8.toNat IntKind.i64.bits))))) else fail_) else fail_)) else fail_) else fail_) else fail_) else fail_)) else fail_) else fail_) else (next_ (IntKind.i64.wrap (x9 + 1), c_3.snd.fst, c_3.snd.snd, r1))) else (bif c_3.fst == 0 then (bif decide (0 ≤ x8) && decide (x8 < (↑r1.length : Int)) then (bif decide (x8.toNat < r1.length) then (bif decide (x9 < 0) then fail_ else (bif decide (0 ≤ x8) && decide (x8 < (↑r1.length : Int)) then (bif decide (x8.toNat < r1.length) then (bif decide (0 ≤ x9) && decide (x9 < (↑(r1.set x8.toNat (bits BinOp.or IntKind.i64 (eli r1 x8.toNat) (IntKind.i64.wrap (1 * 2 ^ min x9.toNat IntKind.i64.bits)))).length : Int)) then (bif decide (x9.toNat < (r1.set x8.toNat (bits BinOp.or IntKind.i64 (eli r1 x8.toNat) (IntKind.i64.wrap (1 * 2 ^ min x9.toNat IntKind.i64.bits)))).length) then (bif decide (x8 < 0) then fail_ else (bif decide (0 ≤ x9) && decide (x9 < (↑(r1.set x8.toNat (bits BinOp.or IntKind.i64 (eli r1 x8.toNat) (IntKind.i64.wrap (1 * 2 ^ min x9.toNat IntKind.i64.bits)))).length : Int)) then (bif decide (x9.toNat < (r1.set x8.toNat (bits BinOp.or IntKind.i64 (eli r1 x8.toNat) (IntKind.i64.wrap (1 * 2 ^ min x9.toNat IntKind.i64.bits)))).length) then (next_ (IntKind.i64.wrap (x9 + 1), c_3.snd.fst, c_3.snd.snd, (r1.set x8.toNat (bits BinOp.or IntKind.i64 (eli r1 x8.toNat) (IntKind.i64.wrap (1 * 2 ^ min x9.toNat IntKind.i64.bits)))).set x9.toNat (bits BinOp.or IntKind.i64 (eli (r1.set x8.toNat (bits BinOp.or IntKind.i64 (eli r1 x8.toNat) (IntKind.i64.wrap (1 * 2 ^ min x9.toNat IntKind.i64.bits)))) x9.toNat) (IntKind.i64.wrap (1 * 2 ^ min x8.toNat IntKind.i64.bits))))) else fail_) else fail_)) else fail_) else fail_) else fail_) else fail_)) else fail_) else fail_) else (next_ (IntKind.i64.wrap (x9 + 1), c_3.snd.fst, c_3.snd.snd, r1))))))) fail_) else (out0_ (r0_0, r0_1, r1)))
theorem S.l20Net_step8_nat {α γ : Type} (g : α → γ) (x1 : Int) (x5 : Int) (x7 : Int) (x8 : Int) (x9 : Int) (r0_0 : List Int) (r0_1 : Int) (r1 : List Int) (next_ : Int × (List Int) × Int × (List Int) → α) (out0_ : (List Int) × Int × (List Int) → α) (fail_ : α) : g (S.l20Net_step8 x1 x5 x7 x8 x9 r0_0 r0_1 r1 next_ out0_ fail_) = S.l20Net_step8 x1 x5 x7 x8 x9 r0_0 r0_1 r1 (fun s => g (next_ s)) (fun d => g (out0_ d)) (g fail_) := by
  unfold S.l20Net_step8; simp only [apply_cnd g, apply_optC g, apply_sumC g]
noncomputable def S.l20Net_run8 (x1 : Int) (x5 : Int) (x7 : Int) (x8 : Int) : Nat → Int × (List Int) × Int × (List Int) → Option ((List Int) × Int × (List Int))
  | 0, _ => none
  | n + 1, s_ => S.l20Net_step8 x1 x5 x7 x8 s_.1 s_.2.1 s_.2.2.1 s_.2.2.2 (S.l20Net_run8 x1 x5 x7 x8 n) (fun d => some d) none
theorem S.l20Net_L8_run (x1 : Int) (x5 : Int) (x7 : Int) (x8 : Int) (n : Nat) (s_ : Int × (List Int) × Int × (List Int)) (k : X → St → R) : S.l20Net_L8 n { n := 125, t := [(0, (.ptr 0 0)), (1, (.int .i64 x1)), (5, (.int .i64 x5)), (6, (.own 1)), (7, (.int .i64 x7)), (8, (.int .i64 x8)), (9, (.int .i64 s_.1))], h := [.cells [(.ro true (.ints .u8 s_.2.1)), (.int .i64 s_.2.2.1)], .row (.ints .i64 s_.2.2.2)] } k = optC (S.l20Net_run8 x1 x5 x7 x8 n s_) (fun (r : (List Int) × Int × (List Int)) => k (.exit 2) { n := 125, t := [(0, (.ptr 0 0)), (1, (.int .i64 x1)), (5, (.int .i64 x5)), (6, (.own 1)), (7, (.int .i64 x7)), (8, (.int .i64 x8))], h := [.cells [(.ro true (.ints .u8 r.1)), (.int .i64 r.2.1)], .row (.ints .i64 r.2.2)] }) none := by
  induction n generalizing s_ with
  | zero => rfl
  | succ n ih =>
    have hu : S.l20Net_L8 (n + 1) { n := 125, t := [(0, (.ptr 0 0)), (1, (.int .i64 x1)), (5, (.int .i64 x5)), (6, (.own 1)), (7, (.int .i64 x7)), (8, (.int .i64 x8)), (9, (.int .i64 s_.1))], h := [.cells [(.ro true (.ints .u8 s_.2.1)), (.int .i64 s_.2.2.1)], .row (.ints .i64 s_.2.2.2)] } k = S.l20Net_step8 x1 x5 x7 x8 s_.1 s_.2.1 s_.2.2.1 s_.2.2.2 (fun s_ => S.l20Net_L8 n { n := 125, t := [(0, (.ptr 0 0)), (1, (.int .i64 x1)), (5, (.int .i64 x5)), (6, (.own 1)), (7, (.int .i64 x7)), (8, (.int .i64 x8)), (9, (.int .i64 s_.1))], h := [.cells [(.ro true (.ints .u8 s_.2.1)), (.int .i64 s_.2.2.1)], .row (.ints .i64 s_.2.2.2)] } k) (fun d => k (.exit 2) { n := 125, t := [(0, (.ptr 0 0)), (1, (.int .i64 x1)), (5, (.int .i64 x5)), (6, (.own 1)), (7, (.int .i64 x7)), (8, (.int .i64 x8))], h := [.cells [(.ro true (.ints .u8 d.1)), (.int .i64 d.2.1)], .row (.ints .i64 d.2.2)] }) none := by
      kernel_rfl
    have hs : (fun s_ : Int × (List Int) × Int × (List Int) => S.l20Net_L8 n { n := 125, t := [(0, (.ptr 0 0)), (1, (.int .i64 x1)), (5, (.int .i64 x5)), (6, (.own 1)), (7, (.int .i64 x7)), (8, (.int .i64 x8)), (9, (.int .i64 s_.1))], h := [.cells [(.ro true (.ints .u8 s_.2.1)), (.int .i64 s_.2.2.1)], .row (.ints .i64 s_.2.2.2)] } k) = fun s_ => optC (S.l20Net_run8 x1 x5 x7 x8 n s_) (fun (r : (List Int) × Int × (List Int)) => k (.exit 2) { n := 125, t := [(0, (.ptr 0 0)), (1, (.int .i64 x1)), (5, (.int .i64 x5)), (6, (.own 1)), (7, (.int .i64 x7)), (8, (.int .i64 x8))], h := [.cells [(.ro true (.ints .u8 r.1)), (.int .i64 r.2.1)], .row (.ints .i64 r.2.2)] }) none := funext ih
    rw [hu, hs]
    exact (S.l20Net_step8_nat (fun o => optC o (fun (r : (List Int) × Int × (List Int)) => k (.exit 2) { n := 125, t := [(0, (.ptr 0 0)), (1, (.int .i64 x1)), (5, (.int .i64 x5)), (6, (.own 1)), (7, (.int .i64 x7)), (8, (.int .i64 x8))], h := [.cells [(.ro true (.ints .u8 r.1)), (.int .i64 r.2.1)], .row (.ints .i64 r.2.2)] }) none) x1 x5 x7 x8 s_.1 s_.2.1 s_.2.2.1 s_.2.2.2 (S.l20Net_run8 x1 x5 x7 x8 n) (fun d => some d) none).symm
noncomputable def S.l20Net_step5 {α : Type} (x1 : Int) (x5 : Int) (x7 : Int) (x8 : Int) (r0_0 : List Int) (r0_1 : Int) (r1 : List Int) (next_ : Int × (List Int) × Int × (List Int) → α) (out0_ : (List Int) × Int × (List Int) → α) (fail_ : α) : α :=
  (bif decide (x8 < x5) then (optC (S.l20Net_run8 x1 x5 x7 x8 FUEL (0, r0_0, r0_1, r1)) (fun qy_5 => (next_ (IntKind.i64.wrap (x8 + 1), qy_5.1, qy_5.2.1, qy_5.2.2))) fail_) else (out0_ (r0_0, r0_1, r1)))
theorem S.l20Net_step5_nat {α γ : Type} (g : α → γ) (x1 : Int) (x5 : Int) (x7 : Int) (x8 : Int) (r0_0 : List Int) (r0_1 : Int) (r1 : List Int) (next_ : Int × (List Int) × Int × (List Int) → α) (out0_ : (List Int) × Int × (List Int) → α) (fail_ : α) : g (S.l20Net_step5 x1 x5 x7 x8 r0_0 r0_1 r1 next_ out0_ fail_) = S.l20Net_step5 x1 x5 x7 x8 r0_0 r0_1 r1 (fun s => g (next_ s)) (fun d => g (out0_ d)) (g fail_) := by
  unfold S.l20Net_step5; simp only [apply_cnd g, apply_optC g, apply_sumC g]
noncomputable def S.l20Net_run5 (x1 : Int) (x5 : Int) (x7 : Int) : Nat → Int × (List Int) × Int × (List Int) → Option ((List Int) × Int × (List Int))
  | 0, _ => none
  | n + 1, s_ => S.l20Net_step5 x1 x5 x7 s_.1 s_.2.1 s_.2.2.1 s_.2.2.2 (S.l20Net_run5 x1 x5 x7 n) (fun d => some d) none
theorem S.l20Net_L5_run (x1 : Int) (x5 : Int) (x7 : Int) (n : Nat) (s_ : Int × (List Int) × Int × (List Int)) (k : X → St → R) : S.l20Net_L5 n { n := 125, t := [(0, (.ptr 0 0)), (1, (.int .i64 x1)), (5, (.int .i64 x5)), (6, (.own 1)), (7, (.int .i64 x7)), (8, (.int .i64 s_.1))], h := [.cells [(.ro true (.ints .u8 s_.2.1)), (.int .i64 s_.2.2.1)], .row (.ints .i64 s_.2.2.2)] } k = optC (S.l20Net_run5 x1 x5 x7 n s_) (fun (r : (List Int) × Int × (List Int)) => k (.exit 0) { n := 125, t := [(0, (.ptr 0 0)), (1, (.int .i64 x1)), (5, (.int .i64 x5)), (6, (.own 1))], h := [.cells [(.ro true (.ints .u8 r.1)), (.int .i64 r.2.1)], .row (.ints .i64 r.2.2)] }) none := by
  induction n generalizing s_ with
  | zero => rfl
  | succ n ih =>
    have hu : S.l20Net_L5 (n + 1) { n := 125, t := [(0, (.ptr 0 0)), (1, (.int .i64 x1)), (5, (.int .i64 x5)), (6, (.own 1)), (7, (.int .i64 x7)), (8, (.int .i64 s_.1))], h := [.cells [(.ro true (.ints .u8 s_.2.1)), (.int .i64 s_.2.2.1)], .row (.ints .i64 s_.2.2.2)] } k = S.l20Net_step5 x1 x5 x7 s_.1 s_.2.1 s_.2.2.1 s_.2.2.2 (fun s_ => S.l20Net_L5 n { n := 125, t := [(0, (.ptr 0 0)), (1, (.int .i64 x1)), (5, (.int .i64 x5)), (6, (.own 1)), (7, (.int .i64 x7)), (8, (.int .i64 s_.1))], h := [.cells [(.ro true (.ints .u8 s_.2.1)), (.int .i64 s_.2.2.1)], .row (.ints .i64 s_.2.2.2)] } k) (fun d => k (.exit 0) { n := 125, t := [(0, (.ptr 0 0)), (1, (.int .i64 x1)), (5, (.int .i64 x5)), (6, (.own 1))], h := [.cells [(.ro true (.ints .u8 d.1)), (.int .i64 d.2.1)], .row (.ints .i64 d.2.2)] }) none := by
      refine Eq.trans (show S.l20Net_L5 (n + 1) { n := 125, t := [(0, (.ptr 0 0)), (1, (.int .i64 x1)), (5, (.int .i64 x5)), (6, (.own 1)), (7, (.int .i64 x7)), (8, (.int .i64 s_.1))], h := [.cells [(.ro true (.ints .u8 s_.2.1)), (.int .i64 s_.2.2.1)], .row (.ints .i64 s_.2.2.2)] } k = (bif decide (s_.1 < x5) then (S.l20Net_L8 FUEL { n := 125, t := [(0, (.ptr 0 0)), (1, (.int .i64 x1)), (5, (.int .i64 x5)), (6, (.own 1)), (7, (.int .i64 x7)), (8, (.int .i64 s_.1)), (9, (.int .i64 0))], h := [.cells [(.ro true (.ints .u8 s_.2.1)), (.int .i64 s_.2.2.1)], .row (.ints .i64 s_.2.2.2)] } (S.l20Net_k8 ((fun σ => S.l20Net_L5 n σ k), k))) else (k (.exit 0) { n := 125, t := [(0, (.ptr 0 0)), (1, (.int .i64 x1)), (5, (.int .i64 x5)), (6, (.own 1))], h := [.cells [(.ro true (.ints .u8 s_.2.1)), (.int .i64 s_.2.2.1)], .row (.ints .i64 s_.2.2.2)] })) by kernel_rfl) ?_
      refine cnd_congr ?_ ?_
      · refine (S.l20Net_L8_run x1 x5 x7 s_.1 FUEL (0, s_.2.1, s_.2.2.1, s_.2.2.2) (S.l20Net_k8 ((fun σ => S.l20Net_L5 n σ k), k))).trans (optC_congr (fun qy_5 => ?_))
        kernel_rfl
      · kernel_rfl
    have hs : (fun s_ : Int × (List Int) × Int × (List Int) => S.l20Net_L5 n { n := 125, t := [(0, (.ptr 0 0)), (1, (.int .i64 x1)), (5, (.int .i64 x5)), (6, (.own 1)), (7, (.int .i64 x7)), (8, (.int .i64 s_.1))], h := [.cells [(.ro true (.ints .u8 s_.2.1)), (.int .i64 s_.2.2.1)], .row (.ints .i64 s_.2.2.2)] } k) = fun s_ => optC (S.l20Net_run5 x1 x5 x7 n s_) (fun (r : (List Int) × Int × (List Int)) => k (.exit 0) { n := 125, t := [(0, (.ptr 0 0)), (1, (.int .i64 x1)), (5, (.int .i64 x5)), (6, (.own 1))], h := [.cells [(.ro true (.ints .u8 r.1)), (.int .i64 r.2.1)], .row (.ints .i64 r.2.2)] }) none := funext ih
    rw [hu, hs]
    exact (S.l20Net_step5_nat (fun o => optC o (fun (r : (List Int) × Int × (List Int)) => k (.exit 0) { n := 125, t := [(0, (.ptr 0 0)), (1, (.int .i64 x1)), (5, (.int .i64 x5)), (6, (.own 1))], h := [.cells [(.ro true (.ints .u8 r.1)), (.int .i64 r.2.1)], .row (.ints .i64 r.2.2)] }) none) x1 x5 x7 s_.1 s_.2.1 s_.2.2.1 s_.2.2.2 (S.l20Net_run5 x1 x5 x7 n) (fun d => some d) none).symm
noncomputable def S.l20Net_tree {α : Type} (rb : List Int) (rp : Int) (n_ : Int) (leaf0_ : (List Int) × Int × (List Int) → α) (fail_ : α) : α :=
  (optC (S.l20Rd_pick_t rb rp 6) (fun c_1 => (bif decide (0 ≤ IntKind.i64.wrap (1 + c_1.fst)) && small (IntKind.i64.wrap (1 + c_1.fst)).toNat && true then (optC (S.l20Rd_pick_t c_1.snd.fst c_1.snd.snd 4) (fun c_2 => (optC (S.l20Net_run5 n_ (IntKind.i64.wrap (1 + c_1.fst)) c_2.fst FUEL (0, c_2.snd.fst, c_2.snd.snd, List.replicate (IntKind.i64.wrap (1 + c_1.fst)).toNat 0)) (fun qy_6 => (optC (S.l20Rd_odd_t qy_6.1 qy_6.2.1 n_) (fun c_7 => (bif c_7.fst then (optC (S.l20Rd_pick_t c_7.snd.fst c_7.snd.snd 3) (fun c_8 => (bif c_8.fst == 0 then (leaf0_ (c_8.snd.fst, c_8.snd.snd, [])) else (bif c_8.fst == 1 then (bif decide (0 < (↑qy_6.2.2.length : Int)) then (bif decide (0 < qy_6.2.2.length) then (bif decide (0 < (↑qy_6.2.2.length : Int)) then (bif decide (0 < qy_6.2.2.length) then (leaf0_ (c_8.snd.fst, c_8.snd.snd, qy_6.2.2.set 0 (bits BinOp.or IntKind.i64 (eli qy_6.2.2 0) 1))) else fail_) else fail_) else fail_) else fail_) else (bif decide (0 < (↑qy_6.2.2.length : Int)) then (bif decide (0 < qy_6.2.2.length) then (bif decide (IntKind.i64.wrap (IntKind.i64.wrap (1 + c_1.fst) - 1) < 0) then fail_ else (bif decide (0 < (↑qy_6.2.2.length : Int)) then (bif decide (0 < qy_6.2.2.length) then (bif IntKind.i64.wrap (1 + c_1.fst) == 1 then (bif decide (0 < (↑(qy_6.2.2.set 0 (bits BinOp.xor IntKind.i64 (eli qy_6.2.2 0) (IntKind.i64.wrap (1 * 2 ^ min (IntKind.i64.wrap (IntKind.i64.wrap (1 + c_1.fst) - 1)).toNat IntKind.i64.bits)))).length : Int)) then (bif decide (0 < (qy_6.2.2.set 0 (bits BinOp.xor IntKind.i64 (eli qy_6.2.2 0) (IntKind.i64.wrap (1 * 2 ^ min (IntKind.i64.wrap (IntKind.i64.wrap (1 + c_1.fst) - 1)).toNat IntKind.i64.bits)))).length) then (leaf0_ (c_8.snd.fst, c_8.snd.snd, (qy_6.2.2.set 0 (bits BinOp.xor IntKind.i64 (eli qy_6.2.2 0) (IntKind.i64.wrap (1 * 2 ^ min (IntKind.i64.wrap (IntKind.i64.wrap (1 + c_1.fst) - 1)).toNat IntKind.i64.bits)))).set 0 (-1))) else fail_) else fail_) else (leaf0_ (c_8.snd.fst, c_8.snd.snd, qy_6.2.2.set 0 (bits BinOp.xor IntKind.i64 (eli qy_6.2.2 0) (IntKind.i64.wrap (1 * 2 ^ min (IntKind.i64.wrap (IntKind.i64.wrap (1 + c_1.fst) - 1)).toNat IntKind.i64.bits)))))) else fail_) else fail_)) else fail_) else fail_)))) fail_) else (leaf0_ (c_7.snd.fst, c_7.snd.snd, qy_6.2.2)))) fail_)) fail_)) fail_) else fail_)) fail_)
theorem S.l20Net_tree_nat {α γ : Type} (g : α → γ) (rb : List Int) (rp : Int) (n_ : Int) (leaf0_ : (List Int) × Int × (List Int) → α) (fail_ : α) : g (S.l20Net_tree rb rp n_ leaf0_ fail_) = S.l20Net_tree rb rp n_ (fun d => g (leaf0_ d)) (g fail_) := by
  unfold S.l20Net_tree; simp only [apply_cnd g, apply_optC g, apply_sumC g]
noncomputable def S.l20Net_t (rb : List Int) (rp : Int) (n_ : Int) : Option ((List Int) × Int × (List Int)) := S.l20Net_tree rb rp n_ (fun d => some d) none
theorem S.l20Net_den (rb : List Int) (rp : Int) (n_ : Int) (κ : V → List E → R) : S.l20Net_F [.ptr 0 0, .int .i64 n_] [.cells [.ro true (.ints .u8 rb), .int .i64 rp]] κ = optC (S.l20Net_t rb rp n_) (fun (r : (List Int) × Int × (List Int)) => κ (.own 1) [.cells [(.ro true (.ints .u8 r.1)), (.int .i64 r.2.1)], .row (.ints .i64 r.2.2)]) none := by
  have hu : S.l20Net_F [.ptr 0 0, .int .i64 n_] [.cells [.ro true (.ints .u8 rb), .int .i64 rp]] κ = S.l20Net_tree rb rp n_ (fun d => κ (.own 1) [.cells [(.ro true (.ints .u8 d.1)), (.int .i64 d.2.1)], .row (.ints .i64 d.2.2)]) none := by
    refine Eq.trans (show S.l20Net_F [.ptr 0 0, .int .i64 n_] [.cells [.ro true (.ints .u8 rb), .int .i64 rp]] κ = (optC (S.l20Rd_pick_t rb rp 6) (fun c_1 => (bif decide (0 ≤ IntKind.i64.wrap (1 + c_1.fst)) && small (IntKind.i64.wrap (1 + c_1.fst)).toNat && true then (optC (S.l20Rd_pick_t c_1.snd.fst c_1.snd.snd 4) (fun c_2 => (S.l20Net_L5 FUEL { n := 125, t := [(0, (.ptr 0 0)), (1, (.int .i64 n_)), (5, (.int .i64 (IntKind.i64.wrap (1 + c_1.fst)))), (6, (.own 1)), (7, (.int .i64 c_2.fst)), (8, (.int .i64 0))], h := [.cells [(.ro true (.ints .u8 c_2.snd.fst)), (.int .i64 c_2.snd.snd)], .row (.ints .i64 (List.replicate (IntKind.i64.wrap (1 + c_1.fst)).toNat 0))] } (S.l20Net_k5 κ))) none) else none)) none) by kernel_rfl) ?_
    refine optC_congr (fun c_1 => ?_)
    refine cnd_congr ?_ ?_
    · refine optC_congr (fun c_2 => ?_)
      refine (S.l20Net_L5_run n_ (IntKind.i64.wrap (1 + c_1.fst)) c_2.fst FUEL (0, c_2.snd.fst, c_2.snd.snd, List.replicate (IntKind.i64.wrap (1 + c_1.fst)).toNat 0) (S.l20Net_k5 κ)).trans (optC_congr (fun qy_6 => ?_))
      kernel_rfl
    · kernel_rfl
  rw [hu]
  exact (S.l20Net_tree_nat (fun o => optC o (fun (r : (List Int) × Int × (List Int)) => κ (.own 1) [.cells [(.ro true (.ints .u8 r.1)), (.int .i64 r.2.1)], .row (.ints .i64 r.2.2)]) none) rb rp n_ (fun d => some d) none).symm
noncomputable def S.l20Net_s : D.Spec where
  keep := false
  pure := false
  add := false
  ds := [.invalid, .invalid]
  sp := fun args h κ => match args, h with
    | [.ptr 0 0, .int .i64 n_], [.cells [.ro true (.ints .u8 rb), .int .i64 rp]] => optC (S.l20Net_t rb rp n_) (fun (r : (List Int) × Int × (List Int)) => κ (.own 1) [.cells [(.ro true (.ints .u8 r.1)), (.int .i64 r.2.1)], .row (.ints .i64 r.2.2)]) none
    | _, _ => none
theorem S.l20Net_ok : SpecOk Try.prog 53 S.l20Net_s := by
  refine SpecOk.of TDok mixed (T := S.l20Net_T) ?_ (ann := S.l20Net_ann) Try.func53 rfl (by decide +kernel) ?_ ?_ ?_ ?_
  · intro p hp
    simp only [S.l20Net_T, List.mem_cons, List.not_mem_nil, or_false] at hp
    rcases hp with rfl | rfl
    · exact S.l20Rd_pick_ok
    · exact S.l20Rd_odd_ok
  · intro args h κ r hh
    simp only [S.l20Net_s] at hh
    split at hh
    · exact (S.l20Net_den _ _ _ κ).trans hh
    · cases hh
  · intro args h κ r hh
    simp only [S.l20Net_s] at hh ⊢
    split at hh
    · exact optC_law2 (F := fun (r : (List Int) × Int × (List Int)) κ => κ (.own 1) [.cells [(.ro true (.ints .u8 r.1)), (.int .i64 r.2.1)], .row (.ints .i64 r.2.2)]) (fun b κ r hb => ⟨_, _, hb, fun _ => rfl⟩) hh
    · cases hh
  · intro hh; cases hh
  · intro hh; cases hh

-- loop.example/guardsonnets/spec.l20Set
noncomputable def S.l20Set_T : List (Nat × D.Spec) := [(53, S.l20Net_s), (39, S.l20Rd_pick_s)]
def S.l20Set_ann : Nat → List Nat × List Nat
  | _ => ([], [])
noncomputable def S.l20Set_F (args : List V) (h : List E) (κ : V → List E → R) : R := funC TD (tableK S.l20Set_T) S.l20Set_ann (drawOk TD (tableP S.l20Set_T)) FUEL Try.f68 args h κ
noncomputable def S.l20Set_tree {α : Type} (rb : List Int) (rp : Int) (n_ : Int) (leaf0_ : Int × (List Int) × Int × (List Int) → α) (fail_ : α) : α :=
  (optC (S.l20Net_t rb rp n_) (fun c_1 => (optC (S.l20Rd_pick_t c_1.fst c_1.snd.fst (IntKind.i64.wrap (1 * 2 ^ min (↑c_1.snd.snd.length : Int).toNat IntKind.i64.bits))) (fun c_2 => (optC (S.l20Rd_pick_t c_2.snd.fst c_2.snd.snd 40) (fun c_3 => (leaf0_ (IntKind.i64.wrap (c_2.fst + IntKind.i64.wrap (IntKind.i64.wrap (c_3.fst.tdiv 39) * 64)), c_3.snd.fst, c_3.snd.snd, c_1.snd.snd))) fail_)) fail_)) fail_)
theorem S.l20Set_tree_nat {α γ : Type} (g : α → γ) (rb : List Int) (rp : Int) (n_ : Int) (leaf0_ : Int × (List Int) × Int × (List Int) → α) (fail_ : α) : g (S.l20Set_tree rb rp n_ leaf0_ fail_) = S.l20Set_tree rb rp n_ (fun d => g (leaf0_ d)) (g fail_) := by
  unfold S.l20Set_tree; simp only [apply_cnd g, apply_optC g, apply_sumC g]
noncomputable def S.l20Set_t (rb : List Int) (rp : Int) (n_ : Int) : Option (Int × (List Int) × Int × (List Int)) := S.l20Set_tree rb rp n_ (fun d => some d) none
theorem S.l20Set_den (rb : List Int) (rp : Int) (n_ : Int) (κ : V → List E → R) : S.l20Set_F [.ptr 0 0, .int .i64 n_] [.cells [.ro true (.ints .u8 rb), .int .i64 rp]] κ = optC (S.l20Set_t rb rp n_) (fun (r : Int × (List Int) × Int × (List Int)) => κ (.tup [(.own 1), (.int .i64 r.1)]) [.cells [(.ro true (.ints .u8 r.2.1)), (.int .i64 r.2.2.1)], .row (.ints .i64 r.2.2.2)]) none := by
  have hu : S.l20Set_F [.ptr 0 0, .int .i64 n_] [.cells [.ro true (.ints .u8 rb), .int .i64 rp]] κ = S.l20Set_tree rb rp n_ (fun d => κ (.tup [(.own 1), (.int .i64 d.1)]) [.cells [(.ro true (.ints .u8 d.2.1)), (.int .i64 d.2.2.1)], .row (.ints .i64 d.2.2.2)]) none := by
    kernel_rfl
  rw [hu]
  exact (S.l20Set_tree_nat (fun o => optC o (fun (r : Int × (List Int) × Int × (List Int)) => κ (.tup [(.own 1), (.int .i64 r.1)]) [.cells [(.ro true (.ints .u8 r.2.1)), (.int .i64 r.2.2.1)], .row (.ints .i64 r.2.2.2)]) none) rb rp n_ (fun d => some d) none).symm
noncomputable def S.l20Set_s : D.Spec where
  keep := false
  pure := false
  add := false
  ds := [.invalid, .invalid]
  sp := fun args h κ => match args, h with
    | [.ptr 0 0, .int .i64 n_], [.cells [.ro true (.ints .u8 rb), .int .i64 rp]] => optC (S.l20Set_t rb rp n_) (fun (r : Int × (List Int) × Int × (List Int)) => κ (.tup [(.own 1), (.int .i64 r.1)]) [.cells [(.ro true (.ints .u8 r.2.1)), (.int .i64 r.2.2.1)], .row (.ints .i64 r.2.2.2)]) none
    | _, _ => none
theorem S.l20Set_ok : SpecOk Try.prog 68 S.l20Set_s := by
  refine SpecOk.of TDok mixed (T := S.l20Set_T) ?_ (ann := S.l20Set_ann) Try.func68 rfl (by decide +kernel) ?_ ?_ ?_ ?_
  · intro p hp
    simp only [S.l20Set_T, List.mem_cons, List.not_mem_nil, or_false] at hp
    rcases hp with rfl | rfl
    · exact S.l20Net_ok
    · exact S.l20Rd_pick_ok
  · intro args h κ r hh
    simp only [S.l20Set_s] at hh
    split at hh
    · exact (S.l20Set_den _ _ _ κ).trans hh
    · cases hh
  · intro args h κ r hh
    simp only [S.l20Set_s] at hh ⊢
    split at hh
    · exact optC_law2 (F := fun (r : Int × (List Int) × Int × (List Int)) κ => κ (.tup [(.own 1), (.int .i64 r.1)]) [.cells [(.ro true (.ints .u8 r.2.1)), (.int .i64 r.2.2.1)], .row (.ints .i64 r.2.2.2)]) (fun b κ r hb => ⟨_, _, hb, fun _ => rfl⟩) hh
    · cases hh
  · intro hh; cases hh
  · intro hh; cases hh

-- loop.example/guardsonnets/spec.l1In
noncomputable def S.l1In_T : List (Nat × D.Spec) := []
def S.l1In_ann : Nat → List Nat × List Nat
  | _ => ([], [])
noncomputable def S.l1In_F (args : List V) (h : List E) (κ : V → List E → R) : R := funC TD (tableK S.l1In_T) S.l1In_ann (drawOk TD (tableP S.l1In_T)) FUEL Try.f70 args h κ
noncomputable def S.l1In_tree {α : Type} (n_ : Int) (low : Int) (high : Int) (leaf0_ : Bool → α) (fail_ : α) : α :=
  (bif decide (n_ ≥ low) then (leaf0_ (decide (n_ ≤ high))) else (leaf0_ false))
theorem S.l1In_tree_nat {α γ : Type} (g : α → γ) (n_ : Int) (low : Int) (high : Int) (leaf0_ : Bool → α) (fail_ : α) : g (S.l1In_tree n_ low high leaf0_ fail_) = S.l1In_tree n_ low high (fun d => g (leaf0_ d)) (g fail_) := by
  unfold S.l1In_tree; simp only [apply_cnd g, apply_optC g, apply_sumC g]
noncomputable def S.l1In_t (n_ : Int) (low : Int) (high : Int) : Option (Bool) := S.l1In_tree n_ low high (fun d => some d) none
theorem S.l1In_den (n_ : Int) (low : Int) (high : Int) (κ : V → List E → R) : S.l1In_F [.int .i64 n_, .int .i64 low, .int .i64 high] [] κ = optC (S.l1In_t n_ low high) (fun (r : Bool) => κ (.bool r) []) none := by
  have hu : S.l1In_F [.int .i64 n_, .int .i64 low, .int .i64 high] [] κ = S.l1In_tree n_ low high (fun d => κ (.bool d) []) none := by
    kernel_rfl
  rw [hu]
  exact (S.l1In_tree_nat (fun o => optC o (fun (r : Bool) => κ (.bool r) []) none) n_ low high (fun d => some d) none).symm
noncomputable def S.l1In_s : D.Spec where
  keep := false
  pure := true
  add := true
  ds := [.invalid, .invalid, .invalid]
  sp := fun args h κ => match args, h with
    | [.int .i64 n_, .int .i64 low, .int .i64 high], [] => optC (S.l1In_t n_ low high) (fun (r : Bool) => κ (.bool r) []) none
    | _, _ => none
theorem S.l1In_ok : SpecOk Try.prog 70 S.l1In_s := by
  refine SpecOk.of TDok mixed (T := S.l1In_T) ?_ (ann := S.l1In_ann) Try.func70 rfl (by decide +kernel) ?_ ?_ ?_ ?_
  · intro p hp; cases hp
  · intro args h κ r hh
    simp only [S.l1In_s] at hh
    split at hh
    · exact (S.l1In_den _ _ _ κ).trans hh
    · cases hh
  · intro args h κ r hh
    simp only [S.l1In_s] at hh ⊢
    split at hh
    · exact optC_law2 (F := fun (r : Bool) κ => κ (.bool r) []) (fun b κ r hb => ⟨_, _, hb, fun _ => rfl⟩) hh
    · cases hh
  · intro _ args h κ r hh
    simp only [S.l1In_s] at hh
    split at hh
    · exact ⟨rfl, fun _ => rfl⟩
    · cases hh
  · intro _ args h κ r hh
    simp only [S.l1In_s] at hh
    split at hh
    · rfl
    · cases hh

-- loop.example/guardsonnets/spec.NetOk
noncomputable def S.NetOk_T : List (Nat × D.Spec) := [(70, S.l1In_s)]
def S.NetOk_ann : Nat → List Nat × List Nat
  | 12 => ([0, 4, 5], [0, 2, 4])
  | 9 => ([0, 4], [2])
  | 4 => ([0, 3], [0, 2])
  | _ => ([], [])
noncomputable def S.NetOk_F (args : List V) (h : List E) (κ : V → List E → R) : R := funC TD (tableK S.NetOk_T) S.NetOk_ann (drawOk TD (tableP S.NetOk_T)) FUEL Try.f54 args h κ
noncomputable def S.NetOk_L12 (n : Nat) (σ : St) (k : X → St → R) : R := iterC 0 (fun σ k => denC TD (tableK S.NetOk_T) S.NetOk_ann (drawOk TD (tableP S.NetOk_T)) 0 FUEL ((findLoop 12 (Try.f54.body.getD .skip)).getD .skip) σ k) [0, 4, 5] [0, 2, 4] n σ k
noncomputable def S.NetOk_L9 (n : Nat) (σ : St) (k : X → St → R) : R := iterC 0 (fun σ k => denC TD (tableK S.NetOk_T) S.NetOk_ann (drawOk TD (tableP S.NetOk_T)) 0 FUEL ((findLoop 9 (Try.f54.body.getD .skip)).getD .skip) σ k) [0, 4] [2] n σ k
noncomputable def S.NetOk_L4 (n : Nat) (σ : St) (k : X → St → R) : R := iterC 0 (fun σ k => denC TD (tableK S.NetOk_T) S.NetOk_ann (drawOk TD (tableP S.NetOk_T)) 0 FUEL ((findLoop 4 (Try.f54.body.getD .skip)).getD .skip) σ k) [0, 3] [0, 2] n σ k
noncomputable def S.NetOk_k4 (κ : V → List E → R) : X → St → R := (afterC TD (tableK S.NetOk_T) S.NetOk_ann (drawOk TD (tableP S.NetOk_T)) 0 FUEL 4 (Try.f54.body.getD .skip) (finC TD 0 Try.f54 κ)).getD (fun _ _ => none)
noncomputable def S.NetOk_k12 (c : (St → R) × (X → St → R)) : X → St → R := (afterC TD (tableK S.NetOk_T) S.NetOk_ann (drawOk TD (tableP S.NetOk_T)) 0 FUEL 12 ((findLoop 9 (Try.f54.body.getD .skip)).getD .skip) (roundC 0 [0, 4] [2] c.1 c.2)).getD (fun _ _ => none)
noncomputable def S.NetOk_k9 (κ : V → List E → R) : X → St → R := (afterC TD (tableK S.NetOk_T) S.NetOk_ann (drawOk TD (tableP S.NetOk_T)) 0 FUEL 9 (Try.f54.body.getD .skip) (finC TD 0 Try.f54 κ)).getD (fun _ _ => none)
noncomputable def S.NetOk_step4 {α : Type} (x0 : List Int) (x3 : Int) (next_ : Int → α) (out0_ : Bool → α) (out1_ : Unit → α) (fail_ : α) : α :=
  (bif decide (x3 < (↑x0.length : Int)) then (bif decide (0 ≤ x3) && decide (x3 < (↑x0.length : Int)) then (optC (S.l1In_t (eli x0 x3.toNat) 0 (IntKind.i64.wrap (IntKind.i64.wrap (1 * 2 ^ min (↑x0.length : Int).toNat IntKind.i64.bits) - 1))) (fun c_2 => (bif !c_2 then (out0_ false) else (next_ (IntKind.i64.wrap (x3 + 1))))) fail_) else fail_) else (out1_ ()))
theorem S.NetOk_step4_nat {α γ : Type} (g : α → γ) (x0 : List Int) (x3 : Int) (next_ : Int → α) (out0_ : Bool → α) (out1_ : Unit → α) (fail_ : α) : g (S.NetOk_step4 x0 x3 next_ out0_ out1_ fail_) = S.NetOk_step4 x0 x3 (fun s => g (next_ s)) (fun d => g (out0_ d)) (fun d => g (out1_ d)) (g fail_) := by
  unfold S.NetOk_step4; simp only [apply_cnd g, apply_optC g, apply_sumC g]
noncomputable def S.NetOk_run4 (x0 : List Int) : Nat → Int → Option ((Bool) ⊕ (Unit))
  | 0, _ => none
  | n + 1, s_ => S.NetOk_step4 x0 s_ (S.NetOk_run4 x0 n) (fun d => some ((Sum.inl d))) (fun d => some ((Sum.inr d))) none
theorem S.NetOk_L4_run (x0 : List Int) (n : Nat) (s_ : Int) (k : X → St → R) : S.NetOk_L4 n { n := 68, t := [(0, (.ro false (.ints .i64 x0))), (3, (.int .i64 s_))], h := [] } k = optC (S.NetOk_run4 x0 n s_) (fun (r : (Bool) ⊕ (Unit)) => (sumC r (fun (r : Bool) => k (.ret) { n := 68, t := [(0, (.ro false (.ints .i64 x0))), (2, (.bool r))], h := [] }) (fun (r : Unit) => k (.exit 0) { n := 68, t := [(0, (.ro false (.ints .i64 x0))), (2, .junk)], h := [] }))) none := by
  induction n generalizing s_ with
  | zero => rfl
  | succ n ih =>
    have hu : S.NetOk_L4 (n + 1) { n := 68, t := [(0, (.ro false (.ints .i64 x0))), (3, (.int .i64 s_))], h := [] } k = S.NetOk_step4 x0 s_ (fun s_ => S.NetOk_L4 n { n := 68, t := [(0, (.ro false (.ints .i64 x0))), (3, (.int .i64 s_))], h := [] } k) (fun d => k (.ret) { n := 68, t := [(0, (.ro false (.ints .i64 x0))), (2, (.bool d))], h := [] }) (fun d => k (.exit 0) { n := 68, t := [(0, (.ro false (.ints .i64 x0))), (2, .junk)], h := [] }) none := by
      kernel_rfl
    have hs : (fun s_ : Int => S.NetOk_L4 n { n := 68, t := [(0, (.ro false (.ints .i64 x0))), (3, (.int .i64 s_))], h := [] } k) = fun s_ => optC (S.NetOk_run4 x0 n s_) (fun (r : (Bool) ⊕ (Unit)) => (sumC r (fun (r : Bool) => k (.ret) { n := 68, t := [(0, (.ro false (.ints .i64 x0))), (2, (.bool r))], h := [] }) (fun (r : Unit) => k (.exit 0) { n := 68, t := [(0, (.ro false (.ints .i64 x0))), (2, .junk)], h := [] }))) none := funext ih
    rw [hu, hs]
    exact (S.NetOk_step4_nat (fun o => optC o (fun (r : (Bool) ⊕ (Unit)) => (sumC r (fun (r : Bool) => k (.ret) { n := 68, t := [(0, (.ro false (.ints .i64 x0))), (2, (.bool r))], h := [] }) (fun (r : Unit) => k (.exit 0) { n := 68, t := [(0, (.ro false (.ints .i64 x0))), (2, .junk)], h := [] }))) none) x0 s_ (S.NetOk_run4 x0 n) (fun d => some ((Sum.inl d))) (fun d => some ((Sum.inr d))) none).symm
noncomputable def S.NetOk_step12 {α : Type} (x0 : List Int) (x4 : Int) (x5 : Int) (next_ : Int → α) (out0_ : Bool → α) (out1_ : Unit → α) (fail_ : α) : α :=
  (bif decide (x5 < (↑x0.length : Int)) then (bif decide (0 ≤ x4) && decide (x4 < (↑x0.length : Int)) then (bif decide (x5 < 0) then fail_ else (bif decide (0 ≤ x5) && decide (x5 < (↑x0.length : Int)) then (bif decide (x4 < 0) then fail_ else (bif !((eli x0 x4.toNat).fdiv (2 ^ min x5.toNat IntKind.i64.bits)).tmod 2 == ((eli x0 x5.toNat).fdiv (2 ^ min x4.toNat IntKind.i64.bits)).tmod 2 then (out0_ false) else (bif x5 == x4 then (bif decide (0 ≤ x4) && decide (x4 < (↑x0.length : Int)) then (bif decide (x5 < 0) then fail_ else (bif ((eli x0 x4.toNat).fdiv (2 ^ min x5.toNat IntKind.i64.bits)).tmod 2 == 1 then (out0_ false) else (next_ (IntKind.i64.wrap (x5 + 1))))) else fail_) else (next_ (IntKind.i64.wrap (x5 + 1)))))) else fail_)) else fail_) else (out1_ ()))
theorem S.NetOk_step12_nat {α γ : Type} (g : α → γ) (x0 : List Int) (x4 : Int) (x5 : Int) (next_ : Int → α) (out0_ : Bool → α) (out1_ : Unit → α) (fail_ : α) : g (S.NetOk_step12 x0 x4 x5 next_ out0_ out1_ fail_) = S.NetOk_step12 x0 x4 x5 (fun s => g (next_ s)) (fun d => g (out0_ d)) (fun d => g (out1_ d)) (g fail_) := by
  unfold S.NetOk_step12; simp only [apply_cnd g, apply_optC g, apply_sumC g]
noncomputable def S.NetOk_run12 (x0 : List Int) (x4 : Int) : Nat → Int → Option ((Bool) ⊕ (Unit))
  | 0, _ => none
  | n + 1, s_ => S.NetOk_step12 x0 x4 s_ (S.NetOk_run12 x0 x4 n) (fun d => some ((Sum.inl d))) (fun d => some ((Sum.inr d))) none
theorem S.NetOk_L12_run (x0 : List Int) (x4 : Int) (n : Nat) (s_ : Int) (k : X → St → R) : S.NetOk_L12 n { n := 68, t := [(0, (.ro false (.ints .i64 x0))), (4, (.int .i64 x4)), (5, (.int .i64 s_))], h := [] } k = optC (S.NetOk_run12 x0 x4 n s_) (fun (r : (Bool) ⊕ (Unit)) => (sumC r (fun (r : Bool) => k (.ret) { n := 68, t := [(0, (.ro false (.ints .i64 x0))), (2, (.bool r)), (4, (.int .i64 x4))], h := [] }) (fun (r : Unit) => k (.exit 4) { n := 68, t := [(0, (.ro false (.ints .i64 x0))), (2, .junk), (4, (.int .i64 x4))], h := [] }))) none := by
  induction n generalizing s_ with
  | zero => rfl
  | succ n ih =>
    have hu : S.NetOk_L12 (n + 1) { n := 68, t := [(0, (.ro false (.ints .i64 x0))), (4, (.int .i64 x4)), (5, (.int .i64 s_))], h := [] } k = S.NetOk_step12 x0 x4 s_ (fun s_ => S.NetOk_L12 n { n := 68, t := [(0, (.ro false (.ints .i64 x0))), (4, (.int .i64 x4)), (5, (.int .i64 s_))], h := [] } k) (fun d => k (.ret) { n := 68, t := [(0, (.ro false (.ints .i64 x0))), (2, (.bool d)), (4, (.int .i64 x4))], h := [] }) (fun d => k (.exit 4) { n := 68, t := [(0, (.ro false (.ints .i64 x0))), (2, .junk), (4, (.int .i64 x4))], h := [] }) none := by
      kernel_rfl
    have hs : (fun s_ : Int => S.NetOk_L12 n { n := 68, t := [(0, (.ro false (.ints .i64 x0))), (4, (.int .i64 x4)), (5, (.int .i64 s_))], h := [] } k) = fun s_ => optC (S.NetOk_run12 x0 x4 n s_) (fun (r : (Bool) ⊕ (Unit)) => (sumC r (fun (r : Bool) => k (.ret) { n := 68, t := [(0, (.ro false (.ints .i64 x0))), (2, (.bool r)), (4, (.int .i64 x4))], h := [] }) (fun (r : Unit) => k (.exit 4) { n := 68, t := [(0, (.ro false (.ints .i64 x0))), (2, .junk), (4, (.int .i64 x4))], h := [] }))) none := funext ih
    rw [hu, hs]
    exact (S.NetOk_step12_nat (fun o => optC o (fun (r : (Bool) ⊕ (Unit)) => (sumC r (fun (r : Bool) => k (.ret) { n := 68, t := [(0, (.ro false (.ints .i64 x0))), (2, (.bool r)), (4, (.int .i64 x4))], h := [] }) (fun (r : Unit) => k (.exit 4) { n := 68, t := [(0, (.ro false (.ints .i64 x0))), (2, .junk), (4, (.int .i64 x4))], h := [] }))) none) x0 x4 s_ (S.NetOk_run12 x0 x4 n) (fun d => some ((Sum.inl d))) (fun d => some ((Sum.inr d))) none).symm
noncomputable def S.NetOk_step9 {α : Type} (x0 : List Int) (x4 : Int) (next_ : Int → α) (out0_ : Bool → α) (out1_ : Unit → α) (fail_ : α) : α :=
  (bif decide (x4 < (↑x0.length : Int)) then (optC (S.NetOk_run12 x0 x4 FUEL 0) (fun qy_4 => (sumC qy_4 (fun (qy_4 : Bool) => (out0_ qy_4)) (fun (qy_4 : Unit) => (next_ (IntKind.i64.wrap (x4 + 1)))))) fail_) else (out1_ ()))
theorem S.NetOk_step9_nat {α γ : Type} (g : α → γ) (x0 : List Int) (x4 : Int) (next_ : Int → α) (out0_ : Bool → α) (out1_ : Unit → α) (fail_ : α) : g (S.NetOk_step9 x0 x4 next_ out0_ out1_ fail_) = S.NetOk_step9 x0 x4 (fun s => g (next_ s)) (fun d => g (out0_ d)) (fun d => g (out1_ d)) (g fail_) := by
  unfold S.NetOk_step9; simp only [apply_cnd g, apply_optC g, apply_sumC g]
noncomputable def S.NetOk_run9 (x0 : List Int) : Nat → Int → Option ((Bool) ⊕ (Unit))
  | 0, _ => none
  | n + 1, s_ => S.NetOk_step9 x0 s_ (S.NetOk_run9 x0 n) (fun d => some ((Sum.inl d))) (fun d => some ((Sum.inr d))) none
theorem S.NetOk_L9_run (x0 : List Int) (n : Nat) (s_ : Int) (k : X → St → R) : S.NetOk_L9 n { n := 68, t := [(0, (.ro false (.ints .i64 x0))), (4, (.int .i64 s_))], h := [] } k = optC (S.NetOk_run9 x0 n s_) (fun (r : (Bool) ⊕ (Unit)) => (sumC r (fun (r : Bool) => k (.ret) { n := 68, t := [(2, (.bool r))], h := [] }) (fun (r : Unit) => k (.exit 2) { n := 68, t := [(2, .junk)], h := [] }))) none := by
  induction n generalizing s_ with
  | zero => rfl
  | succ n ih =>
    have hu : S.NetOk_L9 (n + 1) { n := 68, t := [(0, (.ro false (.ints .i64 x0))), (4, (.int .i64 s_))], h := [] } k = S.NetOk_step9 x0 s_ (fun s_ => S.NetOk_L9 n { n := 68, t := [(0, (.ro false (.ints .i64 x0))), (4, (.int .i64 s_))], h := [] } k) (fun d => k (.ret) { n := 68, t := [(2, (.bool d))], h := [] }) (fun d => k (.exit 2) { n := 68, t := [(2, .junk)], h := [] }) none := by
      refine Eq.trans (show S.NetOk_L9 (n + 1) { n := 68, t := [(0, (.ro false (.ints .i64 x0))), (4, (.int .i64 s_))], h := [] } k = (bif decide (s_ < (↑x0.length : Int)) then (S.NetOk_L12 FUEL { n := 68, t := [(0, (.ro false (.ints .i64 x0))), (4, (.int .i64 s_)), (5, (.int .i64 0))], h := [] } (S.NetOk_k12 ((fun σ => S.NetOk_L9 n σ k), k))) else (k (.exit 2) { n := 68, t := [(2, .junk)], h := [] })) by kernel_rfl) ?_
      refine cnd_congr ?_ ?_
      · refine (S.NetOk_L12_run x0 s_ FUEL 0 (S.NetOk_k12 ((fun σ => S.NetOk_L9 n σ k), k))).trans (optC_congr (fun qy_4 => ?_))
        rcases qy_4 with qy_4 | qy_4
        · kernel_rfl
        · kernel_rfl
      · kernel_rfl
    have hs : (fun s_ : Int => S.NetOk_L9 n { n := 68, t := [(0, (.ro false (.ints .i64 x0))), (4, (.int .i64 s_))], h := [] } k) = fun s_ => optC (S.NetOk_run9 x0 n s_) (fun (r : (Bool) ⊕ (Unit)) => (sumC r (fun (r : Bool) => k (.ret) { n := 68, t := [(2, (.bool r))], h := [] }) (fun (r : Unit) => k (.exit 2) { n := 68, t := [(2, .junk)], h := [] }))) none := funext ih
    rw [hu, hs]
    exact (S.NetOk_step9_nat (fun o => optC o (fun (r : (Bool) ⊕ (Unit)) => (sumC r (fun (r : Bool) => k (.ret) { n := 68, t := [(2, (.bool r))], h := [] }) (fun (r : Unit) => k (.exit 2) { n := 68, t := [(2, .junk)], h := [] }))) none) x0 s_ (S.NetOk_run9 x0 n) (fun d => some ((Sum.inl d))) (fun d => some ((Sum.inr d))) none).symm
noncomputable def S.NetOk_tree {α : Type} (net : List Int) (leaf0_ : Bool → α) (fail_ : α) : α :=
  (optC (S.l1In_t (↑net.length : Int) 1 6) (fun c_1 => (bif !c_1 then (leaf0_ false) else (optC (S.NetOk_run4 net FUEL 0) (fun qy_3 => (sumC qy_3 (fun (qy_3 : Bool) => (leaf0_ qy_3)) (fun (qy_3 : Unit) => (optC (S.NetOk_run9 net FUEL 0) (fun qy_5 => (sumC qy_5 (fun (qy_5 : Bool) => (leaf0_ qy_5)) (fun (qy_5 : Unit) => (leaf0_ true)))) fail_)))) fail_))) fail_)
theorem S.NetOk_tree_nat {α γ : Type} (g : α → γ) (net : List Int) (leaf0_ : Bool → α) (fail_ : α) : g (S.NetOk_tree net leaf0_ fail_) = S.NetOk_tree net (fun d => g (leaf0_ d)) (g fail_) := by
  unfold S.NetOk_tree; simp only [apply_cnd g, apply_optC g, apply_sumC g]
noncomputable def S.NetOk_t (net : List Int) : Option (Bool) := S.NetOk_tree net (fun d => some d) none
theorem S.NetOk_den (net : List Int) (κ : V → List E → R) : S.NetOk_F [.ro false (.ints .i64 net)] [] κ = optC (S.NetOk_t net) (fun (r : Bool) => κ (.bool r) []) none := by
  have hu : S.NetOk_F [.ro false (.ints .i64 net)] [] κ = S.NetOk_tree net (fun d => κ (.bool d) []) none := by
    refine Eq.trans (show S.NetOk_F [.ro false (.ints .i64 net)] [] κ = (optC (S.l1In_t (↑net.length : Int) 1 6) (fun c_1 => (bif !c_1 then (κ (.bool false) []) else (S.NetOk_L4 FUEL { n := 68, t := [(0, (.ro false (.ints .i64 net))), (3, (.int .i64 0))], h := [] } (S.NetOk_k4 κ)))) none) by kernel_rfl) ?_
    refine optC_congr (fun c_1 => ?_)
    refine cnd_congr ?_ ?_
    · kernel_rfl
    · refine (S.NetOk_L4_run net FUEL 0 (S.NetOk_k4 κ)).trans (optC_congr (fun qy_3 => ?_))
      rcases qy_3 with qy_3 | qy_3
      · kernel_rfl
      · refine Eq.trans (show (S.NetOk_k4 κ (.exit 0) { n := 68, t := [(0, (.ro false (.ints .i64 net))), (2, .junk)], h := [] }) = (S.NetOk_L9 FUEL { n := 68, t := [(0, (.ro false (.ints .i64 net))), (4, (.int .i64 0))], h := [] } (S.NetOk_k9 κ)) by kernel_rfl) ?_
        refine (S.NetOk_L9_run net FUEL 0 (S.NetOk_k9 κ)).trans (optC_congr (fun qy_5 => ?_))
        rcases qy_5 with qy_5 | qy_5
        · kernel_rfl
        · kernel_rfl
  rw [hu]
  exact (S.NetOk_tree_nat (fun o => optC o (fun (r : Bool) => κ (.bool r) []) none) net (fun d => some d) none).symm
noncomputable def S.NetOk_s : D.Spec where
  keep := false
  pure := true
  add := true
  ds := [.int .i64]
  sp := fun args h κ => match args, h with
    | [.ro false (.ints .i64 net)], [] => optC (S.NetOk_t net) (fun (r : Bool) => κ (.bool r) []) none
    | _, _ => none
theorem S.NetOk_ok : SpecOk Try.prog 54 S.NetOk_s := by
  refine SpecOk.of TDok mixed (T := S.NetOk_T) ?_ (ann := S.NetOk_ann) Try.func54 rfl (by decide +kernel) ?_ ?_ ?_ ?_
  · intro p hp
    simp only [S.NetOk_T, List.mem_cons, List.not_mem_nil, or_false] at hp
    rcases hp with rfl
    · exact S.l1In_ok
  · intro args h κ r hh
    simp only [S.NetOk_s] at hh
    split at hh
    · exact (S.NetOk_den _ κ).trans hh
    · cases hh
  · intro args h κ r hh
    simp only [S.NetOk_s] at hh ⊢
    split at hh
    · exact optC_law2 (F := fun (r : Bool) κ => κ (.bool r) []) (fun b κ r hb => ⟨_, _, hb, fun _ => rfl⟩) hh
    · cases hh
  · intro _ args h κ r hh
    simp only [S.NetOk_s] at hh
    split at hh
    · exact ⟨rfl, fun _ => rfl⟩
    · cases hh
  · intro _ args h κ r hh
    simp only [S.NetOk_s] at hh
    split at hh
    · rfl
    · cases hh

-- loop.example/guardsonnets/spec.l1SetOk
noncomputable def S.l1SetOk_T : List (Nat × D.Spec) := [(54, S.NetOk_s), (70, S.l1In_s)]
def S.l1SetOk_ann : Nat → List Nat × List Nat
  | _ => ([], [])
noncomputable def S.l1SetOk_F (args : List V) (h : List E) (κ : V → List E → R) : R := funC TD (tableK S.l1SetOk_T) S.l1SetOk_ann (drawOk TD (tableP S.l1SetOk_T)) FUEL Try.f43 args h κ
noncomputable def S.l1SetOk_tree {α : Type} (net : List Int) (set_ : Int) (leaf0_ : Bool → α) (fail_ : α) : α :=
  (optC (S.NetOk_t net) (fun c_1 => (bif c_1 then (optC (S.l1In_t set_ 0 (IntKind.i64.wrap (IntKind.i64.wrap (1 * 2 ^ min (↑net.length : Int).toNat IntKind.i64.bits) - 1))) (fun c_2 => (leaf0_ c_2)) fail_) else (leaf0_ false))) fail_)
theorem S.l1SetOk_tree_nat {α γ : Type} (g : α → γ) (net : List Int) (set_ : Int) (leaf0_ : Bool → α) (fail_ : α) : g (S.l1SetOk_tree net set_ leaf0_ fail_) = S.l1SetOk_tree net set_ (fun d => g (leaf0_ d)) (g fail_) := by
  unfold S.l1SetOk_tree; simp only [apply_cnd g, apply_optC g, apply_sumC g]
noncomputable def S.l1SetOk_t (net : List Int) (set_ : Int) : Option (Bool) := S.l1SetOk_tree net set_ (fun d => some d) none
theorem S.l1SetOk_den (net : List Int) (set_ : Int) (κ : V → List E → R) : S.l1SetOk_F [.ro false (.ints .i64 net), .int .i64 set_] [] κ = optC (S.l1SetOk_t net set_) (fun (r : Bool) => κ (.bool r) []) none := by
  have hu : S.l1SetOk_F [.ro false (.ints .i64 net), .int .i64 set_] [] κ = S.l1SetOk_tree net set_ (fun d => κ (.bool d) []) none := by
    kernel_rfl
  rw [hu]
  exact (S.l1SetOk_tree_nat (fun o => optC o (fun (r : Bool) => κ (.bool r) []) none) net set_ (fun d => some d) none).symm
noncomputable def S.l1SetOk_s : D.Spec where
  keep := false
  pure := true
  add := true
  ds := [.int .i64, .invalid]
  sp := fun args h κ => match args, h with
    | [.ro false (.ints .i64 net), .int .i64 set_], [] => optC (S.l1SetOk_t net set_) (fun (r : Bool) => κ (.bool r) []) none
    | _, _ => none
theorem S.l1SetOk_ok : SpecOk Try.prog 43 S.l1SetOk_s := by
  refine SpecOk.of TDok mixed (T := S.l1SetOk_T) ?_ (ann := S.l1SetOk_ann) Try.func43 rfl (by decide +kernel) ?_ ?_ ?_ ?_
  · intro p hp
    simp only [S.l1SetOk_T, List.mem_cons, List.not_mem_nil, or_false] at hp
    rcases hp with rfl | rfl
    · exact S.NetOk_ok
    · exact S.l1In_ok
  · intro args h κ r hh
    simp only [S.l1SetOk_s] at hh
    split at hh
    · exact (S.l1SetOk_den _ _ κ).trans hh
    · cases hh
  · intro args h κ r hh
    simp only [S.l1SetOk_s] at hh ⊢
    split at hh
    · exact optC_law2 (F := fun (r : Bool) κ => κ (.bool r) []) (fun b κ r hb => ⟨_, _, hb, fun _ => rfl⟩) hh
    · cases hh
  · intro _ args h κ r hh
    simp only [S.l1SetOk_s] at hh
    split at hh
    · exact ⟨rfl, fun _ => rfl⟩
    · cases hh
  · intro _ args h κ r hh
    simp only [S.l1SetOk_s] at hh
    split at hh
    · rfl
    · cases hh

-- loop.example/guardsonnets/spec.l20Seen
noncomputable def S.l20Seen_T : List (Nat × D.Spec) := [(68, S.l20Set_s), (43, S.l1SetOk_s), (39, S.l20Rd_pick_s)]
def S.l20Seen_ann : Nat → List Nat × List Nat
  | _ => ([], [])
noncomputable def S.l20Seen_F (args : List V) (h : List E) (κ : V → List E → R) : R := funC TD (tableK S.l20Seen_T) S.l20Seen_ann (drawOk TD (tableP S.l20Seen_T)) FUEL Try.f38 args h κ
noncomputable def S.l20Seen_tree {α : Type} (rb : List Int) (rp : Int) (n_ : Int) (leaf0_ : Int × (List Int) × Int × (List Int) → α) (fail_ : α) : α :=
  (optC (S.l20Set_t rb rp n_) (fun c_1 => (optC (S.l1SetOk_t c_1.snd.snd.snd c_1.fst) (fun c_2 => (bif c_2 then (optC (S.l20Rd_pick_t c_1.snd.fst c_1.snd.snd.fst 2) (fun c_3 => (bif c_3.fst == 0 then (optC (S.l20Rd_pick_t c_3.snd.fst c_3.snd.snd (IntKind.i64.wrap (1 * 2 ^ min (↑c_1.snd.snd.snd.length : Int).toNat IntKind.i64.bits))) (fun c_4 => (leaf0_ (bits BinOp.and IntKind.i64 c_1.fst c_4.fst, c_4.snd.fst, c_4.snd.snd, c_1.snd.snd.snd))) fail_) else (leaf0_ (c_1.fst, c_3.snd.fst, c_3.snd.snd, c_1.snd.snd.snd)))) fail_) else (leaf0_ (c_1.fst, c_1.snd.fst, c_1.snd.snd.fst, c_1.snd.snd.snd)))) fail_)) fail_)
theorem S.l20Seen_tree_nat {α γ : Type} (g : α → γ) (rb : List Int) (rp : Int) (n_ : Int) (leaf0_ : Int × (List Int) × Int × (List Int) → α) (fail_ : α) : g (S.l20Seen_tree rb rp n_ leaf0_ fail_) = S.l20Seen_tree rb rp n_ (fun d => g (leaf0_ d)) (g fail_) := by
  unfold S.l20Seen_tree; simp only [apply_cnd g, apply_optC g, apply_sumC g]
noncomputable def S.l20Seen_t (rb : List Int) (rp : Int) (n_ : Int) : Option (Int × (List Int) × Int × (List Int)) := S.l20Seen_tree rb rp n_ (fun d => some d) none
theorem S.l20Seen_den (rb : List Int) (rp : Int) (n_ : Int) (κ : V → List E → R) : S.l20Seen_F [.ptr 0 0, .int .i64 n_] [.cells [.ro true (.ints .u8 rb), .int .i64 rp]] κ = optC (S.l20Seen_t rb rp n_) (fun (r : Int × (List Int) × Int × (List Int)) => κ (.tup [(.own 1), (.int .i64 r.1)]) [.cells [(.ro true (.ints .u8 r.2.1)), (.int .i64 r.2.2.1)], .row (.ints .i64 r.2.2.2)]) none := by
  have hu : S.l20Seen_F [.ptr 0 0, .int .i64 n_] [.cells [.ro true (.ints .u8 rb), .int .i64 rp]] κ = S.l20Seen_tree rb rp n_ (fun d => κ (.tup [(.own 1), (.int .i64 d.1)]) [.cells [(.ro true (.ints .u8 d.2.1)), (.int .i64 d.2.2.1)], .row (.ints .i64 d.2.2.2)]) none := by
    kernel_rfl
  rw [hu]
  exact (S.l20Seen_tree_nat (fun o => optC o (fun (r : Int × (List Int) × Int × (List Int)) => κ (.tup [(.own 1), (.int .i64 r.1)]) [.cells [(.ro true (.ints .u8 r.2.1)), (.int .i64 r.2.2.1)], .row (.ints .i64 r.2.2.2)]) none) rb rp n_ (fun d => some d) none).symm
noncomputable def S.l20Seen_s : D.Spec where
  keep := false
  pure := false
  add := false
  ds := [.invalid, .invalid]
  sp := fun args h κ => match args, h with
    | [.ptr 0 0, .int .i64 n_], [.cells [.ro true (.ints .u8 rb), .int .i64 rp]] => optC (S.l20Seen_t rb rp n_) (fun (r : Int × (List Int) × Int × (List Int)) => κ (.tup [(.own 1), (.int .i64 r.1)]) [.cells [(.ro true (.ints .u8 r.2.1)), (.int .i64 r.2.2.1)], .row (.ints .i64 r.2.2.2)]) none
    | _, _ => none
theorem S.l20Seen_ok : SpecOk Try.prog 38 S.l20Seen_s := by
  refine SpecOk.of TDok mixed (T := S.l20Seen_T) ?_ (ann := S.l20Seen_ann) Try.func38 rfl (by decide +kernel) ?_ ?_ ?_ ?_
  · intro p hp
    simp only [S.l20Seen_T, List.mem_cons, List.not_mem_nil, or_false] at hp
    rcases hp with rfl | rfl | rfl
    · exact S.l20Set_ok
    · exact S.l1SetOk_ok
    · exact S.l20Rd_pick_ok
  · intro args h κ r hh
    simp only [S.l20Seen_s] at hh
    split at hh
    · exact (S.l20Seen_den _ _ _ κ).trans hh
    · cases hh
  · intro args h κ r hh
    simp only [S.l20Seen_s] at hh ⊢
    split at hh
    · exact optC_law2 (F := fun (r : Int × (List Int) × Int × (List Int)) κ => κ (.tup [(.own 1), (.int .i64 r.1)]) [.cells [(.ro true (.ints .u8 r.2.1)), (.int .i64 r.2.2.1)], .row (.ints .i64 r.2.2.2)]) (fun b κ r hb => ⟨_, _, hb, fun _ => rfl⟩) hh
    · cases hh
  · intro hh; cases hh
  · intro hh; cases hh

-- loop.example/guardsonnets/spec.DrawGameMoves
noncomputable def S.DrawGameMoves_T : List (Nat × D.Spec) := [(37, S.l20Open_s), (38, S.l20Seen_s), (39, S.l20Rd_pick_s)]
def S.DrawGameMoves_ann : Nat → List Nat × List Nat
  | _ => ([], [])
noncomputable def S.DrawGameMoves_F (args : List V) (h : List E) (κ : V → List E → R) : R := funC TD (tableK S.DrawGameMoves_T) S.DrawGameMoves_ann (drawOk TD (tableP S.DrawGameMoves_T)) FUEL Try.f11 args h κ
noncomputable def S.DrawGameMoves_tree {α : Type} (code : List Int) (leaf0_ : Int × Bool × (List Int) → α) (fail_ : α) : α :=
  (optC (S.l20Open_t code) (fun c_1 => (optC (S.l20Seen_t c_1.fst c_1.snd 12) (fun c_2 => (optC (S.l20Rd_pick_t c_2.snd.fst c_2.snd.snd.fst 2) (fun c_3 => (leaf0_ (c_2.fst, c_3.fst == 0, c_2.snd.snd.snd))) fail_)) fail_)) fail_)
theorem S.DrawGameMoves_tree_nat {α γ : Type} (g : α → γ) (code : List Int) (leaf0_ : Int × Bool × (List Int) → α) (fail_ : α) : g (S.DrawGameMoves_tree code leaf0_ fail_) = S.DrawGameMoves_tree code (fun d => g (leaf0_ d)) (g fail_) := by
  unfold S.DrawGameMoves_tree; simp only [apply_cnd g, apply_optC g, apply_sumC g]
noncomputable def S.DrawGameMoves_t (code : List Int) : Option (Int × Bool × (List Int)) := S.DrawGameMoves_tree code (fun d => some d) none
theorem S.DrawGameMoves_den (code : List Int) (κ : V → List E → R) : S.DrawGameMoves_F [.ro true (.ints .u8 code)] [] κ = optC (S.DrawGameMoves_t code) (fun (r : Int × Bool × (List Int)) => κ (.tup [(.own 0), (.int .i64 r.1), (.bool r.2.1)]) [.row (.ints .i64 r.2.2)]) none := by
  have hu : S.DrawGameMoves_F [.ro true (.ints .u8 code)] [] κ = S.DrawGameMoves_tree code (fun d => κ (.tup [(.own 0), (.int .i64 d.1), (.bool d.2.1)]) [.row (.ints .i64 d.2.2)]) none := by
    kernel_rfl
  rw [hu]
  exact (S.DrawGameMoves_tree_nat (fun o => optC o (fun (r : Int × Bool × (List Int)) => κ (.tup [(.own 0), (.int .i64 r.1), (.bool r.2.1)]) [.row (.ints .i64 r.2.2)]) none) code (fun d => some d) none).symm
noncomputable def S.DrawGameMoves_s : D.Spec where
  keep := true
  pure := false
  add := true
  ds := [.int .u8]
  sp := fun args h κ => match args, h with
    | [.ro true (.ints .u8 code)], [] => optC (S.DrawGameMoves_t code) (fun (r : Int × Bool × (List Int)) => κ (.tup [(.own 0), (.int .i64 r.1), (.bool r.2.1)]) [.row (.ints .i64 r.2.2)]) none
    | _, _ => none
theorem S.DrawGameMoves_ok : SpecOk Try.prog 11 S.DrawGameMoves_s := by
  refine SpecOk.of TDok mixed (T := S.DrawGameMoves_T) ?_ (ann := S.DrawGameMoves_ann) Try.func11 rfl (by decide +kernel) ?_ ?_ ?_ ?_
  · intro p hp
    simp only [S.DrawGameMoves_T, List.mem_cons, List.not_mem_nil, or_false] at hp
    rcases hp with rfl | rfl | rfl
    · exact S.l20Open_ok
    · exact S.l20Seen_ok
    · exact S.l20Rd_pick_ok
  · intro args h κ r hh
    simp only [S.DrawGameMoves_s] at hh
    split at hh
    · exact (S.DrawGameMoves_den _ κ).trans hh
    · cases hh
  · intro args h κ r hh
    simp only [S.DrawGameMoves_s] at hh ⊢
    split at hh
    · exact optC_law2 (F := fun (r : Int × Bool × (List Int)) κ => κ (.tup [(.own 0), (.int .i64 r.1), (.bool r.2.1)]) [.row (.ints .i64 r.2.2)]) (fun b κ r hb => ⟨_, _, hb, fun _ => rfl⟩) hh
    · cases hh
  · intro hh; cases hh
  · intro _ args h κ r hh
    simp only [S.DrawGameMoves_s] at hh
    split at hh
    · rfl
    · cases hh

-- loop.example/guardsonnets/impl.setIn
noncomputable def I.setIn_T : List (Nat × D.Spec) := []
def I.setIn_ann : Nat → List Nat × List Nat
  | _ => ([], [])
noncomputable def I.setIn_F (args : List V) (h : List E) (κ : V → List E → R) : R := funC TD (tableK I.setIn_T) I.setIn_ann (drawOk TD (tableP I.setIn_T)) FUEL Try.f40 args h κ
noncomputable def I.setIn_tree {α : Type} (net : List Int) (set_ : Int) (leaf0_ : Bool → α) (fail_ : α) : α :=
  (bif decide (set_ ≥ 0) then (leaf0_ (decide (set_ < IntKind.i64.wrap (1 * 2 ^ min (↑net.length : Int).toNat IntKind.i64.bits)))) else (leaf0_ false))
theorem I.setIn_tree_nat {α γ : Type} (g : α → γ) (net : List Int) (set_ : Int) (leaf0_ : Bool → α) (fail_ : α) : g (I.setIn_tree net set_ leaf0_ fail_) = I.setIn_tree net set_ (fun d => g (leaf0_ d)) (g fail_) := by
  unfold I.setIn_tree; simp only [apply_cnd g, apply_optC g, apply_sumC g]
noncomputable def I.setIn_t (net : List Int) (set_ : Int) : Option (Bool) := I.setIn_tree net set_ (fun d => some d) none
theorem I.setIn_den (net : List Int) (set_ : Int) (κ : V → List E → R) : I.setIn_F [.ro false (.ints .i64 net), .int .i64 set_] [] κ = optC (I.setIn_t net set_) (fun (r : Bool) => κ (.bool r) []) none := by
  have hu : I.setIn_F [.ro false (.ints .i64 net), .int .i64 set_] [] κ = I.setIn_tree net set_ (fun d => κ (.bool d) []) none := by
    kernel_rfl
  rw [hu]
  exact (I.setIn_tree_nat (fun o => optC o (fun (r : Bool) => κ (.bool r) []) none) net set_ (fun d => some d) none).symm
noncomputable def I.setIn_s : D.Spec where
  keep := false
  pure := true
  add := true
  ds := [.int .i64, .invalid]
  sp := fun args h κ => match args, h with
    | [.ro false (.ints .i64 net), .int .i64 set_], [] => optC (I.setIn_t net set_) (fun (r : Bool) => κ (.bool r) []) none
    | _, _ => none
theorem I.setIn_ok : SpecOk Try.prog 40 I.setIn_s := by
  refine SpecOk.of TDok mixed (T := I.setIn_T) ?_ (ann := I.setIn_ann) Try.func40 rfl (by decide +kernel) ?_ ?_ ?_ ?_
  · intro p hp; cases hp
  · intro args h κ r hh
    simp only [I.setIn_s] at hh
    split at hh
    · exact (I.setIn_den _ _ κ).trans hh
    · cases hh
  · intro args h κ r hh
    simp only [I.setIn_s] at hh ⊢
    split at hh
    · exact optC_law2 (F := fun (r : Bool) κ => κ (.bool r) []) (fun b κ r hb => ⟨_, _, hb, fun _ => rfl⟩) hh
    · cases hh
  · intro _ args h κ r hh
    simp only [I.setIn_s] at hh
    split at hh
    · exact ⟨rfl, fun _ => rfl⟩
    · cases hh
  · intro _ args h κ r hh
    simp only [I.setIn_s] at hh
    split at hh
    · rfl
    · cases hh

-- loop.example/guardsonnets/impl.hasPlace
noncomputable def I.hasPlace_T : List (Nat × D.Spec) := []
def I.hasPlace_ann : Nat → List Nat × List Nat
  | _ => ([], [])
noncomputable def I.hasPlace_F (args : List V) (h : List E) (κ : V → List E → R) : R := funC TD (tableK I.hasPlace_T) I.hasPlace_ann (drawOk TD (tableP I.hasPlace_T)) FUEL Try.f55 args h κ
noncomputable def I.hasPlace_tree {α : Type} (set_ : Int) (place : Int) (leaf0_ : Bool → α) (fail_ : α) : α :=
  (bif decide (place < 0) then fail_ else (leaf0_ (bits BinOp.and IntKind.i64 (set_.fdiv (2 ^ min place.toNat IntKind.i64.bits)) 1 == 1)))
theorem I.hasPlace_tree_nat {α γ : Type} (g : α → γ) (set_ : Int) (place : Int) (leaf0_ : Bool → α) (fail_ : α) : g (I.hasPlace_tree set_ place leaf0_ fail_) = I.hasPlace_tree set_ place (fun d => g (leaf0_ d)) (g fail_) := by
  unfold I.hasPlace_tree; simp only [apply_cnd g, apply_optC g, apply_sumC g]
noncomputable def I.hasPlace_t (set_ : Int) (place : Int) : Option (Bool) := I.hasPlace_tree set_ place (fun d => some d) none
theorem I.hasPlace_den (set_ : Int) (place : Int) (κ : V → List E → R) : I.hasPlace_F [.int .i64 set_, .int .i64 place] [] κ = optC (I.hasPlace_t set_ place) (fun (r : Bool) => κ (.bool r) []) none := by
  have hu : I.hasPlace_F [.int .i64 set_, .int .i64 place] [] κ = I.hasPlace_tree set_ place (fun d => κ (.bool d) []) none := by
    kernel_rfl
  rw [hu]
  exact (I.hasPlace_tree_nat (fun o => optC o (fun (r : Bool) => κ (.bool r) []) none) set_ place (fun d => some d) none).symm
noncomputable def I.hasPlace_s : D.Spec where
  keep := false
  pure := true
  add := true
  ds := [.invalid, .invalid]
  sp := fun args h κ => match args, h with
    | [.int .i64 set_, .int .i64 place], [] => optC (I.hasPlace_t set_ place) (fun (r : Bool) => κ (.bool r) []) none
    | _, _ => none
theorem I.hasPlace_ok : SpecOk Try.prog 55 I.hasPlace_s := by
  refine SpecOk.of TDok mixed (T := I.hasPlace_T) ?_ (ann := I.hasPlace_ann) Try.func55 rfl (by decide +kernel) ?_ ?_ ?_ ?_
  · intro p hp; cases hp
  · intro args h κ r hh
    simp only [I.hasPlace_s] at hh
    split at hh
    · exact (I.hasPlace_den _ _ κ).trans hh
    · cases hh
  · intro args h κ r hh
    simp only [I.hasPlace_s] at hh ⊢
    split at hh
    · exact optC_law2 (F := fun (r : Bool) κ => κ (.bool r) []) (fun b κ r hb => ⟨_, _, hb, fun _ => rfl⟩) hh
    · cases hh
  · intro _ args h κ r hh
    simp only [I.hasPlace_s] at hh
    split at hh
    · exact ⟨rfl, fun _ => rfl⟩
    · cases hh
  · intro _ args h κ r hh
    simp only [I.hasPlace_s] at hh
    split at hh
    · rfl
    · cases hh

-- loop.example/guardsonnets/impl.knownBack
noncomputable def I.knownBack_T : List (Nat × D.Spec) := [(55, I.hasPlace_s)]
def I.knownBack_ann : Nat → List Nat × List Nat
  | 2 => ([0, 1, 5], [4])
  | _ => ([], [])
noncomputable def I.knownBack_F (args : List V) (h : List E) (κ : V → List E → R) : R := funC TD (tableK I.knownBack_T) I.knownBack_ann (drawOk TD (tableP I.knownBack_T)) FUEL Try.f56 args h κ
noncomputable def I.knownBack_L2 (n : Nat) (σ : St) (k : X → St → R) : R := iterC 0 (fun σ k => denC TD (tableK I.knownBack_T) I.knownBack_ann (drawOk TD (tableP I.knownBack_T)) 0 FUEL ((findLoop 2 (Try.f56.body.getD .skip)).getD .skip) σ k) [0, 1, 5] [4] n σ k
noncomputable def I.knownBack_k2 (κ : V → List E → R) : X → St → R := (afterC TD (tableK I.knownBack_T) I.knownBack_ann (drawOk TD (tableP I.knownBack_T)) 0 FUEL 2 (Try.f56.body.getD .skip) (finC TD 0 Try.f56 κ)).getD (fun _ _ => none)
noncomputable def I.knownBack_step2 {α : Type} (x0 : List Int) (x1 : Int) (x5 : Int) (next_ : Int → α) (out0_ : Bool → α) (out1_ : Unit → α) (fail_ : α) : α :=
  (bif decide (x5 < (↑x0.length : Int)) then (bif decide (0 ≤ x1) && decide (x1 < (↑x0.length : Int)) then (optC (I.hasPlace_t (eli x0 x1.toNat) x5) (fun c_1 => (bif c_1 then (bif decide (0 ≤ x5) && decide (x5 < (↑x0.length : Int)) then (optC (I.hasPlace_t (eli x0 x5.toNat) x1) (fun c_2 => (bif !c_2 then (out0_ false) else (next_ (IntKind.i64.wrap (x5 + 1))))) fail_) else fail_) else (next_ (IntKind.i64.wrap (x5 + 1))))) fail_) else fail_) else (out1_ ()))
theorem I.knownBack_step2_nat {α γ : Type} (g : α → γ) (x0 : List Int) (x1 : Int) (x5 : Int) (next_ : Int → α) (out0_ : Bool → α) (out1_ : Unit → α) (fail_ : α) : g (I.knownBack_step2 x0 x1 x5 next_ out0_ out1_ fail_) = I.knownBack_step2 x0 x1 x5 (fun s => g (next_ s)) (fun d => g (out0_ d)) (fun d => g (out1_ d)) (g fail_) := by
  unfold I.knownBack_step2; simp only [apply_cnd g, apply_optC g, apply_sumC g]
noncomputable def I.knownBack_run2 (x0 : List Int) (x1 : Int) : Nat → Int → Option ((Bool) ⊕ (Unit))
  | 0, _ => none
  | n + 1, s_ => I.knownBack_step2 x0 x1 s_ (I.knownBack_run2 x0 x1 n) (fun d => some ((Sum.inl d))) (fun d => some ((Sum.inr d))) none
theorem I.knownBack_L2_run (x0 : List Int) (x1 : Int) (n : Nat) (s_ : Int) (k : X → St → R) : I.knownBack_L2 n { n := 27, t := [(0, (.ro false (.ints .i64 x0))), (1, (.int .i64 x1)), (5, (.int .i64 s_))], h := [] } k = optC (I.knownBack_run2 x0 x1 n s_) (fun (r : (Bool) ⊕ (Unit)) => (sumC r (fun (r : Bool) => k (.ret) { n := 27, t := [(4, (.bool r))], h := [] }) (fun (r : Unit) => k (.exit 0) { n := 27, t := [(4, .junk)], h := [] }))) none := by
  induction n generalizing s_ with
  | zero => rfl
  | succ n ih =>
    have hu : I.knownBack_L2 (n + 1) { n := 27, t := [(0, (.ro false (.ints .i64 x0))), (1, (.int .i64 x1)), (5, (.int .i64 s_))], h := [] } k = I.knownBack_step2 x0 x1 s_ (fun s_ => I.knownBack_L2 n { n := 27, t := [(0, (.ro false (.ints .i64 x0))), (1, (.int .i64 x1)), (5, (.int .i64 s_))], h := [] } k) (fun d => k (.ret) { n := 27, t := [(4, (.bool d))], h := [] }) (fun d => k (.exit 0) { n := 27, t := [(4, .junk)], h := [] }) none := by
      kernel_rfl
    have hs : (fun s_ : Int => I.knownBack_L2 n { n := 27, t := [(0, (.ro false (.ints .i64 x0))), (1, (.int .i64 x1)), (5, (.int .i64 s_))], h := [] } k) = fun s_ => optC (I.knownBack_run2 x0 x1 n s_) (fun (r : (Bool) ⊕ (Unit)) => (sumC r (fun (r : Bool) => k (.ret) { n := 27, t := [(4, (.bool r))], h := [] }) (fun (r : Unit) => k (.exit 0) { n := 27, t := [(4, .junk)], h := [] }))) none := funext ih
    rw [hu, hs]
    exact (I.knownBack_step2_nat (fun o => optC o (fun (r : (Bool) ⊕ (Unit)) => (sumC r (fun (r : Bool) => k (.ret) { n := 27, t := [(4, (.bool r))], h := [] }) (fun (r : Unit) => k (.exit 0) { n := 27, t := [(4, .junk)], h := [] }))) none) x0 x1 s_ (I.knownBack_run2 x0 x1 n) (fun d => some ((Sum.inl d))) (fun d => some ((Sum.inr d))) none).symm
noncomputable def I.knownBack_tree {α : Type} (net : List Int) (place : Int) (leaf0_ : Bool → α) (fail_ : α) : α :=
  (optC (I.knownBack_run2 net place FUEL 0) (fun qy_3 => (sumC qy_3 (fun (qy_3 : Bool) => (leaf0_ qy_3)) (fun (qy_3 : Unit) => (leaf0_ true)))) fail_)
theorem I.knownBack_tree_nat {α γ : Type} (g : α → γ) (net : List Int) (place : Int) (leaf0_ : Bool → α) (fail_ : α) : g (I.knownBack_tree net place leaf0_ fail_) = I.knownBack_tree net place (fun d => g (leaf0_ d)) (g fail_) := by
  unfold I.knownBack_tree; simp only [apply_cnd g, apply_optC g, apply_sumC g]
noncomputable def I.knownBack_t (net : List Int) (place : Int) : Option (Bool) := I.knownBack_tree net place (fun d => some d) none
theorem I.knownBack_den (net : List Int) (place : Int) (κ : V → List E → R) : I.knownBack_F [.ro false (.ints .i64 net), .int .i64 place] [] κ = optC (I.knownBack_t net place) (fun (r : Bool) => κ (.bool r) []) none := by
  have hu : I.knownBack_F [.ro false (.ints .i64 net), .int .i64 place] [] κ = I.knownBack_tree net place (fun d => κ (.bool d) []) none := by
    refine Eq.trans (show I.knownBack_F [.ro false (.ints .i64 net), .int .i64 place] [] κ = (I.knownBack_L2 FUEL { n := 27, t := [(0, (.ro false (.ints .i64 net))), (1, (.int .i64 place)), (5, (.int .i64 0))], h := [] } (I.knownBack_k2 κ)) by kernel_rfl) ?_
    refine (I.knownBack_L2_run net place FUEL 0 (I.knownBack_k2 κ)).trans (optC_congr (fun qy_3 => ?_))
    rcases qy_3 with qy_3 | qy_3
    · kernel_rfl
    · kernel_rfl
  rw [hu]
  exact (I.knownBack_tree_nat (fun o => optC o (fun (r : Bool) => κ (.bool r) []) none) net place (fun d => some d) none).symm
noncomputable def I.knownBack_s : D.Spec where
  keep := false
  pure := true
  add := true
  ds := [.int .i64, .invalid]
  sp := fun args h κ => match args, h with
    | [.ro false (.ints .i64 net), .int .i64 place], [] => optC (I.knownBack_t net place) (fun (r : Bool) => κ (.bool r) []) none
    | _, _ => none
theorem I.knownBack_ok : SpecOk Try.prog 56 I.knownBack_s := by
  refine SpecOk.of TDok mixed (T := I.knownBack_T) ?_ (ann := I.knownBack_ann) Try.func56 rfl (by decide +kernel) ?_ ?_ ?_ ?_
  · intro p hp
    simp only [I.knownBack_T, List.mem_cons, List.not_mem_nil, or_false] at hp
    rcases hp with rfl
    · exact I.hasPlace_ok
  · intro args h κ r hh
    simp only [I.knownBack_s] at hh
    split at hh
    · exact (I.knownBack_den _ _ κ).trans hh
    · cases hh
  · intro args h κ r hh
    simp only [I.knownBack_s] at hh ⊢
    split at hh
    · exact optC_law2 (F := fun (r : Bool) κ => κ (.bool r) []) (fun b κ r hb => ⟨_, _, hb, fun _ => rfl⟩) hh
    · cases hh
  · intro _ args h κ r hh
    simp only [I.knownBack_s] at hh
    split at hh
    · exact ⟨rfl, fun _ => rfl⟩
    · cases hh
  · intro _ args h κ r hh
    simp only [I.knownBack_s] at hh
    split at hh
    · rfl
    · cases hh

-- loop.example/guardsonnets/impl.NetOk
noncomputable def I.NetOk_T : List (Nat × D.Spec) := [(40, I.setIn_s), (55, I.hasPlace_s), (56, I.knownBack_s)]
def I.NetOk_ann : Nat → List Nat × List Nat
  | 4 => ([0, 3], [2])
  | _ => ([], [])
noncomputable def I.NetOk_F (args : List V) (h : List E) (κ : V → List E → R) : R := funC TD (tableK I.NetOk_T) I.NetOk_ann (drawOk TD (tableP I.NetOk_T)) FUEL Try.f28 args h κ
noncomputable def I.NetOk_L4 (n : Nat) (σ : St) (k : X → St → R) : R := iterC 0 (fun σ k => denC TD (tableK I.NetOk_T) I.NetOk_ann (drawOk TD (tableP I.NetOk_T)) 0 FUEL ((findLoop 4 (Try.f28.body.getD .skip)).getD .skip) σ k) [0, 3] [2] n σ k
noncomputable def I.NetOk_k4 (κ : V → List E → R) : X → St → R := (afterC TD (tableK I.NetOk_T) I.NetOk_ann (drawOk TD (tableP I.NetOk_T)) 0 FUEL 4 (Try.f28.body.getD .skip) (finC TD 0 Try.f28 κ)).getD (fun _ _ => none)
noncomputable def I.NetOk_step4 {α : Type} (x0 : List Int) (x3 : Int) (next_ : Int → α) (out0_ : Bool → α) (out1_ : Unit → α) (fail_ : α) : α :=
  (bif decide (x3 < (↑x0.length : Int)) then (bif decide (0 ≤ x3) && decide (x3 < (↑x0.length : Int)) then (optC (I.setIn_t x0 (eli x0 x3.toNat)) (fun c_1 => (bif !c_1 then (out0_ false) else (bif decide (0 ≤ x3) && decide (x3 < (↑x0.length : Int)) then (optC (I.hasPlace_t (eli x0 x3.toNat) x3) (fun c_2 => (bif c_2 then (out0_ false) else (optC (I.knownBack_t x0 x3) (fun c_3 => (bif !c_3 then (out0_ false) else (next_ (IntKind.i64.wrap (x3 + 1))))) fail_))) fail_) else fail_))) fail_) else fail_) else (out1_ ()))
theorem I.NetOk_step4_nat {α γ : Type} (g : α → γ) (x0 : List Int) (x3 : Int) (next_ : Int → α) (out0_ : Bool → α) (out1_ : Unit → α) (fail_ : α) : g (I.NetOk_step4 x0 x3 next_ out0_ out1_ fail_) = I.NetOk_step4 x0 x3 (fun s => g (next_ s)) (fun d => g (out0_ d)) (fun d => g (out1_ d)) (g fail_) := by
  unfold I.NetOk_step4; simp only [apply_cnd g, apply_optC g, apply_sumC g]
noncomputable def I.NetOk_run4 (x0 : List Int) : Nat → Int → Option ((Bool) ⊕ (Unit))
  | 0, _ => none
  | n + 1, s_ => I.NetOk_step4 x0 s_ (I.NetOk_run4 x0 n) (fun d => some ((Sum.inl d))) (fun d => some ((Sum.inr d))) none
theorem I.NetOk_L4_run (x0 : List Int) (n : Nat) (s_ : Int) (k : X → St → R) : I.NetOk_L4 n { n := 39, t := [(0, (.ro false (.ints .i64 x0))), (3, (.int .i64 s_))], h := [] } k = optC (I.NetOk_run4 x0 n s_) (fun (r : (Bool) ⊕ (Unit)) => (sumC r (fun (r : Bool) => k (.ret) { n := 39, t := [(2, (.bool r))], h := [] }) (fun (r : Unit) => k (.exit 0) { n := 39, t := [(2, .junk)], h := [] }))) none := by
  induction n generalizing s_ with
  | zero => rfl
  | succ n ih =>
    have hu : I.NetOk_L4 (n + 1) { n := 39, t := [(0, (.ro false (.ints .i64 x0))), (3, (.int .i64 s_))], h := [] } k = I.NetOk_step4 x0 s_ (fun s_ => I.NetOk_L4 n { n := 39, t := [(0, (.ro false (.ints .i64 x0))), (3, (.int .i64 s_))], h := [] } k) (fun d => k (.ret) { n := 39, t := [(2, (.bool d))], h := [] }) (fun d => k (.exit 0) { n := 39, t := [(2, .junk)], h := [] }) none := by
      kernel_rfl
    have hs : (fun s_ : Int => I.NetOk_L4 n { n := 39, t := [(0, (.ro false (.ints .i64 x0))), (3, (.int .i64 s_))], h := [] } k) = fun s_ => optC (I.NetOk_run4 x0 n s_) (fun (r : (Bool) ⊕ (Unit)) => (sumC r (fun (r : Bool) => k (.ret) { n := 39, t := [(2, (.bool r))], h := [] }) (fun (r : Unit) => k (.exit 0) { n := 39, t := [(2, .junk)], h := [] }))) none := funext ih
    rw [hu, hs]
    exact (I.NetOk_step4_nat (fun o => optC o (fun (r : (Bool) ⊕ (Unit)) => (sumC r (fun (r : Bool) => k (.ret) { n := 39, t := [(2, (.bool r))], h := [] }) (fun (r : Unit) => k (.exit 0) { n := 39, t := [(2, .junk)], h := [] }))) none) x0 s_ (I.NetOk_run4 x0 n) (fun d => some ((Sum.inl d))) (fun d => some ((Sum.inr d))) none).symm
noncomputable def I.NetOk_tree {α : Type} (net : List Int) (leaf0_ : Bool → α) (fail_ : α) : α :=
  (bif decide ((↑net.length : Int) < 1) then (leaf0_ false) else (bif decide ((↑net.length : Int) > 6) then (leaf0_ false) else (optC (I.NetOk_run4 net FUEL 0) (fun qy_4 => (sumC qy_4 (fun (qy_4 : Bool) => (leaf0_ qy_4)) (fun (qy_4 : Unit) => (leaf0_ true)))) fail_)))
theorem I.NetOk_tree_nat {α γ : Type} (g : α → γ) (net : List Int) (leaf0_ : Bool → α) (fail_ : α) : g (I.NetOk_tree net leaf0_ fail_) = I.NetOk_tree net (fun d => g (leaf0_ d)) (g fail_) := by
  unfold I.NetOk_tree; simp only [apply_cnd g, apply_optC g, apply_sumC g]
noncomputable def I.NetOk_t (net : List Int) : Option (Bool) := I.NetOk_tree net (fun d => some d) none
theorem I.NetOk_den (net : List Int) (κ : V → List E → R) : I.NetOk_F [.ro false (.ints .i64 net)] [] κ = optC (I.NetOk_t net) (fun (r : Bool) => κ (.bool r) []) none := by
  have hu : I.NetOk_F [.ro false (.ints .i64 net)] [] κ = I.NetOk_tree net (fun d => κ (.bool d) []) none := by
    refine Eq.trans (show I.NetOk_F [.ro false (.ints .i64 net)] [] κ = (bif decide ((↑net.length : Int) < 1) then (κ (.bool false) []) else (bif decide ((↑net.length : Int) > 6) then (κ (.bool false) []) else (I.NetOk_L4 FUEL { n := 39, t := [(0, (.ro false (.ints .i64 net))), (3, (.int .i64 0))], h := [] } (I.NetOk_k4 κ)))) by kernel_rfl) ?_
    refine cnd_congr ?_ ?_
    · kernel_rfl
    · refine cnd_congr ?_ ?_
      · kernel_rfl
      · refine (I.NetOk_L4_run net FUEL 0 (I.NetOk_k4 κ)).trans (optC_congr (fun qy_4 => ?_))
        rcases qy_4 with qy_4 | qy_4
        · kernel_rfl
        · kernel_rfl
  rw [hu]
  exact (I.NetOk_tree_nat (fun o => optC o (fun (r : Bool) => κ (.bool r) []) none) net (fun d => some d) none).symm
noncomputable def I.NetOk_s : D.Spec where
  keep := false
  pure := true
  add := true
  ds := [.int .i64]
  sp := fun args h κ => match args, h with
    | [.ro false (.ints .i64 net)], [] => optC (I.NetOk_t net) (fun (r : Bool) => κ (.bool r) []) none
    | _, _ => none
theorem I.NetOk_ok : SpecOk Try.prog 28 I.NetOk_s := by
  refine SpecOk.of TDok mixed (T := I.NetOk_T) ?_ (ann := I.NetOk_ann) Try.func28 rfl (by decide +kernel) ?_ ?_ ?_ ?_
  · intro p hp
    simp only [I.NetOk_T, List.mem_cons, List.not_mem_nil, or_false] at hp
    rcases hp with rfl | rfl | rfl
    · exact I.setIn_ok
    · exact I.hasPlace_ok
    · exact I.knownBack_ok
  · intro args h κ r hh
    simp only [I.NetOk_s] at hh
    split at hh
    · exact (I.NetOk_den _ κ).trans hh
    · cases hh
  · intro args h κ r hh
    simp only [I.NetOk_s] at hh ⊢
    split at hh
    · exact optC_law2 (F := fun (r : Bool) κ => κ (.bool r) []) (fun b κ r hb => ⟨_, _, hb, fun _ => rfl⟩) hh
    · cases hh
  · intro _ args h κ r hh
    simp only [I.NetOk_s] at hh
    split at hh
    · exact ⟨rfl, fun _ => rfl⟩
    · cases hh
  · intro _ args h κ r hh
    simp only [I.NetOk_s] at hh
    split at hh
    · rfl
    · cases hh

-- loop.example/guardsonnets/impl.allOf
noncomputable def I.allOf_T : List (Nat × D.Spec) := []
def I.allOf_ann : Nat → List Nat × List Nat
  | _ => ([], [])
noncomputable def I.allOf_F (args : List V) (h : List E) (κ : V → List E → R) : R := funC TD (tableK I.allOf_T) I.allOf_ann (drawOk TD (tableP I.allOf_T)) FUEL Try.f65 args h κ
noncomputable def I.allOf_tree {α : Type} (net : List Int) (leaf0_ : Int → α) (fail_ : α) : α :=
  (leaf0_ (IntKind.i64.wrap (IntKind.i64.wrap (1 * 2 ^ min (↑net.length : Int).toNat IntKind.i64.bits) - 1)))
theorem I.allOf_tree_nat {α γ : Type} (g : α → γ) (net : List Int) (leaf0_ : Int → α) (fail_ : α) : g (I.allOf_tree net leaf0_ fail_) = I.allOf_tree net (fun d => g (leaf0_ d)) (g fail_) := by
  unfold I.allOf_tree; simp only [apply_cnd g, apply_optC g, apply_sumC g]
noncomputable def I.allOf_t (net : List Int) : Option (Int) := I.allOf_tree net (fun d => some d) none
theorem I.allOf_den (net : List Int) (κ : V → List E → R) : I.allOf_F [.ro false (.ints .i64 net)] [] κ = optC (I.allOf_t net) (fun (r : Int) => κ (.int .i64 r) []) none := by
  have hu : I.allOf_F [.ro false (.ints .i64 net)] [] κ = I.allOf_tree net (fun d => κ (.int .i64 d) []) none := by
    kernel_rfl
  rw [hu]
  exact (I.allOf_tree_nat (fun o => optC o (fun (r : Int) => κ (.int .i64 r) []) none) net (fun d => some d) none).symm
noncomputable def I.allOf_s : D.Spec where
  keep := false
  pure := true
  add := true
  ds := [.int .i64]
  sp := fun args h κ => match args, h with
    | [.ro false (.ints .i64 net)], [] => optC (I.allOf_t net) (fun (r : Int) => κ (.int .i64 r) []) none
    | _, _ => none
theorem I.allOf_ok : SpecOk Try.prog 65 I.allOf_s := by
  refine SpecOk.of TDok mixed (T := I.allOf_T) ?_ (ann := I.allOf_ann) Try.func65 rfl (by decide +kernel) ?_ ?_ ?_ ?_
  · intro p hp; cases hp
  · intro args h κ r hh
    simp only [I.allOf_s] at hh
    split at hh
    · exact (I.allOf_den _ κ).trans hh
    · cases hh
  · intro args h κ r hh
    simp only [I.allOf_s] at hh ⊢
    split at hh
    · exact optC_law2 (F := fun (r : Int) κ => κ (.int .i64 r) []) (fun b κ r hb => ⟨_, _, hb, fun _ => rfl⟩) hh
    · cases hh
  · intro _ args h κ r hh
    simp only [I.allOf_s] at hh
    split at hh
    · exact ⟨rfl, fun _ => rfl⟩
    · cases hh
  · intro _ args h κ r hh
    simp only [I.allOf_s] at hh
    split at hh
    · rfl
    · cases hh

-- loop.example/guardsonnets/impl.ballIn
noncomputable def I.ballIn_T : List (Nat × D.Spec) := []
def I.ballIn_ann : Nat → List Nat × List Nat
  | _ => ([], [])
noncomputable def I.ballIn_F (args : List V) (h : List E) (κ : V → List E → R) : R := funC TD (tableK I.ballIn_T) I.ballIn_ann (drawOk TD (tableP I.ballIn_T)) FUEL Try.f52 args h κ
noncomputable def I.ballIn_tree {α : Type} (net : List Int) (place : Int) (leaf0_ : Int → α) (fail_ : α) : α :=
  (bif decide (0 ≤ place) && decide (place < (↑net.length : Int)) then (bif decide (place < 0) then fail_ else (leaf0_ (bits BinOp.or IntKind.i64 (eli net place.toNat) (IntKind.i64.wrap (1 * 2 ^ min place.toNat IntKind.i64.bits))))) else fail_)
theorem I.ballIn_tree_nat {α γ : Type} (g : α → γ) (net : List Int) (place : Int) (leaf0_ : Int → α) (fail_ : α) : g (I.ballIn_tree net place leaf0_ fail_) = I.ballIn_tree net place (fun d => g (leaf0_ d)) (g fail_) := by
  unfold I.ballIn_tree; simp only [apply_cnd g, apply_optC g, apply_sumC g]
noncomputable def I.ballIn_t (net : List Int) (place : Int) : Option (Int) := I.ballIn_tree net place (fun d => some d) none
theorem I.ballIn_den (net : List Int) (place : Int) (κ : V → List E → R) : I.ballIn_F [.ro false (.ints .i64 net), .int .i64 place] [] κ = optC (I.ballIn_t net place) (fun (r : Int) => κ (.int .i64 r) []) none := by
  have hu : I.ballIn_F [.ro false (.ints .i64 net), .int .i64 place] [] κ = I.ballIn_tree net place (fun d => κ (.int .i64 d) []) none := by
    kernel_rfl
  rw [hu]
  exact (I.ballIn_tree_nat (fun o => optC o (fun (r : Int) => κ (.int .i64 r) []) none) net place (fun d => some d) none).symm
noncomputable def I.ballIn_s : D.Spec where
  keep := false
  pure := true
  add := true
  ds := [.int .i64, .invalid]
  sp := fun args h κ => match args, h with
    | [.ro false (.ints .i64 net), .int .i64 place], [] => optC (I.ballIn_t net place) (fun (r : Int) => κ (.int .i64 r) []) none
    | _, _ => none
theorem I.ballIn_ok : SpecOk Try.prog 52 I.ballIn_s := by
  refine SpecOk.of TDok mixed (T := I.ballIn_T) ?_ (ann := I.ballIn_ann) Try.func52 rfl (by decide +kernel) ?_ ?_ ?_ ?_
  · intro p hp; cases hp
  · intro args h κ r hh
    simp only [I.ballIn_s] at hh
    split at hh
    · exact (I.ballIn_den _ _ κ).trans hh
    · cases hh
  · intro args h κ r hh
    simp only [I.ballIn_s] at hh ⊢
    split at hh
    · exact optC_law2 (F := fun (r : Int) κ => κ (.int .i64 r) []) (fun b κ r hb => ⟨_, _, hb, fun _ => rfl⟩) hh
    · cases hh
  · intro _ args h κ r hh
    simp only [I.ballIn_s] at hh
    split at hh
    · exact ⟨rfl, fun _ => rfl⟩
    · cases hh
  · intro _ args h κ r hh
    simp only [I.ballIn_s] at hh
    split at hh
    · rfl
    · cases hh

-- loop.example/guardsonnets/impl.playIn
noncomputable def I.playIn_T : List (Nat × D.Spec) := [(52, I.ballIn_s)]
def I.playIn_ann : Nat → List Nat × List Nat
  | _ => ([], [])
noncomputable def I.playIn_F (args : List V) (h : List E) (κ : V → List E → R) : R := funC TD (tableK I.playIn_T) I.playIn_ann (drawOk TD (tableP I.playIn_T)) FUEL Try.f51 args h κ
noncomputable def I.playIn_tree {α : Type} (net : List Int) (seen : Int) (place : Int) (leaf0_ : Bool → α) (fail_ : α) : α :=
  (optC (I.ballIn_t net place) (fun c_1 => (leaf0_ (bits BinOp.andNot IntKind.i64 c_1 seen != 0))) fail_)
theorem I.playIn_tree_nat {α γ : Type} (g : α → γ) (net : List Int) (seen : Int) (place : Int) (leaf0_ : Bool → α) (fail_ : α) : g (I.playIn_tree net seen place leaf0_ fail_) = I.playIn_tree net seen place (fun d => g (leaf0_ d)) (g fail_) := by
  unfold I.playIn_tree; simp only [apply_cnd g, apply_optC g, apply_sumC g]
noncomputable def I.playIn_t (net : List Int) (seen : Int) (place : Int) : Option (Bool) := I.playIn_tree net seen place (fun d => some d) none
theorem I.playIn_den (net : List Int) (seen : Int) (place : Int) (κ : V → List E → R) : I.playIn_F [.ro false (.ints .i64 net), .int .i64 seen, .int .i64 place] [] κ = optC (I.playIn_t net seen place) (fun (r : Bool) => κ (.bool r) []) none := by
  have hu : I.playIn_F [.ro false (.ints .i64 net), .int .i64 seen, .int .i64 place] [] κ = I.playIn_tree net seen place (fun d => κ (.bool d) []) none := by
    kernel_rfl
  rw [hu]
  exact (I.playIn_tree_nat (fun o => optC o (fun (r : Bool) => κ (.bool r) []) none) net seen place (fun d => some d) none).symm
noncomputable def I.playIn_s : D.Spec where
  keep := false
  pure := true
  add := true
  ds := [.int .i64, .invalid, .invalid]
  sp := fun args h κ => match args, h with
    | [.ro false (.ints .i64 net), .int .i64 seen, .int .i64 place], [] => optC (I.playIn_t net seen place) (fun (r : Bool) => κ (.bool r) []) none
    | _, _ => none
theorem I.playIn_ok : SpecOk Try.prog 51 I.playIn_s := by
  refine SpecOk.of TDok mixed (T := I.playIn_T) ?_ (ann := I.playIn_ann) Try.func51 rfl (by decide +kernel) ?_ ?_ ?_ ?_
  · intro p hp
    simp only [I.playIn_T, List.mem_cons, List.not_mem_nil, or_false] at hp
    rcases hp with rfl
    · exact I.ballIn_ok
  · intro args h κ r hh
    simp only [I.playIn_s] at hh
    split at hh
    · exact (I.playIn_den _ _ _ κ).trans hh
    · cases hh
  · intro args h κ r hh
    simp only [I.playIn_s] at hh ⊢
    split at hh
    · exact optC_law2 (F := fun (r : Bool) κ => κ (.bool r) []) (fun b κ r hb => ⟨_, _, hb, fun _ => rfl⟩) hh
    · cases hh
  · intro _ args h κ r hh
    simp only [I.playIn_s] at hh
    split at hh
    · exact ⟨rfl, fun _ => rfl⟩
    · cases hh
  · intro _ args h κ r hh
    simp only [I.playIn_s] at hh
    split at hh
    · rfl
    · cases hh

-- loop.example/guardsonnets/impl.fewerOf
noncomputable def I.fewerOf_T : List (Nat × D.Spec) := []
def I.fewerOf_ann : Nat → List Nat × List Nat
  | _ => ([], [])
noncomputable def I.fewerOf_F (args : List V) (h : List E) (κ : V → List E → R) : R := funC TD (tableK I.fewerOf_T) I.fewerOf_ann (drawOk TD (tableP I.fewerOf_T)) FUEL Try.f67 args h κ
noncomputable def I.fewerOf_tree {α : Type} (fewest : Int) (number : Int) (leaf0_ : Int → α) (fail_ : α) : α :=
  (bif decide (fewest < 0) then (leaf0_ number) else (bif decide (number < fewest) then (leaf0_ number) else (leaf0_ fewest)))
theorem I.fewerOf_tree_nat {α γ : Type} (g : α → γ) (fewest : Int) (number : Int) (leaf0_ : Int → α) (fail_ : α) : g (I.fewerOf_tree fewest number leaf0_ fail_) = I.fewerOf_tree fewest number (fun d => g (leaf0_ d)) (g fail_) := by
  unfold I.fewerOf_tree; simp only [apply_cnd g, apply_optC g, apply_sumC g]
noncomputable def I.fewerOf_t (fewest : Int) (number : Int) : Option (Int) := I.fewerOf_tree fewest number (fun d => some d) none
theorem I.fewerOf_den (fewest : Int) (number : Int) (κ : V → List E → R) : I.fewerOf_F [.int .i64 fewest, .int .i64 number] [] κ = optC (I.fewerOf_t fewest number) (fun (r : Int) => κ (.int .i64 r) []) none := by
  have hu : I.fewerOf_F [.int .i64 fewest, .int .i64 number] [] κ = I.fewerOf_tree fewest number (fun d => κ (.int .i64 d) []) none := by
    kernel_rfl
  rw [hu]
  exact (I.fewerOf_tree_nat (fun o => optC o (fun (r : Int) => κ (.int .i64 r) []) none) fewest number (fun d => some d) none).symm
noncomputable def I.fewerOf_s : D.Spec where
  keep := false
  pure := true
  add := true
  ds := [.invalid, .invalid]
  sp := fun args h κ => match args, h with
    | [.int .i64 fewest, .int .i64 number], [] => optC (I.fewerOf_t fewest number) (fun (r : Int) => κ (.int .i64 r) []) none
    | _, _ => none
theorem I.fewerOf_ok : SpecOk Try.prog 67 I.fewerOf_s := by
  refine SpecOk.of TDok mixed (T := I.fewerOf_T) ?_ (ann := I.fewerOf_ann) Try.func67 rfl (by decide +kernel) ?_ ?_ ?_ ?_
  · intro p hp; cases hp
  · intro args h κ r hh
    simp only [I.fewerOf_s] at hh
    split at hh
    · exact (I.fewerOf_den _ _ κ).trans hh
    · cases hh
  · intro args h κ r hh
    simp only [I.fewerOf_s] at hh ⊢
    split at hh
    · exact optC_law2 (F := fun (r : Int) κ => κ (.int .i64 r) []) (fun b κ r hb => ⟨_, _, hb, fun _ => rfl⟩) hh
    · cases hh
  · intro _ args h κ r hh
    simp only [I.fewerOf_s] at hh
    split at hh
    · exact ⟨rfl, fun _ => rfl⟩
    · cases hh
  · intro _ args h κ r hh
    simp only [I.fewerOf_s] at hh
    split at hh
    · rfl
    · cases hh

-- loop.example/guardsonnets/impl.gameFrom
noncomputable def I.gameFrom_T : List (Nat × D.Spec) := [(51, I.playIn_s), (52, I.ballIn_s), (67, I.fewerOf_s)]
def I.gameFrom_ann : Nat → List Nat × List Nat
  | 4 => ([0, 1, 2, 6, 7, 8, 9], [6, 7, 8])
  | _ => ([], [])
noncomputable def I.gameFrom_F (args : List V) (h : List E) (κ : V → List E → R) : R := funC TD (tableK I.gameFrom_T) I.gameFrom_ann (drawOk TD (tableP I.gameFrom_T)) FUEL Try.f69 args h κ
noncomputable def I.gameFrom_L4 (n : Nat) (σ : St) (k : X → St → R) : R := iterC 0 (fun σ k => denC TD (tableK I.gameFrom_T) I.gameFrom_ann (drawOk TD (tableP I.gameFrom_T)) 0 FUEL ((findLoop 4 (Try.f69.body.getD .skip)).getD .skip) σ k) [0, 1, 2, 6, 7, 8, 9] [6, 7, 8] n σ k
noncomputable def I.gameFrom_k4 (κ : V → List E → R) : X → St → R := (afterC TD (tableK I.gameFrom_T) I.gameFrom_ann (drawOk TD (tableP I.gameFrom_T)) 0 FUEL 4 (Try.f69.body.getD .skip) (finC TD 0 Try.f69 κ)).getD (fun _ _ => none)
noncomputable def I.gameFrom_step4 {α : Type} (x0 : List Int) (x1 : List Int) (x2 : Int) (x7 : Int) (x8 : Int) (x9 : Int) (r0_0 : Int) (r0_1 : Int) (next_ : Int × Int × Int × Int × Int → α) (out0_ : Int × Int × Int × Int → α) (fail_ : α) : α :=
  (bif decide (x9 < (↑x0.length : Int)) then (optC (I.playIn_t x0 x2 x9) (fun c_1 => (bif !c_1 then (next_ (x7, x8, IntKind.i64.wrap (x9 + 1), r0_0, r0_1)) else (optC (I.ballIn_t x0 x9) (fun c_2 => (bif decide (0 ≤ bits BinOp.or IntKind.i64 x2 c_2) && decide (bits BinOp.or IntKind.i64 x2 c_2 < (↑(x1.length / 2) : Int)) then (optC (I.fewerOf_t x7 (eli x1 ((bits BinOp.or IntKind.i64 x2 c_2).toNat * 2 + 1))) (fun c_3 => (bif decide (eli x1 ((bits BinOp.or IntKind.i64 x2 c_2).toNat * 2 + 0) > x8) then (next_ (c_3, eli x1 ((bits BinOp.or IntKind.i64 x2 c_2).toNat * 2 + 0), IntKind.i64.wrap (x9 + 1), r0_0, r0_1)) else (next_ (c_3, x8, IntKind.i64.wrap (x9 + 1), r0_0, r0_1)))) fail_) else fail_)) fail_))) fail_) else (out0_ (x7, x8, r0_0, r0_1)))
theorem I.gameFrom_step4_nat {α γ : Type} (g : α → γ) (x0 : List Int) (x1 : List Int) (x2 : Int) (x7 : Int) (x8 : Int) (x9 : Int) (r0_0 : Int) (r0_1 : Int) (next_ : Int × Int × Int × Int × Int → α) (out0_ : Int × Int × Int × Int → α) (fail_ : α) : g (I.gameFrom_step4 x0 x1 x2 x7 x8 x9 r0_0 r0_1 next_ out0_ fail_) = I.gameFrom_step4 x0 x1 x2 x7 x8 x9 r0_0 r0_1 (fun s => g (next_ s)) (fun d => g (out0_ d)) (g fail_) := by
  unfold I.gameFrom_step4; simp only [apply_cnd g, apply_optC g, apply_sumC g]
noncomputable def I.gameFrom_run4 (x0 : List Int) (x1 : List Int) (x2 : Int) : Nat → Int × Int × Int × Int × Int → Option (Int × Int × Int × Int)
  | 0, _ => none
  | n + 1, s_ => I.gameFrom_step4 x0 x1 x2 s_.1 s_.2.1 s_.2.2.1 s_.2.2.2.1 s_.2.2.2.2 (I.gameFrom_run4 x0 x1 x2 n) (fun d => some d) none
theorem I.gameFrom_L4_run (x0 : List Int) (x1 : List Int) (x2 : Int) (n : Nat) (s_ : Int × Int × Int × Int × Int) (k : X → St → R) : I.gameFrom_L4 n { n := 45, t := [(0, (.ro false (.ints .i64 x0))), (1, (.recs false 2 x1)), (2, (.int .i64 x2)), (6, (.ptr 0 0)), (7, (.int .i64 s_.1)), (8, (.int .i64 s_.2.1)), (9, (.int .i64 s_.2.2.1))], h := [.cells [(.int .i64 s_.2.2.2.1), (.int .i64 s_.2.2.2.2)]] } k = optC (I.gameFrom_run4 x0 x1 x2 n s_) (fun (r : Int × Int × Int × Int) => k (.exit 0) { n := 45, t := [(6, (.ptr 0 0)), (7, (.int .i64 r.1)), (8, (.int .i64 r.2.1))], h := [.cells [(.int .i64 r.2.2.1), (.int .i64 r.2.2.2)]] }) none := by
  induction n generalizing s_ with
  | zero => rfl
  | succ n ih =>
    have hu : I.gameFrom_L4 (n + 1) { n := 45, t := [(0, (.ro false (.ints .i64 x0))), (1, (.recs false 2 x1)), (2, (.int .i64 x2)), (6, (.ptr 0 0)), (7, (.int .i64 s_.1)), (8, (.int .i64 s_.2.1)), (9, (.int .i64 s_.2.2.1))], h := [.cells [(.int .i64 s_.2.2.2.1), (.int .i64 s_.2.2.2.2)]] } k = I.gameFrom_step4 x0 x1 x2 s_.1 s_.2.1 s_.2.2.1 s_.2.2.2.1 s_.2.2.2.2 (fun s_ => I.gameFrom_L4 n { n := 45, t := [(0, (.ro false (.ints .i64 x0))), (1, (.recs false 2 x1)), (2, (.int .i64 x2)), (6, (.ptr 0 0)), (7, (.int .i64 s_.1)), (8, (.int .i64 s_.2.1)), (9, (.int .i64 s_.2.2.1))], h := [.cells [(.int .i64 s_.2.2.2.1), (.int .i64 s_.2.2.2.2)]] } k) (fun d => k (.exit 0) { n := 45, t := [(6, (.ptr 0 0)), (7, (.int .i64 d.1)), (8, (.int .i64 d.2.1))], h := [.cells [(.int .i64 d.2.2.1), (.int .i64 d.2.2.2)]] }) none := by
      kernel_rfl
    have hs : (fun s_ : Int × Int × Int × Int × Int => I.gameFrom_L4 n { n := 45, t := [(0, (.ro false (.ints .i64 x0))), (1, (.recs false 2 x1)), (2, (.int .i64 x2)), (6, (.ptr 0 0)), (7, (.int .i64 s_.1)), (8, (.int .i64 s_.2.1)), (9, (.int .i64 s_.2.2.1))], h := [.cells [(.int .i64 s_.2.2.2.1), (.int .i64 s_.2.2.2.2)]] } k) = fun s_ => optC (I.gameFrom_run4 x0 x1 x2 n s_) (fun (r : Int × Int × Int × Int) => k (.exit 0) { n := 45, t := [(6, (.ptr 0 0)), (7, (.int .i64 r.1)), (8, (.int .i64 r.2.1))], h := [.cells [(.int .i64 r.2.2.1), (.int .i64 r.2.2.2)]] }) none := funext ih
    rw [hu, hs]
    exact (I.gameFrom_step4_nat (fun o => optC o (fun (r : Int × Int × Int × Int) => k (.exit 0) { n := 45, t := [(6, (.ptr 0 0)), (7, (.int .i64 r.1)), (8, (.int .i64 r.2.1))], h := [.cells [(.int .i64 r.2.2.1), (.int .i64 r.2.2.2)]] }) none) x0 x1 x2 s_.1 s_.2.1 s_.2.2.1 s_.2.2.2.1 s_.2.2.2.2 (I.gameFrom_run4 x0 x1 x2 n) (fun d => some d) none).symm
noncomputable def I.gameFrom_tree {α : Type} (net : List Int) (games : List Int) (seen : Int) (leaf0_ : Int × Int → α) (fail_ : α) : α :=
  (optC (I.gameFrom_run4 net games seen FUEL (-1, 0, 0, 0, 0)) (fun qy_4 => (leaf0_ (IntKind.i64.wrap (qy_4.1 + 1), IntKind.i64.wrap (qy_4.2.1 + 1)))) fail_)
theorem I.gameFrom_tree_nat {α γ : Type} (g : α → γ) (net : List Int) (games : List Int) (seen : Int) (leaf0_ : Int × Int → α) (fail_ : α) : g (I.gameFrom_tree net games seen leaf0_ fail_) = I.gameFrom_tree net games seen (fun d => g (leaf0_ d)) (g fail_) := by
  unfold I.gameFrom_tree; simp only [apply_cnd g, apply_optC g, apply_sumC g]
noncomputable def I.gameFrom_t (net : List Int) (games : List Int) (seen : Int) : Option (Int × Int) := I.gameFrom_tree net games seen (fun d => some d) none
theorem I.gameFrom_den (net : List Int) (games : List Int) (seen : Int) (κ : V → List E → R) : I.gameFrom_F [.ro false (.ints .i64 net), .recs false 2 games, .int .i64 seen] [] κ = optC (I.gameFrom_t net games seen) (fun (r : Int × Int) => κ (.agg [(.int .i64 r.1), (.int .i64 r.2)]) []) none := by
  have hu : I.gameFrom_F [.ro false (.ints .i64 net), .recs false 2 games, .int .i64 seen] [] κ = I.gameFrom_tree net games seen (fun d => κ (.agg [(.int .i64 d.1), (.int .i64 d.2)]) []) none := by
    refine Eq.trans (show I.gameFrom_F [.ro false (.ints .i64 net), .recs false 2 games, .int .i64 seen] [] κ = (I.gameFrom_L4 FUEL { n := 45, t := [(0, (.ro false (.ints .i64 net))), (1, (.recs false 2 games)), (2, (.int .i64 seen)), (6, (.ptr 0 0)), (7, (.int .i64 (-1))), (8, (.int .i64 0)), (9, (.int .i64 0))], h := [.cells [(.int .i64 0), (.int .i64 0)]] } (I.gameFrom_k4 κ)) by kernel_rfl) ?_
    refine (I.gameFrom_L4_run net games seen FUEL (-1, 0, 0, 0, 0) (I.gameFrom_k4 κ)).trans (optC_congr (fun qy_4 => ?_))
    kernel_rfl
  rw [hu]
  exact (I.gameFrom_tree_nat (fun o => optC o (fun (r : Int × Int) => κ (.agg [(.int .i64 r.1), (.int .i64 r.2)]) []) none) net games seen (fun d => some d) none).symm
noncomputable def I.gameFrom_s : D.Spec where
  keep := false
  pure := true
  add := true
  ds := [.int .i64, .invalid, .invalid]
  sp := fun args h κ => match args, h with
    | [.ro false (.ints .i64 net), .recs false 2 games, .int .i64 seen], [] => optC (I.gameFrom_t net games seen) (fun (r : Int × Int) => κ (.agg [(.int .i64 r.1), (.int .i64 r.2)]) []) none
    | _, _ => none
theorem I.gameFrom_ok : SpecOk Try.prog 69 I.gameFrom_s := by
  refine SpecOk.of TDok mixed (T := I.gameFrom_T) ?_ (ann := I.gameFrom_ann) Try.func69 rfl (by decide +kernel) ?_ ?_ ?_ ?_
  · intro p hp
    simp only [I.gameFrom_T, List.mem_cons, List.not_mem_nil, or_false] at hp
    rcases hp with rfl | rfl | rfl
    · exact I.playIn_ok
    · exact I.ballIn_ok
    · exact I.fewerOf_ok
  · intro args h κ r hh
    simp only [I.gameFrom_s] at hh
    split at hh
    · exact (I.gameFrom_den _ _ _ κ).trans hh
    · cases hh
  · intro args h κ r hh
    simp only [I.gameFrom_s] at hh ⊢
    split at hh
    · exact optC_law2 (F := fun (r : Int × Int) κ => κ (.agg [(.int .i64 r.1), (.int .i64 r.2)]) []) (fun b κ r hb => ⟨_, _, hb, fun _ => rfl⟩) hh
    · cases hh
  · intro _ args h κ r hh
    simp only [I.gameFrom_s] at hh
    split at hh
    · exact ⟨rfl, fun _ => rfl⟩
    · cases hh
  · intro _ args h κ r hh
    simp only [I.gameFrom_s] at hh
    split at hh
    · rfl
    · cases hh

-- loop.example/guardsonnets/impl.gamesIn
noncomputable def I.gamesIn_T : List (Nat × D.Spec) := [(65, I.allOf_s), (69, I.gameFrom_s)]
def I.gamesIn_ann : Nat → List Nat × List Nat
  | 3 => ([0, 3, 4], [3])
  | _ => ([], [])
noncomputable def I.gamesIn_F (args : List V) (h : List E) (κ : V → List E → R) : R := funC TD (tableK I.gamesIn_T) I.gamesIn_ann (drawOk TD (tableP I.gamesIn_T)) FUEL Try.f42 args h κ
noncomputable def I.gamesIn_L3 (n : Nat) (σ : St) (k : X → St → R) : R := iterC 0 (fun σ k => denC TD (tableK I.gamesIn_T) I.gamesIn_ann (drawOk TD (tableP I.gamesIn_T)) 0 FUEL ((findLoop 3 (Try.f42.body.getD .skip)).getD .skip) σ k) [0, 3, 4] [3] n σ k
noncomputable def I.gamesIn_k3 (κ : V → List E → R) : X → St → R := (afterC TD (tableK I.gamesIn_T) I.gamesIn_ann (drawOk TD (tableP I.gamesIn_T)) 0 FUEL 3 (Try.f42.body.getD .skip) (finC TD 0 Try.f42 κ)).getD (fun _ _ => none)
noncomputable def I.gamesIn_step3 {α : Type} (x0 : List Int) (x4 : Int) (r0 : List Int) (next_ : Int × (List Int) → α) (out0_ : List Int → α) (fail_ : α) : α :=
  (bif decide (x4 ≥ 0) then (optC (I.gameFrom_t x0 r0 x4) (fun c_3 => (bif decide (0 ≤ x4) && decide (x4 < (↑(r0.length / 2) : Int)) then (bif decide (x4.toNat * 2 + 2 ≤ r0.length) then (next_ (IntKind.i64.wrap (x4 - 1), List.take (x4.toNat * 2) r0 ++ ([c_3.fst, c_3.snd] ++ List.drop (x4.toNat * 2 + 2) r0))) else fail_) else fail_)) fail_) else (out0_ r0))
theorem I.gamesIn_step3_nat {α γ : Type} (g : α → γ) (x0 : List Int) (x4 : Int) (r0 : List Int) (next_ : Int × (List Int) → α) (out0_ : List Int → α) (fail_ : α) : g (I.gamesIn_step3 x0 x4 r0 next_ out0_ fail_) = I.gamesIn_step3 x0 x4 r0 (fun s => g (next_ s)) (fun d => g (out0_ d)) (g fail_) := by
  unfold I.gamesIn_step3; simp only [apply_cnd g, apply_optC g, apply_sumC g]
noncomputable def I.gamesIn_run3 (x0 : List Int) : Nat → Int × (List Int) → Option (List Int)
  | 0, _ => none
  | n + 1, s_ => I.gamesIn_step3 x0 s_.1 s_.2 (I.gamesIn_run3 x0 n) (fun d => some d) none
theorem I.gamesIn_L3_run (x0 : List Int) (n : Nat) (s_ : Int × (List Int)) (k : X → St → R) : I.gamesIn_L3 n { n := 24, t := [(0, (.ro false (.ints .i64 x0))), (3, (.own 0)), (4, (.int .i64 s_.1))], h := [.recs 2 s_.2] } k = optC (I.gamesIn_run3 x0 n s_) (fun (r : List Int) => k (.exit 0) { n := 24, t := [(3, (.own 0))], h := [.recs 2 r] }) none := by
  induction n generalizing s_ with
  | zero => rfl
  | succ n ih =>
    have hu : I.gamesIn_L3 (n + 1) { n := 24, t := [(0, (.ro false (.ints .i64 x0))), (3, (.own 0)), (4, (.int .i64 s_.1))], h := [.recs 2 s_.2] } k = I.gamesIn_step3 x0 s_.1 s_.2 (fun s_ => I.gamesIn_L3 n { n := 24, t := [(0, (.ro false (.ints .i64 x0))), (3, (.own 0)), (4, (.int .i64 s_.1))], h := [.recs 2 s_.2] } k) (fun d => k (.exit 0) { n := 24, t := [(3, (.own 0))], h := [.recs 2 d] }) none := by
      kernel_rfl
    have hs : (fun s_ : Int × (List Int) => I.gamesIn_L3 n { n := 24, t := [(0, (.ro false (.ints .i64 x0))), (3, (.own 0)), (4, (.int .i64 s_.1))], h := [.recs 2 s_.2] } k) = fun s_ => optC (I.gamesIn_run3 x0 n s_) (fun (r : List Int) => k (.exit 0) { n := 24, t := [(3, (.own 0))], h := [.recs 2 r] }) none := funext ih
    rw [hu, hs]
    exact (I.gamesIn_step3_nat (fun o => optC o (fun (r : List Int) => k (.exit 0) { n := 24, t := [(3, (.own 0))], h := [.recs 2 r] }) none) x0 s_.1 s_.2 (I.gamesIn_run3 x0 n) (fun d => some d) none).symm
noncomputable def I.gamesIn_tree {α : Type} (net : List Int) (leaf0_ : List Int → α) (fail_ : α) : α :=
  (optC (I.allOf_t net) (fun c_1 => (bif decide (0 ≤ IntKind.i64.wrap (c_1 + 1)) && small (IntKind.i64.wrap (c_1 + 1)).toNat then (optC (I.allOf_t net) (fun c_2 => (optC (I.gamesIn_run3 net FUEL (IntKind.i64.wrap (c_2 - 1), List.replicate ((IntKind.i64.wrap (c_1 + 1)).toNat * 2) 0)) (fun qy_4 => (leaf0_ qy_4)) fail_)) fail_) else fail_)) fail_)
theorem I.gamesIn_tree_nat {α γ : Type} (g : α → γ) (net : List Int) (leaf0_ : List Int → α) (fail_ : α) : g (I.gamesIn_tree net leaf0_ fail_) = I.gamesIn_tree net (fun d => g (leaf0_ d)) (g fail_) := by
  unfold I.gamesIn_tree; simp only [apply_cnd g, apply_optC g, apply_sumC g]
noncomputable def I.gamesIn_t (net : List Int) : Option (List Int) := I.gamesIn_tree net (fun d => some d) none
theorem I.gamesIn_den (net : List Int) (κ : V → List E → R) : I.gamesIn_F [.ro false (.ints .i64 net)] [] κ = optC (I.gamesIn_t net) (fun (r : List Int) => κ (.own 0) [.recs 2 r]) none := by
  have hu : I.gamesIn_F [.ro false (.ints .i64 net)] [] κ = I.gamesIn_tree net (fun d => κ (.own 0) [.recs 2 d]) none := by
    refine Eq.trans (show I.gamesIn_F [.ro false (.ints .i64 net)] [] κ = (optC (I.allOf_t net) (fun c_1 => (bif decide (0 ≤ IntKind.i64.wrap (c_1 + 1)) && small (IntKind.i64.wrap (c_1 + 1)).toNat then (optC (I.allOf_t net) (fun c_2 => (I.gamesIn_L3 FUEL { n := 24, t := [(0, (.ro false (.ints .i64 net))), (3, (.own 0)), (4, (.int .i64 (IntKind.i64.wrap (c_2 - 1))))], h := [.recs 2 (List.replicate ((IntKind.i64.wrap (c_1 + 1)).toNat * 2) 0)] } (I.gamesIn_k3 κ))) none) else none)) none) by kernel_rfl) ?_
    refine optC_congr (fun c_1 => ?_)
    refine cnd_congr ?_ ?_
    · refine optC_congr (fun c_2 => ?_)
      refine (I.gamesIn_L3_run net FUEL (IntKind.i64.wrap (c_2 - 1), List.replicate ((IntKind.i64.wrap (c_1 + 1)).toNat * 2) 0) (I.gamesIn_k3 κ)).trans (optC_congr (fun qy_4 => ?_))
      kernel_rfl
    · kernel_rfl
  rw [hu]
  exact (I.gamesIn_tree_nat (fun o => optC o (fun (r : List Int) => κ (.own 0) [.recs 2 r]) none) net (fun d => some d) none).symm
noncomputable def I.gamesIn_s : D.Spec where
  keep := false
  pure := false
  add := true
  ds := [.int .i64]
  sp := fun args h κ => match args, h with
    | [.ro false (.ints .i64 net)], [] => optC (I.gamesIn_t net) (fun (r : List Int) => κ (.own 0) [.recs 2 r]) none
    | _, _ => none
theorem I.gamesIn_ok : SpecOk Try.prog 42 I.gamesIn_s := by
  refine SpecOk.of TDok mixed (T := I.gamesIn_T) ?_ (ann := I.gamesIn_ann) Try.func42 rfl (by decide +kernel) ?_ ?_ ?_ ?_
  · intro p hp
    simp only [I.gamesIn_T, List.mem_cons, List.not_mem_nil, or_false] at hp
    rcases hp with rfl | rfl
    · exact I.allOf_ok
    · exact I.gameFrom_ok
  · intro args h κ r hh
    simp only [I.gamesIn_s] at hh
    split at hh
    · exact (I.gamesIn_den _ κ).trans hh
    · cases hh
  · intro args h κ r hh
    simp only [I.gamesIn_s] at hh ⊢
    split at hh
    · exact optC_law2 (F := fun (r : List Int) κ => κ (.own 0) [.recs 2 r]) (fun b κ r hb => ⟨_, _, hb, fun _ => rfl⟩) hh
    · cases hh
  · intro hh; cases hh
  · intro _ args h κ r hh
    simp only [I.gamesIn_s] at hh
    split at hh
    · rfl
    · cases hh

-- loop.example/guardsonnets/impl.guardsToCome
noncomputable def I.guardsToCome_T : List (Nat × D.Spec) := []
def I.guardsToCome_ann : Nat → List Nat × List Nat
  | _ => ([], [])
noncomputable def I.guardsToCome_F (args : List V) (h : List E) (κ : V → List E → R) : R := funC TD (tableK I.guardsToCome_T) I.guardsToCome_ann (drawOk TD (tableP I.guardsToCome_T)) FUEL Try.f41 args h κ
noncomputable def I.guardsToCome_tree {α : Type} (from_0 : Int) (from_1 : Int) (few : Bool) (leaf0_ : Int → α) (fail_ : α) : α :=
  (bif few then (leaf0_ from_0) else (leaf0_ from_1))
theorem I.guardsToCome_tree_nat {α γ : Type} (g : α → γ) (from_0 : Int) (from_1 : Int) (few : Bool) (leaf0_ : Int → α) (fail_ : α) : g (I.guardsToCome_tree from_0 from_1 few leaf0_ fail_) = I.guardsToCome_tree from_0 from_1 few (fun d => g (leaf0_ d)) (g fail_) := by
  unfold I.guardsToCome_tree; simp only [apply_cnd g, apply_optC g, apply_sumC g]
noncomputable def I.guardsToCome_t (from_0 : Int) (from_1 : Int) (few : Bool) : Option (Int) := I.guardsToCome_tree from_0 from_1 few (fun d => some d) none
theorem I.guardsToCome_den (from_0 : Int) (from_1 : Int) (few : Bool) (κ : V → List E → R) : I.guardsToCome_F [.agg [.int .i64 from_0, .int .i64 from_1], .bool few] [] κ = optC (I.guardsToCome_t from_0 from_1 few) (fun (r : Int) => κ (.int .i64 r) []) none := by
  have hu : I.guardsToCome_F [.agg [.int .i64 from_0, .int .i64 from_1], .bool few] [] κ = I.guardsToCome_tree from_0 from_1 few (fun d => κ (.int .i64 d) []) none := by
    kernel_rfl
  rw [hu]
  exact (I.guardsToCome_tree_nat (fun o => optC o (fun (r : Int) => κ (.int .i64 r) []) none) from_0 from_1 few (fun d => some d) none).symm
noncomputable def I.guardsToCome_s : D.Spec where
  keep := false
  pure := true
  add := true
  ds := [.invalid, .invalid]
  sp := fun args h κ => match args, h with
    | [.agg [.int .i64 from_0, .int .i64 from_1], .bool few], [] => optC (I.guardsToCome_t from_0 from_1 few) (fun (r : Int) => κ (.int .i64 r) []) none
    | _, _ => none
theorem I.guardsToCome_ok : SpecOk Try.prog 41 I.guardsToCome_s := by
  refine SpecOk.of TDok mixed (T := I.guardsToCome_T) ?_ (ann := I.guardsToCome_ann) Try.func41 rfl (by decide +kernel) ?_ ?_ ?_ ?_
  · intro p hp; cases hp
  · intro args h κ r hh
    simp only [I.guardsToCome_s] at hh
    split at hh
    · exact (I.guardsToCome_den _ _ _ κ).trans hh
    · cases hh
  · intro args h κ r hh
    simp only [I.guardsToCome_s] at hh ⊢
    split at hh
    · exact optC_law2 (F := fun (r : Int) κ => κ (.int .i64 r) []) (fun b κ r hb => ⟨_, _, hb, fun _ => rfl⟩) hh
    · cases hh
  · intro _ args h κ r hh
    simp only [I.guardsToCome_s] at hh
    split at hh
    · exact ⟨rfl, fun _ => rfl⟩
    · cases hh
  · intro _ args h κ r hh
    simp only [I.guardsToCome_s] at hh
    split at hh
    · rfl
    · cases hh

-- loop.example/guardsonnets/impl.GameMoves
noncomputable def I.GameMoves_T : List (Nat × D.Spec) := [(28, I.NetOk_s), (40, I.setIn_s), (42, I.gamesIn_s), (41, I.guardsToCome_s)]
def I.GameMoves_ann : Nat → List Nat × List Nat
  | _ => ([], [])
noncomputable def I.GameMoves_F (args : List V) (h : List E) (κ : V → List E → R) : R := funC TD (tableK I.GameMoves_T) I.GameMoves_ann (drawOk TD (tableP I.GameMoves_T)) FUEL Try.f12 args h κ
noncomputable def I.GameMoves_tree {α : Type} (net : List Int) (seen : Int) (few : Bool) (leaf0_ : Int → α) (fail_ : α) : α :=
  (optC (I.NetOk_t net) (fun c_1 => (bif !c_1 then (leaf0_ (-1)) else (optC (I.setIn_t net seen) (fun c_2 => (bif !c_2 then (leaf0_ (-1)) else (optC (I.gamesIn_t net) (fun c_3 => (bif decide (0 ≤ seen) && decide (seen < (↑(c_3.length / 2) : Int)) then (bif decide (seen.toNat * 2 + 2 ≤ c_3.length) then (optC (I.guardsToCome_t (eli c_3 (seen.toNat * 2 + 0)) (eli c_3 (seen.toNat * 2 + 1)) few) (fun c_4 => (leaf0_ c_4)) fail_) else fail_) else fail_)) fail_))) fail_))) fail_)
theorem I.GameMoves_tree_nat {α γ : Type} (g : α → γ) (net : List Int) (seen : Int) (few : Bool) (leaf0_ : Int → α) (fail_ : α) : g (I.GameMoves_tree net seen few leaf0_ fail_) = I.GameMoves_tree net seen few (fun d => g (leaf0_ d)) (g fail_) := by
  unfold I.GameMoves_tree; simp only [apply_cnd g, apply_optC g, apply_sumC g]
noncomputable def I.GameMoves_t (net : List Int) (seen : Int) (few : Bool) : Option (Int) := I.GameMoves_tree net seen few (fun d => some d) none
theorem I.GameMoves_den (net : List Int) (seen : Int) (few : Bool) (κ : V → List E → R) : I.GameMoves_F [.ro false (.ints .i64 net), .int .i64 seen, .bool few] [] κ = optC (I.GameMoves_t net seen few) (fun (r : Int) => κ (.int .i64 r) []) none := by
  have hu : I.GameMoves_F [.ro false (.ints .i64 net), .int .i64 seen, .bool few] [] κ = I.GameMoves_tree net seen few (fun d => κ (.int .i64 d) []) none := by
    kernel_rfl
  rw [hu]
  exact (I.GameMoves_tree_nat (fun o => optC o (fun (r : Int) => κ (.int .i64 r) []) none) net seen few (fun d => some d) none).symm
noncomputable def I.GameMoves_s : D.Spec where
  keep := false
  pure := true
  add := true
  ds := [.int .i64, .invalid, .invalid]
  sp := fun args h κ => match args, h with
    | [.ro false (.ints .i64 net), .int .i64 seen, .bool few], [] => optC (I.GameMoves_t net seen few) (fun (r : Int) => κ (.int .i64 r) []) none
    | _, _ => none
theorem I.GameMoves_ok : SpecOk Try.prog 12 I.GameMoves_s := by
  refine SpecOk.of TDok mixed (T := I.GameMoves_T) ?_ (ann := I.GameMoves_ann) Try.func12 rfl (by decide +kernel) ?_ ?_ ?_ ?_
  · intro p hp
    simp only [I.GameMoves_T, List.mem_cons, List.not_mem_nil, or_false] at hp
    rcases hp with rfl | rfl | rfl | rfl
    · exact I.NetOk_ok
    · exact I.setIn_ok
    · exact I.gamesIn_ok
    · exact I.guardsToCome_ok
  · intro args h κ r hh
    simp only [I.GameMoves_s] at hh
    split at hh
    · exact (I.GameMoves_den _ _ _ κ).trans hh
    · cases hh
  · intro args h κ r hh
    simp only [I.GameMoves_s] at hh ⊢
    split at hh
    · exact optC_law2 (F := fun (r : Int) κ => κ (.int .i64 r) []) (fun b κ r hb => ⟨_, _, hb, fun _ => rfl⟩) hh
    · cases hh
  · intro _ args h κ r hh
    simp only [I.GameMoves_s] at hh
    split at hh
    · exact ⟨rfl, fun _ => rfl⟩
    · cases hh
  · intro _ args h κ r hh
    simp only [I.GameMoves_s] at hh
    split at hh
    · rfl
    · cases hh

-- loop.example/guardsonnets/spec.l12New
noncomputable def S.l12New_T : List (Nat × D.Spec) := []
def S.l12New_ann : Nat → List Nat × List Nat
  | _ => ([], [])
noncomputable def S.l12New_F (args : List V) (h : List E) (κ : V → List E → R) : R := funC TD (tableK S.l12New_T) S.l12New_ann (drawOk TD (tableP S.l12New_T)) FUEL Try.f49 args h κ
noncomputable def S.l12New_tree {α : Type} (net : List Int) (seen : Int) (place : Int) (leaf0_ : Bool → α) (fail_ : α) : α :=
  (bif decide (0 ≤ place) && decide (place < (↑net.length : Int)) then (bif decide (place < 0) then fail_ else (leaf0_ (decide (bits BinOp.andNot IntKind.i64 (bits BinOp.or IntKind.i64 (eli net place.toNat) (IntKind.i64.wrap (1 * 2 ^ min place.toNat IntKind.i64.bits))) seen > 0)))) else fail_)
theorem S.l12New_tree_nat {α γ : Type} (g : α → γ) (net : List Int) (seen : Int) (place : Int) (leaf0_ : Bool → α) (fail_ : α) : g (S.l12New_tree net seen place leaf0_ fail_) = S.l12New_tree net seen place (fun d => g (leaf0_ d)) (g fail_) := by
  unfold S.l12New_tree; simp only [apply_cnd g, apply_optC g, apply_sumC g]
noncomputable def S.l12New_t (net : List Int) (seen : Int) (place : Int) : Option (Bool) := S.l12New_tree net seen place (fun d => some d) none
theorem S.l12New_den (net : List Int) (seen : Int) (place : Int) (κ : V → List E → R) : S.l12New_F [.ro false (.ints .i64 net), .int .i64 seen, .int .i64 place] [] κ = optC (S.l12New_t net seen place) (fun (r : Bool) => κ (.bool r) []) none := by
  have hu : S.l12New_F [.ro false (.ints .i64 net), .int .i64 seen, .int .i64 place] [] κ = S.l12New_tree net seen place (fun d => κ (.bool d) []) none := by
    kernel_rfl
  rw [hu]
  exact (S.l12New_tree_nat (fun o => optC o (fun (r : Bool) => κ (.bool r) []) none) net seen place (fun d => some d) none).symm
noncomputable def S.l12New_s : D.Spec where
  keep := false
  pure := true
  add := true
  ds := [.int .i64, .invalid, .invalid]
  sp := fun args h κ => match args, h with
    | [.ro false (.ints .i64 net), .int .i64 seen, .int .i64 place], [] => optC (S.l12New_t net seen place) (fun (r : Bool) => κ (.bool r) []) none
    | _, _ => none
theorem S.l12New_ok : SpecOk Try.prog 49 S.l12New_s := by
  refine SpecOk.of TDok mixed (T := S.l12New_T) ?_ (ann := S.l12New_ann) Try.func49 rfl (by decide +kernel) ?_ ?_ ?_ ?_
  · intro p hp; cases hp
  · intro args h κ r hh
    simp only [S.l12New_s] at hh
    split at hh
    · exact (S.l12New_den _ _ _ κ).trans hh
    · cases hh
  · intro args h κ r hh
    simp only [S.l12New_s] at hh ⊢
    split at hh
    · exact optC_law2 (F := fun (r : Bool) κ => κ (.bool r) []) (fun b κ r hb => ⟨_, _, hb, fun _ => rfl⟩) hh
    · cases hh
  · intro _ args h κ r hh
    simp only [S.l12New_s] at hh
    split at hh
    · exact ⟨rfl, fun _ => rfl⟩
    · cases hh
  · intro _ args h κ r hh
    simp only [S.l12New_s] at hh
    split at hh
    · rfl
    · cases hh

-- loop.example/guardsonnets/spec.l12Moves
class S.l12Moves_r_R where
  r : (List Int) → Int → Bool → Option (Int)
section
variable [c_ : S.l12Moves_r_R]
noncomputable def S.l12Moves_r0_t (net : List Int) (seen : Int) (few : Bool) : Option (Int) := S.l12Moves_r_R.r net seen few
noncomputable def S.l12Moves_r0_s : D.Spec where
  keep := false
  pure := true
  add := true
  ds := [.int .i64, .invalid, .invalid]
  sp := fun args h κ => match args, h with
    | [.ro false (.ints .i64 net), .int .i64 seen, .bool few], [] => optC (S.l12Moves_r0_t net seen few) (fun (r : Int) => κ (.int .i64 r) []) none
    | _, _ => none
end
section
variable [c_ : S.l12Moves_r_R]
noncomputable def S.l12Moves_r_T : List (Nat × D.Spec) := [(49, S.l12New_s), (44, S.l12Moves_r0_s)]
def S.l12Moves_r_ann : Nat → List Nat × List Nat
  | 3 => ([0, 1, 2, 7, 8], [7])
  | _ => ([], [])
noncomputable def S.l12Moves_r_F (args : List V) (h : List E) (κ : V → List E → R) : R := funC TD (tableK S.l12Moves_r_T) S.l12Moves_r_ann (drawOk TD (tableP S.l12Moves_r_T)) FUEL Try.f44 args h κ
noncomputable def S.l12Moves_r_L3 (n : Nat) (σ : St) (k : X → St → R) : R := iterC 0 (fun σ k => denC TD (tableK S.l12Moves_r_T) S.l12Moves_r_ann (drawOk TD (tableP S.l12Moves_r_T)) 0 FUEL ((findLoop 3 (Try.f44.body.getD .skip)).getD .skip) σ k) [0, 1, 2, 7, 8] [7] n σ k
end
section
variable [c_ : S.l12Moves_r_R]
noncomputable def S.l12Moves_r_k3 (κ : V → List E → R) : X → St → R := (afterC TD (tableK S.l12Moves_r_T) S.l12Moves_r_ann (drawOk TD (tableP S.l12Moves_r_T)) 0 FUEL 3 (Try.f44.body.getD .skip) (finC TD 0 Try.f44 κ)).getD (fun _ _ => none)
noncomputable def S.l12Moves_r_step3 {α : Type} (x0 : List Int) (x1 : Int) (x2 : Bool) (x7 : Int) (x8 : Int) (next_ : Int × Int → α) (out0_ : Int → α) (fail_ : α) : α :=
  (bif decide (x8 < (↑x0.length : Int)) then (optC (S.l12New_t x0 x1 x8) (fun c_1 => (bif c_1 then (bif decide (0 ≤ x8) && decide (x8 < (↑x0.length : Int)) then (bif decide (x8 < 0) then fail_ else (optC (S.l12Moves_r0_t x0 (bits BinOp.or IntKind.i64 (bits BinOp.or IntKind.i64 x1 (eli x0 x8.toNat)) (IntKind.i64.wrap (1 * 2 ^ min x8.toNat IntKind.i64.bits))) !x2) (fun c_2 => (bif decide (x7 < 0) then (next_ (IntKind.i64.wrap (1 + c_2), IntKind.i64.wrap (x8 + 1))) else (bif x2 then (bif decide (IntKind.i64.wrap (1 + c_2) < x7) then (next_ (IntKind.i64.wrap (1 + c_2), IntKind.i64.wrap (x8 + 1))) else (bif !x2 then (bif decide (IntKind.i64.wrap (1 + c_2) > x7) then (next_ (IntKind.i64.wrap (1 + c_2), IntKind.i64.wrap (x8 + 1))) else (next_ (x7, IntKind.i64.wrap (x8 + 1)))) else (next_ (x7, IntKind.i64.wrap (x8 + 1))))) else (bif !x2 then (bif decide (IntKind.i64.wrap (1 + c_2) > x7) then (next_ (IntKind.i64.wrap (1 + c_2), IntKind.i64.wrap (x8 + 1))) else (next_ (x7, IntKind.i64.wrap (x8 + 1)))) else (next_ (x7, IntKind.i64.wrap (x8 + 1))))))) fail_)) else fail_) else (next_ (x7, IntKind.i64.wrap (x8 + 1))))) fail_) else (out0_ x7))
theorem S.l12Moves_r_step3_nat {α γ : Type} (g : α → γ) (x0 : List Int) (x1 : Int) (x2 : Bool) (x7 : Int) (x8 : Int) (next_ : Int × Int → α) (out0_ : Int → α) (fail_ : α) : g (S.l12Moves_r_step3 x0 x1 x2 x7 x8 next_ out0_ fail_) = S.l12Moves_r_step3 x0 x1 x2 x7 x8 (fun s => g (next_ s)) (fun d => g (out0_ d)) (g fail_) := by
  unfold S.l12Moves_r_step3; simp only [apply_cnd g, apply_optC g, apply_sumC g]
noncomputable def S.l12Moves_r_run3 (x0 : List Int) (x1 : Int) (x2 : Bool) : Nat → Int × Int → Option (Int)
  | 0, _ => none
  | n + 1, s_ => S.l12Moves_r_step3 x0 x1 x2 s_.1 s_.2 (S.l12Moves_r_run3 x0 x1 x2 n) (fun d => some d) none
theorem S.l12Moves_r_L3_run (x0 : List Int) (x1 : Int) (x2 : Bool) (n : Nat) (s_ : Int × Int) (k : X → St → R) : S.l12Moves_r_L3 n { n := 56, t := [(0, (.ro false (.ints .i64 x0))), (1, (.int .i64 x1)), (2, (.bool x2)), (7, (.int .i64 s_.1)), (8, (.int .i64 s_.2))], h := [] } k = optC (S.l12Moves_r_run3 x0 x1 x2 n s_) (fun (r : Int) => k (.exit 0) { n := 56, t := [(7, (.int .i64 r))], h := [] }) none := by
  induction n generalizing s_ with
  | zero => rfl
  | succ n ih =>
    have hu : S.l12Moves_r_L3 (n + 1) { n := 56, t := [(0, (.ro false (.ints .i64 x0))), (1, (.int .i64 x1)), (2, (.bool x2)), (7, (.int .i64 s_.1)), (8, (.int .i64 s_.2))], h := [] } k = S.l12Moves_r_step3 x0 x1 x2 s_.1 s_.2 (fun s_ => S.l12Moves_r_L3 n { n := 56, t := [(0, (.ro false (.ints .i64 x0))), (1, (.int .i64 x1)), (2, (.bool x2)), (7, (.int .i64 s_.1)), (8, (.int .i64 s_.2))], h := [] } k) (fun d => k (.exit 0) { n := 56, t := [(7, (.int .i64 d))], h := [] }) none := by
      kernel_rfl
    have hs : (fun s_ : Int × Int => S.l12Moves_r_L3 n { n := 56, t := [(0, (.ro false (.ints .i64 x0))), (1, (.int .i64 x1)), (2, (.bool x2)), (7, (.int .i64 s_.1)), (8, (.int .i64 s_.2))], h := [] } k) = fun s_ => optC (S.l12Moves_r_run3 x0 x1 x2 n s_) (fun (r : Int) => k (.exit 0) { n := 56, t := [(7, (.int .i64 r))], h := [] }) none := funext ih
    rw [hu, hs]
    exact (S.l12Moves_r_step3_nat (fun o => optC o (fun (r : Int) => k (.exit 0) { n := 56, t := [(7, (.int .i64 r))], h := [] }) none) x0 x1 x2 s_.1 s_.2 (S.l12Moves_r_run3 x0 x1 x2 n) (fun d => some d) none).symm
noncomputable def S.l12Moves_r_tree {α : Type} (net : List Int) (seen : Int) (few : Bool) (leaf0_ : Int → α) (fail_ : α) : α :=
  (optC (S.l12Moves_r_run3 net seen few FUEL (-1, 0)) (fun qy_3 => (leaf0_ (if 0 > qy_3 then 0 else qy_3))) fail_)
theorem S.l12Moves_r_tree_nat {α γ : Type} (g : α → γ) (net : List Int) (seen : Int) (few : Bool) (leaf0_ : Int → α) (fail_ : α) : g (S.l12Moves_r_tree net seen few leaf0_ fail_) = S.l12Moves_r_tree net seen few (fun d => g (leaf0_ d)) (g fail_) := by
  unfold S.l12Moves_r_tree; simp only [apply_cnd g, apply_optC g, apply_sumC g]
noncomputable def S.l12Moves_r_t (net : List Int) (seen : Int) (few : Bool) : Option (Int) := S.l12Moves_r_tree net seen few (fun d => some d) none
theorem S.l12Moves_r_den (net : List Int) (seen : Int) (few : Bool) (κ : V → List E → R) : S.l12Moves_r_F [.ro false (.ints .i64 net), .int .i64 seen, .bool few] [] κ = optC (S.l12Moves_r_t net seen few) (fun (r : Int) => κ (.int .i64 r) []) none := by
  have hu : S.l12Moves_r_F [.ro false (.ints .i64 net), .int .i64 seen, .bool few] [] κ = S.l12Moves_r_tree net seen few (fun d => κ (.int .i64 d) []) none := by
    refine Eq.trans (show S.l12Moves_r_F [.ro false (.ints .i64 net), .int .i64 seen, .bool few] [] κ = (S.l12Moves_r_L3 FUEL { n := 56, t := [(0, (.ro false (.ints .i64 net))), (1, (.int .i64 seen)), (2, (.bool few)), (7, (.int .i64 (-1))), (8, (.int .i64 0))], h := [] } (S.l12Moves_r_k3 κ)) by kernel_rfl) ?_
    refine (S.l12Moves_r_L3_run net seen few FUEL (-1, 0) (S.l12Moves_r_k3 κ)).trans (optC_congr (fun qy_3 => ?_))
    kernel_rfl
  rw [hu]
  exact (S.l12Moves_r_tree_nat (fun o => optC o (fun (r : Int) => κ (.int .i64 r) []) none) net seen few (fun d => some d) none).symm
noncomputable def S.l12Moves_r_s : D.Spec where
  keep := false
  pure := true
  add := true
  ds := [.int .i64, .invalid, .invalid]
  sp := fun args h κ => match args, h with
    | [.ro false (.ints .i64 net), .int .i64 seen, .bool few], [] => optC (S.l12Moves_r_t net seen few) (fun (r : Int) => κ (.int .i64 r) []) none
    | _, _ => none
theorem S.l12Moves_r_ok (hrec_ : SpecOk Try.prog 44 S.l12Moves_r0_s) : SpecOk Try.prog 44 S.l12Moves_r_s := by
  refine SpecOk.of TDok mixed (T := S.l12Moves_r_T) ?_ (ann := S.l12Moves_r_ann) Try.func44 rfl (by decide +kernel) ?_ ?_ ?_ ?_
  · intro p hp
    simp only [S.l12Moves_r_T, List.mem_cons, List.not_mem_nil, or_false] at hp
    rcases hp with rfl | rfl
    · exact S.l12New_ok
    · exact hrec_
  · intro args h κ r hh
    simp only [S.l12Moves_r_s] at hh
    split at hh
    · exact (S.l12Moves_r_den _ _ _ κ).trans hh
    · cases hh
  · intro args h κ r hh
    simp only [S.l12Moves_r_s] at hh ⊢
    split at hh
    · exact optC_law2 (F := fun (r : Int) κ => κ (.int .i64 r) []) (fun b κ r hb => ⟨_, _, hb, fun _ => rfl⟩) hh
    · cases hh
  · intro _ args h κ r hh
    simp only [S.l12Moves_r_s] at hh
    split at hh
    · exact ⟨rfl, fun _ => rfl⟩
    · cases hh
  · intro _ args h κ r hh
    simp only [S.l12Moves_r_s] at hh
    split at hh
    · rfl
    · cases hh
end
noncomputable def S.l12Moves_td : Nat → (List Int) → Int → Bool → Option (Int)
  | 0 => fun _ _ _ => none
  | d + 1 => @S.l12Moves_r_t ⟨S.l12Moves_td d⟩
noncomputable def S.l12Moves_t (net : List Int) (seen : Int) (few : Bool) : Option (Int) := S.l12Moves_td FUEL net seen few
noncomputable def S.l12Moves_s : D.Spec where
  keep := false
  pure := true
  add := true
  ds := [.int .i64, .invalid, .invalid]
  sp := fun args h κ => match args, h with
    | [.ro false (.ints .i64 net), .int .i64 seen, .bool few], [] => optC (S.l12Moves_t net seen few) (fun (r : Int) => κ (.int .i64 r) []) none
    | _, _ => none
theorem S.l12Moves_okd : ∀ d : Nat, SpecOk Try.prog 44 (@S.l12Moves_r0_s ⟨S.l12Moves_td d⟩)
  | 0 => SpecOk.zero Try.func44 rfl (by decide +kernel) (fun args h κ => by
      simp only [S.l12Moves_r0_s]
      split
      · rfl
      · rfl)
  | d + 1 => @S.l12Moves_r_ok ⟨S.l12Moves_td d⟩ (S.l12Moves_okd d)
theorem S.l12Moves_ok : SpecOk Try.prog 44 S.l12Moves_s := S.l12Moves_okd FUEL

-- loop.example/guardsonnets/spec.GameMoves
noncomputable def S.GameMoves_T : List (Nat × D.Spec) := [(43, S.l1SetOk_s), (44, S.l12Moves_s)]
def S.GameMoves_ann : Nat → List Nat × List Nat
  | _ => ([], [])
noncomputable def S.GameMoves_F (args : List V) (h : List E) (κ : V → List E → R) : R := funC TD (tableK S.GameMoves_T) S.GameMoves_ann (drawOk TD (tableP S.GameMoves_T)) FUEL Try.f13 args h κ
noncomputable def S.GameMoves_tree {α : Type} (net : List Int) (seen : Int) (few : Bool) (leaf0_ : Int → α) (fail_ : α) : α :=
  (optC (S.l1SetOk_t net seen) (fun c_1 => (bif !c_1 then (leaf0_ (-1)) else (optC (S.l12Moves_t net seen few) (fun c_2 => (leaf0_ c_2)) fail_))) fail_)
theorem S.GameMoves_tree_nat {α γ : Type} (g : α → γ) (net : List Int) (seen : Int) (few : Bool) (leaf0_ : Int → α) (fail_ : α) : g (S.GameMoves_tree net seen few leaf0_ fail_) = S.GameMoves_tree net seen few (fun d => g (leaf0_ d)) (g fail_) := by
  unfold S.GameMoves_tree; simp only [apply_cnd g, apply_optC g, apply_sumC g]
noncomputable def S.GameMoves_t (net : List Int) (seen : Int) (few : Bool) : Option (Int) := S.GameMoves_tree net seen few (fun d => some d) none
theorem S.GameMoves_den (net : List Int) (seen : Int) (few : Bool) (κ : V → List E → R) : S.GameMoves_F [.ro false (.ints .i64 net), .int .i64 seen, .bool few] [] κ = optC (S.GameMoves_t net seen few) (fun (r : Int) => κ (.int .i64 r) []) none := by
  have hu : S.GameMoves_F [.ro false (.ints .i64 net), .int .i64 seen, .bool few] [] κ = S.GameMoves_tree net seen few (fun d => κ (.int .i64 d) []) none := by
    kernel_rfl
  rw [hu]
  exact (S.GameMoves_tree_nat (fun o => optC o (fun (r : Int) => κ (.int .i64 r) []) none) net seen few (fun d => some d) none).symm
noncomputable def S.GameMoves_s : D.Spec where
  keep := false
  pure := true
  add := true
  ds := [.int .i64, .invalid, .invalid]
  sp := fun args h κ => match args, h with
    | [.ro false (.ints .i64 net), .int .i64 seen, .bool few], [] => optC (S.GameMoves_t net seen few) (fun (r : Int) => κ (.int .i64 r) []) none
    | _, _ => none
theorem S.GameMoves_ok : SpecOk Try.prog 13 S.GameMoves_s := by
  refine SpecOk.of TDok mixed (T := S.GameMoves_T) ?_ (ann := S.GameMoves_ann) Try.func13 rfl (by decide +kernel) ?_ ?_ ?_ ?_
  · intro p hp
    simp only [S.GameMoves_T, List.mem_cons, List.not_mem_nil, or_false] at hp
    rcases hp with rfl | rfl
    · exact S.l1SetOk_ok
    · exact S.l12Moves_ok
  · intro args h κ r hh
    simp only [S.GameMoves_s] at hh
    split at hh
    · exact (S.GameMoves_den _ _ _ κ).trans hh
    · cases hh
  · intro args h κ r hh
    simp only [S.GameMoves_s] at hh ⊢
    split at hh
    · exact optC_law2 (F := fun (r : Int) κ => κ (.int .i64 r) []) (fun b κ r hb => ⟨_, _, hb, fun _ => rfl⟩) hh
    · cases hh
  · intro _ args h κ r hh
    simp only [S.GameMoves_s] at hh
    split at hh
    · exact ⟨rfl, fun _ => rfl⟩
    · cases hh
  · intro _ args h κ r hh
    simp only [S.GameMoves_s] at hh
    split at hh
    · rfl
    · cases hh

-- loop.example/guardsonnets/impl.seenIn
noncomputable def I.seenIn_T : List (Nat × D.Spec) := [(55, I.hasPlace_s), (52, I.ballIn_s)]
def I.seenIn_ann : Nat → List Nat × List Nat
  | 3 => ([0, 1, 5, 6], [5])
  | _ => ([], [])
noncomputable def I.seenIn_F (args : List V) (h : List E) (κ : V → List E → R) : R := funC TD (tableK I.seenIn_T) I.seenIn_ann (drawOk TD (tableP I.seenIn_T)) FUEL Try.f45 args h κ
noncomputable def I.seenIn_L3 (n : Nat) (σ : St) (k : X → St → R) : R := iterC 0 (fun σ k => denC TD (tableK I.seenIn_T) I.seenIn_ann (drawOk TD (tableP I.seenIn_T)) 0 FUEL ((findLoop 3 (Try.f45.body.getD .skip)).getD .skip) σ k) [0, 1, 5, 6] [5] n σ k
noncomputable def I.seenIn_k3 (κ : V → List E → R) : X → St → R := (afterC TD (tableK I.seenIn_T) I.seenIn_ann (drawOk TD (tableP I.seenIn_T)) 0 FUEL 3 (Try.f45.body.getD .skip) (finC TD 0 Try.f45 κ)).getD (fun _ _ => none)
noncomputable def I.seenIn_step3 {α : Type} (x0 : List Int) (x1 : Int) (x5 : Int) (x6 : Int) (next_ : Int × Int → α) (out0_ : Int → α) (fail_ : α) : α :=
  (bif decide (x6 < (↑x0.length : Int)) then (optC (I.hasPlace_t x1 x6) (fun c_1 => (bif c_1 then (optC (I.ballIn_t x0 x6) (fun c_2 => (next_ (bits BinOp.or IntKind.i64 x5 c_2, IntKind.i64.wrap (x6 + 1)))) fail_) else (next_ (x5, IntKind.i64.wrap (x6 + 1))))) fail_) else (out0_ x5))
theorem I.seenIn_step3_nat {α γ : Type} (g : α → γ) (x0 : List Int) (x1 : Int) (x5 : Int) (x6 : Int) (next_ : Int × Int → α) (out0_ : Int → α) (fail_ : α) : g (I.seenIn_step3 x0 x1 x5 x6 next_ out0_ fail_) = I.seenIn_step3 x0 x1 x5 x6 (fun s => g (next_ s)) (fun d => g (out0_ d)) (g fail_) := by
  unfold I.seenIn_step3; simp only [apply_cnd g, apply_optC g, apply_sumC g]
noncomputable def I.seenIn_run3 (x0 : List Int) (x1 : Int) : Nat → Int × Int → Option (Int)
  | 0, _ => none
  | n + 1, s_ => I.seenIn_step3 x0 x1 s_.1 s_.2 (I.seenIn_run3 x0 x1 n) (fun d => some d) none
theorem I.seenIn_L3_run (x0 : List Int) (x1 : Int) (n : Nat) (s_ : Int × Int) (k : X → St → R) : I.seenIn_L3 n { n := 22, t := [(0, (.ro false (.ints .i64 x0))), (1, (.int .i64 x1)), (5, (.int .i64 s_.1)), (6, (.int .i64 s_.2))], h := [] } k = optC (I.seenIn_run3 x0 x1 n s_) (fun (r : Int) => k (.exit 0) { n := 22, t := [(5, (.int .i64 r))], h := [] }) none := by
  induction n generalizing s_ with
  | zero => rfl
  | succ n ih =>
    have hu : I.seenIn_L3 (n + 1) { n := 22, t := [(0, (.ro false (.ints .i64 x0))), (1, (.int .i64 x1)), (5, (.int .i64 s_.1)), (6, (.int .i64 s_.2))], h := [] } k = I.seenIn_step3 x0 x1 s_.1 s_.2 (fun s_ => I.seenIn_L3 n { n := 22, t := [(0, (.ro false (.ints .i64 x0))), (1, (.int .i64 x1)), (5, (.int .i64 s_.1)), (6, (.int .i64 s_.2))], h := [] } k) (fun d => k (.exit 0) { n := 22, t := [(5, (.int .i64 d))], h := [] }) none := by
      kernel_rfl
    have hs : (fun s_ : Int × Int => I.seenIn_L3 n { n := 22, t := [(0, (.ro false (.ints .i64 x0))), (1, (.int .i64 x1)), (5, (.int .i64 s_.1)), (6, (.int .i64 s_.2))], h := [] } k) = fun s_ => optC (I.seenIn_run3 x0 x1 n s_) (fun (r : Int) => k (.exit 0) { n := 22, t := [(5, (.int .i64 r))], h := [] }) none := funext ih
    rw [hu, hs]
    exact (I.seenIn_step3_nat (fun o => optC o (fun (r : Int) => k (.exit 0) { n := 22, t := [(5, (.int .i64 r))], h := [] }) none) x0 x1 s_.1 s_.2 (I.seenIn_run3 x0 x1 n) (fun d => some d) none).symm
noncomputable def I.seenIn_tree {α : Type} (net : List Int) (set_ : Int) (leaf0_ : Int → α) (fail_ : α) : α :=
  (optC (I.seenIn_run3 net set_ FUEL (0, 0)) (fun qy_3 => (leaf0_ qy_3)) fail_)
theorem I.seenIn_tree_nat {α γ : Type} (g : α → γ) (net : List Int) (set_ : Int) (leaf0_ : Int → α) (fail_ : α) : g (I.seenIn_tree net set_ leaf0_ fail_) = I.seenIn_tree net set_ (fun d => g (leaf0_ d)) (g fail_) := by
  unfold I.seenIn_tree; simp only [apply_cnd g, apply_optC g, apply_sumC g]
noncomputable def I.seenIn_t (net : List Int) (set_ : Int) : Option (Int) := I.seenIn_tree net set_ (fun d => some d) none
theorem I.seenIn_den (net : List Int) (set_ : Int) (κ : V → List E → R) : I.seenIn_F [.ro false (.ints .i64 net), .int .i64 set_] [] κ = optC (I.seenIn_t net set_) (fun (r : Int) => κ (.int .i64 r) []) none := by
  have hu : I.seenIn_F [.ro false (.ints .i64 net), .int .i64 set_] [] κ = I.seenIn_tree net set_ (fun d => κ (.int .i64 d) []) none := by
    refine Eq.trans (show I.seenIn_F [.ro false (.ints .i64 net), .int .i64 set_] [] κ = (I.seenIn_L3 FUEL { n := 22, t := [(0, (.ro false (.ints .i64 net))), (1, (.int .i64 set_)), (5, (.int .i64 0)), (6, (.int .i64 0))], h := [] } (I.seenIn_k3 κ)) by kernel_rfl) ?_
    refine (I.seenIn_L3_run net set_ FUEL (0, 0) (I.seenIn_k3 κ)).trans (optC_congr (fun qy_3 => ?_))
    kernel_rfl
  rw [hu]
  exact (I.seenIn_tree_nat (fun o => optC o (fun (r : Int) => κ (.int .i64 r) []) none) net set_ (fun d => some d) none).symm
noncomputable def I.seenIn_s : D.Spec where
  keep := false
  pure := true
  add := true
  ds := [.int .i64, .invalid]
  sp := fun args h κ => match args, h with
    | [.ro false (.ints .i64 net), .int .i64 set_], [] => optC (I.seenIn_t net set_) (fun (r : Int) => κ (.int .i64 r) []) none
    | _, _ => none
theorem I.seenIn_ok : SpecOk Try.prog 45 I.seenIn_s := by
  refine SpecOk.of TDok mixed (T := I.seenIn_T) ?_ (ann := I.seenIn_ann) Try.func45 rfl (by decide +kernel) ?_ ?_ ?_ ?_
  · intro p hp
    simp only [I.seenIn_T, List.mem_cons, List.not_mem_nil, or_false] at hp
    rcases hp with rfl | rfl
    · exact I.hasPlace_ok
    · exact I.ballIn_ok
  · intro args h κ r hh
    simp only [I.seenIn_s] at hh
    split at hh
    · exact (I.seenIn_den _ _ κ).trans hh
    · cases hh
  · intro args h κ r hh
    simp only [I.seenIn_s] at hh ⊢
    split at hh
    · exact optC_law2 (F := fun (r : Int) κ => κ (.int .i64 r) []) (fun b κ r hb => ⟨_, _, hb, fun _ => rfl⟩) hh
    · cases hh
  · intro _ args h κ r hh
    simp only [I.seenIn_s] at hh
    split at hh
    · exact ⟨rfl, fun _ => rfl⟩
    · cases hh
  · intro _ args h κ r hh
    simp only [I.seenIn_s] at hh
    split at hh
    · rfl
    · cases hh

-- loop.example/guardsonnets/impl.SeenBy
noncomputable def I.SeenBy_T : List (Nat × D.Spec) := [(28, I.NetOk_s), (40, I.setIn_s), (45, I.seenIn_s)]
def I.SeenBy_ann : Nat → List Nat × List Nat
  | _ => ([], [])
noncomputable def I.SeenBy_F (args : List V) (h : List E) (κ : V → List E → R) : R := funC TD (tableK I.SeenBy_T) I.SeenBy_ann (drawOk TD (tableP I.SeenBy_T)) FUEL Try.f14 args h κ
noncomputable def I.SeenBy_tree {α : Type} (net : List Int) (set_ : Int) (leaf0_ : Int → α) (fail_ : α) : α :=
  (optC (I.NetOk_t net) (fun c_1 => (bif !c_1 then (leaf0_ (-1)) else (optC (I.setIn_t net set_) (fun c_2 => (bif !c_2 then (leaf0_ (-1)) else (optC (I.seenIn_t net set_) (fun c_3 => (leaf0_ c_3)) fail_))) fail_))) fail_)
theorem I.SeenBy_tree_nat {α γ : Type} (g : α → γ) (net : List Int) (set_ : Int) (leaf0_ : Int → α) (fail_ : α) : g (I.SeenBy_tree net set_ leaf0_ fail_) = I.SeenBy_tree net set_ (fun d => g (leaf0_ d)) (g fail_) := by
  unfold I.SeenBy_tree; simp only [apply_cnd g, apply_optC g, apply_sumC g]
noncomputable def I.SeenBy_t (net : List Int) (set_ : Int) : Option (Int) := I.SeenBy_tree net set_ (fun d => some d) none
theorem I.SeenBy_den (net : List Int) (set_ : Int) (κ : V → List E → R) : I.SeenBy_F [.ro false (.ints .i64 net), .int .i64 set_] [] κ = optC (I.SeenBy_t net set_) (fun (r : Int) => κ (.int .i64 r) []) none := by
  have hu : I.SeenBy_F [.ro false (.ints .i64 net), .int .i64 set_] [] κ = I.SeenBy_tree net set_ (fun d => κ (.int .i64 d) []) none := by
    kernel_rfl
  rw [hu]
  exact (I.SeenBy_tree_nat (fun o => optC o (fun (r : Int) => κ (.int .i64 r) []) none) net set_ (fun d => some d) none).symm
noncomputable def I.SeenBy_s : D.Spec where
  keep := false
  pure := true
  add := true
  ds := [.int .i64, .invalid]
  sp := fun args h κ => match args, h with
    | [.ro false (.ints .i64 net), .int .i64 set_], [] => optC (I.SeenBy_t net set_) (fun (r : Int) => κ (.int .i64 r) []) none
    | _, _ => none
theorem I.SeenBy_ok : SpecOk Try.prog 14 I.SeenBy_s := by
  refine SpecOk.of TDok mixed (T := I.SeenBy_T) ?_ (ann := I.SeenBy_ann) Try.func14 rfl (by decide +kernel) ?_ ?_ ?_ ?_
  · intro p hp
    simp only [I.SeenBy_T, List.mem_cons, List.not_mem_nil, or_false] at hp
    rcases hp with rfl | rfl | rfl
    · exact I.NetOk_ok
    · exact I.setIn_ok
    · exact I.seenIn_ok
  · intro args h κ r hh
    simp only [I.SeenBy_s] at hh
    split at hh
    · exact (I.SeenBy_den _ _ κ).trans hh
    · cases hh
  · intro args h κ r hh
    simp only [I.SeenBy_s] at hh ⊢
    split at hh
    · exact optC_law2 (F := fun (r : Int) κ => κ (.int .i64 r) []) (fun b κ r hb => ⟨_, _, hb, fun _ => rfl⟩) hh
    · cases hh
  · intro _ args h κ r hh
    simp only [I.SeenBy_s] at hh
    split at hh
    · exact ⟨rfl, fun _ => rfl⟩
    · cases hh
  · intro _ args h κ r hh
    simp only [I.SeenBy_s] at hh
    split at hh
    · rfl
    · cases hh

-- loop.example/guardsonnets/laws.alive
noncomputable def L.alive_T : List (Nat × D.Spec) := [(28, I.NetOk_s)]
def L.alive_ann : Nat → List Nat × List Nat
  | _ => ([], [])
noncomputable def L.alive_F (args : List V) (h : List E) (κ : V → List E → R) : R := funC TD (tableK L.alive_T) L.alive_ann (drawOk TD (tableP L.alive_T)) FUEL Try.f15 args h κ
noncomputable def L.alive_tree {α : Type} (leaf0_ : Bool → α) (fail_ : α) : α :=
  (optC (I.NetOk_t [2, 1]) (fun c_1 => (bif c_1 then (optC (I.NetOk_t [1]) (fun c_2 => (leaf0_ (!c_2))) fail_) else (leaf0_ false))) fail_)
theorem L.alive_tree_nat {α γ : Type} (g : α → γ) (leaf0_ : Bool → α) (fail_ : α) : g (L.alive_tree leaf0_ fail_) = L.alive_tree (fun d => g (leaf0_ d)) (g fail_) := by
  unfold L.alive_tree; simp only [apply_cnd g, apply_optC g, apply_sumC g]
noncomputable def L.alive_t : Option (Bool) := L.alive_tree (fun d => some d) none
theorem L.alive_den (κ : V → List E → R) : L.alive_F [] [] κ = optC (L.alive_t) (fun (r : Bool) => κ (.bool r) []) none := by
  have hu : L.alive_F [] [] κ = L.alive_tree (fun d => κ (.bool d) []) none := by
    kernel_rfl
  rw [hu]
  exact (L.alive_tree_nat (fun o => optC o (fun (r : Bool) => κ (.bool r) []) none) (fun d => some d) none).symm
noncomputable def L.alive_s : D.Spec where
  keep := false
  pure := true
  add := true
  ds := []
  sp := fun args h κ => match args, h with
    | [], [] => optC (L.alive_t) (fun (r : Bool) => κ (.bool r) []) none
    | _, _ => none
theorem L.alive_ok : SpecOk Try.prog 15 L.alive_s := by
  refine SpecOk.of TDok mixed (T := L.alive_T) ?_ (ann := L.alive_ann) Try.func15 rfl (by decide +kernel) ?_ ?_ ?_ ?_
  · intro p hp
    simp only [L.alive_T, List.mem_cons, List.not_mem_nil, or_false] at hp
    rcases hp with rfl
    · exact I.NetOk_ok
  · intro args h κ r hh
    simp only [L.alive_s] at hh
    split at hh
    · exact (L.alive_den κ).trans hh
    · cases hh
  · intro args h κ r hh
    simp only [L.alive_s] at hh ⊢
    split at hh
    · exact optC_law2 (F := fun (r : Bool) κ => κ (.bool r) []) (fun b κ r hb => ⟨_, _, hb, fun _ => rfl⟩) hh
    · cases hh
  · intro _ args h κ r hh
    simp only [L.alive_s] at hh
    split at hh
    · exact ⟨rfl, fun _ => rfl⟩
    · cases hh
  · intro _ args h κ r hh
    simp only [L.alive_s] at hh
    split at hh
    · rfl
    · cases hh

-- loop.example/guardsonnets/impl.sizeOf
noncomputable def I.sizeOf_T : List (Nat × D.Spec) := []
def I.sizeOf_ann : Nat → List Nat × List Nat
  | 3 => ([0, 3, 4], [3])
  | _ => ([], [])
noncomputable def I.sizeOf_F (args : List V) (h : List E) (κ : V → List E → R) : R := funC TD (tableK I.sizeOf_T) I.sizeOf_ann (drawOk TD (tableP I.sizeOf_T)) FUEL Try.f46 args h κ
noncomputable def I.sizeOf_L3 (n : Nat) (σ : St) (k : X → St → R) : R := iterC 0 (fun σ k => denC TD (tableK I.sizeOf_T) I.sizeOf_ann (drawOk TD (tableP I.sizeOf_T)) 0 FUEL ((findLoop 3 (Try.f46.body.getD .skip)).getD .skip) σ k) [0, 3, 4] [3] n σ k
noncomputable def I.sizeOf_k3 (κ : V → List E → R) : X → St → R := (afterC TD (tableK I.sizeOf_T) I.sizeOf_ann (drawOk TD (tableP I.sizeOf_T)) 0 FUEL 3 (Try.f46.body.getD .skip) (finC TD 0 Try.f46 κ)).getD (fun _ _ => none)
noncomputable def I.sizeOf_step3 {α : Type} (x0 : Int) (x3 : Int) (x4 : Int) (next_ : Int × Int → α) (out0_ : Int → α) (fail_ : α) : α :=
  (bif decide (x4 < 6) then (bif decide (x4 < 0) then fail_ else (next_ (IntKind.i64.wrap (x3 + bits BinOp.and IntKind.i64 (x0.fdiv (2 ^ min x4.toNat IntKind.i64.bits)) 1), IntKind.i64.wrap (x4 + 1)))) else (out0_ x3))
theorem I.sizeOf_step3_nat {α γ : Type} (g : α → γ) (x0 : Int) (x3 : Int) (x4 : Int) (next_ : Int × Int → α) (out0_ : Int → α) (fail_ : α) : g (I.sizeOf_step3 x0 x3 x4 next_ out0_ fail_) = I.sizeOf_step3 x0 x3 x4 (fun s => g (next_ s)) (fun d => g (out0_ d)) (g fail_) := by
  unfold I.sizeOf_step3; simp only [apply_cnd g, apply_optC g, apply_sumC g]
noncomputable def I.sizeOf_run3 (x0 : Int) : Nat → Int × Int → Option (Int)
  | 0, _ => none
  | n + 1, s_ => I.sizeOf_step3 x0 s_.1 s_.2 (I.sizeOf_run3 x0 n) (fun d => some d) none
theorem I.sizeOf_L3_run (x0 : Int) (n : Nat) (s_ : Int × Int) (k : X → St → R) : I.sizeOf_L3 n { n := 16, t := [(0, (.int .i64 x0)), (3, (.int .i64 s_.1)), (4, (.int .i64 s_.2))], h := [] } k = optC (I.sizeOf_run3 x0 n s_) (fun (r : Int) => k (.exit 0) { n := 16, t := [(3, (.int .i64 r))], h := [] }) none := by
  induction n generalizing s_ with
  | zero => rfl
  | succ n ih =>
    have hu : I.sizeOf_L3 (n + 1) { n := 16, t := [(0, (.int .i64 x0)), (3, (.int .i64 s_.1)), (4, (.int .i64 s_.2))], h := [] } k = I.sizeOf_step3 x0 s_.1 s_.2 (fun s_ => I.sizeOf_L3 n { n := 16, t := [(0, (.int .i64 x0)), (3, (.int .i64 s_.1)), (4, (.int .i64 s_.2))], h := [] } k) (fun d => k (.exit 0) { n := 16, t := [(3, (.int .i64 d))], h := [] }) none := by
      kernel_rfl
    have hs : (fun s_ : Int × Int => I.sizeOf_L3 n { n := 16, t := [(0, (.int .i64 x0)), (3, (.int .i64 s_.1)), (4, (.int .i64 s_.2))], h := [] } k) = fun s_ => optC (I.sizeOf_run3 x0 n s_) (fun (r : Int) => k (.exit 0) { n := 16, t := [(3, (.int .i64 r))], h := [] }) none := funext ih
    rw [hu, hs]
    exact (I.sizeOf_step3_nat (fun o => optC o (fun (r : Int) => k (.exit 0) { n := 16, t := [(3, (.int .i64 r))], h := [] }) none) x0 s_.1 s_.2 (I.sizeOf_run3 x0 n) (fun d => some d) none).symm
noncomputable def I.sizeOf_tree {α : Type} (set_ : Int) (leaf0_ : Int → α) (fail_ : α) : α :=
  (optC (I.sizeOf_run3 set_ FUEL (0, 0)) (fun qy_1 => (leaf0_ qy_1)) fail_)
theorem I.sizeOf_tree_nat {α γ : Type} (g : α → γ) (set_ : Int) (leaf0_ : Int → α) (fail_ : α) : g (I.sizeOf_tree set_ leaf0_ fail_) = I.sizeOf_tree set_ (fun d => g (leaf0_ d)) (g fail_) := by
  unfold I.sizeOf_tree; simp only [apply_cnd g, apply_optC g, apply_sumC g]
noncomputable def I.sizeOf_t (set_ : Int) : Option (Int) := I.sizeOf_tree set_ (fun d => some d) none
theorem I.sizeOf_den (set_ : Int) (κ : V → List E → R) : I.sizeOf_F [.int .i64 set_] [] κ = optC (I.sizeOf_t set_) (fun (r : Int) => κ (.int .i64 r) []) none := by
  have hu : I.sizeOf_F [.int .i64 set_] [] κ = I.sizeOf_tree set_ (fun d => κ (.int .i64 d) []) none := by
    refine Eq.trans (show I.sizeOf_F [.int .i64 set_] [] κ = (I.sizeOf_L3 FUEL { n := 16, t := [(0, (.int .i64 set_)), (3, (.int .i64 0)), (4, (.int .i64 0))], h := [] } (I.sizeOf_k3 κ)) by kernel_rfl) ?_
    refine (I.sizeOf_L3_run set_ FUEL (0, 0) (I.sizeOf_k3 κ)).trans (optC_congr (fun qy_1 => ?_))
    kernel_rfl
  rw [hu]
  exact (I.sizeOf_tree_nat (fun o => optC o (fun (r : Int) => κ (.int .i64 r) []) none) set_ (fun d => some d) none).symm
noncomputable def I.sizeOf_s : D.Spec where
  keep := false
  pure := true
  add := true
  ds := [.invalid]
  sp := fun args h κ => match args, h with
    | [.int .i64 set_], [] => optC (I.sizeOf_t set_) (fun (r : Int) => κ (.int .i64 r) []) none
    | _, _ => none
theorem I.sizeOf_ok : SpecOk Try.prog 46 I.sizeOf_s := by
  refine SpecOk.of TDok mixed (T := I.sizeOf_T) ?_ (ann := I.sizeOf_ann) Try.func46 rfl (by decide +kernel) ?_ ?_ ?_ ?_
  · intro p hp; cases hp
  · intro args h κ r hh
    simp only [I.sizeOf_s] at hh
    split at hh
    · exact (I.sizeOf_den _ κ).trans hh
    · cases hh
  · intro args h κ r hh
    simp only [I.sizeOf_s] at hh ⊢
    split at hh
    · exact optC_law2 (F := fun (r : Int) κ => κ (.int .i64 r) []) (fun b κ r hb => ⟨_, _, hb, fun _ => rfl⟩) hh
    · cases hh
  · intro _ args h κ r hh
    simp only [I.sizeOf_s] at hh
    split at hh
    · exact ⟨rfl, fun _ => rfl⟩
    · cases hh
  · intro _ args h κ r hh
    simp only [I.sizeOf_s] at hh
    split at hh
    · rfl
    · cases hh

-- loop.example/guardsonnets/impl.watchIn
noncomputable def I.watchIn_T : List (Nat × D.Spec) := [(45, I.seenIn_s), (65, I.allOf_s)]
def I.watchIn_ann : Nat → List Nat × List Nat
  | _ => ([], [])
noncomputable def I.watchIn_F (args : List V) (h : List E) (κ : V → List E → R) : R := funC TD (tableK I.watchIn_T) I.watchIn_ann (drawOk TD (tableP I.watchIn_T)) FUEL Try.f57 args h κ
noncomputable def I.watchIn_tree {α : Type} (net : List Int) (set_ : Int) (leaf0_ : Bool → α) (fail_ : α) : α :=
  (optC (I.seenIn_t net set_) (fun c_1 => (optC (I.allOf_t net) (fun c_2 => (leaf0_ (c_1 == c_2))) fail_)) fail_)
theorem I.watchIn_tree_nat {α γ : Type} (g : α → γ) (net : List Int) (set_ : Int) (leaf0_ : Bool → α) (fail_ : α) : g (I.watchIn_tree net set_ leaf0_ fail_) = I.watchIn_tree net set_ (fun d => g (leaf0_ d)) (g fail_) := by
  unfold I.watchIn_tree; simp only [apply_cnd g, apply_optC g, apply_sumC g]
noncomputable def I.watchIn_t (net : List Int) (set_ : Int) : Option (Bool) := I.watchIn_tree net set_ (fun d => some d) none
theorem I.watchIn_den (net : List Int) (set_ : Int) (κ : V → List E → R) : I.watchIn_F [.ro false (.ints .i64 net), .int .i64 set_] [] κ = optC (I.watchIn_t net set_) (fun (r : Bool) => κ (.bool r) []) none := by
  have hu : I.watchIn_F [.ro false (.ints .i64 net), .int .i64 set_] [] κ = I.watchIn_tree net set_ (fun d => κ (.bool d) []) none := by
    kernel_rfl
  rw [hu]
  exact (I.watchIn_tree_nat (fun o => optC o (fun (r : Bool) => κ (.bool r) []) none) net set_ (fun d => some d) none).symm
noncomputable def I.watchIn_s : D.Spec where
  keep := false
  pure := true
  add := true
  ds := [.int .i64, .invalid]
  sp := fun args h κ => match args, h with
    | [.ro false (.ints .i64 net), .int .i64 set_], [] => optC (I.watchIn_t net set_) (fun (r : Bool) => κ (.bool r) []) none
    | _, _ => none
theorem I.watchIn_ok : SpecOk Try.prog 57 I.watchIn_s := by
  refine SpecOk.of TDok mixed (T := I.watchIn_T) ?_ (ann := I.watchIn_ann) Try.func57 rfl (by decide +kernel) ?_ ?_ ?_ ?_
  · intro p hp
    simp only [I.watchIn_T, List.mem_cons, List.not_mem_nil, or_false] at hp
    rcases hp with rfl | rfl
    · exact I.seenIn_ok
    · exact I.allOf_ok
  · intro args h κ r hh
    simp only [I.watchIn_s] at hh
    split at hh
    · exact (I.watchIn_den _ _ κ).trans hh
    · cases hh
  · intro args h κ r hh
    simp only [I.watchIn_s] at hh ⊢
    split at hh
    · exact optC_law2 (F := fun (r : Bool) κ => κ (.bool r) []) (fun b κ r hb => ⟨_, _, hb, fun _ => rfl⟩) hh
    · cases hh
  · intro _ args h κ r hh
    simp only [I.watchIn_s] at hh
    split at hh
    · exact ⟨rfl, fun _ => rfl⟩
    · cases hh
  · intro _ args h κ r hh
    simp only [I.watchIn_s] at hh
    split at hh
    · rfl
    · cases hh

-- loop.example/guardsonnets/impl.smallWatchIn
noncomputable def I.smallWatchIn_T : List (Nat × D.Spec) := [(65, I.allOf_s), (46, I.sizeOf_s), (57, I.watchIn_s)]
def I.smallWatchIn_ann : Nat → List Nat × List Nat
  | 3 => ([0, 3, 4], [3])
  | _ => ([], [])
noncomputable def I.smallWatchIn_F (args : List V) (h : List E) (κ : V → List E → R) : R := funC TD (tableK I.smallWatchIn_T) I.smallWatchIn_ann (drawOk TD (tableP I.smallWatchIn_T)) FUEL Try.f47 args h κ
noncomputable def I.smallWatchIn_L3 (n : Nat) (σ : St) (k : X → St → R) : R := iterC 0 (fun σ k => denC TD (tableK I.smallWatchIn_T) I.smallWatchIn_ann (drawOk TD (tableP I.smallWatchIn_T)) 0 FUEL ((findLoop 3 (Try.f47.body.getD .skip)).getD .skip) σ k) [0, 3, 4] [3] n σ k
noncomputable def I.smallWatchIn_k3 (κ : V → List E → R) : X → St → R := (afterC TD (tableK I.smallWatchIn_T) I.smallWatchIn_ann (drawOk TD (tableP I.smallWatchIn_T)) 0 FUEL 3 (Try.f47.body.getD .skip) (finC TD 0 Try.f47 κ)).getD (fun _ _ => none)
noncomputable def I.smallWatchIn_step3 {α : Type} (x0 : List Int) (x3 : Int) (x4 : Int) (next_ : Int × Int → α) (out0_ : Int → α) (fail_ : α) : α :=
  (optC (I.allOf_t x0) (fun c_2 => (bif decide (x4 < c_2) then (optC (I.sizeOf_t x4) (fun c_3 => (optC (I.sizeOf_t x3) (fun c_4 => (bif decide (c_3 < c_4) then (optC (I.watchIn_t x0 x4) (fun c_5 => (bif c_5 then (next_ (x4, IntKind.i64.wrap (x4 + 1))) else (next_ (x3, IntKind.i64.wrap (x4 + 1))))) fail_) else (next_ (x3, IntKind.i64.wrap (x4 + 1))))) fail_)) fail_) else (out0_ x3))) fail_)
theorem I.smallWatchIn_step3_nat {α γ : Type} (g : α → γ) (x0 : List Int) (x3 : Int) (x4 : Int) (next_ : Int × Int → α) (out0_ : Int → α) (fail_ : α) : g (I.smallWatchIn_step3 x0 x3 x4 next_ out0_ fail_) = I.smallWatchIn_step3 x0 x3 x4 (fun s => g (next_ s)) (fun d => g (out0_ d)) (g fail_) := by
  unfold I.smallWatchIn_step3; simp only [apply_cnd g, apply_optC g, apply_sumC g]
noncomputable def I.smallWatchIn_run3 (x0 : List Int) : Nat → Int × Int → Option (Int)
  | 0, _ => none
  | n + 1, s_ => I.smallWatchIn_step3 x0 s_.1 s_.2 (I.smallWatchIn_run3 x0 n) (fun d => some d) none
theorem I.smallWatchIn_L3_run (x0 : List Int) (n : Nat) (s_ : Int × Int) (k : X → St → R) : I.smallWatchIn_L3 n { n := 25, t := [(0, (.ro false (.ints .i64 x0))), (3, (.int .i64 s_.1)), (4, (.int .i64 s_.2))], h := [] } k = optC (I.smallWatchIn_run3 x0 n s_) (fun (r : Int) => k (.exit 0) { n := 25, t := [(3, (.int .i64 r))], h := [] }) none := by
  induction n generalizing s_ with
  | zero => rfl
  | succ n ih =>
    have hu : I.smallWatchIn_L3 (n + 1) { n := 25, t := [(0, (.ro false (.ints .i64 x0))), (3, (.int .i64 s_.1)), (4, (.int .i64 s_.2))], h := [] } k = I.smallWatchIn_step3 x0 s_.1 s_.2 (fun s_ => I.smallWatchIn_L3 n { n := 25, t := [(0, (.ro false (.ints .i64 x0))), (3, (.int .i64 s_.1)), (4, (.int .i64 s_.2))], h := [] } k) (fun d => k (.exit 0) { n := 25, t := [(3, (.int .i64 d))], h := [] }) none := by
      kernel_rfl
    have hs : (fun s_ : Int × Int => I.smallWatchIn_L3 n { n := 25, t := [(0, (.ro false (.ints .i64 x0))), (3, (.int .i64 s_.1)), (4, (.int .i64 s_.2))], h := [] } k) = fun s_ => optC (I.smallWatchIn_run3 x0 n s_) (fun (r : Int) => k (.exit 0) { n := 25, t := [(3, (.int .i64 r))], h := [] }) none := funext ih
    rw [hu, hs]
    exact (I.smallWatchIn_step3_nat (fun o => optC o (fun (r : Int) => k (.exit 0) { n := 25, t := [(3, (.int .i64 r))], h := [] }) none) x0 s_.1 s_.2 (I.smallWatchIn_run3 x0 n) (fun d => some d) none).symm
noncomputable def I.smallWatchIn_tree {α : Type} (net : List Int) (leaf0_ : Int → α) (fail_ : α) : α :=
  (optC (I.allOf_t net) (fun c_1 => (optC (I.smallWatchIn_run3 net FUEL (c_1, 0)) (fun qy_6 => (leaf0_ qy_6)) fail_)) fail_)
theorem I.smallWatchIn_tree_nat {α γ : Type} (g : α → γ) (net : List Int) (leaf0_ : Int → α) (fail_ : α) : g (I.smallWatchIn_tree net leaf0_ fail_) = I.smallWatchIn_tree net (fun d => g (leaf0_ d)) (g fail_) := by
  unfold I.smallWatchIn_tree; simp only [apply_cnd g, apply_optC g, apply_sumC g]
noncomputable def I.smallWatchIn_t (net : List Int) : Option (Int) := I.smallWatchIn_tree net (fun d => some d) none
theorem I.smallWatchIn_den (net : List Int) (κ : V → List E → R) : I.smallWatchIn_F [.ro false (.ints .i64 net)] [] κ = optC (I.smallWatchIn_t net) (fun (r : Int) => κ (.int .i64 r) []) none := by
  have hu : I.smallWatchIn_F [.ro false (.ints .i64 net)] [] κ = I.smallWatchIn_tree net (fun d => κ (.int .i64 d) []) none := by
    refine Eq.trans (show I.smallWatchIn_F [.ro false (.ints .i64 net)] [] κ = (optC (I.allOf_t net) (fun c_1 => (I.smallWatchIn_L3 FUEL { n := 25, t := [(0, (.ro false (.ints .i64 net))), (3, (.int .i64 c_1)), (4, (.int .i64 0))], h := [] } (I.smallWatchIn_k3 κ))) none) by kernel_rfl) ?_
    refine optC_congr (fun c_1 => ?_)
    refine (I.smallWatchIn_L3_run net FUEL (c_1, 0) (I.smallWatchIn_k3 κ)).trans (optC_congr (fun qy_6 => ?_))
    kernel_rfl
  rw [hu]
  exact (I.smallWatchIn_tree_nat (fun o => optC o (fun (r : Int) => κ (.int .i64 r) []) none) net (fun d => some d) none).symm
noncomputable def I.smallWatchIn_s : D.Spec where
  keep := false
  pure := true
  add := true
  ds := [.int .i64]
  sp := fun args h κ => match args, h with
    | [.ro false (.ints .i64 net)], [] => optC (I.smallWatchIn_t net) (fun (r : Int) => κ (.int .i64 r) []) none
    | _, _ => none
theorem I.smallWatchIn_ok : SpecOk Try.prog 47 I.smallWatchIn_s := by
  refine SpecOk.of TDok mixed (T := I.smallWatchIn_T) ?_ (ann := I.smallWatchIn_ann) Try.func47 rfl (by decide +kernel) ?_ ?_ ?_ ?_
  · intro p hp
    simp only [I.smallWatchIn_T, List.mem_cons, List.not_mem_nil, or_false] at hp
    rcases hp with rfl | rfl | rfl
    · exact I.allOf_ok
    · exact I.sizeOf_ok
    · exact I.watchIn_ok
  · intro args h κ r hh
    simp only [I.smallWatchIn_s] at hh
    split at hh
    · exact (I.smallWatchIn_den _ κ).trans hh
    · cases hh
  · intro args h κ r hh
    simp only [I.smallWatchIn_s] at hh ⊢
    split at hh
    · exact optC_law2 (F := fun (r : Int) κ => κ (.int .i64 r) []) (fun b κ r hb => ⟨_, _, hb, fun _ => rfl⟩) hh
    · cases hh
  · intro _ args h κ r hh
    simp only [I.smallWatchIn_s] at hh
    split at hh
    · exact ⟨rfl, fun _ => rfl⟩
    · cases hh
  · intro _ args h κ r hh
    simp only [I.smallWatchIn_s] at hh
    split at hh
    · rfl
    · cases hh

-- loop.example/guardsonnets/impl.FewestWatch
noncomputable def I.FewestWatch_T : List (Nat × D.Spec) := [(28, I.NetOk_s), (47, I.smallWatchIn_s), (46, I.sizeOf_s)]
def I.FewestWatch_ann : Nat → List Nat × List Nat
  | _ => ([], [])
noncomputable def I.FewestWatch_F (args : List V) (h : List E) (κ : V → List E → R) : R := funC TD (tableK I.FewestWatch_T) I.FewestWatch_ann (drawOk TD (tableP I.FewestWatch_T)) FUEL Try.f16 args h κ
noncomputable def I.FewestWatch_tree {α : Type} (net : List Int) (leaf0_ : Int → α) (fail_ : α) : α :=
  (optC (I.NetOk_t net) (fun c_1 => (bif !c_1 then (leaf0_ (-1)) else (optC (I.smallWatchIn_t net) (fun c_2 => (optC (I.sizeOf_t c_2) (fun c_3 => (leaf0_ c_3)) fail_)) fail_))) fail_)
theorem I.FewestWatch_tree_nat {α γ : Type} (g : α → γ) (net : List Int) (leaf0_ : Int → α) (fail_ : α) : g (I.FewestWatch_tree net leaf0_ fail_) = I.FewestWatch_tree net (fun d => g (leaf0_ d)) (g fail_) := by
  unfold I.FewestWatch_tree; simp only [apply_cnd g, apply_optC g, apply_sumC g]
noncomputable def I.FewestWatch_t (net : List Int) : Option (Int) := I.FewestWatch_tree net (fun d => some d) none
theorem I.FewestWatch_den (net : List Int) (κ : V → List E → R) : I.FewestWatch_F [.ro false (.ints .i64 net)] [] κ = optC (I.FewestWatch_t net) (fun (r : Int) => κ (.int .i64 r) []) none := by
  have hu : I.FewestWatch_F [.ro false (.ints .i64 net)] [] κ = I.FewestWatch_tree net (fun d => κ (.int .i64 d) []) none := by
    kernel_rfl
  rw [hu]
  exact (I.FewestWatch_tree_nat (fun o => optC o (fun (r : Int) => κ (.int .i64 r) []) none) net (fun d => some d) none).symm
noncomputable def I.FewestWatch_s : D.Spec where
  keep := false
  pure := true
  add := true
  ds := [.int .i64]
  sp := fun args h κ => match args, h with
    | [.ro false (.ints .i64 net)], [] => optC (I.FewestWatch_t net) (fun (r : Int) => κ (.int .i64 r) []) none
    | _, _ => none
theorem I.FewestWatch_ok : SpecOk Try.prog 16 I.FewestWatch_s := by
  refine SpecOk.of TDok mixed (T := I.FewestWatch_T) ?_ (ann := I.FewestWatch_ann) Try.func16 rfl (by decide +kernel) ?_ ?_ ?_ ?_
  · intro p hp
    simp only [I.FewestWatch_T, List.mem_cons, List.not_mem_nil, or_false] at hp
    rcases hp with rfl | rfl | rfl
    · exact I.NetOk_ok
    · exact I.smallWatchIn_ok
    · exact I.sizeOf_ok
  · intro args h κ r hh
    simp only [I.FewestWatch_s] at hh
    split at hh
    · exact (I.FewestWatch_den _ κ).trans hh
    · cases hh
  · intro args h κ r hh
    simp only [I.FewestWatch_s] at hh ⊢
    split at hh
    · exact optC_law2 (F := fun (r : Int) κ => κ (.int .i64 r) []) (fun b κ r hb => ⟨_, _, hb, fun _ => rfl⟩) hh
    · cases hh
  · intro _ args h κ r hh
    simp only [I.FewestWatch_s] at hh
    split at hh
    · exact ⟨rfl, fun _ => rfl⟩
    · cases hh
  · intro _ args h κ r hh
    simp only [I.FewestWatch_s] at hh
    split at hh
    · rfl
    · cases hh

-- loop.example/guardsonnets/laws.FnGameMoves
noncomputable def L.FnGameMoves_T : List (Nat × D.Spec) := [(11, S.DrawGameMoves_s), (12, I.GameMoves_s), (13, S.GameMoves_s), (14, I.SeenBy_s), (15, L.alive_s), (16, I.FewestWatch_s)]
def L.FnGameMoves_ann : Nat → List Nat × List Nat
  | 10 => ([3, 4, 5, 6, 7], [2, 3, 4, 5, 6])
  | _ => ([], [])
noncomputable def L.FnGameMoves_F (args : List V) (h : List E) (κ : V → List E → R) : R := funC TD (tableK L.FnGameMoves_T) L.FnGameMoves_ann (drawOk TD (tableP L.FnGameMoves_T)) FUEL Try.f3 args h κ
noncomputable def L.FnGameMoves_L10 (n : Nat) (σ : St) (k : X → St → R) : R := iterC 0 (fun σ k => denC TD (tableK L.FnGameMoves_T) L.FnGameMoves_ann (drawOk TD (tableP L.FnGameMoves_T)) 0 FUEL ((findLoop 10 (Try.f3.body.getD .skip)).getD .skip) σ k) [3, 4, 5, 6, 7] [2, 3, 4, 5, 6] n σ k
noncomputable def L.FnGameMoves_k10 (κ : V → List E → R) : X → St → R := (afterC TD (tableK L.FnGameMoves_T) L.FnGameMoves_ann (drawOk TD (tableP L.FnGameMoves_T)) 0 FUEL 10 (Try.f3.body.getD .skip) (finC TD 0 Try.f3 κ)).getD (fun _ _ => none)
noncomputable def L.FnGameMoves_step10 {α : Type} (x4 : Int) (x5 : Bool) (x6 : Int) (x7 : Int) (r0 : List Int) (next_ : Int × (List Int) → α) (out0_ : Bool × (List Int) → α) (out1_ : List Int → α) (fail_ : α) : α :=
  (bif decide (x7 < (↑r0.length : Int)) then (bif decide (x7 < 0) then fail_ else (optC (I.GameMoves_t r0 (bits BinOp.or IntKind.i64 x4 (IntKind.i64.wrap (1 * 2 ^ min x7.toNat IntKind.i64.bits))) x5) (fun c_6 => (bif decide (c_6 > x6) then (out0_ (false, r0)) else (next_ (IntKind.i64.wrap (x7 + 1), r0)))) fail_)) else (out1_ r0))
theorem L.FnGameMoves_step10_nat {α γ : Type} (g : α → γ) (x4 : Int) (x5 : Bool) (x6 : Int) (x7 : Int) (r0 : List Int) (next_ : Int × (List Int) → α) (out0_ : Bool × (List Int) → α) (out1_ : List Int → α) (fail_ : α) : g (L.FnGameMoves_step10 x4 x5 x6 x7 r0 next_ out0_ out1_ fail_) = L.FnGameMoves_step10 x4 x5 x6 x7 r0 (fun s => g (next_ s)) (fun d => g (out0_ d)) (fun d => g (out1_ d)) (g fail_) := by
  unfold L.FnGameMoves_step10; simp only [apply_cnd g, apply_optC g, apply_sumC g]
noncomputable def L.FnGameMoves_run10 (x4 : Int) (x5 : Bool) (x6 : Int) : Nat → Int × (List Int) → Option ((Bool × (List Int)) ⊕ (List Int))
  | 0, _ => none
  | n + 1, s_ => L.FnGameMoves_step10 x4 x5 x6 s_.1 s_.2 (L.FnGameMoves_run10 x4 x5 x6 n) (fun d => some ((Sum.inl d))) (fun d => some ((Sum.inr d))) none
theorem L.FnGameMoves_L10_run (x4 : Int) (x5 : Bool) (x6 : Int) (n : Nat) (s_ : Int × (List Int)) (k : X → St → R) : L.FnGameMoves_L10 n { n := 114, t := [(3, (.own 0)), (4, (.int .i64 x4)), (5, (.bool x5)), (6, (.int .i64 x6)), (7, (.int .i64 s_.1))], h := [.row (.ints .i64 s_.2)] } k = optC (L.FnGameMoves_run10 x4 x5 x6 n s_) (fun (r : (Bool × (List Int)) ⊕ (List Int)) => (sumC r (fun (r : Bool × (List Int)) => k (.ret) { n := 114, t := [(2, (.bool r.1)), (3, (.own 0)), (4, (.int .i64 x4)), (5, (.bool x5)), (6, (.int .i64 x6))], h := [.row (.ints .i64 r.2)] }) (fun (r : List Int) => k (.exit 0) { n := 114, t := [(2, .junk), (3, (.own 0)), (4, (.int .i64 x4)), (5, (.bool x5)), (6, (.int .i64 x6))], h := [.row (.ints .i64 r)] }))) none := by
  induction n generalizing s_ with
  | zero => rfl
  | succ n ih =>
    have hu : L.FnGameMoves_L10 (n + 1) { n := 114, t := [(3, (.own 0)), (4, (.int .i64 x4)), (5, (.bool x5)), (6, (.int .i64 x6)), (7, (.int .i64 s_.1))], h := [.row (.ints .i64 s_.2)] } k = L.FnGameMoves_step10 x4 x5 x6 s_.1 s_.2 (fun s_ => L.FnGameMoves_L10 n { n := 114, t := [(3, (.own 0)), (4, (.int .i64 x4)), (5, (.bool x5)), (6, (.int .i64 x6)), (7, (.int .i64 s_.1))], h := [.row (.ints .i64 s_.2)] } k) (fun d => k (.ret) { n := 114, t := [(2, (.bool d.1)), (3, (.own 0)), (4, (.int .i64 x4)), (5, (.bool x5)), (6, (.int .i64 x6))], h := [.row (.ints .i64 d.2)] }) (fun d => k (.exit 0) { n := 114, t := [(2, .junk), (3, (.own 0)), (4, (.int .i64 x4)), (5, (.bool x5)), (6, (.int .i64 x6))], h := [.row (.ints .i64 d)] }) none := by
      kernel_rfl
    have hs : (fun s_ : Int × (List Int) => L.FnGameMoves_L10 n { n := 114, t := [(3, (.own 0)), (4, (.int .i64 x4)), (5, (.bool x5)), (6, (.int .i64 x6)), (7, (.int .i64 s_.1))], h := [.row (.ints .i64 s_.2)] } k) = fun s_ => optC (L.FnGameMoves_run10 x4 x5 x6 n s_) (fun (r : (Bool × (List Int)) ⊕ (List Int)) => (sumC r (fun (r : Bool × (List Int)) => k (.ret) { n := 114, t := [(2, (.bool r.1)), (3, (.own 0)), (4, (.int .i64 x4)), (5, (.bool x5)), (6, (.int .i64 x6))], h := [.row (.ints .i64 r.2)] }) (fun (r : List Int) => k (.exit 0) { n := 114, t := [(2, .junk), (3, (.own 0)), (4, (.int .i64 x4)), (5, (.bool x5)), (6, (.int .i64 x6))], h := [.row (.ints .i64 r)] }))) none := funext ih
    rw [hu, hs]
    exact (L.FnGameMoves_step10_nat (fun o => optC o (fun (r : (Bool × (List Int)) ⊕ (List Int)) => (sumC r (fun (r : Bool × (List Int)) => k (.ret) { n := 114, t := [(2, (.bool r.1)), (3, (.own 0)), (4, (.int .i64 x4)), (5, (.bool x5)), (6, (.int .i64 x6))], h := [.row (.ints .i64 r.2)] }) (fun (r : List Int) => k (.exit 0) { n := 114, t := [(2, .junk), (3, (.own 0)), (4, (.int .i64 x4)), (5, (.bool x5)), (6, (.int .i64 x6))], h := [.row (.ints .i64 r)] }))) none) x4 x5 x6 s_.1 s_.2 (L.FnGameMoves_run10 x4 x5 x6 n) (fun d => some ((Sum.inl d))) (fun d => some ((Sum.inr d))) none).symm
noncomputable def L.FnGameMoves_tree {α : Type} (code : List Int) (leaf0_ : Bool → α) (fail_ : α) : α :=
  (bif decide ((↑code.length : Int) > 1048576) then (leaf0_ true) else (optC (S.DrawGameMoves_t code) (fun c_1 => (optC (I.GameMoves_t c_1.snd.snd c_1.fst c_1.snd.fst) (fun c_2 => (optC (S.GameMoves_t c_1.snd.snd c_1.fst c_1.snd.fst) (fun c_3 => (bif !c_2 == c_3 then (leaf0_ false) else (bif decide (c_2 < 0) then (bif c_2 == -1 then (optC (I.SeenBy_t c_1.snd.snd c_1.fst) (fun c_4 => (bif c_4 == -1 then (optC (L.alive_t) (fun c_5 => (leaf0_ c_5)) fail_) else (leaf0_ false))) fail_) else (leaf0_ false)) else (optC (L.FnGameMoves_run10 c_1.fst c_1.snd.fst c_2 FUEL (0, c_1.snd.snd)) (fun qy_7 => (sumC qy_7 (fun (qy_7 : Bool × (List Int)) => (leaf0_ qy_7.1)) (fun (qy_7 : List Int) => (optC (I.GameMoves_t qy_7 c_1.fst !c_1.snd.fst) (fun c_8 => (optC (I.FewestWatch_t qy_7) (fun c_9 => (optC (I.GameMoves_t qy_7 0 true) (fun c_10 => (optC (I.GameMoves_t qy_7 0 false) (fun c_11 => (bif decide (IntKind.i64.wrap (c_2 - c_8) ≤ 1) then (bif decide (IntKind.i64.wrap (c_8 - c_2) ≤ 1) then (bif decide (c_10 ≥ c_9) then (bif decide (c_10 ≤ IntKind.i64.wrap (IntKind.i64.wrap (2 * c_9) - 1)) then (bif decide (c_11 ≥ c_9) then (bif decide (c_11 ≤ IntKind.i64.wrap (2 * c_9)) then (leaf0_ ((c_2 == 0) == (c_1.fst == IntKind.i64.wrap (IntKind.i64.wrap (1 * 2 ^ min (↑qy_7.length : Int).toNat IntKind.i64.bits) - 1)))) else (leaf0_ false)) else (leaf0_ false)) else (leaf0_ false)) else (leaf0_ false)) else (leaf0_ false)) else (leaf0_ false))) fail_)) fail_)) fail_)) fail_)))) fail_)))) fail_)) fail_)) fail_))
theorem L.FnGameMoves_tree_nat {α γ : Type} (g : α → γ) (code : List Int) (leaf0_ : Bool → α) (fail_ : α) : g (L.FnGameMoves_tree code leaf0_ fail_) = L.FnGameMoves_tree code (fun d => g (leaf0_ d)) (g fail_) := by
  unfold L.FnGameMoves_tree; simp only [apply_cnd g, apply_optC g, apply_sumC g]
noncomputable def L.FnGameMoves_t (code : List Int) : Option (Bool) := L.FnGameMoves_tree code (fun d => some d) none
theorem L.FnGameMoves_den (code : List Int) (κ : V → List E → R) : L.FnGameMoves_F [.ro true (.ints .u8 code)] [] κ = optC (L.FnGameMoves_t code) (fun (r : Bool) => κ (.bool r) []) none := by
  have hu : L.FnGameMoves_F [.ro true (.ints .u8 code)] [] κ = L.FnGameMoves_tree code (fun d => κ (.bool d) []) none := by
    refine Eq.trans (show L.FnGameMoves_F [.ro true (.ints .u8 code)] [] κ = (bif decide ((↑code.length : Int) > 1048576) then (κ (.bool true) []) else (optC (S.DrawGameMoves_t code) (fun c_1 => (optC (I.GameMoves_t c_1.snd.snd c_1.fst c_1.snd.fst) (fun c_2 => (optC (S.GameMoves_t c_1.snd.snd c_1.fst c_1.snd.fst) (fun c_3 => (bif !c_2 == c_3 then (κ (.bool false) []) else (bif decide (c_2 < 0) then (bif c_2 == -1 then (optC (I.SeenBy_t c_1.snd.snd c_1.fst) (fun c_4 => (bif c_4 == -1 then (optC (L.alive_t) (fun c_5 => (κ (.bool c_5) [])) none) else (κ (.bool false) []))) none) else (κ (.bool false) [])) else (L.FnGameMoves_L10 FUEL { n := 114, t := [(3, (.own 0)), (4, (.int .i64 c_1.fst)), (5, (.bool c_1.snd.fst)), (6, (.int .i64 c_2)), (7, (.int .i64 0))], h := [.row (.ints .i64 c_1.snd.snd)] } (L.FnGameMoves_k10 κ))))) none)) none)) none)) by kernel_rfl) ?_
    refine cnd_congr ?_ ?_
    · kernel_rfl
    · refine optC_congr (fun c_1 => ?_)
      refine optC_congr (fun c_2 => ?_)
      refine optC_congr (fun c_3 => ?_)
      refine cnd_congr ?_ ?_
      · kernel_rfl
      · refine cnd_congr ?_ ?_
        · kernel_rfl
        · refine (L.FnGameMoves_L10_run c_1.fst c_1.snd.fst c_2 FUEL (0, c_1.snd.snd) (L.FnGameMoves_k10 κ)).trans (optC_congr (fun qy_7 => ?_))
          rcases qy_7 with qy_7 | qy_7
          · kernel_rfl
          · kernel_rfl
  rw [hu]
  exact (L.FnGameMoves_tree_nat (fun o => optC o (fun (r : Bool) => κ (.bool r) []) none) code (fun d => some d) none).symm
noncomputable def L.FnGameMoves_s : D.Spec where
  keep := true
  pure := true
  add := true
  ds := [.int .u8]
  sp := fun args h κ => match args, h with
    | [.ro true (.ints .u8 code)], [] => optC (L.FnGameMoves_t code) (fun (r : Bool) => κ (.bool r) []) none
    | _, _ => none
theorem L.FnGameMoves_ok : SpecOk Try.prog 3 L.FnGameMoves_s := by
  refine SpecOk.of TDok mixed (T := L.FnGameMoves_T) ?_ (ann := L.FnGameMoves_ann) Try.func3 rfl (by decide +kernel) ?_ ?_ ?_ ?_
  · intro p hp
    simp only [L.FnGameMoves_T, List.mem_cons, List.not_mem_nil, or_false] at hp
    rcases hp with rfl | rfl | rfl | rfl | rfl | rfl
    · exact S.DrawGameMoves_ok
    · exact I.GameMoves_ok
    · exact S.GameMoves_ok
    · exact I.SeenBy_ok
    · exact L.alive_ok
    · exact I.FewestWatch_ok
  · intro args h κ r hh
    simp only [L.FnGameMoves_s] at hh
    split at hh
    · exact (L.FnGameMoves_den _ κ).trans hh
    · cases hh
  · intro args h κ r hh
    simp only [L.FnGameMoves_s] at hh ⊢
    split at hh
    · exact optC_law2 (F := fun (r : Bool) κ => κ (.bool r) []) (fun b κ r hb => ⟨_, _, hb, fun _ => rfl⟩) hh
    · cases hh
  · intro _ args h κ r hh
    simp only [L.FnGameMoves_s] at hh
    split at hh
    · exact ⟨rfl, fun _ => rfl⟩
    · cases hh
  · intro _ args h κ r hh
    simp only [L.FnGameMoves_s] at hh
    split at hh
    · rfl
    · cases hh

-- loop.example/guardsonnets/laws.toIntS
noncomputable def L.toIntS_T : List (Nat × D.Spec) := []
def L.toIntS_ann : Nat → List Nat × List Nat
  | 3 => ([0, 3, 4], [3])
  | _ => ([], [])
noncomputable def L.toIntS_F (args : List V) (h : List E) (κ : V → List E → R) : R := funC TD (tableK L.toIntS_T) L.toIntS_ann (drawOk TD (tableP L.toIntS_T)) FUEL Try.f17 args h κ
noncomputable def L.toIntS_L3 (n : Nat) (σ : St) (k : X → St → R) : R := iterC 0 (fun σ k => denC TD (tableK L.toIntS_T) L.toIntS_ann (drawOk TD (tableP L.toIntS_T)) 0 FUEL ((findLoop 3 (Try.f17.body.getD .skip)).getD .skip) σ k) [0, 3, 4] [3] n σ k
noncomputable def L.toIntS_k3 (κ : V → List E → R) : X → St → R := (afterC TD (tableK L.toIntS_T) L.toIntS_ann (drawOk TD (tableP L.toIntS_T)) 0 FUEL 3 (Try.f17.body.getD .skip) (finC TD 0 Try.f17 κ)).getD (fun _ _ => none)
noncomputable def L.toIntS_step3 {α : Type} (x0 : List Int) (x4 : Int) (r0 : List Int) (next_ : Int × (List Int) → α) (out0_ : List Int → α) (fail_ : α) : α :=
  (bif decide (x4 < (↑x0.length : Int)) then (bif decide (0 ≤ x4) && decide (x4 < (↑x0.length : Int)) then (bif decide (0 ≤ x4) && decide (x4 < (↑r0.length : Int)) then (bif decide (x4.toNat < r0.length) then (next_ (IntKind.i64.wrap (x4 + 1), r0.set x4.toNat (eli x0 x4.toNat))) else fail_) else fail_) else fail_) else (out0_ r0))
theorem L.toIntS_step3_nat {α γ : Type} (g : α → γ) (x0 : List Int) (x4 : Int) (r0 : List Int) (next_ : Int × (List Int) → α) (out0_ : List Int → α) (fail_ : α) : g (L.toIntS_step3 x0 x4 r0 next_ out0_ fail_) = L.toIntS_step3 x0 x4 r0 (fun s => g (next_ s)) (fun d => g (out0_ d)) (g fail_) := by
  unfold L.toIntS_step3; simp only [apply_cnd g, apply_optC g, apply_sumC g]
noncomputable def L.toIntS_run3 (x0 : List Int) : Nat → Int × (List Int) → Option (List Int)
  | 0, _ => none
  | n + 1, s_ => L.toIntS_step3 x0 s_.1 s_.2 (L.toIntS_run3 x0 n) (fun d => some d) none
theorem L.toIntS_L3_run (x0 : List Int) (n : Nat) (s_ : Int × (List Int)) (k : X → St → R) : L.toIntS_L3 n { n := 22, t := [(0, (.ro false (.ints .i64 x0))), (3, (.own 0)), (4, (.int .i64 s_.1))], h := [.row (.ints .i64 s_.2)] } k = optC (L.toIntS_run3 x0 n s_) (fun (r : List Int) => k (.exit 0) { n := 22, t := [(3, (.own 0))], h := [.row (.ints .i64 r)] }) none := by
  induction n generalizing s_ with
  | zero => rfl
  | succ n ih =>
    have hu : L.toIntS_L3 (n + 1) { n := 22, t := [(0, (.ro false (.ints .i64 x0))), (3, (.own 0)), (4, (.int .i64 s_.1))], h := [.row (.ints .i64 s_.2)] } k = L.toIntS_step3 x0 s_.1 s_.2 (fun s_ => L.toIntS_L3 n { n := 22, t := [(0, (.ro false (.ints .i64 x0))), (3, (.own 0)), (4, (.int .i64 s_.1))], h := [.row (.ints .i64 s_.2)] } k) (fun d => k (.exit 0) { n := 22, t := [(3, (.own 0))], h := [.row (.ints .i64 d)] }) none := by
      kernel_rfl
    have hs : (fun s_ : Int × (List Int) => L.toIntS_L3 n { n := 22, t := [(0, (.ro false (.ints .i64 x0))), (3, (.own 0)), (4, (.int .i64 s_.1))], h := [.row (.ints .i64 s_.2)] } k) = fun s_ => optC (L.toIntS_run3 x0 n s_) (fun (r : List Int) => k (.exit 0) { n := 22, t := [(3, (.own 0))], h := [.row (.ints .i64 r)] }) none := funext ih
    rw [hu, hs]
    exact (L.toIntS_step3_nat (fun o => optC o (fun (r : List Int) => k (.exit 0) { n := 22, t := [(3, (.own 0))], h := [.row (.ints .i64 r)] }) none) x0 s_.1 s_.2 (L.toIntS_run3 x0 n) (fun d => some d) none).symm
noncomputable def L.toIntS_tree {α : Type} (a : List Int) (leaf0_ : List Int → α) (fail_ : α) : α :=
  (bif small (↑a.length : Int).toNat && true then (optC (L.toIntS_run3 a FUEL (0, List.replicate (↑a.length : Int).toNat 0)) (fun qy_1 => (leaf0_ qy_1)) fail_) else fail_)
theorem L.toIntS_tree_nat {α γ : Type} (g : α → γ) (a : List Int) (leaf0_ : List Int → α) (fail_ : α) : g (L.toIntS_tree a leaf0_ fail_) = L.toIntS_tree a (fun d => g (leaf0_ d)) (g fail_) := by
  unfold L.toIntS_tree; simp only [apply_cnd g, apply_optC g, apply_sumC g]
noncomputable def L.toIntS_t (a : List Int) : Option (List Int) := L.toIntS_tree a (fun d => some d) none
theorem L.toIntS_den (a : List Int) (κ : V → List E → R) : L.toIntS_F [.ro false (.ints .i64 a)] [] κ = optC (L.toIntS_t a) (fun (r : List Int) => κ (.own 0) [.row (.ints .i64 r)]) none := by
  have hu : L.toIntS_F [.ro false (.ints .i64 a)] [] κ = L.toIntS_tree a (fun d => κ (.own 0) [.row (.ints .i64 d)]) none := by
    refine Eq.trans (show L.toIntS_F [.ro false (.ints .i64 a)] [] κ = (bif small (↑a.length : Int).toNat && true then (L.toIntS_L3 FUEL { n := 22, t := [(0, (.ro false (.ints .i64 a))), (3, (.own 0)), (4, (.int .i64 0))], h := [.row (.ints .i64 (List.replicate (↑a.length : Int).toNat 0))] } (L.toIntS_k3 κ)) else none) by kernel_rfl) ?_
    refine cnd_congr ?_ ?_
    · refine (L.toIntS_L3_run a FUEL (0, List.replicate (↑a.length : Int).toNat 0) (L.toIntS_k3 κ)).trans (optC_congr (fun qy_1 => ?_))
      kernel_rfl
    · kernel_rfl
  rw [hu]
  exact (L.toIntS_tree_nat (fun o => optC o (fun (r : List Int) => κ (.own 0) [.row (.ints .i64 r)]) none) a (fun d => some d) none).symm
noncomputable def L.toIntS_s : D.Spec where
  keep := false
  pure := false
  add := true
  ds := [.int .i64]
  sp := fun args h κ => match args, h with
    | [.ro false (.ints .i64 a)], [] => optC (L.toIntS_t a) (fun (r : List Int) => κ (.own 0) [.row (.ints .i64 r)]) none
    | _, _ => none
theorem L.toIntS_ok : SpecOk Try.prog 17 L.toIntS_s := by
  refine SpecOk.of TDok mixed (T := L.toIntS_T) ?_ (ann := L.toIntS_ann) Try.func17 rfl (by decide +kernel) ?_ ?_ ?_ ?_
  · intro p hp; cases hp
  · intro args h κ r hh
    simp only [L.toIntS_s] at hh
    split at hh
    · exact (L.toIntS_den _ κ).trans hh
    · cases hh
  · intro args h κ r hh
    simp only [L.toIntS_s] at hh ⊢
    split at hh
    · exact optC_law2 (F := fun (r : List Int) κ => κ (.own 0) [.row (.ints .i64 r)]) (fun b κ r hb => ⟨_, _, hb, fun _ => rfl⟩) hh
    · cases hh
  · intro hh; cases hh
  · intro _ args h κ r hh
    simp only [L.toIntS_s] at hh
    split at hh
    · rfl
    · cases hh


end Go.Proofs.Ytaidofcjijkbjaa
