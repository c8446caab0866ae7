/- Twins of the translated functions, with their proofs. Conditions: none. -/
import Derived.Test.YtleianhibhpgpaaBzTab
set_option linter.unusedVariables false
set_option linter.unusedSimpArgs false
set_option linter.unusedSectionVars false
namespace Go.Proofs.Ytleianhibhpgpaa
open D Go.RowKit
-- loop.example/guardsonnets/spec.l20Open
noncomputable def S.l20Open_T : List (Nat × D.Spec) := []
def S.l20Open_ann : Nat → List Nat × List Nat
  | _ => ([], [])
noncomputable def S.l20Open_F (args : List V) (h : List E) (κ : V → List E → R) : R := funC TD (tableK S.l20Open_T) S.l20Open_ann (drawOk TD (tableP S.l20Open_T)) FUEL Try.f26 args h κ
noncomputable def S.l20Open_tree {α : Type} (code : List Int) (leaf0_ : (List Int) × Int → α) (fail_ : α) : α :=
  (bif decide ((↑code.length : Int) > 2000) then (bif decide (2000 ≤ (↑code.length : Int)) then (leaf0_ (List.take (Int.toNat 2000) (List.drop 0 code), 0)) else fail_) else (leaf0_ (code, 0)))
theorem S.l20Open_tree_nat {α γ : Type} (g : α → γ) (code : List Int) (leaf0_ : (List Int) × Int → α) (fail_ : α) : g (S.l20Open_tree code leaf0_ fail_) = S.l20Open_tree code (fun d => g (leaf0_ d)) (g fail_) := by
  unfold S.l20Open_tree; simp only [apply_cnd g, apply_optC g, apply_sumC g]
noncomputable def S.l20Open_t (code : List Int) : Option ((List Int) × Int) := S.l20Open_tree code (fun d => some d) none
theorem S.l20Open_den (code : List Int) (κ : V → List E → R) : S.l20Open_F [.ro true (.ints .u8 code)] [] κ = optC (S.l20Open_t code) (fun (r : (List Int) × Int) => κ (.ptr 0 0) [.cells [(.ro true (.ints .u8 r.1)), (.int .i64 r.2)]]) none := by
  have hu : S.l20Open_F [.ro true (.ints .u8 code)] [] κ = S.l20Open_tree code (fun d => κ (.ptr 0 0) [.cells [(.ro true (.ints .u8 d.1)), (.int .i64 d.2)]]) none := by
    kernel_rfl
  rw [hu]
  exact (S.l20Open_tree_nat (fun o => optC o (fun (r : (List Int) × Int) => κ (.ptr 0 0) [.cells [(.ro true (.ints .u8 r.1)), (.int .i64 r.2)]]) none) code (fun d => some d) none).symm
noncomputable def S.l20Open_s : D.Spec where
  keep := true
  pure := false
  add := true
  ds := [.int .u8]
  sp := fun args h κ => match args, h with
    | [.ro true (.ints .u8 code)], [] => optC (S.l20Open_t code) (fun (r : (List Int) × Int) => κ (.ptr 0 0) [.cells [(.ro true (.ints .u8 r.1)), (.int .i64 r.2)]]) none
    | _, _ => none
theorem S.l20Open_ok : SpecOk Try.prog 26 S.l20Open_s := by
  refine SpecOk.of TDok mixed (T := S.l20Open_T) ?_ (ann := S.l20Open_ann) Try.func26 rfl (by decide +kernel) ?_ ?_ ?_ ?_
  · intro p hp; cases hp
  · intro args h κ r hh
    simp only [S.l20Open_s] at hh
    split at hh
    · exact (S.l20Open_den _ κ).trans hh
    · cases hh
  · intro args h κ r hh
    simp only [S.l20Open_s] at hh ⊢
    split at hh
    · exact optC_law2 (F := fun (r : (List Int) × Int) κ => κ (.ptr 0 0) [.cells [(.ro true (.ints .u8 r.1)), (.int .i64 r.2)]]) (fun b κ r hb => ⟨_, _, hb, fun _ => rfl⟩) hh
    · cases hh
  · intro hh; cases hh
  · intro _ args h κ r hh
    simp only [S.l20Open_s] at hh
    split at hh
    · rfl
    · cases hh

-- (*loop.example/guardsonnets/spec.l20Rd).pick
noncomputable def S.l20Rd_pick_T : List (Nat × D.Spec) := []
def S.l20Rd_pick_ann : Nat → List Nat × List Nat
  | _ => ([], [])
noncomputable def S.l20Rd_pick_F (args : List V) (h : List E) (κ : V → List E → R) : R := funC TD (tableK S.l20Rd_pick_T) S.l20Rd_pick_ann (drawOk TD (tableP S.l20Rd_pick_T)) FUEL Try.f47 args h κ
noncomputable def S.l20Rd_pick_tree {α : Type} (rb : List Int) (rp : Int) (n_ : Int) (leaf0_ : Int × (List Int) × Int → α) (fail_ : α) : α :=
  (bif decide (n_ < 1) then (leaf0_ (0, rb, IntKind.i64.wrap (rp + 1))) else (bif (↑rb.length : Int) == 0 then (leaf0_ (0, rb, IntKind.i64.wrap (rp + 1))) else (bif decide (IntKind.i64.wrap (IntKind.i64.wrap (rp + 1) - 1) < (↑rb.length : Int)) then (bif decide (0 ≤ IntKind.i64.wrap (IntKind.i64.wrap (rp + 1) - 1)) && decide (IntKind.i64.wrap (IntKind.i64.wrap (rp + 1) - 1) < (↑rb.length : Int)) then (bif n_ == 0 then fail_ else (leaf0_ ((IntKind.i64.wrap (eli rb (IntKind.i64.wrap (IntKind.i64.wrap (rp + 1) - 1)).toNat)).tmod n_, rb, IntKind.i64.wrap (rp + 1)))) else fail_) else (bif (↑rb.length : Int) == 0 then fail_ else (bif decide (0 ≤ (IntKind.i64.wrap (IntKind.i64.wrap (rp + 1) - 1)).tmod (↑rb.length : Int)) && decide ((IntKind.i64.wrap (IntKind.i64.wrap (rp + 1) - 1)).tmod (↑rb.length : Int) < (↑rb.length : Int)) then (bif (↑rb.length : Int) == 0 then fail_ else (bif decide (0 ≤ (IntKind.i64.wrap (IntKind.i64.wrap (IntKind.i64.wrap (IntKind.i64.wrap (rp + 1) - 1) * 7) + 3)).tmod (↑rb.length : Int)) && decide ((IntKind.i64.wrap (IntKind.i64.wrap (IntKind.i64.wrap (IntKind.i64.wrap (rp + 1) - 1) * 7) + 3)).tmod (↑rb.length : Int) < (↑rb.length : Int)) then (bif (↑rb.length : Int) == 0 then fail_ else (bif n_ == 0 then fail_ else (leaf0_ ((bits BinOp.xor IntKind.i64 (IntKind.i64.wrap (IntKind.i64.wrap (IntKind.i64.wrap (IntKind.i64.wrap (IntKind.i64.wrap (eli rb ((IntKind.i64.wrap (IntKind.i64.wrap (rp + 1) - 1)).tmod (↑rb.length : Int)).toNat) * 131) + IntKind.i64.wrap (IntKind.i64.wrap (eli rb ((IntKind.i64.wrap (IntKind.i64.wrap (IntKind.i64.wrap (IntKind.i64.wrap (rp + 1) - 1) * 7) + 3)).tmod (↑rb.length : Int)).toNat) * 1117)) + IntKind.i64.wrap (IntKind.i64.wrap (IntKind.i64.wrap (rp + 1) - 1) * 29)) + IntKind.i64.wrap (IntKind.i64.wrap ((IntKind.i64.wrap (IntKind.i64.wrap (rp + 1) - 1)).tdiv (↑rb.length : Int)) * 53))) (IntKind.i64.wrap ((IntKind.i64.wrap (IntKind.i64.wrap (IntKind.i64.wrap (IntKind.i64.wrap (IntKind.i64.wrap (eli rb ((IntKind.i64.wrap (IntKind.i64.wrap (rp + 1) - 1)).tmod (↑rb.length : Int)).toNat) * 131) + IntKind.i64.wrap (IntKind.i64.wrap (eli rb ((IntKind.i64.wrap (IntKind.i64.wrap (IntKind.i64.wrap (IntKind.i64.wrap (rp + 1) - 1) * 7) + 3)).tmod (↑rb.length : Int)).toNat) * 1117)) + IntKind.i64.wrap (IntKind.i64.wrap (IntKind.i64.wrap (rp + 1) - 1) * 29)) + IntKind.i64.wrap (IntKind.i64.wrap ((IntKind.i64.wrap (IntKind.i64.wrap (rp + 1) - 1)).tdiv (↑rb.length : Int)) * 53))).tdiv 64))).tmod n_, rb, IntKind.i64.wrap (rp + 1))))) else fail_)) else fail_)))))
theorem S.l20Rd_pick_tree_nat {α γ : Type} (g : α → γ) (rb : List Int) (rp : Int) (n_ : Int) (leaf0_ : Int × (List Int) × Int → α) (fail_ : α) : g (S.l20Rd_pick_tree rb rp n_ leaf0_ fail_) = S.l20Rd_pick_tree rb rp n_ (fun d => g (leaf0_ d)) (g fail_) := by
  unfold S.l20Rd_pick_tree; simp only [apply_cnd g, apply_optC g, apply_sumC g]
noncomputable def S.l20Rd_pick_t (rb : List Int) (rp : Int) (n_ : Int) : Option (Int × (List Int) × Int) := S.l20Rd_pick_tree rb rp n_ (fun d => some d) none
theorem S.l20Rd_pick_den (rb : List Int) (rp : Int) (n_ : Int) (κ : V → List E → R) : S.l20Rd_pick_F [.ptr 0 0, .int .i64 n_] [.cells [.ro true (.ints .u8 rb), .int .i64 rp]] κ = optC (S.l20Rd_pick_t rb rp n_) (fun (r : Int × (List Int) × Int) => κ (.int .i64 r.1) [.cells [(.ro true (.ints .u8 r.2.1)), (.int .i64 r.2.2)]]) none := by
  have hu : S.l20Rd_pick_F [.ptr 0 0, .int .i64 n_] [.cells [.ro true (.ints .u8 rb), .int .i64 rp]] κ = S.l20Rd_pick_tree rb rp n_ (fun d => κ (.int .i64 d.1) [.cells [(.ro true (.ints .u8 d.2.1)), (.int .i64 d.2.2)]]) none := by
    kernel_rfl
  rw [hu]
  exact (S.l20Rd_pick_tree_nat (fun o => optC o (fun (r : Int × (List Int) × Int) => κ (.int .i64 r.1) [.cells [(.ro true (.ints .u8 r.2.1)), (.int .i64 r.2.2)]]) none) rb rp n_ (fun d => some d) none).symm
noncomputable def S.l20Rd_pick_s : D.Spec where
  keep := false
  pure := false
  add := false
  ds := [.invalid, .invalid]
  sp := fun args h κ => match args, h with
    | [.ptr 0 0, .int .i64 n_], [.cells [.ro true (.ints .u8 rb), .int .i64 rp]] => optC (S.l20Rd_pick_t rb rp n_) (fun (r : Int × (List Int) × Int) => κ (.int .i64 r.1) [.cells [(.ro true (.ints .u8 r.2.1)), (.int .i64 r.2.2)]]) none
    | _, _ => none
theorem S.l20Rd_pick_ok : SpecOk Try.prog 47 S.l20Rd_pick_s := by
  refine SpecOk.of TDok mixed (T := S.l20Rd_pick_T) ?_ (ann := S.l20Rd_pick_ann) Try.func47 rfl (by decide +kernel) ?_ ?_ ?_ ?_
  · intro p hp; cases hp
  · intro args h κ r hh
    simp only [S.l20Rd_pick_s] at hh
    split at hh
    · exact (S.l20Rd_pick_den _ _ _ κ).trans hh
    · cases hh
  · intro args h κ r hh
    simp only [S.l20Rd_pick_s] at hh ⊢
    split at hh
    · exact optC_law2 (F := fun (r : Int × (List Int) × Int) κ => κ (.int .i64 r.1) [.cells [(.ro true (.ints .u8 r.2.1)), (.int .i64 r.2.2)]]) (fun b κ r hb => ⟨_, _, hb, fun _ => rfl⟩) hh
    · cases hh
  · intro hh; cases hh
  · intro hh; cases hh

-- (*loop.example/guardsonnets/spec.l20Rd).odd
noncomputable def S.l20Rd_odd_T : List (Nat × D.Spec) := [(47, S.l20Rd_pick_s)]
def S.l20Rd_odd_ann : Nat → List Nat × List Nat
  | _ => ([], [])
noncomputable def S.l20Rd_odd_F (args : List V) (h : List E) (κ : V → List E → R) : R := funC TD (tableK S.l20Rd_odd_T) S.l20Rd_odd_ann (drawOk TD (tableP S.l20Rd_odd_T)) FUEL Try.f48 args h κ
noncomputable def S.l20Rd_odd_tree {α : Type} (rb : List Int) (rp : Int) (n_ : Int) (leaf0_ : Bool × (List Int) × Int → α) (fail_ : α) : α :=
  (bif decide (n_ > 0) then (optC (S.l20Rd_pick_t rb rp n_) (fun c_1 => (leaf0_ (c_1.fst == IntKind.i64.wrap (n_ - 1), c_1.snd.fst, c_1.snd.snd))) fail_) else (leaf0_ (false, rb, rp)))
theorem S.l20Rd_odd_tree_nat {α γ : Type} (g : α → γ) (rb : List Int) (rp : Int) (n_ : Int) (leaf0_ : Bool × (List Int) × Int → α) (fail_ : α) : g (S.l20Rd_odd_tree rb rp n_ leaf0_ fail_) = S.l20Rd_odd_tree rb rp n_ (fun d => g (leaf0_ d)) (g fail_) := by
  unfold S.l20Rd_odd_tree; simp only [apply_cnd g, apply_optC g, apply_sumC g]
noncomputable def S.l20Rd_odd_t (rb : List Int) (rp : Int) (n_ : Int) : Option (Bool × (List Int) × Int) := S.l20Rd_odd_tree rb rp n_ (fun d => some d) none
theorem S.l20Rd_odd_den (rb : List Int) (rp : Int) (n_ : Int) (κ : V → List E → R) : S.l20Rd_odd_F [.ptr 0 0, .int .i64 n_] [.cells [.ro true (.ints .u8 rb), .int .i64 rp]] κ = optC (S.l20Rd_odd_t rb rp n_) (fun (r : Bool × (List Int) × Int) => κ (.bool r.1) [.cells [(.ro true (.ints .u8 r.2.1)), (.int .i64 r.2.2)]]) none := by
  have hu : S.l20Rd_odd_F [.ptr 0 0, .int .i64 n_] [.cells [.ro true (.ints .u8 rb), .int .i64 rp]] κ = S.l20Rd_odd_tree rb rp n_ (fun d => κ (.bool d.1) [.cells [(.ro true (.ints .u8 d.2.1)), (.int .i64 d.2.2)]]) none := by
    kernel_rfl
  rw [hu]
  exact (S.l20Rd_odd_tree_nat (fun o => optC o (fun (r : Bool × (List Int) × Int) => κ (.bool r.1) [.cells [(.ro true (.ints .u8 r.2.1)), (.int .i64 r.2.2)]]) none) rb rp n_ (fun d => some d) none).symm
noncomputable def S.l20Rd_odd_s : D.Spec where
  keep := false
  pure := false
  add := false
  ds := [.invalid, .invalid]
  sp := fun args h κ => match args, h with
    | [.ptr 0 0, .int .i64 n_], [.cells [.ro true (.ints .u8 rb), .int .i64 rp]] => optC (S.l20Rd_odd_t rb rp n_) (fun (r : Bool × (List Int) × Int) => κ (.bool r.1) [.cells [(.ro true (.ints .u8 r.2.1)), (.int .i64 r.2.2)]]) none
    | _, _ => none
theorem S.l20Rd_odd_ok : SpecOk Try.prog 48 S.l20Rd_odd_s := by
  refine SpecOk.of TDok mixed (T := S.l20Rd_odd_T) ?_ (ann := S.l20Rd_odd_ann) Try.func48 rfl (by decide +kernel) ?_ ?_ ?_ ?_
  · intro p hp
    simp only [S.l20Rd_odd_T, List.mem_cons, List.not_mem_nil, or_false] at hp
    rcases hp with rfl
    · exact S.l20Rd_pick_ok
  · intro args h κ r hh
    simp only [S.l20Rd_odd_s] at hh
    split at hh
    · exact (S.l20Rd_odd_den _ _ _ κ).trans hh
    · cases hh
  · intro args h κ r hh
    simp only [S.l20Rd_odd_s] at hh ⊢
    split at hh
    · exact optC_law2 (F := fun (r : Bool × (List Int) × Int) κ => κ (.bool r.1) [.cells [(.ro true (.ints .u8 r.2.1)), (.int .i64 r.2.2)]]) (fun b κ r hb => ⟨_, _, hb, fun _ => rfl⟩) hh
    · cases hh
  · intro hh; cases hh
  · intro hh; cases hh

-- loop.example/guardsonnets/spec.l20Net
noncomputable def S.l20Net_T : List (Nat × D.Spec) := [(47, S.l20Rd_pick_s), (48, S.l20Rd_odd_s)]
def S.l20Net_ann : Nat → List Nat × List Nat
  | 8 => ([0, 1, 5, 6, 7, 8, 9], [0, 1, 5, 6, 7, 8])
  | 5 => ([0, 1, 5, 6, 7, 8], [0, 1, 5, 6])
  | _ => ([], [])
noncomputable def S.l20Net_F (args : List V) (h : List E) (κ : V → List E → R) : R := funC TD (tableK S.l20Net_T) S.l20Net_ann (drawOk TD (tableP S.l20Net_T)) FUEL Try.f25 args h κ
noncomputable def S.l20Net_L8 (n : Nat) (σ : St) (k : X → St → R) : R := iterC 1 (fun σ k => denC TD (tableK S.l20Net_T) S.l20Net_ann (drawOk TD (tableP S.l20Net_T)) 1 FUEL ((findLoop 8 (Try.f25.body.getD .skip)).getD .skip) σ k) [0, 1, 5, 6, 7, 8, 9] [0, 1, 5, 6, 7, 8] n σ k
noncomputable def S.l20Net_L5 (n : Nat) (σ : St) (k : X → St → R) : R := iterC 1 (fun σ k => denC TD (tableK S.l20Net_T) S.l20Net_ann (drawOk TD (tableP S.l20Net_T)) 1 FUEL ((findLoop 5 (Try.f25.body.getD .skip)).getD .skip) σ k) [0, 1, 5, 6, 7, 8] [0, 1, 5, 6] n σ k
noncomputable def S.l20Net_k8 (c : (St → R) × (X → St → R)) : X → St → R := (afterC TD (tableK S.l20Net_T) S.l20Net_ann (drawOk TD (tableP S.l20Net_T)) 1 FUEL 8 ((findLoop 5 (Try.f25.body.getD .skip)).getD .skip) (roundC 1 [0, 1, 5, 6, 7, 8] [0, 1, 5, 6] c.1 c.2)).getD (fun _ _ => none)
noncomputable def S.l20Net_k5 (κ : V → List E → R) : X → St → R := (afterC TD (tableK S.l20Net_T) S.l20Net_ann (drawOk TD (tableP S.l20Net_T)) 1 FUEL 5 (Try.f25.body.getD .skip) (finC TD 1 Try.f25 κ)).getD (fun _ _ => none)
noncomputable def S.l20Net_step8 {α : Type} (x1 : Int) (x5 : Int) (x7 : Int) (x8 : Int) (x9 : Int) (r0_0 : List Int) (r0_1 : Int) (r1 : List Int) (next_ : Int × (List Int) × Int × (List Int) → α) (out0_ : (List Int) × Int × (List Int) → α) (fail_ : α) : α :=
  (bif decide (x9 < x8) then (optC (S.l20Rd_pick_t r0_0 r0_1 3) (fun c_3 => (bif x7 == 0 then (bif x9 == IntKind.i64.wrap (x8 - 1) then (bif decide (0 ≤ x8) && decide (x8 < (↑r1.length : Int)) then (bif decide (x8.toNat < r1.length) then (bif decide (x9 < 0) then fail_ else (bif decide (0 ≤ x8) && decide (x8 < (↑r1.length : Int)) then (bif decide (x8.toNat < r1.length) then (bif decide (0 ≤ x9) && decide (x9 < (↑(r1.set x8.toNat (bits BinOp.or IntKind.i64 (eli r1 x8.toNat) (IntKind.i64.wrap (1 * 2 ^ min x9.toNat IntKind.i64.bits)))).length : Int)) then (bif decide (x9.toNat < (r1.set x8.toNat (bits BinOp.or IntKind.i64 (eli r1 x8.toNat) (IntKind.i64.wrap (1 * 2 ^ min x9.toNat IntKind.i64.bits)))).length) then (bif decide (x8 < 0) then fail_ else (bif decide (0 ≤ x9) && decide (x9 < (↑(r1.set x8.toNat (bits BinOp.or IntKind.i64 (eli r1 x8.toNat) (IntKind.i64.wrap (1 * 2 ^ min x9.toNat IntKind.i64.bits)))).length : Int)) then (bif decide (x9.toNat < (r1.set x8.toNat (bits BinOp.or IntKind.i64 (eli r1 x8.toNat) (IntKind.i64.wrap (1 * 2 ^ min x9.toNat IntKind.i64.bits)))).length) then (next_ (IntKind.i64.wrap (x9 + 1), c_3.snd.fst, c_3.snd.snd, (r1.set x8.toNat (bits BinOp.or IntKind.i64 (eli r1 x8.toNat) (IntKind.i64.wrap (1 * 2 ^ min x9.toNat IntKind.i64.bits)))).set x9.toNat (bits BinOp.or IntKind.i64 (eli (r1.set x8.toNat (bits BinOp.or IntKind.i64 (eli r1 x8.toNat) (IntKind.i64.wrap (1 * 2 ^ min x9.toNat IntKind.i64.bits)))) x9.toNat) (IntKind.i64.wrap (1 * 2 ^ min x8.toNat IntKind.i64.bits))))) else fail_) else fail_)) else fail_) else fail_) else fail_) else fail_)) else fail_) else fail_) else (bif x8 == IntKind.i64.wrap (x5 - 1) then (bif x9 == 0 then (bif decide (x5 > 2) then (bif decide (0 ≤ x8) && decide (x8 < (↑r1.length : Int)) then (bif decide (x8.toNat < r1.length) then (bif decide (x9 < 0) then fail_ else (bif decide (0 ≤ x8) && decide (x8 < (↑r1.length : Int)) then (bif decide (x8.toNat < r1.length) then (bif decide (0 ≤ x9) && decide (x9 < (↑(r1.set x8.toNat (bits BinOp.or IntKind.i64 (eli r1 x8.toNat) (IntKind.i64.wrap (1 * 2 ^ min x9.toNat IntKind.i64.bits)))).length : Int)) then (bif decide (x9.toNat < (r1.set x8.toNat (bits BinOp.or IntKind.i64 (eli r1 x8.toNat) (IntKind.i64.wrap (1 * 2 ^ min x9.toNat IntKind.i64.bits)))).length) then (bif decide (x8 < 0) then fail_ else (bif decide (0 ≤ x9) && decide (x9 < (↑(r1.set x8.toNat (bits BinOp.or IntKind.i64 (eli r1 x8.toNat) (IntKind.i64.wrap (1 * 2 ^ min x9.toNat IntKind.i64.bits)))).length : Int)) then (bif decide (x9.toNat < (r1.set x8.toNat (bits BinOp.or IntKind.i64 (eli r1 x8.toNat) (IntKind.i64.wrap (1 * 2 ^ min x9.toNat IntKind.i64.bits)))).length) then (next_ (IntKind.i64.wrap (x9 + 1), c_3.snd.fst, c_3.snd.snd, (r1.set x8.toNat (bits BinOp.or IntKind.i64 (eli r1 x8.toNat) (IntKind.i64.wrap (1 * 2 ^ min x9.toNat IntKind.i64.bits)))).set x9.toNat (bits BinOp.or IntKind.i64 (eli (r1.set x8.toNat (bits BinOp.or IntKind.i64 (eli r1 x8.toNat) (IntKind.i64.wrap (1 * 2 ^ min x9.toNat IntKind.i64.bits)))) x9.toNat) (IntKind.i64.wrap (1 * 2 ^ min x8.toNat IntKind.i64.bits))))) else fail_) else fail_)) else fail_) else fail_) else fail_) else fail_)) else fail_) else fail_) else (next_ (IntKind.i64.wrap (x9 + 1), c_3.snd.fst, c_3.snd.snd, r1))) else (next_ (IntKind.i64.wrap (x9 + 1), c_3.snd.fst, c_3.snd.snd, r1))) else (next_ (IntKind.i64.wrap (x9 + 1), c_3.snd.fst, c_3.snd.snd, r1)))) else (bif x7 == 1 then (bif x9 == IntKind.i64.wrap (x8 - 1) then (bif decide (0 ≤ x8) && decide (x8 < (↑r1.length : Int)) then (bif decide (x8.toNat < r1.length) then (bif decide (x9 < 0) then fail_ else (bif decide (0 ≤ x8) && decide (x8 < (↑r1.length : Int)) then (bif decide (x8.toNat < r1.length) then (bif decide (0 ≤ x9) && decide (x9 < (↑(r1.set x8.toNat (bits BinOp.or IntKind.i64 (eli r1 x8.toNat) (IntKind.i64.wrap (1 * 2 ^ min x9.toNat IntKind.i64.bits)))).length : Int)) then (bif decide (x9.toNat < (r1.set x8.toNat (bits BinOp.or IntKind.i64 (eli r1 x8.toNat) (IntKind.i64.wrap (1 * 2 ^ min x9.toNat IntKind.i64.bits)))).length) then (bif decide (x8 < 0) then fail_ else (bif decide (0 ≤ x9) && decide (x9 < (↑(r1.set x8.toNat (bits BinOp.or IntKind.i64 (eli r1 x8.toNat) (IntKind.i64.wrap (1 * 2 ^ min x9.toNat IntKind.i64.bits)))).length : Int)) then (bif decide (x9.toNat < (r1.set x8.toNat (bits BinOp.or IntKind.i64 (eli r1 x8.toNat) (IntKind.i64.wrap (1 * 2 ^ min x9.toNat IntKind.i64.bits)))).length) then (next_ (IntKind.i64.wrap (x9 + 1), c_3.snd.fst, c_3.snd.snd, (r1.set x8.toNat (bits BinOp.or IntKind.i64 (eli r1 x8.toNat) (IntKind.i64.wrap (1 * 2 ^ min x9.toNat IntKind.i64.bits)))).set x9.toNat (bits BinOp.or IntKind.i64 (eli (r1.set x8.toNat (bits BinOp.or IntKind.i64 (eli r1 x8.toNat) (IntKind.i64.wrap (1 * 2 ^ min x9.toNat IntKind.i64.bits)))) x9.toNat) (IntKind.i64.wrap (1 * 2 ^ min x8.toNat IntKind.i64.bits))))) else fail_) else fail_)) else fail_) else fail_) else fail_) else fail_)) else fail_) else fail_) else (bif x9 == 0 then (optC (S.l20Rd_pick_t c_3.snd.fst c_3.snd.snd 3) (fun c_4 => (bif c_4.fst == 0 then (bif decide (0 ≤ x8) && decide (x8 < (↑r1.length : Int)) then (bif decide (x8.toNat < r1.length) then (bif decide (x9 < 0) then fail_ else (bif decide (0 ≤ x8) && decide (x8 < (↑r1.length : Int)) then (bif decide (x8.toNat < r1.length) then (bif decide (0 ≤ x9) && decide (x9 < (↑(r1.set x8.toNat (bits BinOp.or IntKind.i64 (eli r1 x8.toNat) (IntKind.i64.wrap (1 * 2 ^ min x9.toNat IntKind.i64.bits)))).length : Int)) then (bif decide (x9.toNat < (r1.set x8.toNat (bits BinOp.or IntKind.i64 (eli r1 x8.toNat) (IntKind.i64.wrap (1 * 2 ^ min x9.toNat IntKind.i64.bits)))).length) then (bif decide (x8 < 0) then fail_ else (bif decide (0 ≤ x9) && decide (x9 < (↑(r1.set x8.toNat (bits BinOp.or IntKind.i64 (eli r1 x8.toNat) (IntKind.i64.wrap (1 * 2 ^ min x9.toNat IntKind.i64.bits)))).length : Int)) then (bif decide (x9.toNat < (r1.set x8.toNat (bits BinOp.or IntKind.i64 (eli r1 x8.toNat) (IntKind.i64.wrap (1 * 2 ^ min x9.toNat IntKind.i64.bits)))).length) then (next_ (IntKind.i64.wrap (x9 + 1), c_4.snd.fst, c_4.snd.snd, (r1.set x8.toNat (bits BinOp.or IntKind.i64 (eli r1 x8.toNat) (IntKind.i64.wrap (1 * 2 ^ min x9.toNat IntKind.i64.bits)))).set x9.toNat (bits BinOp.or IntKind.i64 (eli (r1.set x8.toNat (bits BinOp.or IntKind.i64 (eli r1 x8.toNat) (IntKind.i64.wrap (1 * 2 ^ min x9.toNat IntKind.i64.bits)))) x9.toNat) (IntKind.i64.wrap (1 * 2 ^ min x8.toNat IntKind.i64.bits))))) else fail_) else fail_)) else fail_) else fail_) else fail_) else fail_)) else fail_) else fail_) else (next_ (IntKind.i64.wrap (x9 + 1), c_4.snd.fst, c_4.snd.snd, r1)))) fail_) else (next_ (IntKind.i64.wrap (x9 + 1), c_3.snd.fst, c_3.snd.snd, r1)))) else (bif x7 == 2 then (bif x9 == IntKind.i64.wrap ((IntKind.i64.wrap (x8 - 1)).tdiv 2) then (bif decide (0 ≤ x8) && decide (x8 < (↑r1.length : Int)) then (bif decide (x8.toNat < r1.length) then (bif decide (x9 < 0) then fail_ else (bif decide (0 ≤ x8) && decide (x8 < (↑r1.length : Int)) then (bif decide (x8.toNat < r1.length) then (bif decide (0 ≤ x9) && decide (x9 < (↑(r1.set x8.toNat (bits BinOp.or IntKind.i64 (eli r1 x8.toNat) (IntKind.i64.wrap (1 * 2 ^ min x9.toNat IntKind.i64.bits)))).length : Int)) then (bif decide (x9.toNat < (r1.set x8.toNat (bits BinOp.or IntKind.i64 (eli r1 x8.toNat) (IntKind.i64.wrap (1 * 2 ^ min x9.toNat IntKind.i64.bits)))).length) then (bif decide (x8 < 0) then fail_ else (bif decide (0 ≤ x9) && decide (x9 < (↑(r1.set x8.toNat (bits BinOp.or IntKind.i64 (eli r1 x8.toNat) (IntKind.i64.wrap (1 * 2 ^ min x9.toNat IntKind.i64.bits)))).length : Int)) then (bif decide (x9.toNat < (r1.set x8.toNat (bits BinOp.or IntKind.i64 (eli r1 x8.toNat) (IntKind.i64.wrap (1 * 2 ^ min x9.toNat IntKind.i64.bits)))).length) then (next_ (IntKind.i64.wrap (x9 + 1), c_3.snd.fst, c_3.snd.snd, (r1.set x8.toNat (bits BinOp.or IntKind.i64 (eli r1 x8.toNat) (IntKind.i64.wrap (1 * 2 ^ min x9.toNat IntKind.i64.bits)))).set x9.toNat (bits BinOp.or IntKind.i64 (eli (r1.set x8.toNat (bits BinOp.or IntKind.i64 (eli r1 x8.toNat) (IntKind.i64.wrap (1 * 2 ^ min x9.toNat IntKind.i64.bits)))) x9.toNat) (IntKind.i64.wrap (1 * 2 ^ min x8.toNat IntKind.i64.bits))))) else fail_) else fail_)) else fail_) else fail_) else fail_) else fail_)) else fail_) else fail_) else (next_ (IntKind.i64.wrap (x9 + 1), c_3.snd.fst, c_3.snd.snd, r1))) else (bif c_3.fst == 0 then (bif decide (0 ≤ x8) && decide (x8 < (↑r1.length : Int)) then (bif decide (x8.toNat < r1.length) then (bif decide (x9 < 0) then fail_ else (bif decide (0 ≤ x8) && decide (x8 < (↑r1.length : Int)) then (bif decide (x8.toNat < r1.length) then (bif decide (0 ≤ x9) && decide (x9 < (↑(r1.set x8.toNat (bits BinOp.or IntKind.i64 (eli r1 x8.toNat) (IntKind.i64.wrap (1 * 2 ^ min x9.toNat IntKind.i64.bits)))).length : Int)) then (bif decide (x9.toNat < (r1.set x8.toNat (bits BinOp.or IntKind.i64 (eli r1 x8.toNat) (IntKind.i64.wrap (1 * 2 ^ min x9.toNat IntKind.i64.bits)))).length) then (bif decide (x8 < 0) then fail_ else (bif decide (0 ≤ x9) && decide (x9 < (↑(r1.set x8.toNat (bits BinOp.or IntKind.i64 (eli r1 x8.toNat) (IntKind.i64.wrap (1 * 2 ^ min x9.toNat IntKind.i64.bits)))).length : Int)) then (bif decide (x9.toNat < (r1.set x8.toNat (bits BinOp.or IntKind.i64 (eli r1 x8.toNat) (IntKind.i64.wrap (1 * 2 ^ min x9.toNat IntKind.i64.bits)))).length) then (next_ (IntKind.i64.wrap (x9 + 1), c_3.snd.fst, c_3.snd.snd, (r1.set x8.toNat (bits BinOp.or IntKind.i64 (eli r1 x8.toNat) (IntKind.i64.wrap (1 * 2 ^ min x9.toNat IntKind.i64.bits)))).set x9.toNat (bits BinOp.or IntKind.i64 (eli (r1.set x8.toNat (bits BinOp.or IntKind.i64 (eli r1 x8.toNat) (IntKind.i64.wrap (1 * 2 ^ min x9.toNat IntKind.i64.bits)))) x9.toNat) (IntKind.i64.wrap (1 * 2 ^ min x8.toNat IntKind.i64.bits))))) else fail_) else fail_)) else fail_) else fail_) else fail_) else fail_)) else fail_) else fail_) else (next_ (IntKind.i64.wrap (x9 + 1), c_3.snd.fst, c_3.snd.snd, r1))))))) fail_) else (out0_ (r0_0, r0_1, r1)))
theorem S.l20Net_step8_nat {α γ : Type} (g : α → γ) (x1 : Int) (x5 : Int) (x7 : Int) (x8 : Int) (x9 : Int) (r0_0 : List Int) (r0_1 : Int) (r1 : List Int) (next_ : Int × (List Int) × Int × (List Int) → α) (out0_ : (List Int) × Int × (List Int) → α) (fail_ : α) : g (S.l20Net_step8 x1 x5 x7 x8 x9 r0_0 r0_1 r1 next_ out0_ fail_) = S.l20Net_step8 x1 x5 x7 x8 x9 r0_0 r0_1 r1 (fun s => g (next_ s)) (fun d => g (out0_ d)) (g fail_) := by
  unfold S.l20Net_step8; simp only [apply_cnd g, apply_optC g, apply_sumC g]
noncomputable def S.l20Net_run8 (x1 : Int) (x5 : Int) (x7 : Int) (x8 : Int) : Nat → Int × (List Int) × Int × (List Int) → Option ((List Int) × Int × (List Int))
  | 0, _ => none
  | n + 1, s_ => S.l20Net_step8 x1 x5 x7 x8 s_.1 s_.2.1 s_.2.2.1 s_.2.2.2 (S.l20Net_run8 x1 x5 x7 x8 n) (fun d => some d) none
theorem S.l20Net_L8_run (x1 : Int) (x5 : Int) (x7 : Int) (x8 : Int) (n : Nat) (s_ : Int × (List Int) × Int × (List Int)) (k : X → St → R) : S.l20Net_L8 n { n := 125, t := [(0, (.ptr 0 0)), (1, (.int .i64 x1)), (5, (.int .i64 x5)), (6, (.own 1)), (7, (.int .i64 x7)), (8, (.int .i64 x8)), (9, (.int .i64 s_.1))], h := [.cells [(.ro true (.ints .u8 s_.2.1)), (.int .i64 s_.2.2.1)], .row (.ints .i64 s_.2.2.2)] } k = optC (S.l20Net_run8 x1 x5 x7 x8 n s_) (fun (r : (List Int) × Int × (List Int)) => k (.exit 2) { n := 125, t := [(0, (.ptr 0 0)), (1, (.int .i64 x1)), (5, (.int .i64 x5)), (6, (.own 1)), (7, (.int .i64 x7)), (8, (.int .i64 x8))], h := [.cells [(.ro true (.ints .u8 r.1)), (.int .i64 r.2.1)], .row (.ints .i64 r.2.2)] }) none := by
  induction n generalizing s_ with
  | zero => rfl
  | succ n ih =>
    have hu : S.l20Net_L8 (n + 1) { n := 125, t := [(0, (.ptr 0 0)), (1, (.int .i64 x1)), (5, (.int .i64 x5)), (6, (.own 1)), (7, (.int .i64 x7)), (8, (.int .i64 x8)), (9, (.int .i64 s_.1))], h := [.cells [(.ro true (.ints .u8 s_.2.1)), (.int .i64 s_.2.2.1)], .row (.ints .i64 s_.2.2.2)] } k = S.l20Net_step8 x1 x5 x7 x8 s_.1 s_.2.1 s_.2.2.1 s_.2.2.2 (fun s_ => S.l20Net_L8 n { n := 125, t := [(0, (.ptr 0 0)), (1, (.int .i64 x1)), (5, (.int .i64 x5)), (6, (.own 1)), (7, (.int .i64 x7)), (8, (.int .i64 x8)), (9, (.int .i64 s_.1))], h := [.cells [(.ro true (.ints .u8 s_.2.1)), (.int .i64 s_.2.2.1)], .row (.ints .i64 s_.2.2.2)] } k) (fun d => k (.exit 2) { n := 125, t := [(0, (.ptr 0 0)), (1, (.int .i64 x1)), (5, (.int .i64 x5)), (6, (.own 1)), (7, (.int .i64 x7)), (8, (.int .i64 x8))], h := [.cells [(.ro true (.ints .u8 d.1)), (.int .i64 d.2.1)], .row (.ints .i64 d.2.2)] }) none := by
      kernel_rfl
    have hs : (fun s_ : Int × (List Int) × Int × (List Int) => S.l20Net_L8 n { n := 125, t := [(0, (.ptr 0 0)), (1, (.int .i64 x1)), (5, (.int .i64 x5)), (6, (.own 1)), (7, (.int .i64 x7)), (8, (.int .i64 x8)), (9, (.int .i64 s_.1))], h := [.cells [(.ro true (.ints .u8 s_.2.1)), (.int .i64 s_.2.2.1)], .row (.ints .i64 s_.2.2.2)] } k) = fun s_ => optC (S.l20Net_run8 x1 x5 x7 x8 n s_) (fun (r : (List Int) × Int × (List Int)) => k (.exit 2) { n := 125, t := [(0, (.ptr 0 0)), (1, (.int .i64 x1)), (5, (.int .i64 x5)), (6, (.own 1)), (7, (.int .i64 x7)), (8, (.int .i64 x8))], h := [.cells [(.ro true (.ints .u8 r.1)), (.int .i64 r.2.1)], .row (.ints .i64 r.2.2)] }) none := funext ih
    rw [hu, hs]
    exact (S.l20Net_step8_nat (fun o => optC o (fun (r : (List Int) × Int × (List Int)) => k (.exit 2) { n := 125, t := [(0, (.ptr 0 0)), (1, (.int .i64 x1)), (5, (.int .i64 x5)), (6, (.own 1)), (7, (.int .i64 x7)), (8, (.int .i64 x8))], h := [.cells [(.ro true (.ints .u8 r.1)), (.int .i64 r.2.1)], .row (.ints .i64 r.2.2)] }) none) x1 x5 x7 x8 s_.1 s_.2.1 s_.2.2.1 s_.2.2.2 (S.l20Net_run8 x1 x5 x7 x8 n) (fun d => some d) none).symm
noncomputable def S.l20Net_step5 {α : Type} (x1 : Int) (x5 : Int) (x7 : Int) (x8 : Int) (r0_0 : List Int) (r0_1 : Int) (r1 : List Int) (next_ : Int × (List Int) × Int × (List Int) → α) (out0_ : (List Int) × Int × (List Int) → α) (fail_ : α) : α :=
  (bif decide (x8 < x5) then (optC (S.l20Net_run8 x1 x5 x7 x8 FUEL (0, r0_0, r0_1, r1)) (fun qy_5 => (next_ (IntKind.i64.wrap (x8 + 1), qy_5.1, qy_5.2.1, qy_5.2.2))) fail_) else (out0_ (r0_0, r0_1, r1)))
theorem S.l20Net_step5_nat {α γ : Type} (g : α → γ) (x1 : Int) (x5 : Int) (x7 : Int) (x8 : Int) (r0_0 : List Int) (r0_1 : Int) (r1 : List Int) (next_ : Int × (List Int) × Int × (List Int) → α) (out0_ : (List Int) × Int × (List Int) → α) (fail_ : α) : g (S.l20Net_step5 x1 x5 x7 x8 r0_0 r0_1 r1 next_ out0_ fail_) = S.l20Net_step5 x1 x5 x7 x8 r0_0 r0_1 r1 (fun s => g (next_ s)) (fun d => g (out0_ d)) (g fail_) := by
  unfold S.l20Net_step5; simp only [apply_cnd g, apply_optC g, apply_sumC g]
noncomputable def S.l20Net_run5 (x1 : Int) (x5 : Int) (x7 : Int) : Nat → Int × (List Int) × Int × (List Int) → Option ((List Int) × Int × (List Int))
  | 0, _ => none
  | n + 1, s_ => S.l20Net_step5 x1 x5 x7 s_.1 s_.2.1 s_.2.2.1 s_.2.2.2 (S.l20Net_run5 x1 x5 x7 n) (fun d => some d) none
theorem S.l20Net_L5_run (x1 : Int) (x5 : Int) (x7 : Int) (n : Nat) (s_ : Int × (List Int) × Int × (List Int)) (k : X → St → R) : S.l20Net_L5 n { n := 125, t := [(0, (.ptr 0 0)), (1, (.int .i64 x1)), (5, (.int .i64 x5)), (6, (.own 1)), (7, (.int .i64 x7)), (8, (.int .i64 s_.1))], h := [.cells [(.ro true (.ints .u8 s_.2.1)), (.int .i64 s_.2.2.1)], .row (.ints .i64 s_.2.2.2)] } k = optC (S.l20Net_run5 x1 x5 x7 n s_) (fun (r : (List Int) × Int × (List Int)) => k (.exit 0) { n := 125, t := [(0, (.ptr 0 0)), (1, (.int .i64 x1)), (5, (.int .i64 x5)), (6, (.own 1))], h := [.cells [(.ro true (.ints .u8 r.1)), (.int .i64 r.2.1)], .row (.ints .i64 r.2.2)] }) none := by
  induction n generalizing s_ with
  | zero => rfl
  | succ n ih =>
    have hu : S.l20Net_L5 (n + 1) { n := 125, t := [(0, (.ptr 0 0)), (1, (.int .i64 x1)), (5, (.int .i64 x5)), (6, (.own 1)), (7, (.int .i64 x7)), (8, (.int .i64 s_.1))], h := [.cells [(.ro true (.ints .u8 s_.2.1)), (.int .i64 s_.2.2.1)], .row (.ints .i64 s_.2.2.2)] } k = S.l20Net_step5 x1 x5 x7 s_.1 s_.2.1 s_.2.2.1 s_.2.2.2 (fun s_ => S.l20Net_L5 n { n := 125, t := [(0, (.ptr 0 0)), (1, (.int .i64 x1)), (5, (.int .i64 x5)), (6, (.own 1)), (7, (.int .i64 x7)), (8, (.int .i64 s_.1))], h := [.cells [(.ro true (.ints .u8 s_.2.1)), (.int .i64 s_.2.2.1)], .row (.ints .i64 s_.2.2.2)] } k) (fun d => k (.exit 0) { n := 125, t := [(0, (.ptr 0 0)), (1, (.int .i64 x1)), (5, (.int .i64 x5)), (6, (.own 1))], h := [.cells [(.ro true (.ints .u8 d.1)), (.int .i64 d.2.1)], .row (.ints .i64 d.2.2)] }) none := by
      refine Eq.trans (show S.l20Net_L5 (n + 1) { n := 125, t := [(0, (.ptr 0 0)), (1, (.int .i64 x1)), (5, (.int .i64 x5)), (6, (.own 1)), (7, (.int .i64 x7)), (8, (.int .i64 s_.1))], h := [.cells [(.ro true (.ints .u8 s_.2.1)), (.int .i64 s_.2.2.1)], .row (.ints .i64 s_.2.2.2)] } k = (bif decide (s_.1 < x5) then (S.l20Net_L8 FUEL { n := 125, t := [(0, (.ptr 0 0)), (1, (.int .i64 x1)), (5, (.int .i64 x5)), (6, (.own 1)), (7, (.int .i64 x7)), (8, (.int .i64 s_.1)), (9, (.int .i64 0))], h := [.cells [(.ro true (.ints .u8 s_.2.1)), (.int .i64 s_.2.2.1)], .row (.ints .i64 s_.2.2.2)] } (S.l20Net_k8 ((fun σ => S.l20Net_L5 n σ k), k))) else (k (.exit 0) { n := 125, t := [(0, (.ptr 0 0)), (1, (.int .i64 x1)), (5, (.int .i64 x5)), (6, (.own 1))], h := [.cells [(.ro true (.ints .u8 s_.2.1)), (.int .i64 s_.2.2.1)], .row (.ints .i64 s_.2.2.2)] })) by kernel_rfl) ?_
      refine cnd_congr ?_ ?_
      · refine (S.l20Net_L8_run x1 x5 x7 s_.1 FUEL (0, s_.2.1, s_.2.2.1, s_.2.2.2) (S.l20Net_k8 ((fun σ => S.l20Net_L5 n σ k), k))).trans (optC_congr (fun qy_5 => ?_))
        kernel_rfl
      · kernel_rfl
    have hs : (fun s_ : Int × (List Int) × Int × (List Int) => S.l20Net_L5 n { n := 125, t := [(0, (.ptr 0 0)), (1, (.int .i64 x1)), (5, (.int .i64 x5)), (6, (.own 1)), (7, (.int .i64 x7)), (8, (.int .i64 s_.1))], h := [.cells [(.ro true (.ints .u8 s_.2.1)), (.int .i64 s_.2.2.1)], .row (.ints .i64 s_.2.2.2)] } k) = fun s_ => optC (S.l20Net_run5 x1 x5 x7 n s_) (fun (r : (List Int) × Int × (List Int)) => k (.exit 0) { n := 125, t := [(0, (.ptr 0 0)), (1, (.int .i64 x1)), (5, (.int .i64 x5)), (6, (.own 1))], h := [.cells [(.ro true (.ints .u8 r.1)), (.int .i64 r.2.1)], .row (.ints .i64 r.2.2)] }) none := funext ih
    rw [hu, hs]
    exact (S.l20Net_step5_nat (fun o => optC o (fun (r : (List Int) × Int × (List Int)) => k (.exit 0) { n := 125, t := [(0, (.ptr 0 0)), (1, (.int .i64 x1)), (5, (.int .i64 x5)), (6, (.own 1))], h := [.cells [(.ro true (.ints .u8 r.1)), (.int .i64 r.2.1)], .row (.ints .i64 r.2.2)] }) none) x1 x5 x7 s_.1 s_.2.1 s_.2.2.1 s_.2.2.2 (S.l20Net_run5 x1 x5 x7 n) (fun d => some d) none).symm
noncomputable def S.l20Net_tree {α : Type} (rb : List Int) (rp : Int) (n_ : Int) (leaf0_ : (List Int) × Int × (List Int) → α) (fail_ : α) : α :=
  (optC (S.l20Rd_pick_t rb rp 6) (fun c_1 => (bif decide (0 ≤ IntKind.i64.wrap (1 + c_1.fst)) && small (IntKind.i64.wrap (1 + c_1.fst)).toNat && true then (optC (S.l20Rd_pick_t c_1.snd.fst c_1.snd.snd 4) (fun c_2 => (optC (S.l20Net_run5 n_ (IntKind.i64.wrap (1 + c_1.fst)) c_2.fst FUEL (0, c_2.snd.fst, c_2.snd.snd, List.replicate (IntKind.i64.wrap (1 + c_1.fst)).toNat 0)) (fun qy_6 => (optC (S.l20Rd_odd_t qy_6.1 qy_6.2.1 n_) (fun c_7 => (bif c_7.fst then (optC (S.l20Rd_pick_t c_7.snd.fst c_7.snd.snd 3) (fun c_8 => (bif c_8.fst == 0 then (leaf0_ (c_8.snd.fst, c_8.snd.snd, [])) else (bif c_8.fst == 1 then (bif decide (0 < (↑qy_6.2.2.length : Int)) then (bif decide (0 < qy_6.2.2.length) then (bif decide (0 < (↑qy_6.2.2.length : Int)) then (bif decide (0 < qy_6.2.2.length) then (leaf0_ (c_8.snd.fst, c_8.snd.snd, qy_6.2.2.set 0 (bits BinOp.or IntKind.i64 (eli qy_6.2.2 0) 1))) else fail_) else fail_) else fail_) else fail_) else (bif decide (0 < (↑qy_6.2.2.length : Int)) then (bif decide (0 < qy_6.2.2.length) then (bif decide (IntKind.i64.wrap (IntKind.i64.wrap (1 + c_1.fst) - 1) < 0) then fail_ else (bif decide (0 < (↑qy_6.2.2.length : Int)) then (bif decide (0 < qy_6.2.2.length) then (bif IntKind.i64.wrap (1 + c_1.fst) == 1 then (bif decide (0 < (↑(qy_6.2.2.set 0 (bits BinOp.xor IntKind.i64 (eli qy_6.2.2 0) (IntKind.i64.wrap (1 * 2 ^ min (IntKind.i64.wrap (IntKind.i64.wrap (1 + c_1.fst) - 1)).toNat IntKind.i64.bits)))).length : Int)) then (bif decide (0 < (qy_6.2.2.set 0 (bits BinOp.xor IntKind.i64 (eli qy_6.2.2 0) (IntKind.i64.wrap (1 * 2 ^ min (IntKind.i64.wrap (IntKind.i64.wrap (1 + c_1.fst) - 1)).toNat IntKind.i64.bits)))).length) then (leaf0_ (c_8.snd.fst, c_8.snd.snd, (qy_6.2.2.set 0 (bits BinOp.xor IntKind.i64 (eli qy_6.2.2 0) (IntKind.i64.wrap (1 * 2 ^ min (IntKind.i64.wrap (IntKind.i64.wrap (1 + c_1.fst) - 1)).toNat IntKind.i64.bits)))).set 0 (-1))) else fail_) else fail_) else (leaf0_ (c_8.snd.fst, c_8.snd.snd, qy_6.2.2.set 0 (bits BinOp.xor IntKind.i64 (eli qy_6.2.2 0) (IntKind.i64.wrap (1 * 2 ^ min (IntKind.i64.wrap (IntKind.i64.wrap (1 + c_1.fst) - 1)).toNat IntKind.i64.bits)))))) else fail_) else fail_)) else fail_) else fail_)))) fail_) else (leaf0_ (c_7.snd.fst, c_7.snd.snd, qy_6.2.2)))) fail_)) fail_)) fail_) else fail_)) fail_)
theorem S.l20Net_tree_nat {α γ : Type} (g : α → γ) (rb : List Int) (rp : Int) (n_ : Int) (leaf0_ : (List Int) × Int × (List Int) → α) (fail_ : α) : g (S.l20Net_tree rb rp n_ leaf0_ fail_) = S.l20Net_tree rb rp n_ (fun d => g (leaf0_ d)) (g fail_) := by
  unfold S.l20Net_tree; simp only [apply_cnd g, apply_optC g, apply_sumC g]
noncomputable def S.l20Net_t (rb : List Int) (rp : Int) (n_ : Int) : Option ((List Int) × Int × (List Int)) := S.l20Net_tree rb rp n_ (fun d => some d) none
theorem S.l20Net_den (rb : List Int) (rp : Int) (n_ : Int) (κ : V → List E → R) : S.l20Net_F [.ptr 0 0, .int .i64 n_] [.cells [.ro true (.ints .u8 rb), .int .i64 rp]] κ = optC (S.l20Net_t rb rp n_) (fun (r : (List Int) × Int × (List Int)) => κ (.own 1) [.cells [(.ro true (.ints .u8 r.1)), (.int .i64 r.2.1)], .row (.ints .i64 r.2.2)]) none := by
  have hu : S.l20Net_F [.ptr 0 0, .int .i64 n_] [.cells [.ro true (.ints .u8 rb), .int .i64 rp]] κ = S.l20Net_tree rb rp n_ (fun d => κ (.own 1) [.cells [(.ro true (.ints .u8 d.1)), (.int .i64 d.2.1)], .row (.ints .i64 d.2.2)]) none := by
    refine Eq.trans (show S.l20Net_F [.ptr 0 0, .int .i64 n_] [.cells [.ro true (.ints .u8 rb), .int .i64 rp]] κ = (optC (S.l20Rd_pick_t rb rp 6) (fun c_1 => (bif decide (0 ≤ IntKind.i64.wrap (1 + c_1.fst)) && small (IntKind.i64.wrap (1 + c_1.fst)).toNat && true then (optC (S.l20Rd_pick_t c_1.snd.fst c_1.snd.snd 4) (fun c_2 => (S.l20Net_L5 FUEL { n := 125, t := [(0, (.ptr 0 0)), (1, (.int .i64 n_)), (5, (.int .i64 (IntKind.i64.wrap (1 + c_1.fst)))), (6, (.own 1)), (7, (.int .i64 c_2.fst)), (8, (.int .i64 0))], h := [.cells [(.ro true (.ints .u8 c_2.snd.fst)), (.int .i64 c_2.snd.snd)], .row (.ints .i64 (List.replicate (IntKind.i64.wrap (1 + c_1.fst)).toNat 0))] } (S.l20Net_k5 κ))) none) else none)) none) by kernel_rfl) ?_
    refine optC_congr (fun c_1 => ?_)
    refine cnd_congr ?_ ?_
    · refine optC_congr (fun c_2 => ?_)
      refine (S.l20Net_L5_run n_ (IntKind.i64.wrap (1 + c_1.fst)) c_2.fst FUEL (0, c_2.snd.fst, c_2.snd.snd, List.replicate (IntKind.i64.wrap (1 + c_1.fst)).toNat 0) (S.l20Net_k5 κ)).trans (optC_congr (fun qy_6 => ?_))
      kernel_rfl
    · kernel_rfl
  rw [hu]
  exact (S.l20Net_tree_nat (fun o => optC o (fun (r : (List Int) × Int × (List Int)) => κ (.own 1) [.cells [(.ro true (.ints .u8 r.1)), (.int .i64 r.2.1)], .row (.ints .i64 r.2.2)]) none) rb rp n_ (fun d => some d) none).symm
noncomputable def S.l20Net_s : D.Spec where
  keep := false
  pure := false
  add := false
  ds := [.invalid, .invalid]
  sp := fun args h κ => match args, h with
    | [.ptr 0 0, .int .i64 n_], [.cells [.ro true (.ints .u8 rb), .int .i64 rp]] => optC (S.l20Net_t rb rp n_) (fun (r : (List Int) × Int × (List Int)) => κ (.own 1) [.cells [(.ro true (.ints .u8 r.1)), (.int .i64 r.2.1)], .row (.ints .i64 r.2.2)]) none
    | _, _ => none
theorem S.l20Net_ok : SpecOk Try.prog 25 S.l20Net_s := by
  refine SpecOk.of TDok mixed (T := S.l20Net_T) ?_ (ann := S.l20Net_ann) Try.func25 rfl (by decide +kernel) ?_ ?_ ?_ ?_
  · intro p hp
    simp only [S.l20Net_T, List.mem_cons, List.not_mem_nil, or_false] at hp
    rcases hp with rfl | rfl
    · exact S.l20Rd_pick_ok
    · exact S.l20Rd_odd_ok
  · intro args h κ r hh
    simp only [S.l20Net_s] at hh
    split at hh
    · exact (S.l20Net_den _ _ _ κ).trans hh
    · cases hh
  · intro args h κ r hh
    simp only [S.l20Net_s] at hh ⊢
    split at hh
    · exact optC_law2 (F := fun (r : (List Int) × Int × (List Int)) κ => κ (.own 1) [.cells [(.ro true (.ints .u8 r.1)), (.int .i64 r.2.1)], .row (.ints .i64 r.2.2)]) (fun b κ r hb => ⟨_, _, hb, fun _ => rfl⟩) hh
    · cases hh
  · intro hh; cases hh
  · intro hh; cases hh

-- loop.example/guardsonnets/spec.DrawFewestCliques
noncomputable def S.DrawFewestCliques_T : List (Nat × D.Spec) := [(26, S.l20Open_s), (25, S.l20Net_s)]
def S.DrawFewestCliques_ann : Nat → List Nat × List Nat
  | _ => ([], [])
noncomputable def S.DrawFewestCliques_F (args : List V) (h : List E) (κ : V → List E → R) : R := funC TD (tableK S.DrawFewestCliques_T) S.DrawFewestCliques_ann (drawOk TD (tableP S.DrawFewestCliques_T)) FUEL Try.f7 args h κ
noncomputable def S.DrawFewestCliques_tree {α : Type} (code : List Int) (leaf0_ : List Int → α) (fail_ : α) : α :=
  (optC (S.l20Open_t code) (fun c_1 => (optC (S.l20Net_t c_1.fst c_1.snd 9) (fun c_2 => (leaf0_ c_2.snd.snd)) fail_)) fail_)
theorem S.DrawFewestCliques_tree_nat {α γ : Type} (g : α → γ) (code : List Int) (leaf0_ : List Int → α) (fail_ : α) : g (S.DrawFewestCliques_tree code leaf0_ fail_) = S.DrawFewestCliques_tree code (fun d => g (leaf0_ d)) (g fail_) := by
  unfold S.DrawFewestCliques_tree; simp only [apply_cnd g, apply_optC g, apply_sumC g]
noncomputable def S.DrawFewestCliques_t (code : List Int) : Option (List Int) := S.DrawFewestCliques_tree code (fun d => some d) none
theorem S.DrawFewestCliques_den (code : List Int) (κ : V → List E → R) : S.DrawFewestCliques_F [.ro true (.ints .u8 code)] [] κ = optC (S.DrawFewestCliques_t code) (fun (r : List Int) => κ (.own 0) [.row (.ints .i64 r)]) none := by
  have hu : S.DrawFewestCliques_F [.ro true (.ints .u8 code)] [] κ = S.DrawFewestCliques_tree code (fun d => κ (.own 0) [.row (.ints .i64 d)]) none := by
    kernel_rfl
  rw [hu]
  exact (S.DrawFewestCliques_tree_nat (fun o => optC o (fun (r : List Int) => κ (.own 0) [.row (.ints .i64 r)]) none) code (fun d => some d) none).symm
noncomputable def S.DrawFewestCliques_s : D.Spec where
  keep := true
  pure := false
  add := true
  ds := [.int .u8]
  sp := fun args h κ => match args, h with
    | [.ro true (.ints .u8 code)], [] => optC (S.DrawFewestCliques_t code) (fun (r : List Int) => κ (.own 0) [.row (.ints .i64 r)]) none
    | _, _ => none
theorem S.DrawFewestCliques_ok : SpecOk Try.prog 7 S.DrawFewestCliques_s := by
  refine SpecOk.of TDok mixed (T := S.DrawFewestCliques_T) ?_ (ann := S.DrawFewestCliques_ann) Try.func7 rfl (by decide +kernel) ?_ ?_ ?_ ?_
  · intro p hp
    simp only [S.DrawFewestCliques_T, List.mem_cons, List.not_mem_nil, or_false] at hp
    rcases hp with rfl | rfl
    · exact S.l20Open_ok
    · exact S.l20Net_ok
  · intro args h κ r hh
    simp only [S.DrawFewestCliques_s] at hh
    split at hh
    · exact (S.DrawFewestCliques_den _ κ).trans hh
    · cases hh
  · intro args h κ r hh
    simp only [S.DrawFewestCliques_s] at hh ⊢
    split at hh
    · exact optC_law2 (F := fun (r : List Int) κ => κ (.own 0) [.row (.ints .i64 r)]) (fun b κ r hb => ⟨_, _, hb, fun _ => rfl⟩) hh
    · cases hh
  · intro hh; cases hh
  · intro _ args h κ r hh
    simp only [S.DrawFewestCliques_s] at hh
    split at hh
    · rfl
    · cases hh

-- loop.example/guardsonnets/impl.setIn
noncomputable def I.setIn_T : List (Nat × D.Spec) := []
def I.setIn_ann : Nat → List Nat × List Nat
  | _ => ([], [])
noncomputable def I.setIn_F (args : List V) (h : List E) (κ : V → List E → R) : R := funC TD (tableK I.setIn_T) I.setIn_ann (drawOk TD (tableP I.setIn_T)) FUEL Try.f31 args h κ
noncomputable def I.setIn_tree {α : Type} (net : List Int) (set_ : Int) (leaf0_ : Bool → α) (fail_ : α) : α :=
  (bif decide (set_ ≥ 0) then (leaf0_ (decide (set_ < IntKind.i64.wrap (1 * 2 ^ min (↑net.length : Int).toNat IntKind.i64.bits)))) else (leaf0_ false))
theorem I.setIn_tree_nat {α γ : Type} (g : α → γ) (net : List Int) (set_ : Int) (leaf0_ : Bool → α) (fail_ : α) : g (I.setIn_tree net set_ leaf0_ fail_) = I.setIn_tree net set_ (fun d => g (leaf0_ d)) (g fail_) := by
  unfold I.setIn_tree; simp only [apply_cnd g, apply_optC g, apply_sumC g]
noncomputable def I.setIn_t (net : List Int) (set_ : Int) : Option (Bool) := I.setIn_tree net set_ (fun d => some d) none
theorem I.setIn_den (net : List Int) (set_ : Int) (κ : V → List E → R) : I.setIn_F [.ro false (.ints .i64 net), .int .i64 set_] [] κ = optC (I.setIn_t net set_) (fun (r : Bool) => κ (.bool r) []) none := by
  have hu : I.setIn_F [.ro false (.ints .i64 net), .int .i64 set_] [] κ = I.setIn_tree net set_ (fun d => κ (.bool d) []) none := by
    kernel_rfl
  rw [hu]
  exact (I.setIn_tree_nat (fun o => optC o (fun (r : Bool) => κ (.bool r) []) none) net set_ (fun d => some d) none).symm
noncomputable def I.setIn_s : D.Spec where
  keep := false
  pure := true
  add := true
  ds := [.int .i64, .invalid]
  sp := fun args h κ => match args, h with
    | [.ro false (.ints .i64 net), .int .i64 set_], [] => optC (I.setIn_t net set_) (fun (r : Bool) => κ (.bool r) []) none
    | _, _ => none
theorem I.setIn_ok : SpecOk Try.prog 31 I.setIn_s := by
  refine SpecOk.of TDok mixed (T := I.setIn_T) ?_ (ann := I.setIn_ann) Try.func31 rfl (by decide +kernel) ?_ ?_ ?_ ?_
  · intro p hp; cases hp
  · intro args h κ r hh
    simp only [I.setIn_s] at hh
    split at hh
    · exact (I.setIn_den _ _ κ).trans hh
    · cases hh
  · intro args h κ r hh
    simp only [I.setIn_s] at hh ⊢
    split at hh
    · exact optC_law2 (F := fun (r : Bool) κ => κ (.bool r) []) (fun b κ r hb => ⟨_, _, hb, fun _ => rfl⟩) hh
    · cases hh
  · intro _ args h κ r hh
    simp only [I.setIn_s] at hh
    split at hh
    · exact ⟨rfl, fun _ => rfl⟩
    · cases hh
  · intro _ args h κ r hh
    simp only [I.setIn_s] at hh
    split at hh
    · rfl
    · cases hh

-- loop.example/guardsonnets/impl.hasPlace
noncomputable def I.hasPlace_T : List (Nat × D.Spec) := []
def I.hasPlace_ann : Nat → List Nat × List Nat
  | _ => ([], [])
noncomputable def I.hasPlace_F (args : List V) (h : List E) (κ : V → List E → R) : R := funC TD (tableK I.hasPlace_T) I.hasPlace_ann (drawOk TD (tableP I.hasPlace_T)) FUEL Try.f32 args h κ
noncomputable def I.hasPlace_tree {α : Type} (set_ : Int) (place : Int) (leaf0_ : Bool → α) (fail_ : α) : α :=
  (bif decide (place < 0) then fail_ else (leaf0_ (bits BinOp.and IntKind.i64 (set_.fdiv (2 ^ min place.toNat IntKind.i64.bits)) 1 == 1)))
theorem I.hasPlace_tree_nat {α γ : Type} (g : α → γ) (set_ : Int) (place : Int) (leaf0_ : Bool → α) (fail_ : α) : g (I.hasPlace_tree set_ place leaf0_ fail_) = I.hasPlace_tree set_ place (fun d => g (leaf0_ d)) (g fail_) := by
  unfold I.hasPlace_tree; simp only [apply_cnd g, apply_optC g, apply_sumC g]
noncomputable def I.hasPlace_t (set_ : Int) (place : Int) : Option (Bool) := I.hasPlace_tree set_ place (fun d => some d) none
theorem I.hasPlace_den (set_ : Int) (place : Int) (κ : V → List E → R) : I.hasPlace_F [.int .i64 set_, .int .i64 place] [] κ = optC (I.hasPlace_t set_ place) (fun (r : Bool) => κ (.bool r) []) none := by
  have hu : I.hasPlace_F [.int .i64 set_, .int .i64 place] [] κ = I.hasPlace_tree set_ place (fun d => κ (.bool d) []) none := by
    kernel_rfl
  rw [hu]
  exact (I.hasPlace_tree_nat (fun o => optC o (fun (r : Bool) => κ (.bool r) []) none) set_ place (fun d => some d) none).symm
noncomputable def I.hasPlace_s : D.Spec where
  keep := false
  pure := true
  add := true
  ds := [.invalid, .invalid]
  sp := fun args h κ => match args, h with
    | [.int .i64 set_, .int .i64 place], [] => optC (I.hasPlace_t set_ place) (fun (r : Bool) => κ (.bool r) []) none
    | _, _ => none
theorem I.hasPlace_ok : SpecOk Try.prog 32 I.hasPlace_s := by
  refine SpecOk.of TDok mixed (T := I.hasPlace_T) ?_ (ann := I.hasPlace_ann) Try.func32 rfl (by decide +kernel) ?_ ?_ ?_ ?_
  · intro p hp; cases hp
  · intro args h κ r hh
    simp only [I.hasPlace_s] at hh
    split at hh
    · exact (I.hasPlace_den _ _ κ).trans hh
    · cases hh
  · intro args h κ r hh
    simp only [I.hasPlace_s] at hh ⊢
    split at hh
    · exact optC_law2 (F := fun (r : Bool) κ => κ (.bool r) []) (fun b κ r hb => ⟨_, _, hb, fun _ => rfl⟩) hh
    · cases hh
  · intro _ args h κ r hh
    simp only [I.hasPlace_s] at hh
    split at hh
    · exact ⟨rfl, fun _ => rfl⟩
    · cases hh
  · intro _ args h κ r hh
    simp only [I.hasPlace_s] at hh
    split at hh
    · rfl
    · cases hh

-- loop.example/guardsonnets/impl.knownBack
noncomputable def I.knownBack_T : List (Nat × D.Spec) := [(32, I.hasPlace_s)]
def I.knownBack_ann : Nat → List Nat × List Nat
  | 2 => ([0, 1, 5], [4])
  | _ => ([], [])
noncomputable def I.knownBack_F (args : List V) (h : List E) (κ : V → List E → R) : R := funC TD (tableK I.knownBack_T) I.knownBack_ann (drawOk TD (tableP I.knownBack_T)) FUEL Try.f33 args h κ
noncomputable def I.knownBack_L2 (n : Nat) (σ : St) (k : X → St → R) : R := iterC 0 (fun σ k => denC TD (tableK I.knownBack_T) I.knownBack_ann (drawOk TD (tableP I.knownBack_T)) 0 FUEL ((findLoop 2 (Try.f33.body.getD .skip)).getD .skip) σ k) [0, 1, 5] [4] n σ k
noncomputable def I.knownBack_k2 (κ : V → List E → R) : X → St → R := (afterC TD (tableK I.knownBack_T) I.knownBack_ann (drawOk TD (tableP I.knownBack_T)) 0 FUEL 2 (Try.f33.body.getD .skip) (finC TD 0 Try.f33 κ)).getD (fun _ _ => none)
noncomputable def I.knownBack_step2 {α : Type} (x0 : List Int) (x1 : Int) (x5 : Int) (next_ : Int → α) (out0_ : Bool → α) (out1_ : Unit → α) (fail_ : α) : α :=
  (bif decide (x5 < (↑x0.length : Int)) then (bif decide (0 ≤ x1) && decide (x1 < (↑x0.length : Int)) then (optC (I.hasPlace_t (eli x0 x1.toNat) x5) (fun c_1 => (bif c_1 then (bif decide (0 ≤ x5) && decide (x5 < (↑x0.length : Int)) then (optC (I.hasPlace_t (eli x0 x5.toNat) x1) (fun c_2 => (bif !c_2 then (out0_ false) else (next_ (IntKind.i64.wrap (x5 + 1))))) fail_) else fail_) else (next_ (IntKind.i64.wrap (x5 + 1))))) fail_) else fail_) else (out1_ ()))
theorem I.knownBack_step2_nat {α γ : Type} (g : α → γ) (x0 : List Int) (x1 : Int) (x5 : Int) (next_ : Int → α) (out0_ : Bool → α) (out1_ : Unit → α) (fail_ : α) : g (I.knownBack_step2 x0 x1 x5 next_ out0_ out1_ fail_) = I.knownBack_step2 x0 x1 x5 (fun s => g (next_ s)) (fun d => g (out0_ d)) (fun d => g (out1_ d)) (g fail_) := by
  unfold I.knownBack_step2; simp only [apply_cnd g, apply_optC g, apply_sumC g]
noncomputable def I.knownBack_run2 (x0 : List Int) (x1 : Int) : Nat → Int → Option ((Bool) ⊕ (Unit))
  | 0, _ => none
  | n + 1, s_ => I.knownBack_step2 x0 x1 s_ (I.knownBack_run2 x0 x1 n) (fun d => some ((Sum.inl d))) (fun d => some ((Sum.inr d))) none
theorem I.knownBack_L2_run (x0 : List Int) (x1 : Int) (n : Nat) (s_ : Int) (k : X → St → R) : I.knownBack_L2 n { n := 27, t := [(0, (.ro false (.ints .i64 x0))), (1, (.int .i64 x1)), (5, (.int .i64 s_))], h := [] } k = optC (I.knownBack_run2 x0 x1 n s_) (fun (r : (Bool) ⊕ (Unit)) => (sumC r (fun (r : Bool) => k (.ret) { n := 27, t := [(4, (.bool r))], h := [] }) (fun (r : Unit) => k (.exit 0) { n := 27, t := [(4, .junk)], h := [] }))) none := by
  induction n generalizing s_ with
  | zero => rfl
  | succ n ih =>
    have hu : I.knownBack_L2 (n + 1) { n := 27, t := [(0, (.ro false (.ints .i64 x0))), (1, (.int .i64 x1)), (5, (.int .i64 s_))], h := [] } k = I.knownBack_step2 x0 x1 s_ (fun s_ => I.knownBack_L2 n { n := 27, t := [(0, (.ro false (.ints .i64 x0))), (1, (.int .i64 x1)), (5, (.int .i64 s_))], h := [] } k) (fun d => k (.ret) { n := 27, t := [(4, (.bool d))], h := [] }) (fun d => k (.exit 0) { n := 27, t := [(4, .junk)], h := [] }) none := by
      kernel_rfl
    have hs : (fun s_ : Int => I.knownBack_L2 n { n := 27, t := [(0, (.ro false (.ints .i64 x0))), (1, (.int .i64 x1)), (5, (.int .i64 s_))], h := [] } k) = fun s_ => optC (I.knownBack_run2 x0 x1 n s_) (fun (r : (Bool) ⊕ (Unit)) => (sumC r (fun (r : Bool) => k (.ret) { n := 27, t := [(4, (.bool r))], h := [] }) (fun (r : Unit) => k (.exit 0) { n := 27, t := [(4, .junk)], h := [] }))) none := funext ih
    rw [hu, hs]
    exact (I.knownBack_step2_nat (fun o => optC o (fun (r : (Bool) ⊕ (Unit)) => (sumC r (fun (r : Bool) => k (.ret) { n := 27, t := [(4, (.bool r))], h := [] }) (fun (r : Unit) => k (.exit 0) { n := 27, t := [(4, .junk)], h := [] }))) none) x0 x1 s_ (I.knownBack_run2 x0 x1 n) (fun d => some ((Sum.inl d))) (fun d => some ((Sum.inr d))) none).symm
noncomputable def I.knownBack_tree {α : Type} (net : List Int) (place : Int) (leaf0_ : Bool → α) (fail_ : α) : α :=
  (optC (I.knownBack_run2 net place FUEL 0) (fun qy_3 => (sumC qy_3 (fun (qy_3 : Bool) => (leaf0_ qy_3)) (fun (qy_3 : Unit) => (leaf0_ true)))) fail_)
theorem I.knownBack_tree_nat {α γ : Type} (g : α → γ) (net : List Int) (place : Int) (leaf0_ : Bool → α) (fail_ : α) : g (I.knownBack_tree net place leaf0_ fail_) = I.knownBack_tree net place (fun d => g (leaf0_ d)) (g fail_) := by
  unfold I.knownBack_tree; simp only [apply_cnd g, apply_optC g, apply_sumC g]
noncomputable def I.knownBack_t (net : List Int) (place : Int) : Option (Bool) := I.knownBack_tree net place (fun d => some d) none
theorem I.knownBack_den (net : List Int) (place : Int) (κ : V → List E → R) : I.knownBack_F [.ro false (.ints .i64 net), .int .i64 place] [] κ = optC (I.knownBack_t net place) (fun (r : Bool) => κ (.bool r) []) none := by
  have hu : I.knownBack_F [.ro false (.ints .i64 net), .int .i64 place] [] κ = I.knownBack_tree net place (fun d => κ (.bool d) []) none := by
    refine Eq.trans (show I.knownBack_F [.ro false (.ints .i64 net), .int .i64 place] [] κ = (I.knownBack_L2 FUEL { n := 27, t := [(0, (.ro false (.ints .i64 net))), (1, (.int .i64 place)), (5, (.int .i64 0))], h := [] } (I.knownBack_k2 κ)) by kernel_rfl) ?_
    refine (I.knownBack_L2_run net place FUEL 0 (I.knownBack_k2 κ)).trans (optC_congr (fun qy_3 => ?_))
    rcases qy_3 with qy_3 | qy_3
    · kernel_rfl
    · kernel_rfl
  rw [hu]
  exact (I.knownBack_tree_nat (fun o => optC o (fun (r : Bool) => κ (.bool r) []) none) net place (fun d => some d) none).symm
noncomputable def I.knownBack_s : D.Spec where
  keep := false
  pure := true
  add := true
  ds := [.int .i64, .invalid]
  sp := fun args h κ => match args, h with
    | [.ro false (.ints .i64 net), .int .i64 place], [] => optC (I.knownBack_t net place) (fun (r : Bool) => κ (.bool r) []) none
    | _, _ => none
theorem I.knownBack_ok : SpecOk Try.prog 33 I.knownBack_s := by
  refine SpecOk.of TDok mixed (T := I.knownBack_T) ?_ (ann := I.knownBack_ann) Try.func33 rfl (by decide +kernel) ?_ ?_ ?_ ?_
  · intro p hp
    simp only [I.knownBack_T, List.mem_cons, List.not_mem_nil, or_false] at hp
    rcases hp with rfl
    · exact I.hasPlace_ok
  · intro args h κ r hh
    simp only [I.knownBack_s] at hh
    split at hh
    · exact (I.knownBack_den _ _ κ).trans hh
    · cases hh
  · intro args h κ r hh
    simp only [I.knownBack_s] at hh ⊢
    split at hh
    · exact optC_law2 (F := fun (r : Bool) κ => κ (.bool r) []) (fun b κ r hb => ⟨_, _, hb, fun _ => rfl⟩) hh
    · cases hh
  · intro _ args h κ r hh
    simp only [I.knownBack_s] at hh
    split at hh
    · exact ⟨rfl, fun _ => rfl⟩
    · cases hh
  · intro _ args h κ r hh
    simp only [I.knownBack_s] at hh
    split at hh
    · rfl
    · cases hh

-- loop.example/guardsonnets/impl.NetOk
noncomputable def I.NetOk_T : List (Nat × D.Spec) := [(31, I.setIn_s), (32, I.hasPlace_s), (33, I.knownBack_s)]
def I.NetOk_ann : Nat → List Nat × List Nat
  | 4 => ([0, 3], [2])
  | _ => ([], [])
noncomputable def I.NetOk_F (args : List V) (h : List E) (κ : V → List E → R) : R := funC TD (tableK I.NetOk_T) I.NetOk_ann (drawOk TD (tableP I.NetOk_T)) FUEL Try.f10 args h κ
noncomputable def I.NetOk_L4 (n : Nat) (σ : St) (k : X → St → R) : R := iterC 0 (fun σ k => denC TD (tableK I.NetOk_T) I.NetOk_ann (drawOk TD (tableP I.NetOk_T)) 0 FUEL ((findLoop 4 (Try.f10.body.getD .skip)).getD .skip) σ k) [0, 3] [2] n σ k
noncomputable def I.NetOk_k4 (κ : V → List E → R) : X → St → R := (afterC TD (tableK I.NetOk_T) I.NetOk_ann (drawOk TD (tableP I.NetOk_T)) 0 FUEL 4 (Try.f10.body.getD .skip) (finC TD 0 Try.f10 κ)).getD (fun _ _ => none)
noncomputable def I.NetOk_step4 {α : Type} (x0 : List Int) (x3 : Int) (next_ : Int → α) (out0_ : Bool → α) (out1_ : Unit → α) (fail_ : α) : α :=
  (bif decide (x3 < (↑x0.length : Int)) then (bif decide (0 ≤ x3) && decide (x3 < (↑x0.length : Int)) then (optC (I.setIn_t x0 (eli x0 x3.toNat)) (fun c_1 => (bif !c_1 then (out0_ false) else (bif decide (0 ≤ x3) && decide (x3 < (↑x0.length : Int)) then (optC (I.hasPlace_t (eli x0 x3.toNat) x3) (fun c_2 => (bif c_2 then (out0_ false) else (optC (I.knownBack_t x0 x3) (fun c_3 => (bif !c_3 then (out0_ false) else (next_ (IntKind.i64.wrap (x3 + 1))))) fail_))) fail_) else fail_))) fail_) else fail_) else (out1_ ()))
theorem I.NetOk_step4_nat {α γ : Type} (g : α → γ) (x0 : List Int) (x3 : Int) (next_ : Int → α) (out0_ : Bool → α) (out1_ : Unit → α) (fail_ : α) : g (I.NetOk_step4 x0 x3 next_ out0_ out1_ fail_) = I.NetOk_step4 x0 x3 (fun s => g (next_ s)) (fun d => g (out0_ d)) (fun d => g (out1_ d)) (g fail_) := by
  unfold I.NetOk_step4; simp only [apply_cnd g, apply_optC g, apply_sumC g]
noncomputable def I.NetOk_run4 (x0 : List Int) : Nat → Int → Option ((Bool) ⊕ (Unit))
  | 0, _ => none
  | n + 1, s_ => I.NetOk_step4 x0 s_ (I.NetOk_run4 x0 n) (fun d => some ((Sum.inl d))) (fun d => some ((Sum.inr d))) none
theorem I.NetOk_L4_run (x0 : List Int) (n : Nat) (s_ : Int) (k : X → St → R) : I.NetOk_L4 n { n := 39, t := [(0, (.ro false (.ints .i64 x0))), (3, (.int .i64 s_))], h := [] } k = optC (I.NetOk_run4 x0 n s_) (fun (r : (Bool) ⊕ (Unit)) => (sumC r (fun (r : Bool) => k (.ret) { n := 39, t := [(2, (.bool r))], h := [] }) (fun (r : Unit) => k (.exit 0) { n := 39, t := [(2, .junk)], h := [] }))) none := by
  induction n generalizing s_ with
  | zero => rfl
  | succ n ih =>
    have hu : I.NetOk_L4 (n + 1) { n := 39, t := [(0, (.ro false (.ints .i64 x0))), (3, (.int .i64 s_))], h := [] } k = I.NetOk_step4 x0 s_ (fun s_ => I.NetOk_L4 n { n := 39, t := [(0, (.ro false (.ints .i64 x0))), (3, (.int .i64 s_))], h := [] } k) (fun d => k (.ret) { n := 39, t := [(2, (.bool d))], h := [] }) (fun d => k (.exit 0) { n := 39, t := [(2, .junk)], h := [] }) none := by
      kernel_rfl
    have hs : (fun s_ : Int => I.NetOk_L4 n { n := 39, t := [(0, (.ro false (.ints .i64 x0))), (3, (.int .i64 s_))], h := [] } k) = fun s_ => optC (I.NetOk_run4 x0 n s_) (fun (r : (Bool) ⊕ (Unit)) => (sumC r (fun (r : Bool) => k (.ret) { n := 39, t := [(2, (.bool r))], h := [] }) (fun (r : Unit) => k (.exit 0) { n := 39, t := [(2, .junk)], h := [] }))) none := funext ih
    rw [hu, hs]
    exact (I.NetOk_step4_nat (fun o => optC o (fun (r : (Bool) ⊕ (Unit)) => (sumC r (fun (r : Bool) => k (.ret) { n := 39, t := [(2, (.bool r))], h := [] }) (fun (r : Unit) => k (.exit 0) { n := 39, t := [(2, .junk)], h := [] }))) none) x0 s_ (I.NetOk_run4 x0 n) (fun d => some ((Sum.inl d))) (fun d => some ((Sum.inr d))) none).symm
noncomputable def I.NetOk_tree {α : Type} (net : List Int) (leaf0_ : Bool → α) (fail_ : α) : α :=
  (bif decide ((↑net.length : Int) < 1) then (leaf0_ false) else (bif decide ((↑net.length : Int) > 6) then (leaf0_ false) else (optC (I.NetOk_run4 net FUEL 0) (fun qy_4 => (sumC qy_4 (fun (qy_4 : Bool) => (leaf0_ qy_4)) (fun (qy_4 : Unit) => (leaf0_ true)))) fail_)))
theorem I.NetOk_tree_nat {α γ : Type} (g : α → γ) (net : List Int) (leaf0_ : Bool → α) (fail_ : α) : g (I.NetOk_tree net leaf0_ fail_) = I.NetOk_tree net (fun d => g (leaf0_ d)) (g fail_) := by
  unfold I.NetOk_tree; simp only [apply_cnd g, apply_optC g, apply_sumC g]
noncomputable def I.NetOk_t (net : List Int) : Option (Bool) := I.NetOk_tree net (fun d => some d) none
theorem I.NetOk_den (net : List Int) (κ : V → List E → R) : I.NetOk_F [.ro false (.ints .i64 net)] [] κ = optC (I.NetOk_t net) (fun (r : Bool) => κ (.bool r) []) none := by
  have hu : I.NetOk_F [.ro false (.ints .i64 net)] [] κ = I.NetOk_tree net (fun d => κ (.bool d) []) none := by
    refine Eq.trans (show I.NetOk_F [.ro false (.ints .i64 net)] [] κ = (bif decide ((↑net.length : Int) < 1) then (κ (.bool false) []) else (bif decide ((↑net.length : Int) > 6) then (κ (.bool false) []) else (I.NetOk_L4 FUEL { n := 39, t := [(0, (.ro false (.ints .i64 net))), (3, (.int .i64 0))], h := [] } (I.NetOk_k4 κ)))) by kernel_rfl) ?_
    refine cnd_congr ?_ ?_
    · kernel_rfl
    · refine cnd_congr ?_ ?_
      · kernel_rfl
      · refine (I.NetOk_L4_run net FUEL 0 (I.NetOk_k4 κ)).trans (optC_congr (fun qy_4 => ?_))
        rcases qy_4 with qy_4 | qy_4
        · kernel_rfl
        · kernel_rfl
  rw [hu]
  exact (I.NetOk_tree_nat (fun o => optC o (fun (r : Bool) => κ (.bool r) []) none) net (fun d => some d) none).symm
noncomputable def I.NetOk_s : D.Spec where
  keep := false
  pure := true
  add := true
  ds := [.int .i64]
  sp := fun args h κ => match args, h with
    | [.ro false (.ints .i64 net)], [] => optC (I.NetOk_t net) (fun (r : Bool) => κ (.bool r) []) none
    | _, _ => none
theorem I.NetOk_ok : SpecOk Try.prog 10 I.NetOk_s := by
  refine SpecOk.of TDok mixed (T := I.NetOk_T) ?_ (ann := I.NetOk_ann) Try.func10 rfl (by decide +kernel) ?_ ?_ ?_ ?_
  · intro p hp
    simp only [I.NetOk_T, List.mem_cons, List.not_mem_nil, or_false] at hp
    rcases hp with rfl | rfl | rfl
    · exact I.setIn_ok
    · exact I.hasPlace_ok
    · exact I.knownBack_ok
  · intro args h κ r hh
    simp only [I.NetOk_s] at hh
    split at hh
    · exact (I.NetOk_den _ κ).trans hh
    · cases hh
  · intro args h κ r hh
    simp only [I.NetOk_s] at hh ⊢
    split at hh
    · exact optC_law2 (F := fun (r : Bool) κ => κ (.bool r) []) (fun b κ r hb => ⟨_, _, hb, fun _ => rfl⟩) hh
    · cases hh
  · intro _ args h κ r hh
    simp only [I.NetOk_s] at hh
    split at hh
    · exact ⟨rfl, fun _ => rfl⟩
    · cases hh
  · intro _ args h κ r hh
    simp only [I.NetOk_s] at hh
    split at hh
    · rfl
    · cases hh

-- loop.example/guardsonnets/impl.numbersOf
noncomputable def I.numbersOf_T : List (Nat × D.Spec) := []
def I.numbersOf_ann : Nat → List Nat × List Nat
  | 3 => ([0, 3, 4], [3])
  | _ => ([], [])
noncomputable def I.numbersOf_F (args : List V) (h : List E) (κ : V → List E → R) : R := funC TD (tableK I.numbersOf_T) I.numbersOf_ann (drawOk TD (tableP I.numbersOf_T)) FUEL Try.f27 args h κ
noncomputable def I.numbersOf_L3 (n : Nat) (σ : St) (k : X → St → R) : R := iterC 0 (fun σ k => denC TD (tableK I.numbersOf_T) I.numbersOf_ann (drawOk TD (tableP I.numbersOf_T)) 0 FUEL ((findLoop 3 (Try.f27.body.getD .skip)).getD .skip) σ k) [0, 3, 4] [3] n σ k
noncomputable def I.numbersOf_k3 (κ : V → List E → R) : X → St → R := (afterC TD (tableK I.numbersOf_T) I.numbersOf_ann (drawOk TD (tableP I.numbersOf_T)) 0 FUEL 3 (Try.f27.body.getD .skip) (finC TD 0 Try.f27 κ)).getD (fun _ _ => none)
noncomputable def I.numbersOf_step3 {α : Type} (x0 : List Int) (x3 : Int) (x4 : Int) (next_ : Int × Int → α) (out0_ : Int → α) (fail_ : α) : α :=
  (bif decide (x4 < (↑x0.length : Int)) then (bif decide (0 ≤ x4) && decide (x4 < (↑x0.length : Int)) then (bif eli x0 x4.toNat == x3 then (next_ (IntKind.i64.wrap (x3 + 1), IntKind.i64.wrap (x4 + 1))) else (next_ (x3, IntKind.i64.wrap (x4 + 1)))) else fail_) else (out0_ x3))
theorem I.numbersOf_step3_nat {α γ : Type} (g : α → γ) (x0 : List Int) (x3 : Int) (x4 : Int) (next_ : Int × Int → α) (out0_ : Int → α) (fail_ : α) : g (I.numbersOf_step3 x0 x3 x4 next_ out0_ fail_) = I.numbersOf_step3 x0 x3 x4 (fun s => g (next_ s)) (fun d => g (out0_ d)) (g fail_) := by
  unfold I.numbersOf_step3; simp only [apply_cnd g, apply_optC g, apply_sumC g]
noncomputable def I.numbersOf_run3 (x0 : List Int) : Nat → Int × Int → Option (Int)
  | 0, _ => none
  | n + 1, s_ => I.numbersOf_step3 x0 s_.1 s_.2 (I.numbersOf_run3 x0 n) (fun d => some d) none
theorem I.numbersOf_L3_run (x0 : List Int) (n : Nat) (s_ : Int × Int) (k : X → St → R) : I.numbersOf_L3 n { n := 20, t := [(0, (.ro false (.ints .i64 x0))), (3, (.int .i64 s_.1)), (4, (.int .i64 s_.2))], h := [] } k = optC (I.numbersOf_run3 x0 n s_) (fun (r : Int) => k (.exit 0) { n := 20, t := [(3, (.int .i64 r))], h := [] }) none := by
  induction n generalizing s_ with
  | zero => rfl
  | succ n ih =>
    have hu : I.numbersOf_L3 (n + 1) { n := 20, t := [(0, (.ro false (.ints .i64 x0))), (3, (.int .i64 s_.1)), (4, (.int .i64 s_.2))], h := [] } k = I.numbersOf_step3 x0 s_.1 s_.2 (fun s_ => I.numbersOf_L3 n { n := 20, t := [(0, (.ro false (.ints .i64 x0))), (3, (.int .i64 s_.1)), (4, (.int .i64 s_.2))], h := [] } k) (fun d => k (.exit 0) { n := 20, t := [(3, (.int .i64 d))], h := [] }) none := by
      kernel_rfl
    have hs : (fun s_ : Int × Int => I.numbersOf_L3 n { n := 20, t := [(0, (.ro false (.ints .i64 x0))), (3, (.int .i64 s_.1)), (4, (.int .i64 s_.2))], h := [] } k) = fun s_ => optC (I.numbersOf_run3 x0 n s_) (fun (r : Int) => k (.exit 0) { n := 20, t := [(3, (.int .i64 r))], h := [] }) none := funext ih
    rw [hu, hs]
    exact (I.numbersOf_step3_nat (fun o => optC o (fun (r : Int) => k (.exit 0) { n := 20, t := [(3, (.int .i64 r))], h := [] }) none) x0 s_.1 s_.2 (I.numbersOf_run3 x0 n) (fun d => some d) none).symm
noncomputable def I.numbersOf_tree {α : Type} (row : List Int) (leaf0_ : Int → α) (fail_ : α) : α :=
  (optC (I.numbersOf_run3 row FUEL (0, 0)) (fun qy_1 => (leaf0_ qy_1)) fail_)
theorem I.numbersOf_tree_nat {α γ : Type} (g : α → γ) (row : List Int) (leaf0_ : Int → α) (fail_ : α) : g (I.numbersOf_tree row leaf0_ fail_) = I.numbersOf_tree row (fun d => g (leaf0_ d)) (g fail_) := by
  unfold I.numbersOf_tree; simp only [apply_cnd g, apply_optC g, apply_sumC g]
noncomputable def I.numbersOf_t (row : List Int) : Option (Int) := I.numbersOf_tree row (fun d => some d) none
theorem I.numbersOf_den (row : List Int) (κ : V → List E → R) : I.numbersOf_F [.ro false (.ints .i64 row)] [] κ = optC (I.numbersOf_t row) (fun (r : Int) => κ (.int .i64 r) []) none := by
  have hu : I.numbersOf_F [.ro false (.ints .i64 row)] [] κ = I.numbersOf_tree row (fun d => κ (.int .i64 d) []) none := by
    refine Eq.trans (show I.numbersOf_F [.ro false (.ints .i64 row)] [] κ = (I.numbersOf_L3 FUEL { n := 20, t := [(0, (.ro false (.ints .i64 row))), (3, (.int .i64 0)), (4, (.int .i64 0))], h := [] } (I.numbersOf_k3 κ)) by kernel_rfl) ?_
    refine (I.numbersOf_L3_run row FUEL (0, 0) (I.numbersOf_k3 κ)).trans (optC_congr (fun qy_1 => ?_))
    kernel_rfl
  rw [hu]
  exact (I.numbersOf_tree_nat (fun o => optC o (fun (r : Int) => κ (.int .i64 r) []) none) row (fun d => some d) none).symm
noncomputable def I.numbersOf_s : D.Spec where
  keep := false
  pure := true
  add := true
  ds := [.int .i64]
  sp := fun args h κ => match args, h with
    | [.ro false (.ints .i64 row)], [] => optC (I.numbersOf_t row) (fun (r : Int) => κ (.int .i64 r) []) none
    | _, _ => none
theorem I.numbersOf_ok : SpecOk Try.prog 27 I.numbersOf_s := by
  refine SpecOk.of TDok mixed (T := I.numbersOf_T) ?_ (ann := I.numbersOf_ann) Try.func27 rfl (by decide +kernel) ?_ ?_ ?_ ?_
  · intro p hp; cases hp
  · intro args h κ r hh
    simp only [I.numbersOf_s] at hh
    split at hh
    · exact (I.numbersOf_den _ κ).trans hh
    · cases hh
  · intro args h κ r hh
    simp only [I.numbersOf_s] at hh ⊢
    split at hh
    · exact optC_law2 (F := fun (r : Int) κ => κ (.int .i64 r) []) (fun b κ r hb => ⟨_, _, hb, fun _ => rfl⟩) hh
    · cases hh
  · intro _ args h κ r hh
    simp only [I.numbersOf_s] at hh
    split at hh
    · exact ⟨rfl, fun _ => rfl⟩
    · cases hh
  · intro _ args h κ r hh
    simp only [I.numbersOf_s] at hh
    split at hh
    · rfl
    · cases hh

-- loop.example/guardsonnets/impl.with
noncomputable def I.with_T : List (Nat × D.Spec) := []
def I.with_ann : Nat → List Nat × List Nat
  | _ => ([], [])
noncomputable def I.with_F (args : List V) (h : List E) (κ : V → List E → R) : R := funC TD (tableK I.with_T) I.with_ann (drawOk TD (tableP I.with_T)) FUEL Try.f77 args h κ
noncomputable def I.with_tree {α : Type} (set_ : Int) (place : Int) (leaf0_ : Int → α) (fail_ : α) : α :=
  (bif decide (place < 0) then fail_ else (leaf0_ (bits BinOp.or IntKind.i64 set_ (IntKind.i64.wrap (1 * 2 ^ min place.toNat IntKind.i64.bits)))))
theorem I.with_tree_nat {α γ : Type} (g : α → γ) (set_ : Int) (place : Int) (leaf0_ : Int → α) (fail_ : α) : g (I.with_tree set_ place leaf0_ fail_) = I.with_tree set_ place (fun d => g (leaf0_ d)) (g fail_) := by
  unfold I.with_tree; simp only [apply_cnd g, apply_optC g, apply_sumC g]
noncomputable def I.with_t (set_ : Int) (place : Int) : Option (Int) := I.with_tree set_ place (fun d => some d) none
theorem I.with_den (set_ : Int) (place : Int) (κ : V → List E → R) : I.with_F [.int .i64 set_, .int .i64 place] [] κ = optC (I.with_t set_ place) (fun (r : Int) => κ (.int .i64 r) []) none := by
  have hu : I.with_F [.int .i64 set_, .int .i64 place] [] κ = I.with_tree set_ place (fun d => κ (.int .i64 d) []) none := by
    kernel_rfl
  rw [hu]
  exact (I.with_tree_nat (fun o => optC o (fun (r : Int) => κ (.int .i64 r) []) none) set_ place (fun d => some d) none).symm
noncomputable def I.with_s : D.Spec where
  keep := false
  pure := true
  add := true
  ds := [.invalid, .invalid]
  sp := fun args h κ => match args, h with
    | [.int .i64 set_, .int .i64 place], [] => optC (I.with_t set_ place) (fun (r : Int) => κ (.int .i64 r) []) none
    | _, _ => none
theorem I.with_ok : SpecOk Try.prog 77 I.with_s := by
  refine SpecOk.of TDok mixed (T := I.with_T) ?_ (ann := I.with_ann) Try.func77 rfl (by decide +kernel) ?_ ?_ ?_ ?_
  · intro p hp; cases hp
  · intro args h κ r hh
    simp only [I.with_s] at hh
    split at hh
    · exact (I.with_den _ _ κ).trans hh
    · cases hh
  · intro args h κ r hh
    simp only [I.with_s] at hh ⊢
    split at hh
    · exact optC_law2 (F := fun (r : Int) κ => κ (.int .i64 r) []) (fun b κ r hb => ⟨_, _, hb, fun _ => rfl⟩) hh
    · cases hh
  · intro _ args h κ r hh
    simp only [I.with_s] at hh
    split at hh
    · exact ⟨rfl, fun _ => rfl⟩
    · cases hh
  · intro _ args h κ r hh
    simp only [I.with_s] at hh
    split at hh
    · rfl
    · cases hh

-- loop.example/guardsonnets/impl.placesWith
noncomputable def I.placesWith_T : List (Nat × D.Spec) := [(77, I.with_s)]
def I.placesWith_ann : Nat → List Nat × List Nat
  | 3 => ([0, 1, 5, 6], [5])
  | _ => ([], [])
noncomputable def I.placesWith_F (args : List V) (h : List E) (κ : V → List E → R) : R := funC TD (tableK I.placesWith_T) I.placesWith_ann (drawOk TD (tableP I.placesWith_T)) FUEL Try.f66 args h κ
noncomputable def I.placesWith_L3 (n : Nat) (σ : St) (k : X → St → R) : R := iterC 0 (fun σ k => denC TD (tableK I.placesWith_T) I.placesWith_ann (drawOk TD (tableP I.placesWith_T)) 0 FUEL ((findLoop 3 (Try.f66.body.getD .skip)).getD .skip) σ k) [0, 1, 5, 6] [5] n σ k
noncomputable def I.placesWith_k3 (κ : V → List E → R) : X → St → R := (afterC TD (tableK I.placesWith_T) I.placesWith_ann (drawOk TD (tableP I.placesWith_T)) 0 FUEL 3 (Try.f66.body.getD .skip) (finC TD 0 Try.f66 κ)).getD (fun _ _ => none)
noncomputable def I.placesWith_step3 {α : Type} (x0 : List Int) (x1 : Int) (x5 : Int) (x6 : Int) (next_ : Int × Int → α) (out0_ : Int → α) (fail_ : α) : α :=
  (bif decide (x6 < (↑x0.length : Int)) then (bif decide (0 ≤ x6) && decide (x6 < (↑x0.length : Int)) then (bif eli x0 x6.toNat == x1 then (optC (I.with_t x5 x6) (fun c_1 => (next_ (c_1, IntKind.i64.wrap (x6 + 1)))) fail_) else (next_ (x5, IntKind.i64.wrap (x6 + 1)))) else fail_) else (out0_ x5))
theorem I.placesWith_step3_nat {α γ : Type} (g : α → γ) (x0 : List Int) (x1 : Int) (x5 : Int) (x6 : Int) (next_ : Int × Int → α) (out0_ : Int → α) (fail_ : α) : g (I.placesWith_step3 x0 x1 x5 x6 next_ out0_ fail_) = I.placesWith_step3 x0 x1 x5 x6 (fun s => g (next_ s)) (fun d => g (out0_ d)) (g fail_) := by
  unfold I.placesWith_step3; simp only [apply_cnd g, apply_optC g, apply_sumC g]
noncomputable def I.placesWith_run3 (x0 : List Int) (x1 : Int) : Nat → Int × Int → Option (Int)
  | 0, _ => none
  | n + 1, s_ => I.placesWith_step3 x0 x1 s_.1 s_.2 (I.placesWith_run3 x0 x1 n) (fun d => some d) none
theorem I.placesWith_L3_run (x0 : List Int) (x1 : Int) (n : Nat) (s_ : Int × Int) (k : X → St → R) : I.placesWith_L3 n { n := 23, t := [(0, (.ro false (.ints .i64 x0))), (1, (.int .i64 x1)), (5, (.int .i64 s_.1)), (6, (.int .i64 s_.2))], h := [] } k = optC (I.placesWith_run3 x0 x1 n s_) (fun (r : Int) => k (.exit 0) { n := 23, t := [(5, (.int .i64 r))], h := [] }) none := by
  induction n generalizing s_ with
  | zero => rfl
  | succ n ih =>
    have hu : I.placesWith_L3 (n + 1) { n := 23, t := [(0, (.ro false (.ints .i64 x0))), (1, (.int .i64 x1)), (5, (.int .i64 s_.1)), (6, (.int .i64 s_.2))], h := [] } k = I.placesWith_step3 x0 x1 s_.1 s_.2 (fun s_ => I.placesWith_L3 n { n := 23, t := [(0, (.ro false (.ints .i64 x0))), (1, (.int .i64 x1)), (5, (.int .i64 s_.1)), (6, (.int .i64 s_.2))], h := [] } k) (fun d => k (.exit 0) { n := 23, t := [(5, (.int .i64 d))], h := [] }) none := by
      kernel_rfl
    have hs : (fun s_ : Int × Int => I.placesWith_L3 n { n := 23, t := [(0, (.ro false (.ints .i64 x0))), (1, (.int .i64 x1)), (5, (.int .i64 s_.1)), (6, (.int .i64 s_.2))], h := [] } k) = fun s_ => optC (I.placesWith_run3 x0 x1 n s_) (fun (r : Int) => k (.exit 0) { n := 23, t := [(5, (.int .i64 r))], h := [] }) none := funext ih
    rw [hu, hs]
    exact (I.placesWith_step3_nat (fun o => optC o (fun (r : Int) => k (.exit 0) { n := 23, t := [(5, (.int .i64 r))], h := [] }) none) x0 x1 s_.1 s_.2 (I.placesWith_run3 x0 x1 n) (fun d => some d) none).symm
noncomputable def I.placesWith_tree {α : Type} (row : List Int) (number : Int) (leaf0_ : Int → α) (fail_ : α) : α :=
  (optC (I.placesWith_run3 row number FUEL (0, 0)) (fun qy_2 => (leaf0_ qy_2)) fail_)
theorem I.placesWith_tree_nat {α γ : Type} (g : α → γ) (row : List Int) (number : Int) (leaf0_ : Int → α) (fail_ : α) : g (I.placesWith_tree row number leaf0_ fail_) = I.placesWith_tree row number (fun d => g (leaf0_ d)) (g fail_) := by
  unfold I.placesWith_tree; simp only [apply_cnd g, apply_optC g, apply_sumC g]
noncomputable def I.placesWith_t (row : List Int) (number : Int) : Option (Int) := I.placesWith_tree row number (fun d => some d) none
theorem I.placesWith_den (row : List Int) (number : Int) (κ : V → List E → R) : I.placesWith_F [.ro false (.ints .i64 row), .int .i64 number] [] κ = optC (I.placesWith_t row number) (fun (r : Int) => κ (.int .i64 r) []) none := by
  have hu : I.placesWith_F [.ro false (.ints .i64 row), .int .i64 number] [] κ = I.placesWith_tree row number (fun d => κ (.int .i64 d) []) none := by
    refine Eq.trans (show I.placesWith_F [.ro false (.ints .i64 row), .int .i64 number] [] κ = (I.placesWith_L3 FUEL { n := 23, t := [(0, (.ro false (.ints .i64 row))), (1, (.int .i64 number)), (5, (.int .i64 0)), (6, (.int .i64 0))], h := [] } (I.placesWith_k3 κ)) by kernel_rfl) ?_
    refine (I.placesWith_L3_run row number FUEL (0, 0) (I.placesWith_k3 κ)).trans (optC_congr (fun qy_2 => ?_))
    kernel_rfl
  rw [hu]
  exact (I.placesWith_tree_nat (fun o => optC o (fun (r : Int) => κ (.int .i64 r) []) none) row number (fun d => some d) none).symm
noncomputable def I.placesWith_s : D.Spec where
  keep := false
  pure := true
  add := true
  ds := [.int .i64, .invalid]
  sp := fun args h κ => match args, h with
    | [.ro false (.ints .i64 row), .int .i64 number], [] => optC (I.placesWith_t row number) (fun (r : Int) => κ (.int .i64 r) []) none
    | _, _ => none
theorem I.placesWith_ok : SpecOk Try.prog 66 I.placesWith_s := by
  refine SpecOk.of TDok mixed (T := I.placesWith_T) ?_ (ann := I.placesWith_ann) Try.func66 rfl (by decide +kernel) ?_ ?_ ?_ ?_
  · intro p hp
    simp only [I.placesWith_T, List.mem_cons, List.not_mem_nil, or_false] at hp
    rcases hp with rfl
    · exact I.with_ok
  · intro args h κ r hh
    simp only [I.placesWith_s] at hh
    split at hh
    · exact (I.placesWith_den _ _ κ).trans hh
    · cases hh
  · intro args h κ r hh
    simp only [I.placesWith_s] at hh ⊢
    split at hh
    · exact optC_law2 (F := fun (r : Int) κ => κ (.int .i64 r) []) (fun b κ r hb => ⟨_, _, hb, fun _ => rfl⟩) hh
    · cases hh
  · intro _ args h κ r hh
    simp only [I.placesWith_s] at hh
    split at hh
    · exact ⟨rfl, fun _ => rfl⟩
    · cases hh
  · intro _ args h κ r hh
    simp only [I.placesWith_s] at hh
    split at hh
    · rfl
    · cases hh

-- loop.example/guardsonnets/impl.rowWith
noncomputable def I.rowWith_T : List (Nat × D.Spec) := []
def I.rowWith_ann : Nat → List Nat × List Nat
  | _ => ([], [])
noncomputable def I.rowWith_F (args : List V) (h : List E) (κ : V → List E → R) : R := funC TD (tableK I.rowWith_T) I.rowWith_ann (drawOk TD (tableP I.rowWith_T)) FUEL Try.f67 args h κ
noncomputable def I.rowWith_tree {α : Type} (row : List Int) (number : Int) (leaf0_ : List Int → α) (fail_ : α) : α :=
  (bif small ([] ++ row).length then (bif small ([] ++ row ++ [number]).length then (leaf0_ ([] ++ row ++ [number])) else fail_) else fail_)
theorem I.rowWith_tree_nat {α γ : Type} (g : α → γ) (row : List Int) (number : Int) (leaf0_ : List Int → α) (fail_ : α) : g (I.rowWith_tree row number leaf0_ fail_) = I.rowWith_tree row number (fun d => g (leaf0_ d)) (g fail_) := by
  unfold I.rowWith_tree; simp only [apply_cnd g, apply_optC g, apply_sumC g]
noncomputable def I.rowWith_t (row : List Int) (number : Int) : Option (List Int) := I.rowWith_tree row number (fun d => some d) none
theorem I.rowWith_den (row : List Int) (number : Int) (κ : V → List E → R) : I.rowWith_F [.ro false (.ints .i64 row), .int .i64 number] [] κ = optC (I.rowWith_t row number) (fun (r : List Int) => κ (.own 0) [.row (.ints .i64 r)]) none := by
  have hu : I.rowWith_F [.ro false (.ints .i64 row), .int .i64 number] [] κ = I.rowWith_tree row number (fun d => κ (.own 0) [.row (.ints .i64 d)]) none := by
    kernel_rfl
  rw [hu]
  exact (I.rowWith_tree_nat (fun o => optC o (fun (r : List Int) => κ (.own 0) [.row (.ints .i64 r)]) none) row number (fun d => some d) none).symm
noncomputable def I.rowWith_s : D.Spec where
  keep := false
  pure := false
  add := true
  ds := [.int .i64, .invalid]
  sp := fun args h κ => match args, h with
    | [.ro false (.ints .i64 row), .int .i64 number], [] => optC (I.rowWith_t row number) (fun (r : List Int) => κ (.own 0) [.row (.ints .i64 r)]) none
    | _, _ => none
theorem I.rowWith_ok : SpecOk Try.prog 67 I.rowWith_s := by
  refine SpecOk.of TDok mixed (T := I.rowWith_T) ?_ (ann := I.rowWith_ann) Try.func67 rfl (by decide +kernel) ?_ ?_ ?_ ?_
  · intro p hp; cases hp
  · intro args h κ r hh
    simp only [I.rowWith_s] at hh
    split at hh
    · exact (I.rowWith_den _ _ κ).trans hh
    · cases hh
  · intro args h κ r hh
    simp only [I.rowWith_s] at hh ⊢
    split at hh
    · exact optC_law2 (F := fun (r : List Int) κ => κ (.own 0) [.row (.ints .i64 r)]) (fun b κ r hb => ⟨_, _, hb, fun _ => rfl⟩) hh
    · cases hh
  · intro hh; cases hh
  · intro _ args h κ r hh
    simp only [I.rowWith_s] at hh
    split at hh
    · rfl
    · cases hh

-- loop.example/guardsonnets/impl.cliquesFrom
class I.cliquesFrom_r_R where
  r : (List Int) → (List Int) → Int → Option ((List Int) ⊕ ((List Int) × (List Int)))
section
variable [c_ : I.cliquesFrom_r_R]
noncomputable def I.cliquesFrom_r0_t (net : List Int) (row : List Int) (most : Int) : Option ((List Int) ⊕ ((List Int) × (List Int))) := I.cliquesFrom_r_R.r net row most
noncomputable def I.cliquesFrom_r0_s : D.Spec where
  keep := false
  pure := false
  add := false
  ds := [.int .i64, .pointer 0, .invalid]
  sp := fun args h κ => match args, h with
    | [.ro false (.ints .i64 net), .own 0, .int .i64 most], [.row (.ints .i64 row)] => optC (I.cliquesFrom_r0_t net row most) (fun (r : (List Int) ⊕ ((List Int) × (List Int))) => sumC r (fun (r : List Int) => κ (.own 0) [.row (.ints .i64 r)]) (fun (r : (List Int) × (List Int)) => κ (.own 1) [.row (.ints .i64 r.1), .row (.ints .i64 r.2)])) none
    | _, _ => none
end
section
variable [c_ : I.cliquesFrom_r_R]
noncomputable def I.cliquesFrom_r_T : List (Nat × D.Spec) := [(27, I.numbersOf_s), (66, I.placesWith_s), (67, I.rowWith_s), (49, I.cliquesFrom_r0_s)]
def I.cliquesFrom_r_ann : Nat → List Nat × List Nat
  | 5 => ([0, 1, 2, 7, 8], [6])
  | _ => ([], [])
noncomputable def I.cliquesFrom_r_F (args : List V) (h : List E) (κ : V → List E → R) : R := funC TD (tableK I.cliquesFrom_r_T) I.cliquesFrom_r_ann (drawOk TD (tableP I.cliquesFrom_r_T)) FUEL Try.f49 args h κ
noncomputable def I.cliquesFrom_r_L5 (n : Nat) (σ : St) (k : X → St → R) : R := iterC 1 (fun σ k => denC TD (tableK I.cliquesFrom_r_T) I.cliquesFrom_r_ann (drawOk TD (tableP I.cliquesFrom_r_T)) 1 FUEL ((findLoop 5 (Try.f49.body.getD .skip)).getD .skip) σ k) [0, 1, 2, 7, 8] [6] n σ k
end
section
variable [c_ : I.cliquesFrom_r_R]
noncomputable def I.cliquesFrom_r_k5 (κ : V → List E → R) : X → St → R := (afterC TD (tableK I.cliquesFrom_r_T) I.cliquesFrom_r_ann (drawOk TD (tableP I.cliquesFrom_r_T)) 1 FUEL 5 (Try.f49.body.getD .skip) (finC TD 1 Try.f49 κ)).getD (fun _ _ => none)
noncomputable def I.cliquesFrom_r_step5 {α : Type} (x0 : List Int) (x2 : Int) (x7 : Int) (x8 : Int) (r0 : List Int) (next_ : Int × (List Int) → α) (out0_ : (List Int) × (List Int) → α) (out1_ : List Int → α) (fail_ : α) : α :=
  (optC (I.numbersOf_t r0) (fun c_1 => (bif decide (x8 ≤ c_1) then (bif decide (x8 < x2) then (optC (I.placesWith_t r0 x8) (fun c_2 => (bif decide (0 ≤ x7) && decide (x7 < (↑x0.length : Int)) then (bif !bits BinOp.andNot IntKind.i64 c_2 (eli x0 x7.toNat) == 0 then (next_ (IntKind.i64.wrap (x8 + 1), r0)) else (optC (I.rowWith_t r0 x8) (fun c_3 => (optC (I.cliquesFrom_r0_t x0 c_3 x2) (fun c_4 => (sumC c_4 (fun c_5 => (bif decide ((↑c_5.length : Int) > 0) then (out0_ (r0, c_5)) else (next_ (IntKind.i64.wrap (x8 + 1), r0)))) (fun c_5 => (bif decide ((↑c_5.snd.length : Int) > 0) then (out0_ (r0, c_5.snd)) else (next_ (IntKind.i64.wrap (x8 + 1), r0)))))) fail_)) fail_)) else fail_)) fail_) else (out1_ r0)) else (out1_ r0))) fail_)
theorem I.cliquesFrom_r_step5_nat {α γ : Type} (g : α → γ) (x0 : List Int) (x2 : Int) (x7 : Int) (x8 : Int) (r0 : List Int) (next_ : Int × (List Int) → α) (out0_ : (List Int) × (List Int) → α) (out1_ : List Int → α) (fail_ : α) : g (I.cliquesFrom_r_step5 x0 x2 x7 x8 r0 next_ out0_ out1_ fail_) = I.cliquesFrom_r_step5 x0 x2 x7 x8 r0 (fun s => g (next_ s)) (fun d => g (out0_ d)) (fun d => g (out1_ d)) (g fail_) := by
  unfold I.cliquesFrom_r_step5; simp only [apply_cnd g, apply_optC g, apply_sumC g]
noncomputable def I.cliquesFrom_r_run5 (x0 : List Int) (x2 : Int) (x7 : Int) : Nat → Int × (List Int) → Option (((List Int) × (List Int)) ⊕ (List Int))
  | 0, _ => none
  | n + 1, s_ => I.cliquesFrom_r_step5 x0 x2 x7 s_.1 s_.2 (I.cliquesFrom_r_run5 x0 x2 x7 n) (fun d => some ((Sum.inl d))) (fun d => some ((Sum.inr d))) none
theorem I.cliquesFrom_r_L5_run (x0 : List Int) (x2 : Int) (x7 : Int) (n : Nat) (s_ : Int × (List Int)) (k : X → St → R) : I.cliquesFrom_r_L5 n { n := 47, t := [(0, (.ro false (.ints .i64 x0))), (1, (.own 0)), (2, (.int .i64 x2)), (7, (.int .i64 x7)), (8, (.int .i64 s_.1))], h := [.row (.ints .i64 s_.2)] } k = optC (I.cliquesFrom_r_run5 x0 x2 x7 n s_) (fun (r : ((List Int) × (List Int)) ⊕ (List Int)) => (sumC r (fun (r : (List Int) × (List Int)) => k (.ret) { n := 47, t := [(6, (.own 1))], h := [.row (.ints .i64 r.1), .row (.ints .i64 r.2)] }) (fun (r : List Int) => k (.exit 0) { n := 47, t := [(6, .junk)], h := [.row (.ints .i64 r)] }))) none := by
  induction n generalizing s_ with
  | zero => rfl
  | succ n ih =>
    have hu : I.cliquesFrom_r_L5 (n + 1) { n := 47, t := [(0, (.ro false (.ints .i64 x0))), (1, (.own 0)), (2, (.int .i64 x2)), (7, (.int .i64 x7)), (8, (.int .i64 s_.1))], h := [.row (.ints .i64 s_.2)] } k = I.cliquesFrom_r_step5 x0 x2 x7 s_.1 s_.2 (fun s_ => I.cliquesFrom_r_L5 n { n := 47, t := [(0, (.ro false (.ints .i64 x0))), (1, (.own 0)), (2, (.int .i64 x2)), (7, (.int .i64 x7)), (8, (.int .i64 s_.1))], h := [.row (.ints .i64 s_.2)] } k) (fun d => k (.ret) { n := 47, t := [(6, (.own 1))], h := [.row (.ints .i64 d.1), .row (.ints .i64 d.2)] }) (fun d => k (.exit 0) { n := 47, t := [(6, .junk)], h := [.row (.ints .i64 d)] }) none := by
      kernel_rfl
    have hs : (fun s_ : Int × (List Int) => I.cliquesFrom_r_L5 n { n := 47, t := [(0, (.ro false (.ints .i64 x0))), (1, (.own 0)), (2, (.int .i64 x2)), (7, (.int .i64 x7)), (8, (.int .i64 s_.1))], h := [.row (.ints .i64 s_.2)] } k) = fun s_ => optC (I.cliquesFrom_r_run5 x0 x2 x7 n s_) (fun (r : ((List Int) × (List Int)) ⊕ (List Int)) => (sumC r (fun (r : (List Int) × (List Int)) => k (.ret) { n := 47, t := [(6, (.own 1))], h := [.row (.ints .i64 r.1), .row (.ints .i64 r.2)] }) (fun (r : List Int) => k (.exit 0) { n := 47, t := [(6, .junk)], h := [.row (.ints .i64 r)] }))) none := funext ih
    rw [hu, hs]
    exact (I.cliquesFrom_r_step5_nat (fun o => optC o (fun (r : ((List Int) × (List Int)) ⊕ (List Int)) => (sumC r (fun (r : (List Int) × (List Int)) => k (.ret) { n := 47, t := [(6, (.own 1))], h := [.row (.ints .i64 r.1), .row (.ints .i64 r.2)] }) (fun (r : List Int) => k (.exit 0) { n := 47, t := [(6, .junk)], h := [.row (.ints .i64 r)] }))) none) x0 x2 x7 s_.1 s_.2 (I.cliquesFrom_r_run5 x0 x2 x7 n) (fun d => some ((Sum.inl d))) (fun d => some ((Sum.inr d))) none).symm
noncomputable def I.cliquesFrom_r_tree {α : Type} (net : List Int) (row : List Int) (most : Int) (leaf0_ : List Int → α) (leaf1_ : (List Int) × (List Int) → α) (fail_ : α) : α :=
  (bif (↑row.length : Int) == (↑net.length : Int) then (leaf0_ row) else (optC (I.cliquesFrom_r_run5 net most ((↑row.length : Int)) FUEL (0, row)) (fun qy_6 => (sumC qy_6 (fun (qy_6 : (List Int) × (List Int)) => (leaf1_ (qy_6.1, qy_6.2))) (fun (qy_6 : List Int) => (leaf1_ (qy_6, []))))) fail_))
theorem I.cliquesFrom_r_tree_nat {α γ : Type} (g : α → γ) (net : List Int) (row : List Int) (most : Int) (leaf0_ : List Int → α) (leaf1_ : (List Int) × (List Int) → α) (fail_ : α) : g (I.cliquesFrom_r_tree net row most leaf0_ leaf1_ fail_) = I.cliquesFrom_r_tree net row most (fun d => g (leaf0_ d)) (fun d => g (leaf1_ d)) (g fail_) := by
  unfold I.cliquesFrom_r_tree; simp only [apply_cnd g, apply_optC g, apply_sumC g]
noncomputable def I.cliquesFrom_r_t (net : List Int) (row : List Int) (most : Int) : Option ((List Int) ⊕ ((List Int) × (List Int))) := I.cliquesFrom_r_tree net row most (fun d => some ((Sum.inl d))) (fun d => some ((Sum.inr d))) none
theorem I.cliquesFrom_r_den (net : List Int) (row : List Int) (most : Int) (κ : V → List E → R) : I.cliquesFrom_r_F [.ro false (.ints .i64 net), .own 0, .int .i64 most] [.row (.ints .i64 row)] κ = optC (I.cliquesFrom_r_t net row most) (fun (r : (List Int) ⊕ ((List Int) × (List Int))) => (sumC r (fun (r : List Int) => κ (.own 0) [.row (.ints .i64 r)]) (fun (r : (List Int) × (List Int)) => κ (.own 1) [.row (.ints .i64 r.1), .row (.ints .i64 r.2)]))) none := by
  have hu : I.cliquesFrom_r_F [.ro false (.ints .i64 net), .own 0, .int .i64 most] [.row (.ints .i64 row)] κ = I.cliquesFrom_r_tree net row most (fun d => κ (.own 0) [.row (.ints .i64 d)]) (fun d => κ (.own 1) [.row (.ints .i64 d.1), .row (.ints .i64 d.2)]) none := by
    refine Eq.trans (show I.cliquesFrom_r_F [.ro false (.ints .i64 net), .own 0, .int .i64 most] [.row (.ints .i64 row)] κ = (bif (↑row.length : Int) == (↑net.length : Int) then (κ (.own 0) [.row (.ints .i64 row)]) else (I.cliquesFrom_r_L5 FUEL { n := 47, t := [(0, (.ro false (.ints .i64 net))), (1, (.own 0)), (2, (.int .i64 most)), (7, (.int .i64 ((↑row.length : Int)))), (8, (.int .i64 0))], h := [.row (.ints .i64 row)] } (I.cliquesFrom_r_k5 κ))) by kernel_rfl) ?_
    refine cnd_congr ?_ ?_
    · kernel_rfl
    · refine (I.cliquesFrom_r_L5_run net most ((↑row.length : Int)) FUEL (0, row) (I.cliquesFrom_r_k5 κ)).trans (optC_congr (fun qy_6 => ?_))
      rcases qy_6 with qy_6 | qy_6
      · kernel_rfl
      · kernel_rfl
  rw [hu]
  exact (I.cliquesFrom_r_tree_nat (fun o => optC o (fun (r : (List Int) ⊕ ((List Int) × (List Int))) => (sumC r (fun (r : List Int) => κ (.own 0) [.row (.ints .i64 r)]) (fun (r : (List Int) × (List Int)) => κ (.own 1) [.row (.ints .i64 r.1), .row (.ints .i64 r.2)]))) none) net row most (fun d => some ((Sum.inl d))) (fun d => some ((Sum.inr d))) none).symm
noncomputable def I.cliquesFrom_r_s : D.Spec where
  keep := false
  pure := false
  add := false
  ds := [.int .i64, .pointer 0, .invalid]
  sp := fun args h κ => match args, h with
    | [.ro false (.ints .i64 net), .own 0, .int .i64 most], [.row (.ints .i64 row)] => optC (I.cliquesFrom_r_t net row most) (fun (r : (List Int) ⊕ ((List Int) × (List Int))) => (sumC r (fun (r : List Int) => κ (.own 0) [.row (.ints .i64 r)]) (fun (r : (List Int) × (List Int)) => κ (.own 1) [.row (.ints .i64 r.1), .row (.ints .i64 r.2)]))) none
    | _, _ => none
theorem I.cliquesFrom_r_ok (hrec_ : SpecOk Try.prog 49 I.cliquesFrom_r0_s) : SpecOk Try.prog 49 I.cliquesFrom_r_s := by
  refine SpecOk.of TDok mixed (T := I.cliquesFrom_r_T) ?_ (ann := I.cliquesFrom_r_ann) Try.func49 rfl (by decide +kernel) ?_ ?_ ?_ ?_
  · intro p hp
    simp only [I.cliquesFrom_r_T, List.mem_cons, List.not_mem_nil, or_false] at hp
    rcases hp with rfl | rfl | rfl | rfl
    · exact I.numbersOf_ok
    · exact I.placesWith_ok
    · exact I.rowWith_ok
    · exact hrec_
  · intro args h κ r hh
    simp only [I.cliquesFrom_r_s] at hh
    split at hh
    · exact (I.cliquesFrom_r_den _ _ _ κ).trans hh
    · cases hh
  · intro args h κ r hh
    simp only [I.cliquesFrom_r_s] at hh ⊢
    split at hh
    · exact optC_law2 (F := fun (r : (List Int) ⊕ ((List Int) × (List Int))) κ => (sumC r (fun (r : List Int) => κ (.own 0) [.row (.ints .i64 r)]) (fun (r : (List Int) × (List Int)) => κ (.own 1) [.row (.ints .i64 r.1), .row (.ints .i64 r.2)]))) (fun b κ r hb => by rcases b with b | b <;> exact ⟨_, _, hb, fun _ => rfl⟩) hh
    · cases hh
  · intro hh; cases hh
  · intro hh; cases hh
end
noncomputable def I.cliquesFrom_td : Nat → (List Int) → (List Int) → Int → Option ((List Int) ⊕ ((List Int) × (List Int)))
  | 0 => fun _ _ _ => none
  | d + 1 => @I.cliquesFrom_r_t ⟨I.cliquesFrom_td d⟩
noncomputable def I.cliquesFrom_t (net : List Int) (row : List Int) (most : Int) : Option ((List Int) ⊕ ((List Int) × (List Int))) := I.cliquesFrom_td FUEL net row most
noncomputable def I.cliquesFrom_s : D.Spec where
  keep := false
  pure := false
  add := false
  ds := [.int .i64, .pointer 0, .invalid]
  sp := fun args h κ => match args, h with
    | [.ro false (.ints .i64 net), .own 0, .int .i64 most], [.row (.ints .i64 row)] => optC (I.cliquesFrom_t net row most) (fun (r : (List Int) ⊕ ((List Int) × (List Int))) => sumC r (fun (r : List Int) => κ (.own 0) [.row (.ints .i64 r)]) (fun (r : (List Int) × (List Int)) => κ (.own 1) [.row (.ints .i64 r.1), .row (.ints .i64 r.2)])) none
    | _, _ => none
theorem I.cliquesFrom_okd : ∀ d : Nat, SpecOk Try.prog 49 (@I.cliquesFrom_r0_s ⟨I.cliquesFrom_td d⟩)
  | 0 => SpecOk.zero Try.func49 rfl (by decide +kernel) (fun args h κ => by
      simp only [I.cliquesFrom_r0_s]
      split
      · rfl
      · rfl)
  | d + 1 => @I.cliquesFrom_r_ok ⟨I.cliquesFrom_td d⟩ (I.cliquesFrom_okd d)
theorem I.cliquesFrom_ok : SpecOk Try.prog 49 I.cliquesFrom_s := I.cliquesFrom_okd FUEL

-- loop.example/guardsonnets/impl.cliqueRowIn
noncomputable def I.cliqueRowIn_T : List (Nat × D.Spec) := [(49, I.cliquesFrom_s)]
def I.cliqueRowIn_ann : Nat → List Nat × List Nat
  | 2 => ([0, 3], [0, 2])
  | _ => ([], [])
noncomputable def I.cliqueRowIn_F (args : List V) (h : List E) (κ : V → List E → R) : R := funC TD (tableK I.cliqueRowIn_T) I.cliqueRowIn_ann (drawOk TD (tableP I.cliqueRowIn_T)) FUEL Try.f28 args h κ
noncomputable def I.cliqueRowIn_L2 (n : Nat) (σ : St) (k : X → St → R) : R := iterC 0 (fun σ k => denC TD (tableK I.cliqueRowIn_T) I.cliqueRowIn_ann (drawOk TD (tableP I.cliqueRowIn_T)) 0 FUEL ((findLoop 2 (Try.f28.body.getD .skip)).getD .skip) σ k) [0, 3] [0, 2] n σ k
noncomputable def I.cliqueRowIn_k2 (κ : V → List E → R) : X → St → R := (afterC TD (tableK I.cliqueRowIn_T) I.cliqueRowIn_ann (drawOk TD (tableP I.cliqueRowIn_T)) 0 FUEL 2 (Try.f28.body.getD .skip) (finC TD 0 Try.f28 κ)).getD (fun _ _ => none)
noncomputable def I.cliqueRowIn_step2 {α : Type} (x0 : List Int) (x3 : Int) (next_ : Int → α) (out0_ : List Int → α) (out1_ : Unit → α) (fail_ : α) : α :=
  (bif decide (x3 < (↑x0.length : Int)) then (optC (I.cliquesFrom_t x0 [] x3) (fun c_1 => (sumC c_1 (fun c_2 => (bif decide ((↑c_2.length : Int) > 0) then (out0_ c_2) else (next_ (IntKind.i64.wrap (x3 + 1))))) (fun c_2 => (bif decide ((↑c_2.snd.length : Int) > 0) then (out0_ c_2.snd) else (next_ (IntKind.i64.wrap (x3 + 1))))))) fail_) else (out1_ ()))
theorem I.cliqueRowIn_step2_nat {α γ : Type} (g : α → γ) (x0 : List Int) (x3 : Int) (next_ : Int → α) (out0_ : List Int → α) (out1_ : Unit → α) (fail_ : α) : g (I.cliqueRowIn_step2 x0 x3 next_ out0_ out1_ fail_) = I.cliqueRowIn_step2 x0 x3 (fun s => g (next_ s)) (fun d => g (out0_ d)) (fun d => g (out1_ d)) (g fail_) := by
  unfold I.cliqueRowIn_step2; simp only [apply_cnd g, apply_optC g, apply_sumC g]
noncomputable def I.cliqueRowIn_run2 (x0 : List Int) : Nat → Int → Option ((List Int) ⊕ (Unit))
  | 0, _ => none
  | n + 1, s_ => I.cliqueRowIn_step2 x0 s_ (I.cliqueRowIn_run2 x0 n) (fun d => some ((Sum.inl d))) (fun d => some ((Sum.inr d))) none
theorem I.cliqueRowIn_L2_run (x0 : List Int) (n : Nat) (s_ : Int) (k : X → St → R) : I.cliqueRowIn_L2 n { n := 24, t := [(0, (.ro false (.ints .i64 x0))), (3, (.int .i64 s_))], h := [] } k = optC (I.cliqueRowIn_run2 x0 n s_) (fun (r : (List Int) ⊕ (Unit)) => (sumC r (fun (r : List Int) => k (.ret) { n := 24, t := [(0, (.ro false (.ints .i64 x0))), (2, (.own 0))], h := [.row (.ints .i64 r)] }) (fun (r : Unit) => k (.exit 0) { n := 24, t := [(0, (.ro false (.ints .i64 x0))), (2, .junk)], h := [] }))) none := by
  induction n generalizing s_ with
  | zero => rfl
  | succ n ih =>
    have hu : I.cliqueRowIn_L2 (n + 1) { n := 24, t := [(0, (.ro false (.ints .i64 x0))), (3, (.int .i64 s_))], h := [] } k = I.cliqueRowIn_step2 x0 s_ (fun s_ => I.cliqueRowIn_L2 n { n := 24, t := [(0, (.ro false (.ints .i64 x0))), (3, (.int .i64 s_))], h := [] } k) (fun d => k (.ret) { n := 24, t := [(0, (.ro false (.ints .i64 x0))), (2, (.own 0))], h := [.row (.ints .i64 d)] }) (fun d => k (.exit 0) { n := 24, t := [(0, (.ro false (.ints .i64 x0))), (2, .junk)], h := [] }) none := by
      kernel_rfl
    have hs : (fun s_ : Int => I.cliqueRowIn_L2 n { n := 24, t := [(0, (.ro false (.ints .i64 x0))), (3, (.int .i64 s_))], h := [] } k) = fun s_ => optC (I.cliqueRowIn_run2 x0 n s_) (fun (r : (List Int) ⊕ (Unit)) => (sumC r (fun (r : List Int) => k (.ret) { n := 24, t := [(0, (.ro false (.ints .i64 x0))), (2, (.own 0))], h := [.row (.ints .i64 r)] }) (fun (r : Unit) => k (.exit 0) { n := 24, t := [(0, (.ro false (.ints .i64 x0))), (2, .junk)], h := [] }))) none := funext ih
    rw [hu, hs]
    exact (I.cliqueRowIn_step2_nat (fun o => optC o (fun (r : (List Int) ⊕ (Unit)) => (sumC r (fun (r : List Int) => k (.ret) { n := 24, t := [(0, (.ro false (.ints .i64 x0))), (2, (.own 0))], h := [.row (.ints .i64 r)] }) (fun (r : Unit) => k (.exit 0) { n := 24, t := [(0, (.ro false (.ints .i64 x0))), (2, .junk)], h := [] }))) none) x0 s_ (I.cliqueRowIn_run2 x0 n) (fun d => some ((Sum.inl d))) (fun d => some ((Sum.inr d))) none).symm
noncomputable def I.cliqueRowIn_tree {α : Type} (net : List Int) (leaf0_ : List Int → α) (fail_ : α) : α :=
  (optC (I.cliqueRowIn_run2 net FUEL 1) (fun qy_3 => (sumC qy_3 (fun (qy_3 : List Int) => (leaf0_ qy_3)) (fun (qy_3 : Unit) => (optC (I.cliquesFrom_t net [] (↑net.length : Int)) (fun c_4 => (sumC c_4 (fun c_5 => (leaf0_ c_5)) (fun c_5 => (leaf0_ c_5.snd)))) fail_)))) fail_)
theorem I.cliqueRowIn_tree_nat {α γ : Type} (g : α → γ) (net : List Int) (leaf0_ : List Int → α) (fail_ : α) : g (I.cliqueRowIn_tree net leaf0_ fail_) = I.cliqueRowIn_tree net (fun d => g (leaf0_ d)) (g fail_) := by
  unfold I.cliqueRowIn_tree; simp only [apply_cnd g, apply_optC g, apply_sumC g]
noncomputable def I.cliqueRowIn_t (net : List Int) : Option (List Int) := I.cliqueRowIn_tree net (fun d => some d) none
theorem I.cliqueRowIn_den (net : List Int) (κ : V → List E → R) : I.cliqueRowIn_F [.ro false (.ints .i64 net)] [] κ = optC (I.cliqueRowIn_t net) (fun (r : List Int) => κ (.own 0) [.row (.ints .i64 r)]) none := by
  have hu : I.cliqueRowIn_F [.ro false (.ints .i64 net)] [] κ = I.cliqueRowIn_tree net (fun d => κ (.own 0) [.row (.ints .i64 d)]) none := by
    refine Eq.trans (show I.cliqueRowIn_F [.ro false (.ints .i64 net)] [] κ = (I.cliqueRowIn_L2 FUEL { n := 24, t := [(0, (.ro false (.ints .i64 net))), (3, (.int .i64 1))], h := [] } (I.cliqueRowIn_k2 κ)) by kernel_rfl) ?_
    refine (I.cliqueRowIn_L2_run net FUEL 1 (I.cliqueRowIn_k2 κ)).trans (optC_congr (fun qy_3 => ?_))
    rcases qy_3 with qy_3 | qy_3
    · kernel_rfl
    · kernel_rfl
  rw [hu]
  exact (I.cliqueRowIn_tree_nat (fun o => optC o (fun (r : List Int) => κ (.own 0) [.row (.ints .i64 r)]) none) net (fun d => some d) none).symm
noncomputable def I.cliqueRowIn_s : D.Spec where
  keep := false
  pure := false
  add := true
  ds := [.int .i64]
  sp := fun args h κ => match args, h with
    | [.ro false (.ints .i64 net)], [] => optC (I.cliqueRowIn_t net) (fun (r : List Int) => κ (.own 0) [.row (.ints .i64 r)]) none
    | _, _ => none
theorem I.cliqueRowIn_ok : SpecOk Try.prog 28 I.cliqueRowIn_s := by
  refine SpecOk.of TDok mixed (T := I.cliqueRowIn_T) ?_ (ann := I.cliqueRowIn_ann) Try.func28 rfl (by decide +kernel) ?_ ?_ ?_ ?_
  · intro p hp
    simp only [I.cliqueRowIn_T, List.mem_cons, List.not_mem_nil, or_false] at hp
    rcases hp with rfl
    · exact I.cliquesFrom_ok
  · intro args h κ r hh
    simp only [I.cliqueRowIn_s] at hh
    split at hh
    · exact (I.cliqueRowIn_den _ κ).trans hh
    · cases hh
  · intro args h κ r hh
    simp only [I.cliqueRowIn_s] at hh ⊢
    split at hh
    · exact optC_law2 (F := fun (r : List Int) κ => κ (.own 0) [.row (.ints .i64 r)]) (fun b κ r hb => ⟨_, _, hb, fun _ => rfl⟩) hh
    · cases hh
  · intro hh; cases hh
  · intro _ args h κ r hh
    simp only [I.cliqueRowIn_s] at hh
    split at hh
    · rfl
    · cases hh

-- loop.example/guardsonnets/impl.FewestCliques
noncomputable def I.FewestCliques_T : List (Nat × D.Spec) := [(10, I.NetOk_s), (28, I.cliqueRowIn_s), (27, I.numbersOf_s)]
def I.FewestCliques_ann : Nat → List Nat × List Nat
  | _ => ([], [])
noncomputable def I.FewestCliques_F (args : List V) (h : List E) (κ : V → List E → R) : R := funC TD (tableK I.FewestCliques_T) I.FewestCliques_ann (drawOk TD (tableP I.FewestCliques_T)) FUEL Try.f8 args h κ
noncomputable def I.FewestCliques_tree {α : Type} (net : List Int) (leaf0_ : Int → α) (fail_ : α) : α :=
  (optC (I.NetOk_t net) (fun c_1 => (bif !c_1 then (leaf0_ (-1)) else (optC (I.cliqueRowIn_t net) (fun c_2 => (optC (I.numbersOf_t c_2) (fun c_3 => (leaf0_ c_3)) fail_)) fail_))) fail_)
theorem I.FewestCliques_tree_nat {α γ : Type} (g : α → γ) (net : List Int) (leaf0_ : Int → α) (fail_ : α) : g (I.FewestCliques_tree net leaf0_ fail_) = I.FewestCliques_tree net (fun d => g (leaf0_ d)) (g fail_) := by
  unfold I.FewestCliques_tree; simp only [apply_cnd g, apply_optC g, apply_sumC g]
noncomputable def I.FewestCliques_t (net : List Int) : Option (Int) := I.FewestCliques_tree net (fun d => some d) none
theorem I.FewestCliques_den (net : List Int) (κ : V → List E → R) : I.FewestCliques_F [.ro false (.ints .i64 net)] [] κ = optC (I.FewestCliques_t net) (fun (r : Int) => κ (.int .i64 r) []) none := by
  have hu : I.FewestCliques_F [.ro false (.ints .i64 net)] [] κ = I.FewestCliques_tree net (fun d => κ (.int .i64 d) []) none := by
    kernel_rfl
  rw [hu]
  exact (I.FewestCliques_tree_nat (fun o => optC o (fun (r : Int) => κ (.int .i64 r) []) none) net (fun d => some d) none).symm
noncomputable def I.FewestCliques_s : D.Spec where
  keep := false
  pure := true
  add := true
  ds := [.int .i64]
  sp := fun args h κ => match args, h with
    | [.ro false (.ints .i64 net)], [] => optC (I.FewestCliques_t net) (fun (r : Int) => κ (.int .i64 r) []) none
    | _, _ => none
theorem I.FewestCliques_ok : SpecOk Try.prog 8 I.FewestCliques_s := by
  refine SpecOk.of TDok mixed (T := I.FewestCliques_T) ?_ (ann := I.FewestCliques_ann) Try.func8 rfl (by decide +kernel) ?_ ?_ ?_ ?_
  · intro p hp
    simp only [I.FewestCliques_T, List.mem_cons, List.not_mem_nil, or_false] at hp
    rcases hp with rfl | rfl | rfl
    · exact I.NetOk_ok
    · exact I.cliqueRowIn_ok
    · exact I.numbersOf_ok
  · intro args h κ r hh
    simp only [I.FewestCliques_s] at hh
    split at hh
    · exact (I.FewestCliques_den _ κ).trans hh
    · cases hh
  · intro args h κ r hh
    simp only [I.FewestCliques_s] at hh ⊢
    split at hh
    · exact optC_law2 (F := fun (r : Int) κ => κ (.int .i64 r) []) (fun b κ r hb => ⟨_, _, hb, fun _ => rfl⟩) hh
    · cases hh
  · intro _ args h κ r hh
    simp only [I.FewestCliques_s] at hh
    split at hh
    · exact ⟨rfl, fun _ => rfl⟩
    · cases hh
  · intro _ args h κ r hh
    simp only [I.FewestCliques_s] at hh
    split at hh
    · rfl
    · cases hh

-- loop.example/guardsonnets/spec.l1In
noncomputable def S.l1In_T : List (Nat × D.Spec) := []
def S.l1In_ann : Nat → List Nat × List Nat
  | _ => ([], [])
noncomputable def S.l1In_F (args : List V) (h : List E) (κ : V → List E → R) : R := funC TD (tableK S.l1In_T) S.l1In_ann (drawOk TD (tableP S.l1In_T)) FUEL Try.f50 args h κ
noncomputable def S.l1In_tree {α : Type} (n_ : Int) (low : Int) (high : Int) (leaf0_ : Bool → α) (fail_ : α) : α :=
  (bif decide (n_ ≥ low) then (leaf0_ (decide (n_ ≤ high))) else (leaf0_ false))
theorem S.l1In_tree_nat {α γ : Type} (g : α → γ) (n_ : Int) (low : Int) (high : Int) (leaf0_ : Bool → α) (fail_ : α) : g (S.l1In_tree n_ low high leaf0_ fail_) = S.l1In_tree n_ low high (fun d => g (leaf0_ d)) (g fail_) := by
  unfold S.l1In_tree; simp only [apply_cnd g, apply_optC g, apply_sumC g]
noncomputable def S.l1In_t (n_ : Int) (low : Int) (high : Int) : Option (Bool) := S.l1In_tree n_ low high (fun d => some d) none
theorem S.l1In_den (n_ : Int) (low : Int) (high : Int) (κ : V → List E → R) : S.l1In_F [.int .i64 n_, .int .i64 low, .int .i64 high] [] κ = optC (S.l1In_t n_ low high) (fun (r : Bool) => κ (.bool r) []) none := by
  have hu : S.l1In_F [.int .i64 n_, .int .i64 low, .int .i64 high] [] κ = S.l1In_tree n_ low high (fun d => κ (.bool d) []) none := by
    kernel_rfl
  rw [hu]
  exact (S.l1In_tree_nat (fun o => optC o (fun (r : Bool) => κ (.bool r) []) none) n_ low high (fun d => some d) none).symm
noncomputable def S.l1In_s : D.Spec where
  keep := false
  pure := true
  add := true
  ds := [.invalid, .invalid, .invalid]
  sp := fun args h κ => match args, h with
    | [.int .i64 n_, .int .i64 low, .int .i64 high], [] => optC (S.l1In_t n_ low high) (fun (r : Bool) => κ (.bool r) []) none
    | _, _ => none
theorem S.l1In_ok : SpecOk Try.prog 50 S.l1In_s := by
  refine SpecOk.of TDok mixed (T := S.l1In_T) ?_ (ann := S.l1In_ann) Try.func50 rfl (by decide +kernel) ?_ ?_ ?_ ?_
  · intro p hp; cases hp
  · intro args h κ r hh
    simp only [S.l1In_s] at hh
    split at hh
    · exact (S.l1In_den _ _ _ κ).trans hh
    · cases hh
  · intro args h κ r hh
    simp only [S.l1In_s] at hh ⊢
    split at hh
    · exact optC_law2 (F := fun (r : Bool) κ => κ (.bool r) []) (fun b κ r hb => ⟨_, _, hb, fun _ => rfl⟩) hh
    · cases hh
  · intro _ args h κ r hh
    simp only [S.l1In_s] at hh
    split at hh
    · exact ⟨rfl, fun _ => rfl⟩
    · cases hh
  · intro _ args h κ r hh
    simp only [S.l1In_s] at hh
    split at hh
    · rfl
    · cases hh

-- loop.example/guardsonnets/spec.NetOk
noncomputable def S.NetOk_T : List (Nat × D.Spec) := [(50, S.l1In_s)]
def S.NetOk_ann : Nat → List Nat × List Nat
  | 12 => ([0, 4, 5], [0, 2, 4])
  | 9 => ([0, 4], [2])
  | 4 => ([0, 3], [0, 2])
  | _ => ([], [])
noncomputable def S.NetOk_F (args : List V) (h : List E) (κ : V → List E → R) : R := funC TD (tableK S.NetOk_T) S.NetOk_ann (drawOk TD (tableP S.NetOk_T)) FUEL Try.f29 args h κ
noncomputable def S.NetOk_L12 (n : Nat) (σ : St) (k : X → St → R) : R := iterC 0 (fun σ k => denC TD (tableK S.NetOk_T) S.NetOk_ann (drawOk TD (tableP S.NetOk_T)) 0 FUEL ((findLoop 12 (Try.f29.body.getD .skip)).getD .skip) σ k) [0, 4, 5] [0, 2, 4] n σ k
noncomputable def S.NetOk_L9 (n : Nat) (σ : St) (k : X → St → R) : R := iterC 0 (fun σ k => denC TD (tableK S.NetOk_T) S.NetOk_ann (drawOk TD (tableP S.NetOk_T)) 0 FUEL ((findLoop 9 (Try.f29.body.getD .skip)).getD .skip) σ k) [0, 4] [2] n σ k
noncomputable def S.NetOk_L4 (n : Nat) (σ : St) (k : X → St → R) : R := iterC 0 (fun σ k => denC TD (tableK S.NetOk_T) S.NetOk_ann (drawOk TD (tableP S.NetOk_T)) 0 FUEL ((findLoop 4 (Try.f29.body.getD .skip)).getD .skip) σ k) [0, 3] [0, 2] n σ k
noncomputable def S.NetOk_k4 (κ : V → List E → R) : X → St → R := (afterC TD (tableK S.NetOk_T) S.NetOk_ann (drawOk TD (tableP S.NetOk_T)) 0 FUEL 4 (Try.f29.body.getD .skip) (finC TD 0 Try.f29 κ)).getD (fun _ _ => none)
noncomputable def S.NetOk_k12 (c : (St → R) × (X → St → R)) : X → St → R := (afterC TD (tableK S.NetOk_T) S.NetOk_ann (drawOk TD (tableP S.NetOk_T)) 0 FUEL 12 ((findLoop 9 (Try.f29.body.getD .skip)).getD .skip) (roundC 0 [0, 4] [2] c.1 c.2)).getD (fun _ _ => none)
noncomputable def S.NetOk_k9 (κ : V → List E → R) : X → St → R := (afterC TD (tableK S.NetOk_T) S.NetOk_ann (drawOk TD (tableP S.NetOk_T)) 0 FUEL 9 (Try.f29.body.getD .skip) (finC TD 0 Try.f29 κ)).getD (fun _ _ => none)
noncomputable def S.NetOk_step4 {α : Type} (x0 : List Int) (x3 : Int) (next_ : Int → α) (out0_ : Bool → α) (out1_ : Unit → α) (fail_ : α) : α :=
  (bif decide (x3 < (↑x0.length : Int)) then (bif decide (0 ≤ x3) && decide (x3 < (↑x0.length : Int)) then (optC (S.l1In_t (eli x0 x3.toNat) 0 (IntKind.i64.wrap (IntKind.i64.wrap (1 * 2 ^ min (↑x0.length : Int).toNat IntKind.i64.bits) - 1))) (fun c_2 => (bif !c_2 then (out0_ false) else (next_ (IntKind.i64.wrap (x3 + 1))))) fail_) else fail_) else (out1_ ()))
theorem S.NetOk_step4_nat {α γ : Type} (g : α → γ) (x0 : List Int) (x3 : Int) (next_ : Int → α) (out0_ : Bool → α) (out1_ : Unit → α) (fail_ : α) : g (S.NetOk_step4 x0 x3 next_ out0_ out1_ fail_) = S.NetOk_step4 x0 x3 (fun s => g (next_ s)) (fun d => g (out0_ d)) (fun d => g (out1_ d)) (g fail_) := by
  unfold S.NetOk_step4; simp only [apply_cnd g, apply_optC g, apply_sumC g]
noncomputable def S.NetOk_run4 (x0 : List Int) : Nat → Int → Option ((Bool) ⊕ (Unit))
  | 0, _ => none
  | n + 1, s_ => S.NetOk_step4 x0 s_ (S.NetOk_run4 x0 n) (fun d => some ((Sum.inl d))) (fun d => some ((Sum.inr d))) none
theorem S.NetOk_L4_run (x0 : List Int) (n : Nat) (s_ : Int) (k : X → St → R) : S.NetOk_L4 n { n := 68, t := [(0, (.ro false (.ints .i64 x0))), (3, (.int .i64 s_))], h := [] } k = optC (S.NetOk_run4 x0 n s_) (fun (r : (Bool) ⊕ (Unit)) => (sumC r (fun (r : Bool) => k (.ret) { n := 68, t := [(0, (.ro false (.ints .i64 x0))), (2, (.bool r))], h := [] }) (fun (r : Unit) => k (.exit 0) { n := 68, t := [(0, (.ro false (.ints .i64 x0))), (2, .junk)], h := [] }))) none := by
  induction n generalizing s_ with
  | zero => rfl
  | succ n ih =>
    have hu : S.NetOk_L4 (n + 1) { n := 68, t := [(0, (.ro false (.ints .i64 x0))), (3, (.int .i64 s_))], h := [] } k = S.NetOk_step4 x0 s_ (fun s_ => S.NetOk_L4 n { n := 68, t := [(0, (.ro false (.ints .i64 x0))), (3, (.int .i64 s_))], h := [] } k) (fun d => k (.ret) { n := 68, t := [(0, (.ro false (.ints .i64 x0))), (2, (.bool d))], h := [] }) (fun d => k (.exit 0) { n := 68, t := [(0, (.ro false (.ints .i64 x0))), (2, .junk)], h := [] }) none := by
      kernel_rfl
    have hs : (fun s_ : Int => S.NetOk_L4 n { n := 68, t := [(0, (.ro false (.ints .i64 x0))), (3, (.int .i64 s_))], h := [] } k) = fun s_ => optC (S.NetOk_run4 x0 n s_) (fun (r : (Bool) ⊕ (Unit)) => (sumC r (fun (r : Bool) => k (.ret) { n := 68, t := [(0, (.ro false (.ints .i64 x0))), (2, (.bool r))], h := [] }) (fun (r : Unit) => k (.exit 0) { n := 68, t := [(0, (.ro false (.ints .i64 x0))), (2, .junk)], h := [] }))) none := funext ih
    rw [hu, hs]
    exact (S.NetOk_step4_nat (fun o => optC o (fun (r : (Bool) ⊕ (Unit)) => (sumC r (fun (r : Bool) => k (.ret) { n := 68, t := [(0, (.ro false (.ints .i64 x0))), (2, (.bool r))], h := [] }) (fun (r : Unit) => k (.exit 0) { n := 68, t := [(0, (.ro false (.ints .i64 x0))), (2, .junk)], h := [] }))) none) x0 s_ (S.NetOk_run4 x0 n) (fun d => some ((Sum.inl d))) (fun d => some ((Sum.inr d))) none).symm
noncomputable def S.NetOk_step12 {α : Type} (x0 : List Int) (x4 : Int) (x5 : Int) (next_ : Int → α) (out0_ : Bool → α) (out1_ : Unit → α) (fail_ : α) : α :=
  (bif decide (x5 < (↑x0.length : Int)) then (bif decide (0 ≤ x4) && decide (x4 < (↑x0.length : Int)) then (bif decide (x5 < 0) then fail_ else (bif decide (0 ≤ x5) && decide (x5 < (↑x0.length : Int)) then (bif decide (x4 < 0) then fail_ else (bif !((eli x0 x4.toNat).fdiv (2 ^ min x5.toNat IntKind.i64.bits)).tmod 2 == ((eli x0 x5.toNat).fdiv (2 ^ min x4.toNat IntKind.i64.bits)).tmod 2 then (out0_ false) else (bif x5 == x4 then (bif decide (0 ≤ x4) && decide (x4 < (↑x0.length : Int)) then (bif decide (x5 < 0) then fail_ else (bif ((eli x0 x4.toNat).fdiv (2 ^ min x5.toNat IntKind.i64.bits)).tmod 2 == 1 then (out0_ false) else (next_ (IntKind.i64.wrap (x5 + 1))))) else fail_) else (next_ (IntKind.i64.wrap (x5 + 1)))))) else fail_)) else fail_) else (out1_ ()))
theorem S.NetOk_step12_nat {α γ : Type} (g : α → γ) (x0 : List Int) (x4 : Int) (x5 : Int) (next_ : Int → α) (out0_ : Bool → α) (out1_ : Unit → α) (fail_ : α) : g (S.NetOk_step12 x0 x4 x5 next_ out0_ out1_ fail_) = S.NetOk_step12 x0 x4 x5 (fun s => g (next_ s)) (fun d => g (out0_ d)) (fun d => g (out1_ d)) (g fail_) := by
  unfold S.NetOk_step12; simp only [apply_cnd g, apply_optC g, apply_sumC g]
noncomputable def S.NetOk_run12 (x0 : List Int) (x4 : Int) : Nat → Int → Option ((Bool) ⊕ (Unit))
  | 0, _ => none
  | n + 1, s_ => S.NetOk_step12 x0 x4 s_ (S.NetOk_run12 x0 x4 n) (fun d => some ((Sum.inl d))) (fun d => some ((Sum.inr d))) none
theorem S.NetOk_L12_run (x0 : List Int) (x4 : Int) (n : Nat) (s_ : Int) (k : X → St → R) : S.NetOk_L12 n { n := 68, t := [(0, (.ro false (.ints .i64 x0))), (4, (.int .i64 x4)), (5, (.int .i64 s_))], h := [] } k = optC (S.NetOk_run12 x0 x4 n s_) (fun (r : (Bool) ⊕ (Unit)) => (sumC r (fun (r : Bool) => k (.ret) { n := 68, t := [(0, (.ro false (.ints .i64 x0))), (2, (.bool r)), (4, (.int .i64 x4))], h := [] }) (fun (r : Unit) => k (.exit 4) { n := 68, t := [(0, (.ro false (.ints .i64 x0))), (2, .junk), (4, (.int .i64 x4))], h := [] }))) none := by
  induction n generalizing s_ with
  | zero => rfl
  | succ n ih =>
    have hu : S.NetOk_L12 (n + 1) { n := 68, t := [(0, (.ro false (.ints .i64 x0))), (4, (.int .i64 x4)), (5, (.int .i64 s_))], h := [] } k = S.NetOk_step12 x0 x4 s_ (fun s_ => S.NetOk_L12 n { n := 68, t := [(0, (.ro false (.ints .i64 x0))), (4, (.int .i64 x4)), (5, (.int .i64 s_))], h := [] } k) (fun d => k (.ret) { n := 68, t := [(0, (.ro false (.ints .i64 x0))), (2, (.bool d)), (4, (.int .i64 x4))], h := [] }) (fun d => k (.exit 4) { n := 68, t := [(0, (.ro false (.ints .i64 x0))), (2, .junk), (4, (.int .i64 x4))], h := [] }) none := by
      kernel_rfl
    have hs : (fun s_ : Int => S.NetOk_L12 n { n := 68, t := [(0, (.ro false (.ints .i64 x0))), (4, (.int .i64 x4)), (5, (.int .i64 s_))], h := [] } k) = fun s_ => optC (S.NetOk_run12 x0 x4 n s_) (fun (r : (Bool) ⊕ (Unit)) => (sumC r (fun (r : Bool) => k (.ret) { n := 68, t := [(0, (.ro false (.ints .i64 x0))), (2, (.bool r)), (4, (.int .i64 x4))], h := [] }) (fun (r : Unit) => k (.exit 4) { n := 68, t := [(0, (.ro false (.ints .i64 x0))), (2, .junk), (4, (.int .i64 x4))], h := [] }))) none := funext ih
    rw [hu, hs]
    exact (S.NetOk_step12_nat (fun o => optC o (fun (r : (Bool) ⊕ (Unit)) => (sumC r (fun (r : Bool) => k (.ret) { n := 68, t := [(0, (.ro false (.ints .i64 x0))), (2, (.bool r)), (4, (.int .i64 x4))], h := [] }) (fun (r : Unit) => k (.exit 4) { n := 68, t := [(0, (.ro false (.ints .i64 x0))), (2, .junk), (4, (.int .i64 x4))], h := [] }))) none) x0 x4 s_ (S.NetOk_run12 x0 x4 n) (fun d => some ((Sum.inl d))) (fun d => some ((Sum.inr d))) none).symm
noncomputable def S.NetOk_step9 {α : Type} (x0 : List Int) (x4 : Int) (next_ : Int → α) (out0_ : Bool → α) (out1_ : Unit → α) (fail_ : α) : α :=
  (bif decide (x4 < (↑x0.length : Int)) then (optC (S.NetOk_run12 x0 x4 FUEL 0) (fun qy_4 => (sumC qy_4 (fun (qy_4 : Bool) => (out0_ qy_4)) (fun (qy_4 : Unit) => (next_ (IntKind.i64.wrap (x4 + 1)))))) fail_) else (out1_ ()))
theorem S.NetOk_step9_nat {α γ : Type} (g : α → γ) (x0 : List Int) (x4 : Int) (next_ : Int → α) (out0_ : Bool → α) (out1_ : Unit → α) (fail_ : α) : g (S.NetOk_step9 x0 x4 next_ out0_ out1_ fail_) = S.NetOk_step9 x0 x4 (fun s => g (next_ s)) (fun d => g (out0_ d)) (fun d => g (out1_ d)) (g fail_) := by
  unfold S.NetOk_step9; simp only [apply_cnd g, apply_optC g, apply_sumC g]
noncomputable def S.NetOk_run9 (x0 : List Int) : Nat → Int → Option ((Bool) ⊕ (Unit))
  | 0, _ => none
  | n + 1, s_ => S.NetOk_step9 x0 s_ (S.NetOk_run9 x0 n) (fun d => some ((Sum.inl d))) (fun d => some ((Sum.inr d))) none
theorem S.NetOk_L9_run (x0 : List Int) (n : Nat) (s_ : Int) (k : X → St → R) : S.NetOk_L9 n { n := 68, t := [(0, (.ro false (.ints .i64 x0))), (4, (.int .i64 s_))], h := [] } k = optC (S.NetOk_run9 x0 n s_) (fun (r : (Bool) ⊕ (Unit)) => (sumC r (fun (r : Bool) => k (.ret) { n := 68, t := [(2, (.bool r))], h := [] }) (fun (r : Unit) => k (.exit 2) { n := 68, t := [(2, .junk)], h := [] }))) none := by
  induction n generalizing s_ with
  | zero => rfl
  | succ n ih =>
    have hu : S.NetOk_L9 (n + 1) { n := 68, t := [(0, (.ro false (.ints .i64 x0))), (4, (.int .i64 s_))], h := [] } k = S.NetOk_step9 x0 s_ (fun s_ => S.NetOk_L9 n { n := 68, t := [(0, (.ro false (.ints .i64 x0))), (4, (.int .i64 s_))], h := [] } k) (fun d => k (.ret) { n := 68, t := [(2, (.bool d))], h := [] }) (fun d => k (.exit 2) { n := 68, t := [(2, .junk)], h := [] }) none := by
      refine Eq.trans (show S.NetOk_L9 (n + 1) { n := 68, t := [(0, (.ro false (.ints .i64 x0))), (4, (.int .i64 s_))], h := [] } k = (bif decide (s_ < (↑x0.length : Int)) then (S.NetOk_L12 FUEL { n := 68, t := [(0, (.ro false (.ints .i64 x0))), (4, (.int .i64 s_)), (5, (.int .i64 0))], h := [] } (S.NetOk_k12 ((fun σ => S.NetOk_L9 n σ k), k))) else (k (.exit 2) { n := 68, t := [(2, .junk)], h := [] })) by kernel_rfl) ?_
      refine cnd_congr ?_ ?_
      · refine (S.NetOk_L12_run x0 s_ FUEL 0 (S.NetOk_k12 ((fun σ => S.NetOk_L9 n σ k), k))).trans (optC_congr (fun qy_4 => ?_))
        rcases qy_4 with qy_4 | qy_4
        · kernel_rfl
        · kernel_rfl
      · kernel_rfl
    have hs : (fun s_ : Int => S.NetOk_L9 n { n := 68, t := [(0, (.ro false (.ints .i64 x0))), (4, (.int .i64 s_))], h := [] } k) = fun s_ => optC (S.NetOk_run9 x0 n s_) (fun (r : (Bool) ⊕ (Unit)) => (sumC r (fun (r : Bool) => k (.ret) { n := 68, t := [(2, (.bool r))], h := [] }) (fun (r : Unit) => k (.exit 2) { n := 68, t := [(2, .junk)], h := [] }))) none := funext ih
    rw [hu, hs]
    exact (S.NetOk_step9_nat (fun o => optC o (fun (r : (Bool) ⊕ (Unit)) => (sumC r (fun (r : Bool) => k (.ret) { n := 68, t := [(2, (.bool r))], h := [] }) (fun (r : Unit) => k (.exit 2) { n := 68, t := [(2, .junk)], h := [] }))) none) x0 s_ (S.NetOk_run9 x0 n) (fun d => some ((Sum.inl d))) (fun d => some ((Sum.inr d))) none).symm
noncomputable def S.NetOk_tree {α : Type} (net : List Int) (leaf0_ : Bool → α) (fail_ : α) : α :=
  (optC (S.l1In_t (↑net.length : Int) 1 6) (fun c_1 => (bif !c_1 then (leaf0_ false) else (optC (S.NetOk_run4 net FUEL 0) (fun qy_3 => (sumC qy_3 (fun (qy_3 : Bool) => (leaf0_ qy_3)) (fun (qy_3 : Unit) => (optC (S.NetOk_run9 net FUEL 0) (fun qy_5 => (sumC qy_5 (fun (qy_5 : Bool) => (leaf0_ qy_5)) (fun (qy_5 : Unit) => (leaf0_ true)))) fail_)))) fail_))) fail_)
theorem S.NetOk_tree_nat {α γ : Type} (g : α → γ) (net : List Int) (leaf0_ : Bool → α) (fail_ : α) : g (S.NetOk_tree net leaf0_ fail_) = S.NetOk_tree net (fun d => g (leaf0_ d)) (g fail_) := by
  unfold S.NetOk_tree; simp only [apply_cnd g, apply_optC g, apply_sumC g]
noncomputable def S.NetOk_t (net : List Int) : Option (Bool) := S.NetOk_tree net (fun d => some d) none
theorem S.NetOk_den (net : List Int) (κ : V → List E → R) : S.NetOk_F [.ro false (.ints .i64 net)] [] κ = optC (S.NetOk_t net) (fun (r : Bool) => κ (.bool r) []) none := by
  have hu : S.NetOk_F [.ro false (.ints .i64 net)] [] κ = S.NetOk_tree net (fun d => κ (.bool d) []) none := by
    refine Eq.trans (show S.NetOk_F [.ro false (.ints .i64 net)] [] κ = (optC (S.l1In_t (↑net.length : Int) 1 6) (fun c_1 => (bif !c_1 then (κ (.bool false) []) else (S.NetOk_L4 FUEL { n := 68, t := [(0, (.ro false (.ints .i64 net))), (3, (.int .i64 0))], h := [] } (S.NetOk_k4 κ)))) none) by kernel_rfl) ?_
    refine optC_congr (fun c_1 => ?_)
    refine cnd_congr ?_ ?_
    · kernel_rfl
    · refine (S.NetOk_L4_run net FUEL 0 (S.NetOk_k4 κ)).trans (optC_congr (fun qy_3 => ?_))
      rcases qy_3 with qy_3 | qy_3
      · kernel_rfl
      · refine Eq.trans (show (S.NetOk_k4 κ (.exit 0) { n := 68, t := [(0, (.ro false (.ints .i64 net))), (2, .junk)], h := [] }) = (S.NetOk_L9 FUEL { n := 68, t := [(0, (.ro false (.ints .i64 net))), (4, (.int .i64 0))], h := [] } (S.NetOk_k9 κ)) by kernel_rfl) ?_
        refine (S.NetOk_L9_run net FUEL 0 (S.NetOk_k9 κ)).trans (optC_congr (fun qy_5 => ?_))
        rcases qy_5 with qy_5 | qy_5
        · kernel_rfl
        · kernel_rfl
  rw [hu]
  exact (S.NetOk_tree_nat (fun o => optC o (fun (r : Bool) => κ (.bool r) []) none) net (fun d => some d) none).symm
noncomputable def S.NetOk_s : D.Spec where
  keep := false
  pure := true
  add := true
  ds := [.int .i64]
  sp := fun args h κ => match args, h with
    | [.ro false (.ints .i64 net)], [] => optC (S.NetOk_t net) (fun (r : Bool) => κ (.bool r) []) none
    | _, _ => none
theorem S.NetOk_ok : SpecOk Try.prog 29 S.NetOk_s := by
  refine SpecOk.of TDok mixed (T := S.NetOk_T) ?_ (ann := S.NetOk_ann) Try.func29 rfl (by decide +kernel) ?_ ?_ ?_ ?_
  · intro p hp
    simp only [S.NetOk_T, List.mem_cons, List.not_mem_nil, or_false] at hp
    rcases hp with rfl
    · exact S.l1In_ok
  · intro args h κ r hh
    simp only [S.NetOk_s] at hh
    split at hh
    · exact (S.NetOk_den _ κ).trans hh
    · cases hh
  · intro args h κ r hh
    simp only [S.NetOk_s] at hh ⊢
    split at hh
    · exact optC_law2 (F := fun (r : Bool) κ => κ (.bool r) []) (fun b κ r hb => ⟨_, _, hb, fun _ => rfl⟩) hh
    · cases hh
  · intro _ args h κ r hh
    simp only [S.NetOk_s] at hh
    split at hh
    · exact ⟨rfl, fun _ => rfl⟩
    · cases hh
  · intro _ args h κ r hh
    simp only [S.NetOk_s] at hh
    split at hh
    · rfl
    · cases hh

-- loop.example/guardsonnets/spec.l13Set
noncomputable def S.l13Set_T : List (Nat × D.Spec) := []
def S.l13Set_ann : Nat → List Nat × List Nat
  | 3 => ([0, 1, 5, 6], [5])
  | _ => ([], [])
noncomputable def S.l13Set_F (args : List V) (h : List E) (κ : V → List E → R) : R := funC TD (tableK S.l13Set_T) S.l13Set_ann (drawOk TD (tableP S.l13Set_T)) FUEL Try.f69 args h κ
noncomputable def S.l13Set_L3 (n : Nat) (σ : St) (k : X → St → R) : R := iterC 0 (fun σ k => denC TD (tableK S.l13Set_T) S.l13Set_ann (drawOk TD (tableP S.l13Set_T)) 0 FUEL ((findLoop 3 (Try.f69.body.getD .skip)).getD .skip) σ k) [0, 1, 5, 6] [5] n σ k
noncomputable def S.l13Set_k3 (κ : V → List E → R) : X → St → R := (afterC TD (tableK S.l13Set_T) S.l13Set_ann (drawOk TD (tableP S.l13Set_T)) 0 FUEL 3 (Try.f69.body.getD .skip) (finC TD 0 Try.f69 κ)).getD (fun _ _ => none)
noncomputable def S.l13Set_step3 {α : Type} (x0 : List Int) (x1 : Int) (x5 : Int) (x6 : Int) (next_ : Int × Int → α) (out0_ : Int → α) (fail_ : α) : α :=
  (bif decide (x6 < (↑x0.length : Int)) then (bif decide (0 ≤ x6) && decide (x6 < (↑x0.length : Int)) then (bif eli x0 x6.toNat == x1 then (bif decide (x6 < 0) then fail_ else (next_ (bits BinOp.or IntKind.i64 x5 (IntKind.i64.wrap (1 * 2 ^ min x6.toNat IntKind.i64.bits)), IntKind.i64.wrap (x6 + 1)))) else (next_ (x5, IntKind.i64.wrap (x6 + 1)))) else fail_) else (out0_ x5))
theorem S.l13Set_step3_nat {α γ : Type} (g : α → γ) (x0 : List Int) (x1 : Int) (x5 : Int) (x6 : Int) (next_ : Int × Int → α) (out0_ : Int → α) (fail_ : α) : g (S.l13Set_step3 x0 x1 x5 x6 next_ out0_ fail_) = S.l13Set_step3 x0 x1 x5 x6 (fun s => g (next_ s)) (fun d => g (out0_ d)) (g fail_) := by
  unfold S.l13Set_step3; simp only [apply_cnd g, apply_optC g, apply_sumC g]
noncomputable def S.l13Set_run3 (x0 : List Int) (x1 : Int) : Nat → Int × Int → Option (Int)
  | 0, _ => none
  | n + 1, s_ => S.l13Set_step3 x0 x1 s_.1 s_.2 (S.l13Set_run3 x0 x1 n) (fun d => some d) none
theorem S.l13Set_L3_run (x0 : List Int) (x1 : Int) (n : Nat) (s_ : Int × Int) (k : X → St → R) : S.l13Set_L3 n { n := 24, t := [(0, (.ro false (.ints .i64 x0))), (1, (.int .i64 x1)), (5, (.int .i64 s_.1)), (6, (.int .i64 s_.2))], h := [] } k = optC (S.l13Set_run3 x0 x1 n s_) (fun (r : Int) => k (.exit 0) { n := 24, t := [(5, (.int .i64 r))], h := [] }) none := by
  induction n generalizing s_ with
  | zero => rfl
  | succ n ih =>
    have hu : S.l13Set_L3 (n + 1) { n := 24, t := [(0, (.ro false (.ints .i64 x0))), (1, (.int .i64 x1)), (5, (.int .i64 s_.1)), (6, (.int .i64 s_.2))], h := [] } k = S.l13Set_step3 x0 x1 s_.1 s_.2 (fun s_ => S.l13Set_L3 n { n := 24, t := [(0, (.ro false (.ints .i64 x0))), (1, (.int .i64 x1)), (5, (.int .i64 s_.1)), (6, (.int .i64 s_.2))], h := [] } k) (fun d => k (.exit 0) { n := 24, t := [(5, (.int .i64 d))], h := [] }) none := by
      kernel_rfl
    have hs : (fun s_ : Int × Int => S.l13Set_L3 n { n := 24, t := [(0, (.ro false (.ints .i64 x0))), (1, (.int .i64 x1)), (5, (.int .i64 s_.1)), (6, (.int .i64 s_.2))], h := [] } k) = fun s_ => optC (S.l13Set_run3 x0 x1 n s_) (fun (r : Int) => k (.exit 0) { n := 24, t := [(5, (.int .i64 r))], h := [] }) none := funext ih
    rw [hu, hs]
    exact (S.l13Set_step3_nat (fun o => optC o (fun (r : Int) => k (.exit 0) { n := 24, t := [(5, (.int .i64 r))], h := [] }) none) x0 x1 s_.1 s_.2 (S.l13Set_run3 x0 x1 n) (fun d => some d) none).symm
noncomputable def S.l13Set_tree {α : Type} (row : List Int) (n_ : Int) (leaf0_ : Int → α) (fail_ : α) : α :=
  (optC (S.l13Set_run3 row n_ FUEL (0, 0)) (fun qy_1 => (leaf0_ qy_1)) fail_)
theorem S.l13Set_tree_nat {α γ : Type} (g : α → γ) (row : List Int) (n_ : Int) (leaf0_ : Int → α) (fail_ : α) : g (S.l13Set_tree row n_ leaf0_ fail_) = S.l13Set_tree row n_ (fun d => g (leaf0_ d)) (g fail_) := by
  unfold S.l13Set_tree; simp only [apply_cnd g, apply_optC g, apply_sumC g]
noncomputable def S.l13Set_t (row : List Int) (n_ : Int) : Option (Int) := S.l13Set_tree row n_ (fun d => some d) none
theorem S.l13Set_den (row : List Int) (n_ : Int) (κ : V → List E → R) : S.l13Set_F [.ro false (.ints .i64 row), .int .i64 n_] [] κ = optC (S.l13Set_t row n_) (fun (r : Int) => κ (.int .i64 r) []) none := by
  have hu : S.l13Set_F [.ro false (.ints .i64 row), .int .i64 n_] [] κ = S.l13Set_tree row n_ (fun d => κ (.int .i64 d) []) none := by
    refine Eq.trans (show S.l13Set_F [.ro false (.ints .i64 row), .int .i64 n_] [] κ = (S.l13Set_L3 FUEL { n := 24, t := [(0, (.ro false (.ints .i64 row))), (1, (.int .i64 n_)), (5, (.int .i64 0)), (6, (.int .i64 0))], h := [] } (S.l13Set_k3 κ)) by kernel_rfl) ?_
    refine (S.l13Set_L3_run row n_ FUEL (0, 0) (S.l13Set_k3 κ)).trans (optC_congr (fun qy_1 => ?_))
    kernel_rfl
  rw [hu]
  exact (S.l13Set_tree_nat (fun o => optC o (fun (r : Int) => κ (.int .i64 r) []) none) row n_ (fun d => some d) none).symm
noncomputable def S.l13Set_s : D.Spec where
  keep := false
  pure := true
  add := true
  ds := [.int .i64, .invalid]
  sp := fun args h κ => match args, h with
    | [.ro false (.ints .i64 row), .int .i64 n_], [] => optC (S.l13Set_t row n_) (fun (r : Int) => κ (.int .i64 r) []) none
    | _, _ => none
theorem S.l13Set_ok : SpecOk Try.prog 69 S.l13Set_s := by
  refine SpecOk.of TDok mixed (T := S.l13Set_T) ?_ (ann := S.l13Set_ann) Try.func69 rfl (by decide +kernel) ?_ ?_ ?_ ?_
  · intro p hp; cases hp
  · intro args h κ r hh
    simp only [S.l13Set_s] at hh
    split at hh
    · exact (S.l13Set_den _ _ κ).trans hh
    · cases hh
  · intro args h κ r hh
    simp only [S.l13Set_s] at hh ⊢
    split at hh
    · exact optC_law2 (F := fun (r : Int) κ => κ (.int .i64 r) []) (fun b κ r hb => ⟨_, _, hb, fun _ => rfl⟩) hh
    · cases hh
  · intro _ args h κ r hh
    simp only [S.l13Set_s] at hh
    split at hh
    · exact ⟨rfl, fun _ => rfl⟩
    · cases hh
  · intro _ args h κ r hh
    simp only [S.l13Set_s] at hh
    split at hh
    · rfl
    · cases hh

-- loop.example/guardsonnets/spec.l13Clique
noncomputable def S.l13Clique_T : List (Nat × D.Spec) := []
def S.l13Clique_ann : Nat → List Nat × List Nat
  | 2 => ([0, 1, 5], [4])
  | _ => ([], [])
noncomputable def S.l13Clique_F (args : List V) (h : List E) (κ : V → List E → R) : R := funC TD (tableK S.l13Clique_T) S.l13Clique_ann (drawOk TD (tableP S.l13Clique_T)) FUEL Try.f68 args h κ
noncomputable def S.l13Clique_L2 (n : Nat) (σ : St) (k : X → St → R) : R := iterC 0 (fun σ k => denC TD (tableK S.l13Clique_T) S.l13Clique_ann (drawOk TD (tableP S.l13Clique_T)) 0 FUEL ((findLoop 2 (Try.f68.body.getD .skip)).getD .skip) σ k) [0, 1, 5] [4] n σ k
noncomputable def S.l13Clique_k2 (κ : V → List E → R) : X → St → R := (afterC TD (tableK S.l13Clique_T) S.l13Clique_ann (drawOk TD (tableP S.l13Clique_T)) 0 FUEL 2 (Try.f68.body.getD .skip) (finC TD 0 Try.f68 κ)).getD (fun _ _ => none)
noncomputable def S.l13Clique_step2 {α : Type} (x0 : List Int) (x1 : Int) (x5 : Int) (next_ : Int → α) (out0_ : Bool → α) (out1_ : Unit → α) (fail_ : α) : α :=
  (bif decide (x5 < (↑x0.length : Int)) then (bif decide (x5 < 0) then fail_ else (bif (x1.fdiv (2 ^ min x5.toNat IntKind.i64.bits)).tmod 2 == 1 then (bif decide (0 ≤ x5) && decide (x5 < (↑x0.length : Int)) then (bif decide (x5 < 0) then fail_ else (bif decide (bits BinOp.andNot IntKind.i64 x1 (bits BinOp.or IntKind.i64 (eli x0 x5.toNat) (IntKind.i64.wrap (1 * 2 ^ min x5.toNat IntKind.i64.bits))) > 0) then (out0_ false) else (next_ (IntKind.i64.wrap (x5 + 1))))) else fail_) else (next_ (IntKind.i64.wrap (x5 + 1))))) else (out1_ ()))
theorem S.l13Clique_step2_nat {α γ : Type} (g : α → γ) (x0 : List Int) (x1 : Int) (x5 : Int) (next_ : Int → α) (out0_ : Bool → α) (out1_ : Unit → α) (fail_ : α) : g (S.l13Clique_step2 x0 x1 x5 next_ out0_ out1_ fail_) = S.l13Clique_step2 x0 x1 x5 (fun s => g (next_ s)) (fun d => g (out0_ d)) (fun d => g (out1_ d)) (g fail_) := by
  unfold S.l13Clique_step2; simp only [apply_cnd g, apply_optC g, apply_sumC g]
noncomputable def S.l13Clique_run2 (x0 : List Int) (x1 : Int) : Nat → Int → Option ((Bool) ⊕ (Unit))
  | 0, _ => none
  | n + 1, s_ => S.l13Clique_step2 x0 x1 s_ (S.l13Clique_run2 x0 x1 n) (fun d => some ((Sum.inl d))) (fun d => some ((Sum.inr d))) none
theorem S.l13Clique_L2_run (x0 : List Int) (x1 : Int) (n : Nat) (s_ : Int) (k : X → St → R) : S.l13Clique_L2 n { n := 29, t := [(0, (.ro false (.ints .i64 x0))), (1, (.int .i64 x1)), (5, (.int .i64 s_))], h := [] } k = optC (S.l13Clique_run2 x0 x1 n s_) (fun (r : (Bool) ⊕ (Unit)) => (sumC r (fun (r : Bool) => k (.ret) { n := 29, t := [(4, (.bool r))], h := [] }) (fun (r : Unit) => k (.exit 0) { n := 29, t := [(4, .junk)], h := [] }))) none := by
  induction n generalizing s_ with
  | zero => rfl
  | succ n ih =>
    have hu : S.l13Clique_L2 (n + 1) { n := 29, t := [(0, (.ro false (.ints .i64 x0))), (1, (.int .i64 x1)), (5, (.int .i64 s_))], h := [] } k = S.l13Clique_step2 x0 x1 s_ (fun s_ => S.l13Clique_L2 n { n := 29, t := [(0, (.ro false (.ints .i64 x0))), (1, (.int .i64 x1)), (5, (.int .i64 s_))], h := [] } k) (fun d => k (.ret) { n := 29, t := [(4, (.bool d))], h := [] }) (fun d => k (.exit 0) { n := 29, t := [(4, .junk)], h := [] }) none := by
      kernel_rfl
    have hs : (fun s_ : Int => S.l13Clique_L2 n { n := 29, t := [(0, (.ro false (.ints .i64 x0))), (1, (.int .i64 x1)), (5, (.int .i64 s_))], h := [] } k) = fun s_ => optC (S.l13Clique_run2 x0 x1 n s_) (fun (r : (Bool) ⊕ (Unit)) => (sumC r (fun (r : Bool) => k (.ret) { n := 29, t := [(4, (.bool r))], h := [] }) (fun (r : Unit) => k (.exit 0) { n := 29, t := [(4, .junk)], h := [] }))) none := funext ih
    rw [hu, hs]
    exact (S.l13Clique_step2_nat (fun o => optC o (fun (r : (Bool) ⊕ (Unit)) => (sumC r (fun (r : Bool) => k (.ret) { n := 29, t := [(4, (.bool r))], h := [] }) (fun (r : Unit) => k (.exit 0) { n := 29, t := [(4, .junk)], h := [] }))) none) x0 x1 s_ (S.l13Clique_run2 x0 x1 n) (fun d => some ((Sum.inl d))) (fun d => some ((Sum.inr d))) none).symm
noncomputable def S.l13Clique_tree {α : Type} (net : List Int) (set_ : Int) (leaf0_ : Bool → α) (fail_ : α) : α :=
  (optC (S.l13Clique_run2 net set_ FUEL 0) (fun qy_1 => (sumC qy_1 (fun (qy_1 : Bool) => (leaf0_ qy_1)) (fun (qy_1 : Unit) => (leaf0_ true)))) fail_)
theorem S.l13Clique_tree_nat {α γ : Type} (g : α → γ) (net : List Int) (set_ : Int) (leaf0_ : Bool → α) (fail_ : α) : g (S.l13Clique_tree net set_ leaf0_ fail_) = S.l13Clique_tree net set_ (fun d => g (leaf0_ d)) (g fail_) := by
  unfold S.l13Clique_tree; simp only [apply_cnd g, apply_optC g, apply_sumC g]
noncomputable def S.l13Clique_t (net : List Int) (set_ : Int) : Option (Bool) := S.l13Clique_tree net set_ (fun d => some d) none
theorem S.l13Clique_den (net : List Int) (set_ : Int) (κ : V → List E → R) : S.l13Clique_F [.ro false (.ints .i64 net), .int .i64 set_] [] κ = optC (S.l13Clique_t net set_) (fun (r : Bool) => κ (.bool r) []) none := by
  have hu : S.l13Clique_F [.ro false (.ints .i64 net), .int .i64 set_] [] κ = S.l13Clique_tree net set_ (fun d => κ (.bool d) []) none := by
    refine Eq.trans (show S.l13Clique_F [.ro false (.ints .i64 net), .int .i64 set_] [] κ = (S.l13Clique_L2 FUEL { n := 29, t := [(0, (.ro false (.ints .i64 net))), (1, (.int .i64 set_)), (5, (.int .i64 0))], h := [] } (S.l13Clique_k2 κ)) by kernel_rfl) ?_
    refine (S.l13Clique_L2_run net set_ FUEL 0 (S.l13Clique_k2 κ)).trans (optC_congr (fun qy_1 => ?_))
    rcases qy_1 with qy_1 | qy_1
    · kernel_rfl
    · kernel_rfl
  rw [hu]
  exact (S.l13Clique_tree_nat (fun o => optC o (fun (r : Bool) => κ (.bool r) []) none) net set_ (fun d => some d) none).symm
noncomputable def S.l13Clique_s : D.Spec where
  keep := false
  pure := true
  add := true
  ds := [.int .i64, .invalid]
  sp := fun args h κ => match args, h with
    | [.ro false (.ints .i64 net), .int .i64 set_], [] => optC (S.l13Clique_t net set_) (fun (r : Bool) => κ (.bool r) []) none
    | _, _ => none
theorem S.l13Clique_ok : SpecOk Try.prog 68 S.l13Clique_s := by
  refine SpecOk.of TDok mixed (T := S.l13Clique_T) ?_ (ann := S.l13Clique_ann) Try.func68 rfl (by decide +kernel) ?_ ?_ ?_ ?_
  · intro p hp; cases hp
  · intro args h κ r hh
    simp only [S.l13Clique_s] at hh
    split at hh
    · exact (S.l13Clique_den _ _ κ).trans hh
    · cases hh
  · intro args h κ r hh
    simp only [S.l13Clique_s] at hh ⊢
    split at hh
    · exact optC_law2 (F := fun (r : Bool) κ => κ (.bool r) []) (fun b κ r hb => ⟨_, _, hb, fun _ => rfl⟩) hh
    · cases hh
  · intro _ args h κ r hh
    simp only [S.l13Clique_s] at hh
    split at hh
    · exact ⟨rfl, fun _ => rfl⟩
    · cases hh
  · intro _ args h κ r hh
    simp only [S.l13Clique_s] at hh
    split at hh
    · rfl
    · cases hh

-- loop.example/guardsonnets/spec.l13Grow
class S.l13Grow_r_R where
  r : (List Int) → (List Int) → Int → Option ((List Int) ⊕ ((List Int) × (List Int)))
section
variable [c_ : S.l13Grow_r_R]
noncomputable def S.l13Grow_r0_t (net : List Int) (row : List Int) (most : Int) : Option ((List Int) ⊕ ((List Int) × (List Int))) := S.l13Grow_r_R.r net row most
noncomputable def S.l13Grow_r0_s : D.Spec where
  keep := false
  pure := false
  add := false
  ds := [.int .i64, .pointer 0, .invalid]
  sp := fun args h κ => match args, h with
    | [.ro false (.ints .i64 net), .own 0, .int .i64 most], [.row (.ints .i64 row)] => optC (S.l13Grow_r0_t net row most) (fun (r : (List Int) ⊕ ((List Int) × (List Int))) => sumC r (fun (r : List Int) => κ (.own 0) [.row (.ints .i64 r)]) (fun (r : (List Int) × (List Int)) => κ (.own 1) [.row (.ints .i64 r.1), .row (.ints .i64 r.2)])) none
    | _, _ => none
end
section
variable [c_ : S.l13Grow_r_R]
noncomputable def S.l13Grow_r_T : List (Nat × D.Spec) := [(69, S.l13Set_s), (68, S.l13Clique_s), (51, S.l13Grow_r0_s)]
def S.l13Grow_r_ann : Nat → List Nat × List Nat
  | 9 => ([0, 1, 2, 7, 9], [6])
  | 5 => ([0, 1, 2, 7, 8], [0, 1, 2, 7])
  | _ => ([], [])
noncomputable def S.l13Grow_r_F (args : List V) (h : List E) (κ : V → List E → R) : R := funC TD (tableK S.l13Grow_r_T) S.l13Grow_r_ann (drawOk TD (tableP S.l13Grow_r_T)) FUEL Try.f51 args h κ
noncomputable def S.l13Grow_r_L9 (n : Nat) (σ : St) (k : X → St → R) : R := iterC 1 (fun σ k => denC TD (tableK S.l13Grow_r_T) S.l13Grow_r_ann (drawOk TD (tableP S.l13Grow_r_T)) 1 FUEL ((findLoop 9 (Try.f51.body.getD .skip)).getD .skip) σ k) [0, 1, 2, 7, 9] [6] n σ k
noncomputable def S.l13Grow_r_L5 (n : Nat) (σ : St) (k : X → St → R) : R := iterC 1 (fun σ k => denC TD (tableK S.l13Grow_r_T) S.l13Grow_r_ann (drawOk TD (tableP S.l13Grow_r_T)) 1 FUEL ((findLoop 5 (Try.f51.body.getD .skip)).getD .skip) σ k) [0, 1, 2, 7, 8] [0, 1, 2, 7] n σ k
end
section
variable [c_ : S.l13Grow_r_R]
noncomputable def S.l13Grow_r_k5 (κ : V → List E → R) : X → St → R := (afterC TD (tableK S.l13Grow_r_T) S.l13Grow_r_ann (drawOk TD (tableP S.l13Grow_r_T)) 1 FUEL 5 (Try.f51.body.getD .skip) (finC TD 1 Try.f51 κ)).getD (fun _ _ => none)
noncomputable def S.l13Grow_r_k9 (κ : V → List E → R) : X → St → R := (afterC TD (tableK S.l13Grow_r_T) S.l13Grow_r_ann (drawOk TD (tableP S.l13Grow_r_T)) 1 FUEL 9 (Try.f51.body.getD .skip) (finC TD 1 Try.f51 κ)).getD (fun _ _ => none)
noncomputable def S.l13Grow_r_step5 {α : Type} (x0 : List Int) (x2 : Int) (x7 : Int) (x8 : Int) (r0 : List Int) (next_ : Int × Int × (List Int) → α) (out0_ : Int × (List Int) → α) (fail_ : α) : α :=
  (bif decide (x8 < (↑r0.length : Int)) then (bif decide (0 ≤ x8) && decide (x8 < (↑r0.length : Int)) then (bif decide (x8.toNat < r0.length) then (next_ (if IntKind.i64.wrap (eli r0 x8.toNat + 1) > x7 then IntKind.i64.wrap (eli r0 x8.toNat + 1) else x7, IntKind.i64.wrap (x8 + 1), r0)) else fail_) else fail_) else (out0_ (x7, r0)))
theorem S.l13Grow_r_step5_nat {α γ : Type} (g : α → γ) (x0 : List Int) (x2 : Int) (x7 : Int) (x8 : Int) (r0 : List Int) (next_ : Int × Int × (List Int) → α) (out0_ : Int × (List Int) → α) (fail_ : α) : g (S.l13Grow_r_step5 x0 x2 x7 x8 r0 next_ out0_ fail_) = S.l13Grow_r_step5 x0 x2 x7 x8 r0 (fun s => g (next_ s)) (fun d => g (out0_ d)) (g fail_) := by
  unfold S.l13Grow_r_step5; simp only [apply_cnd g, apply_optC g, apply_sumC g]
noncomputable def S.l13Grow_r_run5 (x0 : List Int) (x2 : Int) : Nat → Int × Int × (List Int) → Option (Int × (List Int))
  | 0, _ => none
  | n + 1, s_ => S.l13Grow_r_step5 x0 x2 s_.1 s_.2.1 s_.2.2 (S.l13Grow_r_run5 x0 x2 n) (fun d => some d) none
theorem S.l13Grow_r_L5_run (x0 : List Int) (x2 : Int) (n : Nat) (s_ : Int × Int × (List Int)) (k : X → St → R) : S.l13Grow_r_L5 n { n := 59, t := [(0, (.ro false (.ints .i64 x0))), (1, (.own 0)), (2, (.int .i64 x2)), (7, (.int .i64 s_.1)), (8, (.int .i64 s_.2.1))], h := [.row (.ints .i64 s_.2.2)] } k = optC (S.l13Grow_r_run5 x0 x2 n s_) (fun (r : Int × (List Int)) => k (.exit 0) { n := 59, t := [(0, (.ro false (.ints .i64 x0))), (1, (.own 0)), (2, (.int .i64 x2)), (7, (.int .i64 r.1))], h := [.row (.ints .i64 r.2)] }) none := by
  induction n generalizing s_ with
  | zero => rfl
  | succ n ih =>
    have hu : S.l13Grow_r_L5 (n + 1) { n := 59, t := [(0, (.ro false (.ints .i64 x0))), (1, (.own 0)), (2, (.int .i64 x2)), (7, (.int .i64 s_.1)), (8, (.int .i64 s_.2.1))], h := [.row (.ints .i64 s_.2.2)] } k = S.l13Grow_r_step5 x0 x2 s_.1 s_.2.1 s_.2.2 (fun s_ => S.l13Grow_r_L5 n { n := 59, t := [(0, (.ro false (.ints .i64 x0))), (1, (.own 0)), (2, (.int .i64 x2)), (7, (.int .i64 s_.1)), (8, (.int .i64 s_.2.1))], h := [.row (.ints .i64 s_.2.2)] } k) (fun d => k (.exit 0) { n := 59, t := [(0, (.ro false (.ints .i64 x0))), (1, (.own 0)), (2, (.int .i64 x2)), (7, (.int .i64 d.1))], h := [.row (.ints .i64 d.2)] }) none := by
      kernel_rfl
    have hs : (fun s_ : Int × Int × (List Int) => S.l13Grow_r_L5 n { n := 59, t := [(0, (.ro false (.ints .i64 x0))), (1, (.own 0)), (2, (.int .i64 x2)), (7, (.int .i64 s_.1)), (8, (.int .i64 s_.2.1))], h := [.row (.ints .i64 s_.2.2)] } k) = fun s_ => optC (S.l13Grow_r_run5 x0 x2 n s_) (fun (r : Int × (List Int)) => k (.exit 0) { n := 59, t := [(0, (.ro false (.ints .i64 x0))), (1, (.own 0)), (2, (.int .i64 x2)), (7, (.int .i64 r.1))], h := [.row (.ints .i64 r.2)] }) none := funext ih
    rw [hu, hs]
    exact (S.l13Grow_r_step5_nat (fun o => optC o (fun (r : Int × (List Int)) => k (.exit 0) { n := 59, t := [(0, (.ro false (.ints .i64 x0))), (1, (.own 0)), (2, (.int .i64 x2)), (7, (.int .i64 r.1))], h := [.row (.ints .i64 r.2)] }) none) x0 x2 s_.1 s_.2.1 s_.2.2 (S.l13Grow_r_run5 x0 x2 n) (fun d => some d) none).symm
noncomputable def S.l13Grow_r_step9 {α : Type} (x0 : List Int) (x2 : Int) (x7 : Int) (x9 : Int) (r0 : List Int) (next_ : Int × (List Int) → α) (out0_ : (List Int) × (List Int) → α) (out1_ : List Int → α) (fail_ : α) : α :=
  (bif decide (x9 < if x2 < IntKind.i64.wrap (x7 + 1) then x2 else IntKind.i64.wrap (x7 + 1)) then (bif small ([] ++ r0).length then (bif small ([] ++ r0 ++ [x9]).length then (optC (S.l13Set_t ([] ++ r0 ++ [x9]) x9) (fun c_2 => (optC (S.l13Clique_t x0 c_2) (fun c_3 => (bif c_3 then (optC (S.l13Grow_r0_t x0 ([] ++ r0 ++ [x9]) x2) (fun c_4 => (sumC c_4 (fun c_5 => (bif decide ((↑c_5.length : Int) > 0) then (out0_ (r0, c_5)) else (next_ (IntKind.i64.wrap (x9 + 1), r0)))) (fun c_5 => (bif decide ((↑c_5.snd.length : Int) > 0) then (out0_ (r0, c_5.snd)) else (next_ (IntKind.i64.wrap (x9 + 1), r0)))))) fail_) else (next_ (IntKind.i64.wrap (x9 + 1), r0)))) fail_)) fail_) else fail_) else fail_) else (out1_ r0))
theorem S.l13Grow_r_step9_nat {α γ : Type} (g : α → γ) (x0 : List Int) (x2 : Int) (x7 : Int) (x9 : Int) (r0 : List Int) (next_ : Int × (List Int) → α) (out0_ : (List Int) × (List Int) → α) (out1_ : List Int → α) (fail_ : α) : g (S.l13Grow_r_step9 x0 x2 x7 x9 r0 next_ out0_ out1_ fail_) = S.l13Grow_r_step9 x0 x2 x7 x9 r0 (fun s => g (next_ s)) (fun d => g (out0_ d)) (fun d => g (out1_ d)) (g fail_) := by
  unfold S.l13Grow_r_step9; simp only [apply_cnd g, apply_optC g, apply_sumC g]
noncomputable def S.l13Grow_r_run9 (x0 : List Int) (x2 : Int) (x7 : Int) : Nat → Int × (List Int) → Option (((List Int) × (List Int)) ⊕ (List Int))
  | 0, _ => none
  | n + 1, s_ => S.l13Grow_r_step9 x0 x2 x7 s_.1 s_.2 (S.l13Grow_r_run9 x0 x2 x7 n) (fun d => some ((Sum.inl d))) (fun d => some ((Sum.inr d))) none
theorem S.l13Grow_r_L9_run (x0 : List Int) (x2 : Int) (x7 : Int) (n : Nat) (s_ : Int × (List Int)) (k : X → St → R) : S.l13Grow_r_L9 n { n := 59, t := [(0, (.ro false (.ints .i64 x0))), (1, (.own 0)), (2, (.int .i64 x2)), (7, (.int .i64 x7)), (9, (.int .i64 s_.1))], h := [.row (.ints .i64 s_.2)] } k = optC (S.l13Grow_r_run9 x0 x2 x7 n s_) (fun (r : ((List Int) × (List Int)) ⊕ (List Int)) => (sumC r (fun (r : (List Int) × (List Int)) => k (.ret) { n := 59, t := [(6, (.own 1))], h := [.row (.ints .i64 r.1), .row (.ints .i64 r.2)] }) (fun (r : List Int) => k (.exit 2) { n := 59, t := [(6, .junk)], h := [.row (.ints .i64 r)] }))) none := by
  induction n generalizing s_ with
  | zero => rfl
  | succ n ih =>
    have hu : S.l13Grow_r_L9 (n + 1) { n := 59, t := [(0, (.ro false (.ints .i64 x0))), (1, (.own 0)), (2, (.int .i64 x2)), (7, (.int .i64 x7)), (9, (.int .i64 s_.1))], h := [.row (.ints .i64 s_.2)] } k = S.l13Grow_r_step9 x0 x2 x7 s_.1 s_.2 (fun s_ => S.l13Grow_r_L9 n { n := 59, t := [(0, (.ro false (.ints .i64 x0))), (1, (.own 0)), (2, (.int .i64 x2)), (7, (.int .i64 x7)), (9, (.int .i64 s_.1))], h := [.row (.ints .i64 s_.2)] } k) (fun d => k (.ret) { n := 59, t := [(6, (.own 1))], h := [.row (.ints .i64 d.1), .row (.ints .i64 d.2)] }) (fun d => k (.exit 2) { n := 59, t := [(6, .junk)], h := [.row (.ints .i64 d)] }) none := by
      kernel_rfl
    have hs : (fun s_ : Int × (List Int) => S.l13Grow_r_L9 n { n := 59, t := [(0, (.ro false (.ints .i64 x0))), (1, (.own 0)), (2, (.int .i64 x2)), (7, (.int .i64 x7)), (9, (.int .i64 s_.1))], h := [.row (.ints .i64 s_.2)] } k) = fun s_ => optC (S.l13Grow_r_run9 x0 x2 x7 n s_) (fun (r : ((List Int) × (List Int)) ⊕ (List Int)) => (sumC r (fun (r : (List Int) × (List Int)) => k (.ret) { n := 59, t := [(6, (.own 1))], h := [.row (.ints .i64 r.1), .row (.ints .i64 r.2)] }) (fun (r : List Int) => k (.exit 2) { n := 59, t := [(6, .junk)], h := [.row (.ints .i64 r)] }))) none := funext ih
    rw [hu, hs]
    exact (S.l13Grow_r_step9_nat (fun o => optC o (fun (r : ((List Int) × (List Int)) ⊕ (List Int)) => (sumC r (fun (r : (List Int) × (List Int)) => k (.ret) { n := 59, t := [(6, (.own 1))], h := [.row (.ints .i64 r.1), .row (.ints .i64 r.2)] }) (fun (r : List Int) => k (.exit 2) { n := 59, t := [(6, .junk)], h := [.row (.ints .i64 r)] }))) none) x0 x2 x7 s_.1 s_.2 (S.l13Grow_r_run9 x0 x2 x7 n) (fun d => some ((Sum.inl d))) (fun d => some ((Sum.inr d))) none).symm
noncomputable def S.l13Grow_r_tree {α : Type} (net : List Int) (row : List Int) (most : Int) (leaf0_ : List Int → α) (leaf1_ : (List Int) × (List Int) → α) (fail_ : α) : α :=
  (bif (↑row.length : Int) == (↑net.length : Int) then (leaf0_ row) else (optC (S.l13Grow_r_run5 net most FUEL (0, 0, row)) (fun qy_1 => (optC (S.l13Grow_r_run9 net most qy_1.1 FUEL (0, qy_1.2)) (fun qy_6 => (sumC qy_6 (fun (qy_6 : (List Int) × (List Int)) => (leaf1_ (qy_6.1, qy_6.2))) (fun (qy_6 : List Int) => (leaf1_ (qy_6, []))))) fail_)) fail_))
theorem S.l13Grow_r_tree_nat {α γ : Type} (g : α → γ) (net : List Int) (row : List Int) (most : Int) (leaf0_ : List Int → α) (leaf1_ : (List Int) × (List Int) → α) (fail_ : α) : g (S.l13Grow_r_tree net row most leaf0_ leaf1_ fail_) = S.l13Grow_r_tree net row most (fun d => g (leaf0_ d)) (fun d => g (leaf1_ d)) (g fail_) := by
  unfold S.l13Grow_r_tree; simp only [apply_cnd g, apply_optC g, apply_sumC g]
noncomputable def S.l13Grow_r_t (net : List Int) (row : List Int) (most : Int) : Option ((List Int) ⊕ ((List Int) × (List Int))) := S.l13Grow_r_tree net row most (fun d => some ((Sum.inl d))) (fun d => some ((Sum.inr d))) none
theorem S.l13Grow_r_den (net : List Int) (row : List Int) (most : Int) (κ : V → List E → R) : S.l13Grow_r_F [.ro false (.ints .i64 net), .own 0, .int .i64 most] [.row (.ints .i64 row)] κ = optC (S.l13Grow_r_t net row most) (fun (r : (List Int) ⊕ ((List Int) × (List Int))) => (sumC r (fun (r : List Int) => κ (.own 0) [.row (.ints .i64 r)]) (fun (r : (List Int) × (List Int)) => κ (.own 1) [.row (.ints .i64 r.1), .row (.ints .i64 r.2)]))) none := by
  have hu : S.l13Grow_r_F [.ro false (.ints .i64 net), .own 0, .int .i64 most] [.row (.ints .i64 row)] κ = S.l13Grow_r_tree net row most (fun d => κ (.own 0) [.row (.ints .i64 d)]) (fun d => κ (.own 1) [.row (.ints .i64 d.1), .row (.ints .i64 d.2)]) none := by
    refine Eq.trans (show S.l13Grow_r_F [.ro false (.ints .i64 net), .own 0, .int .i64 most] [.row (.ints .i64 row)] κ = (bif (↑row.length : Int) == (↑net.length : Int) then (κ (.own 0) [.row (.ints .i64 row)]) else (S.l13Grow_r_L5 FUEL { n := 59, t := [(0, (.ro false (.ints .i64 net))), (1, (.own 0)), (2, (.int .i64 most)), (7, (.int .i64 0)), (8, (.int .i64 0))], h := [.row (.ints .i64 row)] } (S.l13Grow_r_k5 κ))) by kernel_rfl) ?_
    refine cnd_congr ?_ ?_
    · kernel_rfl
    · refine (S.l13Grow_r_L5_run net most FUEL (0, 0, row) (S.l13Grow_r_k5 κ)).trans (optC_congr (fun qy_1 => ?_))
      refine Eq.trans (show (S.l13Grow_r_k5 κ (.exit 0) { n := 59, t := [(0, (.ro false (.ints .i64 net))), (1, (.own 0)), (2, (.int .i64 most)), (7, (.int .i64 qy_1.1))], h := [.row (.ints .i64 qy_1.2)] }) = (S.l13Grow_r_L9 FUEL { n := 59, t := [(0, (.ro false (.ints .i64 net))), (1, (.own 0)), (2, (.int .i64 most)), (7, (.int .i64 qy_1.1)), (9, (.int .i64 0))], h := [.row (.ints .i64 qy_1.2)] } (S.l13Grow_r_k9 κ)) by kernel_rfl) ?_
      refine (S.l13Grow_r_L9_run net most qy_1.1 FUEL (0, qy_1.2) (S.l13Grow_r_k9 κ)).trans (optC_congr (fun qy_6 => ?_))
      rcases qy_6 with qy_6 | qy_6
      · kernel_rfl
      · kernel_rfl
  rw [hu]
  exact (S.l13Grow_r_tree_nat (fun o => optC o (fun (r : (List Int) ⊕ ((List Int) × (List Int))) => (sumC r (fun (r : List Int) => κ (.own 0) [.row (.ints .i64 r)]) (fun (r : (List Int) × (List Int)) => κ (.own 1) [.row (.ints .i64 r.1), .row (.ints .i64 r.2)]))) none) net row most (fun d => some ((Sum.inl d))) (fun d => some ((Sum.inr d))) none).symm
noncomputable def S.l13Grow_r_s : D.Spec where
  keep := false
  pure := false
  add := false
  ds := [.int .i64, .pointer 0, .invalid]
  sp := fun args h κ => match args, h with
    | [.ro false (.ints .i64 net), .own 0, .int .i64 most], [.row (.ints .i64 row)] => optC (S.l13Grow_r_t net row most) (fun (r : (List Int) ⊕ ((List Int) × (List Int))) => (sumC r (fun (r : List Int) => κ (.own 0) [.row (.ints .i64 r)]) (fun (r : (List Int) × (List Int)) => κ (.own 1) [.row (.ints .i64 r.1), .row (.ints .i64 r.2)]))) none
    | _, _ => none
theorem S.l13Grow_r_ok (hrec_ : SpecOk Try.prog 51 S.l13Grow_r0_s) : SpecOk Try.prog 51 S.l13Grow_r_s := by
  refine SpecOk.of TDok mixed (T := S.l13Grow_r_T) ?_ (ann := S.l13Grow_r_ann) Try.func51 rfl (by decide +kernel) ?_ ?_ ?_ ?_
  · intro p hp
    simp only [S.l13Grow_r_T, List.mem_cons, List.not_mem_nil, or_false] at hp
    rcases hp with rfl | rfl | rfl
    · exact S.l13Set_ok
    · exact S.l13Clique_ok
    · exact hrec_
  · intro args h κ r hh
    simp only [S.l13Grow_r_s] at hh
    split at hh
    · exact (S.l13Grow_r_den _ _ _ κ).trans hh
    · cases hh
  · intro args h κ r hh
    simp only [S.l13Grow_r_s] at hh ⊢
    split at hh
    · exact optC_law2 (F := fun (r : (List Int) ⊕ ((List Int) × (List Int))) κ => (sumC r (fun (r : List Int) => κ (.own 0) [.row (.ints .i64 r)]) (fun (r : (List Int) × (List Int)) => κ (.own 1) [.row (.ints .i64 r.1), .row (.ints .i64 r.2)]))) (fun b κ r hb => by rcases b with b | b <;> exact ⟨_, _, hb, fun _ => rfl⟩) hh
    · cases hh
  · intro hh; cases hh
  · intro hh; cases hh
end
noncomputable def S.l13Grow_td : Nat → (List Int) → (List Int) → Int → Option ((List Int) ⊕ ((List Int) × (List Int)))
  | 0 => fun _ _ _ => none
  | d + 1 => @S.l13Grow_r_t ⟨S.l13Grow_td d⟩
noncomputable def S.l13Grow_t (net : List Int) (row : List Int) (most : Int) : Option ((List Int) ⊕ ((List Int) × (List Int))) := S.l13Grow_td FUEL net row most
noncomputable def S.l13Grow_s : D.Spec where
  keep := false
  pure := false
  add := false
  ds := [.int .i64, .pointer 0, .invalid]
  sp := fun args h κ => match args, h with
    | [.ro false (.ints .i64 net), .own 0, .int .i64 most], [.row (.ints .i64 row)] => optC (S.l13Grow_t net row most) (fun (r : (List Int) ⊕ ((List Int) × (List Int))) => sumC r (fun (r : List Int) => κ (.own 0) [.row (.ints .i64 r)]) (fun (r : (List Int) × (List Int)) => κ (.own 1) [.row (.ints .i64 r.1), .row (.ints .i64 r.2)])) none
    | _, _ => none
theorem S.l13Grow_okd : ∀ d : Nat, SpecOk Try.prog 51 (@S.l13Grow_r0_s ⟨S.l13Grow_td d⟩)
  | 0 => SpecOk.zero Try.func51 rfl (by decide +kernel) (fun args h κ => by
      simp only [S.l13Grow_r0_s]
      split
      · rfl
      · rfl)
  | d + 1 => @S.l13Grow_r_ok ⟨S.l13Grow_td d⟩ (S.l13Grow_okd d)
theorem S.l13Grow_ok : SpecOk Try.prog 51 S.l13Grow_s := S.l13Grow_okd FUEL

-- loop.example/guardsonnets/spec.CliqueRow
noncomputable def S.CliqueRow_T : List (Nat × D.Spec) := [(29, S.NetOk_s), (51, S.l13Grow_s)]
def S.CliqueRow_ann : Nat → List Nat × List Nat
  | 3 => ([0, 3, 4], [3])
  | _ => ([], [])
noncomputable def S.CliqueRow_F (args : List V) (h : List E) (κ : V → List E → R) : R := funC TD (tableK S.CliqueRow_T) S.CliqueRow_ann (drawOk TD (tableP S.CliqueRow_T)) FUEL Try.f30 args h κ
noncomputable def S.CliqueRow_L3 (n : Nat) (σ : St) (k : X → St → R) : R := iterC 0 (fun σ k => denC TD (tableK S.CliqueRow_T) S.CliqueRow_ann (drawOk TD (tableP S.CliqueRow_T)) 0 FUEL ((findLoop 3 (Try.f30.body.getD .skip)).getD .skip) σ k) [0, 3, 4] [3] n σ k
noncomputable def S.CliqueRow_k3 (κ : V → List E → R) : X → St → R := (afterC TD (tableK S.CliqueRow_T) S.CliqueRow_ann (drawOk TD (tableP S.CliqueRow_T)) 0 FUEL 3 (Try.f30.body.getD .skip) (finC TD 0 Try.f30 κ)).getD (fun _ _ => none)
noncomputable def S.CliqueRow_step3 {α : Type} (x0 : List Int) (x4 : Int) (r0 : List Int) (next_ : Int × (List Int) → α) (out0_ : List Int → α) (fail_ : α) : α :=
  (optC (S.NetOk_t x0) (fun c_1 => (bif c_1 then (bif (↑r0.length : Int) == 0 then (optC (S.l13Grow_t x0 [] x4) (fun c_2 => (sumC c_2 (fun c_3 => (next_ (IntKind.i64.wrap (x4 + 1), c_3))) (fun c_3 => (next_ (IntKind.i64.wrap (x4 + 1), c_3.snd))))) fail_) else (out0_ r0)) else (out0_ r0))) fail_)
theorem S.CliqueRow_step3_nat {α γ : Type} (g : α → γ) (x0 : List Int) (x4 : Int) (r0 : List Int) (next_ : Int × (List Int) → α) (out0_ : List Int → α) (fail_ : α) : g (S.CliqueRow_step3 x0 x4 r0 next_ out0_ fail_) = S.CliqueRow_step3 x0 x4 r0 (fun s => g (next_ s)) (fun d => g (out0_ d)) (g fail_) := by
  unfold S.CliqueRow_step3; simp only [apply_cnd g, apply_optC g, apply_sumC g]
noncomputable def S.CliqueRow_run3 (x0 : List Int) : Nat → Int × (List Int) → Option (List Int)
  | 0, _ => none
  | n + 1, s_ => S.CliqueRow_step3 x0 s_.1 s_.2 (S.CliqueRow_run3 x0 n) (fun d => some d) none
theorem S.CliqueRow_L3_run (x0 : List Int) (n : Nat) (s_ : Int × (List Int)) (k : X → St → R) : S.CliqueRow_L3 n { n := 20, t := [(0, (.ro false (.ints .i64 x0))), (3, (.own 0)), (4, (.int .i64 s_.1))], h := [.row (.ints .i64 s_.2)] } k = optC (S.CliqueRow_run3 x0 n s_) (fun (r : List Int) => k (.exit 0) { n := 20, t := [(3, (.own 0))], h := [.row (.ints .i64 r)] }) none := by
  induction n generalizing s_ with
  | zero => rfl
  | succ n ih =>
    have hu : S.CliqueRow_L3 (n + 1) { n := 20, t := [(0, (.ro false (.ints .i64 x0))), (3, (.own 0)), (4, (.int .i64 s_.1))], h := [.row (.ints .i64 s_.2)] } k = S.CliqueRow_step3 x0 s_.1 s_.2 (fun s_ => S.CliqueRow_L3 n { n := 20, t := [(0, (.ro false (.ints .i64 x0))), (3, (.own 0)), (4, (.int .i64 s_.1))], h := [.row (.ints .i64 s_.2)] } k) (fun d => k (.exit 0) { n := 20, t := [(3, (.own 0))], h := [.row (.ints .i64 d)] }) none := by
      kernel_rfl
    have hs : (fun s_ : Int × (List Int) => S.CliqueRow_L3 n { n := 20, t := [(0, (.ro false (.ints .i64 x0))), (3, (.own 0)), (4, (.int .i64 s_.1))], h := [.row (.ints .i64 s_.2)] } k) = fun s_ => optC (S.CliqueRow_run3 x0 n s_) (fun (r : List Int) => k (.exit 0) { n := 20, t := [(3, (.own 0))], h := [.row (.ints .i64 r)] }) none := funext ih
    rw [hu, hs]
    exact (S.CliqueRow_step3_nat (fun o => optC o (fun (r : List Int) => k (.exit 0) { n := 20, t := [(3, (.own 0))], h := [.row (.ints .i64 r)] }) none) x0 s_.1 s_.2 (S.CliqueRow_run3 x0 n) (fun d => some d) none).symm
noncomputable def S.CliqueRow_tree {α : Type} (net : List Int) (leaf0_ : List Int → α) (fail_ : α) : α :=
  (optC (S.CliqueRow_run3 net FUEL (1, [])) (fun qy_4 => (leaf0_ qy_4)) fail_)
theorem S.CliqueRow_tree_nat {α γ : Type} (g : α → γ) (net : List Int) (leaf0_ : List Int → α) (fail_ : α) : g (S.CliqueRow_tree net leaf0_ fail_) = S.CliqueRow_tree net (fun d => g (leaf0_ d)) (g fail_) := by
  unfold S.CliqueRow_tree; simp only [apply_cnd g, apply_optC g, apply_sumC g]
noncomputable def S.CliqueRow_t (net : List Int) : Option (List Int) := S.CliqueRow_tree net (fun d => some d) none
theorem S.CliqueRow_den (net : List Int) (κ : V → List E → R) : S.CliqueRow_F [.ro false (.ints .i64 net)] [] κ = optC (S.CliqueRow_t net) (fun (r : List Int) => κ (.own 0) [.row (.ints .i64 r)]) none := by
  have hu : S.CliqueRow_F [.ro false (.ints .i64 net)] [] κ = S.CliqueRow_tree net (fun d => κ (.own 0) [.row (.ints .i64 d)]) none := by
    refine Eq.trans (show S.CliqueRow_F [.ro false (.ints .i64 net)] [] κ = (S.CliqueRow_L3 FUEL { n := 20, t := [(0, (.ro false (.ints .i64 net))), (3, (.own 0)), (4, (.int .i64 1))], h := [.row (.ints .i64 ([]))] } (S.CliqueRow_k3 κ)) by kernel_rfl) ?_
    refine (S.CliqueRow_L3_run net FUEL (1, []) (S.CliqueRow_k3 κ)).trans (optC_congr (fun qy_4 => ?_))
    kernel_rfl
  rw [hu]
  exact (S.CliqueRow_tree_nat (fun o => optC o (fun (r : List Int) => κ (.own 0) [.row (.ints .i64 r)]) none) net (fun d => some d) none).symm
noncomputable def S.CliqueRow_s : D.Spec where
  keep := false
  pure := false
  add := true
  ds := [.int .i64]
  sp := fun args h κ => match args, h with
    | [.ro false (.ints .i64 net)], [] => optC (S.CliqueRow_t net) (fun (r : List Int) => κ (.own 0) [.row (.ints .i64 r)]) none
    | _, _ => none
theorem S.CliqueRow_ok : SpecOk Try.prog 30 S.CliqueRow_s := by
  refine SpecOk.of TDok mixed (T := S.CliqueRow_T) ?_ (ann := S.CliqueRow_ann) Try.func30 rfl (by decide +kernel) ?_ ?_ ?_ ?_
  · intro p hp
    simp only [S.CliqueRow_T, List.mem_cons, List.not_mem_nil, or_false] at hp
    rcases hp with rfl | rfl
    · exact S.NetOk_ok
    · exact S.l13Grow_ok
  · intro args h κ r hh
    simp only [S.CliqueRow_s] at hh
    split at hh
    · exact (S.CliqueRow_den _ κ).trans hh
    · cases hh
  · intro args h κ r hh
    simp only [S.CliqueRow_s] at hh ⊢
    split at hh
    · exact optC_law2 (F := fun (r : List Int) κ => κ (.own 0) [.row (.ints .i64 r)]) (fun b κ r hb => ⟨_, _, hb, fun _ => rfl⟩) hh
    · cases hh
  · intro hh; cases hh
  · intro _ args h κ r hh
    simp only [S.CliqueRow_s] at hh
    split at hh
    · rfl
    · cases hh

-- loop.example/guardsonnets/spec.FewestCliques
noncomputable def S.FewestCliques_T : List (Nat × D.Spec) := [(29, S.NetOk_s), (30, S.CliqueRow_s)]
def S.FewestCliques_ann : Nat → List Nat × List Nat
  | 6 => ([3, 4, 5], [4])
  | _ => ([], [])
noncomputable def S.FewestCliques_F (args : List V) (h : List E) (κ : V → List E → R) : R := funC TD (tableK S.FewestCliques_T) S.FewestCliques_ann (drawOk TD (tableP S.FewestCliques_T)) FUEL Try.f9 args h κ
noncomputable def S.FewestCliques_L6 (n : Nat) (σ : St) (k : X → St → R) : R := iterC 0 (fun σ k => denC TD (tableK S.FewestCliques_T) S.FewestCliques_ann (drawOk TD (tableP S.FewestCliques_T)) 0 FUEL ((findLoop 6 (Try.f9.body.getD .skip)).getD .skip) σ k) [3, 4, 5] [4] n σ k
noncomputable def S.FewestCliques_k6 (κ : V → List E → R) : X → St → R := (afterC TD (tableK S.FewestCliques_T) S.FewestCliques_ann (drawOk TD (tableP S.FewestCliques_T)) 0 FUEL 6 (Try.f9.body.getD .skip) (finC TD 0 Try.f9 κ)).getD (fun _ _ => none)
noncomputable def S.FewestCliques_step6 {α : Type} (x4 : Int) (x5 : Int) (r0 : List Int) (next_ : Int × Int × (List Int) → α) (out0_ : Int → α) (fail_ : α) : α :=
  (bif decide (x5 < (↑r0.length : Int)) then (bif decide (0 ≤ x5) && decide (x5 < (↑r0.length : Int)) then (bif decide (x5.toNat < r0.length) then (next_ (if IntKind.i64.wrap (eli r0 x5.toNat + 1) > x4 then IntKind.i64.wrap (eli r0 x5.toNat + 1) else x4, IntKind.i64.wrap (x5 + 1), r0)) else fail_) else fail_) else (out0_ x4))
theorem S.FewestCliques_step6_nat {α γ : Type} (g : α → γ) (x4 : Int) (x5 : Int) (r0 : List Int) (next_ : Int × Int × (List Int) → α) (out0_ : Int → α) (fail_ : α) : g (S.FewestCliques_step6 x4 x5 r0 next_ out0_ fail_) = S.FewestCliques_step6 x4 x5 r0 (fun s => g (next_ s)) (fun d => g (out0_ d)) (g fail_) := by
  unfold S.FewestCliques_step6; simp only [apply_cnd g, apply_optC g, apply_sumC g]
noncomputable def S.FewestCliques_run6 : Nat → Int × Int × (List Int) → Option (Int)
  | 0, _ => none
  | n + 1, s_ => S.FewestCliques_step6 s_.1 s_.2.1 s_.2.2 (S.FewestCliques_run6 n) (fun d => some d) none
theorem S.FewestCliques_L6_run (n : Nat) (s_ : Int × Int × (List Int)) (k : X → St → R) : S.FewestCliques_L6 n { n := 25, t := [(3, (.own 0)), (4, (.int .i64 s_.1)), (5, (.int .i64 s_.2.1))], h := [.row (.ints .i64 s_.2.2)] } k = optC (S.FewestCliques_run6 n s_) (fun (r : Int) => k (.exit 0) { n := 25, t := [(4, (.int .i64 r))], h := [] }) none := by
  induction n generalizing s_ with
  | zero => rfl
  | succ n ih =>
    have hu : S.FewestCliques_L6 (n + 1) { n := 25, t := [(3, (.own 0)), (4, (.int .i64 s_.1)), (5, (.int .i64 s_.2.1))], h := [.row (.ints .i64 s_.2.2)] } k = S.FewestCliques_step6 s_.1 s_.2.1 s_.2.2 (fun s_ => S.FewestCliques_L6 n { n := 25, t := [(3, (.own 0)), (4, (.int .i64 s_.1)), (5, (.int .i64 s_.2.1))], h := [.row (.ints .i64 s_.2.2)] } k) (fun d => k (.exit 0) { n := 25, t := [(4, (.int .i64 d))], h := [] }) none := by
      kernel_rfl
    have hs : (fun s_ : Int × Int × (List Int) => S.FewestCliques_L6 n { n := 25, t := [(3, (.own 0)), (4, (.int .i64 s_.1)), (5, (.int .i64 s_.2.1))], h := [.row (.ints .i64 s_.2.2)] } k) = fun s_ => optC (S.FewestCliques_run6 n s_) (fun (r : Int) => k (.exit 0) { n := 25, t := [(4, (.int .i64 r))], h := [] }) none := funext ih
    rw [hu, hs]
    exact (S.FewestCliques_step6_nat (fun o => optC o (fun (r : Int) => k (.exit 0) { n := 25, t := [(4, (.int .i64 r))], h := [] }) none) s_.1 s_.2.1 s_.2.2 (S.FewestCliques_run6 n) (fun d => some d) none).symm
noncomputable def S.FewestCliques_tree {α : Type} (net : List Int) (leaf0_ : Int → α) (fail_ : α) : α :=
  (optC (S.NetOk_t net) (fun c_1 => (bif !c_1 then (leaf0_ (-1)) else (optC (S.CliqueRow_t net) (fun c_2 => (optC (S.FewestCliques_run6 FUEL (0, 0, c_2)) (fun qy_3 => (leaf0_ qy_3)) fail_)) fail_))) fail_)
theorem S.FewestCliques_tree_nat {α γ : Type} (g : α → γ) (net : List Int) (leaf0_ : Int → α) (fail_ : α) : g (S.FewestCliques_tree net leaf0_ fail_) = S.FewestCliques_tree net (fun d => g (leaf0_ d)) (g fail_) := by
  unfold S.FewestCliques_tree; simp only [apply_cnd g, apply_optC g, apply_sumC g]
noncomputable def S.FewestCliques_t (net : List Int) : Option (Int) := S.FewestCliques_tree net (fun d => some d) none
theorem S.FewestCliques_den (net : List Int) (κ : V → List E → R) : S.FewestCliques_F [.ro false (.ints .i64 net)] [] κ = optC (S.FewestCliques_t net) (fun (r : Int) => κ (.int .i64 r) []) none := by
  have hu : S.FewestCliques_F [.ro false (.ints .i64 net)] [] κ = S.FewestCliques_tree net (fun d => κ (.int .i64 d) []) none := by
    refine Eq.trans (show S.FewestCliques_F [.ro false (.ints .i64 net)] [] κ = (optC (S.NetOk_t net) (fun c_1 => (bif !c_1 then (κ (.int .i64 (-1)) []) else (optC (S.CliqueRow_t net) (fun c_2 => (S.FewestCliques_L6 FUEL { n := 25, t := [(3, (.own 0)), (4, (.int .i64 0)), (5, (.int .i64 0))], h := [.row (.ints .i64 c_2)] } (S.FewestCliques_k6 κ))) none))) none) by kernel_rfl) ?_
    refine optC_congr (fun c_1 => ?_)
    refine cnd_congr ?_ ?_
    · kernel_rfl
    · refine optC_congr (fun c_2 => ?_)
      refine (S.FewestCliques_L6_run FUEL (0, 0, c_2) (S.FewestCliques_k6 κ)).trans (optC_congr (fun qy_3 => ?_))
      kernel_rfl
  rw [hu]
  exact (S.FewestCliques_tree_nat (fun o => optC o (fun (r : Int) => κ (.int .i64 r) []) none) net (fun d => some d) none).symm
noncomputable def S.FewestCliques_s : D.Spec where
  keep := false
  pure := true
  add := true
  ds := [.int .i64]
  sp := fun args h κ => match args, h with
    | [.ro false (.ints .i64 net)], [] => optC (S.FewestCliques_t net) (fun (r : Int) => κ (.int .i64 r) []) none
    | _, _ => none
theorem S.FewestCliques_ok : SpecOk Try.prog 9 S.FewestCliques_s := by
  refine SpecOk.of TDok mixed (T := S.FewestCliques_T) ?_ (ann := S.FewestCliques_ann) Try.func9 rfl (by decide +kernel) ?_ ?_ ?_ ?_
  · intro p hp
    simp only [S.FewestCliques_T, List.mem_cons, List.not_mem_nil, or_false] at hp
    rcases hp with rfl | rfl
    · exact S.NetOk_ok
    · exact S.CliqueRow_ok
  · intro args h κ r hh
    simp only [S.FewestCliques_s] at hh
    split at hh
    · exact (S.FewestCliques_den _ κ).trans hh
    · cases hh
  · intro args h κ r hh
    simp only [S.FewestCliques_s] at hh ⊢
    split at hh
    · exact optC_law2 (F := fun (r : Int) κ => κ (.int .i64 r) []) (fun b κ r hb => ⟨_, _, hb, fun _ => rfl⟩) hh
    · cases hh
  · intro _ args h κ r hh
    simp only [S.FewestCliques_s] at hh
    split at hh
    · exact ⟨rfl, fun _ => rfl⟩
    · cases hh
  · intro _ args h κ r hh
    simp only [S.FewestCliques_s] at hh
    split at hh
    · rfl
    · cases hh

-- loop.example/guardsonnets/laws.alive
noncomputable def L.alive_T : List (Nat × D.Spec) := [(10, I.NetOk_s)]
def L.alive_ann : Nat → List Nat × List Nat
  | _ => ([], [])
noncomputable def L.alive_F (args : List V) (h : List E) (κ : V → List E → R) : R := funC TD (tableK L.alive_T) L.alive_ann (drawOk TD (tableP L.alive_T)) FUEL Try.f11 args h κ
noncomputable def L.alive_tree {α : Type} (leaf0_ : Bool → α) (fail_ : α) : α :=
  (optC (I.NetOk_t [2, 1]) (fun c_1 => (bif c_1 then (optC (I.NetOk_t [1]) (fun c_2 => (leaf0_ (!c_2))) fail_) else (leaf0_ false))) fail_)
theorem L.alive_tree_nat {α γ : Type} (g : α → γ) (leaf0_ : Bool → α) (fail_ : α) : g (L.alive_tree leaf0_ fail_) = L.alive_tree (fun d => g (leaf0_ d)) (g fail_) := by
  unfold L.alive_tree; simp only [apply_cnd g, apply_optC g, apply_sumC g]
noncomputable def L.alive_t : Option (Bool) := L.alive_tree (fun d => some d) none
theorem L.alive_den (κ : V → List E → R) : L.alive_F [] [] κ = optC (L.alive_t) (fun (r : Bool) => κ (.bool r) []) none := by
  have hu : L.alive_F [] [] κ = L.alive_tree (fun d => κ (.bool d) []) none := by
    kernel_rfl
  rw [hu]
  exact (L.alive_tree_nat (fun o => optC o (fun (r : Bool) => κ (.bool r) []) none) (fun d => some d) none).symm
noncomputable def L.alive_s : D.Spec where
  keep := false
  pure := true
  add := true
  ds := []
  sp := fun args h κ => match args, h with
    | [], [] => optC (L.alive_t) (fun (r : Bool) => κ (.bool r) []) none
    | _, _ => none
theorem L.alive_ok : SpecOk Try.prog 11 L.alive_s := by
  refine SpecOk.of TDok mixed (T := L.alive_T) ?_ (ann := L.alive_ann) Try.func11 rfl (by decide +kernel) ?_ ?_ ?_ ?_
  · intro p hp
    simp only [L.alive_T, List.mem_cons, List.not_mem_nil, or_false] at hp
    rcases hp with rfl
    · exact I.NetOk_ok
  · intro args h κ r hh
    simp only [L.alive_s] at hh
    split at hh
    · exact (L.alive_den κ).trans hh
    · cases hh
  · intro args h κ r hh
    simp only [L.alive_s] at hh ⊢
    split at hh
    · exact optC_law2 (F := fun (r : Bool) κ => κ (.bool r) []) (fun b κ r hb => ⟨_, _, hb, fun _ => rfl⟩) hh
    · cases hh
  · intro _ args h κ r hh
    simp only [L.alive_s] at hh
    split at hh
    · exact ⟨rfl, fun _ => rfl⟩
    · cases hh
  · intro _ args h κ r hh
    simp only [L.alive_s] at hh
    split at hh
    · rfl
    · cases hh

-- loop.example/guardsonnets/impl.allOf
noncomputable def I.allOf_T : List (Nat × D.Spec) := []
def I.allOf_ann : Nat → List Nat × List Nat
  | _ => ([], [])
noncomputable def I.allOf_F (args : List V) (h : List E) (κ : V → List E → R) : R := funC TD (tableK I.allOf_T) I.allOf_ann (drawOk TD (tableP I.allOf_T)) FUEL Try.f34 args h κ
noncomputable def I.allOf_tree {α : Type} (net : List Int) (leaf0_ : Int → α) (fail_ : α) : α :=
  (leaf0_ (IntKind.i64.wrap (IntKind.i64.wrap (1 * 2 ^ min (↑net.length : Int).toNat IntKind.i64.bits) - 1)))
theorem I.allOf_tree_nat {α γ : Type} (g : α → γ) (net : List Int) (leaf0_ : Int → α) (fail_ : α) : g (I.allOf_tree net leaf0_ fail_) = I.allOf_tree net (fun d => g (leaf0_ d)) (g fail_) := by
  unfold I.allOf_tree; simp only [apply_cnd g, apply_optC g, apply_sumC g]
noncomputable def I.allOf_t (net : List Int) : Option (Int) := I.allOf_tree net (fun d => some d) none
theorem I.allOf_den (net : List Int) (κ : V → List E → R) : I.allOf_F [.ro false (.ints .i64 net)] [] κ = optC (I.allOf_t net) (fun (r : Int) => κ (.int .i64 r) []) none := by
  have hu : I.allOf_F [.ro false (.ints .i64 net)] [] κ = I.allOf_tree net (fun d => κ (.int .i64 d) []) none := by
    kernel_rfl
  rw [hu]
  exact (I.allOf_tree_nat (fun o => optC o (fun (r : Int) => κ (.int .i64 r) []) none) net (fun d => some d) none).symm
noncomputable def I.allOf_s : D.Spec where
  keep := false
  pure := true
  add := true
  ds := [.int .i64]
  sp := fun args h κ => match args, h with
    | [.ro false (.ints .i64 net)], [] => optC (I.allOf_t net) (fun (r : Int) => κ (.int .i64 r) []) none
    | _, _ => none
theorem I.allOf_ok : SpecOk Try.prog 34 I.allOf_s := by
  refine SpecOk.of TDok mixed (T := I.allOf_T) ?_ (ann := I.allOf_ann) Try.func34 rfl (by decide +kernel) ?_ ?_ ?_ ?_
  · intro p hp; cases hp
  · intro args h κ r hh
    simp only [I.allOf_s] at hh
    split at hh
    · exact (I.allOf_den _ κ).trans hh
    · cases hh
  · intro args h κ r hh
    simp only [I.allOf_s] at hh ⊢
    split at hh
    · exact optC_law2 (F := fun (r : Int) κ => κ (.int .i64 r) []) (fun b κ r hb => ⟨_, _, hb, fun _ => rfl⟩) hh
    · cases hh
  · intro _ args h κ r hh
    simp only [I.allOf_s] at hh
    split at hh
    · exact ⟨rfl, fun _ => rfl⟩
    · cases hh
  · intro _ args h κ r hh
    simp only [I.allOf_s] at hh
    split at hh
    · rfl
    · cases hh

-- loop.example/guardsonnets/impl.sizeOf
noncomputable def I.sizeOf_T : List (Nat × D.Spec) := []
def I.sizeOf_ann : Nat → List Nat × List Nat
  | 3 => ([0, 3, 4], [3])
  | _ => ([], [])
noncomputable def I.sizeOf_F (args : List V) (h : List E) (κ : V → List E → R) : R := funC TD (tableK I.sizeOf_T) I.sizeOf_ann (drawOk TD (tableP I.sizeOf_T)) FUEL Try.f35 args h κ
noncomputable def I.sizeOf_L3 (n : Nat) (σ : St) (k : X → St → R) : R := iterC 0 (fun σ k => denC TD (tableK I.sizeOf_T) I.sizeOf_ann (drawOk TD (tableP I.sizeOf_T)) 0 FUEL ((findLoop 3 (Try.f35.body.getD .skip)).getD .skip) σ k) [0, 3, 4] [3] n σ k
noncomputable def I.sizeOf_k3 (κ : V → List E → R) : X → St → R := (afterC TD (tableK I.sizeOf_T) I.sizeOf_ann (drawOk TD (tableP I.sizeOf_T)) 0 FUEL 3 (Try.f35.body.getD .skip) (finC TD 0 Try.f35 κ)).getD (fun _ _ => none)
noncomputable def I.sizeOf_step3 {α : Type} (x0 : Int) (x3 : Int) (x4 : Int) (next_ : Int × Int → α) (out0_ : Int → α) (fail_ : α) : α :=
  (bif decide (x4 < 6) then (bif decide (x4 < 0) then fail_ else (next_ (IntKind.i64.wrap (x3 + bits BinOp.and IntKind.i64 (x0.fdiv (2 ^ min x4.toNat IntKind.i64.bits)) 1), IntKind.i64.wrap (x4 + 1)))) else (out0_ x3))
theorem I.sizeOf_step3_nat {α γ : Type} (g : α → γ) (x0 : Int) (x3 : Int) (x4 : Int) (next_ : Int × Int → α) (out0_ : Int → α) (fail_ : α) : g (I.sizeOf_step3 x0 x3 x4 next_ out0_ fail_) = I.sizeOf_step3 x0 x3 x4 (fun s => g (next_ s)) (fun d => g (out0_ d)) (g fail_) := by
  unfold I.sizeOf_step3; simp only [apply_cnd g, apply_optC g, apply_sumC g]
noncomputable def I.sizeOf_run3 (x0 : Int) : Nat → Int × Int → Option (Int)
  | 0, _ => none
  | n + 1, s_ => I.sizeOf_step3 x0 s_.1 s_.2 (I.sizeOf_run3 x0 n) (fun d => some d) none
theorem I.sizeOf_L3_run (x0 : Int) (n : Nat) (s_ : Int × Int) (k : X → St → R) : I.sizeOf_L3 n { n := 16, t := [(0, (.int .i64 x0)), (3, (.int .i64 s_.1)), (4, (.int .i64 s_.2))], h := [] } k = optC (I.sizeOf_run3 x0 n s_) (fun (r : Int) => k (.exit 0) { n := 16, t := [(3, (.int .i64 r))], h := [] }) none := by
  induction n generalizing s_ with
  | zero => rfl
  | succ n ih =>
    have hu : I.sizeOf_L3 (n + 1) { n := 16, t := [(0, (.int .i64 x0)), (3, (.int .i64 s_.1)), (4, (.int .i64 s_.2))], h := [] } k = I.sizeOf_step3 x0 s_.1 s_.2 (fun s_ => I.sizeOf_L3 n { n := 16, t := [(0, (.int .i64 x0)), (3, (.int .i64 s_.1)), (4, (.int .i64 s_.2))], h := [] } k) (fun d => k (.exit 0) { n := 16, t := [(3, (.int .i64 d))], h := [] }) none := by
      kernel_rfl
    have hs : (fun s_ : Int × Int => I.sizeOf_L3 n { n := 16, t := [(0, (.int .i64 x0)), (3, (.int .i64 s_.1)), (4, (.int .i64 s_.2))], h := [] } k) = fun s_ => optC (I.sizeOf_run3 x0 n s_) (fun (r : Int) => k (.exit 0) { n := 16, t := [(3, (.int .i64 r))], h := [] }) none := funext ih
    rw [hu, hs]
    exact (I.sizeOf_step3_nat (fun o => optC o (fun (r : Int) => k (.exit 0) { n := 16, t := [(3, (.int .i64 r))], h := [] }) none) x0 s_.1 s_.2 (I.sizeOf_run3 x0 n) (fun d => some d) none).symm
noncomputable def I.sizeOf_tree {α : Type} (set_ : Int) (leaf0_ : Int → α) (fail_ : α) : α :=
  (optC (I.sizeOf_run3 set_ FUEL (0, 0)) (fun qy_1 => (leaf0_ qy_1)) fail_)
theorem I.sizeOf_tree_nat {α γ : Type} (g : α → γ) (set_ : Int) (leaf0_ : Int → α) (fail_ : α) : g (I.sizeOf_tree set_ leaf0_ fail_) = I.sizeOf_tree set_ (fun d => g (leaf0_ d)) (g fail_) := by
  unfold I.sizeOf_tree; simp only [apply_cnd g, apply_optC g, apply_sumC g]
noncomputable def I.sizeOf_t (set_ : Int) : Option (Int) := I.sizeOf_tree set_ (fun d => some d) none
theorem I.sizeOf_den (set_ : Int) (κ : V → List E → R) : I.sizeOf_F [.int .i64 set_] [] κ = optC (I.sizeOf_t set_) (fun (r : Int) => κ (.int .i64 r) []) none := by
  have hu : I.sizeOf_F [.int .i64 set_] [] κ = I.sizeOf_tree set_ (fun d => κ (.int .i64 d) []) none := by
    refine Eq.trans (show I.sizeOf_F [.int .i64 set_] [] κ = (I.sizeOf_L3 FUEL { n := 16, t := [(0, (.int .i64 set_)), (3, (.int .i64 0)), (4, (.int .i64 0))], h := [] } (I.sizeOf_k3 κ)) by kernel_rfl) ?_
    refine (I.sizeOf_L3_run set_ FUEL (0, 0) (I.sizeOf_k3 κ)).trans (optC_congr (fun qy_1 => ?_))
    kernel_rfl
  rw [hu]
  exact (I.sizeOf_tree_nat (fun o => optC o (fun (r : Int) => κ (.int .i64 r) []) none) set_ (fun d => some d) none).symm
noncomputable def I.sizeOf_s : D.Spec where
  keep := false
  pure := true
  add := true
  ds := [.invalid]
  sp := fun args h κ => match args, h with
    | [.int .i64 set_], [] => optC (I.sizeOf_t set_) (fun (r : Int) => κ (.int .i64 r) []) none
    | _, _ => none
theorem I.sizeOf_ok : SpecOk Try.prog 35 I.sizeOf_s := by
  refine SpecOk.of TDok mixed (T := I.sizeOf_T) ?_ (ann := I.sizeOf_ann) Try.func35 rfl (by decide +kernel) ?_ ?_ ?_ ?_
  · intro p hp; cases hp
  · intro args h κ r hh
    simp only [I.sizeOf_s] at hh
    split at hh
    · exact (I.sizeOf_den _ κ).trans hh
    · cases hh
  · intro args h κ r hh
    simp only [I.sizeOf_s] at hh ⊢
    split at hh
    · exact optC_law2 (F := fun (r : Int) κ => κ (.int .i64 r) []) (fun b κ r hb => ⟨_, _, hb, fun _ => rfl⟩) hh
    · cases hh
  · intro _ args h κ r hh
    simp only [I.sizeOf_s] at hh
    split at hh
    · exact ⟨rfl, fun _ => rfl⟩
    · cases hh
  · intro _ args h κ r hh
    simp only [I.sizeOf_s] at hh
    split at hh
    · rfl
    · cases hh

-- loop.example/guardsonnets/impl.nextTo
noncomputable def I.nextTo_T : List (Nat × D.Spec) := [(32, I.hasPlace_s)]
def I.nextTo_ann : Nat → List Nat × List Nat
  | 3 => ([0, 1, 5, 6], [5])
  | _ => ([], [])
noncomputable def I.nextTo_F (args : List V) (h : List E) (κ : V → List E → R) : R := funC TD (tableK I.nextTo_T) I.nextTo_ann (drawOk TD (tableP I.nextTo_T)) FUEL Try.f52 args h κ
noncomputable def I.nextTo_L3 (n : Nat) (σ : St) (k : X → St → R) : R := iterC 0 (fun σ k => denC TD (tableK I.nextTo_T) I.nextTo_ann (drawOk TD (tableP I.nextTo_T)) 0 FUEL ((findLoop 3 (Try.f52.body.getD .skip)).getD .skip) σ k) [0, 1, 5, 6] [5] n σ k
noncomputable def I.nextTo_k3 (κ : V → List E → R) : X → St → R := (afterC TD (tableK I.nextTo_T) I.nextTo_ann (drawOk TD (tableP I.nextTo_T)) 0 FUEL 3 (Try.f52.body.getD .skip) (finC TD 0 Try.f52 κ)).getD (fun _ _ => none)
noncomputable def I.nextTo_step3 {α : Type} (x0 : List Int) (x1 : Int) (x5 : Int) (x6 : Int) (next_ : Int × Int → α) (out0_ : Int → α) (fail_ : α) : α :=
  (bif decide (x6 < (↑x0.length : Int)) then (optC (I.hasPlace_t x1 x6) (fun c_1 => (bif c_1 then (bif decide (0 ≤ x6) && decide (x6 < (↑x0.length : Int)) then (next_ (bits BinOp.or IntKind.i64 x5 (eli x0 x6.toNat), IntKind.i64.wrap (x6 + 1))) else fail_) else (next_ (x5, IntKind.i64.wrap (x6 + 1))))) fail_) else (out0_ x5))
theorem I.nextTo_step3_nat {α γ : Type} (g : α → γ) (x0 : List Int) (x1 : Int) (x5 : Int) (x6 : Int) (next_ : Int × Int → α) (out0_ : Int → α) (fail_ : α) : g (I.nextTo_step3 x0 x1 x5 x6 next_ out0_ fail_) = I.nextTo_step3 x0 x1 x5 x6 (fun s => g (next_ s)) (fun d => g (out0_ d)) (g fail_) := by
  unfold I.nextTo_step3; simp only [apply_cnd g, apply_optC g, apply_sumC g]
noncomputable def I.nextTo_run3 (x0 : List Int) (x1 : Int) : Nat → Int × Int → Option (Int)
  | 0, _ => none
  | n + 1, s_ => I.nextTo_step3 x0 x1 s_.1 s_.2 (I.nextTo_run3 x0 x1 n) (fun d => some d) none
theorem I.nextTo_L3_run (x0 : List Int) (x1 : Int) (n : Nat) (s_ : Int × Int) (k : X → St → R) : I.nextTo_L3 n { n := 23, t := [(0, (.ro false (.ints .i64 x0))), (1, (.int .i64 x1)), (5, (.int .i64 s_.1)), (6, (.int .i64 s_.2))], h := [] } k = optC (I.nextTo_run3 x0 x1 n s_) (fun (r : Int) => k (.exit 0) { n := 23, t := [(5, (.int .i64 r))], h := [] }) none := by
  induction n generalizing s_ with
  | zero => rfl
  | succ n ih =>
    have hu : I.nextTo_L3 (n + 1) { n := 23, t := [(0, (.ro false (.ints .i64 x0))), (1, (.int .i64 x1)), (5, (.int .i64 s_.1)), (6, (.int .i64 s_.2))], h := [] } k = I.nextTo_step3 x0 x1 s_.1 s_.2 (fun s_ => I.nextTo_L3 n { n := 23, t := [(0, (.ro false (.ints .i64 x0))), (1, (.int .i64 x1)), (5, (.int .i64 s_.1)), (6, (.int .i64 s_.2))], h := [] } k) (fun d => k (.exit 0) { n := 23, t := [(5, (.int .i64 d))], h := [] }) none := by
      kernel_rfl
    have hs : (fun s_ : Int × Int => I.nextTo_L3 n { n := 23, t := [(0, (.ro false (.ints .i64 x0))), (1, (.int .i64 x1)), (5, (.int .i64 s_.1)), (6, (.int .i64 s_.2))], h := [] } k) = fun s_ => optC (I.nextTo_run3 x0 x1 n s_) (fun (r : Int) => k (.exit 0) { n := 23, t := [(5, (.int .i64 r))], h := [] }) none := funext ih
    rw [hu, hs]
    exact (I.nextTo_step3_nat (fun o => optC o (fun (r : Int) => k (.exit 0) { n := 23, t := [(5, (.int .i64 r))], h := [] }) none) x0 x1 s_.1 s_.2 (I.nextTo_run3 x0 x1 n) (fun d => some d) none).symm
noncomputable def I.nextTo_tree {α : Type} (net : List Int) (set_ : Int) (leaf0_ : Int → α) (fail_ : α) : α :=
  (optC (I.nextTo_run3 net set_ FUEL (0, 0)) (fun qy_2 => (leaf0_ qy_2)) fail_)
theorem I.nextTo_tree_nat {α γ : Type} (g : α → γ) (net : List Int) (set_ : Int) (leaf0_ : Int → α) (fail_ : α) : g (I.nextTo_tree net set_ leaf0_ fail_) = I.nextTo_tree net set_ (fun d => g (leaf0_ d)) (g fail_) := by
  unfold I.nextTo_tree; simp only [apply_cnd g, apply_optC g, apply_sumC g]
noncomputable def I.nextTo_t (net : List Int) (set_ : Int) : Option (Int) := I.nextTo_tree net set_ (fun d => some d) none
theorem I.nextTo_den (net : List Int) (set_ : Int) (κ : V → List E → R) : I.nextTo_F [.ro false (.ints .i64 net), .int .i64 set_] [] κ = optC (I.nextTo_t net set_) (fun (r : Int) => κ (.int .i64 r) []) none := by
  have hu : I.nextTo_F [.ro false (.ints .i64 net), .int .i64 set_] [] κ = I.nextTo_tree net set_ (fun d => κ (.int .i64 d) []) none := by
    refine Eq.trans (show I.nextTo_F [.ro false (.ints .i64 net), .int .i64 set_] [] κ = (I.nextTo_L3 FUEL { n := 23, t := [(0, (.ro false (.ints .i64 net))), (1, (.int .i64 set_)), (5, (.int .i64 0)), (6, (.int .i64 0))], h := [] } (I.nextTo_k3 κ)) by kernel_rfl) ?_
    refine (I.nextTo_L3_run net set_ FUEL (0, 0) (I.nextTo_k3 κ)).trans (optC_congr (fun qy_2 => ?_))
    kernel_rfl
  rw [hu]
  exact (I.nextTo_tree_nat (fun o => optC o (fun (r : Int) => κ (.int .i64 r) []) none) net set_ (fun d => some d) none).symm
noncomputable def I.nextTo_s : D.Spec where
  keep := false
  pure := true
  add := true
  ds := [.int .i64, .invalid]
  sp := fun args h κ => match args, h with
    | [.ro false (.ints .i64 net), .int .i64 set_], [] => optC (I.nextTo_t net set_) (fun (r : Int) => κ (.int .i64 r) []) none
    | _, _ => none
theorem I.nextTo_ok : SpecOk Try.prog 52 I.nextTo_s := by
  refine SpecOk.of TDok mixed (T := I.nextTo_T) ?_ (ann := I.nextTo_ann) Try.func52 rfl (by decide +kernel) ?_ ?_ ?_ ?_
  · intro p hp
    simp only [I.nextTo_T, List.mem_cons, List.not_mem_nil, or_false] at hp
    rcases hp with rfl
    · exact I.hasPlace_ok
  · intro args h κ r hh
    simp only [I.nextTo_s] at hh
    split at hh
    · exact (I.nextTo_den _ _ κ).trans hh
    · cases hh
  · intro args h κ r hh
    simp only [I.nextTo_s] at hh ⊢
    split at hh
    · exact optC_law2 (F := fun (r : Int) κ => κ (.int .i64 r) []) (fun b κ r hb => ⟨_, _, hb, fun _ => rfl⟩) hh
    · cases hh
  · intro _ args h κ r hh
    simp only [I.nextTo_s] at hh
    split at hh
    · exact ⟨rfl, fun _ => rfl⟩
    · cases hh
  · intro _ args h κ r hh
    simp only [I.nextTo_s] at hh
    split at hh
    · rfl
    · cases hh

-- loop.example/guardsonnets/impl.apartIn
noncomputable def I.apartIn_T : List (Nat × D.Spec) := [(52, I.nextTo_s)]
def I.apartIn_ann : Nat → List Nat × List Nat
  | _ => ([], [])
noncomputable def I.apartIn_F (args : List V) (h : List E) (κ : V → List E → R) : R := funC TD (tableK I.apartIn_T) I.apartIn_ann (drawOk TD (tableP I.apartIn_T)) FUEL Try.f36 args h κ
noncomputable def I.apartIn_tree {α : Type} (net : List Int) (set_ : Int) (leaf0_ : Bool → α) (fail_ : α) : α :=
  (optC (I.nextTo_t net set_) (fun c_1 => (leaf0_ (bits BinOp.and IntKind.i64 set_ c_1 == 0))) fail_)
theorem I.apartIn_tree_nat {α γ : Type} (g : α → γ) (net : List Int) (set_ : Int) (leaf0_ : Bool → α) (fail_ : α) : g (I.apartIn_tree net set_ leaf0_ fail_) = I.apartIn_tree net set_ (fun d => g (leaf0_ d)) (g fail_) := by
  unfold I.apartIn_tree; simp only [apply_cnd g, apply_optC g, apply_sumC g]
noncomputable def I.apartIn_t (net : List Int) (set_ : Int) : Option (Bool) := I.apartIn_tree net set_ (fun d => some d) none
theorem I.apartIn_den (net : List Int) (set_ : Int) (κ : V → List E → R) : I.apartIn_F [.ro false (.ints .i64 net), .int .i64 set_] [] κ = optC (I.apartIn_t net set_) (fun (r : Bool) => κ (.bool r) []) none := by
  have hu : I.apartIn_F [.ro false (.ints .i64 net), .int .i64 set_] [] κ = I.apartIn_tree net set_ (fun d => κ (.bool d) []) none := by
    kernel_rfl
  rw [hu]
  exact (I.apartIn_tree_nat (fun o => optC o (fun (r : Bool) => κ (.bool r) []) none) net set_ (fun d => some d) none).symm
noncomputable def I.apartIn_s : D.Spec where
  keep := false
  pure := true
  add := true
  ds := [.int .i64, .invalid]
  sp := fun args h κ => match args, h with
    | [.ro false (.ints .i64 net), .int .i64 set_], [] => optC (I.apartIn_t net set_) (fun (r : Bool) => κ (.bool r) []) none
    | _, _ => none
theorem I.apartIn_ok : SpecOk Try.prog 36 I.apartIn_s := by
  refine SpecOk.of TDok mixed (T := I.apartIn_T) ?_ (ann := I.apartIn_ann) Try.func36 rfl (by decide +kernel) ?_ ?_ ?_ ?_
  · intro p hp
    simp only [I.apartIn_T, List.mem_cons, List.not_mem_nil, or_false] at hp
    rcases hp with rfl
    · exact I.nextTo_ok
  · intro args h κ r hh
    simp only [I.apartIn_s] at hh
    split at hh
    · exact (I.apartIn_den _ _ κ).trans hh
    · cases hh
  · intro args h κ r hh
    simp only [I.apartIn_s] at hh ⊢
    split at hh
    · exact optC_law2 (F := fun (r : Bool) κ => κ (.bool r) []) (fun b κ r hb => ⟨_, _, hb, fun _ => rfl⟩) hh
    · cases hh
  · intro _ args h κ r hh
    simp only [I.apartIn_s] at hh
    split at hh
    · exact ⟨rfl, fun _ => rfl⟩
    · cases hh
  · intro _ args h κ r hh
    simp only [I.apartIn_s] at hh
    split at hh
    · rfl
    · cases hh


end Go.Proofs.Ytleianhibhpgpaa
