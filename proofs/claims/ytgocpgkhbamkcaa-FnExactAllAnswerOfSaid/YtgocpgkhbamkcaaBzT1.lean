/- Twins of the translated functions, with their proofs. Conditions: none. -/
import Derived.Test.YtgocpgkhbamkcaaBzTab
set_option linter.unusedVariables false
set_option linter.unusedSimpArgs false
set_option linter.unusedSectionVars false
namespace Go.Proofs.Ytgocpgkhbamkcaa
open D Go.RowKit
-- loop.example/guardsonnets/spec.l20Open
noncomputable def S.l20Open_T : List (Nat × D.Spec) := []
def S.l20Open_ann : Nat → List Nat × List Nat
  | _ => ([], [])
noncomputable def S.l20Open_F (args : List V) (h : List E) (κ : V → List E → R) : R := funC TD (tableK S.l20Open_T) S.l20Open_ann (drawOk (tableP S.l20Open_T)) FUEL Try.f36 args h κ
noncomputable def S.l20Open_tree {α : Type} (code : List Int) (leaf0_ : (List Int) × Int → α) (fail_ : α) : α :=
  (bif decide ((↑code.length : Int) > 2000) then (bif decide (2000 ≤ (↑code.length : Int)) then (leaf0_ (List.take (Int.toNat 2000) (List.drop 0 code), 0)) else fail_) else (leaf0_ (code, 0)))
theorem S.l20Open_tree_nat {α γ : Type} (g : α → γ) (code : List Int) (leaf0_ : (List Int) × Int → α) (fail_ : α) : g (S.l20Open_tree code leaf0_ fail_) = S.l20Open_tree code (fun d => g (leaf0_ d)) (g fail_) := by
  unfold S.l20Open_tree; simp only [apply_cnd g, apply_optC g, apply_sumC g]
noncomputable def S.l20Open_t (code : List Int) : Option ((List Int) × Int) := S.l20Open_tree code (fun d => some d) none
theorem S.l20Open_den (code : List Int) (κ : V → List E → R) : S.l20Open_F [.ro true (.ints .u8 code)] [] κ = optC (S.l20Open_t code) (fun (r : (List Int) × Int) => κ (.ptr 0 0) [.cells [(.ro true (.ints .u8 r.1)), (.int .i64 r.2)]]) none := by
  have hu : S.l20Open_F [.ro true (.ints .u8 code)] [] κ = S.l20Open_tree code (fun d => κ (.ptr 0 0) [.cells [(.ro true (.ints .u8 d.1)), (.int .i64 d.2)]]) none := by
    kernel_rfl
  rw [hu]
  exact (S.l20Open_tree_nat (fun o => optC o (fun (r : (List Int) × Int) => κ (.ptr 0 0) [.cells [(.ro true (.ints .u8 r.1)), (.int .i64 r.2)]]) none) code (fun d => some d) none).symm
noncomputable def S.l20Open_s : D.Spec where
  keep := true
  pure := false
  ds := [.int .u8]
  sp := fun args h κ => match args, h with
    | [.ro true (.ints .u8 code)], [] => optC (S.l20Open_t code) (fun (r : (List Int) × Int) => κ (.ptr 0 0) [.cells [(.ro true (.ints .u8 r.1)), (.int .i64 r.2)]]) none
    | _, _ => none
theorem S.l20Open_ok : SpecOk Try.prog 36 S.l20Open_s := by
  refine SpecOk.of TDok mixed (T := S.l20Open_T) ?_ (ann := S.l20Open_ann) Try.func36 rfl (by decide +kernel) ?_ ?_ ?_
  · intro p hp; cases hp
  · intro args h κ r hh
    simp only [S.l20Open_s] at hh
    split at hh
    · exact (S.l20Open_den _ κ).trans hh
    · cases hh
  · intro args h κ r hh
    simp only [S.l20Open_s] at hh ⊢
    split at hh
    · exact optC_law2 (F := fun (r : (List Int) × Int) κ => κ (.ptr 0 0) [.cells [(.ro true (.ints .u8 r.1)), (.int .i64 r.2)]]) (fun b κ r hb => ⟨_, _, hb, fun _ => rfl⟩) hh
    · cases hh
  · intro hh; cases hh

-- (*loop.example/guardsonnets/spec.l20Rd).pick
noncomputable def S.l20Rd_pick_T : List (Nat × D.Spec) := []
def S.l20Rd_pick_ann : Nat → List Nat × List Nat
  | _ => ([], [])
noncomputable def S.l20Rd_pick_F (args : List V) (h : List E) (κ : V → List E → R) : R := funC TD (tableK S.l20Rd_pick_T) S.l20Rd_pick_ann (drawOk (tableP S.l20Rd_pick_T)) FUEL Try.f38 args h κ
noncomputable def S.l20Rd_pick_tree {α : Type} (rb : List Int) (rp : Int) (n_ : Int) (leaf0_ : Int × (List Int) × Int → α) (fail_ : α) : α :=
  (bif decide (n_ < 1) then (leaf0_ (0, rb, IntKind.i64.wrap (rp + 1))) else (bif (↑rb.length : Int) == 0 then (leaf0_ (0, rb, IntKind.i64.wrap (rp + 1))) else (bif decide (IntKind.i64.wrap (IntKind.i64.wrap (rp + 1) - 1) < (↑rb.length : Int)) then (bif decide (0 ≤ IntKind.i64.wrap (IntKind.i64.wrap (rp + 1) - 1)) && decide (IntKind.i64.wrap (IntKind.i64.wrap (rp + 1) - 1) < (↑rb.length : Int)) then (bif n_ == 0 then fail_ else (leaf0_ ((IntKind.i64.wrap (eli rb (IntKind.i64.wrap (IntKind.i64.wrap (rp + 1) - 1)).toNat)).tmod n_, rb, IntKind.i64.wrap (rp + 1)))) else fail_) else (bif (↑rb.length : Int) == 0 then fail_ else (bif decide (0 ≤ (IntKind.i64.wrap (IntKind.i64.wrap (rp + 1) - 1)).tmod (↑rb.length : Int)) && decide ((IntKind.i64.wrap (IntKind.i64.wrap (rp + 1) - 1)).tmod (↑rb.length : Int) < (↑rb.length : Int)) then (bif (↑rb.length : Int) == 0 then fail_ else (bif decide (0 ≤ (IntKind.i64.wrap (IntKind.i64.wrap (IntKind.i64.wrap (IntKind.i64.wrap (rp + 1) - 1) * 7) + 3)).tmod (↑rb.length : Int)) && decide ((IntKind.i64.wrap (IntKind.i64.wrap (IntKind.i64.wrap (IntKind.i64.wrap (rp + 1) - 1) * 7) + 3)).tmod (↑rb.length : Int) < (↑rb.length : Int)) then (bif (↑rb.length : Int) == 0 then fail_ else (bif n_ == 0 then fail_ else (leaf0_ ((bits BinOp.xor IntKind.i64 (IntKind.i64.wrap (IntKind.i64.wrap (IntKind.i64.wrap (IntKind.i64.wrap (IntKind.i64.wrap (eli rb ((IntKind.i64.wrap (IntKind.i64.wrap (rp + 1) - 1)).tmod (↑rb.length : Int)).toNat) * 131) + IntKind.i64.wrap (IntKind.i64.wrap (eli rb ((IntKind.i64.wrap (IntKind.i64.wrap (IntKind.i64.wrap (IntKind.i64.wrap (rp + 1) - 1) * 7) + 3)).tmod (↑rb.length : Int)).toNat) * 1117)) + IntKind.i64.wrap (IntKind.i64.wrap (IntKind.i64.wrap (rp + 1) - 1) * 29)) + IntKind.i64.wrap (IntKind.i64.wrap ((IntKind.i64.wrap (IntKind.i64.wrap (rp + 1) - 1)).tdiv (↑rb.length : Int)) * 53))) (IntKind.i64.wrap ((IntKind.i64.wrap (IntKind.i64.wrap (IntKind.i64.wrap (IntKind.i64.wrap (IntKind.i64.wrap (eli rb ((IntKind.i64.wrap (IntKind.i64.wrap (rp + 1) - 1)).tmod (↑rb.length : Int)).toNat) * 131) + IntKind.i64.wrap (IntKind.i64.wrap (eli rb ((IntKind.i64.wrap (IntKind.i64.wrap (IntKind.i64.wrap (IntKind.i64.wrap (rp + 1) - 1) * 7) + 3)).tmod (↑rb.length : Int)).toNat) * 1117)) + IntKind.i64.wrap (IntKind.i64.wrap (IntKind.i64.wrap (rp + 1) - 1) * 29)) + IntKind.i64.wrap (IntKind.i64.wrap ((IntKind.i64.wrap (IntKind.i64.wrap (rp + 1) - 1)).tdiv (↑rb.length : Int)) * 53))).tdiv 64))).tmod n_, rb, IntKind.i64.wrap (rp + 1))))) else fail_)) else fail_)))))
theorem S.l20Rd_pick_tree_nat {α γ : Type} (g : α → γ) (rb : List Int) (rp : Int) (n_ : Int) (leaf0_ : Int × (List Int) × Int → α) (fail_ : α) : g (S.l20Rd_pick_tree rb rp n_ leaf0_ fail_) = S.l20Rd_pick_tree rb rp n_ (fun d => g (leaf0_ d)) (g fail_) := by
  unfold S.l20Rd_pick_tree; simp only [apply_cnd g, apply_optC g, apply_sumC g]
noncomputable def S.l20Rd_pick_t (rb : List Int) (rp : Int) (n_ : Int) : Option (Int × (List Int) × Int) := S.l20Rd_pick_tree rb rp n_ (fun d => some d) none
theorem S.l20Rd_pick_den (rb : List Int) (rp : Int) (n_ : Int) (κ : V → List E → R) : S.l20Rd_pick_F [.ptr 0 0, .int .i64 n_] [.cells [.ro true (.ints .u8 rb), .int .i64 rp]] κ = optC (S.l20Rd_pick_t rb rp n_) (fun (r : Int × (List Int) × Int) => κ (.int .i64 r.1) [.cells [(.ro true (.ints .u8 r.2.1)), (.int .i64 r.2.2)]]) none := by
  have hu : S.l20Rd_pick_F [.ptr 0 0, .int .i64 n_] [.cells [.ro true (.ints .u8 rb), .int .i64 rp]] κ = S.l20Rd_pick_tree rb rp n_ (fun d => κ (.int .i64 d.1) [.cells [(.ro true (.ints .u8 d.2.1)), (.int .i64 d.2.2)]]) none := by
    kernel_rfl
  rw [hu]
  exact (S.l20Rd_pick_tree_nat (fun o => optC o (fun (r : Int × (List Int) × Int) => κ (.int .i64 r.1) [.cells [(.ro true (.ints .u8 r.2.1)), (.int .i64 r.2.2)]]) none) rb rp n_ (fun d => some d) none).symm
noncomputable def S.l20Rd_pick_s : D.Spec where
  keep := false
  pure := false
  ds := [.invalid, .invalid]
  sp := fun args h κ => match args, h with
    | [.ptr 0 0, .int .i64 n_], [.cells [.ro true (.ints .u8 rb), .int .i64 rp]] => optC (S.l20Rd_pick_t rb rp n_) (fun (r : Int × (List Int) × Int) => κ (.int .i64 r.1) [.cells [(.ro true (.ints .u8 r.2.1)), (.int .i64 r.2.2)]]) none
    | _, _ => none
theorem S.l20Rd_pick_ok : SpecOk Try.prog 38 S.l20Rd_pick_s := by
  refine SpecOk.of TDok mixed (T := S.l20Rd_pick_T) ?_ (ann := S.l20Rd_pick_ann) Try.func38 rfl (by decide +kernel) ?_ ?_ ?_
  · intro p hp; cases hp
  · intro args h κ r hh
    simp only [S.l20Rd_pick_s] at hh
    split at hh
    · exact (S.l20Rd_pick_den _ _ _ κ).trans hh
    · cases hh
  · intro args h κ r hh
    simp only [S.l20Rd_pick_s] at hh ⊢
    split at hh
    · exact optC_law2 (F := fun (r : Int × (List Int) × Int) κ => κ (.int .i64 r.1) [.cells [(.ro true (.ints .u8 r.2.1)), (.int .i64 r.2.2)]]) (fun b κ r hb => ⟨_, _, hb, fun _ => rfl⟩) hh
    · cases hh
  · intro hh; cases hh

-- (*loop.example/guardsonnets/spec.l20Rd).odd
noncomputable def S.l20Rd_odd_T : List (Nat × D.Spec) := [(38, S.l20Rd_pick_s)]
def S.l20Rd_odd_ann : Nat → List Nat × List Nat
  | _ => ([], [])
noncomputable def S.l20Rd_odd_F (args : List V) (h : List E) (κ : V → List E → R) : R := funC TD (tableK S.l20Rd_odd_T) S.l20Rd_odd_ann (drawOk (tableP S.l20Rd_odd_T)) FUEL Try.f77 args h κ
noncomputable def S.l20Rd_odd_tree {α : Type} (rb : List Int) (rp : Int) (n_ : Int) (leaf0_ : Bool × (List Int) × Int → α) (fail_ : α) : α :=
  (bif decide (n_ > 0) then (optC (S.l20Rd_pick_t rb rp n_) (fun c_1 => (leaf0_ (c_1.fst == IntKind.i64.wrap (n_ - 1), c_1.snd.fst, c_1.snd.snd))) fail_) else (leaf0_ (false, rb, rp)))
theorem S.l20Rd_odd_tree_nat {α γ : Type} (g : α → γ) (rb : List Int) (rp : Int) (n_ : Int) (leaf0_ : Bool × (List Int) × Int → α) (fail_ : α) : g (S.l20Rd_odd_tree rb rp n_ leaf0_ fail_) = S.l20Rd_odd_tree rb rp n_ (fun d => g (leaf0_ d)) (g fail_) := by
  unfold S.l20Rd_odd_tree; simp only [apply_cnd g, apply_optC g, apply_sumC g]
noncomputable def S.l20Rd_odd_t (rb : List Int) (rp : Int) (n_ : Int) : Option (Bool × (List Int) × Int) := S.l20Rd_odd_tree rb rp n_ (fun d => some d) none
theorem S.l20Rd_odd_den (rb : List Int) (rp : Int) (n_ : Int) (κ : V → List E → R) : S.l20Rd_odd_F [.ptr 0 0, .int .i64 n_] [.cells [.ro true (.ints .u8 rb), .int .i64 rp]] κ = optC (S.l20Rd_odd_t rb rp n_) (fun (r : Bool × (List Int) × Int) => κ (.bool r.1) [.cells [(.ro true (.ints .u8 r.2.1)), (.int .i64 r.2.2)]]) none := by
  have hu : S.l20Rd_odd_F [.ptr 0 0, .int .i64 n_] [.cells [.ro true (.ints .u8 rb), .int .i64 rp]] κ = S.l20Rd_odd_tree rb rp n_ (fun d => κ (.bool d.1) [.cells [(.ro true (.ints .u8 d.2.1)), (.int .i64 d.2.2)]]) none := by
    kernel_rfl
  rw [hu]
  exact (S.l20Rd_odd_tree_nat (fun o => optC o (fun (r : Bool × (List Int) × Int) => κ (.bool r.1) [.cells [(.ro true (.ints .u8 r.2.1)), (.int .i64 r.2.2)]]) none) rb rp n_ (fun d => some d) none).symm
noncomputable def S.l20Rd_odd_s : D.Spec where
  keep := false
  pure := false
  ds := [.invalid, .invalid]
  sp := fun args h κ => match args, h with
    | [.ptr 0 0, .int .i64 n_], [.cells [.ro true (.ints .u8 rb), .int .i64 rp]] => optC (S.l20Rd_odd_t rb rp n_) (fun (r : Bool × (List Int) × Int) => κ (.bool r.1) [.cells [(.ro true (.ints .u8 r.2.1)), (.int .i64 r.2.2)]]) none
    | _, _ => none
theorem S.l20Rd_odd_ok : SpecOk Try.prog 77 S.l20Rd_odd_s := by
  refine SpecOk.of TDok mixed (T := S.l20Rd_odd_T) ?_ (ann := S.l20Rd_odd_ann) Try.func77 rfl (by decide +kernel) ?_ ?_ ?_
  · intro p hp
    simp only [S.l20Rd_odd_T, List.mem_cons, List.not_mem_nil, or_false] at hp
    rcases hp with rfl
    · exact S.l20Rd_pick_ok
  · intro args h κ r hh
    simp only [S.l20Rd_odd_s] at hh
    split at hh
    · exact (S.l20Rd_odd_den _ _ _ κ).trans hh
    · cases hh
  · intro args h κ r hh
    simp only [S.l20Rd_odd_s] at hh ⊢
    split at hh
    · exact optC_law2 (F := fun (r : Bool × (List Int) × Int) κ => κ (.bool r.1) [.cells [(.ro true (.ints .u8 r.2.1)), (.int .i64 r.2.2)]]) (fun b κ r hb => ⟨_, _, hb, fun _ => rfl⟩) hh
    · cases hh
  · intro hh; cases hh

-- loop.example/guardsonnets/spec.l20Net
noncomputable def S.l20Net_T : List (Nat × D.Spec) := [(38, S.l20Rd_pick_s), (77, S.l20Rd_odd_s)]
def S.l20Net_ann : Nat → List Nat × List Nat
  | 8 => ([0, 1, 5, 6, 7, 8, 9], [0, 1, 5, 6, 7, 8])
  | 5 => ([0, 1, 5, 6, 7, 8], [0, 1, 5, 6])
  | _ => ([], [])
noncomputable def S.l20Net_F (args : List V) (h : List E) (κ : V → List E → R) : R := funC TD (tableK S.l20Net_T) S.l20Net_ann (drawOk (tableP S.l20Net_T)) FUEL Try.f56 args h κ
noncomputable def S.l20Net_L8 (n : Nat) (σ : St) (k : X → St → R) : R := iterC 1 (fun σ k => denC TD (tableK S.l20Net_T) S.l20Net_ann (drawOk (tableP S.l20Net_T)) 1 FUEL ((findLoop 8 (Try.f56.body.getD .skip)).getD .skip) σ k) [0, 1, 5, 6, 7, 8, 9] [0, 1, 5, 6, 7, 8] n σ k
noncomputable def S.l20Net_L5 (n : Nat) (σ : St) (k : X → St → R) : R := iterC 1 (fun σ k => denC TD (tableK S.l20Net_T) S.l20Net_ann (drawOk (tableP S.l20Net_T)) 1 FUEL ((findLoop 5 (Try.f56.body.getD .skip)).getD .skip) σ k) [0, 1, 5, 6, 7, 8] [0, 1, 5, 6] n σ k
noncomputable def S.l20Net_k8 (c : (St → R) × (X → St → R)) : X → St → R := (afterC TD (tableK S.l20Net_T) S.l20Net_ann (drawOk (tableP S.l20Net_T)) 1 FUEL 8 ((findLoop 5 (Try.f56.body.getD .skip)).getD .skip) (roundC 1 [0, 1, 5, 6, 7, 8] [0, 1, 5, 6] c.1 c.2)).getD (fun _ _ => none)
noncomputable def S.l20Net_k5 (κ : V → List E → R) : X → St → R := (afterC TD (tableK S.l20Net_T) S.l20Net_ann (drawOk (tableP S.l20Net_T)) 1 FUEL 5 (Try.f56.body.getD .skip) (finC TD 1 Try.f56 κ)).getD (fun _ _ => none)
noncomputable def S.l20Net_step8 {α : Type} (x1 : Int) (x5 : Int) (x7 : Int) (x8 : Int) (x9 : Int) (r0_0 : List Int) (r0_1 : Int) (r1 : List Int) (next_ : Int × (List Int) × Int × (List Int) → α) (out0_ : (List Int) × Int × (List Int) → α) (fail_ : α) : α :=
  (bif decide (x9 < x8) then (optC (S.l20Rd_pick_t r0_0 r0_1 3) (fun c_3 => (bif x7 == 0 then (bif x9 == IntKind.i64.wrap (x8 - 1) then (bif decide (0 ≤ x8) && decide (x8 < (↑r1.length : Int)) then (bif decide (x8.toNat < r1.length) then (bif decide (x9 < 0) then fail_ else (bif decide (0 ≤ x8) && decide (x8 < (↑r1.length : Int)) then (bif decide (x8.toNat < r1.length) then (bif decide (0 ≤ x9) && decide (x9 < (↑(r1.set x8.toNat (bits BinOp.or IntKind.i64 (eli r1 x8.toNat) (IntKind.i64.wrap (1 * 2 ^ min x9.toNat IntKind.i64.bits)))).length : Int)) then (bif decide (x9.toNat < (r1.set x8.toNat (bits BinOp.or IntKind.i64 (eli r1 x8.toNat) (IntKind.i64.wrap (1 * 2 ^ min x9.toNat IntKind.i64.bits)))).length) then (bif decide (x8 < 0) then fail_ else (bif decide (0 ≤ x9) && decide (x9 < (↑(r1.set x8.toNat (bits BinOp.or IntKind.i64 (eli r1 x8.toNat) (IntKind.i64.wrap (1 * 2 ^ min x9.toNat IntKind.i64.bits)))).length : Int)) then (bif decide (x9.toNat < (r1.set x8.toNat (bits BinOp.or IntKind.i64 (eli r1 x8.toNat) (IntKind.i64.wrap (1 * 2 ^ min x9.toNat IntKind.i64.bits)))).length) then (next_ (IntKind.i64.wrap (x9 + 1), c_3.snd.fst, c_3.snd.snd, (r1.set x8.toNat (bits BinOp.or IntKind.i64 (eli r1 x8.toNat) (IntKind.i64.wrap (1 * 2 ^ min x9.toNat IntKind.i64.bits)))).set x9.toNat (bits BinOp.or IntKind.i64 (eli (r1.set x8.toNat (bits BinOp.or IntKind.i64 (eli r1 x8.toNat) (IntKind.i64.wrap (1 * 2 ^ min x9.toNat IntKind.i64.bits)))) x9.toNat) (IntKind.i64.wrap (1 * 2 ^ min x8.toNat IntKind.i64.bits))))) else fail_) else fail_)) else fail_) else fail_) else fail_) else fail_)) else fail_) else fail_) else (bif x8 == IntKind.i64.wrap (x5 - 1) then (bif x9 == 0 then (bif decide (x5 > 2) then (bif decide (0 ≤ x8) && decide (x8 < (↑r1.length : Int)) then (bif decide (x8.toNat < r1.length) then (bif decide (x9 < 0) then fail_ else (bif decide (0 ≤ x8) && decide (x8 < (↑r1.length : Int)) then (bif decide (x8.toNat < r1.length) then (bif decide (0 ≤ x9) && decide (x9 < (↑(r1.set x8.toNat (bits BinOp.or IntKind.i64 (eli r1 x8.toNat) (IntKind.i64.wrap (1 * 2 ^ min x9.toNat IntKind.i64.bits)))).length : Int)) then (bif decide (x9.toNat < (r1.set x8.toNat (bits BinOp.or IntKind.i64 (eli r1 x8.toNat) (IntKind.i64.wrap (1 * 2 ^ min x9.toNat IntKind.i64.bits)))).length) then (bif decide (x8 < 0) then fail_ else (bif decide (0 ≤ x9) && decide (x9 < (↑(r1.set x8.toNat (bits BinOp.or IntKind.i64 (eli r1 x8.toNat) (IntKind.i64.wrap (1 * 2 ^ min x9.toNat IntKind.i64.bits)))).length : Int)) then (bif decide (x9.toNat < (r1.set x8.toNat (bits BinOp.or IntKind.i64 (eli r1 x8.toNat) (IntKind.i64.wrap (1 * 2 ^ min x9.toNat IntKind.i64.bits)))).length) then (next_ (IntKind.i64.wrap (x9 + 1), c_3.snd.fst, c_3.snd.snd, (r1.set x8.toNat (bits BinOp.or IntKind.i64 (eli r1 x8.toNat) (IntKind.i64.wrap (1 * 2 ^ min x9.toNat IntKind.i64.bits)))).set x9.toNat (bits BinOp.or IntKind.i64 (eli (r1.set x8.toNat (bits BinOp.or IntKind.i64 (eli r1 x8.toNat) (IntKind.i64.wrap (1 * 2 ^ min x9.toNat IntKind.i64.bits)))) x9.toNat) (IntKind.i64.wrap (1 * 2 ^ min x8.toNat IntKind.i64.bits))))) else fail_) else fail_)) else fail_) else fail_) else fail_) else fail_)) else fail_) else fail_) else (next_ (IntKind.i64.wrap (x9 + 1), c_3.snd.fst, c_3.snd.snd, r1))) else (next_ (IntKind.i64.wrap (x9 + 1), c_3.snd.fst, c_3.snd.snd, r1))) else (next_ (IntKind.i64.wrap (x9 + 1), c_3.snd.fst, c_3.snd.snd, r1)))) else (bif x7 == 1 then (bif x9 == IntKind.i64.wrap (x8 - 1) then (bif decide (0 ≤ x8) && decide (x8 < (↑r1.length : Int)) then (bif decide (x8.toNat < r1.length) then (bif decide (x9 < 0) then fail_ else (bif decide (0 ≤ x8) && decide (x8 < (↑r1.length : Int)) then (bif decide (x8.toNat < r1.length) then (bif decide (0 ≤ x9) && decide (x9 < (↑(r1.set x8.toNat (bits BinOp.or IntKind.i64 (eli r1 x8.toNat) (IntKind.i64.wrap (1 * 2 ^ min x9.toNat IntKind.i64.bits)))).length : Int)) then (bif decide (x9.toNat < (r1.set x8.toNat (bits BinOp.or IntKind.i64 (eli r1 x8.toNat) (IntKind.i64.wrap (1 * 2 ^ min x9.toNat IntKind.i64.bits)))).length) then (bif decide (x8 < 0) then fail_ else (bif decide (0 ≤ x9) && decide (x9 < (↑(r1.set x8.toNat (bits BinOp.or IntKind.i64 (eli r1 x8.toNat) (IntKind.i64.wrap (1 * 2 ^ min x9.toNat IntKind.i64.bits)))).length : Int)) then (bif decide (x9.toNat < (r1.set x8.toNat (bits BinOp.or IntKind.i64 (eli r1 x8.toNat) (IntKind.i64.wrap (1 * 2 ^ min x9.toNat IntKind.i64.bits)))).length) then (next_ (IntKind.i64.wrap (x9 + 1), c_3.snd.fst, c_3.snd.snd, (r1.set x8.toNat (bits BinOp.or IntKind.i64 (eli r1 x8.toNat) (IntKind.i64.wrap (1 * 2 ^ min x9.toNat IntKind.i64.bits)))).set x9.toNat (bits BinOp.or IntKind.i64 (eli (r1.set x8.toNat (bits BinOp.or IntKind.i64 (eli r1 x8.toNat) (IntKind.i64.wrap (1 * 2 ^ min x9.toNat IntKind.i64.bits)))) x9.toNat) (IntKind.i64.wrap (1 * 2 ^ min x8.toNat IntKind.i64.bits))))) else fail_) else fail_)) else fail_) else fail_) else fail_) else fail_)) else fail_) else fail_) else (bif x9 == 0 then (optC (S.l20Rd_pick_t c_3.snd.fst c_3.snd.snd 3) (fun c_4 => (bif c_4.fst == 0 then (bif decide (0 ≤ x8) && decide (x8 < (↑r1.length : Int)) then (bif decide (x8.toNat < r1.length) then (bif decide (x9 < 0) then fail_ else (bif decide (0 ≤ x8) && decide (x8 < (↑r1.length : Int)) then (bif decide (x8.toNat < r1.length) then (bif decide (0 ≤ x9) && decide (x9 < (↑(r1.set x8.toNat (bits BinOp.or IntKind.i64 (eli r1 x8.toNat) (IntKind.i64.wrap (1 * 2 ^ min x9.toNat IntKind.i64.bits)))).length : Int)) then (bif decide (x9.toNat < (r1.set x8.toNat (bits BinOp.or IntKind.i64 (eli r1 x8.toNat) (IntKind.i64.wrap (1 * 2 ^ min x9.toNat IntKind.i64.bits)))).length) then (bif decide (x8 < 0) then fail_ else (bif decide (0 ≤ x9) && decide (x9 < (↑(r1.set x8.toNat (bits BinOp.or IntKind.i64 (eli r1 x8.toNat) (IntKind.i64.wrap (1 * 2 ^ min x9.toNat IntKind.i64.bits)))).length : Int)) then (bif decide (x9.toNat < (r1.set x8.toNat (bits BinOp.or IntKind.i64 (eli r1 x8.toNat) (IntKind.i64.wrap (1 * 2 ^ min x9.toNat IntKind.i64.bits)))).length) then (next_ (IntKind.i64.wrap (x9 + 1), c_4.snd.fst, c_4.snd.snd, (r1.set x8.toNat (bits BinOp.or IntKind.i64 (eli r1 x8.toNat) (IntKind.i64.wrap (1 * 2 ^ min x9.toNat IntKind.i64.bits)))).set x9.toNat (bits BinOp.or IntKind.i64 (eli (r1.set x8.toNat (bits BinOp.or IntKind.i64 (eli r1 x8.toNat) (IntKind.i64.wrap (1 * 2 ^ min x9.toNat IntKind.i64.bits)))) x9.toNat) (IntKind.i64.wrap (1 * 2 ^ min x8.toNat IntKind.i64.bits))))) else fail_) else fail_)) else fail_) else fail_) else fail_) else fail_)) else fail_) else fail_) else (next_ (IntKind.i64.wrap (x9 + 1), c_4.snd.fst, c_4.snd.snd, r1)))) fail_) else (next_ (IntKind.i64.wrap (x9 + 1), c_3.snd.fst, c_3.snd.snd, r1)))) else (bif x7 == 2 then (bif x9 == IntKind.i64.wrap ((IntKind.i64.wrap (x8 - 1)).tdiv 2) then (bif decide (0 ≤ x8) && decide (x8 < (↑r1.length : Int)) then (bif decide (x8.toNat < r1.length) then (bif decide (x9 < 0) then fail_ else (bif decide (0 ≤ x8) && decide (x8 < (↑r1.length : Int)) then (bif decide (x8.toNat < r1.length) then (bif decide (0 ≤ x9) && decide (x9 < (↑(r1.set x8.toNat (bits BinOp.or IntKind.i64 (eli r1 x8.toNat) (IntKind.i64.wrap (1 * 2 ^ min x9.toNat IntKind.i64.bits)))).length : Int)) then (bif decide (x9.toNat < (r1.set x8.toNat (bits BinOp.or IntKind.i64 (eli r1 x8.toNat) (IntKind.i64.wrap (1 * 2 ^ min x9.toNat IntKind.i64.bits)))).length) then (bif decide (x8 < 0) then fail_ else (bif decide (0 ≤ x9) && decide (x9 < (↑(r1.set x8.toNat (bits BinOp.or IntKind.i64 (eli r1 x8.toNat) (IntKind.i64.wrap (1 * 2 ^ min x9.toNat IntKind.i64.bits)))).length : Int)) then (bif decide (x9.toNat < (r1.set x8.toNat (bits BinOp.or IntKind.i64 (eli r1 x8.toNat) (IntKind.i64.wrap (1 * 2 ^ min x9.toNat IntKind.i64.bits)))).length) then (next_ (IntKind.i64.wrap (x9 + 1), c_3.snd.fst, c_3.snd.snd, (r1.set x8.toNat (bits BinOp.or IntKind.i64 (eli r1 x8.toNat) (IntKind.i64.wrap (1 * 2 ^ min x9.toNat IntKind.i64.bits)))).set x9.toNat (bits BinOp.or IntKind.i64 (eli (r1.set x8.toNat (bits BinOp.or IntKind.i64 (eli r1 x8.toNat) (IntKind.i64.wrap (1 * 2 ^ min x9.toNat IntKind.i64.bits)))) x9.toNat) (IntKind.i64.wrap (1 * 2 ^ min x8.toNat IntKind.i64.bits))))) else fail_) else fail_)) else fail_) else fail_) else fail_) else fail_)) else fail_) else fail_) else (next_ (IntKind.i64.wrap (x9 + 1), c_3.snd.fst, c_3.snd.snd, r1))) else (bif c_3.fst == 0 then (bif decide (0 ≤ x8) && decide (x8 < (↑r1.length : Int)) then (bif decide (x8.toNat < r1.length) then (bif decide (x9 < 0) then fail_ else (bif decide (0 ≤ x8) && decide (x8 < (↑r1.length : Int)) then (bif decide (x8.toNat < r1.length) then (bif decide (0 ≤ x9) && decide (x9 < (↑(r1.set x8.toNat (bits BinOp.or IntKind.i64 (eli r1 x8.toNat) (IntKind.i64.wrap (1 * 2 ^ min x9.toNat IntKind.i64.bits)))).length : Int)) then (bif decide (x9.toNat < (r1.set x8.toNat (bits BinOp.or IntKind.i64 (eli r1 x8.toNat) (IntKind.i64.wrap (1 * 2 ^ min x9.toNat IntKind.i64.bits)))).length) then (bif decide (x8 < 0) then fail_ else (bif decide (0 ≤ x9) && decide (x9 < (↑(r1.set x8.toNat (bits BinOp.or IntKind.i64 (eli r1 x8.toNat) (IntKind.i64.wrap (1 * 2 ^ min x9.toNat IntKind.i64.bits)))).length : Int)) then (bif decide (x9.toNat < (r1.set x8.toNat (bits BinOp.or IntKind.i64 (eli r1 x8.toNat) (IntKind.i64.wrap (1 * 2 ^ min x9.toNat IntKind.i64.bits)))).length) then (next_ (IntKind.i64.wrap (x9 + 1), c_3.snd.fst, c_3.snd.snd, (r1.set x8.toNat (bits BinOp.or IntKind.i64 (eli r1 x8.toNat) (IntKind.i64.wrap (1 * 2 ^ min x9.toNat IntKind.i64.bits)))).set x9.toNat (bits BinOp.or IntKind.i64 (eli (r1.set x8.toNat (bits BinOp.or IntKind.i64 (eli r1 x8.toNat) (IntKind.i64.wrap (1 * 2 ^ min x9.toNat IntKind.i64.bits)))) x9.toNat) (IntKind.i64.wrap (1 * 2 ^ min x8.toNat IntKind.i64.bits))))) else fail_) else fail_)) else fail_) else fail_) else fail_) else fail_)) else fail_) else fail_) else (next_ (IntKind.i64.wrap (x9 + 1), c_3.snd.fst, c_3.snd.snd, r1))))))) fail_) else (out0_ (r0_0, r0_1, r1)))
theorem S.l20Net_step8_nat {α γ : Type} (g : α → γ) (x1 : Int) (x5 : Int) (x7 : Int) (x8 : Int) (x9 : Int) (r0_0 : List Int) (r0_1 : Int) (r1 : List Int) (next_ : Int × (List Int) × Int × (List Int) → α) (out0_ : (List Int) × Int × (List Int) → α) (fail_ : α) : g (S.l20Net_step8 x1 x5 x7 x8 x9 r0_0 r0_1 r1 next_ out0_ fail_) = S.l20Net_step8 x1 x5 x7 x8 x9 r0_0 r0_1 r1 (fun s => g (next_ s)) (fun d => g (out0_ d)) (g fail_) := by
  unfold S.l20Net_step8; simp only [apply_cnd g, apply_optC g, apply_sumC g]
noncomputable def S.l20Net_run8 (x1 : Int) (x5 : Int) (x7 : Int) (x8 : Int) : Nat → Int × (List Int) × Int × (List Int) → Option ((List Int) × Int × (List Int))
  | 0, _ => none
  | n + 1, s_ => S.l20Net_step8 x1 x5 x7 x8 s_.1 s_.2.1 s_.2.2.1 s_.2.2.2 (S.l20Net_run8 x1 x5 x7 x8 n) (fun d => some d) none
theorem S.l20Net_L8_run (x1 : Int) (x5 : Int) (x7 : Int) (x8 : Int) (n : Nat) (s_ : Int × (List Int) × Int × (List Int)) (k : X → St → R) : S.l20Net_L8 n { n := 125, t := [(0, (.ptr 0 0)), (1, (.int .i64 x1)), (5, (.int .i64 x5)), (6, (.own 1)), (7, (.int .i64 x7)), (8, (.int .i64 x8)), (9, (.int .i64 s_.1))], h := [.cells [(.ro true (.ints .u8 s_.2.1)), (.int .i64 s_.2.2.1)], .row (.ints .i64 s_.2.2.2)] } k = optC (S.l20Net_run8 x1 x5 x7 x8 n s_) (fun (r : (List Int) × Int × (List Int)) => k (.exit 2) { n := 125, t := [(0, (.ptr 0 0)), (1, (.int .i64 x1)), (5, (.int .i64 x5)), (6, (.own 1)), (7, (.int .i64 x7)), (8, (.int .i64 x8))], h := [.cells [(.ro true (.ints .u8 r.1)), (.int .i64 r.2.1)], .row (.ints .i64 r.2.2)] }) none := by
  induction n generalizing s_ with
  | zero => rfl
  | succ n ih =>
    have hu : S.l20Net_L8 (n + 1) { n := 125, t := [(0, (.ptr 0 0)), (1, (.int .i64 x1)), (5, (.int .i64 x5)), (6, (.own 1)), (7, (.int .i64 x7)), (8, (.int .i64 x8)), (9, (.int .i64 s_.1))], h := [.cells [(.ro true (.ints .u8 s_.2.1)), (.int .i64 s_.2.2.1)], .row (.ints .i64 s_.2.2.2)] } k = S.l20Net_step8 x1 x5 x7 x8 s_.1 s_.2.1 s_.2.2.1 s_.2.2.2 (fun s_ => S.l20Net_L8 n { n := 125, t := [(0, (.ptr 0 0)), (1, (.int .i64 x1)), (5, (.int .i64 x5)), (6, (.own 1)), (7, (.int .i64 x7)), (8, (.int .i64 x8)), (9, (.int .i64 s_.1))], h := [.cells [(.ro true (.ints .u8 s_.2.1)), (.int .i64 s_.2.2.1)], .row (.ints .i64 s_.2.2.2)] } k) (fun d => k (.exit 2) { n := 125, t := [(0, (.ptr 0 0)), (1, (.int .i64 x1)), (5, (.int .i64 x5)), (6, (.own 1)), (7, (.int .i64 x7)), (8, (.int .i64 x8))], h := [.cells [(.ro true (.ints .u8 d.1)), (.int .i64 d.2.1)], .row (.ints .i64 d.2.2)] }) none := by
      kernel_rfl
    have hs : (fun s_ : Int × (List Int) × Int × (List Int) => S.l20Net_L8 n { n := 125, t := [(0, (.ptr 0 0)), (1, (.int .i64 x1)), (5, (.int .i64 x5)), (6, (.own 1)), (7, (.int .i64 x7)), (8, (.int .i64 x8)), (9, (.int .i64 s_.1))], h := [.cells [(.ro true (.ints .u8 s_.2.1)), (.int .i64 s_.2.2.1)], .row (.ints .i64 s_.2.2.2)] } k) = fun s_ => optC (S.l20Net_run8 x1 x5 x7 x8 n s_) (fun (r : (List Int) × Int × (List Int)) => k (.exit 2) { n := 125, t := [(0, (.ptr 0 0)), (1, (.int .i64 x1)), (5, (.int .i64 x5)), (6, (.own 1)), (7, (.int .i64 x7)), (8, (.int .i64 x8))], h := [.cells [(.ro true (.ints .u8 r.1)), (.int .i64 r.2.1)], .row (.ints .i64 r.2.2)] }) none := funext ih
    rw [hu, hs]
    exact (S.l20Net_step8_nat (fun o => optC o (fun (r : (List Int) × Int × (List Int)) => k (.exit 2) { n := 125, t := [(0, (.ptr 0 0)), (1, (.int .i64 x1)), (5, (.int .i64 x5)), (6, (.own 1)), (7, (.int .i64 x7)), (8, (.int .i64 x8))], h := [.cells [(.ro true (.ints .u8 r.1)), (.int .i64 r.2.1)], .row (.ints .i64 r.2.2)] }) none) x1 x5 x7 x8 s_.1 s_.2.1 s_.2.2.1 s_.2.2.2 (S.l20Net_run8 x1 x5 x7 x8 n) (fun d => some d) none).symm
noncomputable def S.l20Net_step5 {α : Type} (x1 : Int) (x5 : Int) (x7 : Int) (x8 : Int) (r0_0 : List Int) (r0_1 : Int) (r1 : List Int) (next_ : Int × (List Int) × Int × (List Int) → α) (out0_ : (List Int) × Int × (List Int) → α) (fail_ : α) : α :=
  (bif decide (x8 < x5) then (optC (S.l20Net_run8 x1 x5 x7 x8 FUEL (0, r0_0, r0_1, r1)) (fun qy_5 => (next_ (IntKind.i64.wrap (x8 + 1), qy_5.1, qy_5.2.1, qy_5.2.2))) fail_) else (out0_ (r0_0, r0_1, r1)))
theorem S.l20Net_step5_nat {α γ : Type} (g : α → γ) (x1 : Int) (x5 : Int) (x7 : Int) (x8 : Int) (r0_0 : List Int) (r0_1 : Int) (r1 : List Int) (next_ : Int × (List Int) × Int × (List Int) → α) (out0_ : (List Int) × Int × (List Int) → α) (fail_ : α) : g (S.l20Net_step5 x1 x5 x7 x8 r0_0 r0_1 r1 next_ out0_ fail_) = S.l20Net_step5 x1 x5 x7 x8 r0_0 r0_1 r1 (fun s => g (next_ s)) (fun d => g (out0_ d)) (g fail_) := by
  unfold S.l20Net_step5; simp only [apply_cnd g, apply_optC g, apply_sumC g]
noncomputable def S.l20Net_run5 (x1 : Int) (x5 : Int) (x7 : Int) : Nat → Int × (List Int) × Int × (List Int) → Option ((List Int) × Int × (List Int))
  | 0, _ => none
  | n + 1, s_ => S.l20Net_step5 x1 x5 x7 s_.1 s_.2.1 s_.2.2.1 s_.2.2.2 (S.l20Net_run5 x1 x5 x7 n) (fun d => some d) none
theorem S.l20Net_L5_run (x1 : Int) (x5 : Int) (x7 : Int) (n : Nat) (s_ : Int × (List Int) × Int × (List Int)) (k : X → St → R) : S.l20Net_L5 n { n := 125, t := [(0, (.ptr 0 0)), (1, (.int .i64 x1)), (5, (.int .i64 x5)), (6, (.own 1)), (7, (.int .i64 x7)), (8, (.int .i64 s_.1))], h := [.cells [(.ro true (.ints .u8 s_.2.1)), (.int .i64 s_.2.2.1)], .row (.ints .i64 s_.2.2.2)] } k = optC (S.l20Net_run5 x1 x5 x7 n s_) (fun (r : (List Int) × Int × (List Int)) => k (.exit 0) { n := 125, t := [(0, (.ptr 0 0)), (1, (.int .i64 x1)), (5, (.int .i64 x5)), (6, (.own 1))], h := [.cells [(.ro true (.ints .u8 r.1)), (.int .i64 r.2.1)], .row (.ints .i64 r.2.2)] }) none := by
  induction n generalizing s_ with
  | zero => rfl
  | succ n ih =>
    have hu : S.l20Net_L5 (n + 1) { n := 125, t := [(0, (.ptr 0 0)), (1, (.int .i64 x1)), (5, (.int .i64 x5)), (6, (.own 1)), (7, (.int .i64 x7)), (8, (.int .i64 s_.1))], h := [.cells [(.ro true (.ints .u8 s_.2.1)), (.int .i64 s_.2.2.1)], .row (.ints .i64 s_.2.2.2)] } k = S.l20Net_step5 x1 x5 x7 s_.1 s_.2.1 s_.2.2.1 s_.2.2.2 (fun s_ => S.l20Net_L5 n { n := 125, t := [(0, (.ptr 0 0)), (1, (.int .i64 x1)), (5, (.int .i64 x5)), (6, (.own 1)), (7, (.int .i64 x7)), (8, (.int .i64 s_.1))], h := [.cells [(.ro true (.ints .u8 s_.2.1)), (.int .i64 s_.2.2.1)], .row (.ints .i64 s_.2.2.2)] } k) (fun d => k (.exit 0) { n := 125, t := [(0, (.ptr 0 0)), (1, (.int .i64 x1)), (5, (.int .i64 x5)), (6, (.own 1))], h := [.cells [(.ro true (.ints .u8 d.1)), (.int .i64 d.2.1)], .row (.ints .i64 d.2.2)] }) none := by
      refine Eq.trans (show S.l20Net_L5 (n + 1) { n := 125, t := [(0, (.ptr 0 0)), (1, (.int .i64 x1)), (5, (.int .i64 x5)), (6, (.own 1)), (7, (.int .i64 x7)), (8, (.int .i64 s_.1))], h := [.cells [(.ro true (.ints .u8 s_.2.1)), (.int .i64 s_.2.2.1)], .row (.ints .i64 s_.2.2.2)] } k = (bif decide (s_.1 < x5) then (S.l20Net_L8 FUEL { n := 125, t := [(0, (.ptr 0 0)), (1, (.int .i64 x1)), (5, (.int .i64 x5)), (6, (.own 1)), (7, (.int .i64 x7)), (8, (.int .i64 s_.1)), (9, (.int .i64 0))], h := [.cells [(.ro true (.ints .u8 s_.2.1)), (.int .i64 s_.2.2.1)], .row (.ints .i64 s_.2.2.2)] } (S.l20Net_k8 ((fun σ => S.l20Net_L5 n σ k), k))) else (k (.exit 0) { n := 125, t := [(0, (.ptr 0 0)), (1, (.int .i64 x1)), (5, (.int .i64 x5)), (6, (.own 1))], h := [.cells [(.ro true (.ints .u8 s_.2.1)), (.int .i64 s_.2.2.1)], .row (.ints .i64 s_.2.2.2)] })) by kernel_rfl) ?_
      refine cnd_congr ?_ ?_
      · refine (S.l20Net_L8_run x1 x5 x7 s_.1 FUEL (0, s_.2.1, s_.2.2.1, s_.2.2.2) (S.l20Net_k8 ((fun σ => S.l20Net_L5 n σ k), k))).trans (optC_congr (fun qy_5 => ?_))
        kernel_rfl
      · kernel_rfl
    have hs : (fun s_ : Int × (List Int) × Int × (List Int) => S.l20Net_L5 n { n := 125, t := [(0, (.ptr 0 0)), (1, (.int .i64 x1)), (5, (.int .i64 x5)), (6, (.own 1)), (7, (.int .i64 x7)), (8, (.int .i64 s_.1))], h := [.cells [(.ro true (.ints .u8 s_.2.1)), (.int .i64 s_.2.2.1)], .row (.ints .i64 s_.2.2.2)] } k) = fun s_ => optC (S.l20Net_run5 x1 x5 x7 n s_) (fun (r : (List Int) × Int × (List Int)) => k (.exit 0) { n := 125, t := [(0, (.ptr 0 0)), (1, (.int .i64 x1)), (5, (.int .i64 x5)), (6, (.own 1))], h := [.cells [(.ro true (.ints .u8 r.1)), (.int .i64 r.2.1)], .row (.ints .i64 r.2.2)] }) none := funext ih
    rw [hu, hs]
    exact (S.l20Net_step5_nat (fun o => optC o (fun (r : (List Int) × Int × (List Int)) => k (.exit 0) { n := 125, t := [(0, (.ptr 0 0)), (1, (.int .i64 x1)), (5, (.int .i64 x5)), (6, (.own 1))], h := [.cells [(.ro true (.ints .u8 r.1)), (.int .i64 r.2.1)], .row (.ints .i64 r.2.2)] }) none) x1 x5 x7 s_.1 s_.2.1 s_.2.2.1 s_.2.2.2 (S.l20Net_run5 x1 x5 x7 n) (fun d => some d) none).symm
noncomputable def S.l20Net_tree {α : Type} (rb : List Int) (rp : Int) (n_ : Int) (leaf0_ : (List Int) × Int × (List Int) → α) (fail_ : α) : α :=
  (optC (S.l20Rd_pick_t rb rp 6) (fun c_1 => (bif decide (0 ≤ IntKind.i64.wrap (1 + c_1.fst)) && small (IntKind.i64.wrap (1 + c_1.fst)).toNat && true then (optC (S.l20Rd_pick_t c_1.snd.fst c_1.snd.snd 4) (fun c_2 => (optC (S.l20Net_run5 n_ (IntKind.i64.wrap (1 + c_1.fst)) c_2.fst FUEL (0, c_2.snd.fst, c_2.snd.snd, List.replicate (IntKind.i64.wrap (1 + c_1.fst)).toNat 0)) (fun qy_6 => (optC (S.l20Rd_odd_t qy_6.1 qy_6.2.1 n_) (fun c_7 => (bif c_7.fst then (optC (S.l20Rd_pick_t c_7.snd.fst c_7.snd.snd 3) (fun c_8 => (bif c_8.fst == 0 then (leaf0_ (c_8.snd.fst, c_8.snd.snd, [])) else (bif c_8.fst == 1 then (bif decide (0 < (↑qy_6.2.2.length : Int)) then (bif decide (0 < qy_6.2.2.length) then (bif decide (0 < (↑qy_6.2.2.length : Int)) then (bif decide (0 < qy_6.2.2.length) then (leaf0_ (c_8.snd.fst, c_8.snd.snd, qy_6.2.2.set 0 (bits BinOp.or IntKind.i64 (eli qy_6.2.2 0) 1))) else fail_) else fail_) else fail_) else fail_) else (bif decide (0 < (↑qy_6.2.2.length : Int)) then (bif decide (0 < qy_6.2.2.length) then (bif decide (IntKind.i64.wrap (IntKind.i64.wrap (1 + c_1.fst) - 1) < 0) then fail_ else (bif decide (0 < (↑qy_6.2.2.length : Int)) then (bif decide (0 < qy_6.2.2.length) then (bif IntKind.i64.wrap (1 + c_1.fst) == 1 then (bif decide (0 < (↑(qy_6.2.2.set 0 (bits BinOp.xor IntKind.i64 (eli qy_6.2.2 0) (IntKind.i64.wrap (1 * 2 ^ min (IntKind.i64.wrap (IntKind.i64.wrap (1 + c_1.fst) - 1)).toNat IntKind.i64.bits)))).length : Int)) then (bif decide (0 < (qy_6.2.2.set 0 (bits BinOp.xor IntKind.i64 (eli qy_6.2.2 0) (IntKind.i64.wrap (1 * 2 ^ min (IntKind.i64.wrap (IntKind.i64.wrap (1 + c_1.fst) - 1)).toNat IntKind.i64.bits)))).length) then (leaf0_ (c_8.snd.fst, c_8.snd.snd, (qy_6.2.2.set 0 (bits BinOp.xor IntKind.i64 (eli qy_6.2.2 0) (IntKind.i64.wrap (1 * 2 ^ min (IntKind.i64.wrap (IntKind.i64.wrap (1 + c_1.fst) - 1)).toNat IntKind.i64.bits)))).set 0 (-1))) else fail_) else fail_) else (leaf0_ (c_8.snd.fst, c_8.snd.snd, qy_6.2.2.set 0 (bits BinOp.xor IntKind.i64 (eli qy_6.2.2 0) (IntKind.i64.wrap (1 * 2 ^ min (IntKind.i64.wrap (IntKind.i64.wrap (1 + c_1.fst) - 1)).toNat IntKind.i64.bits)))))) else fail_) else fail_)) else fail_) else fail_)))) fail_) else (leaf0_ (c_7.snd.fst, c_7.snd.snd, qy_6.2.2)))) fail_)) fail_)) fail_) else fail_)) fail_)
theorem S.l20Net_tree_nat {α γ : Type} (g : α → γ) (rb : List Int) (rp : Int) (n_ : Int) (leaf0_ : (List Int) × Int × (List Int) → α) (fail_ : α) : g (S.l20Net_tree rb rp n_ leaf0_ fail_) = S.l20Net_tree rb rp n_ (fun d => g (leaf0_ d)) (g fail_) := by
  unfold S.l20Net_tree; simp only [apply_cnd g, apply_optC g, apply_sumC g]
noncomputable def S.l20Net_t (rb : List Int) (rp : Int) (n_ : Int) : Option ((List Int) × Int × (List Int)) := S.l20Net_tree rb rp n_ (fun d => some d) none
theorem S.l20Net_den (rb : List Int) (rp : Int) (n_ : Int) (κ : V → List E → R) : S.l20Net_F [.ptr 0 0, .int .i64 n_] [.cells [.ro true (.ints .u8 rb), .int .i64 rp]] κ = optC (S.l20Net_t rb rp n_) (fun (r : (List Int) × Int × (List Int)) => κ (.own 1) [.cells [(.ro true (.ints .u8 r.1)), (.int .i64 r.2.1)], .row (.ints .i64 r.2.2)]) none := by
  have hu : S.l20Net_F [.ptr 0 0, .int .i64 n_] [.cells [.ro true (.ints .u8 rb), .int .i64 rp]] κ = S.l20Net_tree rb rp n_ (fun d => κ (.own 1) [.cells [(.ro true (.ints .u8 d.1)), (.int .i64 d.2.1)], .row (.ints .i64 d.2.2)]) none := by
    refine Eq.trans (show S.l20Net_F [.ptr 0 0, .int .i64 n_] [.cells [.ro true (.ints .u8 rb), .int .i64 rp]] κ = (optC (S.l20Rd_pick_t rb rp 6) (fun c_1 => (bif decide (0 ≤ IntKind.i64.wrap (1 + c_1.fst)) && small (IntKind.i64.wrap (1 + c_1.fst)).toNat && true then (optC (S.l20Rd_pick_t c_1.snd.fst c_1.snd.snd 4) (fun c_2 => (S.l20Net_L5 FUEL { n := 125, t := [(0, (.ptr 0 0)), (1, (.int .i64 n_)), (5, (.int .i64 (IntKind.i64.wrap (1 + c_1.fst)))), (6, (.own 1)), (7, (.int .i64 c_2.fst)), (8, (.int .i64 0))], h := [.cells [(.ro true (.ints .u8 c_2.snd.fst)), (.int .i64 c_2.snd.snd)], .row (.ints .i64 (List.replicate (IntKind.i64.wrap (1 + c_1.fst)).toNat 0))] } (S.l20Net_k5 κ))) none) else none)) none) by kernel_rfl) ?_
    refine optC_congr (fun c_1 => ?_)
    refine cnd_congr ?_ ?_
    · refine optC_congr (fun c_2 => ?_)
      refine (S.l20Net_L5_run n_ (IntKind.i64.wrap (1 + c_1.fst)) c_2.fst FUEL (0, c_2.snd.fst, c_2.snd.snd, List.replicate (IntKind.i64.wrap (1 + c_1.fst)).toNat 0) (S.l20Net_k5 κ)).trans (optC_congr (fun qy_6 => ?_))
      kernel_rfl
    · kernel_rfl
  rw [hu]
  exact (S.l20Net_tree_nat (fun o => optC o (fun (r : (List Int) × Int × (List Int)) => κ (.own 1) [.cells [(.ro true (.ints .u8 r.1)), (.int .i64 r.2.1)], .row (.ints .i64 r.2.2)]) none) rb rp n_ (fun d => some d) none).symm
noncomputable def S.l20Net_s : D.Spec where
  keep := false
  pure := false
  ds := [.invalid, .invalid]
  sp := fun args h κ => match args, h with
    | [.ptr 0 0, .int .i64 n_], [.cells [.ro true (.ints .u8 rb), .int .i64 rp]] => optC (S.l20Net_t rb rp n_) (fun (r : (List Int) × Int × (List Int)) => κ (.own 1) [.cells [(.ro true (.ints .u8 r.1)), (.int .i64 r.2.1)], .row (.ints .i64 r.2.2)]) none
    | _, _ => none
theorem S.l20Net_ok : SpecOk Try.prog 56 S.l20Net_s := by
  refine SpecOk.of TDok mixed (T := S.l20Net_T) ?_ (ann := S.l20Net_ann) Try.func56 rfl (by decide +kernel) ?_ ?_ ?_
  · intro p hp
    simp only [S.l20Net_T, List.mem_cons, List.not_mem_nil, or_false] at hp
    rcases hp with rfl | rfl
    · exact S.l20Rd_pick_ok
    · exact S.l20Rd_odd_ok
  · intro args h κ r hh
    simp only [S.l20Net_s] at hh
    split at hh
    · exact (S.l20Net_den _ _ _ κ).trans hh
    · cases hh
  · intro args h κ r hh
    simp only [S.l20Net_s] at hh ⊢
    split at hh
    · exact optC_law2 (F := fun (r : (List Int) × Int × (List Int)) κ => κ (.own 1) [.cells [(.ro true (.ints .u8 r.1)), (.int .i64 r.2.1)], .row (.ints .i64 r.2.2)]) (fun b κ r hb => ⟨_, _, hb, fun _ => rfl⟩) hh
    · cases hh
  · intro hh; cases hh

-- loop.example/guardsonnets/spec.l20Set
noncomputable def S.l20Set_T : List (Nat × D.Spec) := [(56, S.l20Net_s), (38, S.l20Rd_pick_s)]
def S.l20Set_ann : Nat → List Nat × List Nat
  | _ => ([], [])
noncomputable def S.l20Set_F (args : List V) (h : List E) (κ : V → List E → R) : R := funC TD (tableK S.l20Set_T) S.l20Set_ann (drawOk (tableP S.l20Set_T)) FUEL Try.f37 args h κ
noncomputable def S.l20Set_tree {α : Type} (rb : List Int) (rp : Int) (n_ : Int) (leaf0_ : Int × (List Int) × Int × (List Int) → α) (fail_ : α) : α :=
  (optC (S.l20Net_t rb rp n_) (fun c_1 => (optC (S.l20Rd_pick_t c_1.fst c_1.snd.fst (IntKind.i64.wrap (1 * 2 ^ min (↑c_1.snd.snd.length : Int).toNat IntKind.i64.bits))) (fun c_2 => (optC (S.l20Rd_pick_t c_2.snd.fst c_2.snd.snd 40) (fun c_3 => (leaf0_ (IntKind.i64.wrap (c_2.fst + IntKind.i64.wrap (IntKind.i64.wrap (c_3.fst.tdiv 39) * 64)), c_3.snd.fst, c_3.snd.snd, c_1.snd.snd))) fail_)) fail_)) fail_)
theorem S.l20Set_tree_nat {α γ : Type} (g : α → γ) (rb : List Int) (rp : Int) (n_ : Int) (leaf0_ : Int × (List Int) × Int × (List Int) → α) (fail_ : α) : g (S.l20Set_tree rb rp n_ leaf0_ fail_) = S.l20Set_tree rb rp n_ (fun d => g (leaf0_ d)) (g fail_) := by
  unfold S.l20Set_tree; simp only [apply_cnd g, apply_optC g, apply_sumC g]
noncomputable def S.l20Set_t (rb : List Int) (rp : Int) (n_ : Int) : Option (Int × (List Int) × Int × (List Int)) := S.l20Set_tree rb rp n_ (fun d => some d) none
theorem S.l20Set_den (rb : List Int) (rp : Int) (n_ : Int) (κ : V → List E → R) : S.l20Set_F [.ptr 0 0, .int .i64 n_] [.cells [.ro true (.ints .u8 rb), .int .i64 rp]] κ = optC (S.l20Set_t rb rp n_) (fun (r : Int × (List Int) × Int × (List Int)) => κ (.tup [(.own 1), (.int .i64 r.1)]) [.cells [(.ro true (.ints .u8 r.2.1)), (.int .i64 r.2.2.1)], .row (.ints .i64 r.2.2.2)]) none := by
  have hu : S.l20Set_F [.ptr 0 0, .int .i64 n_] [.cells [.ro true (.ints .u8 rb), .int .i64 rp]] κ = S.l20Set_tree rb rp n_ (fun d => κ (.tup [(.own 1), (.int .i64 d.1)]) [.cells [(.ro true (.ints .u8 d.2.1)), (.int .i64 d.2.2.1)], .row (.ints .i64 d.2.2.2)]) none := by
    kernel_rfl
  rw [hu]
  exact (S.l20Set_tree_nat (fun o => optC o (fun (r : Int × (List Int) × Int × (List Int)) => κ (.tup [(.own 1), (.int .i64 r.1)]) [.cells [(.ro true (.ints .u8 r.2.1)), (.int .i64 r.2.2.1)], .row (.ints .i64 r.2.2.2)]) none) rb rp n_ (fun d => some d) none).symm
noncomputable def S.l20Set_s : D.Spec where
  keep := false
  pure := false
  ds := [.invalid, .invalid]
  sp := fun args h κ => match args, h with
    | [.ptr 0 0, .int .i64 n_], [.cells [.ro true (.ints .u8 rb), .int .i64 rp]] => optC (S.l20Set_t rb rp n_) (fun (r : Int × (List Int) × Int × (List Int)) => κ (.tup [(.own 1), (.int .i64 r.1)]) [.cells [(.ro true (.ints .u8 r.2.1)), (.int .i64 r.2.2.1)], .row (.ints .i64 r.2.2.2)]) none
    | _, _ => none
theorem S.l20Set_ok : SpecOk Try.prog 37 S.l20Set_s := by
  refine SpecOk.of TDok mixed (T := S.l20Set_T) ?_ (ann := S.l20Set_ann) Try.func37 rfl (by decide +kernel) ?_ ?_ ?_
  · intro p hp
    simp only [S.l20Set_T, List.mem_cons, List.not_mem_nil, or_false] at hp
    rcases hp with rfl | rfl
    · exact S.l20Net_ok
    · exact S.l20Rd_pick_ok
  · intro args h κ r hh
    simp only [S.l20Set_s] at hh
    split at hh
    · exact (S.l20Set_den _ _ _ κ).trans hh
    · cases hh
  · intro args h κ r hh
    simp only [S.l20Set_s] at hh ⊢
    split at hh
    · exact optC_law2 (F := fun (r : Int × (List Int) × Int × (List Int)) κ => κ (.tup [(.own 1), (.int .i64 r.1)]) [.cells [(.ro true (.ints .u8 r.2.1)), (.int .i64 r.2.2.1)], .row (.ints .i64 r.2.2.2)]) (fun b κ r hb => ⟨_, _, hb, fun _ => rfl⟩) hh
    · cases hh
  · intro hh; cases hh

-- loop.example/guardsonnets/spec.l1In
noncomputable def S.l1In_T : List (Nat × D.Spec) := []
def S.l1In_ann : Nat → List Nat × List Nat
  | _ => ([], [])
noncomputable def S.l1In_F (args : List V) (h : List E) (κ : V → List E → R) : R := funC TD (tableK S.l1In_T) S.l1In_ann (drawOk (tableP S.l1In_T)) FUEL Try.f67 args h κ
noncomputable def S.l1In_tree {α : Type} (n_ : Int) (low : Int) (high : Int) (leaf0_ : Bool → α) (fail_ : α) : α :=
  (bif decide (n_ ≥ low) then (leaf0_ (decide (n_ ≤ high))) else (leaf0_ false))
theorem S.l1In_tree_nat {α γ : Type} (g : α → γ) (n_ : Int) (low : Int) (high : Int) (leaf0_ : Bool → α) (fail_ : α) : g (S.l1In_tree n_ low high leaf0_ fail_) = S.l1In_tree n_ low high (fun d => g (leaf0_ d)) (g fail_) := by
  unfold S.l1In_tree; simp only [apply_cnd g, apply_optC g, apply_sumC g]
noncomputable def S.l1In_t (n_ : Int) (low : Int) (high : Int) : Option (Bool) := S.l1In_tree n_ low high (fun d => some d) none
theorem S.l1In_den (n_ : Int) (low : Int) (high : Int) (κ : V → List E → R) : S.l1In_F [.int .i64 n_, .int .i64 low, .int .i64 high] [] κ = optC (S.l1In_t n_ low high) (fun (r : Bool) => κ (.bool r) []) none := by
  have hu : S.l1In_F [.int .i64 n_, .int .i64 low, .int .i64 high] [] κ = S.l1In_tree n_ low high (fun d => κ (.bool d) []) none := by
    kernel_rfl
  rw [hu]
  exact (S.l1In_tree_nat (fun o => optC o (fun (r : Bool) => κ (.bool r) []) none) n_ low high (fun d => some d) none).symm
noncomputable def S.l1In_s : D.Spec where
  keep := false
  pure := true
  ds := [.invalid, .invalid, .invalid]
  sp := fun args h κ => match args, h with
    | [.int .i64 n_, .int .i64 low, .int .i64 high], [] => optC (S.l1In_t n_ low high) (fun (r : Bool) => κ (.bool r) []) none
    | _, _ => none
theorem S.l1In_ok : SpecOk Try.prog 67 S.l1In_s := by
  refine SpecOk.of TDok mixed (T := S.l1In_T) ?_ (ann := S.l1In_ann) Try.func67 rfl (by decide +kernel) ?_ ?_ ?_
  · intro p hp; cases hp
  · intro args h κ r hh
    simp only [S.l1In_s] at hh
    split at hh
    · exact (S.l1In_den _ _ _ κ).trans hh
    · cases hh
  · intro args h κ r hh
    simp only [S.l1In_s] at hh ⊢
    split at hh
    · exact optC_law2 (F := fun (r : Bool) κ => κ (.bool r) []) (fun b κ r hb => ⟨_, _, hb, fun _ => rfl⟩) hh
    · cases hh
  · intro _ args h κ r hh
    simp only [S.l1In_s] at hh
    split at hh
    · exact ⟨rfl, fun _ => rfl⟩
    · cases hh

-- loop.example/guardsonnets/spec.NetOk
noncomputable def S.NetOk_T : List (Nat × D.Spec) := [(67, S.l1In_s)]
def S.NetOk_ann : Nat → List Nat × List Nat
  | 12 => ([0, 4, 5], [0, 2, 4])
  | 9 => ([0, 4], [2])
  | 4 => ([0, 3], [0, 2])
  | _ => ([], [])
noncomputable def S.NetOk_F (args : List V) (h : List E) (κ : V → List E → R) : R := funC TD (tableK S.NetOk_T) S.NetOk_ann (drawOk (tableP S.NetOk_T)) FUEL Try.f58 args h κ
noncomputable def S.NetOk_L12 (n : Nat) (σ : St) (k : X → St → R) : R := iterC 0 (fun σ k => denC TD (tableK S.NetOk_T) S.NetOk_ann (drawOk (tableP S.NetOk_T)) 0 FUEL ((findLoop 12 (Try.f58.body.getD .skip)).getD .skip) σ k) [0, 4, 5] [0, 2, 4] n σ k
noncomputable def S.NetOk_L9 (n : Nat) (σ : St) (k : X → St → R) : R := iterC 0 (fun σ k => denC TD (tableK S.NetOk_T) S.NetOk_ann (drawOk (tableP S.NetOk_T)) 0 FUEL ((findLoop 9 (Try.f58.body.getD .skip)).getD .skip) σ k) [0, 4] [2] n σ k
noncomputable def S.NetOk_L4 (n : Nat) (σ : St) (k : X → St → R) : R := iterC 0 (fun σ k => denC TD (tableK S.NetOk_T) S.NetOk_ann (drawOk (tableP S.NetOk_T)) 0 FUEL ((findLoop 4 (Try.f58.body.getD .skip)).getD .skip) σ k) [0, 3] [0, 2] n σ k
noncomputable def S.NetOk_k4 (κ : V → List E → R) : X → St → R := (afterC TD (tableK S.NetOk_T) S.NetOk_ann (drawOk (tableP S.NetOk_T)) 0 FUEL 4 (Try.f58.body.getD .skip) (finC TD 0 Try.f58 κ)).getD (fun _ _ => none)
noncomputable def S.NetOk_k12 (c : (St → R) × (X → St → R)) : X → St → R := (afterC TD (tableK S.NetOk_T) S.NetOk_ann (drawOk (tableP S.NetOk_T)) 0 FUEL 12 ((findLoop 9 (Try.f58.body.getD .skip)).getD .skip) (roundC 0 [0, 4] [2] c.1 c.2)).getD (fun _ _ => none)
noncomputable def S.NetOk_k9 (κ : V → List E → R) : X → St → R := (afterC TD (tableK S.NetOk_T) S.NetOk_ann (drawOk (tableP S.NetOk_T)) 0 FUEL 9 (Try.f58.body.getD .skip) (finC TD 0 Try.f58 κ)).getD (fun _ _ => none)
noncomputable def S.NetOk_step4 {α : Type} (x0 : List Int) (x3 : Int) (next_ : Int → α) (out0_ : Bool → α) (out1_ : Unit → α) (fail_ : α) : α :=
  (bif decide (x3 < (↑x0.length : Int)) then (bif decide (0 ≤ x3) && decide (x3 < (↑x0.length : Int)) then (optC (S.l1In_t (eli x0 x3.toNat) 0 (IntKind.i64.wrap (IntKind.i64.wrap (1 * 2 ^ min (↑x0.length : Int).toNat IntKind.i64.bits) - 1))) (fun c_2 => (bif !c_2 then (out0_ false) else (next_ (IntKind.i64.wrap (x3 + 1))))) fail_) else fail_) else (out1_ ()))
theorem S.NetOk_step4_nat {α γ : Type} (g : α → γ) (x0 : List Int) (x3 : Int) (next_ : Int → α) (out0_ : Bool → α) (out1_ : Unit → α) (fail_ : α) : g (S.NetOk_step4 x0 x3 next_ out0_ out1_ fail_) = S.NetOk_step4 x0 x3 (fun s => g (next_ s)) (fun d => g (out0_ d)) (fun d => g (out1_ d)) (g fail_) := by
  unfold S.NetOk_step4; simp only [apply_cnd g, apply_optC g, apply_sumC g]
noncomputable def S.NetOk_run4 (x0 : List Int) : Nat → Int → Option ((Bool) ⊕ (Unit))
  | 0, _ => none
  | n + 1, s_ => S.NetOk_step4 x0 s_ (S.NetOk_run4 x0 n) (fun d => some ((Sum.inl d))) (fun d => some ((Sum.inr d))) none
theorem S.NetOk_L4_run (x0 : List Int) (n : Nat) (s_ : Int) (k : X → St → R) : S.NetOk_L4 n { n := 68, t := [(0, (.ro false (.ints .i64 x0))), (3, (.int .i64 s_))], h := [] } k = optC (S.NetOk_run4 x0 n s_) (fun (r : (Bool) ⊕ (Unit)) => (sumC r (fun (r : Bool) => k (.ret) { n := 68, t := [(0, (.ro false (.ints .i64 x0))), (2, (.bool r))], h := [] }) (fun (r : Unit) => k (.exit 0) { n := 68, t := [(0, (.ro false (.ints .i64 x0))), (2, .junk)], h := [] }))) none := by
  induction n generalizing s_ with
  | zero => rfl
  | succ n ih =>
    have hu : S.NetOk_L4 (n + 1) { n := 68, t := [(0, (.ro false (.ints .i64 x0))), (3, (.int .i64 s_))], h := [] } k = S.NetOk_step4 x0 s_ (fun s_ => S.NetOk_L4 n { n := 68, t := [(0, (.ro false (.ints .i64 x0))), (3, (.int .i64 s_))], h := [] } k) (fun d => k (.ret) { n := 68, t := [(0, (.ro false (.ints .i64 x0))), (2, (.bool d))], h := [] }) (fun d => k (.exit 0) { n := 68, t := [(0, (.ro false (.ints .i64 x0))), (2, .junk)], h := [] }) none := by
      kernel_rfl
    have hs : (fun s_ : Int => S.NetOk_L4 n { n := 68, t := [(0, (.ro false (.ints .i64 x0))), (3, (.int .i64 s_))], h := [] } k) = fun s_ => optC (S.NetOk_run4 x0 n s_) (fun (r : (Bool) ⊕ (Unit)) => (sumC r (fun (r : Bool) => k (.ret) { n := 68, t := [(0, (.ro false (.ints .i64 x0))), (2, (.bool r))], h := [] }) (fun (r : Unit) => k (.exit 0) { n := 68, t := [(0, (.ro false (.ints .i64 x0))), (2, .junk)], h := [] }))) none := funext ih
    rw [hu, hs]
    exact (S.NetOk_step4_nat (fun o => optC o (fun (r : (Bool) ⊕ (Unit)) => (sumC r (fun (r : Bool) => k (.ret) { n := 68, t := [(0, (.ro false (.ints .i64 x0))), (2, (.bool r))], h := [] }) (fun (r : Unit) => k (.exit 0) { n := 68, t := [(0, (.ro false (.ints .i64 x0))), (2, .junk)], h := [] }))) none) x0 s_ (S.NetOk_run4 x0 n) (fun d => some ((Sum.inl d))) (fun d => some ((Sum.inr d))) none).symm
noncomputable def S.NetOk_step12 {α : Type} (x0 : List Int) (x4 : Int) (x5 : Int) (next_ : Int → α) (out0_ : Bool → α) (out1_ : Unit → α) (fail_ : α) : α :=
  (bif decide (x5 < (↑x0.length : Int)) then (bif decide (0 ≤ x4) && decide (x4 < (↑x0.length : Int)) then (bif decide (x5 < 0) then fail_ else (bif decide (0 ≤ x5) && decide (x5 < (↑x0.length : Int)) then (bif decide (x4 < 0) then fail_ else (bif !((eli x0 x4.toNat).fdiv (2 ^ min x5.toNat IntKind.i64.bits)).tmod 2 == ((eli x0 x5.toNat).fdiv (2 ^ min x4.toNat IntKind.i64.bits)).tmod 2 then (out0_ false) else (bif x5 == x4 then (bif decide (0 ≤ x4) && decide (x4 < (↑x0.length : Int)) then (bif decide (x5 < 0) then fail_ else (bif ((eli x0 x4.toNat).fdiv (2 ^ min x5.toNat IntKind.i64.bits)).tmod 2 == 1 then (out0_ false) else (next_ (IntKind.i64.wrap (x5 + 1))))) else fail_) else (next_ (IntKind.i64.wrap (x5 + 1)))))) else fail_)) else fail_) else (out1_ ()))
theorem S.NetOk_step12_nat {α γ : Type} (g : α → γ) (x0 : List Int) (x4 : Int) (x5 : Int) (next_ : Int → α) (out0_ : Bool → α) (out1_ : Unit → α) (fail_ : α) : g (S.NetOk_step12 x0 x4 x5 next_ out0_ out1_ fail_) = S.NetOk_step12 x0 x4 x5 (fun s => g (next_ s)) (fun d => g (out0_ d)) (fun d => g (out1_ d)) (g fail_) := by
  unfold S.NetOk_step12; simp only [apply_cnd g, apply_optC g, apply_sumC g]
noncomputable def S.NetOk_run12 (x0 : List Int) (x4 : Int) : Nat → Int → Option ((Bool) ⊕ (Unit))
  | 0, _ => none
  | n + 1, s_ => S.NetOk_step12 x0 x4 s_ (S.NetOk_run12 x0 x4 n) (fun d => some ((Sum.inl d))) (fun d => some ((Sum.inr d))) none
theorem S.NetOk_L12_run (x0 : List Int) (x4 : Int) (n : Nat) (s_ : Int) (k : X → St → R) : S.NetOk_L12 n { n := 68, t := [(0, (.ro false (.ints .i64 x0))), (4, (.int .i64 x4)), (5, (.int .i64 s_))], h := [] } k = optC (S.NetOk_run12 x0 x4 n s_) (fun (r : (Bool) ⊕ (Unit)) => (sumC r (fun (r : Bool) => k (.ret) { n := 68, t := [(0, (.ro false (.ints .i64 x0))), (2, (.bool r)), (4, (.int .i64 x4))], h := [] }) (fun (r : Unit) => k (.exit 4) { n := 68, t := [(0, (.ro false (.ints .i64 x0))), (2, .junk), (4, (.int .i64 x4))], h := [] }))) none := by
  induction n generalizing s_ with
  | zero => rfl
  | succ n ih =>
    have hu : S.NetOk_L12 (n + 1) { n := 68, t := [(0, (.ro false (.ints .i64 x0))), (4, (.int .i64 x4)), (5, (.int .i64 s_))], h := [] } k = S.NetOk_step12 x0 x4 s_ (fun s_ => S.NetOk_L12 n { n := 68, t := [(0, (.ro false (.ints .i64 x0))), (4, (.int .i64 x4)), (5, (.int .i64 s_))], h := [] } k) (fun d => k (.ret) { n := 68, t := [(0, (.ro false (.ints .i64 x0))), (2, (.bool d)), (4, (.int .i64 x4))], h := [] }) (fun d => k (.exit 4) { n := 68, t := [(0, (.ro false (.ints .i64 x0))), (2, .junk), (4, (.int .i64 x4))], h := [] }) none := by
      kernel_rfl
    have hs : (fun s_ : Int => S.NetOk_L12 n { n := 68, t := [(0, (.ro false (.ints .i64 x0))), (4, (.int .i64 x4)), (5, (.int .i64 s_))], h := [] } k) = fun s_ => optC (S.NetOk_run12 x0 x4 n s_) (fun (r : (Bool) ⊕ (Unit)) => (sumC r (fun (r : Bool) => k (.ret) { n := 68, t := [(0, (.ro false (.ints .i64 x0))), (2, (.bool r)), (4, (.int .i64 x4))], h := [] }) (fun (r : Unit) => k (.exit 4) { n := 68, t := [(0, (.ro false (.ints .i64 x0))), (2, .junk), (4, (.int .i64 x4))], h := [] }))) none := funext ih
    rw [hu, hs]
    exact (S.NetOk_step12_nat (fun o => optC o (fun (r : (Bool) ⊕ (Unit)) => (sumC r (fun (r : Bool) => k (.ret) { n := 68, t := [(0, (.ro false (.ints .i64 x0))), (2, (.bool r)), (4, (.int .i64 x4))], h := [] }) (fun (r : Unit) => k (.exit 4) { n := 68, t := [(0, (.ro false (.ints .i64 x0))), (2, .junk), (4, (.int .i64 x4))], h := [] }))) none) x0 x4 s_ (S.NetOk_run12 x0 x4 n) (fun d => some ((Sum.inl d))) (fun d => some ((Sum.inr d))) none).symm
noncomputable def S.NetOk_step9 {α : Type} (x0 : List Int) (x4 : Int) (next_ : Int → α) (out0_ : Bool → α) (out1_ : Unit → α) (fail_ : α) : α :=
  (bif decide (x4 < (↑x0.length : Int)) then (optC (S.NetOk_run12 x0 x4 FUEL 0) (fun qy_4 => (sumC qy_4 (fun (qy_4 : Bool) => (out0_ qy_4)) (fun (qy_4 : Unit) => (next_ (IntKind.i64.wrap (x4 + 1)))))) fail_) else (out1_ ()))
theorem S.NetOk_step9_nat {α γ : Type} (g : α → γ) (x0 : List Int) (x4 : Int) (next_ : Int → α) (out0_ : Bool → α) (out1_ : Unit → α) (fail_ : α) : g (S.NetOk_step9 x0 x4 next_ out0_ out1_ fail_) = S.NetOk_step9 x0 x4 (fun s => g (next_ s)) (fun d => g (out0_ d)) (fun d => g (out1_ d)) (g fail_) := by
  unfold S.NetOk_step9; simp only [apply_cnd g, apply_optC g, apply_sumC g]
noncomputable def S.NetOk_run9 (x0 : List Int) : Nat → Int → Option ((Bool) ⊕ (Unit))
  | 0, _ => none
  | n + 1, s_ => S.NetOk_step9 x0 s_ (S.NetOk_run9 x0 n) (fun d => some ((Sum.inl d))) (fun d => some ((Sum.inr d))) none
theorem S.NetOk_L9_run (x0 : List Int) (n : Nat) (s_ : Int) (k : X → St → R) : S.NetOk_L9 n { n := 68, t := [(0, (.ro false (.ints .i64 x0))), (4, (.int .i64 s_))], h := [] } k = optC (S.NetOk_run9 x0 n s_) (fun (r : (Bool) ⊕ (Unit)) => (sumC r (fun (r : Bool) => k (.ret) { n := 68, t := [(2, (.bool r))], h := [] }) (fun (r : Unit) => k (.exit 2) { n := 68, t := [(2, .junk)], h := [] }))) none := by
  induction n generalizing s_ with
  | zero => rfl
  | succ n ih =>
    have hu : S.NetOk_L9 (n + 1) { n := 68, t := [(0, (.ro false (.ints .i64 x0))), (4, (.int .i64 s_))], h := [] } k = S.NetOk_step9 x0 s_ (fun s_ => S.NetOk_L9 n { n := 68, t := [(0, (.ro false (.ints .i64 x0))), (4, (.int .i64 s_))], h := [] } k) (fun d => k (.ret) { n := 68, t := [(2, (.bool d))], h := [] }) (fun d => k (.exit 2) { n := 68, t := [(2, .junk)], h := [] }) none := by
      refine Eq.trans (show S.NetOk_L9 (n + 1) { n := 68, t := [(0, (.ro false (.ints .i64 x0))), (4, (.int .i64 s_))], h := [] } k = (bif decide (s_ < (↑x0.length : Int)) then (S.NetOk_L12 FUEL { n := 68, t := [(0, (.ro false (.ints .i64 x0))), (4, (.int .i64 s_)), (5, (.int .i64 0))], h := [] } (S.NetOk_k12 ((fun σ => S.NetOk_L9 n σ k), k))) else (k (.exit 2) { n := 68, t := [(2, .junk)], h := [] })) by kernel_rfl) ?_
      refine cnd_congr ?_ ?_
      · refine (S.NetOk_L12_run x0 s_ FUEL 0 (S.NetOk_k12 ((fun σ => S.NetOk_L9 n σ k), k))).trans (optC_congr (fun qy_4 => ?_))
        rcases qy_4 with qy_4 | qy_4
        · kernel_rfl
        · kernel_rfl
      · kernel_rfl
    have hs : (fun s_ : Int => S.NetOk_L9 n { n := 68, t := [(0, (.ro false (.ints .i64 x0))), (4, (.int .i64 s_))], h := [] } k) = fun s_ => optC (S.NetOk_run9 x0 n s_) (fun (r : (Bool) ⊕ (Unit)) => (sumC r (fun (r : Bool) => k (.ret) { n := 68, t := [(2, (.bool r))], h := [] }) (fun (r : Unit) => k (.exit 2) { n := 68, t := [(2, .junk)], h := [] }))) none := funext ih
    rw [hu, hs]
    exact (S.NetOk_step9_nat (fun o => optC o (fun (r : (Bool) ⊕ (Unit)) => (sumC r (fun (r : Bool) => k (.ret) { n := 68, t := [(2, (.bool r))], h := [] }) (fun (r : Unit) => k (.exit 2) { n := 68, t := [(2, .junk)], h := [] }))) none) x0 s_ (S.NetOk_run9 x0 n) (fun d => some ((Sum.inl d))) (fun d => some ((Sum.inr d))) none).symm
noncomputable def S.NetOk_tree {α : Type} (net : List Int) (leaf0_ : Bool → α) (fail_ : α) : α :=
  (optC (S.l1In_t (↑net.length : Int) 1 6) (fun c_1 => (bif !c_1 then (leaf0_ false) else (optC (S.NetOk_run4 net FUEL 0) (fun qy_3 => (sumC qy_3 (fun (qy_3 : Bool) => (leaf0_ qy_3)) (fun (qy_3 : Unit) => (optC (S.NetOk_run9 net FUEL 0) (fun qy_5 => (sumC qy_5 (fun (qy_5 : Bool) => (leaf0_ qy_5)) (fun (qy_5 : Unit) => (leaf0_ true)))) fail_)))) fail_))) fail_)
theorem S.NetOk_tree_nat {α γ : Type} (g : α → γ) (net : List Int) (leaf0_ : Bool → α) (fail_ : α) : g (S.NetOk_tree net leaf0_ fail_) = S.NetOk_tree net (fun d => g (leaf0_ d)) (g fail_) := by
  unfold S.NetOk_tree; simp only [apply_cnd g, apply_optC g, apply_sumC g]
noncomputable def S.NetOk_t (net : List Int) : Option (Bool) := S.NetOk_tree net (fun d => some d) none
theorem S.NetOk_den (net : List Int) (κ : V → List E → R) : S.NetOk_F [.ro false (.ints .i64 net)] [] κ = optC (S.NetOk_t net) (fun (r : Bool) => κ (.bool r) []) none := by
  have hu : S.NetOk_F [.ro false (.ints .i64 net)] [] κ = S.NetOk_tree net (fun d => κ (.bool d) []) none := by
    refine Eq.trans (show S.NetOk_F [.ro false (.ints .i64 net)] [] κ = (optC (S.l1In_t (↑net.length : Int) 1 6) (fun c_1 => (bif !c_1 then (κ (.bool false) []) else (S.NetOk_L4 FUEL { n := 68, t := [(0, (.ro false (.ints .i64 net))), (3, (.int .i64 0))], h := [] } (S.NetOk_k4 κ)))) none) by kernel_rfl) ?_
    refine optC_congr (fun c_1 => ?_)
    refine cnd_congr ?_ ?_
    · kernel_rfl
    · refine (S.NetOk_L4_run net FUEL 0 (S.NetOk_k4 κ)).trans (optC_congr (fun qy_3 => ?_))
      rcases qy_3 with qy_3 | qy_3
      · kernel_rfl
      · refine Eq.trans (show (S.NetOk_k4 κ (.exit 0) { n := 68, t := [(0, (.ro false (.ints .i64 net))), (2, .junk)], h := [] }) = (S.NetOk_L9 FUEL { n := 68, t := [(0, (.ro false (.ints .i64 net))), (4, (.int .i64 0))], h := [] } (S.NetOk_k9 κ)) by kernel_rfl) ?_
        refine (S.NetOk_L9_run net FUEL 0 (S.NetOk_k9 κ)).trans (optC_congr (fun qy_5 => ?_))
        rcases qy_5 with qy_5 | qy_5
        · kernel_rfl
        · kernel_rfl
  rw [hu]
  exact (S.NetOk_tree_nat (fun o => optC o (fun (r : Bool) => κ (.bool r) []) none) net (fun d => some d) none).symm
noncomputable def S.NetOk_s : D.Spec where
  keep := false
  pure := true
  ds := [.int .i64]
  sp := fun args h κ => match args, h with
    | [.ro false (.ints .i64 net)], [] => optC (S.NetOk_t net) (fun (r : Bool) => κ (.bool r) []) none
    | _, _ => none
theorem S.NetOk_ok : SpecOk Try.prog 58 S.NetOk_s := by
  refine SpecOk.of TDok mixed (T := S.NetOk_T) ?_ (ann := S.NetOk_ann) Try.func58 rfl (by decide +kernel) ?_ ?_ ?_
  · intro p hp
    simp only [S.NetOk_T, List.mem_cons, List.not_mem_nil, or_false] at hp
    rcases hp with rfl
    · exact S.l1In_ok
  · intro args h κ r hh
    simp only [S.NetOk_s] at hh
    split at hh
    · exact (S.NetOk_den _ κ).trans hh
    · cases hh
  · intro args h κ r hh
    simp only [S.NetOk_s] at hh ⊢
    split at hh
    · exact optC_law2 (F := fun (r : Bool) κ => κ (.bool r) []) (fun b κ r hb => ⟨_, _, hb, fun _ => rfl⟩) hh
    · cases hh
  · intro _ args h κ r hh
    simp only [S.NetOk_s] at hh
    split at hh
    · exact ⟨rfl, fun _ => rfl⟩
    · cases hh

-- loop.example/guardsonnets/spec.l1SetOk
noncomputable def S.l1SetOk_T : List (Nat × D.Spec) := [(58, S.NetOk_s), (67, S.l1In_s)]
def S.l1SetOk_ann : Nat → List Nat × List Nat
  | _ => ([], [])
noncomputable def S.l1SetOk_F (args : List V) (h : List E) (κ : V → List E → R) : R := funC TD (tableK S.l1SetOk_T) S.l1SetOk_ann (drawOk (tableP S.l1SetOk_T)) FUEL Try.f39 args h κ
noncomputable def S.l1SetOk_tree {α : Type} (net : List Int) (set_ : Int) (leaf0_ : Bool → α) (fail_ : α) : α :=
  (optC (S.NetOk_t net) (fun c_1 => (bif c_1 then (optC (S.l1In_t set_ 0 (IntKind.i64.wrap (IntKind.i64.wrap (1 * 2 ^ min (↑net.length : Int).toNat IntKind.i64.bits) - 1))) (fun c_2 => (leaf0_ c_2)) fail_) else (leaf0_ false))) fail_)
theorem S.l1SetOk_tree_nat {α γ : Type} (g : α → γ) (net : List Int) (set_ : Int) (leaf0_ : Bool → α) (fail_ : α) : g (S.l1SetOk_tree net set_ leaf0_ fail_) = S.l1SetOk_tree net set_ (fun d => g (leaf0_ d)) (g fail_) := by
  unfold S.l1SetOk_tree; simp only [apply_cnd g, apply_optC g, apply_sumC g]
noncomputable def S.l1SetOk_t (net : List Int) (set_ : Int) : Option (Bool) := S.l1SetOk_tree net set_ (fun d => some d) none
theorem S.l1SetOk_den (net : List Int) (set_ : Int) (κ : V → List E → R) : S.l1SetOk_F [.ro false (.ints .i64 net), .int .i64 set_] [] κ = optC (S.l1SetOk_t net set_) (fun (r : Bool) => κ (.bool r) []) none := by
  have hu : S.l1SetOk_F [.ro false (.ints .i64 net), .int .i64 set_] [] κ = S.l1SetOk_tree net set_ (fun d => κ (.bool d) []) none := by
    kernel_rfl
  rw [hu]
  exact (S.l1SetOk_tree_nat (fun o => optC o (fun (r : Bool) => κ (.bool r) []) none) net set_ (fun d => some d) none).symm
noncomputable def S.l1SetOk_s : D.Spec where
  keep := false
  pure := true
  ds := [.int .i64, .invalid]
  sp := fun args h κ => match args, h with
    | [.ro false (.ints .i64 net), .int .i64 set_], [] => optC (S.l1SetOk_t net set_) (fun (r : Bool) => κ (.bool r) []) none
    | _, _ => none
theorem S.l1SetOk_ok : SpecOk Try.prog 39 S.l1SetOk_s := by
  refine SpecOk.of TDok mixed (T := S.l1SetOk_T) ?_ (ann := S.l1SetOk_ann) Try.func39 rfl (by decide +kernel) ?_ ?_ ?_
  · intro p hp
    simp only [S.l1SetOk_T, List.mem_cons, List.not_mem_nil, or_false] at hp
    rcases hp with rfl | rfl
    · exact S.NetOk_ok
    · exact S.l1In_ok
  · intro args h κ r hh
    simp only [S.l1SetOk_s] at hh
    split at hh
    · exact (S.l1SetOk_den _ _ κ).trans hh
    · cases hh
  · intro args h κ r hh
    simp only [S.l1SetOk_s] at hh ⊢
    split at hh
    · exact optC_law2 (F := fun (r : Bool) κ => κ (.bool r) []) (fun b κ r hb => ⟨_, _, hb, fun _ => rfl⟩) hh
    · cases hh
  · intro _ args h κ r hh
    simp only [S.l1SetOk_s] at hh
    split at hh
    · exact ⟨rfl, fun _ => rfl⟩
    · cases hh

-- loop.example/guardsonnets/spec.l8Moved
noncomputable def S.l8Moved_T : List (Nat × D.Spec) := []
def S.l8Moved_ann : Nat → List Nat × List Nat
  | _ => ([], [])
noncomputable def S.l8Moved_F (args : List V) (h : List E) (κ : V → List E → R) : R := funC TD (tableK S.l8Moved_T) S.l8Moved_ann (drawOk (tableP S.l8Moved_T)) FUEL Try.f40 args h κ
noncomputable def S.l8Moved_tree {α : Type} (set_ : Int) (from_ : Int) (to_ : Int) (leaf0_ : Int → α) (fail_ : α) : α :=
  (bif decide (from_ < 0) then fail_ else (bif decide (to_ < 0) then fail_ else (leaf0_ (bits BinOp.or IntKind.i64 (bits BinOp.andNot IntKind.i64 set_ (IntKind.i64.wrap (1 * 2 ^ min from_.toNat IntKind.i64.bits))) (IntKind.i64.wrap (1 * 2 ^ min to_.toNat IntKind.i64.bits))))))
theorem S.l8Moved_tree_nat {α γ : Type} (g : α → γ) (set_ : Int) (from_ : Int) (to_ : Int) (leaf0_ : Int → α) (fail_ : α) : g (S.l8Moved_tree set_ from_ to_ leaf0_ fail_) = S.l8Moved_tree set_ from_ to_ (fun d => g (leaf0_ d)) (g fail_) := by
  unfold S.l8Moved_tree; simp only [apply_cnd g, apply_optC g, apply_sumC g]
noncomputable def S.l8Moved_t (set_ : Int) (from_ : Int) (to_ : Int) : Option (Int) := S.l8Moved_tree set_ from_ to_ (fun d => some d) none
theorem S.l8Moved_den (set_ : Int) (from_ : Int) (to_ : Int) (κ : V → List E → R) : S.l8Moved_F [.int .i64 set_, .int .i64 from_, .int .i64 to_] [] κ = optC (S.l8Moved_t set_ from_ to_) (fun (r : Int) => κ (.int .i64 r) []) none := by
  have hu : S.l8Moved_F [.int .i64 set_, .int .i64 from_, .int .i64 to_] [] κ = S.l8Moved_tree set_ from_ to_ (fun d => κ (.int .i64 d) []) none := by
    kernel_rfl
  rw [hu]
  exact (S.l8Moved_tree_nat (fun o => optC o (fun (r : Int) => κ (.int .i64 r) []) none) set_ from_ to_ (fun d => some d) none).symm
noncomputable def S.l8Moved_s : D.Spec where
  keep := false
  pure := true
  ds := [.invalid, .invalid, .invalid]
  sp := fun args h κ => match args, h with
    | [.int .i64 set_, .int .i64 from_, .int .i64 to_], [] => optC (S.l8Moved_t set_ from_ to_) (fun (r : Int) => κ (.int .i64 r) []) none
    | _, _ => none
theorem S.l8Moved_ok : SpecOk Try.prog 40 S.l8Moved_s := by
  refine SpecOk.of TDok mixed (T := S.l8Moved_T) ?_ (ann := S.l8Moved_ann) Try.func40 rfl (by decide +kernel) ?_ ?_ ?_
  · intro p hp; cases hp
  · intro args h κ r hh
    simp only [S.l8Moved_s] at hh
    split at hh
    · exact (S.l8Moved_den _ _ _ κ).trans hh
    · cases hh
  · intro args h κ r hh
    simp only [S.l8Moved_s] at hh ⊢
    split at hh
    · exact optC_law2 (F := fun (r : Int) κ => κ (.int .i64 r) []) (fun b κ r hb => ⟨_, _, hb, fun _ => rfl⟩) hh
    · cases hh
  · intro _ args h κ r hh
    simp only [S.l8Moved_s] at hh
    split at hh
    · exact ⟨rfl, fun _ => rfl⟩
    · cases hh

-- loop.example/guardsonnets/spec.DrawAllMoveOk
noncomputable def S.DrawAllMoveOk_T : List (Nat × D.Spec) := [(36, S.l20Open_s), (37, S.l20Set_s), (38, S.l20Rd_pick_s), (39, S.l1SetOk_s), (40, S.l8Moved_s)]
def S.DrawAllMoveOk_ann : Nat → List Nat × List Nat
  | 7 => ([5, 6, 7, 8, 9], [6, 7, 8])
  | _ => ([], [])
noncomputable def S.DrawAllMoveOk_F (args : List V) (h : List E) (κ : V → List E → R) : R := funC TD (tableK S.DrawAllMoveOk_T) S.DrawAllMoveOk_ann (drawOk (tableP S.DrawAllMoveOk_T)) FUEL Try.f11 args h κ
noncomputable def S.DrawAllMoveOk_L7 (n : Nat) (σ : St) (k : X → St → R) : R := iterC 0 (fun σ k => denC TD (tableK S.DrawAllMoveOk_T) S.DrawAllMoveOk_ann (drawOk (tableP S.DrawAllMoveOk_T)) 0 FUEL ((findLoop 7 (Try.f11.body.getD .skip)).getD .skip) σ k) [5, 6, 7, 8, 9] [6, 7, 8] n σ k
noncomputable def S.DrawAllMoveOk_k7 (κ : V → List E → R) : X → St → R := (afterC TD (tableK S.DrawAllMoveOk_T) S.DrawAllMoveOk_ann (drawOk (tableP S.DrawAllMoveOk_T)) 0 FUEL 7 (Try.f11.body.getD .skip) (finC TD 0 Try.f11 κ)).getD (fun _ _ => none)
noncomputable def S.DrawAllMoveOk_step7 {α : Type} (x7 : Int) (x8 : Int) (x9 : Int) (r0_0 : List Int) (r0_1 : Int) (r1 : List Int) (next_ : Int × Int × (List Int) × Int × (List Int) → α) (out0_ : Int × (List Int) → α) (fail_ : α) : α :=
  (bif decide (x9 < (↑r1.length : Int)) then (optC (S.l20Rd_pick_t r0_0 r0_1 (↑r1.length : Int)) (fun c_6 => (bif decide (x9 < 0) then fail_ else (bif (x7.fdiv (2 ^ min x9.toNat IntKind.i64.bits)).tmod 2 == 1 then (bif decide (0 ≤ x9) && decide (x9 < (↑r1.length : Int)) then (bif decide (x9.toNat < r1.length) then (bif decide (c_6.fst < 0) then fail_ else (bif ((eli r1 x9.toNat).fdiv (2 ^ min c_6.fst.toNat IntKind.i64.bits)).tmod 2 == 1 then (bif decide (x9 < 0) then fail_ else (bif (x8.fdiv (2 ^ min x9.toNat IntKind.i64.bits)).tmod 2 == 1 then (bif decide (c_6.fst < 0) then fail_ else (bif (x8.fdiv (2 ^ min c_6.fst.toNat IntKind.i64.bits)).tmod 2 == 0 then (optC (S.l20Rd_pick_t c_6.snd.fst c_6.snd.snd 3) (fun c_7 => (bif decide (c_7.fst > 0) then (optC (S.l8Moved_t x8 x9 c_6.fst) (fun c_8 => (next_ (c_8, IntKind.i64.wrap (x9 + 1), c_7.snd.fst, c_7.snd.snd, r1))) fail_) else (next_ (x8, IntKind.i64.wrap (x9 + 1), c_7.snd.fst, c_7.snd.snd, r1)))) fail_) else (next_ (x8, IntKind.i64.wrap (x9 + 1), c_6.snd.fst, c_6.snd.snd, r1)))) else (next_ (x8, IntKind.i64.wrap (x9 + 1), c_6.snd.fst, c_6.snd.snd, r1)))) else (next_ (x8, IntKind.i64.wrap (x9 + 1), c_6.snd.fst, c_6.snd.snd, r1)))) else fail_) else fail_) else (next_ (x8, IntKind.i64.wrap (x9 + 1), c_6.snd.fst, c_6.snd.snd, r1))))) fail_) else (out0_ (x8, r1)))
theorem S.DrawAllMoveOk_step7_nat {α γ : Type} (g : α → γ) (x7 : Int) (x8 : Int) (x9 : Int) (r0_0 : List Int) (r0_1 : Int) (r1 : List Int) (next_ : Int × Int × (List Int) × Int × (List Int) → α) (out0_ : Int × (List Int) → α) (fail_ : α) : g (S.DrawAllMoveOk_step7 x7 x8 x9 r0_0 r0_1 r1 next_ out0_ fail_) = S.DrawAllMoveOk_step7 x7 x8 x9 r0_0 r0_1 r1 (fun s => g (next_ s)) (fun d => g (out0_ d)) (g fail_) := by
  unfold S.DrawAllMoveOk_step7; simp only [apply_cnd g, apply_optC g, apply_sumC g]
noncomputable def S.DrawAllMoveOk_run7 (x7 : Int) : Nat → Int × Int × (List Int) × Int × (List Int) → Option (Int × (List Int))
  | 0, _ => none
  | n + 1, s_ => S.DrawAllMoveOk_step7 x7 s_.1 s_.2.1 s_.2.2.1 s_.2.2.2.1 s_.2.2.2.2 (S.DrawAllMoveOk_run7 x7 n) (fun d => some d) none
theorem S.DrawAllMoveOk_L7_run (x7 : Int) (n : Nat) (s_ : Int × Int × (List Int) × Int × (List Int)) (k : X → St → R) : S.DrawAllMoveOk_L7 n { n := 83, t := [(5, (.ptr 0 0)), (6, (.own 1)), (7, (.int .i64 x7)), (8, (.int .i64 s_.1)), (9, (.int .i64 s_.2.1))], h := [.cells [(.ro true (.ints .u8 s_.2.2.1)), (.int .i64 s_.2.2.2.1)], .row (.ints .i64 s_.2.2.2.2)] } k = optC (S.DrawAllMoveOk_run7 x7 n s_) (fun (r : Int × (List Int)) => k (.exit 0) { n := 83, t := [(6, (.own 0)), (7, (.int .i64 x7)), (8, (.int .i64 r.1))], h := [.row (.ints .i64 r.2)] }) none := by
  induction n generalizing s_ with
  | zero => rfl
  | succ n ih =>
    have hu : S.DrawAllMoveOk_L7 (n + 1) { n := 83, t := [(5, (.ptr 0 0)), (6, (.own 1)), (7, (.int .i64 x7)), (8, (.int .i64 s_.1)), (9, (.int .i64 s_.2.1))], h := [.cells [(.ro true (.ints .u8 s_.2.2.1)), (.int .i64 s_.2.2.2.1)], .row (.ints .i64 s_.2.2.2.2)] } k = S.DrawAllMoveOk_step7 x7 s_.1 s_.2.1 s_.2.2.1 s_.2.2.2.1 s_.2.2.2.2 (fun s_ => S.DrawAllMoveOk_L7 n { n := 83, t := [(5, (.ptr 0 0)), (6, (.own 1)), (7, (.int .i64 x7)), (8, (.int .i64 s_.1)), (9, (.int .i64 s_.2.1))], h := [.cells [(.ro true (.ints .u8 s_.2.2.1)), (.int .i64 s_.2.2.2.1)], .row (.ints .i64 s_.2.2.2.2)] } k) (fun d => k (.exit 0) { n := 83, t := [(6, (.own 0)), (7, (.int .i64 x7)), (8, (.int .i64 d.1))], h := [.row (.ints .i64 d.2)] }) none := by
      kernel_rfl
    have hs : (fun s_ : Int × Int × (List Int) × Int × (List Int) => S.DrawAllMoveOk_L7 n { n := 83, t := [(5, (.ptr 0 0)), (6, (.own 1)), (7, (.int .i64 x7)), (8, (.int .i64 s_.1)), (9, (.int .i64 s_.2.1))], h := [.cells [(.ro true (.ints .u8 s_.2.2.1)), (.int .i64 s_.2.2.2.1)], .row (.ints .i64 s_.2.2.2.2)] } k) = fun s_ => optC (S.DrawAllMoveOk_run7 x7 n s_) (fun (r : Int × (List Int)) => k (.exit 0) { n := 83, t := [(6, (.own 0)), (7, (.int .i64 x7)), (8, (.int .i64 r.1))], h := [.row (.ints .i64 r.2)] }) none := funext ih
    rw [hu, hs]
    exact (S.DrawAllMoveOk_step7_nat (fun o => optC o (fun (r : Int × (List Int)) => k (.exit 0) { n := 83, t := [(6, (.own 0)), (7, (.int .i64 x7)), (8, (.int .i64 r.1))], h := [.row (.ints .i64 r.2)] }) none) x7 s_.1 s_.2.1 s_.2.2.1 s_.2.2.2.1 s_.2.2.2.2 (S.DrawAllMoveOk_run7 x7 n) (fun d => some d) none).symm
noncomputable def S.DrawAllMoveOk_tree {α : Type} (code : List Int) (leaf0_ : Int × Int × (List Int) → α) (fail_ : α) : α :=
  (optC (S.l20Open_t code) (fun c_1 => (optC (S.l20Set_t c_1.fst c_1.snd 12) (fun c_2 => (optC (S.l20Rd_pick_t c_2.snd.fst c_2.snd.snd.fst (IntKind.i64.wrap (1 * 2 ^ min (↑c_2.snd.snd.snd.length : Int).toNat IntKind.i64.bits))) (fun c_3 => (optC (S.l1SetOk_t c_2.snd.snd.snd c_2.fst) (fun c_4 => (bif c_4 then (optC (S.l20Rd_pick_t c_3.snd.fst c_3.snd.snd 3) (fun c_5 => (bif decide (c_5.fst > 0) then (optC (S.DrawAllMoveOk_run7 c_2.fst FUEL (c_2.fst, 0, c_5.snd.fst, c_5.snd.snd, c_2.snd.snd.snd)) (fun qy_9 => (leaf0_ (c_2.fst, qy_9.1, qy_9.2))) fail_) else (leaf0_ (c_2.fst, c_3.fst, c_2.snd.snd.snd)))) fail_) else (leaf0_ (c_2.fst, c_3.fst, c_2.snd.snd.snd)))) fail_)) fail_)) fail_)) fail_)
theorem S.DrawAllMoveOk_tree_nat {α γ : Type} (g : α → γ) (code : List Int) (leaf0_ : Int × Int × (List Int) → α) (fail_ : α) : g (S.DrawAllMoveOk_tree code leaf0_ fail_) = S.DrawAllMoveOk_tree code (fun d => g (leaf0_ d)) (g fail_) := by
  unfold S.DrawAllMoveOk_tree; simp only [apply_cnd g, apply_optC g, apply_sumC g]
noncomputable def S.DrawAllMoveOk_t (code : List Int) : Option (Int × Int × (List Int)) := S.DrawAllMoveOk_tree code (fun d => some d) none
theorem S.DrawAllMoveOk_den (code : List Int) (κ : V → List E → R) : S.DrawAllMoveOk_F [.ro true (.ints .u8 code)] [] κ = optC (S.DrawAllMoveOk_t code) (fun (r : Int × Int × (List Int)) => κ (.tup [(.own 0), (.int .i64 r.1), (.int .i64 r.2.1)]) [.row (.ints .i64 r.2.2)]) none := by
  have hu : S.DrawAllMoveOk_F [.ro true (.ints .u8 code)] [] κ = S.DrawAllMoveOk_tree code (fun d => κ (.tup [(.own 0), (.int .i64 d.1), (.int .i64 d.2.1)]) [.row (.ints .i64 d.2.2)]) none := by
    refine Eq.trans (show S.DrawAllMoveOk_F [.ro true (.ints .u8 code)] [] κ = (optC (S.l20Open_t code) (fun c_1 => (optC (S.l20Set_t c_1.fst c_1.snd 12) (fun c_2 => (optC (S.l20Rd_pick_t c_2.snd.fst c_2.snd.snd.fst (IntKind.i64.wrap (1 * 2 ^ min (↑c_2.snd.snd.snd.length : Int).toNat IntKind.i64.bits))) (fun c_3 => (optC (S.l1SetOk_t c_2.snd.snd.snd c_2.fst) (fun c_4 => (bif c_4 then (optC (S.l20Rd_pick_t c_3.snd.fst c_3.snd.snd 3) (fun c_5 => (bif decide (c_5.fst > 0) then (S.DrawAllMoveOk_L7 FUEL { n := 83, t := [(5, (.ptr 0 0)), (6, (.own 1)), (7, (.int .i64 c_2.fst)), (8, (.int .i64 c_2.fst)), (9, (.int .i64 0))], h := [.cells [(.ro true (.ints .u8 c_5.snd.fst)), (.int .i64 c_5.snd.snd)], .row (.ints .i64 c_2.snd.snd.snd)] } (S.DrawAllMoveOk_k7 κ)) else (κ (.tup [(.own 0), (.int .i64 c_2.fst), (.int .i64 c_3.fst)]) [.row (.ints .i64 c_2.snd.snd.snd)]))) none) else (κ (.tup [(.own 0), (.int .i64 c_2.fst), (.int .i64 c_3.fst)]) [.row (.ints .i64 c_2.snd.snd.snd)]))) none)) none)) none)) none) by kernel_rfl) ?_
    refine optC_congr (fun c_1 => ?_)
    refine optC_congr (fun c_2 => ?_)
    refine optC_congr (fun c_3 => ?_)
    refine optC_congr (fun c_4 => ?_)
    refine cnd_congr ?_ ?_
    · refine optC_congr (fun c_5 => ?_)
      refine cnd_congr ?_ ?_
      · refine (S.DrawAllMoveOk_L7_run c_2.fst FUEL (c_2.fst, 0, c_5.snd.fst, c_5.snd.snd, c_2.snd.snd.snd) (S.DrawAllMoveOk_k7 κ)).trans (optC_congr (fun qy_9 => ?_))
        kernel_rfl
      · kernel_rfl
    · kernel_rfl
  rw [hu]
  exact (S.DrawAllMoveOk_tree_nat (fun o => optC o (fun (r : Int × Int × (List Int)) => κ (.tup [(.own 0), (.int .i64 r.1), (.int .i64 r.2.1)]) [.row (.ints .i64 r.2.2)]) none) code (fun d => some d) none).symm
noncomputable def S.DrawAllMoveOk_s : D.Spec where
  keep := true
  pure := false
  ds := [.int .u8]
  sp := fun args h κ => match args, h with
    | [.ro true (.ints .u8 code)], [] => optC (S.DrawAllMoveOk_t code) (fun (r : Int × Int × (List Int)) => κ (.tup [(.own 0), (.int .i64 r.1), (.int .i64 r.2.1)]) [.row (.ints .i64 r.2.2)]) none
    | _, _ => none
theorem S.DrawAllMoveOk_ok : SpecOk Try.prog 11 S.DrawAllMoveOk_s := by
  refine SpecOk.of TDok mixed (T := S.DrawAllMoveOk_T) ?_ (ann := S.DrawAllMoveOk_ann) Try.func11 rfl (by decide +kernel) ?_ ?_ ?_
  · intro p hp
    simp only [S.DrawAllMoveOk_T, List.mem_cons, List.not_mem_nil, or_false] at hp
    rcases hp with rfl | rfl | rfl | rfl | rfl
    · exact S.l20Open_ok
    · exact S.l20Set_ok
    · exact S.l20Rd_pick_ok
    · exact S.l1SetOk_ok
    · exact S.l8Moved_ok
  · intro args h κ r hh
    simp only [S.DrawAllMoveOk_s] at hh
    split at hh
    · exact (S.DrawAllMoveOk_den _ κ).trans hh
    · cases hh
  · intro args h κ r hh
    simp only [S.DrawAllMoveOk_s] at hh ⊢
    split at hh
    · exact optC_law2 (F := fun (r : Int × Int × (List Int)) κ => κ (.tup [(.own 0), (.int .i64 r.1), (.int .i64 r.2.1)]) [.row (.ints .i64 r.2.2)]) (fun b κ r hb => ⟨_, _, hb, fun _ => rfl⟩) hh
    · cases hh
  · intro hh; cases hh

-- loop.example/guardsonnets/impl.setIn
noncomputable def I.setIn_T : List (Nat × D.Spec) := []
def I.setIn_ann : Nat → List Nat × List Nat
  | _ => ([], [])
noncomputable def I.setIn_F (args : List V) (h : List E) (κ : V → List E → R) : R := funC TD (tableK I.setIn_T) I.setIn_ann (drawOk (tableP I.setIn_T)) FUEL Try.f41 args h κ
noncomputable def I.setIn_tree {α : Type} (net : List Int) (set_ : Int) (leaf0_ : Bool → α) (fail_ : α) : α :=
  (bif decide (set_ ≥ 0) then (leaf0_ (decide (set_ < IntKind.i64.wrap (1 * 2 ^ min (↑net.length : Int).toNat IntKind.i64.bits)))) else (leaf0_ false))
theorem I.setIn_tree_nat {α γ : Type} (g : α → γ) (net : List Int) (set_ : Int) (leaf0_ : Bool → α) (fail_ : α) : g (I.setIn_tree net set_ leaf0_ fail_) = I.setIn_tree net set_ (fun d => g (leaf0_ d)) (g fail_) := by
  unfold I.setIn_tree; simp only [apply_cnd g, apply_optC g, apply_sumC g]
noncomputable def I.setIn_t (net : List Int) (set_ : Int) : Option (Bool) := I.setIn_tree net set_ (fun d => some d) none
theorem I.setIn_den (net : List Int) (set_ : Int) (κ : V → List E → R) : I.setIn_F [.ro false (.ints .i64 net), .int .i64 set_] [] κ = optC (I.setIn_t net set_) (fun (r : Bool) => κ (.bool r) []) none := by
  have hu : I.setIn_F [.ro false (.ints .i64 net), .int .i64 set_] [] κ = I.setIn_tree net set_ (fun d => κ (.bool d) []) none := by
    kernel_rfl
  rw [hu]
  exact (I.setIn_tree_nat (fun o => optC o (fun (r : Bool) => κ (.bool r) []) none) net set_ (fun d => some d) none).symm
noncomputable def I.setIn_s : D.Spec where
  keep := false
  pure := true
  ds := [.int .i64, .invalid]
  sp := fun args h κ => match args, h with
    | [.ro false (.ints .i64 net), .int .i64 set_], [] => optC (I.setIn_t net set_) (fun (r : Bool) => κ (.bool r) []) none
    | _, _ => none
theorem I.setIn_ok : SpecOk Try.prog 41 I.setIn_s := by
  refine SpecOk.of TDok mixed (T := I.setIn_T) ?_ (ann := I.setIn_ann) Try.func41 rfl (by decide +kernel) ?_ ?_ ?_
  · intro p hp; cases hp
  · intro args h κ r hh
    simp only [I.setIn_s] at hh
    split at hh
    · exact (I.setIn_den _ _ κ).trans hh
    · cases hh
  · intro args h κ r hh
    simp only [I.setIn_s] at hh ⊢
    split at hh
    · exact optC_law2 (F := fun (r : Bool) κ => κ (.bool r) []) (fun b κ r hb => ⟨_, _, hb, fun _ => rfl⟩) hh
    · cases hh
  · intro _ args h κ r hh
    simp only [I.setIn_s] at hh
    split at hh
    · exact ⟨rfl, fun _ => rfl⟩
    · cases hh

-- loop.example/guardsonnets/impl.hasPlace
noncomputable def I.hasPlace_T : List (Nat × D.Spec) := []
def I.hasPlace_ann : Nat → List Nat × List Nat
  | _ => ([], [])
noncomputable def I.hasPlace_F (args : List V) (h : List E) (κ : V → List E → R) : R := funC TD (tableK I.hasPlace_T) I.hasPlace_ann (drawOk (tableP I.hasPlace_T)) FUEL Try.f53 args h κ
noncomputable def I.hasPlace_tree {α : Type} (set_ : Int) (place : Int) (leaf0_ : Bool → α) (fail_ : α) : α :=
  (bif decide (place < 0) then fail_ else (leaf0_ (bits BinOp.and IntKind.i64 (set_.fdiv (2 ^ min place.toNat IntKind.i64.bits)) 1 == 1)))
theorem I.hasPlace_tree_nat {α γ : Type} (g : α → γ) (set_ : Int) (place : Int) (leaf0_ : Bool → α) (fail_ : α) : g (I.hasPlace_tree set_ place leaf0_ fail_) = I.hasPlace_tree set_ place (fun d => g (leaf0_ d)) (g fail_) := by
  unfold I.hasPlace_tree; simp only [apply_cnd g, apply_optC g, apply_sumC g]
noncomputable def I.hasPlace_t (set_ : Int) (place : Int) : Option (Bool) := I.hasPlace_tree set_ place (fun d => some d) none
theorem I.hasPlace_den (set_ : Int) (place : Int) (κ : V → List E → R) : I.hasPlace_F [.int .i64 set_, .int .i64 place] [] κ = optC (I.hasPlace_t set_ place) (fun (r : Bool) => κ (.bool r) []) none := by
  have hu : I.hasPlace_F [.int .i64 set_, .int .i64 place] [] κ = I.hasPlace_tree set_ place (fun d => κ (.bool d) []) none := by
    kernel_rfl
  rw [hu]
  exact (I.hasPlace_tree_nat (fun o => optC o (fun (r : Bool) => κ (.bool r) []) none) set_ place (fun d => some d) none).symm
noncomputable def I.hasPlace_s : D.Spec where
  keep := false
  pure := true
  ds := [.invalid, .invalid]
  sp := fun args h κ => match args, h with
    | [.int .i64 set_, .int .i64 place], [] => optC (I.hasPlace_t set_ place) (fun (r : Bool) => κ (.bool r) []) none
    | _, _ => none
theorem I.hasPlace_ok : SpecOk Try.prog 53 I.hasPlace_s := by
  refine SpecOk.of TDok mixed (T := I.hasPlace_T) ?_ (ann := I.hasPlace_ann) Try.func53 rfl (by decide +kernel) ?_ ?_ ?_
  · intro p hp; cases hp
  · intro args h κ r hh
    simp only [I.hasPlace_s] at hh
    split at hh
    · exact (I.hasPlace_den _ _ κ).trans hh
    · cases hh
  · intro args h κ r hh
    simp only [I.hasPlace_s] at hh ⊢
    split at hh
    · exact optC_law2 (F := fun (r : Bool) κ => κ (.bool r) []) (fun b κ r hb => ⟨_, _, hb, fun _ => rfl⟩) hh
    · cases hh
  · intro _ args h κ r hh
    simp only [I.hasPlace_s] at hh
    split at hh
    · exact ⟨rfl, fun _ => rfl⟩
    · cases hh

-- loop.example/guardsonnets/impl.knownBack
noncomputable def I.knownBack_T : List (Nat × D.Spec) := [(53, I.hasPlace_s)]
def I.knownBack_ann : Nat → List Nat × List Nat
  | 2 => ([0, 1, 5], [4])
  | _ => ([], [])
noncomputable def I.knownBack_F (args : List V) (h : List E) (κ : V → List E → R) : R := funC TD (tableK I.knownBack_T) I.knownBack_ann (drawOk (tableP I.knownBack_T)) FUEL Try.f59 args h κ
noncomputable def I.knownBack_L2 (n : Nat) (σ : St) (k : X → St → R) : R := iterC 0 (fun σ k => denC TD (tableK I.knownBack_T) I.knownBack_ann (drawOk (tableP I.knownBack_T)) 0 FUEL ((findLoop 2 (Try.f59.body.getD .skip)).getD .skip) σ k) [0, 1, 5] [4] n σ k
noncomputable def I.knownBack_k2 (κ : V → List E → R) : X → St → R := (afterC TD (tableK I.knownBack_T) I.knownBack_ann (drawOk (tableP I.knownBack_T)) 0 FUEL 2 (Try.f59.body.getD .skip) (finC TD 0 Try.f59 κ)).getD (fun _ _ => none)
noncomputable def I.knownBack_step2 {α : Type} (x0 : List Int) (x1 : Int) (x5 : Int) (next_ : Int → α) (out0_ : Bool → α) (out1_ : Unit → α) (fail_ : α) : α :=
  (bif decide (x5 < (↑x0.length : Int)) then (bif decide (0 ≤ x1) && decide (x1 < (↑x0.length : Int)) then (optC (I.hasPlace_t (eli x0 x1.toNat) x5) (fun c_1 => (bif c_1 then (bif decide (0 ≤ x5) && decide (x5 < (↑x0.length : Int)) then (optC (I.hasPlace_t (eli x0 x5.toNat) x1) (fun c_2 => (bif !c_2 then (out0_ false) else (next_ (IntKind.i64.wrap (x5 + 1))))) fail_) else fail_) else (next_ (IntKind.i64.wrap (x5 + 1))))) fail_) else fail_) else (out1_ ()))
theorem I.knownBack_step2_nat {α γ : Type} (g : α → γ) (x0 : List Int) (x1 : Int) (x5 : Int) (next_ : Int → α) (out0_ : Bool → α) (out1_ : Unit → α) (fail_ : α) : g (I.knownBack_step2 x0 x1 x5 next_ out0_ out1_ fail_) = I.knownBack_step2 x0 x1 x5 (fun s => g (next_ s)) (fun d => g (out0_ d)) (fun d => g (out1_ d)) (g fail_) := by
  unfold I.knownBack_step2; simp only [apply_cnd g, apply_optC g, apply_sumC g]
noncomputable def I.knownBack_run2 (x0 : List Int) (x1 : Int) : Nat → Int → Option ((Bool) ⊕ (Unit))
  | 0, _ => none
  | n + 1, s_ => I.knownBack_step2 x0 x1 s_ (I.knownBack_run2 x0 x1 n) (fun d => some ((Sum.inl d))) (fun d => some ((Sum.inr d))) none
theorem I.knownBack_L2_run (x0 : List Int) (x1 : Int) (n : Nat) (s_ : Int) (k : X → St → R) : I.knownBack_L2 n { n := 27, t := [(0, (.ro false (.ints .i64 x0))), (1, (.int .i64 x1)), (5, (.int .i64 s_))], h := [] } k = optC (I.knownBack_run2 x0 x1 n s_) (fun (r : (Bool) ⊕ (Unit)) => (sumC r (fun (r : Bool) => k (.ret) { n := 27, t := [(4, (.bool r))], h := [] }) (fun (r : Unit) => k (.exit 0) { n := 27, t := [(4, .junk)], h := [] }))) none := by
  induction n generalizing s_ with
  | zero => rfl
  | succ n ih =>
    have hu : I.knownBack_L2 (n + 1) { n := 27, t := [(0, (.ro false (.ints .i64 x0))), (1, (.int .i64 x1)), (5, (.int .i64 s_))], h := [] } k = I.knownBack_step2 x0 x1 s_ (fun s_ => I.knownBack_L2 n { n := 27, t := [(0, (.ro false (.ints .i64 x0))), (1, (.int .i64 x1)), (5, (.int .i64 s_))], h := [] } k) (fun d => k (.ret) { n := 27, t := [(4, (.bool d))], h := [] }) (fun d => k (.exit 0) { n := 27, t := [(4, .junk)], h := [] }) none := by
      kernel_rfl
    have hs : (fun s_ : Int => I.knownBack_L2 n { n := 27, t := [(0, (.ro false (.ints .i64 x0))), (1, (.int .i64 x1)), (5, (.int .i64 s_))], h := [] } k) = fun s_ => optC (I.knownBack_run2 x0 x1 n s_) (fun (r : (Bool) ⊕ (Unit)) => (sumC r (fun (r : Bool) => k (.ret) { n := 27, t := [(4, (.bool r))], h := [] }) (fun (r : Unit) => k (.exit 0) { n := 27, t := [(4, .junk)], h := [] }))) none := funext ih
    rw [hu, hs]
    exact (I.knownBack_step2_nat (fun o => optC o (fun (r : (Bool) ⊕ (Unit)) => (sumC r (fun (r : Bool) => k (.ret) { n := 27, t := [(4, (.bool r))], h := [] }) (fun (r : Unit) => k (.exit 0) { n := 27, t := [(4, .junk)], h := [] }))) none) x0 x1 s_ (I.knownBack_run2 x0 x1 n) (fun d => some ((Sum.inl d))) (fun d => some ((Sum.inr d))) none).symm
noncomputable def I.knownBack_tree {α : Type} (net : List Int) (place : Int) (leaf0_ : Bool → α) (fail_ : α) : α :=
  (optC (I.knownBack_run2 net place FUEL 0) (fun qy_3 => (sumC qy_3 (fun (qy_3 : Bool) => (leaf0_ qy_3)) (fun (qy_3 : Unit) => (leaf0_ true)))) fail_)
theorem I.knownBack_tree_nat {α γ : Type} (g : α → γ) (net : List Int) (place : Int) (leaf0_ : Bool → α) (fail_ : α) : g (I.knownBack_tree net place leaf0_ fail_) = I.knownBack_tree net place (fun d => g (leaf0_ d)) (g fail_) := by
  unfold I.knownBack_tree; simp only [apply_cnd g, apply_optC g, apply_sumC g]
noncomputable def I.knownBack_t (net : List Int) (place : Int) : Option (Bool) := I.knownBack_tree net place (fun d => some d) none
theorem I.knownBack_den (net : List Int) (place : Int) (κ : V → List E → R) : I.knownBack_F [.ro false (.ints .i64 net), .int .i64 place] [] κ = optC (I.knownBack_t net place) (fun (r : Bool) => κ (.bool r) []) none := by
  have hu : I.knownBack_F [.ro false (.ints .i64 net), .int .i64 place] [] κ = I.knownBack_tree net place (fun d => κ (.bool d) []) none := by
    refine Eq.trans (show I.knownBack_F [.ro false (.ints .i64 net), .int .i64 place] [] κ = (I.knownBack_L2 FUEL { n := 27, t := [(0, (.ro false (.ints .i64 net))), (1, (.int .i64 place)), (5, (.int .i64 0))], h := [] } (I.knownBack_k2 κ)) by kernel_rfl) ?_
    refine (I.knownBack_L2_run net place FUEL 0 (I.knownBack_k2 κ)).trans (optC_congr (fun qy_3 => ?_))
    rcases qy_3 with qy_3 | qy_3
    · kernel_rfl
    · kernel_rfl
  rw [hu]
  exact (I.knownBack_tree_nat (fun o => optC o (fun (r : Bool) => κ (.bool r) []) none) net place (fun d => some d) none).symm
noncomputable def I.knownBack_s : D.Spec where
  keep := false
  pure := true
  ds := [.int .i64, .invalid]
  sp := fun args h κ => match args, h with
    | [.ro false (.ints .i64 net), .int .i64 place], [] => optC (I.knownBack_t net place) (fun (r : Bool) => κ (.bool r) []) none
    | _, _ => none
theorem I.knownBack_ok : SpecOk Try.prog 59 I.knownBack_s := by
  refine SpecOk.of TDok mixed (T := I.knownBack_T) ?_ (ann := I.knownBack_ann) Try.func59 rfl (by decide +kernel) ?_ ?_ ?_
  · intro p hp
    simp only [I.knownBack_T, List.mem_cons, List.not_mem_nil, or_false] at hp
    rcases hp with rfl
    · exact I.hasPlace_ok
  · intro args h κ r hh
    simp only [I.knownBack_s] at hh
    split at hh
    · exact (I.knownBack_den _ _ κ).trans hh
    · cases hh
  · intro args h κ r hh
    simp only [I.knownBack_s] at hh ⊢
    split at hh
    · exact optC_law2 (F := fun (r : Bool) κ => κ (.bool r) []) (fun b κ r hb => ⟨_, _, hb, fun _ => rfl⟩) hh
    · cases hh
  · intro _ args h κ r hh
    simp only [I.knownBack_s] at hh
    split at hh
    · exact ⟨rfl, fun _ => rfl⟩
    · cases hh

-- loop.example/guardsonnets/impl.NetOk
noncomputable def I.NetOk_T : List (Nat × D.Spec) := [(41, I.setIn_s), (53, I.hasPlace_s), (59, I.knownBack_s)]
def I.NetOk_ann : Nat → List Nat × List Nat
  | 4 => ([0, 3], [2])
  | _ => ([], [])
noncomputable def I.NetOk_F (args : List V) (h : List E) (κ : V → List E → R) : R := funC TD (tableK I.NetOk_T) I.NetOk_ann (drawOk (tableP I.NetOk_T)) FUEL Try.f29 args h κ
noncomputable def I.NetOk_L4 (n : Nat) (σ : St) (k : X → St → R) : R := iterC 0 (fun σ k => denC TD (tableK I.NetOk_T) I.NetOk_ann (drawOk (tableP I.NetOk_T)) 0 FUEL ((findLoop 4 (Try.f29.body.getD .skip)).getD .skip) σ k) [0, 3] [2] n σ k
noncomputable def I.NetOk_k4 (κ : V → List E → R) : X → St → R := (afterC TD (tableK I.NetOk_T) I.NetOk_ann (drawOk (tableP I.NetOk_T)) 0 FUEL 4 (Try.f29.body.getD .skip) (finC TD 0 Try.f29 κ)).getD (fun _ _ => none)
noncomputable def I.NetOk_step4 {α : Type} (x0 : List Int) (x3 : Int) (next_ : Int → α) (out0_ : Bool → α) (out1_ : Unit → α) (fail_ : α) : α :=
  (bif decide (x3 < (↑x0.length : Int)) then (bif decide (0 ≤ x3) && decide (x3 < (↑x0.length : Int)) then (optC (I.setIn_t x0 (eli x0 x3.toNat)) (fun c_1 => (bif !c_1 then (out0_ false) else (bif decide (0 ≤ x3) && decide (x3 < (↑x0.length : Int)) then (optC (I.hasPlace_t (eli x0 x3.toNat) x3) (fun c_2 => (bif c_2 then (out0_ false) else (optC (I.knownBack_t x0 x3) (fun c_3 => (bif !c_3 then (out0_ false) else (next_ (IntKind.i64.wrap (x3 + 1))))) fail_))) fail_) else fail_))) fail_) else fail_) else (out1_ ()))
theorem I.NetOk_step4_nat {α γ : Type} (g : α → γ) (x0 : List Int) (x3 : Int) (next_ : Int → α) (out0_ : Bool → α) (out1_ : Unit → α) (fail_ : α) : g (I.NetOk_step4 x0 x3 next_ out0_ out1_ fail_) = I.NetOk_step4 x0 x3 (fun s => g (next_ s)) (fun d => g (out0_ d)) (fun d => g (out1_ d)) (g fail_) := by
  unfold I.NetOk_step4; simp only [apply_cnd g, apply_optC g, apply_sumC g]
noncomputable def I.NetOk_run4 (x0 : List Int) : Nat → Int → Option ((Bool) ⊕ (Unit))
  | 0, _ => none
  | n + 1, s_ => I.NetOk_step4 x0 s_ (I.NetOk_run4 x0 n) (fun d => some ((Sum.inl d))) (fun d => some ((Sum.inr d))) none
theorem I.NetOk_L4_run (x0 : List Int) (n : Nat) (s_ : Int) (k : X → St → R) : I.NetOk_L4 n { n := 39, t := [(0, (.ro false (.ints .i64 x0))), (3, (.int .i64 s_))], h := [] } k = optC (I.NetOk_run4 x0 n s_) (fun (r : (Bool) ⊕ (Unit)) => (sumC r (fun (r : Bool) => k (.ret) { n := 39, t := [(2, (.bool r))], h := [] }) (fun (r : Unit) => k (.exit 0) { n := 39, t := [(2, .junk)], h := [] }))) none := by
  induction n generalizing s_ with
  | zero => rfl
  | succ n ih =>
    have hu : I.NetOk_L4 (n + 1) { n := 39, t := [(0, (.ro false (.ints .i64 x0))), (3, (.int .i64 s_))], h := [] } k = I.NetOk_step4 x0 s_ (fun s_ => I.NetOk_L4 n { n := 39, t := [(0, (.ro false (.ints .i64 x0))), (3, (.int .i64 s_))], h := [] } k) (fun d => k (.ret) { n := 39, t := [(2, (.bool d))], h := [] }) (fun d => k (.exit 0) { n := 39, t := [(2, .junk)], h := [] }) none := by
      kernel_rfl
    have hs : (fun s_ : Int => I.NetOk_L4 n { n := 39, t := [(0, (.ro false (.ints .i64 x0))), (3, (.int .i64 s_))], h := [] } k) = fun s_ => optC (I.NetOk_run4 x0 n s_) (fun (r : (Bool) ⊕ (Unit)) => (sumC r (fun (r : Bool) => k (.ret) { n := 39, t := [(2, (.bool r))], h := [] }) (fun (r : Unit) => k (.exit 0) { n := 39, t := [(2, .junk)], h := [] }))) none := funext ih
    rw [hu, hs]
    exact (I.NetOk_step4_nat (fun o => optC o (fun (r : (Bool) ⊕ (Unit)) => (sumC r (fun (r : Bool) => k (.ret) { n := 39, t := [(2, (.bool r))], h := [] }) (fun (r : Unit) => k (.exit 0) { n := 39, t := [(2, .junk)], h := [] }))) none) x0 s_ (I.NetOk_run4 x0 n) (fun d => some ((Sum.inl d))) (fun d => some ((Sum.inr d))) none).symm
noncomputable def I.NetOk_tree {α : Type} (net : List Int) (leaf0_ : Bool → α) (fail_ : α) : α :=
  (bif decide ((↑net.length : Int) < 1) then (leaf0_ false) else (bif decide ((↑net.length : Int) > 6) then (leaf0_ false) else (optC (I.NetOk_run4 net FUEL 0) (fun qy_4 => (sumC qy_4 (fun (qy_4 : Bool) => (leaf0_ qy_4)) (fun (qy_4 : Unit) => (leaf0_ true)))) fail_)))
theorem I.NetOk_tree_nat {α γ : Type} (g : α → γ) (net : List Int) (leaf0_ : Bool → α) (fail_ : α) : g (I.NetOk_tree net leaf0_ fail_) = I.NetOk_tree net (fun d => g (leaf0_ d)) (g fail_) := by
  unfold I.NetOk_tree; simp only [apply_cnd g, apply_optC g, apply_sumC g]
noncomputable def I.NetOk_t (net : List Int) : Option (Bool) := I.NetOk_tree net (fun d => some d) none
theorem I.NetOk_den (net : List Int) (κ : V → List E → R) : I.NetOk_F [.ro false (.ints .i64 net)] [] κ = optC (I.NetOk_t net) (fun (r : Bool) => κ (.bool r) []) none := by
  have hu : I.NetOk_F [.ro false (.ints .i64 net)] [] κ = I.NetOk_tree net (fun d => κ (.bool d) []) none := by
    refine Eq.trans (show I.NetOk_F [.ro false (.ints .i64 net)] [] κ = (bif decide ((↑net.length : Int) < 1) then (κ (.bool false) []) else (bif decide ((↑net.length : Int) > 6) then (κ (.bool false) []) else (I.NetOk_L4 FUEL { n := 39, t := [(0, (.ro false (.ints .i64 net))), (3, (.int .i64 0))], h := [] } (I.NetOk_k4 κ)))) by kernel_rfl) ?_
    refine cnd_congr ?_ ?_
    · kernel_rfl
    · refine cnd_congr ?_ ?_
      · kernel_rfl
      · refine (I.NetOk_L4_run net FUEL 0 (I.NetOk_k4 κ)).trans (optC_congr (fun qy_4 => ?_))
        rcases qy_4 with qy_4 | qy_4
        · kernel_rfl
        · kernel_rfl
  rw [hu]
  exact (I.NetOk_tree_nat (fun o => optC o (fun (r : Bool) => κ (.bool r) []) none) net (fun d => some d) none).symm
noncomputable def I.NetOk_s : D.Spec where
  keep := false
  pure := true
  ds := [.int .i64]
  sp := fun args h κ => match args, h with
    | [.ro false (.ints .i64 net)], [] => optC (I.NetOk_t net) (fun (r : Bool) => κ (.bool r) []) none
    | _, _ => none
theorem I.NetOk_ok : SpecOk Try.prog 29 I.NetOk_s := by
  refine SpecOk.of TDok mixed (T := I.NetOk_T) ?_ (ann := I.NetOk_ann) Try.func29 rfl (by decide +kernel) ?_ ?_ ?_
  · intro p hp
    simp only [I.NetOk_T, List.mem_cons, List.not_mem_nil, or_false] at hp
    rcases hp with rfl | rfl | rfl
    · exact I.setIn_ok
    · exact I.hasPlace_ok
    · exact I.knownBack_ok
  · intro args h κ r hh
    simp only [I.NetOk_s] at hh
    split at hh
    · exact (I.NetOk_den _ κ).trans hh
    · cases hh
  · intro args h κ r hh
    simp only [I.NetOk_s] at hh ⊢
    split at hh
    · exact optC_law2 (F := fun (r : Bool) κ => κ (.bool r) []) (fun b κ r hb => ⟨_, _, hb, fun _ => rfl⟩) hh
    · cases hh
  · intro _ args h κ r hh
    simp only [I.NetOk_s] at hh
    split at hh
    · exact ⟨rfl, fun _ => rfl⟩
    · cases hh

-- loop.example/guardsonnets/impl.sizeOf
noncomputable def I.sizeOf_T : List (Nat × D.Spec) := []
def I.sizeOf_ann : Nat → List Nat × List Nat
  | 3 => ([0, 3, 4], [3])
  | _ => ([], [])
noncomputable def I.sizeOf_F (args : List V) (h : List E) (κ : V → List E → R) : R := funC TD (tableK I.sizeOf_T) I.sizeOf_ann (drawOk (tableP I.sizeOf_T)) FUEL Try.f64 args h κ
noncomputable def I.sizeOf_L3 (n : Nat) (σ : St) (k : X → St → R) : R := iterC 0 (fun σ k => denC TD (tableK I.sizeOf_T) I.sizeOf_ann (drawOk (tableP I.sizeOf_T)) 0 FUEL ((findLoop 3 (Try.f64.body.getD .skip)).getD .skip) σ k) [0, 3, 4] [3] n σ k
noncomputable def I.sizeOf_k3 (κ : V → List E → R) : X → St → R := (afterC TD (tableK I.sizeOf_T) I.sizeOf_ann (drawOk (tableP I.sizeOf_T)) 0 FUEL 3 (Try.f64.body.getD .skip) (finC TD 0 Try.f64 κ)).getD (fun _ _ => none)
noncomputable def I.sizeOf_step3 {α : Type} (x0 : Int) (x3 : Int) (x4 : Int) (next_ : Int × Int → α) (out0_ : Int → α) (fail_ : α) : α :=
  (bif decide (x4 < 6) then (bif decide (x4 < 0) then fail_ else (next_ (IntKind.i64.wrap (x3 + bits BinOp.and IntKind.i64 (x0.fdiv (2 ^ min x4.toNat IntKind.i64.bits)) 1), IntKind.i64.wrap (x4 + 1)))) else (out0_ x3))
theorem I.sizeOf_step3_nat {α γ : Type} (g : α → γ) (x0 : Int) (x3 : Int) (x4 : Int) (next_ : Int × Int → α) (out0_ : Int → α) (fail_ : α) : g (I.sizeOf_step3 x0 x3 x4 next_ out0_ fail_) = I.sizeOf_step3 x0 x3 x4 (fun s => g (next_ s)) (fun d => g (out0_ d)) (g fail_) := by
  unfold I.sizeOf_step3; simp only [apply_cnd g, apply_optC g, apply_sumC g]
noncomputable def I.sizeOf_run3 (x0 : Int) : Nat → Int × Int → Option (Int)
  | 0, _ => none
  | n + 1, s_ => I.sizeOf_step3 x0 s_.1 s_.2 (I.sizeOf_run3 x0 n) (fun d => some d) none
theorem I.sizeOf_L3_run (x0 : Int) (n : Nat) (s_ : Int × Int) (k : X → St → R) : I.sizeOf_L3 n { n := 16, t := [(0, (.int .i64 x0)), (3, (.int .i64 s_.1)), (4, (.int .i64 s_.2))], h := [] } k = optC (I.sizeOf_run3 x0 n s_) (fun (r : Int) => k (.exit 0) { n := 16, t := [(3, (.int .i64 r))], h := [] }) none := by
  induction n generalizing s_ with
  | zero => rfl
  | succ n ih =>
    have hu : I.sizeOf_L3 (n + 1) { n := 16, t := [(0, (.int .i64 x0)), (3, (.int .i64 s_.1)), (4, (.int .i64 s_.2))], h := [] } k = I.sizeOf_step3 x0 s_.1 s_.2 (fun s_ => I.sizeOf_L3 n { n := 16, t := [(0, (.int .i64 x0)), (3, (.int .i64 s_.1)), (4, (.int .i64 s_.2))], h := [] } k) (fun d => k (.exit 0) { n := 16, t := [(3, (.int .i64 d))], h := [] }) none := by
      kernel_rfl
    have hs : (fun s_ : Int × Int => I.sizeOf_L3 n { n := 16, t := [(0, (.int .i64 x0)), (3, (.int .i64 s_.1)), (4, (.int .i64 s_.2))], h := [] } k) = fun s_ => optC (I.sizeOf_run3 x0 n s_) (fun (r : Int) => k (.exit 0) { n := 16, t := [(3, (.int .i64 r))], h := [] }) none := funext ih
    rw [hu, hs]
    exact (I.sizeOf_step3_nat (fun o => optC o (fun (r : Int) => k (.exit 0) { n := 16, t := [(3, (.int .i64 r))], h := [] }) none) x0 s_.1 s_.2 (I.sizeOf_run3 x0 n) (fun d => some d) none).symm
noncomputable def I.sizeOf_tree {α : Type} (set_ : Int) (leaf0_ : Int → α) (fail_ : α) : α :=
  (optC (I.sizeOf_run3 set_ FUEL (0, 0)) (fun qy_1 => (leaf0_ qy_1)) fail_)
theorem I.sizeOf_tree_nat {α γ : Type} (g : α → γ) (set_ : Int) (leaf0_ : Int → α) (fail_ : α) : g (I.sizeOf_tree set_ leaf0_ fail_) = I.sizeOf_tree set_ (fun d => g (leaf0_ d)) (g fail_) := by
  unfold I.sizeOf_tree; simp only [apply_cnd g, apply_optC g, apply_sumC g]
noncomputable def I.sizeOf_t (set_ : Int) : Option (Int) := I.sizeOf_tree set_ (fun d => some d) none
theorem I.sizeOf_den (set_ : Int) (κ : V → List E → R) : I.sizeOf_F [.int .i64 set_] [] κ = optC (I.sizeOf_t set_) (fun (r : Int) => κ (.int .i64 r) []) none := by
  have hu : I.sizeOf_F [.int .i64 set_] [] κ = I.sizeOf_tree set_ (fun d => κ (.int .i64 d) []) none := by
    refine Eq.trans (show I.sizeOf_F [.int .i64 set_] [] κ = (I.sizeOf_L3 FUEL { n := 16, t := [(0, (.int .i64 set_)), (3, (.int .i64 0)), (4, (.int .i64 0))], h := [] } (I.sizeOf_k3 κ)) by kernel_rfl) ?_
    refine (I.sizeOf_L3_run set_ FUEL (0, 0) (I.sizeOf_k3 κ)).trans (optC_congr (fun qy_1 => ?_))
    kernel_rfl
  rw [hu]
  exact (I.sizeOf_tree_nat (fun o => optC o (fun (r : Int) => κ (.int .i64 r) []) none) set_ (fun d => some d) none).symm
noncomputable def I.sizeOf_s : D.Spec where
  keep := false
  pure := true
  ds := [.invalid]
  sp := fun args h κ => match args, h with
    | [.int .i64 set_], [] => optC (I.sizeOf_t set_) (fun (r : Int) => κ (.int .i64 r) []) none
    | _, _ => none
theorem I.sizeOf_ok : SpecOk Try.prog 64 I.sizeOf_s := by
  refine SpecOk.of TDok mixed (T := I.sizeOf_T) ?_ (ann := I.sizeOf_ann) Try.func64 rfl (by decide +kernel) ?_ ?_ ?_
  · intro p hp; cases hp
  · intro args h κ r hh
    simp only [I.sizeOf_s] at hh
    split at hh
    · exact (I.sizeOf_den _ κ).trans hh
    · cases hh
  · intro args h κ r hh
    simp only [I.sizeOf_s] at hh ⊢
    split at hh
    · exact optC_law2 (F := fun (r : Int) κ => κ (.int .i64 r) []) (fun b κ r hb => ⟨_, _, hb, fun _ => rfl⟩) hh
    · cases hh
  · intro _ args h κ r hh
    simp only [I.sizeOf_s] at hh
    split at hh
    · exact ⟨rfl, fun _ => rfl⟩
    · cases hh

-- loop.example/guardsonnets/impl.ballIn
noncomputable def I.ballIn_T : List (Nat × D.Spec) := []
def I.ballIn_ann : Nat → List Nat × List Nat
  | _ => ([], [])
noncomputable def I.ballIn_F (args : List V) (h : List E) (κ : V → List E → R) : R := funC TD (tableK I.ballIn_T) I.ballIn_ann (drawOk (tableP I.ballIn_T)) FUEL Try.f70 args h κ
noncomputable def I.ballIn_tree {α : Type} (net : List Int) (place : Int) (leaf0_ : Int → α) (fail_ : α) : α :=
  (bif decide (0 ≤ place) && decide (place < (↑net.length : Int)) then (bif decide (place < 0) then fail_ else (leaf0_ (bits BinOp.or IntKind.i64 (eli net place.toNat) (IntKind.i64.wrap (1 * 2 ^ min place.toNat IntKind.i64.bits))))) else fail_)
theorem I.ballIn_tree_nat {α γ : Type} (g : α → γ) (net : List Int) (place : Int) (leaf0_ : Int → α) (fail_ : α) : g (I.ballIn_tree net place leaf0_ fail_) = I.ballIn_tree net place (fun d => g (leaf0_ d)) (g fail_) := by
  unfold I.ballIn_tree; simp only [apply_cnd g, apply_optC g, apply_sumC g]
noncomputable def I.ballIn_t (net : List Int) (place : Int) : Option (Int) := I.ballIn_tree net place (fun d => some d) none
theorem I.ballIn_den (net : List Int) (place : Int) (κ : V → List E → R) : I.ballIn_F [.ro false (.ints .i64 net), .int .i64 place] [] κ = optC (I.ballIn_t net place) (fun (r : Int) => κ (.int .i64 r) []) none := by
  have hu : I.ballIn_F [.ro false (.ints .i64 net), .int .i64 place] [] κ = I.ballIn_tree net place (fun d => κ (.int .i64 d) []) none := by
    kernel_rfl
  rw [hu]
  exact (I.ballIn_tree_nat (fun o => optC o (fun (r : Int) => κ (.int .i64 r) []) none) net place (fun d => some d) none).symm
noncomputable def I.ballIn_s : D.Spec where
  keep := false
  pure := true
  ds := [.int .i64, .invalid]
  sp := fun args h κ => match args, h with
    | [.ro false (.ints .i64 net), .int .i64 place], [] => optC (I.ballIn_t net place) (fun (r : Int) => κ (.int .i64 r) []) none
    | _, _ => none
theorem I.ballIn_ok : SpecOk Try.prog 70 I.ballIn_s := by
  refine SpecOk.of TDok mixed (T := I.ballIn_T) ?_ (ann := I.ballIn_ann) Try.func70 rfl (by decide +kernel) ?_ ?_ ?_
  · intro p hp; cases hp
  · intro args h κ r hh
    simp only [I.ballIn_s] at hh
    split at hh
    · exact (I.ballIn_den _ _ κ).trans hh
    · cases hh
  · intro args h κ r hh
    simp only [I.ballIn_s] at hh ⊢
    split at hh
    · exact optC_law2 (F := fun (r : Int) κ => κ (.int .i64 r) []) (fun b κ r hb => ⟨_, _, hb, fun _ => rfl⟩) hh
    · cases hh
  · intro _ args h κ r hh
    simp only [I.ballIn_s] at hh
    split at hh
    · exact ⟨rfl, fun _ => rfl⟩
    · cases hh

-- loop.example/guardsonnets/impl.with
noncomputable def I.with_T : List (Nat × D.Spec) := []
def I.with_ann : Nat → List Nat × List Nat
  | _ => ([], [])
noncomputable def I.with_F (args : List V) (h : List E) (κ : V → List E → R) : R := funC TD (tableK I.with_T) I.with_ann (drawOk (tableP I.with_T)) FUEL Try.f71 args h κ
noncomputable def I.with_tree {α : Type} (set_ : Int) (place : Int) (leaf0_ : Int → α) (fail_ : α) : α :=
  (bif decide (place < 0) then fail_ else (leaf0_ (bits BinOp.or IntKind.i64 set_ (IntKind.i64.wrap (1 * 2 ^ min place.toNat IntKind.i64.bits)))))
theorem I.with_tree_nat {α γ : Type} (g : α → γ) (set_ : Int) (place : Int) (leaf0_ : Int → α) (fail_ : α) : g (I.with_tree set_ place leaf0_ fail_) = I.with_tree set_ place (fun d => g (leaf0_ d)) (g fail_) := by
  unfold I.with_tree; simp only [apply_cnd g, apply_optC g, apply_sumC g]
noncomputable def I.with_t (set_ : Int) (place : Int) : Option (Int) := I.with_tree set_ place (fun d => some d) none
theorem I.with_den (set_ : Int) (place : Int) (κ : V → List E → R) : I.with_F [.int .i64 set_, .int .i64 place] [] κ = optC (I.with_t set_ place) (fun (r : Int) => κ (.int .i64 r) []) none := by
  have hu : I.with_F [.int .i64 set_, .int .i64 place] [] κ = I.with_tree set_ place (fun d => κ (.int .i64 d) []) none := by
    kernel_rfl
  rw [hu]
  exact (I.with_tree_nat (fun o => optC o (fun (r : Int) => κ (.int .i64 r) []) none) set_ place (fun d => some d) none).symm
noncomputable def I.with_s : D.Spec where
  keep := false
  pure := true
  ds := [.invalid, .invalid]
  sp := fun args h κ => match args, h with
    | [.int .i64 set_, .int .i64 place], [] => optC (I.with_t set_ place) (fun (r : Int) => κ (.int .i64 r) []) none
    | _, _ => none
theorem I.with_ok : SpecOk Try.prog 71 I.with_s := by
  refine SpecOk.of TDok mixed (T := I.with_T) ?_ (ann := I.with_ann) Try.func71 rfl (by decide +kernel) ?_ ?_ ?_
  · intro p hp; cases hp
  · intro args h κ r hh
    simp only [I.with_s] at hh
    split at hh
    · exact (I.with_den _ _ κ).trans hh
    · cases hh
  · intro args h κ r hh
    simp only [I.with_s] at hh ⊢
    split at hh
    · exact optC_law2 (F := fun (r : Int) κ => κ (.int .i64 r) []) (fun b κ r hb => ⟨_, _, hb, fun _ => rfl⟩) hh
    · cases hh
  · intro _ args h κ r hh
    simp only [I.with_s] at hh
    split at hh
    · exact ⟨rfl, fun _ => rfl⟩
    · cases hh

-- loop.example/guardsonnets/impl.matchedWith
class I.matchedWith_r_R where
  r : (List Int) → Int → Int → Int → Int → Int → Int → Int → Int → Int → Bool → Option (Int × Int × Int × Int × Int × Int × Int × Bool)
section
variable [c_ : I.matchedWith_r_R]
noncomputable def I.matchedWith_r0_t (net : List Int) (to_ : Int) (guard : Int) (before0 : Int) (before1 : Int) (before2 : Int) (before3 : Int) (before4 : Int) (before5 : Int) (before6 : Int) (before7 : Bool) : Option (Int × Int × Int × Int × Int × Int × Int × Bool) := I.matchedWith_r_R.r net to_ guard before0 before1 before2 before3 before4 before5 before6 before7
noncomputable def I.matchedWith_r0_s : D.Spec where
  keep := false
  pure := true
  ds := [.int .i64, .invalid, .invalid, .invalid]
  sp := fun args h κ => match args, h with
    | [.ro false (.ints .i64 net), .int .i64 to_, .int .i64 guard, .agg [.int .i64 before0, .int .i64 before1, .int .i64 before2, .int .i64 before3, .int .i64 before4, .int .i64 before5, .int .i64 before6, .bool before7]], [] => optC (I.matchedWith_r0_t net to_ guard before0 before1 before2 before3 before4 before5 before6 before7) (fun (r : Int × Int × Int × Int × Int × Int × Int × Bool) => κ (.agg [.int .i64 r.1, .int .i64 r.2.1, .int .i64 r.2.2.1, .int .i64 r.2.2.2.1, .int .i64 r.2.2.2.2.1, .int .i64 r.2.2.2.2.2.1, .int .i64 r.2.2.2.2.2.2.1, .bool r.2.2.2.2.2.2.2]) []) none
    | _, _ => none
end
section
variable [c_ : I.matchedWith_r_R]
noncomputable def I.matchedWith_r_T : List (Nat × D.Spec) := [(70, I.ballIn_s), (53, I.hasPlace_s), (71, I.with_s), (69, I.matchedWith_r0_s)]
def I.matchedWith_r_ann : Nat → List Nat × List Nat
  | 3 => ([0, 1, 2, 8, 9, 10], [8, 9])
  | _ => ([], [])
noncomputable def I.matchedWith_r_F (args : List V) (h : List E) (κ : V → List E → R) : R := funC TD (tableK I.matchedWith_r_T) I.matchedWith_r_ann (drawOk (tableP I.matchedWith_r_T)) FUEL Try.f69 args h κ
noncomputable def I.matchedWith_r_L3 (n : Nat) (σ : St) (k : X → St → R) : R := iterC 0 (fun σ k => denC TD (tableK I.matchedWith_r_T) I.matchedWith_r_ann (drawOk (tableP I.matchedWith_r_T)) 0 FUEL ((findLoop 3 (Try.f69.body.getD .skip)).getD .skip) σ k) [0, 1, 2, 8, 9, 10] [8, 9] n σ k
end
section
variable [c_ : I.matchedWith_r_R]
noncomputable def I.matchedWith_r_k3 (κ : V → List E → R) : X → St → R := (afterC TD (tableK I.matchedWith_r_T) I.matchedWith_r_ann (drawOk (tableP I.matchedWith_r_T)) 0 FUEL 3 (Try.f69.body.getD .skip) (finC TD 0 Try.f69 κ)).getD (fun _ _ => none)
noncomputable def I.matchedWith_r_step3 {α : Type} (x0 : List Int) (x1 : Int) (x2 : Int) (x10 : Int) (r0_0 : Int) (r0_1 : Int) (r0_2 : Int) (r0_3 : Int) (r0_4 : Int) (r0_5 : Int) (r0_6 : Int) (r0_7 : Bool) (r1_0 : Int) (r1_1 : Int) (r1_2 : Int) (r1_3 : Int) (r1_4 : Int) (r1_5 : Int) (r1_6 : Int) (r1_7 : Bool) (next_ : Int × Int × Int × Int × Int × Int × Int × Int × Bool × Int × Int × Int × Int × Int × Int × Int × Bool → α) (out0_ : Int × Int × Int × Int × Int × Int × Int × Bool × Int × Int × Int × Int × Int × Int × Int × Bool → α) (out1_ : Int × Int × Int × Int × Int × Int × Int × Bool × Int × Int × Int × Int × Int × Int × Int × Bool → α) (fail_ : α) : α :=
  (bif decide (x10 < (↑x0.length : Int)) then (optC (I.ballIn_t x0 x2) (fun c_1 => (optC (I.hasPlace_t (bits BinOp.andNot IntKind.i64 (bits BinOp.and IntKind.i64 x1 c_1) r1_6) x10) (fun c_2 => (bif !c_2 then (next_ (IntKind.i64.wrap (x10 + 1), r0_0, r0_1, r0_2, r0_3, r0_4, r0_5, r0_6, r0_7, r1_0, r1_1, r1_2, r1_3, r1_4, r1_5, r1_6, r1_7)) else (optC (I.with_t r1_6 x10) (fun c_3 => (bif decide (0 ≤ x10) && decide (x10 < (↑6 : Int)) then (bif eli [r1_0, r1_1, r1_2, r1_3, r1_4, r1_5] x10.toNat == 0 then (bif decide (0 ≤ x10) && decide (x10 < (↑6 : Int)) then (out0_ (bif x10 == (↑0 : Int) then IntKind.i64.wrap (x2 + 1) else r1_0, bif x10 == (↑(0 + 1) : Int) then IntKind.i64.wrap (x2 + 1) else r1_1, bif x10 == (↑(0 + 1 + 1) : Int) then IntKind.i64.wrap (x2 + 1) else r1_2, bif x10 == (↑(0 + 1 + 1 + 1) : Int) then IntKind.i64.wrap (x2 + 1) else r1_3, bif x10 == (↑(0 + 1 + 1 + 1 + 1) : Int) then IntKind.i64.wrap (x2 + 1) else r1_4, bif x10 == (↑(0 + 1 + 1 + 1 + 1 + 1) : Int) then IntKind.i64.wrap (x2 + 1) else r1_5, c_3, true, bif x10 == (↑0 : Int) then IntKind.i64.wrap (x2 + 1) else r1_0, bif x10 == (↑(0 + 1) : Int) then IntKind.i64.wrap (x2 + 1) else r1_1, bif x10 == (↑(0 + 1 + 1) : Int) then IntKind.i64.wrap (x2 + 1) else r1_2, bif x10 == (↑(0 + 1 + 1 + 1) : Int) then IntKind.i64.wrap (x2 + 1) else r1_3, bif x10 == (↑(0 + 1 + 1 + 1 + 1) : Int) then IntKind.i64.wrap (x2 + 1) else r1_4, bif x10 == (↑(0 + 1 + 1 + 1 + 1 + 1) : Int) then IntKind.i64.wrap (x2 + 1) else r1_5, c_3, true)) else fail_) else (bif decide (0 ≤ x10) && decide (x10 < (↑6 : Int)) then (optC (I.matchedWith_r0_t x0 x1 (IntKind.i64.wrap (eli [r1_0, r1_1, r1_2, r1_3, r1_4, r1_5] x10.toNat - 1)) r1_0 r1_1 r1_2 r1_3 r1_4 r1_5 c_3 r1_7) (fun c_4 => (bif c_4.snd.snd.snd.snd.snd.snd.snd then (bif decide (0 ≤ x10) && decide (x10 < (↑6 : Int)) then (out0_ (bif x10 == (↑0 : Int) then IntKind.i64.wrap (x2 + 1) else c_4.fst, bif x10 == (↑(0 + 1) : Int) then IntKind.i64.wrap (x2 + 1) else c_4.snd.fst, bif x10 == (↑(0 + 1 + 1) : Int) then IntKind.i64.wrap (x2 + 1) else c_4.snd.snd.fst, bif x10 == (↑(0 + 1 + 1 + 1) : Int) then IntKind.i64.wrap (x2 + 1) else c_4.snd.snd.snd.fst, bif x10 == (↑(0 + 1 + 1 + 1 + 1) : Int) then IntKind.i64.wrap (x2 + 1) else c_4.snd.snd.snd.snd.fst, bif x10 == (↑(0 + 1 + 1 + 1 + 1 + 1) : Int) then IntKind.i64.wrap (x2 + 1) else c_4.snd.snd.snd.snd.snd.fst, c_4.snd.snd.snd.snd.snd.snd.fst, c_4.snd.snd.snd.snd.snd.snd.snd, bif x10 == (↑0 : Int) then IntKind.i64.wrap (x2 + 1) else c_4.fst, bif x10 == (↑(0 + 1) : Int) then IntKind.i64.wrap (x2 + 1) else c_4.snd.fst, bif x10 == (↑(0 + 1 + 1) : Int) then IntKind.i64.wrap (x2 + 1) else c_4.snd.snd.fst, bif x10 == (↑(0 + 1 + 1 + 1) : Int) then IntKind.i64.wrap (x2 + 1) else c_4.snd.snd.snd.fst, bif x10 == (↑(0 + 1 + 1 + 1 + 1) : Int) then IntKind.i64.wrap (x2 + 1) else c_4.snd.snd.snd.snd.fst, bif x10 == (↑(0 + 1 + 1 + 1 + 1 + 1) : Int) then IntKind.i64.wrap (x2 + 1) else c_4.snd.snd.snd.snd.snd.fst, c_4.snd.snd.snd.snd.snd.snd.fst, c_4.snd.snd.snd.snd.snd.snd.snd)) else fail_) else (next_ (IntKind.i64.wrap (x10 + 1), r0_0, r0_1, r0_2, r0_3, r0_4, r0_5, r0_6, r0_7, c_4.fst, c_4.snd.fst, c_4.snd.snd.fst, c_4.snd.snd.snd.fst, c_4.snd.snd.snd.snd.fst, c_4.snd.snd.snd.snd.snd.fst, c_4.snd.snd.snd.snd.snd.snd.fst, c_4.snd.snd.snd.snd.snd.snd.snd)))) fail_) else fail_)) else fail_)) fail_))) fail_)) fail_) else (out1_ (r0_0, r0_1, r0_2, r0_3, r0_4, r0_5, r0_6, r0_7, r1_0, r1_1, r1_2, r1_3, r1_4, r1_5, r1_6, r1_7)))
theorem I.matchedWith_r_step3_nat {α γ : Type} (g : α → γ) (x0 : List Int) (x1 : Int) (x2 : Int) (x10 : Int) (r0_0 : Int) (r0_1 : Int) (r0_2 : Int) (r0_3 : Int) (r0_4 : Int) (r0_5 : Int) (r0_6 : Int) (r0_7 : Bool) (r1_0 : Int) (r1_1 : Int) (r1_2 : Int) (r1_3 : Int) (r1_4 : Int) (r1_5 : Int) (r1_6 : Int) (r1_7 : Bool) (next_ : Int × Int × Int × Int × Int × Int × Int × Int × Bool × Int × Int × Int × Int × Int × Int × Int × Bool → α) (out0_ : Int × Int × Int × Int × Int × Int × Int × Bool × Int × Int × Int × Int × Int × Int × Int × Bool → α) (out1_ : Int × Int × Int × Int × Int × Int × Int × Bool × Int × Int × Int × Int × Int × Int × Int × Bool → α) (fail_ : α) : g (I.matchedWith_r_step3 x0 x1 x2 x10 r0_0 r0_1 r0_2 r0_3 r0_4 r0_5 r0_6 r0_7 r1_0 r1_1 r1_2 r1_3 r1_4 r1_5 r1_6 r1_7 next_ out0_ out1_ fail_) = I.matchedWith_r_step3 x0 x1 x2 x10 r0_0 r0_1 r0_2 r0_3 r0_4 r0_5 r0_6 r0_7 r1_0 r1_1 r1_2 r1_3 r1_4 r1_5 r1_6 r1_7 (fun s => g (next_ s)) (fun d => g (out0_ d)) (fun d => g (out1_ d)) (g fail_) := by
  unfold I.matchedWith_r_step3; simp only [apply_cnd g, apply_optC g, apply_sumC g]
noncomputable def I.matchedWith_r_run3 (x0 : List Int) (x1 : Int) (x2 : Int) : Nat → Int × Int × Int × Int × Int × Int × Int × Int × Bool × Int × Int × Int × Int × Int × Int × Int × Bool → Option ((Int × Int × Int × Int × Int × Int × Int × Bool × Int × Int × Int × Int × Int × Int × Int × Bool) ⊕ (Int × Int × Int × Int × Int × Int × Int × Bool × Int × Int × Int × Int × Int × Int × Int × Bool))
  | 0, _ => none
  | n + 1, s_ => I.matchedWith_r_step3 x0 x1 x2 s_.1 s_.2.1 s_.2.2.1 s_.2.2.2.1 s_.2.2.2.2.1 s_.2.2.2.2.2.1 s_.2.2.2.2.2.2.1 s_.2.2.2.2.2.2.2.1 s_.2.2.2.2.2.2.2.2.1 s_.2.2.2.2.2.2.2.2.2.1 s_.2.2.2.2.2.2.2.2.2.2.1 s_.2.2.2.2.2.2.2.2.2.2.2.1 s_.2.2.2.2.2.2.2.2.2.2.2.2.1 s_.2.2.2.2.2.2.2.2.2.2.2.2.2.1 s_.2.2.2.2.2.2.2.2.2.2.2.2.2.2.1 s_.2.2.2.2.2.2.2.2.2.2.2.2.2.2.2.1 s_.2.2.2.2.2.2.2.2.2.2.2.2.2.2.2.2 (I.matchedWith_r_run3 x0 x1 x2 n) (fun d => some ((Sum.inl d))) (fun d => some ((Sum.inr d))) none
theorem I.matchedWith_r_L3_run (x0 : List Int) (x1 : Int) (x2 : Int) (n : Nat) (s_ : Int × Int × Int × Int × Int × Int × Int × Int × Bool × Int × Int × Int × Int × Int × Int × Int × Bool) (k : X → St → R) : I.matchedWith_r_L3 n { n := 58, t := [(0, (.ro false (.ints .i64 x0))), (1, (.int .i64 x1)), (2, (.int .i64 x2)), (8, (.ptr 0 0)), (9, (.ptr 1 0)), (10, (.int .i64 s_.1))], h := [.cells [(.int .i64 s_.2.1), (.int .i64 s_.2.2.1), (.int .i64 s_.2.2.2.1), (.int .i64 s_.2.2.2.2.1), (.int .i64 s_.2.2.2.2.2.1), (.int .i64 s_.2.2.2.2.2.2.1), (.int .i64 s_.2.2.2.2.2.2.2.1), (.bool s_.2.2.2.2.2.2.2.2.1)], .cells [(.int .i64 s_.2.2.2.2.2.2.2.2.2.1), (.int .i64 s_.2.2.2.2.2.2.2.2.2.2.1), (.int .i64 s_.2.2.2.2.2.2.2.2.2.2.2.1), (.int .i64 s_.2.2.2.2.2.2.2.2.2.2.2.2.1), (.int .i64 s_.2.2.2.2.2.2.2.2.2.2.2.2.2.1), (.int .i64 s_.2.2.2.2.2.2.2.2.2.2.2.2.2.2.1), (.int .i64 s_.2.2.2.2.2.2.2.2.2.2.2.2.2.2.2.1), (.bool s_.2.2.2.2.2.2.2.2.2.2.2.2.2.2.2.2)]] } k = optC (I.matchedWith_r_run3 x0 x1 x2 n s_) (fun (r : (Int × Int × Int × Int × Int × Int × Int × Bool × Int × Int × Int × Int × Int × Int × Int × Bool) ⊕ (Int × Int × Int × Int × Int × Int × Int × Bool × Int × Int × Int × Int × Int × Int × Int × Bool)) => (sumC r (fun (r : Int × Int × Int × Int × Int × Int × Int × Bool × Int × Int × Int × Int × Int × Int × Int × Bool) => k (.ret) { n := 58, t := [(8, (.ptr 0 0)), (9, (.ptr 1 0))], h := [.cells [(.int .i64 r.1), (.int .i64 r.2.1), (.int .i64 r.2.2.1), (.int .i64 r.2.2.2.1), (.int .i64 r.2.2.2.2.1), (.int .i64 r.2.2.2.2.2.1), (.int .i64 r.2.2.2.2.2.2.1), (.bool r.2.2.2.2.2.2.2.1)], .cells [(.int .i64 r.2.2.2.2.2.2.2.2.1), (.int .i64 r.2.2.2.2.2.2.2.2.2.1), (.int .i64 r.2.2.2.2.2.2.2.2.2.2.1), (.int .i64 r.2.2.2.2.2.2.2.2.2.2.2.1), (.int .i64 r.2.2.2.2.2.2.2.2.2.2.2.2.1), (.int .i64 r.2.2.2.2.2.2.2.2.2.2.2.2.2.1), (.int .i64 r.2.2.2.2.2.2.2.2.2.2.2.2.2.2.1), (.bool r.2.2.2.2.2.2.2.2.2.2.2.2.2.2.2)]] }) (fun (r : Int × Int × Int × Int × Int × Int × Int × Bool × Int × Int × Int × Int × Int × Int × Int × Bool) => k (.exit 0) { n := 58, t := [(8, (.ptr 0 0)), (9, (.ptr 1 0))], h := [.cells [(.int .i64 r.1), (.int .i64 r.2.1), (.int .i64 r.2.2.1), (.int .i64 r.2.2.2.1), (.int .i64 r.2.2.2.2.1), (.int .i64 r.2.2.2.2.2.1), (.int .i64 r.2.2.2.2.2.2.1), (.bool r.2.2.2.2.2.2.2.1)], .cells [(.int .i64 r.2.2.2.2.2.2.2.2.1), (.int .i64 r.2.2.2.2.2.2.2.2.2.1), (.int .i64 r.2.2.2.2.2.2.2.2.2.2.1), (.int .i64 r.2.2.2.2.2.2.2.2.2.2.2.1), (.int .i64 r.2.2.2.2.2.2.2.2.2.2.2.2.1), (.int .i64 r.2.2.2.2.2.2.2.2.2.2.2.2.2.1), (.int .i64 r.2.2.2.2.2.2.2.2.2.2.2.2.2.2.1), (.bool r.2.2.2.2.2.2.2.2.2.2.2.2.2.2.2)]] }))) none := by
  induction n generalizing s_ with
  | zero => rfl
  | succ n ih =>
    have hu : I.matchedWith_r_L3 (n + 1) { n := 58, t := [(0, (.ro false (.ints .i64 x0))), (1, (.int .i64 x1)), (2, (.int .i64 x2)), (8, (.ptr 0 0)), (9, (.ptr 1 0)), (10, (.int .i64 s_.1))], h := [.cells [(.int .i64 s_.2.1), (.int .i64 s_.2.2.1), (.int .i64 s_.2.2.2.1), (.int .i64 s_.2.2.2.2.1), (.int .i64 s_.2.2.2.2.2.1), (.int .i64 s_.2.2.2.2.2.2.1), (.int .i64 s_.2.2.2.2.2.2.2.1), (.bool s_.2.2.2.2.2.2.2.2.1)], .cells [(.int .i64 s_.2.2.2.2.2.2.2.2.2.1), (.int .i64 s_.2.2.2.2.2.2.2.2.2.2.1), (.int .i64 s_.2.2.2.2.2.2.2.2.2.2.2.1), (.int .i64 s_.2.2.2.2.2.2.2.2.2.2.2.2.1), (.int .i64 s_.2.2.2.2.2.2.2.2.2.2.2.2.2.1), (.int .i64 s_.2.2.2.2.2.2.2.2.2.2.2.2.2.2.1), (.int .i64 s_.2.2.2.2.2.2.2.2.2.2.2.2.2.2.2.1), (.bool s_.2.2.2.2.2.2.2.2.2.2.2.2.2.2.2.2)]] } k = I.matchedWith_r_step3 x0 x1 x2 s_.1 s_.2.1 s_.2.2.1 s_.2.2.2.1 s_.2.2.2.2.1 s_.2.2.2.2.2.1 s_.2.2.2.2.2.2.1 s_.2.2.2.2.2.2.2.1 s_.2.2.2.2.2.2.2.2.1 s_.2.2.2.2.2.2.2.2.2.1 s_.2.2.2.2.2.2.2.2.2.2.1 s_.2.2.2.2.2.2.2.2.2.2.2.1 s_.2.2.2.2.2.2.2.2.2.2.2.2.1 s_.2.2.2.2.2.2.2.2.2.2.2.2.2.1 s_.2.2.2.2.2.2.2.2.2.2.2.2.2.2.1 s_.2.2.2.2.2.2.2.2.2.2.2.2.2.2.2.1 s_.2.2.2.2.2.2.2.2.2.2.2.2.2.2.2.2 (fun s_ => I.matchedWith_r_L3 n { n := 58, t := [(0, (.ro false (.ints .i64 x0))), (1, (.int .i64 x1)), (2, (.int .i64 x2)), (8, (.ptr 0 0)), (9, (.ptr 1 0)), (10, (.int .i64 s_.1))], h := [.cells [(.int .i64 s_.2.1), (.int .i64 s_.2.2.1), (.int .i64 s_.2.2.2.1), (.int .i64 s_.2.2.2.2.1), (.int .i64 s_.2.2.2.2.2.1), (.int .i64 s_.2.2.2.2.2.2.1), (.int .i64 s_.2.2.2.2.2.2.2.1), (.bool s_.2.2.2.2.2.2.2.2.1)], .cells [(.int .i64 s_.2.2.2.2.2.2.2.2.2.1), (.int .i64 s_.2.2.2.2.2.2.2.2.2.2.1), (.int .i64 s_.2.2.2.2.2.2.2.2.2.2.2.1), (.int .i64 s_.2.2.2.2.2.2.2.2.2.2.2.2.1), (.int .i64 s_.2.2.2.2.2.2.2.2.2.2.2.2.2.1), (.int .i64 s_.2.2.2.2.2.2.2.2.2.2.2.2.2.2.1), (.int .i64 s_.2.2.2.2.2.2.2.2.2.2.2.2.2.2.2.1), (.bool s_.2.2.2.2.2.2.2.2.2.2.2.2.2.2.2.2)]] } k) (fun d => k (.ret) { n := 58, t := [(8, (.ptr 0 0)), (9, (.ptr 1 0))], h := [.cells [(.int .i64 d.1), (.int .i64 d.2.1), (.int .i64 d.2.2.1), (.int .i64 d.2.2.2.1), (.int .i64 d.2.2.2.2.1), (.int .i64 d.2.2.2.2.2.1), (.int .i64 d.2.2.2.2.2.2.1), (.bool d.2.2.2.2.2.2.2.1)], .cells [(.int .i64 d.2.2.2.2.2.2.2.2.1), (.int .i64 d.2.2.2.2.2.2.2.2.2.1), (.int .i64 d.2.2.2.2.2.2.2.2.2.2.1), (.int .i64 d.2.2.2.2.2.2.2.2.2.2.2.1), (.int .i64 d.2.2.2.2.2.2.2.2.2.2.2.2.1), (.int .i64 d.2.2.2.2.2.2.2.2.2.2.2.2.2.1), (.int .i64 d.2.2.2.2.2.2.2.2.2.2.2.2.2.2.1), (.bool d.2.2.2.2.2.2.2.2.2.2.2.2.2.2.2)]] }) (fun d => k (.exit 0) { n := 58, t := [(8, (.ptr 0 0)), (9, (.ptr 1 0))], h := [.cells [(.int .i64 d.1), (.int .i64 d.2.1), (.int .i64 d.2.2.1), (.int .i64 d.2.2.2.1), (.int .i64 d.2.2.2.2.1), (.int .i64 d.2.2.2.2.2.1), (.int .i64 d.2.2.2.2.2.2.1), (.bool d.2.2.2.2.2.2.2.1)], .cells [(.int .i64 d.2.2.2.2.2.2.2.2.1), (.int .i64 d.2.2.2.2.2.2.2.2.2.1), (.int .i64 d.2.2.2.2.2.2.2.2.2.2.1), (.int .i64 d.2.2.2.2.2.2.2.2.2.2.2.1), (.int .i64 d.2.2.2.2.2.2.2.2.2.2.2.2.1), (.int .i64 d.2.2.2.2.2.2.2.2.2.2.2.2.2.1), (.int .i64 d.2.2.2.2.2.2.2.2.2.2.2.2.2.2.1), (.bool d.2.2.2.2.2.2.2.2.2.2.2.2.2.2.2)]] }) none := by
      kernel_rfl
    have hs : (fun s_ : Int × Int × Int × Int × Int × Int × Int × Int × Bool × Int × Int × Int × Int × Int × Int × Int × Bool => I.matchedWith_r_L3 n { n := 58, t := [(0, (.ro false (.ints .i64 x0))), (1, (.int .i64 x1)), (2, (.int .i64 x2)), (8, (.ptr 0 0)), (9, (.ptr 1 0)), (10, (.int .i64 s_.1))], h := [.cells [(.int .i64 s_.2.1), (.int .i64 s_.2.2.1), (.int .i64 s_.2.2.2.1), (.int .i64 s_.2.2.2.2.1), (.int .i64 s_.2.2.2.2.2.1), (.int .i64 s_.2.2.2.2.2.2.1), (.int .i64 s_.2.2.2.2.2.2.2.1), (.bool s_.2.2.2.2.2.2.2.2.1)], .cells [(.int .i64 s_.2.2.2.2.2.2.2.2.2.1), (.int .i64 s_.2.2.2.2.2.2.2.2.2.2.1), (.int .i64 s_.2.2.2.2.2.2.2.2.2.2.2.1), (.int .i64 s_.2.2.2.2.2.2.2.2.2.2.2.2.1), (.int .i64 s_.2.2.2.2.2.2.2.2.2.2.2.2.2.1), (.int .i64 s_.2.2.2.2.2.2.2.2.2.2.2.2.2.2.1), (.int .i64 s_.2.2.2.2.2.2.2.2.2.2.2.2.2.2.2.1), (.bool s_.2.2.2.2.2.2.2.2.2.2.2.2.2.2.2.2)]] } k) = fun s_ => optC (I.matchedWith_r_run3 x0 x1 x2 n s_) (fun (r : (Int × Int × Int × Int × Int × Int × Int × Bool × Int × Int × Int × Int × Int × Int × Int × Bool) ⊕ (Int × Int × Int × Int × Int × Int × Int × Bool × Int × Int × Int × Int × Int × Int × Int × Bool)) => (sumC r (fun (r : Int × Int × Int × Int × Int × Int × Int × Bool × Int × Int × Int × Int × Int × Int × Int × Bool) => k (.ret) { n := 58, t := [(8, (.ptr 0 0)), (9, (.ptr 1 0))], h := [.cells [(.int .i64 r.1), (.int .i64 r.2.1), (.int .i64 r.2.2.1), (.int .i64 r.2.2.2.1), (.int .i64 r.2.2.2.2.1), (.int .i64 r.2.2.2.2.2.1), (.int .i64 r.2.2.2.2.2.2.1), (.bool r.2.2.2.2.2.2.2.1)], .cells [(.int .i64 r.2.2.2.2.2.2.2.2.1), (.int .i64 r.2.2.2.2.2.2.2.2.2.1), (.int .i64 r.2.2.2.2.2.2.2.2.2.2.1), (.int .i64 r.2.2.2.2.2.2.2.2.2.2.2.1), (.int .i64 r.2.2.2.2.2.2.2.2.2.2.2.2.1), (.int .i64 r.2.2.2.2.2.2.2.2.2.2.2.2.2.1), (.int .i64 r.2.2.2.2.2.2.2.2.2.2.2.2.2.2.1), (.bool r.2.2.2.2.2.2.2.2.2.2.2.2.2.2.2)]] }) (fun (r : Int × Int × Int × Int × Int × Int × Int × Bool × Int × Int × Int × Int × Int × Int × Int × Bool) => k (.exit 0) { n := 58, t := [(8, (.ptr 0 0)), (9, (.ptr 1 0))], h := [.cells [(.int .i64 r.1), (.int .i64 r.2.1), (.int .i64 r.2.2.1), (.int .i64 r.2.2.2.1), (.int .i64 r.2.2.2.2.1), (.int .i64 r.2.2.2.2.2.1), (.int .i64 r.2.2.2.2.2.2.1), (.bool r.2.2.2.2.2.2.2.1)], .cells [(.int .i64 r.2.2.2.2.2.2.2.2.1), (.int .i64 r.2.2.2.2.2.2.2.2.2.1), (.int .i64 r.2.2.2.2.2.2.2.2.2.2.1), (.int .i64 r.2.2.2.2.2.2.2.2.2.2.2.1), (.int .i64 r.2.2.2.2.2.2.2.2.2.2.2.2.1), (.int .i64 r.2.2.2.2.2.2.2.2.2.2.2.2.2.1), (.int .i64 r.2.2.2.2.2.2.2.2.2.2.2.2.2.2.1), (.bool r.2.2.2.2.2.2.2.2.2.2.2.2.2.2.2)]] }))) none := funext ih
    rw [hu, hs]
    exact (I.matchedWith_r_step3_nat (fun o => optC o (fun (r : (Int × Int × Int × Int × Int × Int × Int × Bool × Int × Int × Int × Int × Int × Int × Int × Bool) ⊕ (Int × Int × Int × Int × Int × Int × Int × Bool × Int × Int × Int × Int × Int × Int × Int × Bool)) => (sumC r (fun (r : Int × Int × Int × Int × Int × Int × Int × Bool × Int × Int × Int × Int × Int × Int × Int × Bool) => k (.ret) { n := 58, t := [(8, (.ptr 0 0)), (9, (.ptr 1 0))], h := [.cells [(.int .i64 r.1), (.int .i64 r.2.1), (.int .i64 r.2.2.1), (.int .i64 r.2.2.2.1), (.int .i64 r.2.2.2.2.1), (.int .i64 r.2.2.2.2.2.1), (.int .i64 r.2.2.2.2.2.2.1), (.bool r.2.2.2.2.2.2.2.1)], .cells [(.int .i64 r.2.2.2.2.2.2.2.2.1), (.int .i64 r.2.2.2.2.2.2.2.2.2.1), (.int .i64 r.2.2.2.2.2.2.2.2.2.2.1), (.int .i64 r.2.2.2.2.2.2.2.2.2.2.2.1), (.int .i64 r.2.2.2.2.2.2.2.2.2.2.2.2.1), (.int .i64 r.2.2.2.2.2.2.2.2.2.2.2.2.2.1), (.int .i64 r.2.2.2.2.2.2.2.2.2.2.2.2.2.2.1), (.bool r.2.2.2.2.2.2.2.2.2.2.2.2.2.2.2)]] }) (fun (r : Int × Int × Int × Int × Int × Int × Int × Bool × Int × Int × Int × Int × Int × Int × Int × Bool) => k (.exit 0) { n := 58, t := [(8, (.ptr 0 0)), (9, (.ptr 1 0))], h := [.cells [(.int .i64 r.1), (.int .i64 r.2.1), (.int .i64 r.2.2.1), (.int .i64 r.2.2.2.1), (.int .i64 r.2.2.2.2.1), (.int .i64 r.2.2.2.2.2.1), (.int .i64 r.2.2.2.2.2.2.1), (.bool r.2.2.2.2.2.2.2.1)], .cells [(.int .i64 r.2.2.2.2.2.2.2.2.1), (.int .i64 r.2.2.2.2.2.2.2.2.2.1), (.int .i64 r.2.2.2.2.2.2.2.2.2.2.1), (.int .i64 r.2.2.2.2.2.2.2.2.2.2.2.1), (.int .i64 r.2.2.2.2.2.2.2.2.2.2.2.2.1), (.int .i64 r.2.2.2.2.2.2.2.2.2.2.2.2.2.1), (.int .i64 r.2.2.2.2.2.2.2.2.2.2.2.2.2.2.1), (.bool r.2.2.2.2.2.2.2.2.2.2.2.2.2.2.2)]] }))) none) x0 x1 x2 s_.1 s_.2.1 s_.2.2.1 s_.2.2.2.1 s_.2.2.2.2.1 s_.2.2.2.2.2.1 s_.2.2.2.2.2.2.1 s_.2.2.2.2.2.2.2.1 s_.2.2.2.2.2.2.2.2.1 s_.2.2.2.2.2.2.2.2.2.1 s_.2.2.2.2.2.2.2.2.2.2.1 s_.2.2.2.2.2.2.2.2.2.2.2.1 s_.2.2.2.2.2.2.2.2.2.2.2.2.1 s_.2.2.2.2.2.2.2.2.2.2.2.2.2.1 s_.2.2.2.2.2.2.2.2.2.2.2.2.2.2.1 s_.2.2.2.2.2.2.2.2.2.2.2.2.2.2.2.1 s_.2.2.2.2.2.2.2.2.2.2.2.2.2.2.2.2 (I.matchedWith_r_run3 x0 x1 x2 n) (fun d => some ((Sum.inl d))) (fun d => some ((Sum.inr d))) none).symm
noncomputable def I.matchedWith_r_tree {α : Type} (net : List Int) (to_ : Int) (guard : Int) (before0 : Int) (before1 : Int) (before2 : Int) (before3 : Int) (before4 : Int) (before5 : Int) (before6 : Int) (before7 : Bool) (leaf0_ : Int × Int × Int × Int × Int × Int × Int × Bool → α) (fail_ : α) : α :=
  (optC (I.matchedWith_r_run3 net to_ guard FUEL (0, 0, 0, 0, 0, 0, 0, 0, false, before0, before1, before2, before3, before4, before5, before6, before7)) (fun qy_5 => (sumC qy_5 (fun (qy_5 : Int × Int × Int × Int × Int × Int × Int × Bool × Int × Int × Int × Int × Int × Int × Int × Bool) => (leaf0_ (qy_5.1, qy_5.2.1, qy_5.2.2.1, qy_5.2.2.2.1, qy_5.2.2.2.2.1, qy_5.2.2.2.2.2.1, qy_5.2.2.2.2.2.2.1, qy_5.2.2.2.2.2.2.2.1))) (fun (qy_5 : Int × Int × Int × Int × Int × Int × Int × Bool × Int × Int × Int × Int × Int × Int × Int × Bool) => (leaf0_ (qy_5.2.2.2.2.2.2.2.2.1, qy_5.2.2.2.2.2.2.2.2.2.1, qy_5.2.2.2.2.2.2.2.2.2.2.1, qy_5.2.2.2.2.2.2.2.2.2.2.2.1, qy_5.2.2.2.2.2.2.2.2.2.2.2.2.1, qy_5.2.2.2.2.2.2.2.2.2.2.2.2.2.1, qy_5.2.2.2.2.2.2.2.2.2.2.2.2.2.2.1, qy_5.2.2.2.2.2.2.2.2.2.2.2.2.2.2.2))))) fail_)
theorem I.matchedWith_r_tree_nat {α γ : Type} (g : α → γ) (net : List Int) (to_ : Int) (guard : Int) (before0 : Int) (before1 : Int) (before2 : Int) (before3 : Int) (before4 : Int) (before5 : Int) (before6 : Int) (before7 : Bool) (leaf0_ : Int × Int × Int × Int × Int × Int × Int × Bool → α) (fail_ : α) : g (I.matchedWith_r_tree net to_ guard before0 before1 before2 before3 before4 before5 before6 before7 leaf0_ fail_) = I.matchedWith_r_tree net to_ guard before0 before1 before2 before3 before4 before5 before6 before7 (fun d => g (leaf0_ d)) (g fail_) := by
  unfold I.matchedWith_r_tree; simp only [apply_cnd g, apply_optC g, apply_sumC g]
noncomputable def I.matchedWith_r_t (net : List Int) (to_ : Int) (guard : Int) (before0 : Int) (before1 : Int) (before2 : Int) (before3 : Int) (before4 : Int) (before5 : Int) (before6 : Int) (before7 : Bool) : Option (Int × Int × Int × Int × Int × Int × Int × Bool) := I.matchedWith_r_tree net to_ guard before0 before1 before2 before3 before4 before5 before6 before7 (fun d => some d) none
theorem I.matchedWith_r_den (net : List Int) (to_ : Int) (guard : Int) (before0 : Int) (before1 : Int) (before2 : Int) (before3 : Int) (before4 : Int) (before5 : Int) (before6 : Int) (before7 : Bool) (κ : V → List E → R) : I.matchedWith_r_F [.ro false (.ints .i64 net), .int .i64 to_, .int .i64 guard, .agg [.int .i64 before0, .int .i64 before1, .int .i64 before2, .int .i64 before3, .int .i64 before4, .int .i64 before5, .int .i64 before6, .bool before7]] [] κ = optC (I.matchedWith_r_t net to_ guard before0 before1 before2 before3 before4 before5 before6 before7) (fun (r : Int × Int × Int × Int × Int × Int × Int × Bool) => κ (.agg [(.int .i64 r.1), (.int .i64 r.2.1), (.int .i64 r.2.2.1), (.int .i64 r.2.2.2.1), (.int .i64 r.2.2.2.2.1), (.int .i64 r.2.2.2.2.2.1), (.int .i64 r.2.2.2.2.2.2.1), (.bool r.2.2.2.2.2.2.2)]) []) none := by
  have hu : I.matchedWith_r_F [.ro false (.ints .i64 net), .int .i64 to_, .int .i64 guard, .agg [.int .i64 before0, .int .i64 before1, .int .i64 before2, .int .i64 before3, .int .i64 before4, .int .i64 before5, .int .i64 before6, .bool before7]] [] κ = I.matchedWith_r_tree net to_ guard before0 before1 before2 before3 before4 before5 before6 before7 (fun d => κ (.agg [(.int .i64 d.1), (.int .i64 d.2.1), (.int .i64 d.2.2.1), (.int .i64 d.2.2.2.1), (.int .i64 d.2.2.2.2.1), (.int .i64 d.2.2.2.2.2.1), (.int .i64 d.2.2.2.2.2.2.1), (.bool d.2.2.2.2.2.2.2)]) []) none := by
    refine Eq.trans (show I.matchedWith_r_F [.ro false (.ints .i64 net), .int .i64 to_, .int .i64 guard, .agg [.int .i64 before0, .int .i64 before1, .int .i64 before2, .int .i64 before3, .int .i64 before4, .int .i64 before5, .int .i64 before6, .bool before7]] [] κ = (I.matchedWith_r_L3 FUEL { n := 58, t := [(0, (.ro false (.ints .i64 net))), (1, (.int .i64 to_)), (2, (.int .i64 guard)), (8, (.ptr 0 0)), (9, (.ptr 1 0)), (10, (.int .i64 0))], h := [.cells [(.int .i64 0), (.int .i64 0), (.int .i64 0), (.int .i64 0), (.int .i64 0), (.int .i64 0), (.int .i64 0), (.bool false)], .cells [(.int .i64 before0), (.int .i64 before1), (.int .i64 before2), (.int .i64 before3), (.int .i64 before4), (.int .i64 before5), (.int .i64 before6), (.bool before7)]] } (I.matchedWith_r_k3 κ)) by kernel_rfl) ?_
    refine (I.matchedWith_r_L3_run net to_ guard FUEL (0, 0, 0, 0, 0, 0, 0, 0, false, before0, before1, before2, before3, before4, before5, before6, before7) (I.matchedWith_r_k3 κ)).trans (optC_congr (fun qy_5 => ?_))
    rcases qy_5 with qy_5 | qy_5
    · kernel_rfl
    · kernel_rfl
  rw [hu]
  exact (I.matchedWith_r_tree_nat (fun o => optC o (fun (r : Int × Int × Int × Int × Int × Int × Int × Bool) => κ (.agg [(.int .i64 r.1), (.int .i64 r.2.1), (.int .i64 r.2.2.1), (.int .i64 r.2.2.2.1), (.int .i64 r.2.2.2.2.1), (.int .i64 r.2.2.2.2.2.1), (.int .i64 r.2.2.2.2.2.2.1), (.bool r.2.2.2.2.2.2.2)]) []) none) net to_ guard before0 before1 before2 before3 before4 before5 before6 before7 (fun d => some d) none).symm
noncomputable def I.matchedWith_r_s : D.Spec where
  keep := false
  pure := true
  ds := [.int .i64, .invalid, .invalid, .invalid]
  sp := fun args h κ => match args, h with
    | [.ro false (.ints .i64 net), .int .i64 to_, .int .i64 guard, .agg [.int .i64 before0, .int .i64 before1, .int .i64 before2, .int .i64 before3, .int .i64 before4, .int .i64 before5, .int .i64 before6, .bool before7]], [] => optC (I.matchedWith_r_t net to_ guard before0 before1 before2 before3 before4 before5 before6 before7) (fun (r : Int × Int × Int × Int × Int × Int × Int × Bool) => κ (.agg [(.int .i64 r.1), (.int .i64 r.2.1), (.int .i64 r.2.2.1), (.int .i64 r.2.2.2.1), (.int .i64 r.2.2.2.2.1), (.int .i64 r.2.2.2.2.2.1), (.int .i64 r.2.2.2.2.2.2.1), (.bool r.2.2.2.2.2.2.2)]) []) none
    | _, _ => none
theorem I.matchedWith_r_ok (hrec_ : SpecOk Try.prog 69 I.matchedWith_r0_s) : SpecOk Try.prog 69 I.matchedWith_r_s := by
  refine SpecOk.of TDok mixed (T := I.matchedWith_r_T) ?_ (ann := I.matchedWith_r_ann) Try.func69 rfl (by decide +kernel) ?_ ?_ ?_
  · intro p hp
    simp only [I.matchedWith_r_T, List.mem_cons, List.not_mem_nil, or_false] at hp
    rcases hp with rfl | rfl | rfl | rfl
    · exact I.ballIn_ok
    · exact I.hasPlace_ok
    · exact I.with_ok
    · exact hrec_
  · intro args h κ r hh
    simp only [I.matchedWith_r_s] at hh
    split at hh
    · exact (I.matchedWith_r_den _ _ _ _ _ _ _ _ _ _ _ κ).trans hh
    · cases hh
  · intro args h κ r hh
    simp only [I.matchedWith_r_s] at hh ⊢
    split at hh
    · exact optC_law2 (F := fun (r : Int × Int × Int × Int × Int × Int × Int × Bool) κ => κ (.agg [(.int .i64 r.1), (.int .i64 r.2.1), (.int .i64 r.2.2.1), (.int .i64 r.2.2.2.1), (.int .i64 r.2.2.2.2.1), (.int .i64 r.2.2.2.2.2.1), (.int .i64 r.2.2.2.2.2.2.1), (.bool r.2.2.2.2.2.2.2)]) []) (fun b κ r hb => ⟨_, _, hb, fun _ => rfl⟩) hh
    · cases hh
  · intro _ args h κ r hh
    simp only [I.matchedWith_r_s] at hh
    split at hh
    · exact ⟨rfl, fun _ => rfl⟩
    · cases hh
end
noncomputable def I.matchedWith_td : Nat → (List Int) → Int → Int → Int → Int → Int → Int → Int → Int → Int → Bool → Option (Int × Int × Int × Int × Int × Int × Int × Bool)
  | 0 => fun _ _ _ _ _ _ _ _ _ _ _ => none
  | d + 1 => @I.matchedWith_r_t ⟨I.matchedWith_td d⟩
noncomputable def I.matchedWith_t (net : List Int) (to_ : Int) (guard : Int) (before0 : Int) (before1 : Int) (before2 : Int) (before3 : Int) (before4 : Int) (before5 : Int) (before6 : Int) (before7 : Bool) : Option (Int × Int × Int × Int × Int × Int × Int × Bool) := I.matchedWith_td FUEL net to_ guard before0 before1 before2 before3 before4 before5 before6 before7
noncomputable def I.matchedWith_s : D.Spec where
  keep := false
  pure := true
  ds := [.int .i64, .invalid, .invalid, .invalid]
  sp := fun args h κ => match args, h with
    | [.ro false (.ints .i64 net), .int .i64 to_, .int .i64 guard, .agg [.int .i64 before0, .int .i64 before1, .int .i64 before2, .int .i64 before3, .int .i64 before4, .int .i64 before5, .int .i64 before6, .bool before7]], [] => optC (I.matchedWith_t net to_ guard before0 before1 before2 before3 before4 before5 before6 before7) (fun (r : Int × Int × Int × Int × Int × Int × Int × Bool) => κ (.agg [.int .i64 r.1, .int .i64 r.2.1, .int .i64 r.2.2.1, .int .i64 r.2.2.2.1, .int .i64 r.2.2.2.2.1, .int .i64 r.2.2.2.2.2.1, .int .i64 r.2.2.2.2.2.2.1, .bool r.2.2.2.2.2.2.2]) []) none
    | _, _ => none
theorem I.matchedWith_okd : ∀ d : Nat, SpecOk Try.prog 69 (@I.matchedWith_r0_s ⟨I.matchedWith_td d⟩)
  | 0 => SpecOk.zero Try.func69 rfl (by decide +kernel) (fun args h κ => by
      simp only [I.matchedWith_r0_s]
      split
      · rfl
      · rfl)
  | d + 1 => @I.matchedWith_r_ok ⟨I.matchedWith_td d⟩ (I.matchedWith_okd d)
theorem I.matchedWith_ok : SpecOk Try.prog 69 I.matchedWith_s := I.matchedWith_okd FUEL

-- loop.example/guardsonnets/impl.allMoveIn
noncomputable def I.allMoveIn_T : List (Nat × D.Spec) := [(64, I.sizeOf_s), (53, I.hasPlace_s), (69, I.matchedWith_s)]
def I.allMoveIn_ann : Nat → List Nat × List Nat
  | 5 => ([0, 1, 2, 7, 8], [6])
  | _ => ([], [])
noncomputable def I.allMoveIn_F (args : List V) (h : List E) (κ : V → List E → R) : R := funC TD (tableK I.allMoveIn_T) I.allMoveIn_ann (drawOk (tableP I.allMoveIn_T)) FUEL Try.f42 args h κ
noncomputable def I.allMoveIn_L5 (n : Nat) (σ : St) (k : X → St → R) : R := iterC 0 (fun σ k => denC TD (tableK I.allMoveIn_T) I.allMoveIn_ann (drawOk (tableP I.allMoveIn_T)) 0 FUEL ((findLoop 5 (Try.f42.body.getD .skip)).getD .skip) σ k) [0, 1, 2, 7, 8] [6] n σ k
noncomputable def I.allMoveIn_k5 (κ : V → List E → R) : X → St → R := (afterC TD (tableK I.allMoveIn_T) I.allMoveIn_ann (drawOk (tableP I.allMoveIn_T)) 0 FUEL 5 (Try.f42.body.getD .skip) (finC TD 0 Try.f42 κ)).getD (fun _ _ => none)
noncomputable def I.allMoveIn_step5 {α : Type} (x0 : List Int) (x1 : Int) (x2 : Int) (x8 : Int) (r0_0 : Int) (r0_1 : Int) (r0_2 : Int) (r0_3 : Int) (r0_4 : Int) (r0_5 : Int) (r0_6 : Int) (r0_7 : Bool) (next_ : Int × Int × Int × Int × Int × Int × Int × Int × Bool → α) (out0_ : Bool → α) (out1_ : Unit → α) (fail_ : α) : α :=
  (bif decide (x8 < (↑x0.length : Int)) then (optC (I.hasPlace_t x1 x8) (fun c_3 => (bif !c_3 then (next_ (IntKind.i64.wrap (x8 + 1), r0_0, r0_1, r0_2, r0_3, r0_4, r0_5, r0_6, r0_7)) else (optC (I.matchedWith_t x0 x2 x8 r0_0 r0_1 r0_2 r0_3 r0_4 r0_5 0 false) (fun c_4 => (bif !c_4.snd.snd.snd.snd.snd.snd.snd then (out0_ false) else (next_ (IntKind.i64.wrap (x8 + 1), c_4.fst, c_4.snd.fst, c_4.snd.snd.fst, c_4.snd.snd.snd.fst, c_4.snd.snd.snd.snd.fst, c_4.snd.snd.snd.snd.snd.fst, c_4.snd.snd.snd.snd.snd.snd.fst, c_4.snd.snd.snd.snd.snd.snd.snd)))) fail_))) fail_) else (out1_ ()))
theorem I.allMoveIn_step5_nat {α γ : Type} (g : α → γ) (x0 : List Int) (x1 : Int) (x2 : Int) (x8 : Int) (r0_0 : Int) (r0_1 : Int) (r0_2 : Int) (r0_3 : Int) (r0_4 : Int) (r0_5 : Int) (r0_6 : Int) (r0_7 : Bool) (next_ : Int × Int × Int × Int × Int × Int × Int × Int × Bool → α) (out0_ : Bool → α) (out1_ : Unit → α) (fail_ : α) : g (I.allMoveIn_step5 x0 x1 x2 x8 r0_0 r0_1 r0_2 r0_3 r0_4 r0_5 r0_6 r0_7 next_ out0_ out1_ fail_) = I.allMoveIn_step5 x0 x1 x2 x8 r0_0 r0_1 r0_2 r0_3 r0_4 r0_5 r0_6 r0_7 (fun s => g (next_ s)) (fun d => g (out0_ d)) (fun d => g (out1_ d)) (g fail_) := by
  unfold I.allMoveIn_step5; simp only [apply_cnd g, apply_optC g, apply_sumC g]
noncomputable def I.allMoveIn_run5 (x0 : List Int) (x1 : Int) (x2 : Int) : Nat → Int × Int × Int × Int × Int × Int × Int × Int × Bool → Option ((Bool) ⊕ (Unit))
  | 0, _ => none
  | n + 1, s_ => I.allMoveIn_step5 x0 x1 x2 s_.1 s_.2.1 s_.2.2.1 s_.2.2.2.1 s_.2.2.2.2.1 s_.2.2.2.2.2.1 s_.2.2.2.2.2.2.1 s_.2.2.2.2.2.2.2.1 s_.2.2.2.2.2.2.2.2 (I.allMoveIn_run5 x0 x1 x2 n) (fun d => some ((Sum.inl d))) (fun d => some ((Sum.inr d))) none
theorem I.allMoveIn_L5_run (x0 : List Int) (x1 : Int) (x2 : Int) (n : Nat) (s_ : Int × Int × Int × Int × Int × Int × Int × Int × Bool) (k : X → St → R) : I.allMoveIn_L5 n { n := 35, t := [(0, (.ro false (.ints .i64 x0))), (1, (.int .i64 x1)), (2, (.int .i64 x2)), (7, (.ptr 0 0)), (8, (.int .i64 s_.1))], h := [.cells [(.int .i64 s_.2.1), (.int .i64 s_.2.2.1), (.int .i64 s_.2.2.2.1), (.int .i64 s_.2.2.2.2.1), (.int .i64 s_.2.2.2.2.2.1), (.int .i64 s_.2.2.2.2.2.2.1), (.int .i64 s_.2.2.2.2.2.2.2.1), (.bool s_.2.2.2.2.2.2.2.2)]] } k = optC (I.allMoveIn_run5 x0 x1 x2 n s_) (fun (r : (Bool) ⊕ (Unit)) => (sumC r (fun (r : Bool) => k (.ret) { n := 35, t := [(6, (.bool r))], h := [] }) (fun (r : Unit) => k (.exit 0) { n := 35, t := [(6, .junk)], h := [] }))) none := by
  induction n generalizing s_ with
  | zero => rfl
  | succ n ih =>
    have hu : I.allMoveIn_L5 (n + 1) { n := 35, t := [(0, (.ro false (.ints .i64 x0))), (1, (.int .i64 x1)), (2, (.int .i64 x2)), (7, (.ptr 0 0)), (8, (.int .i64 s_.1))], h := [.cells [(.int .i64 s_.2.1), (.int .i64 s_.2.2.1), (.int .i64 s_.2.2.2.1), (.int .i64 s_.2.2.2.2.1), (.int .i64 s_.2.2.2.2.2.1), (.int .i64 s_.2.2.2.2.2.2.1), (.int .i64 s_.2.2.2.2.2.2.2.1), (.bool s_.2.2.2.2.2.2.2.2)]] } k = I.allMoveIn_step5 x0 x1 x2 s_.1 s_.2.1 s_.2.2.1 s_.2.2.2.1 s_.2.2.2.2.1 s_.2.2.2.2.2.1 s_.2.2.2.2.2.2.1 s_.2.2.2.2.2.2.2.1 s_.2.2.2.2.2.2.2.2 (fun s_ => I.allMoveIn_L5 n { n := 35, t := [(0, (.ro false (.ints .i64 x0))), (1, (.int .i64 x1)), (2, (.int .i64 x2)), (7, (.ptr 0 0)), (8, (.int .i64 s_.1))], h := [.cells [(.int .i64 s_.2.1), (.int .i64 s_.2.2.1), (.int .i64 s_.2.2.2.1), (.int .i64 s_.2.2.2.2.1), (.int .i64 s_.2.2.2.2.2.1), (.int .i64 s_.2.2.2.2.2.2.1), (.int .i64 s_.2.2.2.2.2.2.2.1), (.bool s_.2.2.2.2.2.2.2.2)]] } k) (fun d => k (.ret) { n := 35, t := [(6, (.bool d))], h := [] }) (fun d => k (.exit 0) { n := 35, t := [(6, .junk)], h := [] }) none := by
      kernel_rfl
    have hs : (fun s_ : Int × Int × Int × Int × Int × Int × Int × Int × Bool => I.allMoveIn_L5 n { n := 35, t := [(0, (.ro false (.ints .i64 x0))), (1, (.int .i64 x1)), (2, (.int .i64 x2)), (7, (.ptr 0 0)), (8, (.int .i64 s_.1))], h := [.cells [(.int .i64 s_.2.1), (.int .i64 s_.2.2.1), (.int .i64 s_.2.2.2.1), (.int .i64 s_.2.2.2.2.1), (.int .i64 s_.2.2.2.2.2.1), (.int .i64 s_.2.2.2.2.2.2.1), (.int .i64 s_.2.2.2.2.2.2.2.1), (.bool s_.2.2.2.2.2.2.2.2)]] } k) = fun s_ => optC (I.allMoveIn_run5 x0 x1 x2 n s_) (fun (r : (Bool) ⊕ (Unit)) => (sumC r (fun (r : Bool) => k (.ret) { n := 35, t := [(6, (.bool r))], h := [] }) (fun (r : Unit) => k (.exit 0) { n := 35, t := [(6, .junk)], h := [] }))) none := funext ih
    rw [hu, hs]
    exact (I.allMoveIn_step5_nat (fun o => optC o (fun (r : (Bool) ⊕ (Unit)) => (sumC r (fun (r : Bool) => k (.ret) { n := 35, t := [(6, (.bool r))], h := [] }) (fun (r : Unit) => k (.exit 0) { n := 35, t := [(6, .junk)], h := [] }))) none) x0 x1 x2 s_.1 s_.2.1 s_.2.2.1 s_.2.2.2.1 s_.2.2.2.2.1 s_.2.2.2.2.2.1 s_.2.2.2.2.2.2.1 s_.2.2.2.2.2.2.2.1 s_.2.2.2.2.2.2.2.2 (I.allMoveIn_run5 x0 x1 x2 n) (fun d => some ((Sum.inl d))) (fun d => some ((Sum.inr d))) none).symm
noncomputable def I.allMoveIn_tree {α : Type} (net : List Int) (from_ : Int) (to_ : Int) (leaf0_ : Bool → α) (fail_ : α) : α :=
  (optC (I.sizeOf_t from_) (fun c_1 => (optC (I.sizeOf_t to_) (fun c_2 => (bif !c_1 == c_2 then (leaf0_ false) else (optC (I.allMoveIn_run5 net from_ to_ FUEL (0, 0, 0, 0, 0, 0, 0, 0, false)) (fun qy_5 => (sumC qy_5 (fun (qy_5 : Bool) => (leaf0_ qy_5)) (fun (qy_5 : Unit) => (leaf0_ true)))) fail_))) fail_)) fail_)
theorem I.allMoveIn_tree_nat {α γ : Type} (g : α → γ) (net : List Int) (from_ : Int) (to_ : Int) (leaf0_ : Bool → α) (fail_ : α) : g (I.allMoveIn_tree net from_ to_ leaf0_ fail_) = I.allMoveIn_tree net from_ to_ (fun d => g (leaf0_ d)) (g fail_) := by
  unfold I.allMoveIn_tree; simp only [apply_cnd g, apply_optC g, apply_sumC g]
noncomputable def I.allMoveIn_t (net : List Int) (from_ : Int) (to_ : Int) : Option (Bool) := I.allMoveIn_tree net from_ to_ (fun d => some d) none
theorem I.allMoveIn_den (net : List Int) (from_ : Int) (to_ : Int) (κ : V → List E → R) : I.allMoveIn_F [.ro false (.ints .i64 net), .int .i64 from_, .int .i64 to_] [] κ = optC (I.allMoveIn_t net from_ to_) (fun (r : Bool) => κ (.bool r) []) none := by
  have hu : I.allMoveIn_F [.ro false (.ints .i64 net), .int .i64 from_, .int .i64 to_] [] κ = I.allMoveIn_tree net from_ to_ (fun d => κ (.bool d) []) none := by
    refine Eq.trans (show I.allMoveIn_F [.ro false (.ints .i64 net), .int .i64 from_, .int .i64 to_] [] κ = (optC (I.sizeOf_t from_) (fun c_1 => (optC (I.sizeOf_t to_) (fun c_2 => (bif !c_1 == c_2 then (κ (.bool false) []) else (I.allMoveIn_L5 FUEL { n := 35, t := [(0, (.ro false (.ints .i64 net))), (1, (.int .i64 from_)), (2, (.int .i64 to_)), (7, (.ptr 0 0)), (8, (.int .i64 0))], h := [.cells [(.int .i64 0), (.int .i64 0), (.int .i64 0), (.int .i64 0), (.int .i64 0), (.int .i64 0), (.int .i64 0), (.bool false)]] } (I.allMoveIn_k5 κ)))) none)) none) by kernel_rfl) ?_
    refine optC_congr (fun c_1 => ?_)
    refine optC_congr (fun c_2 => ?_)
    refine cnd_congr ?_ ?_
    · kernel_rfl
    · refine (I.allMoveIn_L5_run net from_ to_ FUEL (0, 0, 0, 0, 0, 0, 0, 0, false) (I.allMoveIn_k5 κ)).trans (optC_congr (fun qy_5 => ?_))
      rcases qy_5 with qy_5 | qy_5
      · kernel_rfl
      · kernel_rfl
  rw [hu]
  exact (I.allMoveIn_tree_nat (fun o => optC o (fun (r : Bool) => κ (.bool r) []) none) net from_ to_ (fun d => some d) none).symm
noncomputable def I.allMoveIn_s : D.Spec where
  keep := false
  pure := true
  ds := [.int .i64, .invalid, .invalid]
  sp := fun args h κ => match args, h with
    | [.ro false (.ints .i64 net), .int .i64 from_, .int .i64 to_], [] => optC (I.allMoveIn_t net from_ to_) (fun (r : Bool) => κ (.bool r) []) none
    | _, _ => none
theorem I.allMoveIn_ok : SpecOk Try.prog 42 I.allMoveIn_s := by
  refine SpecOk.of TDok mixed (T := I.allMoveIn_T) ?_ (ann := I.allMoveIn_ann) Try.func42 rfl (by decide +kernel) ?_ ?_ ?_
  · intro p hp
    simp only [I.allMoveIn_T, List.mem_cons, List.not_mem_nil, or_false] at hp
    rcases hp with rfl | rfl | rfl
    · exact I.sizeOf_ok
    · exact I.hasPlace_ok
    · exact I.matchedWith_ok
  · intro args h κ r hh
    simp only [I.allMoveIn_s] at hh
    split at hh
    · exact (I.allMoveIn_den _ _ _ κ).trans hh
    · cases hh
  · intro args h κ r hh
    simp only [I.allMoveIn_s] at hh ⊢
    split at hh
    · exact optC_law2 (F := fun (r : Bool) κ => κ (.bool r) []) (fun b κ r hb => ⟨_, _, hb, fun _ => rfl⟩) hh
    · cases hh
  · intro _ args h κ r hh
    simp only [I.allMoveIn_s] at hh
    split at hh
    · exact ⟨rfl, fun _ => rfl⟩
    · cases hh

-- loop.example/guardsonnets/impl.AllMoveOk
noncomputable def I.AllMoveOk_T : List (Nat × D.Spec) := [(29, I.NetOk_s), (41, I.setIn_s), (42, I.allMoveIn_s)]
def I.AllMoveOk_ann : Nat → List Nat × List Nat
  | _ => ([], [])
noncomputable def I.AllMoveOk_F (args : List V) (h : List E) (κ : V → List E → R) : R := funC TD (tableK I.AllMoveOk_T) I.AllMoveOk_ann (drawOk (tableP I.AllMoveOk_T)) FUEL Try.f12 args h κ
noncomputable def I.AllMoveOk_tree {α : Type} (net : List Int) (from_ : Int) (to_ : Int) (leaf0_ : Bool → α) (fail_ : α) : α :=
  (optC (I.NetOk_t net) (fun c_1 => (bif c_1 then (optC (I.setIn_t net from_) (fun c_2 => (bif c_2 then (optC (I.setIn_t net to_) (fun c_3 => (bif c_3 then (optC (I.allMoveIn_t net from_ to_) (fun c_4 => (leaf0_ c_4)) fail_) else (leaf0_ false))) fail_) else (leaf0_ false))) fail_) else (leaf0_ false))) fail_)
theorem I.AllMoveOk_tree_nat {α γ : Type} (g : α → γ) (net : List Int) (from_ : Int) (to_ : Int) (leaf0_ : Bool → α) (fail_ : α) : g (I.AllMoveOk_tree net from_ to_ leaf0_ fail_) = I.AllMoveOk_tree net from_ to_ (fun d => g (leaf0_ d)) (g fail_) := by
  unfold I.AllMoveOk_tree; simp only [apply_cnd g, apply_optC g, apply_sumC g]
noncomputable def I.AllMoveOk_t (net : List Int) (from_ : Int) (to_ : Int) : Option (Bool) := I.AllMoveOk_tree net from_ to_ (fun d => some d) none
theorem I.AllMoveOk_den (net : List Int) (from_ : Int) (to_ : Int) (κ : V → List E → R) : I.AllMoveOk_F [.ro false (.ints .i64 net), .int .i64 from_, .int .i64 to_] [] κ = optC (I.AllMoveOk_t net from_ to_) (fun (r : Bool) => κ (.bool r) []) none := by
  have hu : I.AllMoveOk_F [.ro false (.ints .i64 net), .int .i64 from_, .int .i64 to_] [] κ = I.AllMoveOk_tree net from_ to_ (fun d => κ (.bool d) []) none := by
    kernel_rfl
  rw [hu]
  exact (I.AllMoveOk_tree_nat (fun o => optC o (fun (r : Bool) => κ (.bool r) []) none) net from_ to_ (fun d => some d) none).symm
noncomputable def I.AllMoveOk_s : D.Spec where
  keep := false
  pure := true
  ds := [.int .i64, .invalid, .invalid]
  sp := fun args h κ => match args, h with
    | [.ro false (.ints .i64 net), .int .i64 from_, .int .i64 to_], [] => optC (I.AllMoveOk_t net from_ to_) (fun (r : Bool) => κ (.bool r) []) none
    | _, _ => none
theorem I.AllMoveOk_ok : SpecOk Try.prog 12 I.AllMoveOk_s := by
  refine SpecOk.of TDok mixed (T := I.AllMoveOk_T) ?_ (ann := I.AllMoveOk_ann) Try.func12 rfl (by decide +kernel) ?_ ?_ ?_
  · intro p hp
    simp only [I.AllMoveOk_T, List.mem_cons, List.not_mem_nil, or_false] at hp
    rcases hp with rfl | rfl | rfl
    · exact I.NetOk_ok
    · exact I.setIn_ok
    · exact I.allMoveIn_ok
  · intro args h κ r hh
    simp only [I.AllMoveOk_s] at hh
    split at hh
    · exact (I.AllMoveOk_den _ _ _ κ).trans hh
    · cases hh
  · intro args h κ r hh
    simp only [I.AllMoveOk_s] at hh ⊢
    split at hh
    · exact optC_law2 (F := fun (r : Bool) κ => κ (.bool r) []) (fun b κ r hb => ⟨_, _, hb, fun _ => rfl⟩) hh
    · cases hh
  · intro _ args h κ r hh
    simp only [I.AllMoveOk_s] at hh
    split at hh
    · exact ⟨rfl, fun _ => rfl⟩
    · cases hh

-- loop.example/guardsonnets/spec.l1Size
noncomputable def S.l1Size_T : List (Nat × D.Spec) := []
def S.l1Size_ann : Nat → List Nat × List Nat
  | 2 => ([0, 3], [3])
  | _ => ([], [])
noncomputable def S.l1Size_F (args : List V) (h : List E) (κ : V → List E → R) : R := funC TD (tableK S.l1Size_T) S.l1Size_ann (drawOk (tableP S.l1Size_T)) FUEL Try.f43 args h κ
noncomputable def S.l1Size_L2 (n : Nat) (σ : St) (k : X → St → R) : R := iterC 0 (fun σ k => denC TD (tableK S.l1Size_T) S.l1Size_ann (drawOk (tableP S.l1Size_T)) 0 FUEL ((findLoop 2 (Try.f43.body.getD .skip)).getD .skip) σ k) [0, 3] [3] n σ k
noncomputable def S.l1Size_k2 (κ : V → List E → R) : X → St → R := (afterC TD (tableK S.l1Size_T) S.l1Size_ann (drawOk (tableP S.l1Size_T)) 0 FUEL 2 (Try.f43.body.getD .skip) (finC TD 0 Try.f43 κ)).getD (fun _ _ => none)
noncomputable def S.l1Size_step2 {α : Type} (x0 : Int) (x3 : Int) (next_ : Int × Int → α) (out0_ : Int → α) (fail_ : α) : α :=
  (bif decide (x0 > 0) then (next_ (IntKind.i64.wrap (x0.tdiv 2), IntKind.i64.wrap (x3 + x0.tmod 2))) else (out0_ x3))
theorem S.l1Size_step2_nat {α γ : Type} (g : α → γ) (x0 : Int) (x3 : Int) (next_ : Int × Int → α) (out0_ : Int → α) (fail_ : α) : g (S.l1Size_step2 x0 x3 next_ out0_ fail_) = S.l1Size_step2 x0 x3 (fun s => g (next_ s)) (fun d => g (out0_ d)) (g fail_) := by
  unfold S.l1Size_step2; simp only [apply_cnd g, apply_optC g, apply_sumC g]
noncomputable def S.l1Size_run2 : Nat → Int × Int → Option (Int)
  | 0, _ => none
  | n + 1, s_ => S.l1Size_step2 s_.1 s_.2 (S.l1Size_run2 n) (fun d => some d) none
theorem S.l1Size_L2_run (n : Nat) (s_ : Int × Int) (k : X → St → R) : S.l1Size_L2 n { n := 13, t := [(0, (.int .i64 s_.1)), (3, (.int .i64 s_.2))], h := [] } k = optC (S.l1Size_run2 n s_) (fun (r : Int) => k (.exit 0) { n := 13, t := [(3, (.int .i64 r))], h := [] }) none := by
  induction n generalizing s_ with
  | zero => rfl
  | succ n ih =>
    have hu : S.l1Size_L2 (n + 1) { n := 13, t := [(0, (.int .i64 s_.1)), (3, (.int .i64 s_.2))], h := [] } k = S.l1Size_step2 s_.1 s_.2 (fun s_ => S.l1Size_L2 n { n := 13, t := [(0, (.int .i64 s_.1)), (3, (.int .i64 s_.2))], h := [] } k) (fun d => k (.exit 0) { n := 13, t := [(3, (.int .i64 d))], h := [] }) none := by
      kernel_rfl
    have hs : (fun s_ : Int × Int => S.l1Size_L2 n { n := 13, t := [(0, (.int .i64 s_.1)), (3, (.int .i64 s_.2))], h := [] } k) = fun s_ => optC (S.l1Size_run2 n s_) (fun (r : Int) => k (.exit 0) { n := 13, t := [(3, (.int .i64 r))], h := [] }) none := funext ih
    rw [hu, hs]
    exact (S.l1Size_step2_nat (fun o => optC o (fun (r : Int) => k (.exit 0) { n := 13, t := [(3, (.int .i64 r))], h := [] }) none) s_.1 s_.2 (S.l1Size_run2 n) (fun d => some d) none).symm
noncomputable def S.l1Size_tree {α : Type} (set_ : Int) (leaf0_ : Int → α) (fail_ : α) : α :=
  (optC (S.l1Size_run2 FUEL (set_, 0)) (fun qy_1 => (leaf0_ qy_1)) fail_)
theorem S.l1Size_tree_nat {α γ : Type} (g : α → γ) (set_ : Int) (leaf0_ : Int → α) (fail_ : α) : g (S.l1Size_tree set_ leaf0_ fail_) = S.l1Size_tree set_ (fun d => g (leaf0_ d)) (g fail_) := by
  unfold S.l1Size_tree; simp only [apply_cnd g, apply_optC g, apply_sumC g]
noncomputable def S.l1Size_t (set_ : Int) : Option (Int) := S.l1Size_tree set_ (fun d => some d) none
theorem S.l1Size_den (set_ : Int) (κ : V → List E → R) : S.l1Size_F [.int .i64 set_] [] κ = optC (S.l1Size_t set_) (fun (r : Int) => κ (.int .i64 r) []) none := by
  have hu : S.l1Size_F [.int .i64 set_] [] κ = S.l1Size_tree set_ (fun d => κ (.int .i64 d) []) none := by
    refine Eq.trans (show S.l1Size_F [.int .i64 set_] [] κ = (S.l1Size_L2 FUEL { n := 13, t := [(0, (.int .i64 set_)), (3, (.int .i64 0))], h := [] } (S.l1Size_k2 κ)) by kernel_rfl) ?_
    refine (S.l1Size_L2_run FUEL (set_, 0) (S.l1Size_k2 κ)).trans (optC_congr (fun qy_1 => ?_))
    kernel_rfl
  rw [hu]
  exact (S.l1Size_tree_nat (fun o => optC o (fun (r : Int) => κ (.int .i64 r) []) none) set_ (fun d => some d) none).symm
noncomputable def S.l1Size_s : D.Spec where
  keep := false
  pure := true
  ds := [.invalid]
  sp := fun args h κ => match args, h with
    | [.int .i64 set_], [] => optC (S.l1Size_t set_) (fun (r : Int) => κ (.int .i64 r) []) none
    | _, _ => none
theorem S.l1Size_ok : SpecOk Try.prog 43 S.l1Size_s := by
  refine SpecOk.of TDok mixed (T := S.l1Size_T) ?_ (ann := S.l1Size_ann) Try.func43 rfl (by decide +kernel) ?_ ?_ ?_
  · intro p hp; cases hp
  · intro args h κ r hh
    simp only [S.l1Size_s] at hh
    split at hh
    · exact (S.l1Size_den _ κ).trans hh
    · cases hh
  · intro args h κ r hh
    simp only [S.l1Size_s] at hh ⊢
    split at hh
    · exact optC_law2 (F := fun (r : Int) κ => κ (.int .i64 r) []) (fun b κ r hb => ⟨_, _, hb, fun _ => rfl⟩) hh
    · cases hh
  · intro _ args h κ r hh
    simp only [S.l1Size_s] at hh
    split at hh
    · exact ⟨rfl, fun _ => rfl⟩
    · cases hh

-- loop.example/guardsonnets/spec.l10Fit
class S.l10Fit_r_R where
  r : (List Int) → Int → Int → Int → Option (Bool)
section
variable [c_ : S.l10Fit_r_R]
noncomputable def S.l10Fit_r0_t (net : List Int) (from_ : Int) (at_ : Int) (left_ : Int) : Option (Bool) := S.l10Fit_r_R.r net from_ at_ left_
noncomputable def S.l10Fit_r0_s : D.Spec where
  keep := false
  pure := true
  ds := [.int .i64, .invalid, .invalid, .invalid]
  sp := fun args h κ => match args, h with
    | [.ro false (.ints .i64 net), .int .i64 from_, .int .i64 at_, .int .i64 left_], [] => optC (S.l10Fit_r0_t net from_ at_ left_) (fun (r : Bool) => κ (.bool r) []) none
    | _, _ => none
end
section
variable [c_ : S.l10Fit_r_R]
noncomputable def S.l10Fit_r_T : List (Nat × D.Spec) := [(44, S.l10Fit_r0_s)]
def S.l10Fit_r_ann : Nat → List Nat × List Nat
  | 7 => ([0, 1, 2, 3, 9, 10], [8])
  | 1 => ([0, 1, 2, 3], [0, 1, 2, 3])
  | _ => ([], [])
noncomputable def S.l10Fit_r_F (args : List V) (h : List E) (κ : V → List E → R) : R := funC TD (tableK S.l10Fit_r_T) S.l10Fit_r_ann (drawOk (tableP S.l10Fit_r_T)) FUEL Try.f44 args h κ
noncomputable def S.l10Fit_r_L7 (n : Nat) (σ : St) (k : X → St → R) : R := iterC 0 (fun σ k => denC TD (tableK S.l10Fit_r_T) S.l10Fit_r_ann (drawOk (tableP S.l10Fit_r_T)) 0 FUEL ((findLoop 7 (Try.f44.body.getD .skip)).getD .skip) σ k) [0, 1, 2, 3, 9, 10] [8] n σ k
noncomputable def S.l10Fit_r_L1 (n : Nat) (σ : St) (k : X → St → R) : R := iterC 0 (fun σ k => denC TD (tableK S.l10Fit_r_T) S.l10Fit_r_ann (drawOk (tableP S.l10Fit_r_T)) 0 FUEL ((findLoop 1 (Try.f44.body.getD .skip)).getD .skip) σ k) [0, 1, 2, 3] [0, 1, 2, 3] n σ k
end
section
variable [c_ : S.l10Fit_r_R]
noncomputable def S.l10Fit_r_k1 (κ : V → List E → R) : X → St → R := (afterC TD (tableK S.l10Fit_r_T) S.l10Fit_r_ann (drawOk (tableP S.l10Fit_r_T)) 0 FUEL 1 (Try.f44.body.getD .skip) (finC TD 0 Try.f44 κ)).getD (fun _ _ => none)
noncomputable def S.l10Fit_r_k7 (κ : V → List E → R) : X → St → R := (afterC TD (tableK S.l10Fit_r_T) S.l10Fit_r_ann (drawOk (tableP S.l10Fit_r_T)) 0 FUEL 7 (Try.f44.body.getD .skip) (finC TD 0 Try.f44 κ)).getD (fun _ _ => none)
noncomputable def S.l10Fit_r_step1 {α : Type} (x0 : List Int) (x1 : Int) (x3 : Int) (x2 : Int) (next_ : Int → α) (out0_ : Int → α) (fail_ : α) : α :=
  (bif decide (x2 < (↑x0.length : Int)) then (bif decide (x2 < 0) then fail_ else (bif (x1.fdiv (2 ^ min x2.toNat IntKind.i64.bits)).tmod 2 == 0 then (next_ (IntKind.i64.wrap (x2 + 1))) else (out0_ x2))) else (out0_ x2))
theorem S.l10Fit_r_step1_nat {α γ : Type} (g : α → γ) (x0 : List Int) (x1 : Int) (x3 : Int) (x2 : Int) (next_ : Int → α) (out0_ : Int → α) (fail_ : α) : g (S.l10Fit_r_step1 x0 x1 x3 x2 next_ out0_ fail_) = S.l10Fit_r_step1 x0 x1 x3 x2 (fun s => g (next_ s)) (fun d => g (out0_ d)) (g fail_) := by
  unfold S.l10Fit_r_step1; simp only [apply_cnd g, apply_optC g, apply_sumC g]
noncomputable def S.l10Fit_r_run1 (x0 : List Int) (x1 : Int) (x3 : Int) : Nat → Int → Option (Int)
  | 0, _ => none
  | n + 1, s_ => S.l10Fit_r_step1 x0 x1 x3 s_ (S.l10Fit_r_run1 x0 x1 x3 n) (fun d => some d) none
theorem S.l10Fit_r_L1_run (x0 : List Int) (x1 : Int) (x3 : Int) (n : Nat) (s_ : Int) (k : X → St → R) : S.l10Fit_r_L1 n { n := 59, t := [(0, (.ro false (.ints .i64 x0))), (1, (.int .i64 x1)), (2, (.int .i64 s_)), (3, (.int .i64 x3))], h := [] } k = optC (S.l10Fit_r_run1 x0 x1 x3 n s_) (fun (r : Int) => k (.exit 0) { n := 59, t := [(0, (.ro false (.ints .i64 x0))), (1, (.int .i64 x1)), (2, (.int .i64 r)), (3, (.int .i64 x3))], h := [] }) none := by
  induction n generalizing s_ with
  | zero => rfl
  | succ n ih =>
    have hu : S.l10Fit_r_L1 (n + 1) { n := 59, t := [(0, (.ro false (.ints .i64 x0))), (1, (.int .i64 x1)), (2, (.int .i64 s_)), (3, (.int .i64 x3))], h := [] } k = S.l10Fit_r_step1 x0 x1 x3 s_ (fun s_ => S.l10Fit_r_L1 n { n := 59, t := [(0, (.ro false (.ints .i64 x0))), (1, (.int .i64 x1)), (2, (.int .i64 s_)), (3, (.int .i64 x3))], h := [] } k) (fun d => k (.exit 0) { n := 59, t := [(0, (.ro false (.ints .i64 x0))), (1, (.int .i64 x1)), (2, (.int .i64 d)), (3, (.int .i64 x3))], h := [] }) none := by
      kernel_rfl
    have hs : (fun s_ : Int => S.l10Fit_r_L1 n { n := 59, t := [(0, (.ro false (.ints .i64 x0))), (1, (.int .i64 x1)), (2, (.int .i64 s_)), (3, (.int .i64 x3))], h := [] } k) = fun s_ => optC (S.l10Fit_r_run1 x0 x1 x3 n s_) (fun (r : Int) => k (.exit 0) { n := 59, t := [(0, (.ro false (.ints .i64 x0))), (1, (.int .i64 x1)), (2, (.int .i64 r)), (3, (.int .i64 x3))], h := [] }) none := funext ih
    rw [hu, hs]
    exact (S.l10Fit_r_step1_nat (fun o => optC o (fun (r : Int) => k (.exit 0) { n := 59, t := [(0, (.ro false (.ints .i64 x0))), (1, (.int .i64 x1)), (2, (.int .i64 r)), (3, (.int .i64 x3))], h := [] }) none) x0 x1 x3 s_ (S.l10Fit_r_run1 x0 x1 x3 n) (fun d => some d) none).symm
noncomputable def S.l10Fit_r_step7 {α : Type} (x0 : List Int) (x1 : Int) (x2 : Int) (x3 : Int) (x9 : Int) (x10 : Int) (next_ : Int → α) (out0_ : Bool → α) (out1_ : Unit → α) (fail_ : α) : α :=
  (bif decide (x10 < (↑x0.length : Int)) then (bif decide (x10 < 0) then fail_ else (bif (x9.fdiv (2 ^ min x10.toNat IntKind.i64.bits)).tmod 2 == 1 then (bif decide (x10 < 0) then fail_ else (optC (S.l10Fit_r0_t x0 x1 (IntKind.i64.wrap (x2 + 1)) (bits BinOp.andNot IntKind.i64 x3 (IntKind.i64.wrap (1 * 2 ^ min x10.toNat IntKind.i64.bits)))) (fun c_2 => (bif c_2 then (out0_ true) else (next_ (IntKind.i64.wrap (x10 + 1))))) fail_)) else (next_ (IntKind.i64.wrap (x10 + 1))))) else (out1_ ()))
theorem S.l10Fit_r_step7_nat {α γ : Type} (g : α → γ) (x0 : List Int) (x1 : Int) (x2 : Int) (x3 : Int) (x9 : Int) (x10 : Int) (next_ : Int → α) (out0_ : Bool → α) (out1_ : Unit → α) (fail_ : α) : g (S.l10Fit_r_step7 x0 x1 x2 x3 x9 x10 next_ out0_ out1_ fail_) = S.l10Fit_r_step7 x0 x1 x2 x3 x9 x10 (fun s => g (next_ s)) (fun d => g (out0_ d)) (fun d => g (out1_ d)) (g fail_) := by
  unfold S.l10Fit_r_step7; simp only [apply_cnd g, apply_optC g, apply_sumC g]
noncomputable def S.l10Fit_r_run7 (x0 : List Int) (x1 : Int) (x2 : Int) (x3 : Int) (x9 : Int) : Nat → Int → Option ((Bool) ⊕ (Unit))
  | 0, _ => none
  | n + 1, s_ => S.l10Fit_r_step7 x0 x1 x2 x3 x9 s_ (S.l10Fit_r_run7 x0 x1 x2 x3 x9 n) (fun d => some ((Sum.inl d))) (fun d => some ((Sum.inr d))) none
theorem S.l10Fit_r_L7_run (x0 : List Int) (x1 : Int) (x2 : Int) (x3 : Int) (x9 : Int) (n : Nat) (s_ : Int) (k : X → St → R) : S.l10Fit_r_L7 n { n := 59, t := [(0, (.ro false (.ints .i64 x0))), (1, (.int .i64 x1)), (2, (.int .i64 x2)), (3, (.int .i64 x3)), (9, (.int .i64 x9)), (10, (.int .i64 s_))], h := [] } k = optC (S.l10Fit_r_run7 x0 x1 x2 x3 x9 n s_) (fun (r : (Bool) ⊕ (Unit)) => (sumC r (fun (r : Bool) => k (.ret) { n := 59, t := [(8, (.bool r))], h := [] }) (fun (r : Unit) => k (.exit 2) { n := 59, t := [(8, .junk)], h := [] }))) none := by
  induction n generalizing s_ with
  | zero => rfl
  | succ n ih =>
    have hu : S.l10Fit_r_L7 (n + 1) { n := 59, t := [(0, (.ro false (.ints .i64 x0))), (1, (.int .i64 x1)), (2, (.int .i64 x2)), (3, (.int .i64 x3)), (9, (.int .i64 x9)), (10, (.int .i64 s_))], h := [] } k = S.l10Fit_r_step7 x0 x1 x2 x3 x9 s_ (fun s_ => S.l10Fit_r_L7 n { n := 59, t := [(0, (.ro false (.ints .i64 x0))), (1, (.int .i64 x1)), (2, (.int .i64 x2)), (3, (.int .i64 x3)), (9, (.int .i64 x9)), (10, (.int .i64 s_))], h := [] } k) (fun d => k (.ret) { n := 59, t := [(8, (.bool d))], h := [] }) (fun d => k (.exit 2) { n := 59, t := [(8, .junk)], h := [] }) none := by
      kernel_rfl
    have hs : (fun s_ : Int => S.l10Fit_r_L7 n { n := 59, t := [(0, (.ro false (.ints .i64 x0))), (1, (.int .i64 x1)), (2, (.int .i64 x2)), (3, (.int .i64 x3)), (9, (.int .i64 x9)), (10, (.int .i64 s_))], h := [] } k) = fun s_ => optC (S.l10Fit_r_run7 x0 x1 x2 x3 x9 n s_) (fun (r : (Bool) ⊕ (Unit)) => (sumC r (fun (r : Bool) => k (.ret) { n := 59, t := [(8, (.bool r))], h := [] }) (fun (r : Unit) => k (.exit 2) { n := 59, t := [(8, .junk)], h := [] }))) none := funext ih
    rw [hu, hs]
    exact (S.l10Fit_r_step7_nat (fun o => optC o (fun (r : (Bool) ⊕ (Unit)) => (sumC r (fun (r : Bool) => k (.ret) { n := 59, t := [(8, (.bool r))], h := [] }) (fun (r : Unit) => k (.exit 2) { n := 59, t := [(8, .junk)], h := [] }))) none) x0 x1 x2 x3 x9 s_ (S.l10Fit_r_run7 x0 x1 x2 x3 x9 n) (fun d => some ((Sum.inl d))) (fun d => some ((Sum.inr d))) none).symm
noncomputable def S.l10Fit_r_tree {α : Type} (net : List Int) (from_ : Int) (at_ : Int) (left_ : Int) (leaf0_ : Bool → α) (fail_ : α) : α :=
  (optC (S.l10Fit_r_run1 net from_ left_ FUEL at_) (fun qy_1 => (bif decide (qy_1 ≥ (↑net.length : Int)) then (leaf0_ true) else (bif decide (0 ≤ qy_1) && decide (qy_1 < (↑net.length : Int)) then (bif decide (qy_1 < 0) then fail_ else (optC (S.l10Fit_r_run7 net from_ qy_1 left_ (bits BinOp.and IntKind.i64 (bits BinOp.or IntKind.i64 (eli net qy_1.toNat) (IntKind.i64.wrap (1 * 2 ^ min qy_1.toNat IntKind.i64.bits))) left_) FUEL 0) (fun qy_3 => (sumC qy_3 (fun (qy_3 : Bool) => (leaf0_ qy_3)) (fun (qy_3 : Unit) => (leaf0_ false)))) fail_)) else fail_))) fail_)
theorem S.l10Fit_r_tree_nat {α γ : Type} (g : α → γ) (net : List Int) (from_ : Int) (at_ : Int) (left_ : Int) (leaf0_ : Bool → α) (fail_ : α) : g (S.l10Fit_r_tree net from_ at_ left_ leaf0_ fail_) = S.l10Fit_r_tree net from_ at_ left_ (fun d => g (leaf0_ d)) (g fail_) := by
  unfold S.l10Fit_r_tree; simp only [apply_cnd g, apply_optC g, apply_sumC g]
noncomputable def S.l10Fit_r_t (net : List Int) (from_ : Int) (at_ : Int) (left_ : Int) : Option (Bool) := S.l10Fit_r_tree net from_ at_ left_ (fun d => some d) none
theorem S.l10Fit_r_den (net : List Int) (from_ : Int) (at_ : Int) (left_ : Int) (κ : V → List E → R) : S.l10Fit_r_F [.ro false (.ints .i64 net), .int .i64 from_, .int .i64 at_, .int .i64 left_] [] κ = optC (S.l10Fit_r_t net from_ at_ left_) (fun (r : Bool) => κ (.bool r) []) none := by
  have hu : S.l10Fit_r_F [.ro false (.ints .i64 net), .int .i64 from_, .int .i64 at_, .int .i64 left_] [] κ = S.l10Fit_r_tree net from_ at_ left_ (fun d => κ (.bool d) []) none := by
    refine Eq.trans (show S.l10Fit_r_F [.ro false (.ints .i64 net), .int .i64 from_, .int .i64 at_, .int .i64 left_] [] κ = (S.l10Fit_r_L1 FUEL { n := 59, t := [(0, (.ro false (.ints .i64 net))), (1, (.int .i64 from_)), (2, (.int .i64 at_)), (3, (.int .i64 left_))], h := [] } (S.l10Fit_r_k1 κ)) by kernel_rfl) ?_
    refine (S.l10Fit_r_L1_run net from_ left_ FUEL at_ (S.l10Fit_r_k1 κ)).trans (optC_congr (fun qy_1 => ?_))
    refine Eq.trans (show (S.l10Fit_r_k1 κ (.exit 0) { n := 59, t := [(0, (.ro false (.ints .i64 net))), (1, (.int .i64 from_)), (2, (.int .i64 qy_1)), (3, (.int .i64 left_))], h := [] }) = (bif decide (qy_1 ≥ (↑net.length : Int)) then (κ (.bool true) []) else (bif decide (0 ≤ qy_1) && decide (qy_1 < (↑net.length : Int)) then (bif decide (qy_1 < 0) then none else (S.l10Fit_r_L7 FUEL { n := 59, t := [(0, (.ro false (.ints .i64 net))), (1, (.int .i64 from_)), (2, (.int .i64 qy_1)), (3, (.int .i64 left_)), (9, (.int .i64 (bits BinOp.and IntKind.i64 (bits BinOp.or IntKind.i64 (eli net qy_1.toNat) (IntKind.i64.wrap (1 * 2 ^ min qy_1.toNat IntKind.i64.bits))) left_))), (10, (.int .i64 0))], h := [] } (S.l10Fit_r_k7 κ))) else none)) by kernel_rfl) ?_
    refine cnd_congr ?_ ?_
    · kernel_rfl
    · refine cnd_congr ?_ ?_
      · refine cnd_congr ?_ ?_
        · kernel_rfl
        · refine (S.l10Fit_r_L7_run net from_ qy_1 left_ (bits BinOp.and IntKind.i64 (bits BinOp.or IntKind.i64 (eli net qy_1.toNat) (IntKind.i64.wrap (1 * 2 ^ min qy_1.toNat IntKind.i64.bits))) left_) FUEL 0 (S.l10Fit_r_k7 κ)).trans (optC_congr (fun qy_3 => ?_))
          rcases qy_3 with qy_3 | qy_3
          · kernel_rfl
          · kernel_rfl
      · kernel_rfl
  rw [hu]
  exact (S.l10Fit_r_tree_nat (fun o => optC o (fun (r : Bool) => κ (.bool r) []) none) net from_ at_ left_ (fun d => some d) none).symm
noncomputable def S.l10Fit_r_s : D.Spec where
  keep := false
  pure := true
  ds := [.int .i64, .invalid, .invalid, .invalid]
  sp := fun args h κ => match args, h with
    | [.ro false (.ints .i64 net), .int .i64 from_, .int .i64 at_, .int .i64 left_], [] => optC (S.l10Fit_r_t net from_ at_ left_) (fun (r : Bool) => κ (.bool r) []) none
    | _, _ => none
theorem S.l10Fit_r_ok (hrec_ : SpecOk Try.prog 44 S.l10Fit_r0_s) : SpecOk Try.prog 44 S.l10Fit_r_s := by
  refine SpecOk.of TDok mixed (T := S.l10Fit_r_T) ?_ (ann := S.l10Fit_r_ann) Try.func44 rfl (by decide +kernel) ?_ ?_ ?_
  · intro p hp
    simp only [S.l10Fit_r_T, List.mem_cons, List.not_mem_nil, or_false] at hp
    rcases hp with rfl
    · exact hrec_
  · intro args h κ r hh
    simp only [S.l10Fit_r_s] at hh
    split at hh
    · exact (S.l10Fit_r_den _ _ _ _ κ).trans hh
    · cases hh
  · intro args h κ r hh
    simp only [S.l10Fit_r_s] at hh ⊢
    split at hh
    · exact optC_law2 (F := fun (r : Bool) κ => κ (.bool r) []) (fun b κ r hb => ⟨_, _, hb, fun _ => rfl⟩) hh
    · cases hh
  · intro _ args h κ r hh
    simp only [S.l10Fit_r_s] at hh
    split at hh
    · exact ⟨rfl, fun _ => rfl⟩
    · cases hh
end
noncomputable def S.l10Fit_td : Nat → (List Int) → Int → Int → Int → Option (Bool)
  | 0 => fun _ _ _ _ => none
  | d + 1 => @S.l10Fit_r_t ⟨S.l10Fit_td d⟩
noncomputable def S.l10Fit_t (net : List Int) (from_ : Int) (at_ : Int) (left_ : Int) : Option (Bool) := S.l10Fit_td FUEL net from_ at_ left_
noncomputable def S.l10Fit_s : D.Spec where
  keep := false
  pure := true
  ds := [.int .i64, .invalid, .invalid, .invalid]
  sp := fun args h κ => match args, h with
    | [.ro false (.ints .i64 net), .int .i64 from_, .int .i64 at_, .int .i64 left_], [] => optC (S.l10Fit_t net from_ at_ left_) (fun (r : Bool) => κ (.bool r) []) none
    | _, _ => none
theorem S.l10Fit_okd : ∀ d : Nat, SpecOk Try.prog 44 (@S.l10Fit_r0_s ⟨S.l10Fit_td d⟩)
  | 0 => SpecOk.zero Try.func44 rfl (by decide +kernel) (fun args h κ => by
      simp only [S.l10Fit_r0_s]
      split
      · rfl
      · rfl)
  | d + 1 => @S.l10Fit_r_ok ⟨S.l10Fit_td d⟩ (S.l10Fit_okd d)
theorem S.l10Fit_ok : SpecOk Try.prog 44 S.l10Fit_s := S.l10Fit_okd FUEL

-- loop.example/guardsonnets/spec.AllMoveOk
noncomputable def S.AllMoveOk_T : List (Nat × D.Spec) := [(39, S.l1SetOk_s), (43, S.l1Size_s), (44, S.l10Fit_s)]
def S.AllMoveOk_ann : Nat → List Nat × List Nat
  | _ => ([], [])
noncomputable def S.AllMoveOk_F (args : List V) (h : List E) (κ : V → List E → R) : R := funC TD (tableK S.AllMoveOk_T) S.AllMoveOk_ann (drawOk (tableP S.AllMoveOk_T)) FUEL Try.f13 args h κ
noncomputable def S.AllMoveOk_tree {α : Type} (net : List Int) (from_ : Int) (to_ : Int) (leaf0_ : Bool → α) (fail_ : α) : α :=
  (optC (S.l1SetOk_t net from_) (fun c_1 => (bif c_1 then (optC (S.l1SetOk_t net to_) (fun c_2 => (bif c_2 then (optC (S.l1Size_t from_) (fun c_3 => (optC (S.l1Size_t to_) (fun c_4 => (bif c_3 == c_4 then (optC (S.l10Fit_t net from_ 0 to_) (fun c_5 => (leaf0_ c_5)) fail_) else (leaf0_ false))) fail_)) fail_) else (leaf0_ false))) fail_) else (leaf0_ false))) fail_)
theorem S.AllMoveOk_tree_nat {α γ : Type} (g : α → γ) (net : List Int) (from_ : Int) (to_ : Int) (leaf0_ : Bool → α) (fail_ : α) : g (S.AllMoveOk_tree net from_ to_ leaf0_ fail_) = S.AllMoveOk_tree net from_ to_ (fun d => g (leaf0_ d)) (g fail_) := by
  unfold S.AllMoveOk_tree; simp only [apply_cnd g, apply_optC g, apply_sumC g]
noncomputable def S.AllMoveOk_t (net : List Int) (from_ : Int) (to_ : Int) : Option (Bool) := S.AllMoveOk_tree net from_ to_ (fun d => some d) none
theorem S.AllMoveOk_den (net : List Int) (from_ : Int) (to_ : Int) (κ : V → List E → R) : S.AllMoveOk_F [.ro false (.ints .i64 net), .int .i64 from_, .int .i64 to_] [] κ = optC (S.AllMoveOk_t net from_ to_) (fun (r : Bool) => κ (.bool r) []) none := by
  have hu : S.AllMoveOk_F [.ro false (.ints .i64 net), .int .i64 from_, .int .i64 to_] [] κ = S.AllMoveOk_tree net from_ to_ (fun d => κ (.bool d) []) none := by
    kernel_rfl
  rw [hu]
  exact (S.AllMoveOk_tree_nat (fun o => optC o (fun (r : Bool) => κ (.bool r) []) none) net from_ to_ (fun d => some d) none).symm
noncomputable def S.AllMoveOk_s : D.Spec where
  keep := false
  pure := true
  ds := [.int .i64, .invalid, .invalid]
  sp := fun args h κ => match args, h with
    | [.ro false (.ints .i64 net), .int .i64 from_, .int .i64 to_], [] => optC (S.AllMoveOk_t net from_ to_) (fun (r : Bool) => κ (.bool r) []) none
    | _, _ => none
theorem S.AllMoveOk_ok : SpecOk Try.prog 13 S.AllMoveOk_s := by
  refine SpecOk.of TDok mixed (T := S.AllMoveOk_T) ?_ (ann := S.AllMoveOk_ann) Try.func13 rfl (by decide +kernel) ?_ ?_ ?_
  · intro p hp
    simp only [S.AllMoveOk_T, List.mem_cons, List.not_mem_nil, or_false] at hp
    rcases hp with rfl | rfl | rfl
    · exact S.l1SetOk_ok
    · exact S.l1Size_ok
    · exact S.l10Fit_ok
  · intro args h κ r hh
    simp only [S.AllMoveOk_s] at hh
    split at hh
    · exact (S.AllMoveOk_den _ _ _ κ).trans hh
    · cases hh
  · intro args h κ r hh
    simp only [S.AllMoveOk_s] at hh ⊢
    split at hh
    · exact optC_law2 (F := fun (r : Bool) κ => κ (.bool r) []) (fun b κ r hb => ⟨_, _, hb, fun _ => rfl⟩) hh
    · cases hh
  · intro _ args h κ r hh
    simp only [S.AllMoveOk_s] at hh
    split at hh
    · exact ⟨rfl, fun _ => rfl⟩
    · cases hh

-- loop.example/guardsonnets/impl.seenIn
noncomputable def I.seenIn_T : List (Nat × D.Spec) := [(53, I.hasPlace_s), (70, I.ballIn_s)]
def I.seenIn_ann : Nat → List Nat × List Nat
  | 3 => ([0, 1, 5, 6], [5])
  | _ => ([], [])
noncomputable def I.seenIn_F (args : List V) (h : List E) (κ : V → List E → R) : R := funC TD (tableK I.seenIn_T) I.seenIn_ann (drawOk (tableP I.seenIn_T)) FUEL Try.f45 args h κ
noncomputable def I.seenIn_L3 (n : Nat) (σ : St) (k : X → St → R) : R := iterC 0 (fun σ k => denC TD (tableK I.seenIn_T) I.seenIn_ann (drawOk (tableP I.seenIn_T)) 0 FUEL ((findLoop 3 (Try.f45.body.getD .skip)).getD .skip) σ k) [0, 1, 5, 6] [5] n σ k
noncomputable def I.seenIn_k3 (κ : V → List E → R) : X → St → R := (afterC TD (tableK I.seenIn_T) I.seenIn_ann (drawOk (tableP I.seenIn_T)) 0 FUEL 3 (Try.f45.body.getD .skip) (finC TD 0 Try.f45 κ)).getD (fun _ _ => none)
noncomputable def I.seenIn_step3 {α : Type} (x0 : List Int) (x1 : Int) (x5 : Int) (x6 : Int) (next_ : Int × Int → α) (out0_ : Int → α) (fail_ : α) : α :=
  (bif decide (x6 < (↑x0.length : Int)) then (optC (I.hasPlace_t x1 x6) (fun c_1 => (bif c_1 then (optC (I.ballIn_t x0 x6) (fun c_2 => (next_ (bits BinOp.or IntKind.i64 x5 c_2, IntKind.i64.wrap (x6 + 1)))) fail_) else (next_ (x5, IntKind.i64.wrap (x6 + 1))))) fail_) else (out0_ x5))
theorem I.seenIn_step3_nat {α γ : Type} (g : α → γ) (x0 : List Int) (x1 : Int) (x5 : Int) (x6 : Int) (next_ : Int × Int → α) (out0_ : Int → α) (fail_ : α) : g (I.seenIn_step3 x0 x1 x5 x6 next_ out0_ fail_) = I.seenIn_step3 x0 x1 x5 x6 (fun s => g (next_ s)) (fun d => g (out0_ d)) (g fail_) := by
  unfold I.seenIn_step3; simp only [apply_cnd g, apply_optC g, apply_sumC g]
noncomputable def I.seenIn_run3 (x0 : List Int) (x1 : Int) : Nat → Int × Int → Option (Int)
  | 0, _ => none
  | n + 1, s_ => I.seenIn_step3 x0 x1 s_.1 s_.2 (I.seenIn_run3 x0 x1 n) (fun d => some d) none
theorem I.seenIn_L3_run (x0 : List Int) (x1 : Int) (n : Nat) (s_ : Int × Int) (k : X → St → R) : I.seenIn_L3 n { n := 22, t := [(0, (.ro false (.ints .i64 x0))), (1, (.int .i64 x1)), (5, (.int .i64 s_.1)), (6, (.int .i64 s_.2))], h := [] } k = optC (I.seenIn_run3 x0 x1 n s_) (fun (r : Int) => k (.exit 0) { n := 22, t := [(5, (.int .i64 r))], h := [] }) none := by
  induction n generalizing s_ with
  | zero => rfl
  | succ n ih =>
    have hu : I.seenIn_L3 (n + 1) { n := 22, t := [(0, (.ro false (.ints .i64 x0))), (1, (.int .i64 x1)), (5, (.int .i64 s_.1)), (6, (.int .i64 s_.2))], h := [] } k = I.seenIn_step3 x0 x1 s_.1 s_.2 (fun s_ => I.seenIn_L3 n { n := 22, t := [(0, (.ro false (.ints .i64 x0))), (1, (.int .i64 x1)), (5, (.int .i64 s_.1)), (6, (.int .i64 s_.2))], h := [] } k) (fun d => k (.exit 0) { n := 22, t := [(5, (.int .i64 d))], h := [] }) none := by
      kernel_rfl
    have hs : (fun s_ : Int × Int => I.seenIn_L3 n { n := 22, t := [(0, (.ro false (.ints .i64 x0))), (1, (.int .i64 x1)), (5, (.int .i64 s_.1)), (6, (.int .i64 s_.2))], h := [] } k) = fun s_ => optC (I.seenIn_run3 x0 x1 n s_) (fun (r : Int) => k (.exit 0) { n := 22, t := [(5, (.int .i64 r))], h := [] }) none := funext ih
    rw [hu, hs]
    exact (I.seenIn_step3_nat (fun o => optC o (fun (r : Int) => k (.exit 0) { n := 22, t := [(5, (.int .i64 r))], h := [] }) none) x0 x1 s_.1 s_.2 (I.seenIn_run3 x0 x1 n) (fun d => some d) none).symm
noncomputable def I.seenIn_tree {α : Type} (net : List Int) (set_ : Int) (leaf0_ : Int → α) (fail_ : α) : α :=
  (optC (I.seenIn_run3 net set_ FUEL (0, 0)) (fun qy_3 => (leaf0_ qy_3)) fail_)
theorem I.seenIn_tree_nat {α γ : Type} (g : α → γ) (net : List Int) (set_ : Int) (leaf0_ : Int → α) (fail_ : α) : g (I.seenIn_tree net set_ leaf0_ fail_) = I.seenIn_tree net set_ (fun d => g (leaf0_ d)) (g fail_) := by
  unfold I.seenIn_tree; simp only [apply_cnd g, apply_optC g, apply_sumC g]
noncomputable def I.seenIn_t (net : List Int) (set_ : Int) : Option (Int) := I.seenIn_tree net set_ (fun d => some d) none
theorem I.seenIn_den (net : List Int) (set_ : Int) (κ : V → List E → R) : I.seenIn_F [.ro false (.ints .i64 net), .int .i64 set_] [] κ = optC (I.seenIn_t net set_) (fun (r : Int) => κ (.int .i64 r) []) none := by
  have hu : I.seenIn_F [.ro false (.ints .i64 net), .int .i64 set_] [] κ = I.seenIn_tree net set_ (fun d => κ (.int .i64 d) []) none := by
    refine Eq.trans (show I.seenIn_F [.ro false (.ints .i64 net), .int .i64 set_] [] κ = (I.seenIn_L3 FUEL { n := 22, t := [(0, (.ro false (.ints .i64 net))), (1, (.int .i64 set_)), (5, (.int .i64 0)), (6, (.int .i64 0))], h := [] } (I.seenIn_k3 κ)) by kernel_rfl) ?_
    refine (I.seenIn_L3_run net set_ FUEL (0, 0) (I.seenIn_k3 κ)).trans (optC_congr (fun qy_3 => ?_))
    kernel_rfl
  rw [hu]
  exact (I.seenIn_tree_nat (fun o => optC o (fun (r : Int) => κ (.int .i64 r) []) none) net set_ (fun d => some d) none).symm
noncomputable def I.seenIn_s : D.Spec where
  keep := false
  pure := true
  ds := [.int .i64, .invalid]
  sp := fun args h κ => match args, h with
    | [.ro false (.ints .i64 net), .int .i64 set_], [] => optC (I.seenIn_t net set_) (fun (r : Int) => κ (.int .i64 r) []) none
    | _, _ => none
theorem I.seenIn_ok : SpecOk Try.prog 45 I.seenIn_s := by
  refine SpecOk.of TDok mixed (T := I.seenIn_T) ?_ (ann := I.seenIn_ann) Try.func45 rfl (by decide +kernel) ?_ ?_ ?_
  · intro p hp
    simp only [I.seenIn_T, List.mem_cons, List.not_mem_nil, or_false] at hp
    rcases hp with rfl | rfl
    · exact I.hasPlace_ok
    · exact I.ballIn_ok
  · intro args h κ r hh
    simp only [I.seenIn_s] at hh
    split at hh
    · exact (I.seenIn_den _ _ κ).trans hh
    · cases hh
  · intro args h κ r hh
    simp only [I.seenIn_s] at hh ⊢
    split at hh
    · exact optC_law2 (F := fun (r : Int) κ => κ (.int .i64 r) []) (fun b κ r hb => ⟨_, _, hb, fun _ => rfl⟩) hh
    · cases hh
  · intro _ args h κ r hh
    simp only [I.seenIn_s] at hh
    split at hh
    · exact ⟨rfl, fun _ => rfl⟩
    · cases hh

-- loop.example/guardsonnets/impl.SeenBy
noncomputable def I.SeenBy_T : List (Nat × D.Spec) := [(29, I.NetOk_s), (41, I.setIn_s), (45, I.seenIn_s)]
def I.SeenBy_ann : Nat → List Nat × List Nat
  | _ => ([], [])
noncomputable def I.SeenBy_F (args : List V) (h : List E) (κ : V → List E → R) : R := funC TD (tableK I.SeenBy_T) I.SeenBy_ann (drawOk (tableP I.SeenBy_T)) FUEL Try.f14 args h κ
noncomputable def I.SeenBy_tree {α : Type} (net : List Int) (set_ : Int) (leaf0_ : Int → α) (fail_ : α) : α :=
  (optC (I.NetOk_t net) (fun c_1 => (bif !c_1 then (leaf0_ (-1)) else (optC (I.setIn_t net set_) (fun c_2 => (bif !c_2 then (leaf0_ (-1)) else (optC (I.seenIn_t net set_) (fun c_3 => (leaf0_ c_3)) fail_))) fail_))) fail_)
theorem I.SeenBy_tree_nat {α γ : Type} (g : α → γ) (net : List Int) (set_ : Int) (leaf0_ : Int → α) (fail_ : α) : g (I.SeenBy_tree net set_ leaf0_ fail_) = I.SeenBy_tree net set_ (fun d => g (leaf0_ d)) (g fail_) := by
  unfold I.SeenBy_tree; simp only [apply_cnd g, apply_optC g, apply_sumC g]
noncomputable def I.SeenBy_t (net : List Int) (set_ : Int) : Option (Int) := I.SeenBy_tree net set_ (fun d => some d) none
theorem I.SeenBy_den (net : List Int) (set_ : Int) (κ : V → List E → R) : I.SeenBy_F [.ro false (.ints .i64 net), .int .i64 set_] [] κ = optC (I.SeenBy_t net set_) (fun (r : Int) => κ (.int .i64 r) []) none := by
  have hu : I.SeenBy_F [.ro false (.ints .i64 net), .int .i64 set_] [] κ = I.SeenBy_tree net set_ (fun d => κ (.int .i64 d) []) none := by
    kernel_rfl
  rw [hu]
  exact (I.SeenBy_tree_nat (fun o => optC o (fun (r : Int) => κ (.int .i64 r) []) none) net set_ (fun d => some d) none).symm
noncomputable def I.SeenBy_s : D.Spec where
  keep := false
  pure := true
  ds := [.int .i64, .invalid]
  sp := fun args h κ => match args, h with
    | [.ro false (.ints .i64 net), .int .i64 set_], [] => optC (I.SeenBy_t net set_) (fun (r : Int) => κ (.int .i64 r) []) none
    | _, _ => none
theorem I.SeenBy_ok : SpecOk Try.prog 14 I.SeenBy_s := by
  refine SpecOk.of TDok mixed (T := I.SeenBy_T) ?_ (ann := I.SeenBy_ann) Try.func14 rfl (by decide +kernel) ?_ ?_ ?_
  · intro p hp
    simp only [I.SeenBy_T, List.mem_cons, List.not_mem_nil, or_false] at hp
    rcases hp with rfl | rfl | rfl
    · exact I.NetOk_ok
    · exact I.setIn_ok
    · exact I.seenIn_ok
  · intro args h κ r hh
    simp only [I.SeenBy_s] at hh
    split at hh
    · exact (I.SeenBy_den _ _ κ).trans hh
    · cases hh
  · intro args h κ r hh
    simp only [I.SeenBy_s] at hh ⊢
    split at hh
    · exact optC_law2 (F := fun (r : Int) κ => κ (.int .i64 r) []) (fun b κ r hb => ⟨_, _, hb, fun _ => rfl⟩) hh
    · cases hh
  · intro _ args h κ r hh
    simp only [I.SeenBy_s] at hh
    split at hh
    · exact ⟨rfl, fun _ => rfl⟩
    · cases hh

-- loop.example/guardsonnets/laws.alive
noncomputable def L.alive_T : List (Nat × D.Spec) := [(29, I.NetOk_s)]
def L.alive_ann : Nat → List Nat × List Nat
  | _ => ([], [])
noncomputable def L.alive_F (args : List V) (h : List E) (κ : V → List E → R) : R := funC TD (tableK L.alive_T) L.alive_ann (drawOk (tableP L.alive_T)) FUEL Try.f15 args h κ
noncomputable def L.alive_tree {α : Type} (leaf0_ : Bool → α) (fail_ : α) : α :=
  (optC (I.NetOk_t [2, 1]) (fun c_1 => (bif c_1 then (optC (I.NetOk_t [1]) (fun c_2 => (leaf0_ (!c_2))) fail_) else (leaf0_ false))) fail_)
theorem L.alive_tree_nat {α γ : Type} (g : α → γ) (leaf0_ : Bool → α) (fail_ : α) : g (L.alive_tree leaf0_ fail_) = L.alive_tree (fun d => g (leaf0_ d)) (g fail_) := by
  unfold L.alive_tree; simp only [apply_cnd g, apply_optC g, apply_sumC g]
noncomputable def L.alive_t : Option (Bool) := L.alive_tree (fun d => some d) none
theorem L.alive_den (κ : V → List E → R) : L.alive_F [] [] κ = optC (L.alive_t) (fun (r : Bool) => κ (.bool r) []) none := by
  have hu : L.alive_F [] [] κ = L.alive_tree (fun d => κ (.bool d) []) none := by
    kernel_rfl
  rw [hu]
  exact (L.alive_tree_nat (fun o => optC o (fun (r : Bool) => κ (.bool r) []) none) (fun d => some d) none).symm
noncomputable def L.alive_s : D.Spec where
  keep := false
  pure := true
  ds := []
  sp := fun args h κ => match args, h with
    | [], [] => optC (L.alive_t) (fun (r : Bool) => κ (.bool r) []) none
    | _, _ => none
theorem L.alive_ok : SpecOk Try.prog 15 L.alive_s := by
  refine SpecOk.of TDok mixed (T := L.alive_T) ?_ (ann := L.alive_ann) Try.func15 rfl (by decide +kernel) ?_ ?_ ?_
  · intro p hp
    simp only [L.alive_T, List.mem_cons, List.not_mem_nil, or_false] at hp
    rcases hp with rfl
    · exact I.NetOk_ok
  · intro args h κ r hh
    simp only [L.alive_s] at hh
    split at hh
    · exact (L.alive_den κ).trans hh
    · cases hh
  · intro args h κ r hh
    simp only [L.alive_s] at hh ⊢
    split at hh
    · exact optC_law2 (F := fun (r : Bool) κ => κ (.bool r) []) (fun b κ r hb => ⟨_, _, hb, fun _ => rfl⟩) hh
    · cases hh
  · intro _ args h κ r hh
    simp only [L.alive_s] at hh
    split at hh
    · exact ⟨rfl, fun _ => rfl⟩
    · cases hh

-- loop.example/guardsonnets/impl.placeIn
noncomputable def I.placeIn_T : List (Nat × D.Spec) := []
def I.placeIn_ann : Nat → List Nat × List Nat
  | _ => ([], [])
noncomputable def I.placeIn_F (args : List V) (h : List E) (κ : V → List E → R) : R := funC TD (tableK I.placeIn_T) I.placeIn_ann (drawOk (tableP I.placeIn_T)) FUEL Try.f46 args h κ
noncomputable def I.placeIn_tree {α : Type} (net : List Int) (place : Int) (leaf0_ : Bool → α) (fail_ : α) : α :=
  (bif decide (place ≥ 0) then (leaf0_ (decide (place < (↑net.length : Int)))) else (leaf0_ false))
theorem I.placeIn_tree_nat {α γ : Type} (g : α → γ) (net : List Int) (place : Int) (leaf0_ : Bool → α) (fail_ : α) : g (I.placeIn_tree net place leaf0_ fail_) = I.placeIn_tree net place (fun d => g (leaf0_ d)) (g fail_) := by
  unfold I.placeIn_tree; simp only [apply_cnd g, apply_optC g, apply_sumC g]
noncomputable def I.placeIn_t (net : List Int) (place : Int) : Option (Bool) := I.placeIn_tree net place (fun d => some d) none
theorem I.placeIn_den (net : List Int) (place : Int) (κ : V → List E → R) : I.placeIn_F [.ro false (.ints .i64 net), .int .i64 place] [] κ = optC (I.placeIn_t net place) (fun (r : Bool) => κ (.bool r) []) none := by
  have hu : I.placeIn_F [.ro false (.ints .i64 net), .int .i64 place] [] κ = I.placeIn_tree net place (fun d => κ (.bool d) []) none := by
    kernel_rfl
  rw [hu]
  exact (I.placeIn_tree_nat (fun o => optC o (fun (r : Bool) => κ (.bool r) []) none) net place (fun d => some d) none).symm
noncomputable def I.placeIn_s : D.Spec where
  keep := false
  pure := true
  ds := [.int .i64, .invalid]
  sp := fun args h κ => match args, h with
    | [.ro false (.ints .i64 net), .int .i64 place], [] => optC (I.placeIn_t net place) (fun (r : Bool) => κ (.bool r) []) none
    | _, _ => none
theorem I.placeIn_ok : SpecOk Try.prog 46 I.placeIn_s := by
  refine SpecOk.of TDok mixed (T := I.placeIn_T) ?_ (ann := I.placeIn_ann) Try.func46 rfl (by decide +kernel) ?_ ?_ ?_
  · intro p hp; cases hp
  · intro args h κ r hh
    simp only [I.placeIn_s] at hh
    split at hh
    · exact (I.placeIn_den _ _ κ).trans hh
    · cases hh
  · intro args h κ r hh
    simp only [I.placeIn_s] at hh ⊢
    split at hh
    · exact optC_law2 (F := fun (r : Bool) κ => κ (.bool r) []) (fun b κ r hb => ⟨_, _, hb, fun _ => rfl⟩) hh
    · cases hh
  · intro _ args h κ r hh
    simp only [I.placeIn_s] at hh
    split at hh
    · exact ⟨rfl, fun _ => rfl⟩
    · cases hh


end Go.Proofs.Ytgocpgkhbamkcaa
