/- Twins of the translated functions, with their proofs. Conditions: none. -/
import Derived.Test.YtjaklmemllbeiaaBzTab
set_option linter.unusedVariables false
set_option linter.unusedSimpArgs false
set_option linter.unusedSectionVars false
namespace Go.Proofs.Ytjaklmemllbeiaa
open D Go.RowKit
-- loop.example/guardsonnets/spec.l20Open
noncomputable def S.l20Open_T : List (Nat × D.Spec) := []
def S.l20Open_ann : Nat → List Nat × List Nat
  | _ => ([], [])
noncomputable def S.l20Open_F (args : List V) (h : List E) (κ : V → List E → R) : R := funC TD (tableK S.l20Open_T) S.l20Open_ann (drawAny TD (tableP S.l20Open_T)) FUEL Try.f21 args h κ
noncomputable def S.l20Open_tree {α : Type} (code : List Int) (leaf0_ : (List Int) × Int → α) (fail_ : α) : α :=
  (bif decide ((↑code.length : Int) > 2000) then (bif decide (2000 ≤ (↑code.length : Int)) then (leaf0_ (List.take (Int.toNat 2000) (List.drop 0 code), 0)) else fail_) else (leaf0_ (code, 0)))
theorem S.l20Open_tree_nat {α γ : Type} (g : α → γ) (code : List Int) (leaf0_ : (List Int) × Int → α) (fail_ : α) : g (S.l20Open_tree code leaf0_ fail_) = S.l20Open_tree code (fun d => g (leaf0_ d)) (g fail_) := by
  unfold S.l20Open_tree; simp only [apply_cnd g, apply_optC g, apply_sumC g]
noncomputable def S.l20Open_t (code : List Int) : Option ((List Int) × Int) := S.l20Open_tree code (fun d => some d) none
theorem S.l20Open_den (code : List Int) (κ : V → List E → R) : S.l20Open_F [.ro true (.ints .u8 code)] [] κ = optC (S.l20Open_t code) (fun (r : (List Int) × Int) => κ (.ptr 0 0) [.cells [(.ro true (.ints .u8 r.1)), (.int .i64 r.2)]]) none := by
  have hu : S.l20Open_F [.ro true (.ints .u8 code)] [] κ = S.l20Open_tree code (fun d => κ (.ptr 0 0) [.cells [(.ro true (.ints .u8 d.1)), (.int .i64 d.2)]]) none := by
    kernel_rfl
  rw [hu]
  exact (S.l20Open_tree_nat (fun o => optC o (fun (r : (List Int) × Int) => κ (.ptr 0 0) [.cells [(.ro true (.ints .u8 r.1)), (.int .i64 r.2)]]) none) code (fun d => some d) none).symm
noncomputable def S.l20Open_s : D.Spec where
  keep := true
  pure := false
  add := true
  ds := [.int .u8]
  sp := fun args h κ => match args, h with
    | [.ro true (.ints .u8 code)], [] => optC (S.l20Open_t code) (fun (r : (List Int) × Int) => κ (.ptr 0 0) [.cells [(.ro true (.ints .u8 r.1)), (.int .i64 r.2)]]) none
    | _, _ => none
theorem S.l20Open_ok : SpecOk Try.prog 21 S.l20Open_s := by
  refine SpecOk.of TDok mixed (T := S.l20Open_T) ?_ (ann := S.l20Open_ann) Try.func21 rfl (by decide +kernel) ?_ ?_ ?_ ?_
  · intro p hp; cases hp
  · intro args h κ r hh
    simp only [S.l20Open_s] at hh
    split at hh
    · exact (S.l20Open_den _ κ).trans hh
    · cases hh
  · intro args h κ r hh
    simp only [S.l20Open_s] at hh ⊢
    split at hh
    · exact optC_law2 (F := fun (r : (List Int) × Int) κ => κ (.ptr 0 0) [.cells [(.ro true (.ints .u8 r.1)), (.int .i64 r.2)]]) (fun b κ r hb => ⟨_, _, hb, fun _ => rfl⟩) hh
    · cases hh
  · intro hh; cases hh
  · intro _ args h κ r hh
    simp only [S.l20Open_s] at hh
    split at hh
    · rfl
    · cases hh

-- (*loop.example/guardsonnets/spec.l20Rd).pick
noncomputable def S.l20Rd_pick_T : List (Nat × D.Spec) := []
def S.l20Rd_pick_ann : Nat → List Nat × List Nat
  | _ => ([], [])
noncomputable def S.l20Rd_pick_F (args : List V) (h : List E) (κ : V → List E → R) : R := funC TD (tableK S.l20Rd_pick_T) S.l20Rd_pick_ann (drawAny TD (tableP S.l20Rd_pick_T)) FUEL Try.f36 args h κ
noncomputable def S.l20Rd_pick_tree {α : Type} (rb : List Int) (rp : Int) (n_ : Int) (leaf0_ : Int × (List Int) × Int → α) (fail_ : α) : α :=
  (bif decide (n_ < 1) then (leaf0_ (0, rb, IntKind.i64.wrap (rp + 1))) else (bif (↑rb.length : Int) == 0 then (leaf0_ (0, rb, IntKind.i64.wrap (rp + 1))) else (bif decide (IntKind.i64.wrap (IntKind.i64.wrap (rp + 1) - 1) < (↑rb.length : Int)) then (bif decide (0 ≤ IntKind.i64.wrap (IntKind.i64.wrap (rp + 1) - 1)) && decide (IntKind.i64.wrap (IntKind.i64.wrap (rp + 1) - 1) < (↑rb.length : Int)) then (bif n_ == 0 then fail_ else (leaf0_ ((IntKind.i64.wrap (eli rb (IntKind.i64.wrap (IntKind.i64.wrap (rp + 1) - 1)).toNat)).tmod n_, rb, IntKind.i64.wrap (rp + 1)))) else fail_) else (bif (↑rb.length : Int) == 0 then fail_ else (bif decide (0 ≤ (IntKind.i64.wrap (IntKind.i64.wrap (rp + 1) - 1)).tmod (↑rb.length : Int)) && decide ((IntKind.i64.wrap (IntKind.i64.wrap (rp + 1) - 1)).tmod (↑rb.length : Int) < (↑rb.length : Int)) then (bif (↑rb.length : Int) == 0 then fail_ else (bif decide (0 ≤ (IntKind.i64.wrap (IntKind.i64.wrap (IntKind.i64.wrap (IntKind.i64.wrap (rp + 1) - 1) * 7) + 3)).tmod (↑rb.length : Int)) && decide ((IntKind.i64.wrap (IntKind.i64.wrap (IntKind.i64.wrap (IntKind.i64.wrap (rp + 1) - 1) * 7) + 3)).tmod (↑rb.length : Int) < (↑rb.length : Int)) then (bif (↑rb.length : Int) == 0 then fail_ else (bif n_ == 0 then fail_ else (leaf0_ ((bits BinOp.xor IntKind.i64 (IntKind.i64.wrap (IntKind.i64.wrap (IntKind.i64.wrap (IntKind.i64.wrap (IntKind.i64.wrap (eli rb ((IntKind.i64.wrap (IntKind.i64.wrap (rp + 1) - 1)).tmod (↑rb.length : Int)).toNat) * 131) + IntKind.i64.wrap (IntKind.i64.wrap (eli rb ((IntKind.i64.wrap (IntKind.i64.wrap (IntKind.i64.wrap (IntKind.i64.wrap (rp + 1) - 1) * 7) + 3)).tmod (↑rb.length : Int)).toNat) * 1117)) + IntKind.i64.wrap (IntKind.i64.wrap (IntKind.i64.wrap (rp + 1) - 1) * 29)) + IntKind.i64.wrap (IntKind.i64.wrap ((IntKind.i64.wrap (IntKind.i64.wrap (rp + 1) - 1)).tdiv (↑rb.length : Int)) * 53))) (IntKind.i64.wrap ((IntKind.i64.wrap (IntKind.i64.wrap (IntKind.i64.wrap (IntKind.i64.wrap (IntKind.i64.wrap (eli rb ((IntKind.i64.wrap (IntKind.i64.wrap (rp + 1) - 1)).tmod (↑rb.length : Int)).toNat) * 131) + IntKind.i64.wrap (IntKind.i64.wrap (eli rb ((IntKind.i64.wrap (IntKind.i64.wrap (IntKind.i64.wrap (IntKind.i64.wrap (rp + 1) - 1) * 7) + 3)).tmod (↑rb.length : Int)).toNat) * 1117)) + IntKind.i64.wrap (IntKind.i64.wrap (IntKind.i64.wrap (rp + 1) - 1) * 29)) + IntKind.i64.wrap (IntKind.i64.wrap ((IntKind.i64.wrap (IntKind.i64.wrap (rp + 1) - 1)).tdiv (↑rb.length : Int)) * 53))).tdiv 64))).tmod n_, rb, IntKind.i64.wrap (rp + 1))))) else fail_)) else fail_)))))
theorem S.l20Rd_pick_tree_nat {α γ : Type} (g : α → γ) (rb : List Int) (rp : Int) (n_ : Int) (leaf0_ : Int × (List Int) × Int → α) (fail_ : α) : g (S.l20Rd_pick_tree rb rp n_ leaf0_ fail_) = S.l20Rd_pick_tree rb rp n_ (fun d => g (leaf0_ d)) (g fail_) := by
  unfold S.l20Rd_pick_tree; simp only [apply_cnd g, apply_optC g, apply_sumC g]
noncomputable def S.l20Rd_pick_t (rb : List Int) (rp : Int) (n_ : Int) : Option (Int × (List Int) × Int) := S.l20Rd_pick_tree rb rp n_ (fun d => some d) none
theorem S.l20Rd_pick_den (rb : List Int) (rp : Int) (n_ : Int) (κ : V → List E → R) : S.l20Rd_pick_F [.ptr 0 0, .int .i64 n_] [.cells [.ro true (.ints .u8 rb), .int .i64 rp]] κ = optC (S.l20Rd_pick_t rb rp n_) (fun (r : Int × (List Int) × Int) => κ (.int .i64 r.1) [.cells [(.ro true (.ints .u8 r.2.1)), (.int .i64 r.2.2)]]) none := by
  have hu : S.l20Rd_pick_F [.ptr 0 0, .int .i64 n_] [.cells [.ro true (.ints .u8 rb), .int .i64 rp]] κ = S.l20Rd_pick_tree rb rp n_ (fun d => κ (.int .i64 d.1) [.cells [(.ro true (.ints .u8 d.2.1)), (.int .i64 d.2.2)]]) none := by
    kernel_rfl
  rw [hu]
  exact (S.l20Rd_pick_tree_nat (fun o => optC o (fun (r : Int × (List Int) × Int) => κ (.int .i64 r.1) [.cells [(.ro true (.ints .u8 r.2.1)), (.int .i64 r.2.2)]]) none) rb rp n_ (fun d => some d) none).symm
noncomputable def S.l20Rd_pick_s : D.Spec where
  keep := false
  pure := false
  add := false
  ds := [.invalid, .invalid]
  sp := fun args h κ => match args, h with
    | [.ptr 0 0, .int .i64 n_], [.cells [.ro true (.ints .u8 rb), .int .i64 rp]] => optC (S.l20Rd_pick_t rb rp n_) (fun (r : Int × (List Int) × Int) => κ (.int .i64 r.1) [.cells [(.ro true (.ints .u8 r.2.1)), (.int .i64 r.2.2)]]) none
    | _, _ => none
theorem S.l20Rd_pick_ok : SpecOk Try.prog 36 S.l20Rd_pick_s := by
  refine SpecOk.of TDok mixed (T := S.l20Rd_pick_T) ?_ (ann := S.l20Rd_pick_ann) Try.func36 rfl (by decide +kernel) ?_ ?_ ?_ ?_
  · intro p hp; cases hp
  · intro args h κ r hh
    simp only [S.l20Rd_pick_s] at hh
    split at hh
    · exact (S.l20Rd_pick_den _ _ _ κ).trans hh
    · cases hh
  · intro args h κ r hh
    simp only [S.l20Rd_pick_s] at hh ⊢
    split at hh
    · exact optC_law2 (F := fun (r : Int × (List Int) × Int) κ => κ (.int .i64 r.1) [.cells [(.ro true (.ints .u8 r.2.1)), (.int .i64 r.2.2)]]) (fun b κ r hb => ⟨_, _, hb, fun _ => rfl⟩) hh
    · cases hh
  · intro hh; cases hh
  · intro hh; cases hh

-- (*loop.example/guardsonnets/spec.l20Rd).odd
noncomputable def S.l20Rd_odd_T : List (Nat × D.Spec) := [(36, S.l20Rd_pick_s)]
def S.l20Rd_odd_ann : Nat → List Nat × List Nat
  | _ => ([], [])
noncomputable def S.l20Rd_odd_F (args : List V) (h : List E) (κ : V → List E → R) : R := funC TD (tableK S.l20Rd_odd_T) S.l20Rd_odd_ann (drawAny TD (tableP S.l20Rd_odd_T)) FUEL Try.f37 args h κ
noncomputable def S.l20Rd_odd_tree {α : Type} (rb : List Int) (rp : Int) (n_ : Int) (leaf0_ : Bool × (List Int) × Int → α) (fail_ : α) : α :=
  (bif decide (n_ > 0) then (optC (S.l20Rd_pick_t rb rp n_) (fun c_1 => (leaf0_ (c_1.fst == IntKind.i64.wrap (n_ - 1), c_1.snd.fst, c_1.snd.snd))) fail_) else (leaf0_ (false, rb, rp)))
theorem S.l20Rd_odd_tree_nat {α γ : Type} (g : α → γ) (rb : List Int) (rp : Int) (n_ : Int) (leaf0_ : Bool × (List Int) × Int → α) (fail_ : α) : g (S.l20Rd_odd_tree rb rp n_ leaf0_ fail_) = S.l20Rd_odd_tree rb rp n_ (fun d => g (leaf0_ d)) (g fail_) := by
  unfold S.l20Rd_odd_tree; simp only [apply_cnd g, apply_optC g, apply_sumC g]
noncomputable def S.l20Rd_odd_t (rb : List Int) (rp : Int) (n_ : Int) : Option (Bool × (List Int) × Int) := S.l20Rd_odd_tree rb rp n_ (fun d => some d) none
theorem S.l20Rd_odd_den (rb : List Int) (rp : Int) (n_ : Int) (κ : V → List E → R) : S.l20Rd_odd_F [.ptr 0 0, .int .i64 n_] [.cells [.ro true (.ints .u8 rb), .int .i64 rp]] κ = optC (S.l20Rd_odd_t rb rp n_) (fun (r : Bool × (List Int) × Int) => κ (.bool r.1) [.cells [(.ro true (.ints .u8 r.2.1)), (.int .i64 r.2.2)]]) none := by
  have hu : S.l20Rd_odd_F [.ptr 0 0, .int .i64 n_] [.cells [.ro true (.ints .u8 rb), .int .i64 rp]] κ = S.l20Rd_odd_tree rb rp n_ (fun d => κ (.bool d.1) [.cells [(.ro true (.ints .u8 d.2.1)), (.int .i64 d.2.2)]]) none := by
    kernel_rfl
  rw [hu]
  exact (S.l20Rd_odd_tree_nat (fun o => optC o (fun (r : Bool × (List Int) × Int) => κ (.bool r.1) [.cells [(.ro true (.ints .u8 r.2.1)), (.int .i64 r.2.2)]]) none) rb rp n_ (fun d => some d) none).symm
noncomputable def S.l20Rd_odd_s : D.Spec where
  keep := false
  pure := false
  add := false
  ds := [.invalid, .invalid]
  sp := fun args h κ => match args, h with
    | [.ptr 0 0, .int .i64 n_], [.cells [.ro true (.ints .u8 rb), .int .i64 rp]] => optC (S.l20Rd_odd_t rb rp n_) (fun (r : Bool × (List Int) × Int) => κ (.bool r.1) [.cells [(.ro true (.ints .u8 r.2.1)), (.int .i64 r.2.2)]]) none
    | _, _ => none
theorem S.l20Rd_odd_ok : SpecOk Try.prog 37 S.l20Rd_odd_s := by
  refine SpecOk.of TDok mixed (T := S.l20Rd_odd_T) ?_ (ann := S.l20Rd_odd_ann) Try.func37 rfl (by decide +kernel) ?_ ?_ ?_ ?_
  · intro p hp
    simp only [S.l20Rd_odd_T, List.mem_cons, List.not_mem_nil, or_false] at hp
    rcases hp with rfl
    · exact S.l20Rd_pick_ok
  · intro args h κ r hh
    simp only [S.l20Rd_odd_s] at hh
    split at hh
    · exact (S.l20Rd_odd_den _ _ _ κ).trans hh
    · cases hh
  · intro args h κ r hh
    simp only [S.l20Rd_odd_s] at hh ⊢
    split at hh
    · exact optC_law2 (F := fun (r : Bool × (List Int) × Int) κ => κ (.bool r.1) [.cells [(.ro true (.ints .u8 r.2.1)), (.int .i64 r.2.2)]]) (fun b κ r hb => ⟨_, _, hb, fun _ => rfl⟩) hh
    · cases hh
  · intro hh; cases hh
  · intro hh; cases hh

-- loop.example/guardsonnets/spec.l20Net
noncomputable def S.l20Net_T : List (Nat × D.Spec) := [(36, S.l20Rd_pick_s), (37, S.l20Rd_odd_s)]
def S.l20Net_ann : Nat → List Nat × List Nat
  | 8 => ([0, 1, 5, 6, 7, 8, 9], [0, 1, 5, 6, 7, 8])
  | 5 => ([0, 1, 5, 6, 7, 8], [0, 1, 5, 6])
  | _ => ([], [])
noncomputable def S.l20Net_F (args : List V) (h : List E) (κ : V → List E → R) : R := funC TD (tableK S.l20Net_T) S.l20Net_ann (drawAny TD (tableP S.l20Net_T)) FUEL Try.f20 args h κ
noncomputable def S.l20Net_L8 (n : Nat) (σ : St) (k : X → St → R) : R := iterC 1 (fun σ k => denC TD (tableK S.l20Net_T) S.l20Net_ann (drawAny TD (tableP S.l20Net_T)) 1 FUEL ((findLoop 8 (Try.f20.body.getD .skip)).getD .skip) σ k) [0, 1, 5, 6, 7, 8, 9] [0, 1, 5, 6, 7, 8] n σ k
noncomputable def S.l20Net_L5 (n : Nat) (σ : St) (k : X → St → R) : R := iterC 1 (fun σ k => denC TD (tableK S.l20Net_T) S.l20Net_ann (drawAny TD (tableP S.l20Net_T)) 1 FUEL ((findLoop 5 (Try.f20.body.getD .skip)).getD .skip) σ k) [0, 1, 5, 6, 7, 8] [0, 1, 5, 6] n σ k
noncomputable def S.l20Net_k8 (c : (St → R) × (X → St → R)) : X → St → R := (afterC TD (tableK S.l20Net_T) S.l20Net_ann (drawAny TD (tableP S.l20Net_T)) 1 FUEL 8 ((findLoop 5 (Try.f20.body.getD .skip)).getD .skip) (roundC 1 [0, 1, 5, 6, 7, 8] [0, 1, 5, 6] c.1 c.2)).getD (fun _ _ => none)
noncomputable def S.l20Net_k5 (κ : V → List E → R) : X → St → R := (afterC TD (tableK S.l20Net_T) S.l20Net_ann (drawAny TD (tableP S.l20Net_T)) 1 FUEL 5 (Try.f20.body.getD .skip) (finC TD 1 Try.f20 κ)).getD (fun _ _ => none)
noncomputable def S.l20Net_step8 {α : Type} (x1 : Int) (x5 : Int) (x7 : Int) (x8 : Int) (x9 : Int) (r0_0 : List Int) (r0_1 : Int) (r1 : List Int) (next_ : Int × (List Int) × Int × (List Int) → α) (out0_ : (List Int) × Int × (List Int) → α) (fail_ : α) : α :=
  (bif decide (x9 < x8) then (optC (S.l20Rd_pick_t r0_0 r0_1 3) (fun c_3 => (bif x7 == 0 then (bif x9 == IntKind.i64.wrap (x8 - 1) then (bif decide (0 ≤ x8) && decide (x8 < (↑r1.length : Int)) then (bif decide (x8.toNat < r1.length) then (bif decide (x9 < 0) then fail_ else (bif decide (0 ≤ x8) && decide (x8 < (↑r1.length : Int)) then (bif decide (x8.toNat < r1.length) then (bif decide (0 ≤ x9) && decide (x9 < (↑(r1.set x8.toNat (bits BinOp.or IntKind.i64 (eli r1 x8.toNat) (IntKind.i64.wrap (1 * 2 ^ min x9.toNat IntKind.i64.bits)))).length : Int)) then (bif decide (x9.toNat < (r1.set x8.toNat (bits BinOp.or IntKind.i64 (eli r1 x8.toNat) (IntKind.i64.wrap (1 * 2 ^ min x9.toNat IntKind.i64.bits)))).length) then (bif decide (x8 < 0) then fail_ else (bif decide (0 ≤ x9) && decide (x9 < (↑(r1.set x8.toNat (bits BinOp.or IntKind.i64 (eli r1 x8.toNat) (IntKind.i64.wrap (1 * 2 ^ min x9.toNat IntKind.i64.bits)))).length : Int)) then (bif decide (x9.toNat < (r1.set x8.toNat (bits BinOp.or IntKind.i64 (eli r1 x8.toNat) (IntKind.i64.wrap (1 * 2 ^ min x9.toNat IntKind.i64.bits)))).length) then (next_ (IntKind.i64.wrap (x9 + 1), c_3.snd.fst, c_3.snd.snd, (r1.set x8.toNat (bits BinOp.or IntKind.i64 (eli r1 x8.toNat) (IntKind.i64.wrap (1 * 2 ^ min x9.toNat IntKind.i64.bits)))).set x9.toNat (bits BinOp.or IntKind.i64 (eli (r1.set x8.toNat (bits BinOp.or IntKind.i64 (eli r1 x8.toNat) (IntKind.i64.wrap (1 * 2 ^ min x9.toNat IntKind.i64.bits)))) x9.toNat) (IntKind.i64.wrap (1 * 2 ^ min x8.toNat IntKind.i64.bits))))) else fail_) else fail_)) else fail_) else fail_) else fail_) else fail_)) else fail_) else fail_) else (bif x8 == IntKind.i64.wrap (x5 - 1) then (bif x9 == 0 then (bif decide (x5 > 2) then (bif decide (0 ≤ x8) && decide (x8 < (↑r1.length : Int)) then (bif decide (x8.toNat < r1.length) then (bif decide (x9 < 0) then fail_ else (bif decide (0 ≤ x8) && decide (x8 < (↑r1.length : Int)) then (bif decide (x8.toNat < r1.length) then (bif decide (0 ≤ x9) && decide (x9 < (↑(r1.set x8.toNat (bits BinOp.or IntKind.i64 (eli r1 x8.toNat) (IntKind.i64.wrap (1 * 2 ^ min x9.toNat IntKind.i64.bits)))).length : Int)) then (bif decide (x9.toNat < (r1.set x8.toNat (bits BinOp.or IntKind.i64 (eli r1 x8.toNat) (IntKind.i64.wrap (1 * 2 ^ min x9.toNat IntKind.i64.bits)))).length) then (bif decide (x8 < 0) then fail_ else (bif decide (0 ≤ x9) && decide (x9 < (↑(r1.set x8.toNat (bits BinOp.or IntKind.i64 (eli r1 x8.toNat) (IntKind.i64.wrap (1 * 2 ^ min x9.toNat IntKind.i64.bits)))).length : Int)) then (bif decide (x9.toNat < (r1.set x8.toNat (bits BinOp.or IntKind.i64 (eli r1 x8.toNat) (IntKind.i64.wrap (1 * 2 ^ min x9.toNat IntKind.i64.bits)))).length) then (next_ (IntKind.i64.wrap (x9 + 1), c_3.snd.fst, c_3.snd.snd, (r1.set x8.toNat (bits BinOp.or IntKind.i64 (eli r1 x8.toNat) (IntKind.i64.wrap (1 * 2 ^ min x9.toNat IntKind.i64.bits)))).set x9.toNat (bits BinOp.or IntKind.i64 (eli (r1.set x8.toNat (bits BinOp.or IntKind.i64 (eli r1 x8.toNat) (IntKind.i64.wrap (1 * 2 ^ min x9.toNat IntKind.i64.bits)))) x9.toNat) (IntKind.i64.wrap (1 * 2 ^ min x8.toNat IntKind.i64.bits))))) else fail_) else fail_)) else fail_) else fail_) else fail_) else fail_)) else fail_) else fail_) else (next_ (IntKind.i64.wrap (x9 + 1), c_3.snd.fst, c_3.snd.snd, r1))) else (next_ (IntKind.i64.wrap (x9 + 1), c_3.snd.fst, c_3.snd.snd, r1))) else (next_ (IntKind.i64.wrap (x9 + 1), c_3.snd.fst, c_3.snd.snd, r1)))) else (bif x7 == 1 then (bif x9 == IntKind.i64.wrap (x8 - 1) then (bif decide (0 ≤ x8) && decide (x8 < (↑r1.length : Int)) then (bif decide (x8.toNat < r1.length) then (bif decide (x9 < 0) then fail_ else (bif decide (0 ≤ x8) && decide (x8 < (↑r1.length : Int)) then (bif decide (x8.toNat < r1.length) then (bif decide (0 ≤ x9) && decide (x9 < (↑(r1.set x8.toNat (bits BinOp.or IntKind.i64 (eli r1 x8.toNat) (IntKind.i64.wrap (1 * 2 ^ min x9.toNat IntKind.i64.bits)))).length : Int)) then (bif decide (x9.toNat < (r1.set x8.toNat (bits BinOp.or IntKind.i64 (eli r1 x8.toNat) (IntKind.i64.wrap (1 * 2 ^ min x9.toNat IntKind.i64.bits)))).length) then (bif decide (x8 < 0) then fail_ else (bif decide (0 ≤ x9) && decide (x9 < (↑(r1.set x8.toNat (bits BinOp.or IntKind.i64 (eli r1 x8.toNat) (IntKind.i64.wrap (1 * 2 ^ min x9.toNat IntKind.i64.bits)))).length : Int)) then (bif decide (x9.toNat < (r1.set x8.toNat (bits BinOp.or IntKind.i64 (eli r1 x8.toNat) (IntKind.i64.wrap (1 * 2 ^ min x9.toNat IntKind.i64.bits)))).length) then (next_ (IntKind.i64.wrap (x9 + 1), c_3.snd.fst, c_3.snd.snd, (r1.set x8.toNat (bits BinOp.or IntKind.i64 (eli r1 x8.toNat) (IntKind.i64.wrap (1 * 2 ^ min x9.toNat IntKind.i64.bits)))).set x9.toNat (bits BinOp.or IntKind.i64 (eli (r1.set x8.toNat (bits BinOp.or IntKind.i64 (eli r1 x8.toNat) (IntKind.i64.wrap (1 * 2 ^ min x9.toNat IntKind.i64.bits)))) x9.toNat) (IntKind.i64.wrap (1 * 2 ^ min x8.toNat IntKind.i64.bits))))) else fail_) else fail_)) else fail_) else fail_) else fail_) else fail_)) else fail_) else fail_) else (bif x9 == 0 then (optC (S.l20Rd_pick_t c_3.snd.fst c_3.snd.snd 3) (fun c_4 => (bif c_4.fst == 0 then (bif decide (0 ≤ x8) && decide (x8 < (↑r1.length : Int)) then (bif decide (x8.toNat < r1.length) then (bif decide (x9 < 0) then fail_ else (bif decide (0 ≤ x8) && decide (x8 < (↑r1.length : Int)) then (bif decide (x8.toNat < r1.length) then (bif decide (0 ≤ x9) && decide (x9 < (↑(r1.set x8.toNat (bits BinOp.or IntKind.i64 (eli r1 x8.toNat) (IntKind.i64.wrap (1 * 2 ^ min x9.toNat IntKind.i64.bits)))).length : Int)) then (bif decide (x9.toNat < (r1.set x8.toNat (bits BinOp.or IntKind.i64 (eli r1 x8.toNat) (IntKind.i64.wrap (1 * 2 ^ min x9.toNat IntKind.i64.bits)))).length) then (bif decide (x8 < 0) then fail_ else (bif decide (0 ≤ x9) && decide (x9 < (↑(r1.set x8.toNat (bits BinOp.or IntKind.i64 (eli r1 x8.toNat) (IntKind.i64.wrap (1 * 2 ^ min x9.toNat IntKind.i64.bits)))).length : Int)) then (bif decide (x9.toNat < (r1.set x8.toNat (bits BinOp.or IntKind.i64 (eli r1 x8.toNat) (IntKind.i64.wrap (1 * 2 ^ min x9.toNat IntKind.i64.bits)))).length) then (next_ (IntKind.i64.wrap (x9 + 1), c_4.snd.fst, c_4.snd.snd, (r1.set x8.toNat (bits BinOp.or IntKind.i64 (eli r1 x8.toNat) (IntKind.i64.wrap (1 * 2 ^ min x9.toNat IntKind.i64.bits)))).set x9.toNat (bits BinOp.or IntKind.i64 (eli (r1.set x8.toNat (bits BinOp.or IntKind.i64 (eli r1 x8.toNat) (IntKind.i64.wrap (1 * 2 ^ min x9.toNat IntKind.i64.bits)))) x9.toNat) (IntKind.i64.wrap (1 * 2 ^ min x8.toNat IntKind.i64.bits))))) else fail_) else fail_)) else fail_) else fail_) else fail_) else fail_)) else fail_) else fail_) else (next_ (IntKind.i64.wrap (x9 + 1), c_4.snd.fst, c_4.snd.snd, r1)))) fail_) else (next_ (IntKind.i64.wrap (x9 + 1), c_3.snd.fst, c_3.snd.snd, r1)))) else (bif x7 == 2 then (bif x9 == IntKind.i64.wrap ((IntKind.i64.wrap (x8 - 1)).tdiv 2) then (bif decide (0 ≤ x8) && decide (x8 < (↑r1.length : Int)) then (bif decide (x8.toNat < r1.length) then (bif decide (x9 < 0) then fail_ else (bif decide (0 ≤ x8) && decide (x8 < (↑r1.length : Int)) then (bif decide (x8.toNat < r1.length) then (bif decide (0 ≤ x9) && decide (x9 < (↑(r1.set x8.toNat (bits BinOp.or IntKind.i64 (eli r1 x8.toNat) (IntKind.i64.wrap (1 * 2 ^ min x9.toNat IntKind.i64.bits)))).length : Int)) then (bif decide (x9.toNat < (r1.set x8.toNat (bits BinOp.or IntKind.i64 (eli r1 x8.toNat) (IntKind.i64.wrap (1 * 2 ^ min x9.toNat IntKind.i64.bits)))).length) then (bif decide (x8 < 0) then fail_ else (bif decide (0 ≤ x9) && decide (x9 < (↑(r1.set x8.toNat (bits BinOp.or IntKind.i64 (eli r1 x8.toNat) (IntKind.i64.wrap (1 * 2 ^ min x9.toNat IntKind.i64.bits)))).length : Int)) then (bif decide (x9.toNat < (r1.set x8.toNat (bits BinOp.or IntKind.i64 (eli r1 x8.toNat) (IntKind.i64.wrap (1 * 2 ^ min x9.toNat IntKind.i64.bits)))).length) then (next_ (IntKind.i64.wrap (x9 + 1), c_3.snd.fst, c_3.snd.snd, (r1.set x8.toNat (bits BinOp.or IntKind.i64 (eli r1 x8.toNat) (IntKind.i64.wrap (1 * 2 ^ min x9.toNat IntKind.i64.bits)))).set x9.toNat (bits BinOp.or IntKind.i64 (eli (r1.set x8.toNat (bits BinOp.or IntKind.i64 (eli r1 x8.toNat) (IntKind.i64.wrap (1 * 2 ^ min x9.toNat IntKind.i64.bits)))) x9.toNat) (IntKind.i64.wrap (1 * 2 ^ min x8.toNat IntKind.i64.bits))))) else fail_) else fail_)) else fail_) else fail_) else fail_) else fail_)) else fail_) else fail_) else (next_ (IntKind.i64.wrap (x9 + 1), c_3.snd.fst, c_3.snd.snd, r1))) else (bif c_3.fst == 0 then (bif decide (0 ≤ x8) && decide (x8 < (↑r1.length : Int)) then (bif decide (x8.toNat < r1.length) then (bif decide (x9 < 0) then fail_ else (bif decide (0 ≤ x8) && decide (x8 < (↑r1.length : Int)) then (bif decide (x8.toNat < r1.length) then (bif decide (0 ≤ x9) && decide (x9 < (↑(r1.set x8.toNat (bits BinOp.or IntKind.i64 (eli r1 x8.toNat) (IntKind.i64.wrap (1 * 2 ^ min x9.toNat IntKind.i64.bits)))).length : Int)) then (bif decide (x9.toNat < (r1.set x8.toNat (bits BinOp.or IntKind.i64 (eli r1 x8.toNat) (IntKind.i64.wrap (1 * 2 ^ min x9.toNat IntKind.i64.bits)))).length) then (bif decide (x8 < 0) then fail_ else (bif decide (0 ≤ x9) && decide (x9 < (↑(r1.set x8.toNat (bits BinOp.or IntKind.i64 (eli r1 x8.toNat) (IntKind.i64.wrap (1 * 2 ^ min x9.toNat IntKind.i64.bits)))).length : Int)) then (bif decide (x9.toNat < (r1.set x8.toNat (bits BinOp.or IntKind.i64 (eli r1 x8.toNat) (IntKind.i64.wrap (1 * 2 ^ min x9.toNat IntKind.i64.bits)))).length) then (next_ (IntKind.i64.wrap (x9 + 1), c_3.snd.fst, c_3.snd.snd, (r1.set x8.toNat (bits BinOp.or IntKind.i64 (eli r1 x8.toNat) (IntKind.i64.wrap (1 * 2 ^ min x9.toNat IntKind.i64.bits)))).set x9.toNat (bits BinOp.or IntKind.i64 (eli (r1.set x8.toNat (bits BinOp.or IntKind.i64 (eli r1 x8.toNat) (IntKind.i64.wrap (1 * 2 ^ min x9.toNat IntKind.i64.bits)))) x9.toNat) (IntKind.i64.wrap (1 * 2 ^ min x8.toNat IntKind.i64.bits))))) else fail_) else fail_)) else fail_) else fail_) else fail_) else fail_)) else fail_) else fail_) else (next_ (IntKind.i64.wrap (x9 + 1), c_3.snd.fst, c_3.snd.snd, r1))))))) fail_) else (out0_ (r0_0, r0_1, r1)))
theorem S.l20Net_step8_nat {α γ : Type} (g : α → γ) (x1 : Int) (x5 : Int) (x7 : Int) (x8 : Int) (x9 : Int) (r0_0 : List Int) (r0_1 : Int) (r1 : List Int) (next_ : Int × (List Int) × Int × (List Int) → α) (out0_ : (List Int) × Int × (List Int) → α) (fail_ : α) : g (S.l20Net_step8 x1 x5 x7 x8 x9 r0_0 r0_1 r1 next_ out0_ fail_) = S.l20Net_step8 x1 x5 x7 x8 x9 r0_0 r0_1 r1 (fun s => g (next_ s)) (fun d => g (out0_ d)) (g fail_) := by
  unfold S.l20Net_step8; simp only [apply_cnd g, apply_optC g, apply_sumC g]
noncomputable def S.l20Net_run8 (x1 : Int) (x5 : Int) (x7 : Int) (x8 : Int) : Nat → Int × (List Int) × Int × (List Int) → Option ((List Int) × Int × (List Int))
  | 0, _ => none
  | n + 1, s_ => S.l20Net_step8 x1 x5 x7 x8 s_.1 s_.2.1 s_.2.2.1 s_.2.2.2 (S.l20Net_run8 x1 x5 x7 x8 n) (fun d => some d) none
theorem S.l20Net_L8_run (x1 : Int) (x5 : Int) (x7 : Int) (x8 : Int) (n : Nat) (s_ : Int × (List Int) × Int × (List Int)) (k : X → St → R) : S.l20Net_L8 n { n := 125, t := [(0, (.ptr 0 0)), (1, (.int .i64 x1)), (5, (.int .i64 x5)), (6, (.own 1)), (7, (.int .i64 x7)), (8, (.int .i64 x8)), (9, (.int .i64 s_.1))], h := [.cells [(.ro true (.ints .u8 s_.2.1)), (.int .i64 s_.2.2.1)], .row (.ints .i64 s_.2.2.2)] } k = optC (S.l20Net_run8 x1 x5 x7 x8 n s_) (fun (r : (List Int) × Int × (List Int)) => k (.exit 2) { n := 125, t := [(0, (.ptr 0 0)), (1, (.int .i64 x1)), (5, (.int .i64 x5)), (6, (.own 1)), (7, (.int .i64 x7)), (8, (.int .i64 x8))], h := [.cells [(.ro true (.ints .u8 r.1)), (.int .i64 r.2.1)], .row (.ints .i64 r.2.2)] }) none := by
  induction n generalizing s_ with
  | zero => rfl
  | succ n ih =>
    have hu : S.l20Net_L8 (n + 1) { n := 125, t := [(0, (.ptr 0 0)), (1, (.int .i64 x1)), (5, (.int .i64 x5)), (6, (.own 1)), (7, (.int .i64 x7)), (8, (.int .i64 x8)), (9, (.int .i64 s_.1))], h := [.cells [(.ro true (.ints .u8 s_.2.1)), (.int .i64 s_.2.2.1)], .row (.ints .i64 s_.2.2.2)] } k = S.l20Net_step8 x1 x5 x7 x8 s_.1 s_.2.1 s_.2.2.1 s_.2.2.2 (fun s_ => S.l20Net_L8 n { n := 125, t := [(0, (.ptr 0 0)), (1, (.int .i64 x1)), (5, (.int .i64 x5)), (6, (.own 1)), (7, (.int .i64 x7)), (8, (.int .i64 x8)), (9, (.int .i64 s_.1))], h := [.cells [(.ro true (.ints .u8 s_.2.1)), (.int .i64 s_.2.2.1)], .row (.ints .i64 s_.2.2.2)] } k) (fun d => k (.exit 2) { n := 125, t := [(0, (.ptr 0 0)), (1, (.int .i64 x1)), (5, (.int .i64 x5)), (6, (.own 1)), (7, (.int .i64 x7)), (8, (.int .i64 x8))], h := [.cells [(.ro true (.ints .u8 d.1)), (.int .i64 d.2.1)], .row (.ints .i64 d.2.2)] }) none := by
      kernel_rfl
    have hs : (fun s_ : Int × (List Int) × Int × (List Int) => S.l20Net_L8 n { n := 125, t := [(0, (.ptr 0 0)), (1, (.int .i64 x1)), (5, (.int .i64 x5)), (6, (.own 1)), (7, (.int .i64 x7)), (8, (.int .i64 x8)), (9, (.int .i64 s_.1))], h := [.cells [(.ro true (.ints .u8 s_.2.1)), (.int .i64 s_.2.2.1)], .row (.ints .i64 s_.2.2.2)] } k) = fun s_ => optC (S.l20Net_run8 x1 x5 x7 x8 n s_) (fun (r : (List Int) × Int × (List Int)) => k (.exit 2) { n := 125, t := [(0, (.ptr 0 0)), (1, (.int .i64 x1)), (5, (.int .i64 x5)), (6, (.own 1)), (7, (.int .i64 x7)), (8, (.int .i64 x8))], h := [.cells [(.ro true (.ints .u8 r.1)), (.int .i64 r.2.1)], .row (.ints .i64 r.2.2)] }) none := funext ih
    rw [hu, hs]
    exact (S.l20Net_step8_nat (fun o => optC o (fun (r : (List Int) × Int × (List Int)) => k (.exit 2) { n := 125, t := [(0, (.ptr 0 0)), (1, (.int .i64 x1)), (5, (.int .i64 x5)), (6, (.own 1)), (7, (.int .i64 x7)), (8, (.int .i64 x8))], h := [.cells [(.ro true (.ints .u8 r.1)), (.int .i64 r.2.1)], .row (.ints .i64 r.2.2)] }) none) x1 x5 x7 x8 s_.1 s_.2.1 s_.2.2.1 s_.2.2.2 (S.l20Net_run8 x1 x5 x7 x8 n) (fun d => some d) none).symm
noncomputable def S.l20Net_step5 {α : Type} (x1 : Int) (x5 : Int) (x7 : Int) (x8 : Int) (r0_0 : List Int) (r0_1 : Int) (r1 : List Int) (next_ : Int × (List Int) × Int × (List Int) → α) (out0_ : (List Int) × Int × (List Int) → α) (fail_ : α) : α :=
  (bif decide (x8 < x5) then (optC (S.l20Net_run8 x1 x5 x7 x8 FUEL (0, r0_0, r0_1, r1)) (fun qy_5 => (next_ (IntKind.i64.wrap (x8 + 1), qy_5.1, qy_5.2.1, qy_5.2.2))) fail_) else (out0_ (r0_0, r0_1, r1)))
theorem S.l20Net_step5_nat {α γ : Type} (g : α → γ) (x1 : Int) (x5 : Int) (x7 : Int) (x8 : Int) (r0_0 : List Int) (r0_1 : Int) (r1 : List Int) (next_ : Int × (List Int) × Int × (List Int) → α) (out0_ : (List Int) × Int × (List Int) → α) (fail_ : α) : g (S.l20Net_step5 x1 x5 x7 x8 r0_0 r0_1 r1 next_ out0_ fail_) = S.l20Net_step5 x1 x5 x7 x8 r0_0 r0_1 r1 (fun s => g (next_ s)) (fun d => g (out0_ d)) (g fail_) := by
  unfold S.l20Net_step5; simp only [apply_cnd g, apply_optC g, apply_sumC g]
noncomputable def S.l20Net_run5 (x1 : Int) (x5 : Int) (x7 : Int) : Nat → Int × (List Int) × Int × (List Int) → Option ((List Int) × Int × (List Int))
  | 0, _ => none
  | n + 1, s_ => S.l20Net_step5 x1 x5 x7 s_.1 s_.2.1 s_.2.2.1 s_.2.2.2 (S.l20Net_run5 x1 x5 x7 n) (fun d => some d) none
theorem S.l20Net_L5_run (x1 : Int) (x5 : Int) (x7 : Int) (n : Nat) (s_ : Int × (List Int) × Int × (List Int)) (k : X → St → R) : S.l20Net_L5 n { n := 125, t := [(0, (.ptr 0 0)), (1, (.int .i64 x1)), (5, (.int .i64 x5)), (6, (.own 1)), (7, (.int .i64 x7)), (8, (.int .i64 s_.1))], h := [.cells [(.ro true (.ints .u8 s_.2.1)), (.int .i64 s_.2.2.1)], .row (.ints .i64 s_.2.2.2)] } k = optC (S.l20Net_run5 x1 x5 x7 n s_) (fun (r : (List Int) × Int × (List Int)) => k (.exit 0) { n := 125, t := [(0, (.ptr 0 0)), (1, (.int .i64 x1)), (5, (.int .i64 x5)), (6, (.own 1))], h := [.cells [(.ro true (.ints .u8 r.1)), (.int .i64 r.2.1)], .row (.ints .i64 r.2.2)] }) none := by
  induction n generalizing s_ with
  | zero => rfl
  | succ n ih =>
    have hu : S.l20Net_L5 (n + 1) { n := 125, t := [(0, (.ptr 0 0)), (1, (.int .i64 x1)), (5, (.int .i64 x5)), (6, (.own 1)), (7, (.int .i64 x7)), (8, (.int .i64 s_.1))], h := [.cells [(.ro true (.ints .u8 s_.2.1)), (.int .i64 s_.2.2.1)], .row (.ints .i64 s_.2.2.2)] } k = S.l20Net_step5 x1 x5 x7 s_.1 s_.2.1 s_.2.2.1 s_.2.2.2 (fun s_ => S.l20Net_L5 n { n := 125, t := [(0, (.ptr 0 0)), (1, (.int .i64 x1)), (5, (.int .i64 x5)), (6, (.own 1)), (7, (.int .i64 x7)), (8, (.int .i64 s_.1))], h := [.cells [(.ro true (.ints .u8 s_.2.1)), (.int .i64 s_.2.2.1)], .row (.ints .i64 s_.2.2.2)] } k) (fun d => k (.exit 0) { n := 125, t := [(0, (.ptr 0 0)), (1, (.int .i64 x1)), (5, (.int .i64 x5)), (6, (.own 1))], h := [.cells [(.ro true (.ints .u8 d.1)), (.int .i64 d.2.1)], .row (.ints .i64 d.2.2)] }) none := by
      refine Eq.trans (show S.l20Net_L5 (n + 1) { n := 125, t := [(0, (.ptr 0 0)), (1, (.int .i64 x1)), (5, (.int .i64 x5)), (6, (.own 1)), (7, (.int .i64 x7)), (8, (.int .i64 s_.1))], h := [.cells [(.ro true (.ints .u8 s_.2.1)), (.int .i64 s_.2.2.1)], .row (.ints .i64 s_.2.2.2)] } k = (bif decide (s_.1 < x5) then (S.l20Net_L8 FUEL { n := 125, t := [(0, (.ptr 0 0)), (1, (.int .i64 x1)), (5, (.int .i64 x5)), (6, (.own 1)), (7, (.int .i64 x7)), (8, (.int .i64 s_.1)), (9, (.int .i64 0))], h := [.cells [(.ro true (.ints .u8 s_.2.1)), (.int .i64 s_.2.2.1)], .row (.ints .i64 s_.2.2.2)] } (S.l20Net_k8 ((fun σ => S.l20Net_L5 n σ k), k))) else (k (.exit 0) { n := 125, t := [(0, (.ptr 0 0)), (1, (.int .i64 x1)), (5, (.int .i64 x5)), (6, (.own 1))], h := [.cells [(.ro true (.ints .u8 s_.2.1)), (.int .i64 s_.2.2.1)], .row (.ints .i64 s_.2.2.2)] })) by kernel_rfl) ?_
      refine cnd_congr ?_ ?_
      · refine (S.l20Net_L8_run x1 x5 x7 s_.1 FUEL (0, s_.2.1, s_.2.2.1, s_.2.2.2) (S.l20Net_k8 ((fun σ => S.l20Net_L5 n σ k), k))).trans (optC_congr (fun qy_5 => ?_))
        kernel_rfl
      · kernel_rfl
    have hs : (fun s_ : Int × (List Int) × Int × (List Int) => S.l20Net_L5 n { n := 125, t := [(0, (.ptr 0 0)), (1, (.int .i64 x1)), (5, (.int .i64 x5)), (6, (.own 1)), (7, (.int .i64 x7)), (8, (.int .i64 s_.1))], h := [.cells [(.ro true (.ints .u8 s_.2.1)), (.int .i64 s_.2.2.1)], .row (.ints .i64 s_.2.2.2)] } k) = fun s_ => optC (S.l20Net_run5 x1 x5 x7 n s_) (fun (r : (List Int) × Int × (List Int)) => k (.exit 0) { n := 125, t := [(0, (.ptr 0 0)), (1, (.int .i64 x1)), (5, (.int .i64 x5)), (6, (.own 1))], h := [.cells [(.ro true (.ints .u8 r.1)), (.int .i64 r.2.1)], .row (.ints .i64 r.2.2)] }) none := funext ih
    rw [hu, hs]
    exact (S.l20Net_step5_nat (fun o => optC o (fun (r : (List Int) × Int × (List Int)) => k (.exit 0) { n := 125, t := [(0, (.ptr 0 0)), (1, (.int .i64 x1)), (5, (.int .i64 x5)), (6, (.own 1))], h := [.cells [(.ro true (.ints .u8 r.1)), (.int .i64 r.2.1)], .row (.ints .i64 r.2.2)] }) none) x1 x5 x7 s_.1 s_.2.1 s_.2.2.1 s_.2.2.2 (S.l20Net_run5 x1 x5 x7 n) (fun d => some d) none).symm
noncomputable def S.l20Net_tree {α : Type} (rb : List Int) (rp : Int) (n_ : Int) (leaf0_ : (List Int) × Int × (List Int) → α) (fail_ : α) : α :=
  (optC (S.l20Rd_pick_t rb rp 6) (fun c_1 => (bif decide (0 ≤ IntKind.i64.wrap (1 + c_1.fst)) && small (IntKind.i64.wrap (1 + c_1.fst)).toNat && true then (optC (S.l20Rd_pick_t c_1.snd.fst c_1.snd.snd 4) (fun c_2 => (optC (S.l20Net_run5 n_ (IntKind.i64.wrap (1 + c_1.fst)) c_2.fst FUEL (0, c_2.snd.fst, c_2.snd.snd, List.replicate (IntKind.i64.wrap (1 + c_1.fst)).toNat 0)) (fun qy_6 => (optC (S.l20Rd_odd_t qy_6.1 qy_6.2.1 n_) (fun c_7 => (bif c_7.fst then (optC (S.l20Rd_pick_t c_7.snd.fst c_7.snd.snd 3) (fun c_8 => (bif c_8.fst == 0 then (leaf0_ (c_8.snd.fst, c_8.snd.snd, [])) else (bif c_8.fst == 1 then (bif decide (0 < (↑qy_6.2.2.length : Int)) then (bif decide (0 < qy_6.2.2.length) then (bif decide (0 < (↑qy_6.2.2.length : Int)) then (bif decide (0 < qy_6.2.2.length) then (leaf0_ (c_8.snd.fst, c_8.snd.snd, qy_6.2.2.set 0 (bits BinOp.or IntKind.i64 (eli qy_6.2.2 0) 1))) else fail_) else fail_) else fail_) else fail_) else (bif decide (0 < (↑qy_6.2.2.length : Int)) then (bif decide (0 < qy_6.2.2.length) then (bif decide (IntKind.i64.wrap (IntKind.i64.wrap (1 + c_1.fst) - 1) < 0) then fail_ else (bif decide (0 < (↑qy_6.2.2.length : Int)) then (bif decide (0 < qy_6.2.2.length) then (bif IntKind.i64.wrap (1 + c_1.fst) == 1 then (bif decide (0 < (↑(qy_6.2.2.set 0 (bits BinOp.xor IntKind.i64 (eli qy_6.2.2 0) (IntKind.i64.wrap (1 * 2 ^ min (IntKind.i64.wrap (IntKind.i64.wrap (1 + c_1.fst) - 1)).toNat IntKind.i64.bits)))).length : Int)) then (bif decide (0 < (qy_6.2.2.set 0 (bits BinOp.xor IntKind.i64 (eli qy_6.2.2 0) (IntKind.i64.wrap (1 * 2 ^ min (IntKind.i64.wrap (IntKind.i64.wrap (1 + c_1.fst) - 1)).toNat IntKind.i64.bits)))).length) then (leaf0_ (c_8.snd.fst, c_8.snd.snd, (qy_6.2.2.set 0 (bits BinOp.xor IntKind.i64 (eli qy_6.2.2 0) (IntKind.i64.wrap (1 * 2 ^ min (IntKind.i64.wrap (IntKind.i64.wrap (1 + c_1.fst) - 1)).toNat IntKind.i64.bits)))).set 0 (-1))) else fail_) else fail_) else (leaf0_ (c_8.snd.fst, c_8.snd.snd, qy_6.2.2.set 0 (bits BinOp.xor IntKind.i64 (eli qy_6.2.2 0) (IntKind.i64.wrap (1 * 2 ^ min (IntKind.i64.wrap (IntKind.i64.wrap (1 + c_1.fst) - 1)).toNat IntKind.i64.bits)))))) else fail_) else fail_)) else fail_) else fail_)))) fail_) else (leaf0_ (c_7.snd.fst, c_7.snd.snd, qy_6.2.2)))) fail_)) fail_)) fail_) else fail_)) fail_)
theorem S.l20Net_tree_nat {α γ : Type} (g : α → γ) (rb : List Int) (rp : Int) (n_ : Int) (leaf0_ : (List Int) × Int × (List Int) → α) (fail_ : α) : g (S.l20Net_tree rb rp n_ leaf0_ fail_) = S.l20Net_tree rb rp n_ (fun d => g (leaf0_ d)) (g fail_) := by
  unfold S.l20Net_tree; simp only [apply_cnd g, apply_optC g, apply_sumC g]
noncomputable def S.l20Net_t (rb : List Int) (rp : Int) (n_ : Int) : Option ((List Int) × Int × (List Int)) := S.l20Net_tree rb rp n_ (fun d => some d) none
theorem S.l20Net_den (rb : List Int) (rp : Int) (n_ : Int) (κ : V → List E → R) : S.l20Net_F [.ptr 0 0, .int .i64 n_] [.cells [.ro true (.ints .u8 rb), .int .i64 rp]] κ = optC (S.l20Net_t rb rp n_) (fun (r : (List Int) × Int × (List Int)) => κ (.own 1) [.cells [(.ro true (.ints .u8 r.1)), (.int .i64 r.2.1)], .row (.ints .i64 r.2.2)]) none := by
  have hu : S.l20Net_F [.ptr 0 0, .int .i64 n_] [.cells [.ro true (.ints .u8 rb), .int .i64 rp]] κ = S.l20Net_tree rb rp n_ (fun d => κ (.own 1) [.cells [(.ro true (.ints .u8 d.1)), (.int .i64 d.2.1)], .row (.ints .i64 d.2.2)]) none := by
    refine Eq.trans (show S.l20Net_F [.ptr 0 0, .int .i64 n_] [.cells [.ro true (.ints .u8 rb), .int .i64 rp]] κ = (optC (S.l20Rd_pick_t rb rp 6) (fun c_1 => (bif decide (0 ≤ IntKind.i64.wrap (1 + c_1.fst)) && small (IntKind.i64.wrap (1 + c_1.fst)).toNat && true then (optC (S.l20Rd_pick_t c_1.snd.fst c_1.snd.snd 4) (fun c_2 => (S.l20Net_L5 FUEL { n := 125, t := [(0, (.ptr 0 0)), (1, (.int .i64 n_)), (5, (.int .i64 (IntKind.i64.wrap (1 + c_1.fst)))), (6, (.own 1)), (7, (.int .i64 c_2.fst)), (8, (.int .i64 0))], h := [.cells [(.ro true (.ints .u8 c_2.snd.fst)), (.int .i64 c_2.snd.snd)], .row (.ints .i64 (List.replicate (IntKind.i64.wrap (1 + c_1.fst)).toNat 0))] } (S.l20Net_k5 κ))) none) else none)) none) by kernel_rfl) ?_
    refine optC_congr (fun c_1 => ?_)
    refine cnd_congr ?_ ?_
    · refine optC_congr (fun c_2 => ?_)
      refine (S.l20Net_L5_run n_ (IntKind.i64.wrap (1 + c_1.fst)) c_2.fst FUEL (0, c_2.snd.fst, c_2.snd.snd, List.replicate (IntKind.i64.wrap (1 + c_1.fst)).toNat 0) (S.l20Net_k5 κ)).trans (optC_congr (fun qy_6 => ?_))
      kernel_rfl
    · kernel_rfl
  rw [hu]
  exact (S.l20Net_tree_nat (fun o => optC o (fun (r : (List Int) × Int × (List Int)) => κ (.own 1) [.cells [(.ro true (.ints .u8 r.1)), (.int .i64 r.2.1)], .row (.ints .i64 r.2.2)]) none) rb rp n_ (fun d => some d) none).symm
noncomputable def S.l20Net_s : D.Spec where
  keep := false
  pure := false
  add := false
  ds := [.invalid, .invalid]
  sp := fun args h κ => match args, h with
    | [.ptr 0 0, .int .i64 n_], [.cells [.ro true (.ints .u8 rb), .int .i64 rp]] => optC (S.l20Net_t rb rp n_) (fun (r : (List Int) × Int × (List Int)) => κ (.own 1) [.cells [(.ro true (.ints .u8 r.1)), (.int .i64 r.2.1)], .row (.ints .i64 r.2.2)]) none
    | _, _ => none
theorem S.l20Net_ok : SpecOk Try.prog 20 S.l20Net_s := by
  refine SpecOk.of TDok mixed (T := S.l20Net_T) ?_ (ann := S.l20Net_ann) Try.func20 rfl (by decide +kernel) ?_ ?_ ?_ ?_
  · intro p hp
    simp only [S.l20Net_T, List.mem_cons, List.not_mem_nil, or_false] at hp
    rcases hp with rfl | rfl
    · exact S.l20Rd_pick_ok
    · exact S.l20Rd_odd_ok
  · intro args h κ r hh
    simp only [S.l20Net_s] at hh
    split at hh
    · exact (S.l20Net_den _ _ _ κ).trans hh
    · cases hh
  · intro args h κ r hh
    simp only [S.l20Net_s] at hh ⊢
    split at hh
    · exact optC_law2 (F := fun (r : (List Int) × Int × (List Int)) κ => κ (.own 1) [.cells [(.ro true (.ints .u8 r.1)), (.int .i64 r.2.1)], .row (.ints .i64 r.2.2)]) (fun b κ r hb => ⟨_, _, hb, fun _ => rfl⟩) hh
    · cases hh
  · intro hh; cases hh
  · intro hh; cases hh

-- loop.example/guardsonnets/spec.DrawNetText
noncomputable def S.DrawNetText_T : List (Nat × D.Spec) := [(21, S.l20Open_s), (20, S.l20Net_s)]
def S.DrawNetText_ann : Nat → List Nat × List Nat
  | _ => ([], [])
noncomputable def S.DrawNetText_F (args : List V) (h : List E) (κ : V → List E → R) : R := funC TD (tableK S.DrawNetText_T) S.DrawNetText_ann (drawAny TD (tableP S.DrawNetText_T)) FUEL Try.f7 args h κ
noncomputable def S.DrawNetText_tree {α : Type} (code : List Int) (leaf0_ : List Int → α) (fail_ : α) : α :=
  (optC (S.l20Open_t code) (fun c_1 => (optC (S.l20Net_t c_1.fst c_1.snd 9) (fun c_2 => (leaf0_ c_2.snd.snd)) fail_)) fail_)
theorem S.DrawNetText_tree_nat {α γ : Type} (g : α → γ) (code : List Int) (leaf0_ : List Int → α) (fail_ : α) : g (S.DrawNetText_tree code leaf0_ fail_) = S.DrawNetText_tree code (fun d => g (leaf0_ d)) (g fail_) := by
  unfold S.DrawNetText_tree; simp only [apply_cnd g, apply_optC g, apply_sumC g]
noncomputable def S.DrawNetText_t (code : List Int) : Option (List Int) := S.DrawNetText_tree code (fun d => some d) none
theorem S.DrawNetText_den (code : List Int) (κ : V → List E → R) : S.DrawNetText_F [.ro true (.ints .u8 code)] [] κ = optC (S.DrawNetText_t code) (fun (r : List Int) => κ (.own 0) [.row (.ints .i64 r)]) none := by
  have hu : S.DrawNetText_F [.ro true (.ints .u8 code)] [] κ = S.DrawNetText_tree code (fun d => κ (.own 0) [.row (.ints .i64 d)]) none := by
    kernel_rfl
  rw [hu]
  exact (S.DrawNetText_tree_nat (fun o => optC o (fun (r : List Int) => κ (.own 0) [.row (.ints .i64 r)]) none) code (fun d => some d) none).symm
noncomputable def S.DrawNetText_s : D.Spec where
  keep := true
  pure := false
  add := true
  ds := [.int .u8]
  sp := fun args h κ => match args, h with
    | [.ro true (.ints .u8 code)], [] => optC (S.DrawNetText_t code) (fun (r : List Int) => κ (.own 0) [.row (.ints .i64 r)]) none
    | _, _ => none
theorem S.DrawNetText_ok : SpecOk Try.prog 7 S.DrawNetText_s := by
  refine SpecOk.of TDok mixed (T := S.DrawNetText_T) ?_ (ann := S.DrawNetText_ann) Try.func7 rfl (by decide +kernel) ?_ ?_ ?_ ?_
  · intro p hp
    simp only [S.DrawNetText_T, List.mem_cons, List.not_mem_nil, or_false] at hp
    rcases hp with rfl | rfl
    · exact S.l20Open_ok
    · exact S.l20Net_ok
  · intro args h κ r hh
    simp only [S.DrawNetText_s] at hh
    split at hh
    · exact (S.DrawNetText_den _ κ).trans hh
    · cases hh
  · intro args h κ r hh
    simp only [S.DrawNetText_s] at hh ⊢
    split at hh
    · exact optC_law2 (F := fun (r : List Int) κ => κ (.own 0) [.row (.ints .i64 r)]) (fun b κ r hb => ⟨_, _, hb, fun _ => rfl⟩) hh
    · cases hh
  · intro hh; cases hh
  · intro _ args h κ r hh
    simp only [S.DrawNetText_s] at hh
    split at hh
    · rfl
    · cases hh

-- loop.example/guardsonnets/impl.setIn
noncomputable def I.setIn_T : List (Nat × D.Spec) := []
def I.setIn_ann : Nat → List Nat × List Nat
  | _ => ([], [])
noncomputable def I.setIn_F (args : List V) (h : List E) (κ : V → List E → R) : R := funC TD (tableK I.setIn_T) I.setIn_ann (drawAny TD (tableP I.setIn_T)) FUEL Try.f27 args h κ
noncomputable def I.setIn_tree {α : Type} (net : List Int) (set_ : Int) (leaf0_ : Bool → α) (fail_ : α) : α :=
  (bif decide (set_ ≥ 0) then (leaf0_ (decide (set_ < IntKind.i64.wrap (1 * 2 ^ min (↑net.length : Int).toNat IntKind.i64.bits)))) else (leaf0_ false))
theorem I.setIn_tree_nat {α γ : Type} (g : α → γ) (net : List Int) (set_ : Int) (leaf0_ : Bool → α) (fail_ : α) : g (I.setIn_tree net set_ leaf0_ fail_) = I.setIn_tree net set_ (fun d => g (leaf0_ d)) (g fail_) := by
  unfold I.setIn_tree; simp only [apply_cnd g, apply_optC g, apply_sumC g]
noncomputable def I.setIn_t (net : List Int) (set_ : Int) : Option (Bool) := I.setIn_tree net set_ (fun d => some d) none
theorem I.setIn_den (net : List Int) (set_ : Int) (κ : V → List E → R) : I.setIn_F [.ro false (.ints .i64 net), .int .i64 set_] [] κ = optC (I.setIn_t net set_) (fun (r : Bool) => κ (.bool r) []) none := by
  have hu : I.setIn_F [.ro false (.ints .i64 net), .int .i64 set_] [] κ = I.setIn_tree net set_ (fun d => κ (.bool d) []) none := by
    kernel_rfl
  rw [hu]
  exact (I.setIn_tree_nat (fun o => optC o (fun (r : Bool) => κ (.bool r) []) none) net set_ (fun d => some d) none).symm
noncomputable def I.setIn_s : D.Spec where
  keep := false
  pure := true
  add := true
  ds := [.int .i64, .invalid]
  sp := fun args h κ => match args, h with
    | [.ro false (.ints .i64 net), .int .i64 set_], [] => optC (I.setIn_t net set_) (fun (r : Bool) => κ (.bool r) []) none
    | _, _ => none
theorem I.setIn_ok : SpecOk Try.prog 27 I.setIn_s := by
  refine SpecOk.of TDok mixed (T := I.setIn_T) ?_ (ann := I.setIn_ann) Try.func27 rfl (by decide +kernel) ?_ ?_ ?_ ?_
  · intro p hp; cases hp
  · intro args h κ r hh
    simp only [I.setIn_s] at hh
    split at hh
    · exact (I.setIn_den _ _ κ).trans hh
    · cases hh
  · intro args h κ r hh
    simp only [I.setIn_s] at hh ⊢
    split at hh
    · exact optC_law2 (F := fun (r : Bool) κ => κ (.bool r) []) (fun b κ r hb => ⟨_, _, hb, fun _ => rfl⟩) hh
    · cases hh
  · intro _ args h κ r hh
    simp only [I.setIn_s] at hh
    split at hh
    · exact ⟨rfl, fun _ => rfl⟩
    · cases hh
  · intro _ args h κ r hh
    simp only [I.setIn_s] at hh
    split at hh
    · rfl
    · cases hh

-- loop.example/guardsonnets/impl.hasPlace
noncomputable def I.hasPlace_T : List (Nat × D.Spec) := []
def I.hasPlace_ann : Nat → List Nat × List Nat
  | _ => ([], [])
noncomputable def I.hasPlace_F (args : List V) (h : List E) (κ : V → List E → R) : R := funC TD (tableK I.hasPlace_T) I.hasPlace_ann (drawAny TD (tableP I.hasPlace_T)) FUEL Try.f28 args h κ
noncomputable def I.hasPlace_tree {α : Type} (set_ : Int) (place : Int) (leaf0_ : Bool → α) (fail_ : α) : α :=
  (bif decide (place < 0) then fail_ else (leaf0_ (bits BinOp.and IntKind.i64 (set_.fdiv (2 ^ min place.toNat IntKind.i64.bits)) 1 == 1)))
theorem I.hasPlace_tree_nat {α γ : Type} (g : α → γ) (set_ : Int) (place : Int) (leaf0_ : Bool → α) (fail_ : α) : g (I.hasPlace_tree set_ place leaf0_ fail_) = I.hasPlace_tree set_ place (fun d => g (leaf0_ d)) (g fail_) := by
  unfold I.hasPlace_tree; simp only [apply_cnd g, apply_optC g, apply_sumC g]
noncomputable def I.hasPlace_t (set_ : Int) (place : Int) : Option (Bool) := I.hasPlace_tree set_ place (fun d => some d) none
theorem I.hasPlace_den (set_ : Int) (place : Int) (κ : V → List E → R) : I.hasPlace_F [.int .i64 set_, .int .i64 place] [] κ = optC (I.hasPlace_t set_ place) (fun (r : Bool) => κ (.bool r) []) none := by
  have hu : I.hasPlace_F [.int .i64 set_, .int .i64 place] [] κ = I.hasPlace_tree set_ place (fun d => κ (.bool d) []) none := by
    kernel_rfl
  rw [hu]
  exact (I.hasPlace_tree_nat (fun o => optC o (fun (r : Bool) => κ (.bool r) []) none) set_ place (fun d => some d) none).symm
noncomputable def I.hasPlace_s : D.Spec where
  keep := false
  pure := true
  add := true
  ds := [.invalid, .invalid]
  sp := fun args h κ => match args, h with
    | [.int .i64 set_, .int .i64 place], [] => optC (I.hasPlace_t set_ place) (fun (r : Bool) => κ (.bool r) []) none
    | _, _ => none
theorem I.hasPlace_ok : SpecOk Try.prog 28 I.hasPlace_s := by
  refine SpecOk.of TDok mixed (T := I.hasPlace_T) ?_ (ann := I.hasPlace_ann) Try.func28 rfl (by decide +kernel) ?_ ?_ ?_ ?_
  · intro p hp; cases hp
  · intro args h κ r hh
    simp only [I.hasPlace_s] at hh
    split at hh
    · exact (I.hasPlace_den _ _ κ).trans hh
    · cases hh
  · intro args h κ r hh
    simp only [I.hasPlace_s] at hh ⊢
    split at hh
    · exact optC_law2 (F := fun (r : Bool) κ => κ (.bool r) []) (fun b κ r hb => ⟨_, _, hb, fun _ => rfl⟩) hh
    · cases hh
  · intro _ args h κ r hh
    simp only [I.hasPlace_s] at hh
    split at hh
    · exact ⟨rfl, fun _ => rfl⟩
    · cases hh
  · intro _ args h κ r hh
    simp only [I.hasPlace_s] at hh
    split at hh
    · rfl
    · cases hh

-- loop.example/guardsonnets/impl.knownBack
noncomputable def I.knownBack_T : List (Nat × D.Spec) := [(28, I.hasPlace_s)]
def I.knownBack_ann : Nat → List Nat × List Nat
  | 2 => ([0, 1, 5], [4])
  | _ => ([], [])
noncomputable def I.knownBack_F (args : List V) (h : List E) (κ : V → List E → R) : R := funC TD (tableK I.knownBack_T) I.knownBack_ann (drawAny TD (tableP I.knownBack_T)) FUEL Try.f29 args h κ
noncomputable def I.knownBack_L2 (n : Nat) (σ : St) (k : X → St → R) : R := iterC 0 (fun σ k => denC TD (tableK I.knownBack_T) I.knownBack_ann (drawAny TD (tableP I.knownBack_T)) 0 FUEL ((findLoop 2 (Try.f29.body.getD .skip)).getD .skip) σ k) [0, 1, 5] [4] n σ k
noncomputable def I.knownBack_k2 (κ : V → List E → R) : X → St → R := (afterC TD (tableK I.knownBack_T) I.knownBack_ann (drawAny TD (tableP I.knownBack_T)) 0 FUEL 2 (Try.f29.body.getD .skip) (finC TD 0 Try.f29 κ)).getD (fun _ _ => none)
noncomputable def I.knownBack_step2 {α : Type} (x0 : List Int) (x1 : Int) (x5 : Int) (next_ : Int → α) (out0_ : Bool → α) (out1_ : Unit → α) (fail_ : α) : α :=
  (bif decide (x5 < (↑x0.length : Int)) then (bif decide (0 ≤ x1) && decide (x1 < (↑x0.length : Int)) then (optC (I.hasPlace_t (eli x0 x1.toNat) x5) (fun c_1 => (bif c_1 then (bif decide (0 ≤ x5) && decide (x5 < (↑x0.length : Int)) then (optC (I.hasPlace_t (eli x0 x5.toNat) x1) (fun c_2 => (bif !c_2 then (out0_ false) else (next_ (IntKind.i64.wrap (x5 + 1))))) fail_) else fail_) else (next_ (IntKind.i64.wrap (x5 + 1))))) fail_) else fail_) else (out1_ ()))
theorem I.knownBack_step2_nat {α γ : Type} (g : α → γ) (x0 : List Int) (x1 : Int) (x5 : Int) (next_ : Int → α) (out0_ : Bool → α) (out1_ : Unit → α) (fail_ : α) : g (I.knownBack_step2 x0 x1 x5 next_ out0_ out1_ fail_) = I.knownBack_step2 x0 x1 x5 (fun s => g (next_ s)) (fun d => g (out0_ d)) (fun d => g (out1_ d)) (g fail_) := by
  unfold I.knownBack_step2; simp only [apply_cnd g, apply_optC g, apply_sumC g]
noncomputable def I.knownBack_run2 (x0 : List Int) (x1 : Int) : Nat → Int → Option ((Bool) ⊕ (Unit))
  | 0, _ => none
  | n + 1, s_ => I.knownBack_step2 x0 x1 s_ (I.knownBack_run2 x0 x1 n) (fun d => some ((Sum.inl d))) (fun d => some ((Sum.inr d))) none
theorem I.knownBack_L2_run (x0 : List Int) (x1 : Int) (n : Nat) (s_ : Int) (k : X → St → R) : I.knownBack_L2 n { n := 27, t := [(0, (.ro false (.ints .i64 x0))), (1, (.int .i64 x1)), (5, (.int .i64 s_))], h := [] } k = optC (I.knownBack_run2 x0 x1 n s_) (fun (r : (Bool) ⊕ (Unit)) => (sumC r (fun (r : Bool) => k (.ret) { n := 27, t := [(4, (.bool r))], h := [] }) (fun (r : Unit) => k (.exit 0) { n := 27, t := [(4, .junk)], h := [] }))) none := by
  induction n generalizing s_ with
  | zero => rfl
  | succ n ih =>
    have hu : I.knownBack_L2 (n + 1) { n := 27, t := [(0, (.ro false (.ints .i64 x0))), (1, (.int .i64 x1)), (5, (.int .i64 s_))], h := [] } k = I.knownBack_step2 x0 x1 s_ (fun s_ => I.knownBack_L2 n { n := 27, t := [(0, (.ro false (.ints .i64 x0))), (1, (.int .i64 x1)), (5, (.int .i64 s_))], h := [] } k) (fun d => k (.ret) { n := 27, t := [(4, (.bool d))], h := [] }) (fun d => k (.exit 0) { n := 27, t := [(4, .junk)], h := [] }) none := by
      kernel_rfl
    have hs : (fun s_ : Int => I.knownBack_L2 n { n := 27, t := [(0, (.ro false (.ints .i64 x0))), (1, (.int .i64 x1)), (5, (.int .i64 s_))], h := [] } k) = fun s_ => optC (I.knownBack_run2 x0 x1 n s_) (fun (r : (Bool) ⊕ (Unit)) => (sumC r (fun (r : Bool) => k (.ret) { n := 27, t := [(4, (.bool r))], h := [] }) (fun (r : Unit) => k (.exit 0) { n := 27, t := [(4, .junk)], h := [] }))) none := funext ih
    rw [hu, hs]
    exact (I.knownBack_step2_nat (fun o => optC o (fun (r : (Bool) ⊕ (Unit)) => (sumC r (fun (r : Bool) => k (.ret) { n := 27, t := [(4, (.bool r))], h := [] }) (fun (r : Unit) => k (.exit 0) { n := 27, t := [(4, .junk)], h := [] }))) none) x0 x1 s_ (I.knownBack_run2 x0 x1 n) (fun d => some ((Sum.inl d))) (fun d => some ((Sum.inr d))) none).symm
noncomputable def I.knownBack_tree {α : Type} (net : List Int) (place : Int) (leaf0_ : Bool → α) (fail_ : α) : α :=
  (optC (I.knownBack_run2 net place FUEL 0) (fun qy_3 => (sumC qy_3 (fun (qy_3 : Bool) => (leaf0_ qy_3)) (fun (qy_3 : Unit) => (leaf0_ true)))) fail_)
theorem I.knownBack_tree_nat {α γ : Type} (g : α → γ) (net : List Int) (place : Int) (leaf0_ : Bool → α) (fail_ : α) : g (I.knownBack_tree net place leaf0_ fail_) = I.knownBack_tree net place (fun d => g (leaf0_ d)) (g fail_) := by
  unfold I.knownBack_tree; simp only [apply_cnd g, apply_optC g, apply_sumC g]
noncomputable def I.knownBack_t (net : List Int) (place : Int) : Option (Bool) := I.knownBack_tree net place (fun d => some d) none
theorem I.knownBack_den (net : List Int) (place : Int) (κ : V → List E → R) : I.knownBack_F [.ro false (.ints .i64 net), .int .i64 place] [] κ = optC (I.knownBack_t net place) (fun (r : Bool) => κ (.bool r) []) none := by
  have hu : I.knownBack_F [.ro false (.ints .i64 net), .int .i64 place] [] κ = I.knownBack_tree net place (fun d => κ (.bool d) []) none := by
    refine Eq.trans (show I.knownBack_F [.ro false (.ints .i64 net), .int .i64 place] [] κ = (I.knownBack_L2 FUEL { n := 27, t := [(0, (.ro false (.ints .i64 net))), (1, (.int .i64 place)), (5, (.int .i64 0))], h := [] } (I.knownBack_k2 κ)) by kernel_rfl) ?_
    refine (I.knownBack_L2_run net place FUEL 0 (I.knownBack_k2 κ)).trans (optC_congr (fun qy_3 => ?_))
    rcases qy_3 with qy_3 | qy_3
    · kernel_rfl
    · kernel_rfl
  rw [hu]
  exact (I.knownBack_tree_nat (fun o => optC o (fun (r : Bool) => κ (.bool r) []) none) net place (fun d => some d) none).symm
noncomputable def I.knownBack_s : D.Spec where
  keep := false
  pure := true
  add := true
  ds := [.int .i64, .invalid]
  sp := fun args h κ => match args, h with
    | [.ro false (.ints .i64 net), .int .i64 place], [] => optC (I.knownBack_t net place) (fun (r : Bool) => κ (.bool r) []) none
    | _, _ => none
theorem I.knownBack_ok : SpecOk Try.prog 29 I.knownBack_s := by
  refine SpecOk.of TDok mixed (T := I.knownBack_T) ?_ (ann := I.knownBack_ann) Try.func29 rfl (by decide +kernel) ?_ ?_ ?_ ?_
  · intro p hp
    simp only [I.knownBack_T, List.mem_cons, List.not_mem_nil, or_false] at hp
    rcases hp with rfl
    · exact I.hasPlace_ok
  · intro args h κ r hh
    simp only [I.knownBack_s] at hh
    split at hh
    · exact (I.knownBack_den _ _ κ).trans hh
    · cases hh
  · intro args h κ r hh
    simp only [I.knownBack_s] at hh ⊢
    split at hh
    · exact optC_law2 (F := fun (r : Bool) κ => κ (.bool r) []) (fun b κ r hb => ⟨_, _, hb, fun _ => rfl⟩) hh
    · cases hh
  · intro _ args h κ r hh
    simp only [I.knownBack_s] at hh
    split at hh
    · exact ⟨rfl, fun _ => rfl⟩
    · cases hh
  · intro _ args h κ r hh
    simp only [I.knownBack_s] at hh
    split at hh
    · rfl
    · cases hh

-- loop.example/guardsonnets/impl.NetOk
noncomputable def I.NetOk_T : List (Nat × D.Spec) := [(27, I.setIn_s), (28, I.hasPlace_s), (29, I.knownBack_s)]
def I.NetOk_ann : Nat → List Nat × List Nat
  | 4 => ([0, 3], [2])
  | _ => ([], [])
noncomputable def I.NetOk_F (args : List V) (h : List E) (κ : V → List E → R) : R := funC TD (tableK I.NetOk_T) I.NetOk_ann (drawAny TD (tableP I.NetOk_T)) FUEL Try.f10 args h κ
noncomputable def I.NetOk_L4 (n : Nat) (σ : St) (k : X → St → R) : R := iterC 0 (fun σ k => denC TD (tableK I.NetOk_T) I.NetOk_ann (drawAny TD (tableP I.NetOk_T)) 0 FUEL ((findLoop 4 (Try.f10.body.getD .skip)).getD .skip) σ k) [0, 3] [2] n σ k
noncomputable def I.NetOk_k4 (κ : V → List E → R) : X → St → R := (afterC TD (tableK I.NetOk_T) I.NetOk_ann (drawAny TD (tableP I.NetOk_T)) 0 FUEL 4 (Try.f10.body.getD .skip) (finC TD 0 Try.f10 κ)).getD (fun _ _ => none)
noncomputable def I.NetOk_step4 {α : Type} (x0 : List Int) (x3 : Int) (next_ : Int → α) (out0_ : Bool → α) (out1_ : Unit → α) (fail_ : α) : α :=
  (bif decide (x3 < (↑x0.length : Int)) then (bif decide (0 ≤ x3) && decide (x3 < (↑x0.length : Int)) then (optC (I.setIn_t x0 (eli x0 x3.toNat)) (fun c_1 => (bif !c_1 then (out0_ false) else (bif decide (0 ≤ x3) && decide (x3 < (↑x0.length : Int)) then (optC (I.hasPlace_t (eli x0 x3.toNat) x3) (fun c_2 => (bif c_2 then (out0_ false) else (optC (I.knownBack_t x0 x3) (fun c_3 => (bif !c_3 then (out0_ false) else (next_ (IntKind.i64.wrap (x3 + 1))))) fail_))) fail_) else fail_))) fail_) else fail_) else (out1_ ()))
theorem I.NetOk_step4_nat {α γ : Type} (g : α → γ) (x0 : List Int) (x3 : Int) (next_ : Int → α) (out0_ : Bool → α) (out1_ : Unit → α) (fail_ : α) : g (I.NetOk_step4 x0 x3 next_ out0_ out1_ fail_) = I.NetOk_step4 x0 x3 (fun s => g (next_ s)) (fun d => g (out0_ d)) (fun d => g (out1_ d)) (g fail_) := by
  unfold I.NetOk_step4; simp only [apply_cnd g, apply_optC g, apply_sumC g]
noncomputable def I.NetOk_run4 (x0 : List Int) : Nat → Int → Option ((Bool) ⊕ (Unit))
  | 0, _ => none
  | n + 1, s_ => I.NetOk_step4 x0 s_ (I.NetOk_run4 x0 n) (fun d => some ((Sum.inl d))) (fun d => some ((Sum.inr d))) none
theorem I.NetOk_L4_run (x0 : List Int) (n : Nat) (s_ : Int) (k : X → St → R) : I.NetOk_L4 n { n := 39, t := [(0, (.ro false (.ints .i64 x0))), (3, (.int .i64 s_))], h := [] } k = optC (I.NetOk_run4 x0 n s_) (fun (r : (Bool) ⊕ (Unit)) => (sumC r (fun (r : Bool) => k (.ret) { n := 39, t := [(2, (.bool r))], h := [] }) (fun (r : Unit) => k (.exit 0) { n := 39, t := [(2, .junk)], h := [] }))) none := by
  induction n generalizing s_ with
  | zero => rfl
  | succ n ih =>
    have hu : I.NetOk_L4 (n + 1) { n := 39, t := [(0, (.ro false (.ints .i64 x0))), (3, (.int .i64 s_))], h := [] } k = I.NetOk_step4 x0 s_ (fun s_ => I.NetOk_L4 n { n := 39, t := [(0, (.ro false (.ints .i64 x0))), (3, (.int .i64 s_))], h := [] } k) (fun d => k (.ret) { n := 39, t := [(2, (.bool d))], h := [] }) (fun d => k (.exit 0) { n := 39, t := [(2, .junk)], h := [] }) none := by
      kernel_rfl
    have hs : (fun s_ : Int => I.NetOk_L4 n { n := 39, t := [(0, (.ro false (.ints .i64 x0))), (3, (.int .i64 s_))], h := [] } k) = fun s_ => optC (I.NetOk_run4 x0 n s_) (fun (r : (Bool) ⊕ (Unit)) => (sumC r (fun (r : Bool) => k (.ret) { n := 39, t := [(2, (.bool r))], h := [] }) (fun (r : Unit) => k (.exit 0) { n := 39, t := [(2, .junk)], h := [] }))) none := funext ih
    rw [hu, hs]
    exact (I.NetOk_step4_nat (fun o => optC o (fun (r : (Bool) ⊕ (Unit)) => (sumC r (fun (r : Bool) => k (.ret) { n := 39, t := [(2, (.bool r))], h := [] }) (fun (r : Unit) => k (.exit 0) { n := 39, t := [(2, .junk)], h := [] }))) none) x0 s_ (I.NetOk_run4 x0 n) (fun d => some ((Sum.inl d))) (fun d => some ((Sum.inr d))) none).symm
noncomputable def I.NetOk_tree {α : Type} (net : List Int) (leaf0_ : Bool → α) (fail_ : α) : α :=
  (bif decide ((↑net.length : Int) < 1) then (leaf0_ false) else (bif decide ((↑net.length : Int) > 6) then (leaf0_ false) else (optC (I.NetOk_run4 net FUEL 0) (fun qy_4 => (sumC qy_4 (fun (qy_4 : Bool) => (leaf0_ qy_4)) (fun (qy_4 : Unit) => (leaf0_ true)))) fail_)))
theorem I.NetOk_tree_nat {α γ : Type} (g : α → γ) (net : List Int) (leaf0_ : Bool → α) (fail_ : α) : g (I.NetOk_tree net leaf0_ fail_) = I.NetOk_tree net (fun d => g (leaf0_ d)) (g fail_) := by
  unfold I.NetOk_tree; simp only [apply_cnd g, apply_optC g, apply_sumC g]
noncomputable def I.NetOk_t (net : List Int) : Option (Bool) := I.NetOk_tree net (fun d => some d) none
theorem I.NetOk_den (net : List Int) (κ : V → List E → R) : I.NetOk_F [.ro false (.ints .i64 net)] [] κ = optC (I.NetOk_t net) (fun (r : Bool) => κ (.bool r) []) none := by
  have hu : I.NetOk_F [.ro false (.ints .i64 net)] [] κ = I.NetOk_tree net (fun d => κ (.bool d) []) none := by
    refine Eq.trans (show I.NetOk_F [.ro false (.ints .i64 net)] [] κ = (bif decide ((↑net.length : Int) < 1) then (κ (.bool false) []) else (bif decide ((↑net.length : Int) > 6) then (κ (.bool false) []) else (I.NetOk_L4 FUEL { n := 39, t := [(0, (.ro false (.ints .i64 net))), (3, (.int .i64 0))], h := [] } (I.NetOk_k4 κ)))) by kernel_rfl) ?_
    refine cnd_congr ?_ ?_
    · kernel_rfl
    · refine cnd_congr ?_ ?_
      · kernel_rfl
      · refine (I.NetOk_L4_run net FUEL 0 (I.NetOk_k4 κ)).trans (optC_congr (fun qy_4 => ?_))
        rcases qy_4 with qy_4 | qy_4
        · kernel_rfl
        · kernel_rfl
  rw [hu]
  exact (I.NetOk_tree_nat (fun o => optC o (fun (r : Bool) => κ (.bool r) []) none) net (fun d => some d) none).symm
noncomputable def I.NetOk_s : D.Spec where
  keep := false
  pure := true
  add := true
  ds := [.int .i64]
  sp := fun args h κ => match args, h with
    | [.ro false (.ints .i64 net)], [] => optC (I.NetOk_t net) (fun (r : Bool) => κ (.bool r) []) none
    | _, _ => none
theorem I.NetOk_ok : SpecOk Try.prog 10 I.NetOk_s := by
  refine SpecOk.of TDok mixed (T := I.NetOk_T) ?_ (ann := I.NetOk_ann) Try.func10 rfl (by decide +kernel) ?_ ?_ ?_ ?_
  · intro p hp
    simp only [I.NetOk_T, List.mem_cons, List.not_mem_nil, or_false] at hp
    rcases hp with rfl | rfl | rfl
    · exact I.setIn_ok
    · exact I.hasPlace_ok
    · exact I.knownBack_ok
  · intro args h κ r hh
    simp only [I.NetOk_s] at hh
    split at hh
    · exact (I.NetOk_den _ κ).trans hh
    · cases hh
  · intro args h κ r hh
    simp only [I.NetOk_s] at hh ⊢
    split at hh
    · exact optC_law2 (F := fun (r : Bool) κ => κ (.bool r) []) (fun b κ r hb => ⟨_, _, hb, fun _ => rfl⟩) hh
    · cases hh
  · intro _ args h κ r hh
    simp only [I.NetOk_s] at hh
    split at hh
    · exact ⟨rfl, fun _ => rfl⟩
    · cases hh
  · intro _ args h κ r hh
    simp only [I.NetOk_s] at hh
    split at hh
    · rfl
    · cases hh

-- loop.example/guardsonnets/impl.digitOf
noncomputable def I.digitOf_T : List (Nat × D.Spec) := []
def I.digitOf_ann : Nat → List Nat × List Nat
  | _ => ([], [])
noncomputable def I.digitOf_F (args : List V) (h : List E) (κ : V → List E → R) : R := funC TD (tableK I.digitOf_T) I.digitOf_ann (drawAny TD (tableP I.digitOf_T)) FUEL Try.f22 args h κ
noncomputable def I.digitOf_tree {α : Type} (number : Int) (leaf0_ : ByteArray → α) (fail_ : α) : α :=
  (leaf0_ (bytesOf [IntKind.u8.wrap (IntKind.i64.wrap (48 + number))]))
theorem I.digitOf_tree_nat {α γ : Type} (g : α → γ) (number : Int) (leaf0_ : ByteArray → α) (fail_ : α) : g (I.digitOf_tree number leaf0_ fail_) = I.digitOf_tree number (fun d => g (leaf0_ d)) (g fail_) := by
  unfold I.digitOf_tree; simp only [apply_cnd g, apply_optC g, apply_sumC g]
noncomputable def I.digitOf_t (number : Int) : Option (ByteArray) := I.digitOf_tree number (fun d => some d) none
theorem I.digitOf_den (number : Int) (κ : V → List E → R) : I.digitOf_F [.int .i64 number] [] κ = optC (I.digitOf_t number) (fun (r : ByteArray) => κ (.str r) []) none := by
  have hu : I.digitOf_F [.int .i64 number] [] κ = I.digitOf_tree number (fun d => κ (.str d) []) none := by
    kernel_rfl
  rw [hu]
  exact (I.digitOf_tree_nat (fun o => optC o (fun (r : ByteArray) => κ (.str r) []) none) number (fun d => some d) none).symm
noncomputable def I.digitOf_s : D.Spec where
  keep := false
  pure := true
  add := true
  ds := [.invalid]
  sp := fun args h κ => match args, h with
    | [.int .i64 number], [] => optC (I.digitOf_t number) (fun (r : ByteArray) => κ (.str r) []) none
    | _, _ => none
theorem I.digitOf_ok : SpecOk Try.prog 22 I.digitOf_s := by
  refine SpecOk.of TDok mixed (T := I.digitOf_T) ?_ (ann := I.digitOf_ann) Try.func22 rfl (by decide +kernel) ?_ ?_ ?_ ?_
  · intro p hp; cases hp
  · intro args h κ r hh
    simp only [I.digitOf_s] at hh
    split at hh
    · exact (I.digitOf_den _ κ).trans hh
    · cases hh
  · intro args h κ r hh
    simp only [I.digitOf_s] at hh ⊢
    split at hh
    · exact optC_law2 (F := fun (r : ByteArray) κ => κ (.str r) []) (fun b κ r hb => ⟨_, _, hb, fun _ => rfl⟩) hh
    · cases hh
  · intro _ args h κ r hh
    simp only [I.digitOf_s] at hh
    split at hh
    · exact ⟨rfl, fun _ => rfl⟩
    · cases hh
  · intro _ args h κ r hh
    simp only [I.digitOf_s] at hh
    split at hh
    · rfl
    · cases hh

-- loop.example/guardsonnets/impl.wiresIn
noncomputable def I.wiresIn_T : List (Nat × D.Spec) := [(28, I.hasPlace_s)]
def I.wiresIn_ann : Nat → List Nat × List Nat
  | 6 => ([0, 3, 4, 5], [0, 3, 4])
  | 3 => ([0, 3, 4], [3])
  | _ => ([], [])
noncomputable def I.wiresIn_F (args : List V) (h : List E) (κ : V → List E → R) : R := funC TD (tableK I.wiresIn_T) I.wiresIn_ann (drawAny TD (tableP I.wiresIn_T)) FUEL Try.f23 args h κ
noncomputable def I.wiresIn_L6 (n : Nat) (σ : St) (k : X → St → R) : R := iterC 0 (fun σ k => denC TD (tableK I.wiresIn_T) I.wiresIn_ann (drawAny TD (tableP I.wiresIn_T)) 0 FUEL ((findLoop 6 (Try.f23.body.getD .skip)).getD .skip) σ k) [0, 3, 4, 5] [0, 3, 4] n σ k
noncomputable def I.wiresIn_L3 (n : Nat) (σ : St) (k : X → St → R) : R := iterC 0 (fun σ k => denC TD (tableK I.wiresIn_T) I.wiresIn_ann (drawAny TD (tableP I.wiresIn_T)) 0 FUEL ((findLoop 3 (Try.f23.body.getD .skip)).getD .skip) σ k) [0, 3, 4] [3] n σ k
noncomputable def I.wiresIn_k6 (c : (St → R) × (X → St → R)) : X → St → R := (afterC TD (tableK I.wiresIn_T) I.wiresIn_ann (drawAny TD (tableP I.wiresIn_T)) 0 FUEL 6 ((findLoop 3 (Try.f23.body.getD .skip)).getD .skip) (roundC 0 [0, 3, 4] [3] c.1 c.2)).getD (fun _ _ => none)
noncomputable def I.wiresIn_k3 (κ : V → List E → R) : X → St → R := (afterC TD (tableK I.wiresIn_T) I.wiresIn_ann (drawAny TD (tableP I.wiresIn_T)) 0 FUEL 3 (Try.f23.body.getD .skip) (finC TD 0 Try.f23 κ)).getD (fun _ _ => none)
noncomputable def I.wiresIn_step6 {α : Type} (x0 : List Int) (x4 : Int) (x5 : Int) (r0 : List Int) (next_ : Int × (List Int) → α) (out0_ : List Int → α) (fail_ : α) : α :=
  (bif decide (x5 < (↑x0.length : Int)) then (bif decide (0 ≤ x4) && decide (x4 < (↑x0.length : Int)) then (optC (I.hasPlace_t (eli x0 x4.toNat) x5) (fun c_1 => (bif c_1 then (bif small (r0.length + [x4, x5].length) then (next_ (IntKind.i64.wrap (x5 + 1), r0 ++ [x4, x5])) else fail_) else (next_ (IntKind.i64.wrap (x5 + 1), r0)))) fail_) else fail_) else (out0_ r0))
theorem I.wiresIn_step6_nat {α γ : Type} (g : α → γ) (x0 : List Int) (x4 : Int) (x5 : Int) (r0 : List Int) (next_ : Int × (List Int) → α) (out0_ : List Int → α) (fail_ : α) : g (I.wiresIn_step6 x0 x4 x5 r0 next_ out0_ fail_) = I.wiresIn_step6 x0 x4 x5 r0 (fun s => g (next_ s)) (fun d => g (out0_ d)) (g fail_) := by
  unfold I.wiresIn_step6; simp only [apply_cnd g, apply_optC g, apply_sumC g]
noncomputable def I.wiresIn_run6 (x0 : List Int) (x4 : Int) : Nat → Int × (List Int) → Option (List Int)
  | 0, _ => none
  | n + 1, s_ => I.wiresIn_step6 x0 x4 s_.1 s_.2 (I.wiresIn_run6 x0 x4 n) (fun d => some d) none
theorem I.wiresIn_L6_run (x0 : List Int) (x4 : Int) (n : Nat) (s_ : Int × (List Int)) (k : X → St → R) : I.wiresIn_L6 n { n := 34, t := [(0, (.ro false (.ints .i64 x0))), (3, (.own 0)), (4, (.int .i64 x4)), (5, (.int .i64 s_.1))], h := [.recs 2 s_.2] } k = optC (I.wiresIn_run6 x0 x4 n s_) (fun (r : List Int) => k (.exit 2) { n := 34, t := [(0, (.ro false (.ints .i64 x0))), (3, (.own 0)), (4, (.int .i64 x4))], h := [.recs 2 r] }) none := by
  induction n generalizing s_ with
  | zero => rfl
  | succ n ih =>
    have hu : I.wiresIn_L6 (n + 1) { n := 34, t := [(0, (.ro false (.ints .i64 x0))), (3, (.own 0)), (4, (.int .i64 x4)), (5, (.int .i64 s_.1))], h := [.recs 2 s_.2] } k = I.wiresIn_step6 x0 x4 s_.1 s_.2 (fun s_ => I.wiresIn_L6 n { n := 34, t := [(0, (.ro false (.ints .i64 x0))), (3, (.own 0)), (4, (.int .i64 x4)), (5, (.int .i64 s_.1))], h := [.recs 2 s_.2] } k) (fun d => k (.exit 2) { n := 34, t := [(0, (.ro false (.ints .i64 x0))), (3, (.own 0)), (4, (.int .i64 x4))], h := [.recs 2 d] }) none := by
      kernel_rfl
    have hs : (fun s_ : Int × (List Int) => I.wiresIn_L6 n { n := 34, t := [(0, (.ro false (.ints .i64 x0))), (3, (.own 0)), (4, (.int .i64 x4)), (5, (.int .i64 s_.1))], h := [.recs 2 s_.2] } k) = fun s_ => optC (I.wiresIn_run6 x0 x4 n s_) (fun (r : List Int) => k (.exit 2) { n := 34, t := [(0, (.ro false (.ints .i64 x0))), (3, (.own 0)), (4, (.int .i64 x4))], h := [.recs 2 r] }) none := funext ih
    rw [hu, hs]
    exact (I.wiresIn_step6_nat (fun o => optC o (fun (r : List Int) => k (.exit 2) { n := 34, t := [(0, (.ro false (.ints .i64 x0))), (3, (.own 0)), (4, (.int .i64 x4))], h := [.recs 2 r] }) none) x0 x4 s_.1 s_.2 (I.wiresIn_run6 x0 x4 n) (fun d => some d) none).symm
noncomputable def I.wiresIn_step3 {α : Type} (x0 : List Int) (x4 : Int) (r0 : List Int) (next_ : Int × (List Int) → α) (out0_ : List Int → α) (fail_ : α) : α :=
  (bif decide (x4 < (↑x0.length : Int)) then (optC (I.wiresIn_run6 x0 x4 FUEL (IntKind.i64.wrap (x4 + 1), r0)) (fun qy_2 => (next_ (IntKind.i64.wrap (x4 + 1), qy_2))) fail_) else (out0_ r0))
theorem I.wiresIn_step3_nat {α γ : Type} (g : α → γ) (x0 : List Int) (x4 : Int) (r0 : List Int) (next_ : Int × (List Int) → α) (out0_ : List Int → α) (fail_ : α) : g (I.wiresIn_step3 x0 x4 r0 next_ out0_ fail_) = I.wiresIn_step3 x0 x4 r0 (fun s => g (next_ s)) (fun d => g (out0_ d)) (g fail_) := by
  unfold I.wiresIn_step3; simp only [apply_cnd g, apply_optC g, apply_sumC g]
noncomputable def I.wiresIn_run3 (x0 : List Int) : Nat → Int × (List Int) → Option (List Int)
  | 0, _ => none
  | n + 1, s_ => I.wiresIn_step3 x0 s_.1 s_.2 (I.wiresIn_run3 x0 n) (fun d => some d) none
theorem I.wiresIn_L3_run (x0 : List Int) (n : Nat) (s_ : Int × (List Int)) (k : X → St → R) : I.wiresIn_L3 n { n := 34, t := [(0, (.ro false (.ints .i64 x0))), (3, (.own 0)), (4, (.int .i64 s_.1))], h := [.recs 2 s_.2] } k = optC (I.wiresIn_run3 x0 n s_) (fun (r : List Int) => k (.exit 0) { n := 34, t := [(3, (.own 0))], h := [.recs 2 r] }) none := by
  induction n generalizing s_ with
  | zero => rfl
  | succ n ih =>
    have hu : I.wiresIn_L3 (n + 1) { n := 34, t := [(0, (.ro false (.ints .i64 x0))), (3, (.own 0)), (4, (.int .i64 s_.1))], h := [.recs 2 s_.2] } k = I.wiresIn_step3 x0 s_.1 s_.2 (fun s_ => I.wiresIn_L3 n { n := 34, t := [(0, (.ro false (.ints .i64 x0))), (3, (.own 0)), (4, (.int .i64 s_.1))], h := [.recs 2 s_.2] } k) (fun d => k (.exit 0) { n := 34, t := [(3, (.own 0))], h := [.recs 2 d] }) none := by
      refine Eq.trans (show I.wiresIn_L3 (n + 1) { n := 34, t := [(0, (.ro false (.ints .i64 x0))), (3, (.own 0)), (4, (.int .i64 s_.1))], h := [.recs 2 s_.2] } k = (bif decide (s_.1 < (↑x0.length : Int)) then (I.wiresIn_L6 FUEL { n := 34, t := [(0, (.ro false (.ints .i64 x0))), (3, (.own 0)), (4, (.int .i64 s_.1)), (5, (.int .i64 (IntKind.i64.wrap (s_.1 + 1))))], h := [.recs 2 s_.2] } (I.wiresIn_k6 ((fun σ => I.wiresIn_L3 n σ k), k))) else (k (.exit 0) { n := 34, t := [(3, (.own 0))], h := [.recs 2 s_.2] })) by kernel_rfl) ?_
      refine cnd_congr ?_ ?_
      · refine (I.wiresIn_L6_run x0 s_.1 FUEL (IntKind.i64.wrap (s_.1 + 1), s_.2) (I.wiresIn_k6 ((fun σ => I.wiresIn_L3 n σ k), k))).trans (optC_congr (fun qy_2 => ?_))
        kernel_rfl
      · kernel_rfl
    have hs : (fun s_ : Int × (List Int) => I.wiresIn_L3 n { n := 34, t := [(0, (.ro false (.ints .i64 x0))), (3, (.own 0)), (4, (.int .i64 s_.1))], h := [.recs 2 s_.2] } k) = fun s_ => optC (I.wiresIn_run3 x0 n s_) (fun (r : List Int) => k (.exit 0) { n := 34, t := [(3, (.own 0))], h := [.recs 2 r] }) none := funext ih
    rw [hu, hs]
    exact (I.wiresIn_step3_nat (fun o => optC o (fun (r : List Int) => k (.exit 0) { n := 34, t := [(3, (.own 0))], h := [.recs 2 r] }) none) x0 s_.1 s_.2 (I.wiresIn_run3 x0 n) (fun d => some d) none).symm
noncomputable def I.wiresIn_tree {α : Type} (net : List Int) (leaf0_ : List Int → α) (fail_ : α) : α :=
  (optC (I.wiresIn_run3 net FUEL (0, [])) (fun qy_3 => (leaf0_ qy_3)) fail_)
theorem I.wiresIn_tree_nat {α γ : Type} (g : α → γ) (net : List Int) (leaf0_ : List Int → α) (fail_ : α) : g (I.wiresIn_tree net leaf0_ fail_) = I.wiresIn_tree net (fun d => g (leaf0_ d)) (g fail_) := by
  unfold I.wiresIn_tree; simp only [apply_cnd g, apply_optC g, apply_sumC g]
noncomputable def I.wiresIn_t (net : List Int) : Option (List Int) := I.wiresIn_tree net (fun d => some d) none
theorem I.wiresIn_den (net : List Int) (κ : V → List E → R) : I.wiresIn_F [.ro false (.ints .i64 net)] [] κ = optC (I.wiresIn_t net) (fun (r : List Int) => κ (.own 0) [.recs 2 r]) none := by
  have hu : I.wiresIn_F [.ro false (.ints .i64 net)] [] κ = I.wiresIn_tree net (fun d => κ (.own 0) [.recs 2 d]) none := by
    refine Eq.trans (show I.wiresIn_F [.ro false (.ints .i64 net)] [] κ = (I.wiresIn_L3 FUEL { n := 34, t := [(0, (.ro false (.ints .i64 net))), (3, (.own 0)), (4, (.int .i64 0))], h := [.recs 2 ([])] } (I.wiresIn_k3 κ)) by kernel_rfl) ?_
    refine (I.wiresIn_L3_run net FUEL (0, []) (I.wiresIn_k3 κ)).trans (optC_congr (fun qy_3 => ?_))
    kernel_rfl
  rw [hu]
  exact (I.wiresIn_tree_nat (fun o => optC o (fun (r : List Int) => κ (.own 0) [.recs 2 r]) none) net (fun d => some d) none).symm
noncomputable def I.wiresIn_s : D.Spec where
  keep := false
  pure := false
  add := true
  ds := [.int .i64]
  sp := fun args h κ => match args, h with
    | [.ro false (.ints .i64 net)], [] => optC (I.wiresIn_t net) (fun (r : List Int) => κ (.own 0) [.recs 2 r]) none
    | _, _ => none
theorem I.wiresIn_ok : SpecOk Try.prog 23 I.wiresIn_s := by
  refine SpecOk.of TDok mixed (T := I.wiresIn_T) ?_ (ann := I.wiresIn_ann) Try.func23 rfl (by decide +kernel) ?_ ?_ ?_ ?_
  · intro p hp
    simp only [I.wiresIn_T, List.mem_cons, List.not_mem_nil, or_false] at hp
    rcases hp with rfl
    · exact I.hasPlace_ok
  · intro args h κ r hh
    simp only [I.wiresIn_s] at hh
    split at hh
    · exact (I.wiresIn_den _ κ).trans hh
    · cases hh
  · intro args h κ r hh
    simp only [I.wiresIn_s] at hh ⊢
    split at hh
    · exact optC_law2 (F := fun (r : List Int) κ => κ (.own 0) [.recs 2 r]) (fun b κ r hb => ⟨_, _, hb, fun _ => rfl⟩) hh
    · cases hh
  · intro hh; cases hh
  · intro _ args h κ r hh
    simp only [I.wiresIn_s] at hh
    split at hh
    · rfl
    · cases hh

-- loop.example/guardsonnets/impl.NetText
noncomputable def I.NetText_T : List (Nat × D.Spec) := [(10, I.NetOk_s), (22, I.digitOf_s), (23, I.wiresIn_s)]
def I.NetText_ann : Nat → List Nat × List Nat
  | 6 => ([3, 4, 5], [3])
  | _ => ([], [])
noncomputable def I.NetText_F (args : List V) (h : List E) (κ : V → List E → R) : R := funC TD (tableK I.NetText_T) I.NetText_ann (drawAny TD (tableP I.NetText_T)) FUEL Try.f8 args h κ
noncomputable def I.NetText_L6 (n : Nat) (σ : St) (k : X → St → R) : R := iterC 0 (fun σ k => denC TD (tableK I.NetText_T) I.NetText_ann (drawAny TD (tableP I.NetText_T)) 0 FUEL ((findLoop 6 (Try.f8.body.getD .skip)).getD .skip) σ k) [3, 4, 5] [3] n σ k
noncomputable def I.NetText_k6 (κ : V → List E → R) : X → St → R := (afterC TD (tableK I.NetText_T) I.NetText_ann (drawAny TD (tableP I.NetText_T)) 0 FUEL 6 (Try.f8.body.getD .skip) (finC TD 0 Try.f8 κ)).getD (fun _ _ => none)
noncomputable def I.NetText_step6 {α : Type} (x3 : ByteArray) (x5 : Int) (r0 : List Int) (next_ : ByteArray × Int × (List Int) → α) (out0_ : ByteArray → α) (fail_ : α) : α :=
  (bif decide (x5 < (↑(r0.length / 2) : Int)) then (bif decide (0 ≤ x5) && decide (x5 < (↑(r0.length / 2) : Int)) then (bif decide (x5.toNat * 2 + #[Field.mk "a" 3 0 false "" "loop.example/guardsonnets/impl" 0, Field.mk "b" 3 1 false "" "loop.example/guardsonnets/impl" 8][0].offset < r0.length) then (optC (I.digitOf_t (eli r0 (x5.toNat * 2 + #[Field.mk "a" 3 0 false "" "loop.example/guardsonnets/impl" 0, Field.mk "b" 3 1 false "" "loop.example/guardsonnets/impl" 8][0].offset))) (fun c_4 => (bif small ((ByteArray.mk #[32]).size + c_4.size) then (bif small ((ByteArray.mk #[32] ++ c_4).size + (ByteArray.mk #[45]).size) then (bif decide (0 ≤ x5) && decide (x5 < (↑(r0.length / 2) : Int)) then (bif decide (x5.toNat * 2 + #[Field.mk "a" 3 0 false "" "loop.example/guardsonnets/impl" 0, Field.mk "b" 3 1 false "" "loop.example/guardsonnets/impl" 8][1].offset < r0.length) then (optC (I.digitOf_t (eli r0 (x5.toNat * 2 + #[Field.mk "a" 3 0 false "" "loop.example/guardsonnets/impl" 0, Field.mk "b" 3 1 false "" "loop.example/guardsonnets/impl" 8][1].offset))) (fun c_5 => (bif small ((ByteArray.mk #[32] ++ c_4 ++ ByteArray.mk #[45]).size + c_5.size) then (bif small (x3.size + (ByteArray.mk #[32] ++ c_4 ++ ByteArray.mk #[45] ++ c_5).size) then (next_ (x3 ++ (ByteArray.mk #[32] ++ c_4 ++ ByteArray.mk #[45] ++ c_5), IntKind.i64.wrap (x5 + 1), r0)) else fail_) else fail_)) fail_) else fail_) else fail_) else fail_) else fail_)) fail_) else fail_) else fail_) else (out0_ x3))
theorem I.NetText_step6_nat {α γ : Type} (g : α → γ) (x3 : ByteArray) (x5 : Int) (r0 : List Int) (next_ : ByteArray × Int × (List Int) → α) (out0_ : ByteArray → α) (fail_ : α) : g (I.NetText_step6 x3 x5 r0 next_ out0_ fail_) = I.NetText_step6 x3 x5 r0 (fun s => g (next_ s)) (fun d => g (out0_ d)) (g fail_) := by
  unfold I.NetText_step6; simp only [apply_cnd g, apply_optC g, apply_sumC g]
noncomputable def I.NetText_run6 : Nat → ByteArray × Int × (List Int) → Option (ByteArray)
  | 0, _ => none
  | n + 1, s_ => I.NetText_step6 s_.1 s_.2.1 s_.2.2 (I.NetText_run6 n) (fun d => some d) none
theorem I.NetText_L6_run (n : Nat) (s_ : ByteArray × Int × (List Int)) (k : X → St → R) : I.NetText_L6 n { n := 38, t := [(3, (.str s_.1)), (4, (.own 0)), (5, (.int .i64 s_.2.1))], h := [.recs 2 s_.2.2] } k = optC (I.NetText_run6 n s_) (fun (r : ByteArray) => k (.exit 0) { n := 38, t := [(3, (.str r))], h := [] }) none := by
  induction n generalizing s_ with
  | zero => rfl
  | succ n ih =>
    have hu : I.NetText_L6 (n + 1) { n := 38, t := [(3, (.str s_.1)), (4, (.own 0)), (5, (.int .i64 s_.2.1))], h := [.recs 2 s_.2.2] } k = I.NetText_step6 s_.1 s_.2.1 s_.2.2 (fun s_ => I.NetText_L6 n { n := 38, t := [(3, (.str s_.1)), (4, (.own 0)), (5, (.int .i64 s_.2.1))], h := [.recs 2 s_.2.2] } k) (fun d => k (.exit 0) { n := 38, t := [(3, (.str d))], h := [] }) none := by
      kernel_rfl
    have hs : (fun s_ : ByteArray × Int × (List Int) => I.NetText_L6 n { n := 38, t := [(3, (.str s_.1)), (4, (.own 0)), (5, (.int .i64 s_.2.1))], h := [.recs 2 s_.2.2] } k) = fun s_ => optC (I.NetText_run6 n s_) (fun (r : ByteArray) => k (.exit 0) { n := 38, t := [(3, (.str r))], h := [] }) none := funext ih
    rw [hu, hs]
    exact (I.NetText_step6_nat (fun o => optC o (fun (r : ByteArray) => k (.exit 0) { n := 38, t := [(3, (.str r))], h := [] }) none) s_.1 s_.2.1 s_.2.2 (I.NetText_run6 n) (fun d => some d) none).symm
noncomputable def I.NetText_tree {α : Type} (net : List Int) (leaf0_ : ByteArray → α) (fail_ : α) : α :=
  (optC (I.NetOk_t net) (fun c_1 => (bif !c_1 then (leaf0_ (ByteArray.mk #[])) else (optC (I.digitOf_t (↑net.length : Int)) (fun c_2 => (optC (I.wiresIn_t net) (fun c_3 => (optC (I.NetText_run6 FUEL (c_2, 0, c_3)) (fun qy_6 => (leaf0_ qy_6)) fail_)) fail_)) fail_))) fail_)
theorem I.NetText_tree_nat {α γ : Type} (g : α → γ) (net : List Int) (leaf0_ : ByteArray → α) (fail_ : α) : g (I.NetText_tree net leaf0_ fail_) = I.NetText_tree net (fun d => g (leaf0_ d)) (g fail_) := by
  unfold I.NetText_tree; simp only [apply_cnd g, apply_optC g, apply_sumC g]
noncomputable def I.NetText_t (net : List Int) : Option (ByteArray) := I.NetText_tree net (fun d => some d) none
theorem I.NetText_den (net : List Int) (κ : V → List E → R) : I.NetText_F [.ro false (.ints .i64 net)] [] κ = optC (I.NetText_t net) (fun (r : ByteArray) => κ (.str r) []) none := by
  have hu : I.NetText_F [.ro false (.ints .i64 net)] [] κ = I.NetText_tree net (fun d => κ (.str d) []) none := by
    refine Eq.trans (show I.NetText_F [.ro false (.ints .i64 net)] [] κ = (optC (I.NetOk_t net) (fun c_1 => (bif !c_1 then (κ (.str (ByteArray.mk #[])) []) else (optC (I.digitOf_t (↑net.length : Int)) (fun c_2 => (optC (I.wiresIn_t net) (fun c_3 => (I.NetText_L6 FUEL { n := 38, t := [(3, (.str c_2)), (4, (.own 0)), (5, (.int .i64 0))], h := [.recs 2 c_3] } (I.NetText_k6 κ))) none)) none))) none) by kernel_rfl) ?_
    refine optC_congr (fun c_1 => ?_)
    refine cnd_congr ?_ ?_
    · kernel_rfl
    · refine optC_congr (fun c_2 => ?_)
      refine optC_congr (fun c_3 => ?_)
      refine (I.NetText_L6_run FUEL (c_2, 0, c_3) (I.NetText_k6 κ)).trans (optC_congr (fun qy_6 => ?_))
      kernel_rfl
  rw [hu]
  exact (I.NetText_tree_nat (fun o => optC o (fun (r : ByteArray) => κ (.str r) []) none) net (fun d => some d) none).symm
noncomputable def I.NetText_s : D.Spec where
  keep := false
  pure := true
  add := true
  ds := [.int .i64]
  sp := fun args h κ => match args, h with
    | [.ro false (.ints .i64 net)], [] => optC (I.NetText_t net) (fun (r : ByteArray) => κ (.str r) []) none
    | _, _ => none
theorem I.NetText_ok : SpecOk Try.prog 8 I.NetText_s := by
  refine SpecOk.of TDok mixed (T := I.NetText_T) ?_ (ann := I.NetText_ann) Try.func8 rfl (by decide +kernel) ?_ ?_ ?_ ?_
  · intro p hp
    simp only [I.NetText_T, List.mem_cons, List.not_mem_nil, or_false] at hp
    rcases hp with rfl | rfl | rfl
    · exact I.NetOk_ok
    · exact I.digitOf_ok
    · exact I.wiresIn_ok
  · intro args h κ r hh
    simp only [I.NetText_s] at hh
    split at hh
    · exact (I.NetText_den _ κ).trans hh
    · cases hh
  · intro args h κ r hh
    simp only [I.NetText_s] at hh ⊢
    split at hh
    · exact optC_law2 (F := fun (r : ByteArray) κ => κ (.str r) []) (fun b κ r hb => ⟨_, _, hb, fun _ => rfl⟩) hh
    · cases hh
  · intro _ args h κ r hh
    simp only [I.NetText_s] at hh
    split at hh
    · exact ⟨rfl, fun _ => rfl⟩
    · cases hh
  · intro _ args h κ r hh
    simp only [I.NetText_s] at hh
    split at hh
    · rfl
    · cases hh

-- loop.example/guardsonnets/spec.l1In
noncomputable def S.l1In_T : List (Nat × D.Spec) := []
def S.l1In_ann : Nat → List Nat × List Nat
  | _ => ([], [])
noncomputable def S.l1In_F (args : List V) (h : List E) (κ : V → List E → R) : R := funC TD (tableK S.l1In_T) S.l1In_ann (drawAny TD (tableP S.l1In_T)) FUEL Try.f35 args h κ
noncomputable def S.l1In_tree {α : Type} (n_ : Int) (low : Int) (high : Int) (leaf0_ : Bool → α) (fail_ : α) : α :=
  (bif decide (n_ ≥ low) then (leaf0_ (decide (n_ ≤ high))) else (leaf0_ false))
theorem S.l1In_tree_nat {α γ : Type} (g : α → γ) (n_ : Int) (low : Int) (high : Int) (leaf0_ : Bool → α) (fail_ : α) : g (S.l1In_tree n_ low high leaf0_ fail_) = S.l1In_tree n_ low high (fun d => g (leaf0_ d)) (g fail_) := by
  unfold S.l1In_tree; simp only [apply_cnd g, apply_optC g, apply_sumC g]
noncomputable def S.l1In_t (n_ : Int) (low : Int) (high : Int) : Option (Bool) := S.l1In_tree n_ low high (fun d => some d) none
theorem S.l1In_den (n_ : Int) (low : Int) (high : Int) (κ : V → List E → R) : S.l1In_F [.int .i64 n_, .int .i64 low, .int .i64 high] [] κ = optC (S.l1In_t n_ low high) (fun (r : Bool) => κ (.bool r) []) none := by
  have hu : S.l1In_F [.int .i64 n_, .int .i64 low, .int .i64 high] [] κ = S.l1In_tree n_ low high (fun d => κ (.bool d) []) none := by
    kernel_rfl
  rw [hu]
  exact (S.l1In_tree_nat (fun o => optC o (fun (r : Bool) => κ (.bool r) []) none) n_ low high (fun d => some d) none).symm
noncomputable def S.l1In_s : D.Spec where
  keep := false
  pure := true
  add := true
  ds := [.invalid, .invalid, .invalid]
  sp := fun args h κ => match args, h with
    | [.int .i64 n_, .int .i64 low, .int .i64 high], [] => optC (S.l1In_t n_ low high) (fun (r : Bool) => κ (.bool r) []) none
    | _, _ => none
theorem S.l1In_ok : SpecOk Try.prog 35 S.l1In_s := by
  refine SpecOk.of TDok mixed (T := S.l1In_T) ?_ (ann := S.l1In_ann) Try.func35 rfl (by decide +kernel) ?_ ?_ ?_ ?_
  · intro p hp; cases hp
  · intro args h κ r hh
    simp only [S.l1In_s] at hh
    split at hh
    · exact (S.l1In_den _ _ _ κ).trans hh
    · cases hh
  · intro args h κ r hh
    simp only [S.l1In_s] at hh ⊢
    split at hh
    · exact optC_law2 (F := fun (r : Bool) κ => κ (.bool r) []) (fun b κ r hb => ⟨_, _, hb, fun _ => rfl⟩) hh
    · cases hh
  · intro _ args h κ r hh
    simp only [S.l1In_s] at hh
    split at hh
    · exact ⟨rfl, fun _ => rfl⟩
    · cases hh
  · intro _ args h κ r hh
    simp only [S.l1In_s] at hh
    split at hh
    · rfl
    · cases hh

-- loop.example/guardsonnets/spec.NetOk
noncomputable def S.NetOk_T : List (Nat × D.Spec) := [(35, S.l1In_s)]
def S.NetOk_ann : Nat → List Nat × List Nat
  | 12 => ([0, 4, 5], [0, 2, 4])
  | 9 => ([0, 4], [2])
  | 4 => ([0, 3], [0, 2])
  | _ => ([], [])
noncomputable def S.NetOk_F (args : List V) (h : List E) (κ : V → List E → R) : R := funC TD (tableK S.NetOk_T) S.NetOk_ann (drawAny TD (tableP S.NetOk_T)) FUEL Try.f24 args h κ
noncomputable def S.NetOk_L12 (n : Nat) (σ : St) (k : X → St → R) : R := iterC 0 (fun σ k => denC TD (tableK S.NetOk_T) S.NetOk_ann (drawAny TD (tableP S.NetOk_T)) 0 FUEL ((findLoop 12 (Try.f24.body.getD .skip)).getD .skip) σ k) [0, 4, 5] [0, 2, 4] n σ k
noncomputable def S.NetOk_L9 (n : Nat) (σ : St) (k : X → St → R) : R := iterC 0 (fun σ k => denC TD (tableK S.NetOk_T) S.NetOk_ann (drawAny TD (tableP S.NetOk_T)) 0 FUEL ((findLoop 9 (Try.f24.body.getD .skip)).getD .skip) σ k) [0, 4] [2] n σ k
noncomputable def S.NetOk_L4 (n : Nat) (σ : St) (k : X → St → R) : R := iterC 0 (fun σ k => denC TD (tableK S.NetOk_T) S.NetOk_ann (drawAny TD (tableP S.NetOk_T)) 0 FUEL ((findLoop 4 (Try.f24.body.getD .skip)).getD .skip) σ k) [0, 3] [0, 2] n σ k
noncomputable def S.NetOk_k4 (κ : V → List E → R) : X → St → R := (afterC TD (tableK S.NetOk_T) S.NetOk_ann (drawAny TD (tableP S.NetOk_T)) 0 FUEL 4 (Try.f24.body.getD .skip) (finC TD 0 Try.f24 κ)).getD (fun _ _ => none)
noncomputable def S.NetOk_k12 (c : (St → R) × (X → St → R)) : X → St → R := (afterC TD (tableK S.NetOk_T) S.NetOk_ann (drawAny TD (tableP S.NetOk_T)) 0 FUEL 12 ((findLoop 9 (Try.f24.body.getD .skip)).getD .skip) (roundC 0 [0, 4] [2] c.1 c.2)).getD (fun _ _ => none)
noncomputable def S.NetOk_k9 (κ : V → List E → R) : X → St → R := (afterC TD (tableK S.NetOk_T) S.NetOk_ann (drawAny TD (tableP S.NetOk_T)) 0 FUEL 9 (Try.f24.body.getD .skip) (finC TD 0 Try.f24 κ)).getD (fun _ _ => none)
noncomputable def S.NetOk_step4 {α : Type} (x0 : List Int) (x3 : Int) (next_ : Int → α) (out0_ : Bool → α) (out1_ : Unit → α) (fail_ : α) : α :=
  (bif decide (x3 < (↑x0.length : Int)) then (bif decide (0 ≤ x3) && decide (x3 < (↑x0.length : Int)) then (optC (S.l1In_t (eli x0 x3.toNat) 0 (IntKind.i64.wrap (IntKind.i64.wrap (1 * 2 ^ min (↑x0.length : Int).toNat IntKind.i64.bits) - 1))) (fun c_2 => (bif !c_2 then (out0_ false) else (next_ (IntKind.i64.wrap (x3 + 1))))) fail_) else fail_) else (out1_ ()))
theorem S.NetOk_step4_nat {α γ : Type} (g : α → γ) (x0 : List Int) (x3 : Int) (next_ : Int → α) (out0_ : Bool → α) (out1_ : Unit → α) (fail_ : α) : g (S.NetOk_step4 x0 x3 next_ out0_ out1_ fail_) = S.NetOk_step4 x0 x3 (fun s => g (next_ s)) (fun d => g (out0_ d)) (fun d => g (out1_ d)) (g fail_) := by
  unfold S.NetOk_step4; simp only [apply_cnd g, apply_optC g, apply_sumC g]
noncomputable def S.NetOk_run4 (x0 : List Int) : Nat → Int → Option ((Bool) ⊕ (Unit))
  | 0, _ => none
  | n + 1, s_ => S.NetOk_step4 x0 s_ (S.NetOk_run4 x0 n) (fun d => some ((Sum.inl d))) (fun d => some ((Sum.inr d))) none
theorem S.NetOk_L4_run (x0 : List Int) (n : Nat) (s_ : Int) (k : X → St → R) : S.NetOk_L4 n { n := 68, t := [(0, (.ro false (.ints .i64 x0))), (3, (.int .i64 s_))], h := [] } k = optC (S.NetOk_run4 x0 n s_) (fun (r : (Bool) ⊕ (Unit)) => (sumC r (fun (r : Bool) => k (.ret) { n := 68, t := [(0, (.ro false (.ints .i64 x0))), (2, (.bool r))], h := [] }) (fun (r : Unit) => k (.exit 0) { n := 68, t := [(0, (.ro false (.ints .i64 x0))), (2, .junk)], h := [] }))) none := by
  induction n generalizing s_ with
  | zero => rfl
  | succ n ih =>
    have hu : S.NetOk_L4 (n + 1) { n := 68, t := [(0, (.ro false (.ints .i64 x0))), (3, (.int .i64 s_))], h := [] } k = S.NetOk_step4 x0 s_ (fun s_ => S.NetOk_L4 n { n := 68, t := [(0, (.ro false (.ints .i64 x0))), (3, (.int .i64 s_))], h := [] } k) (fun d => k (.ret) { n := 68, t := [(0, (.ro false (.ints .i64 x0))), (2, (.bool d))], h := [] }) (fun d => k (.exit 0) { n := 68, t := [(0, (.ro false (.ints .i64 x0))), (2, .junk)], h := [] }) none := by
      kernel_rfl
    have hs : (fun s_ : Int => S.NetOk_L4 n { n := 68, t := [(0, (.ro false (.ints .i64 x0))), (3, (.int .i64 s_))], h := [] } k) = fun s_ => optC (S.NetOk_run4 x0 n s_) (fun (r : (Bool) ⊕ (Unit)) => (sumC r (fun (r : Bool) => k (.ret) { n := 68, t := [(0, (.ro false (.ints .i64 x0))), (2, (.bool r))], h := [] }) (fun (r : Unit) => k (.exit 0) { n := 68, t := [(0, (.ro false (.ints .i64 x0))), (2, .junk)], h := [] }))) none := funext ih
    rw [hu, hs]
    exact (S.NetOk_step4_nat (fun o => optC o (fun (r : (Bool) ⊕ (Unit)) => (sumC r (fun (r : Bool) => k (.ret) { n := 68, t := [(0, (.ro false (.ints .i64 x0))), (2, (.bool r))], h := [] }) (fun (r : Unit) => k (.exit 0) { n := 68, t := [(0, (.ro false (.ints .i64 x0))), (2, .junk)], h := [] }))) none) x0 s_ (S.NetOk_run4 x0 n) (fun d => some ((Sum.inl d))) (fun d => some ((Sum.inr d))) none).symm
noncomputable def S.NetOk_step12 {α : Type} (x0 : List Int) (x4 : Int) (x5 : Int) (next_ : Int → α) (out0_ : Bool → α) (out1_ : Unit → α) (fail_ : α) : α :=
  (bif decide (x5 < (↑x0.length : Int)) then (bif decide (0 ≤ x4) && decide (x4 < (↑x0.length : Int)) then (bif decide (x5 < 0) then fail_ else (bif decide (0 ≤ x5) && decide (x5 < (↑x0.length : Int)) then (bif decide (x4 < 0) then fail_ else (bif !((eli x0 x4.toNat).fdiv (2 ^ min x5.toNat IntKind.i64.bits)).tmod 2 == ((eli x0 x5.toNat).fdiv (2 ^ min x4.toNat IntKind.i64.bits)).tmod 2 then (out0_ false) else (bif x5 == x4 then (bif decide (0 ≤ x4) && decide (x4 < (↑x0.length : Int)) then (bif decide (x5 < 0) then fail_ else (bif ((eli x0 x4.toNat).fdiv (2 ^ min x5.toNat IntKind.i64.bits)).tmod 2 == 1 then (out0_ false) else (next_ (IntKind.i64.wrap (x5 + 1))))) else fail_) else (next_ (IntKind.i64.wrap (x5 + 1)))))) else fail_)) else fail_) else (out1_ ()))
theorem S.NetOk_step12_nat {α γ : Type} (g : α → γ) (x0 : List Int) (x4 : Int) (x5 : Int) (next_ : Int → α) (out0_ : Bool → α) (out1_ : Unit → α) (fail_ : α) : g (S.NetOk_step12 x0 x4 x5 next_ out0_ out1_ fail_) = S.NetOk_step12 x0 x4 x5 (fun s => g (next_ s)) (fun d => g (out0_ d)) (fun d => g (out1_ d)) (g fail_) := by
  unfold S.NetOk_step12; simp only [apply_cnd g, apply_optC g, apply_sumC g]
noncomputable def S.NetOk_run12 (x0 : List Int) (x4 : Int) : Nat → Int → Option ((Bool) ⊕ (Unit))
  | 0, _ => none
  | n + 1, s_ => S.NetOk_step12 x0 x4 s_ (S.NetOk_run12 x0 x4 n) (fun d => some ((Sum.inl d))) (fun d => some ((Sum.inr d))) none
theorem S.NetOk_L12_run (x0 : List Int) (x4 : Int) (n : Nat) (s_ : Int) (k : X → St → R) : S.NetOk_L12 n { n := 68, t := [(0, (.ro false (.ints .i64 x0))), (4, (.int .i64 x4)), (5, (.int .i64 s_))], h := [] } k = optC (S.NetOk_run12 x0 x4 n s_) (fun (r : (Bool) ⊕ (Unit)) => (sumC r (fun (r : Bool) => k (.ret) { n := 68, t := [(0, (.ro false (.ints .i64 x0))), (2, (.bool r)), (4, (.int .i64 x4))], h := [] }) (fun (r : Unit) => k (.exit 4) { n := 68, t := [(0, (.ro false (.ints .i64 x0))), (2, .junk), (4, (.int .i64 x4))], h := [] }))) none := by
  induction n generalizing s_ with
  | zero => rfl
  | succ n ih =>
    have hu : S.NetOk_L12 (n + 1) { n := 68, t := [(0, (.ro false (.ints .i64 x0))), (4, (.int .i64 x4)), (5, (.int .i64 s_))], h := [] } k = S.NetOk_step12 x0 x4 s_ (fun s_ => S.NetOk_L12 n { n := 68, t := [(0, (.ro false (.ints .i64 x0))), (4, (.int .i64 x4)), (5, (.int .i64 s_))], h := [] } k) (fun d => k (.ret) { n := 68, t := [(0, (.ro false (.ints .i64 x0))), (2, (.bool d)), (4, (.int .i64 x4))], h := [] }) (fun d => k (.exit 4) { n := 68, t := [(0, (.ro false (.ints .i64 x0))), (2, .junk), (4, (.int .i64 x4))], h := [] }) none := by
      kernel_rfl
    have hs : (fun s_ : Int => S.NetOk_L12 n { n := 68, t := [(0, (.ro false (.ints .i64 x0))), (4, (.int .i64 x4)), (5, (.int .i64 s_))], h := [] } k) = fun s_ => optC (S.NetOk_run12 x0 x4 n s_) (fun (r : (Bool) ⊕ (Unit)) => (sumC r (fun (r : Bool) => k (.ret) { n := 68, t := [(0, (.ro false (.ints .i64 x0))), (2, (.bool r)), (4, (.int .i64 x4))], h := [] }) (fun (r : Unit) => k (.exit 4) { n := 68, t := [(0, (.ro false (.ints .i64 x0))), (2, .junk), (4, (.int .i64 x4))], h := [] }))) none := funext ih
    rw [hu, hs]
    exact (S.NetOk_step12_nat (fun o => optC o (fun (r : (Bool) ⊕ (Unit)) => (sumC r (fun (r : Bool) => k (.ret) { n := 68, t := [(0, (.ro false (.ints .i64 x0))), (2, (.bool r)), (4, (.int .i64 x4))], h := [] }) (fun (r : Unit) => k (.exit 4) { n := 68, t := [(0, (.ro false (.ints .i64 x0))), (2, .junk), (4, (.int .i64 x4))], h := [] }))) none) x0 x4 s_ (S.NetOk_run12 x0 x4 n) (fun d => some ((Sum.inl d))) (fun d => some ((Sum.inr d))) none).symm
noncomputable def S.NetOk_step9 {α : Type} (x0 : List Int) (x4 : Int) (next_ : Int → α) (out0_ : Bool → α) (out1_ : Unit → α) (fail_ : α) : α :=
  (bif decide (x4 < (↑x0.length : Int)) then (optC (S.NetOk_run12 x0 x4 FUEL 0) (fun qy_4 => (sumC qy_4 (fun (qy_4 : Bool) => (out0_ qy_4)) (fun (qy_4 : Unit) => (next_ (IntKind.i64.wrap (x4 + 1)))))) fail_) else (out1_ ()))
theorem S.NetOk_step9_nat {α γ : Type} (g : α → γ) (x0 : List Int) (x4 : Int) (next_ : Int → α) (out0_ : Bool → α) (out1_ : Unit → α) (fail_ : α) : g (S.NetOk_step9 x0 x4 next_ out0_ out1_ fail_) = S.NetOk_step9 x0 x4 (fun s => g (next_ s)) (fun d => g (out0_ d)) (fun d => g (out1_ d)) (g fail_) := by
  unfold S.NetOk_step9; simp only [apply_cnd g, apply_optC g, apply_sumC g]
noncomputable def S.NetOk_run9 (x0 : List Int) : Nat → Int → Option ((Bool) ⊕ (Unit))
  | 0, _ => none
  | n + 1, s_ => S.NetOk_step9 x0 s_ (S.NetOk_run9 x0 n) (fun d => some ((Sum.inl d))) (fun d => some ((Sum.inr d))) none
theorem S.NetOk_L9_run (x0 : List Int) (n : Nat) (s_ : Int) (k : X → St → R) : S.NetOk_L9 n { n := 68, t := [(0, (.ro false (.ints .i64 x0))), (4, (.int .i64 s_))], h := [] } k = optC (S.NetOk_run9 x0 n s_) (fun (r : (Bool) ⊕ (Unit)) => (sumC r (fun (r : Bool) => k (.ret) { n := 68, t := [(2, (.bool r))], h := [] }) (fun (r : Unit) => k (.exit 2) { n := 68, t := [(2, .junk)], h := [] }))) none := by
  induction n generalizing s_ with
  | zero => rfl
  | succ n ih =>
    have hu : S.NetOk_L9 (n + 1) { n := 68, t := [(0, (.ro false (.ints .i64 x0))), (4, (.int .i64 s_))], h := [] } k = S.NetOk_step9 x0 s_ (fun s_ => S.NetOk_L9 n { n := 68, t := [(0, (.ro false (.ints .i64 x0))), (4, (.int .i64 s_))], h := [] } k) (fun d => k (.ret) { n := 68, t := [(2, (.bool d))], h := [] }) (fun d => k (.exit 2) { n := 68, t := [(2, .junk)], h := [] }) none := by
      refine Eq.trans (show S.NetOk_L9 (n + 1) { n := 68, t := [(0, (.ro false (.ints .i64 x0))), (4, (.int .i64 s_))], h := [] } k = (bif decide (s_ < (↑x0.length : Int)) then (S.NetOk_L12 FUEL { n := 68, t := [(0, (.ro false (.ints .i64 x0))), (4, (.int .i64 s_)), (5, (.int .i64 0))], h := [] } (S.NetOk_k12 ((fun σ => S.NetOk_L9 n σ k), k))) else (k (.exit 2) { n := 68, t := [(2, .junk)], h := [] })) by kernel_rfl) ?_
      refine cnd_congr ?_ ?_
      · refine (S.NetOk_L12_run x0 s_ FUEL 0 (S.NetOk_k12 ((fun σ => S.NetOk_L9 n σ k), k))).trans (optC_congr (fun qy_4 => ?_))
        rcases qy_4 with qy_4 | qy_4
        · kernel_rfl
        · kernel_rfl
      · kernel_rfl
    have hs : (fun s_ : Int => S.NetOk_L9 n { n := 68, t := [(0, (.ro false (.ints .i64 x0))), (4, (.int .i64 s_))], h := [] } k) = fun s_ => optC (S.NetOk_run9 x0 n s_) (fun (r : (Bool) ⊕ (Unit)) => (sumC r (fun (r : Bool) => k (.ret) { n := 68, t := [(2, (.bool r))], h := [] }) (fun (r : Unit) => k (.exit 2) { n := 68, t := [(2, .junk)], h := [] }))) none := funext ih
    rw [hu, hs]
    exact (S.NetOk_step9_nat (fun o => optC o (fun (r : (Bool) ⊕ (Unit)) => (sumC r (fun (r : Bool) => k (.ret) { n := 68, t := [(2, (.bool r))], h := [] }) (fun (r : Unit) => k (.exit 2) { n := 68, t := [(2, .junk)], h := [] }))) none) x0 s_ (S.NetOk_run9 x0 n) (fun d => some ((Sum.inl d))) (fun d => some ((Sum.inr d))) none).symm
noncomputable def S.NetOk_tree {α : Type} (net : List Int) (leaf0_ : Bool → α) (fail_ : α) : α :=
  (optC (S.l1In_t (↑net.length : Int) 1 6) (fun c_1 => (bif !c_1 then (leaf0_ false) else (optC (S.NetOk_run4 net FUEL 0) (fun qy_3 => (sumC qy_3 (fun (qy_3 : Bool) => (leaf0_ qy_3)) (fun (qy_3 : Unit) => (optC (S.NetOk_run9 net FUEL 0) (fun qy_5 => (sumC qy_5 (fun (qy_5 : Bool) => (leaf0_ qy_5)) (fun (qy_5 : Unit) => (leaf0_ true)))) fail_)))) fail_))) fail_)
theorem S.NetOk_tree_nat {α γ : Type} (g : α → γ) (net : List Int) (leaf0_ : Bool → α) (fail_ : α) : g (S.NetOk_tree net leaf0_ fail_) = S.NetOk_tree net (fun d => g (leaf0_ d)) (g fail_) := by
  unfold S.NetOk_tree; simp only [apply_cnd g, apply_optC g, apply_sumC g]
noncomputable def S.NetOk_t (net : List Int) : Option (Bool) := S.NetOk_tree net (fun d => some d) none
theorem S.NetOk_den (net : List Int) (κ : V → List E → R) : S.NetOk_F [.ro false (.ints .i64 net)] [] κ = optC (S.NetOk_t net) (fun (r : Bool) => κ (.bool r) []) none := by
  have hu : S.NetOk_F [.ro false (.ints .i64 net)] [] κ = S.NetOk_tree net (fun d => κ (.bool d) []) none := by
    refine Eq.trans (show S.NetOk_F [.ro false (.ints .i64 net)] [] κ = (optC (S.l1In_t (↑net.length : Int) 1 6) (fun c_1 => (bif !c_1 then (κ (.bool false) []) else (S.NetOk_L4 FUEL { n := 68, t := [(0, (.ro false (.ints .i64 net))), (3, (.int .i64 0))], h := [] } (S.NetOk_k4 κ)))) none) by kernel_rfl) ?_
    refine optC_congr (fun c_1 => ?_)
    refine cnd_congr ?_ ?_
    · kernel_rfl
    · refine (S.NetOk_L4_run net FUEL 0 (S.NetOk_k4 κ)).trans (optC_congr (fun qy_3 => ?_))
      rcases qy_3 with qy_3 | qy_3
      · kernel_rfl
      · refine Eq.trans (show (S.NetOk_k4 κ (.exit 0) { n := 68, t := [(0, (.ro false (.ints .i64 net))), (2, .junk)], h := [] }) = (S.NetOk_L9 FUEL { n := 68, t := [(0, (.ro false (.ints .i64 net))), (4, (.int .i64 0))], h := [] } (S.NetOk_k9 κ)) by kernel_rfl) ?_
        refine (S.NetOk_L9_run net FUEL 0 (S.NetOk_k9 κ)).trans (optC_congr (fun qy_5 => ?_))
        rcases qy_5 with qy_5 | qy_5
        · kernel_rfl
        · kernel_rfl
  rw [hu]
  exact (S.NetOk_tree_nat (fun o => optC o (fun (r : Bool) => κ (.bool r) []) none) net (fun d => some d) none).symm
noncomputable def S.NetOk_s : D.Spec where
  keep := false
  pure := true
  add := true
  ds := [.int .i64]
  sp := fun args h κ => match args, h with
    | [.ro false (.ints .i64 net)], [] => optC (S.NetOk_t net) (fun (r : Bool) => κ (.bool r) []) none
    | _, _ => none
theorem S.NetOk_ok : SpecOk Try.prog 24 S.NetOk_s := by
  refine SpecOk.of TDok mixed (T := S.NetOk_T) ?_ (ann := S.NetOk_ann) Try.func24 rfl (by decide +kernel) ?_ ?_ ?_ ?_
  · intro p hp
    simp only [S.NetOk_T, List.mem_cons, List.not_mem_nil, or_false] at hp
    rcases hp with rfl
    · exact S.l1In_ok
  · intro args h κ r hh
    simp only [S.NetOk_s] at hh
    split at hh
    · exact (S.NetOk_den _ κ).trans hh
    · cases hh
  · intro args h κ r hh
    simp only [S.NetOk_s] at hh ⊢
    split at hh
    · exact optC_law2 (F := fun (r : Bool) κ => κ (.bool r) []) (fun b κ r hb => ⟨_, _, hb, fun _ => rfl⟩) hh
    · cases hh
  · intro _ args h κ r hh
    simp only [S.NetOk_s] at hh
    split at hh
    · exact ⟨rfl, fun _ => rfl⟩
    · cases hh
  · intro _ args h κ r hh
    simp only [S.NetOk_s] at hh
    split at hh
    · rfl
    · cases hh

-- loop.example/guardsonnets/spec.l1Number
class S.l1Number_r_R where
  r : Int → Option (ByteArray)
section
variable [c_ : S.l1Number_r_R]
noncomputable def S.l1Number_r0_t (n_ : Int) : Option (ByteArray) := S.l1Number_r_R.r n_
noncomputable def S.l1Number_r0_s : D.Spec where
  keep := false
  pure := true
  add := true
  ds := [.invalid]
  sp := fun args h κ => match args, h with
    | [.int .i64 n_], [] => optC (S.l1Number_r0_t n_) (fun (r : ByteArray) => κ (.str r) []) none
    | _, _ => none
end
section
variable [c_ : S.l1Number_r_R]
noncomputable def S.l1Number_r_T : List (Nat × D.Spec) := [(25, S.l1Number_r0_s)]
def S.l1Number_r_ann : Nat → List Nat × List Nat
  | _ => ([], [])
noncomputable def S.l1Number_r_F (args : List V) (h : List E) (κ : V → List E → R) : R := funC TD (tableK S.l1Number_r_T) S.l1Number_r_ann (drawAny TD (tableP S.l1Number_r_T)) FUEL Try.f25 args h κ
end
section
variable [c_ : S.l1Number_r_R]
noncomputable def S.l1Number_r_tree {α : Type} (n_ : Int) (leaf0_ : ByteArray → α) (fail_ : α) : α :=
  (bif decide (n_ < 10) then (leaf0_ (bytesOf [IntKind.u8.wrap (IntKind.i64.wrap (48 + if 0 > n_ then 0 else n_))])) else (optC (S.l1Number_r0_t (IntKind.i64.wrap (n_.tdiv 10))) (fun c_1 => (bif small (c_1.size + (bytesOf [IntKind.u8.wrap (IntKind.i64.wrap (48 + n_.tmod 10))]).size) then (leaf0_ (c_1 ++ bytesOf [IntKind.u8.wrap (IntKind.i64.wrap (48 + n_.tmod 10))])) else fail_)) fail_))
theorem S.l1Number_r_tree_nat {α γ : Type} (g : α → γ) (n_ : Int) (leaf0_ : ByteArray → α) (fail_ : α) : g (S.l1Number_r_tree n_ leaf0_ fail_) = S.l1Number_r_tree n_ (fun d => g (leaf0_ d)) (g fail_) := by
  unfold S.l1Number_r_tree; simp only [apply_cnd g, apply_optC g, apply_sumC g]
noncomputable def S.l1Number_r_t (n_ : Int) : Option (ByteArray) := S.l1Number_r_tree n_ (fun d => some d) none
theorem S.l1Number_r_den (n_ : Int) (κ : V → List E → R) : S.l1Number_r_F [.int .i64 n_] [] κ = optC (S.l1Number_r_t n_) (fun (r : ByteArray) => κ (.str r) []) none := by
  have hu : S.l1Number_r_F [.int .i64 n_] [] κ = S.l1Number_r_tree n_ (fun d => κ (.str d) []) none := by
    kernel_rfl
  rw [hu]
  exact (S.l1Number_r_tree_nat (fun o => optC o (fun (r : ByteArray) => κ (.str r) []) none) n_ (fun d => some d) none).symm
noncomputable def S.l1Number_r_s : D.Spec where
  keep := false
  pure := true
  add := true
  ds := [.invalid]
  sp := fun args h κ => match args, h with
    | [.int .i64 n_], [] => optC (S.l1Number_r_t n_) (fun (r : ByteArray) => κ (.str r) []) none
    | _, _ => none
theorem S.l1Number_r_ok (hrec_ : SpecOk Try.prog 25 S.l1Number_r0_s) : SpecOk Try.prog 25 S.l1Number_r_s := by
  refine SpecOk.of TDok mixed (T := S.l1Number_r_T) ?_ (ann := S.l1Number_r_ann) Try.func25 rfl (by decide +kernel) ?_ ?_ ?_ ?_
  · intro p hp
    simp only [S.l1Number_r_T, List.mem_cons, List.not_mem_nil, or_false] at hp
    rcases hp with rfl
    · exact hrec_
  · intro args h κ r hh
    simp only [S.l1Number_r_s] at hh
    split at hh
    · exact (S.l1Number_r_den _ κ).trans hh
    · cases hh
  · intro args h κ r hh
    simp only [S.l1Number_r_s] at hh ⊢
    split at hh
    · exact optC_law2 (F := fun (r : ByteArray) κ => κ (.str r) []) (fun b κ r hb => ⟨_, _, hb, fun _ => rfl⟩) hh
    · cases hh
  · intro _ args h κ r hh
    simp only [S.l1Number_r_s] at hh
    split at hh
    · exact ⟨rfl, fun _ => rfl⟩
    · cases hh
  · intro _ args h κ r hh
    simp only [S.l1Number_r_s] at hh
    split at hh
    · rfl
    · cases hh
end
noncomputable def S.l1Number_td : Nat → Int → Option (ByteArray)
  | 0 => fun _ => none
  | d + 1 => @S.l1Number_r_t ⟨S.l1Number_td d⟩
noncomputable def S.l1Number_t (n_ : Int) : Option (ByteArray) := S.l1Number_td FUEL n_
noncomputable def S.l1Number_s : D.Spec where
  keep := false
  pure := true
  add := true
  ds := [.invalid]
  sp := fun args h κ => match args, h with
    | [.int .i64 n_], [] => optC (S.l1Number_t n_) (fun (r : ByteArray) => κ (.str r) []) none
    | _, _ => none
theorem S.l1Number_okd : ∀ d : Nat, SpecOk Try.prog 25 (@S.l1Number_r0_s ⟨S.l1Number_td d⟩)
  | 0 => SpecOk.zero Try.func25 rfl (by decide +kernel) (fun args h κ => by
      simp only [S.l1Number_r0_s]
      split
      · rfl
      · rfl)
  | d + 1 => @S.l1Number_r_ok ⟨S.l1Number_td d⟩ (S.l1Number_okd d)
theorem S.l1Number_ok : SpecOk Try.prog 25 S.l1Number_s := S.l1Number_okd FUEL

-- loop.example/guardsonnets/spec.l6Wires
noncomputable def S.l6Wires_T : List (Nat × D.Spec) := []
def S.l6Wires_ann : Nat → List Nat × List Nat
  | 6 => ([0, 3, 4, 5], [0, 3, 4])
  | 3 => ([0, 3, 4], [3])
  | _ => ([], [])
noncomputable def S.l6Wires_F (args : List V) (h : List E) (κ : V → List E → R) : R := funC TD (tableK S.l6Wires_T) S.l6Wires_ann (drawAny TD (tableP S.l6Wires_T)) FUEL Try.f26 args h κ
noncomputable def S.l6Wires_L6 (n : Nat) (σ : St) (k : X → St → R) : R := iterC 0 (fun σ k => denC TD (tableK S.l6Wires_T) S.l6Wires_ann (drawAny TD (tableP S.l6Wires_T)) 0 FUEL ((findLoop 6 (Try.f26.body.getD .skip)).getD .skip) σ k) [0, 3, 4, 5] [0, 3, 4] n σ k
noncomputable def S.l6Wires_L3 (n : Nat) (σ : St) (k : X → St → R) : R := iterC 0 (fun σ k => denC TD (tableK S.l6Wires_T) S.l6Wires_ann (drawAny TD (tableP S.l6Wires_T)) 0 FUEL ((findLoop 3 (Try.f26.body.getD .skip)).getD .skip) σ k) [0, 3, 4] [3] n σ k
noncomputable def S.l6Wires_k6 (c : (St → R) × (X → St → R)) : X → St → R := (afterC TD (tableK S.l6Wires_T) S.l6Wires_ann (drawAny TD (tableP S.l6Wires_T)) 0 FUEL 6 ((findLoop 3 (Try.f26.body.getD .skip)).getD .skip) (roundC 0 [0, 3, 4] [3] c.1 c.2)).getD (fun _ _ => none)
noncomputable def S.l6Wires_k3 (κ : V → List E → R) : X → St → R := (afterC TD (tableK S.l6Wires_T) S.l6Wires_ann (drawAny TD (tableP S.l6Wires_T)) 0 FUEL 3 (Try.f26.body.getD .skip) (finC TD 0 Try.f26 κ)).getD (fun _ _ => none)
noncomputable def S.l6Wires_step6 {α : Type} (x0 : List Int) (x4 : Int) (x5 : Int) (r0 : List (List Int)) (next_ : Int × (List (List Int)) → α) (out0_ : List (List Int) → α) (fail_ : α) : α :=
  (bif decide (x5 < (↑x0.length : Int)) then (bif decide (0 ≤ x4) && decide (x4 < (↑x0.length : Int)) then (bif decide (x5 < 0) then fail_ else (bif ((eli x0 x4.toNat).fdiv (2 ^ min x5.toNat IntKind.i64.bits)).tmod 2 == 1 then (bif small (r0 ++ [[x4, x5]]).length then (next_ (IntKind.i64.wrap (x5 + 1), r0 ++ [[x4, x5]])) else fail_) else (next_ (IntKind.i64.wrap (x5 + 1), r0)))) else fail_) else (out0_ r0))
theorem S.l6Wires_step6_nat {α γ : Type} (g : α → γ) (x0 : List Int) (x4 : Int) (x5 : Int) (r0 : List (List Int)) (next_ : Int × (List (List Int)) → α) (out0_ : List (List Int) → α) (fail_ : α) : g (S.l6Wires_step6 x0 x4 x5 r0 next_ out0_ fail_) = S.l6Wires_step6 x0 x4 x5 r0 (fun s => g (next_ s)) (fun d => g (out0_ d)) (g fail_) := by
  unfold S.l6Wires_step6; simp only [apply_cnd g, apply_optC g, apply_sumC g]
noncomputable def S.l6Wires_run6 (x0 : List Int) (x4 : Int) : Nat → Int × (List (List Int)) → Option (List (List Int))
  | 0, _ => none
  | n + 1, s_ => S.l6Wires_step6 x0 x4 s_.1 s_.2 (S.l6Wires_run6 x0 x4 n) (fun d => some d) none
theorem S.l6Wires_L6_run (x0 : List Int) (x4 : Int) (n : Nat) (s_ : Int × (List (List Int))) (k : X → St → R) : S.l6Wires_L6 n { n := 36, t := [(0, (.ro false (.ints .i64 x0))), (3, (.own 0)), (4, (.int .i64 x4)), (5, (.int .i64 s_.1))], h := [.row (.rows s_.2)] } k = optC (S.l6Wires_run6 x0 x4 n s_) (fun (r : List (List Int)) => k (.exit 2) { n := 36, t := [(0, (.ro false (.ints .i64 x0))), (3, (.own 0)), (4, (.int .i64 x4))], h := [.row (.rows r)] }) none := by
  induction n generalizing s_ with
  | zero => rfl
  | succ n ih =>
    have hu : S.l6Wires_L6 (n + 1) { n := 36, t := [(0, (.ro false (.ints .i64 x0))), (3, (.own 0)), (4, (.int .i64 x4)), (5, (.int .i64 s_.1))], h := [.row (.rows s_.2)] } k = S.l6Wires_step6 x0 x4 s_.1 s_.2 (fun s_ => S.l6Wires_L6 n { n := 36, t := [(0, (.ro false (.ints .i64 x0))), (3, (.own 0)), (4, (.int .i64 x4)), (5, (.int .i64 s_.1))], h := [.row (.rows s_.2)] } k) (fun d => k (.exit 2) { n := 36, t := [(0, (.ro false (.ints .i64 x0))), (3, (.own 0)), (4, (.int .i64 x4))], h := [.row (.rows d)] }) none := by
      kernel_rfl
    have hs : (fun s_ : Int × (List (List Int)) => S.l6Wires_L6 n { n := 36, t := [(0, (.ro false (.ints .i64 x0))), (3, (.own 0)), (4, (.int .i64 x4)), (5, (.int .i64 s_.1))], h := [.row (.rows s_.2)] } k) = fun s_ => optC (S.l6Wires_run6 x0 x4 n s_) (fun (r : List (List Int)) => k (.exit 2) { n := 36, t := [(0, (.ro false (.ints .i64 x0))), (3, (.own 0)), (4, (.int .i64 x4))], h := [.row (.rows r)] }) none := funext ih
    rw [hu, hs]
    exact (S.l6Wires_step6_nat (fun o => optC o (fun (r : List (List Int)) => k (.exit 2) { n := 36, t := [(0, (.ro false (.ints .i64 x0))), (3, (.own 0)), (4, (.int .i64 x4))], h := [.row (.rows r)] }) none) x0 x4 s_.1 s_.2 (S.l6Wires_run6 x0 x4 n) (fun d => some d) none).symm
noncomputable def S.l6Wires_step3 {α : Type} (x0 : List Int) (x4 : Int) (r0 : List (List Int)) (next_ : Int × (List (List Int)) → α) (out0_ : List (List Int) → α) (fail_ : α) : α :=
  (bif decide (x4 < (↑x0.length : Int)) then (optC (S.l6Wires_run6 x0 x4 FUEL (IntKind.i64.wrap (x4 + 1), r0)) (fun qy_1 => (next_ (IntKind.i64.wrap (x4 + 1), qy_1))) fail_) else (out0_ r0))
theorem S.l6Wires_step3_nat {α γ : Type} (g : α → γ) (x0 : List Int) (x4 : Int) (r0 : List (List Int)) (next_ : Int × (List (List Int)) → α) (out0_ : List (List Int) → α) (fail_ : α) : g (S.l6Wires_step3 x0 x4 r0 next_ out0_ fail_) = S.l6Wires_step3 x0 x4 r0 (fun s => g (next_ s)) (fun d => g (out0_ d)) (g fail_) := by
  unfold S.l6Wires_step3; simp only [apply_cnd g, apply_optC g, apply_sumC g]
noncomputable def S.l6Wires_run3 (x0 : List Int) : Nat → Int × (List (List Int)) → Option (List (List Int))
  | 0, _ => none
  | n + 1, s_ => S.l6Wires_step3 x0 s_.1 s_.2 (S.l6Wires_run3 x0 n) (fun d => some d) none
theorem S.l6Wires_L3_run (x0 : List Int) (n : Nat) (s_ : Int × (List (List Int))) (k : X → St → R) : S.l6Wires_L3 n { n := 36, t := [(0, (.ro false (.ints .i64 x0))), (3, (.own 0)), (4, (.int .i64 s_.1))], h := [.row (.rows s_.2)] } k = optC (S.l6Wires_run3 x0 n s_) (fun (r : List (List Int)) => k (.exit 0) { n := 36, t := [(3, (.own 0))], h := [.row (.rows r)] }) none := by
  induction n generalizing s_ with
  | zero => rfl
  | succ n ih =>
    have hu : S.l6Wires_L3 (n + 1) { n := 36, t := [(0, (.ro false (.ints .i64 x0))), (3, (.own 0)), (4, (.int .i64 s_.1))], h := [.row (.rows s_.2)] } k = S.l6Wires_step3 x0 s_.1 s_.2 (fun s_ => S.l6Wires_L3 n { n := 36, t := [(0, (.ro false (.ints .i64 x0))), (3, (.own 0)), (4, (.int .i64 s_.1))], h := [.row (.rows s_.2)] } k) (fun d => k (.exit 0) { n := 36, t := [(3, (.own 0))], h := [.row (.rows d)] }) none := by
      refine Eq.trans (show S.l6Wires_L3 (n + 1) { n := 36, t := [(0, (.ro false (.ints .i64 x0))), (3, (.own 0)), (4, (.int .i64 s_.1))], h := [.row (.rows s_.2)] } k = (bif decide (s_.1 < (↑x0.length : Int)) then (S.l6Wires_L6 FUEL { n := 36, t := [(0, (.ro false (.ints .i64 x0))), (3, (.own 0)), (4, (.int .i64 s_.1)), (5, (.int .i64 (IntKind.i64.wrap (s_.1 + 1))))], h := [.row (.rows s_.2)] } (S.l6Wires_k6 ((fun σ => S.l6Wires_L3 n σ k), k))) else (k (.exit 0) { n := 36, t := [(3, (.own 0))], h := [.row (.rows s_.2)] })) by kernel_rfl) ?_
      refine cnd_congr ?_ ?_
      · refine (S.l6Wires_L6_run x0 s_.1 FUEL (IntKind.i64.wrap (s_.1 + 1), s_.2) (S.l6Wires_k6 ((fun σ => S.l6Wires_L3 n σ k), k))).trans (optC_congr (fun qy_1 => ?_))
        kernel_rfl
      · kernel_rfl
    have hs : (fun s_ : Int × (List (List Int)) => S.l6Wires_L3 n { n := 36, t := [(0, (.ro false (.ints .i64 x0))), (3, (.own 0)), (4, (.int .i64 s_.1))], h := [.row (.rows s_.2)] } k) = fun s_ => optC (S.l6Wires_run3 x0 n s_) (fun (r : List (List Int)) => k (.exit 0) { n := 36, t := [(3, (.own 0))], h := [.row (.rows r)] }) none := funext ih
    rw [hu, hs]
    exact (S.l6Wires_step3_nat (fun o => optC o (fun (r : List (List Int)) => k (.exit 0) { n := 36, t := [(3, (.own 0))], h := [.row (.rows r)] }) none) x0 s_.1 s_.2 (S.l6Wires_run3 x0 n) (fun d => some d) none).symm
noncomputable def S.l6Wires_tree {α : Type} (net : List Int) (leaf0_ : List (List Int) → α) (fail_ : α) : α :=
  (optC (S.l6Wires_run3 net FUEL (0, [])) (fun qy_2 => (leaf0_ qy_2)) fail_)
theorem S.l6Wires_tree_nat {α γ : Type} (g : α → γ) (net : List Int) (leaf0_ : List (List Int) → α) (fail_ : α) : g (S.l6Wires_tree net leaf0_ fail_) = S.l6Wires_tree net (fun d => g (leaf0_ d)) (g fail_) := by
  unfold S.l6Wires_tree; simp only [apply_cnd g, apply_optC g, apply_sumC g]
noncomputable def S.l6Wires_t (net : List Int) : Option (List (List Int)) := S.l6Wires_tree net (fun d => some d) none
theorem S.l6Wires_den (net : List Int) (κ : V → List E → R) : S.l6Wires_F [.ro false (.ints .i64 net)] [] κ = optC (S.l6Wires_t net) (fun (r : List (List Int)) => κ (.own 0) [.row (.rows r)]) none := by
  have hu : S.l6Wires_F [.ro false (.ints .i64 net)] [] κ = S.l6Wires_tree net (fun d => κ (.own 0) [.row (.rows d)]) none := by
    refine Eq.trans (show S.l6Wires_F [.ro false (.ints .i64 net)] [] κ = (S.l6Wires_L3 FUEL { n := 36, t := [(0, (.ro false (.ints .i64 net))), (3, (.own 0)), (4, (.int .i64 0))], h := [.row (.rows ([]))] } (S.l6Wires_k3 κ)) by kernel_rfl) ?_
    refine (S.l6Wires_L3_run net FUEL (0, []) (S.l6Wires_k3 κ)).trans (optC_congr (fun qy_2 => ?_))
    kernel_rfl
  rw [hu]
  exact (S.l6Wires_tree_nat (fun o => optC o (fun (r : List (List Int)) => κ (.own 0) [.row (.rows r)]) none) net (fun d => some d) none).symm
noncomputable def S.l6Wires_s : D.Spec where
  keep := false
  pure := false
  add := true
  ds := [.int .i64]
  sp := fun args h κ => match args, h with
    | [.ro false (.ints .i64 net)], [] => optC (S.l6Wires_t net) (fun (r : List (List Int)) => κ (.own 0) [.row (.rows r)]) none
    | _, _ => none
theorem S.l6Wires_ok : SpecOk Try.prog 26 S.l6Wires_s := by
  refine SpecOk.of TDok mixed (T := S.l6Wires_T) ?_ (ann := S.l6Wires_ann) Try.func26 rfl (by decide +kernel) ?_ ?_ ?_ ?_
  · intro p hp; cases hp
  · intro args h κ r hh
    simp only [S.l6Wires_s] at hh
    split at hh
    · exact (S.l6Wires_den _ κ).trans hh
    · cases hh
  · intro args h κ r hh
    simp only [S.l6Wires_s] at hh ⊢
    split at hh
    · exact optC_law2 (F := fun (r : List (List Int)) κ => κ (.own 0) [.row (.rows r)]) (fun b κ r hb => ⟨_, _, hb, fun _ => rfl⟩) hh
    · cases hh
  · intro hh; cases hh
  · intro _ args h κ r hh
    simp only [S.l6Wires_s] at hh
    split at hh
    · rfl
    · cases hh

-- loop.example/guardsonnets/spec.NetText
noncomputable def S.NetText_T : List (Nat × D.Spec) := [(24, S.NetOk_s), (25, S.l1Number_s), (26, S.l6Wires_s)]
def S.NetText_ann : Nat → List Nat × List Nat
  | 6 => ([3, 4, 5], [3])
  | _ => ([], [])
noncomputable def S.NetText_F (args : List V) (h : List E) (κ : V → List E → R) : R := funC TD (tableK S.NetText_T) S.NetText_ann (drawAny TD (tableP S.NetText_T)) FUEL Try.f9 args h κ
noncomputable def S.NetText_L6 (n : Nat) (σ : St) (k : X → St → R) : R := iterC 0 (fun σ k => denC TD (tableK S.NetText_T) S.NetText_ann (drawAny TD (tableP S.NetText_T)) 0 FUEL ((findLoop 6 (Try.f9.body.getD .skip)).getD .skip) σ k) [3, 4, 5] [3] n σ k
noncomputable def S.NetText_k6 (κ : V → List E → R) : X → St → R := (afterC TD (tableK S.NetText_T) S.NetText_ann (drawAny TD (tableP S.NetText_T)) 0 FUEL 6 (Try.f9.body.getD .skip) (finC TD 0 Try.f9 κ)).getD (fun _ _ => none)
noncomputable def S.NetText_step6 {α : Type} (x3 : ByteArray) (x5 : Int) (r0 : List (List Int)) (next_ : ByteArray × Int × (List (List Int)) → α) (out0_ : ByteArray → α) (fail_ : α) : α :=
  (bif decide (x5 < (↑r0.length : Int)) then (bif small (x3.size + (ByteArray.mk #[32]).size) then (bif decide (0 ≤ x5) && decide (x5 < (↑r0.length : Int)) then (bif decide (x5.toNat < r0.length) then (bif decide (0 < (↑(elr r0 x5.toNat).length : Int)) then (optC (S.l1Number_t (eli (elr r0 x5.toNat) (Int.toNat 0))) (fun c_4 => (bif small ((x3 ++ ByteArray.mk #[32]).size + c_4.size) then (bif small ((x3 ++ ByteArray.mk #[32] ++ c_4).size + (ByteArray.mk #[45]).size) then (bif decide (0 ≤ x5) && decide (x5 < (↑r0.length : Int)) then (bif decide (x5.toNat < r0.length) then (bif decide (1 < (↑(elr r0 x5.toNat).length : Int)) then (optC (S.l1Number_t (eli (elr r0 x5.toNat) (Int.toNat 1))) (fun c_5 => (bif small ((x3 ++ ByteArray.mk #[32] ++ c_4 ++ ByteArray.mk #[45]).size + c_5.size) then (next_ (x3 ++ ByteArray.mk #[32] ++ c_4 ++ ByteArray.mk #[45] ++ c_5, IntKind.i64.wrap (x5 + 1), r0)) else fail_)) fail_) else fail_) else fail_) else fail_) else fail_) else fail_)) fail_) else fail_) else fail_) else fail_) else fail_) else (out0_ x3))
theorem S.NetText_step6_nat {α γ : Type} (g : α → γ) (x3 : ByteArray) (x5 : Int) (r0 : List (List Int)) (next_ : ByteArray × Int × (List (List Int)) → α) (out0_ : ByteArray → α) (fail_ : α) : g (S.NetText_step6 x3 x5 r0 next_ out0_ fail_) = S.NetText_step6 x3 x5 r0 (fun s => g (next_ s)) (fun d => g (out0_ d)) (g fail_) := by
  unfold S.NetText_step6; simp only [apply_cnd g, apply_optC g, apply_sumC g]
noncomputable def S.NetText_run6 : Nat → ByteArray × Int × (List (List Int)) → Option (ByteArray)
  | 0, _ => none
  | n + 1, s_ => S.NetText_step6 s_.1 s_.2.1 s_.2.2 (S.NetText_run6 n) (fun d => some d) none
theorem S.NetText_L6_run (n : Nat) (s_ : ByteArray × Int × (List (List Int))) (k : X → St → R) : S.NetText_L6 n { n := 40, t := [(3, (.str s_.1)), (4, (.own 0)), (5, (.int .i64 s_.2.1))], h := [.row (.rows s_.2.2)] } k = optC (S.NetText_run6 n s_) (fun (r : ByteArray) => k (.exit 0) { n := 40, t := [(3, (.str r))], h := [] }) none := by
  induction n generalizing s_ with
  | zero => rfl
  | succ n ih =>
    have hu : S.NetText_L6 (n + 1) { n := 40, t := [(3, (.str s_.1)), (4, (.own 0)), (5, (.int .i64 s_.2.1))], h := [.row (.rows s_.2.2)] } k = S.NetText_step6 s_.1 s_.2.1 s_.2.2 (fun s_ => S.NetText_L6 n { n := 40, t := [(3, (.str s_.1)), (4, (.own 0)), (5, (.int .i64 s_.2.1))], h := [.row (.rows s_.2.2)] } k) (fun d => k (.exit 0) { n := 40, t := [(3, (.str d))], h := [] }) none := by
      kernel_rfl
    have hs : (fun s_ : ByteArray × Int × (List (List Int)) => S.NetText_L6 n { n := 40, t := [(3, (.str s_.1)), (4, (.own 0)), (5, (.int .i64 s_.2.1))], h := [.row (.rows s_.2.2)] } k) = fun s_ => optC (S.NetText_run6 n s_) (fun (r : ByteArray) => k (.exit 0) { n := 40, t := [(3, (.str r))], h := [] }) none := funext ih
    rw [hu, hs]
    exact (S.NetText_step6_nat (fun o => optC o (fun (r : ByteArray) => k (.exit 0) { n := 40, t := [(3, (.str r))], h := [] }) none) s_.1 s_.2.1 s_.2.2 (S.NetText_run6 n) (fun d => some d) none).symm
noncomputable def S.NetText_tree {α : Type} (net : List Int) (leaf0_ : ByteArray → α) (fail_ : α) : α :=
  (optC (S.NetOk_t net) (fun c_1 => (bif !c_1 then (leaf0_ (ByteArray.mk #[])) else (optC (S.l1Number_t (↑net.length : Int)) (fun c_2 => (optC (S.l6Wires_t net) (fun c_3 => (optC (S.NetText_run6 FUEL (c_2, 0, c_3)) (fun qy_6 => (leaf0_ qy_6)) fail_)) fail_)) fail_))) fail_)
theorem S.NetText_tree_nat {α γ : Type} (g : α → γ) (net : List Int) (leaf0_ : ByteArray → α) (fail_ : α) : g (S.NetText_tree net leaf0_ fail_) = S.NetText_tree net (fun d => g (leaf0_ d)) (g fail_) := by
  unfold S.NetText_tree; simp only [apply_cnd g, apply_optC g, apply_sumC g]
noncomputable def S.NetText_t (net : List Int) : Option (ByteArray) := S.NetText_tree net (fun d => some d) none
theorem S.NetText_den (net : List Int) (κ : V → List E → R) : S.NetText_F [.ro false (.ints .i64 net)] [] κ = optC (S.NetText_t net) (fun (r : ByteArray) => κ (.str r) []) none := by
  have hu : S.NetText_F [.ro false (.ints .i64 net)] [] κ = S.NetText_tree net (fun d => κ (.str d) []) none := by
    refine Eq.trans (show S.NetText_F [.ro false (.ints .i64 net)] [] κ = (optC (S.NetOk_t net) (fun c_1 => (bif !c_1 then (κ (.str (ByteArray.mk #[])) []) else (optC (S.l1Number_t (↑net.length : Int)) (fun c_2 => (optC (S.l6Wires_t net) (fun c_3 => (S.NetText_L6 FUEL { n := 40, t := [(3, (.str c_2)), (4, (.own 0)), (5, (.int .i64 0))], h := [.row (.rows c_3)] } (S.NetText_k6 κ))) none)) none))) none) by kernel_rfl) ?_
    refine optC_congr (fun c_1 => ?_)
    refine cnd_congr ?_ ?_
    · kernel_rfl
    · refine optC_congr (fun c_2 => ?_)
      refine optC_congr (fun c_3 => ?_)
      refine (S.NetText_L6_run FUEL (c_2, 0, c_3) (S.NetText_k6 κ)).trans (optC_congr (fun qy_6 => ?_))
      kernel_rfl
  rw [hu]
  exact (S.NetText_tree_nat (fun o => optC o (fun (r : ByteArray) => κ (.str r) []) none) net (fun d => some d) none).symm
noncomputable def S.NetText_s : D.Spec where
  keep := false
  pure := true
  add := true
  ds := [.int .i64]
  sp := fun args h κ => match args, h with
    | [.ro false (.ints .i64 net)], [] => optC (S.NetText_t net) (fun (r : ByteArray) => κ (.str r) []) none
    | _, _ => none
theorem S.NetText_ok : SpecOk Try.prog 9 S.NetText_s := by
  refine SpecOk.of TDok mixed (T := S.NetText_T) ?_ (ann := S.NetText_ann) Try.func9 rfl (by decide +kernel) ?_ ?_ ?_ ?_
  · intro p hp
    simp only [S.NetText_T, List.mem_cons, List.not_mem_nil, or_false] at hp
    rcases hp with rfl | rfl | rfl
    · exact S.NetOk_ok
    · exact S.l1Number_ok
    · exact S.l6Wires_ok
  · intro args h κ r hh
    simp only [S.NetText_s] at hh
    split at hh
    · exact (S.NetText_den _ κ).trans hh
    · cases hh
  · intro args h κ r hh
    simp only [S.NetText_s] at hh ⊢
    split at hh
    · exact optC_law2 (F := fun (r : ByteArray) κ => κ (.str r) []) (fun b κ r hb => ⟨_, _, hb, fun _ => rfl⟩) hh
    · cases hh
  · intro _ args h κ r hh
    simp only [S.NetText_s] at hh
    split at hh
    · exact ⟨rfl, fun _ => rfl⟩
    · cases hh
  · intro _ args h κ r hh
    simp only [S.NetText_s] at hh
    split at hh
    · rfl
    · cases hh

-- loop.example/guardsonnets/laws.alive
noncomputable def L.alive_T : List (Nat × D.Spec) := [(10, I.NetOk_s)]
def L.alive_ann : Nat → List Nat × List Nat
  | _ => ([], [])
noncomputable def L.alive_F (args : List V) (h : List E) (κ : V → List E → R) : R := funC TD (tableK L.alive_T) L.alive_ann (drawAny TD (tableP L.alive_T)) FUEL Try.f11 args h κ
noncomputable def L.alive_tree {α : Type} (leaf0_ : Bool → α) (fail_ : α) : α :=
  (optC (I.NetOk_t [2, 1]) (fun c_1 => (bif c_1 then (optC (I.NetOk_t [1]) (fun c_2 => (leaf0_ (!c_2))) fail_) else (leaf0_ false))) fail_)
theorem L.alive_tree_nat {α γ : Type} (g : α → γ) (leaf0_ : Bool → α) (fail_ : α) : g (L.alive_tree leaf0_ fail_) = L.alive_tree (fun d => g (leaf0_ d)) (g fail_) := by
  unfold L.alive_tree; simp only [apply_cnd g, apply_optC g, apply_sumC g]
noncomputable def L.alive_t : Option (Bool) := L.alive_tree (fun d => some d) none
theorem L.alive_den (κ : V → List E → R) : L.alive_F [] [] κ = optC (L.alive_t) (fun (r : Bool) => κ (.bool r) []) none := by
  have hu : L.alive_F [] [] κ = L.alive_tree (fun d => κ (.bool d) []) none := by
    kernel_rfl
  rw [hu]
  exact (L.alive_tree_nat (fun o => optC o (fun (r : Bool) => κ (.bool r) []) none) (fun d => some d) none).symm
noncomputable def L.alive_s : D.Spec where
  keep := false
  pure := true
  add := true
  ds := []
  sp := fun args h κ => match args, h with
    | [], [] => optC (L.alive_t) (fun (r : Bool) => κ (.bool r) []) none
    | _, _ => none
theorem L.alive_ok : SpecOk Try.prog 11 L.alive_s := by
  refine SpecOk.of TDok mixed (T := L.alive_T) ?_ (ann := L.alive_ann) Try.func11 rfl (by decide +kernel) ?_ ?_ ?_ ?_
  · intro p hp
    simp only [L.alive_T, List.mem_cons, List.not_mem_nil, or_false] at hp
    rcases hp with rfl
    · exact I.NetOk_ok
  · intro args h κ r hh
    simp only [L.alive_s] at hh
    split at hh
    · exact (L.alive_den κ).trans hh
    · cases hh
  · intro args h κ r hh
    simp only [L.alive_s] at hh ⊢
    split at hh
    · exact optC_law2 (F := fun (r : Bool) κ => κ (.bool r) []) (fun b κ r hb => ⟨_, _, hb, fun _ => rfl⟩) hh
    · cases hh
  · intro _ args h κ r hh
    simp only [L.alive_s] at hh
    split at hh
    · exact ⟨rfl, fun _ => rfl⟩
    · cases hh
  · intro _ args h κ r hh
    simp only [L.alive_s] at hh
    split at hh
    · rfl
    · cases hh

-- loop.example/guardsonnets/impl.wordsOf
noncomputable def I.wordsOf_T : List (Nat × D.Spec) := []
def I.wordsOf_ann : Nat → List Nat × List Nat
  | 4 => ([0, 3, 4, 5], [0, 3, 4])
  | _ => ([], [])
noncomputable def I.wordsOf_F (args : List V) (h : List E) (κ : V → List E → R) : R := funC TD (tableK I.wordsOf_T) I.wordsOf_ann (drawAny TD (tableP I.wordsOf_T)) FUEL Try.f31 args h κ
noncomputable def I.wordsOf_L4 (n : Nat) (σ : St) (k : X → St → R) : R := iterC 0 (fun σ k => denC TD (tableK I.wordsOf_T) I.wordsOf_ann (drawAny TD (tableP I.wordsOf_T)) 0 FUEL ((findLoop 4 (Try.f31.body.getD .skip)).getD .skip) σ k) [0, 3, 4, 5] [0, 3, 4] n σ k
noncomputable def I.wordsOf_k4 (κ : V → List E → R) : X → St → R := (afterC TD (tableK I.wordsOf_T) I.wordsOf_ann (drawAny TD (tableP I.wordsOf_T)) 0 FUEL 4 (Try.f31.body.getD .skip) (finC TD 0 Try.f31 κ)).getD (fun _ _ => none)
noncomputable def I.wordsOf_step4 {α : Type} (x0 : ByteArray) (x4 : Int) (x5 : Int) (r0 : List ByteArray) (next_ : Int × Int × (List ByteArray) → α) (out0_ : Int × (List ByteArray) → α) (fail_ : α) : α :=
  (bif decide (x5 < (↑x0.size : Int)) then (bif decide (0 ≤ x5) && decide (x5 < (↑x0.size : Int)) then (bif strAt x0 x5.toNat == 32 then (bif decide (0 ≤ x4) && decide (x4 ≤ x5) && decide (x5 ≤ (↑x0.size : Int)) then (bif small (r0 ++ [x0.extract x4.toNat (x4.toNat + (x5.toNat - x4.toNat))]).length then (next_ (IntKind.i64.wrap (x5 + 1), IntKind.i64.wrap (x5 + 1), r0 ++ [x0.extract x4.toNat (x4.toNat + (x5.toNat - x4.toNat))])) else fail_) else fail_) else (next_ (x4, IntKind.i64.wrap (x5 + 1), r0))) else fail_) else (out0_ (x4, r0)))
theorem I.wordsOf_step4_nat {α γ : Type} (g : α → γ) (x0 : ByteArray) (x4 : Int) (x5 : Int) (r0 : List ByteArray) (next_ : Int × Int × (List ByteArray) → α) (out0_ : Int × (List ByteArray) → α) (fail_ : α) : g (I.wordsOf_step4 x0 x4 x5 r0 next_ out0_ fail_) = I.wordsOf_step4 x0 x4 x5 r0 (fun s => g (next_ s)) (fun d => g (out0_ d)) (g fail_) := by
  unfold I.wordsOf_step4; simp only [apply_cnd g, apply_optC g, apply_sumC g]
noncomputable def I.wordsOf_run4 (x0 : ByteArray) : Nat → Int × Int × (List ByteArray) → Option (Int × (List ByteArray))
  | 0, _ => none
  | n + 1, s_ => I.wordsOf_step4 x0 s_.1 s_.2.1 s_.2.2 (I.wordsOf_run4 x0 n) (fun d => some d) none
theorem I.wordsOf_L4_run (x0 : ByteArray) (n : Nat) (s_ : Int × Int × (List ByteArray)) (k : X → St → R) : I.wordsOf_L4 n { n := 32, t := [(0, (.str x0)), (3, (.own 0)), (4, (.int .i64 s_.1)), (5, (.int .i64 s_.2.1))], h := [.row (.strs s_.2.2)] } k = optC (I.wordsOf_run4 x0 n s_) (fun (r : Int × (List ByteArray)) => k (.exit 0) { n := 32, t := [(0, (.str x0)), (3, (.own 0)), (4, (.int .i64 r.1))], h := [.row (.strs r.2)] }) none := by
  induction n generalizing s_ with
  | zero => rfl
  | succ n ih =>
    have hu : I.wordsOf_L4 (n + 1) { n := 32, t := [(0, (.str x0)), (3, (.own 0)), (4, (.int .i64 s_.1)), (5, (.int .i64 s_.2.1))], h := [.row (.strs s_.2.2)] } k = I.wordsOf_step4 x0 s_.1 s_.2.1 s_.2.2 (fun s_ => I.wordsOf_L4 n { n := 32, t := [(0, (.str x0)), (3, (.own 0)), (4, (.int .i64 s_.1)), (5, (.int .i64 s_.2.1))], h := [.row (.strs s_.2.2)] } k) (fun d => k (.exit 0) { n := 32, t := [(0, (.str x0)), (3, (.own 0)), (4, (.int .i64 d.1))], h := [.row (.strs d.2)] }) none := by
      kernel_rfl
    have hs : (fun s_ : Int × Int × (List ByteArray) => I.wordsOf_L4 n { n := 32, t := [(0, (.str x0)), (3, (.own 0)), (4, (.int .i64 s_.1)), (5, (.int .i64 s_.2.1))], h := [.row (.strs s_.2.2)] } k) = fun s_ => optC (I.wordsOf_run4 x0 n s_) (fun (r : Int × (List ByteArray)) => k (.exit 0) { n := 32, t := [(0, (.str x0)), (3, (.own 0)), (4, (.int .i64 r.1))], h := [.row (.strs r.2)] }) none := funext ih
    rw [hu, hs]
    exact (I.wordsOf_step4_nat (fun o => optC o (fun (r : Int × (List ByteArray)) => k (.exit 0) { n := 32, t := [(0, (.str x0)), (3, (.own 0)), (4, (.int .i64 r.1))], h := [.row (.strs r.2)] }) none) x0 s_.1 s_.2.1 s_.2.2 (I.wordsOf_run4 x0 n) (fun d => some d) none).symm
noncomputable def I.wordsOf_tree {α : Type} (s_ : ByteArray) (leaf0_ : List ByteArray → α) (fail_ : α) : α :=
  (optC (I.wordsOf_run4 s_ FUEL (0, 0, [])) (fun qy_1 => (bif decide (0 ≤ qy_1.1) && decide (qy_1.1 ≤ (↑s_.size : Int)) && decide ((↑s_.size : Int) ≤ (↑s_.size : Int)) then (bif small (qy_1.2 ++ [s_.extract qy_1.1.toNat (qy_1.1.toNat + (s_.size - qy_1.1.toNat))]).length then (leaf0_ (qy_1.2 ++ [s_.extract qy_1.1.toNat (qy_1.1.toNat + (s_.size - qy_1.1.toNat))])) else fail_) else fail_)) fail_)
theorem I.wordsOf_tree_nat {α γ : Type} (g : α → γ) (s_ : ByteArray) (leaf0_ : List ByteArray → α) (fail_ : α) : g (I.wordsOf_tree s_ leaf0_ fail_) = I.wordsOf_tree s_ (fun d => g (leaf0_ d)) (g fail_) := by
  unfold I.wordsOf_tree; simp only [apply_cnd g, apply_optC g, apply_sumC g]
noncomputable def I.wordsOf_t (s_ : ByteArray) : Option (List ByteArray) := I.wordsOf_tree s_ (fun d => some d) none
theorem I.wordsOf_den (s_ : ByteArray) (κ : V → List E → R) : I.wordsOf_F [.str s_] [] κ = optC (I.wordsOf_t s_) (fun (r : List ByteArray) => κ (.own 0) [.row (.strs r)]) none := by
  have hu : I.wordsOf_F [.str s_] [] κ = I.wordsOf_tree s_ (fun d => κ (.own 0) [.row (.strs d)]) none := by
    refine Eq.trans (show I.wordsOf_F [.str s_] [] κ = (I.wordsOf_L4 FUEL { n := 32, t := [(0, (.str s_)), (3, (.own 0)), (4, (.int .i64 0)), (5, (.int .i64 0))], h := [.row (.strs ([]))] } (I.wordsOf_k4 κ)) by kernel_rfl) ?_
    refine (I.wordsOf_L4_run s_ FUEL (0, 0, []) (I.wordsOf_k4 κ)).trans (optC_congr (fun qy_1 => ?_))
    kernel_rfl
  rw [hu]
  exact (I.wordsOf_tree_nat (fun o => optC o (fun (r : List ByteArray) => κ (.own 0) [.row (.strs r)]) none) s_ (fun d => some d) none).symm
noncomputable def I.wordsOf_s : D.Spec where
  keep := false
  pure := false
  add := true
  ds := [.invalid]
  sp := fun args h κ => match args, h with
    | [.str s_], [] => optC (I.wordsOf_t s_) (fun (r : List ByteArray) => κ (.own 0) [.row (.strs r)]) none
    | _, _ => none
theorem I.wordsOf_ok : SpecOk Try.prog 31 I.wordsOf_s := by
  refine SpecOk.of TDok mixed (T := I.wordsOf_T) ?_ (ann := I.wordsOf_ann) Try.func31 rfl (by decide +kernel) ?_ ?_ ?_ ?_
  · intro p hp; cases hp
  · intro args h κ r hh
    simp only [I.wordsOf_s] at hh
    split at hh
    · exact (I.wordsOf_den _ κ).trans hh
    · cases hh
  · intro args h κ r hh
    simp only [I.wordsOf_s] at hh ⊢
    split at hh
    · exact optC_law2 (F := fun (r : List ByteArray) κ => κ (.own 0) [.row (.strs r)]) (fun b κ r hb => ⟨_, _, hb, fun _ => rfl⟩) hh
    · cases hh
  · intro hh; cases hh
  · intro _ args h κ r hh
    simp only [I.wordsOf_s] at hh
    split at hh
    · rfl
    · cases hh

-- loop.example/guardsonnets/impl.digitAt
noncomputable def I.digitAt_T : List (Nat × D.Spec) := []
def I.digitAt_ann : Nat → List Nat × List Nat
  | _ => ([], [])
noncomputable def I.digitAt_F (args : List V) (h : List E) (κ : V → List E → R) : R := funC TD (tableK I.digitAt_T) I.digitAt_ann (drawAny TD (tableP I.digitAt_T)) FUEL Try.f38 args h κ
noncomputable def I.digitAt_tree {α : Type} (word : ByteArray) (at_ : Int) (leaf0_ : Int → α) (fail_ : α) : α :=
  (bif decide (at_ ≥ (↑word.size : Int)) then (leaf0_ (-1)) else (bif decide (0 ≤ at_) && decide (at_ < (↑word.size : Int)) then (bif decide (strAt word at_.toNat < 48) then (leaf0_ (-1)) else (bif decide (0 ≤ at_) && decide (at_ < (↑word.size : Int)) then (bif decide (strAt word at_.toNat > 57) then (leaf0_ (-1)) else (bif decide (0 ≤ at_) && decide (at_ < (↑word.size : Int)) then (leaf0_ (IntKind.i64.wrap (IntKind.u8.wrap (strAt word at_.toNat - 48)))) else fail_)) else fail_)) else fail_))
theorem I.digitAt_tree_nat {α γ : Type} (g : α → γ) (word : ByteArray) (at_ : Int) (leaf0_ : Int → α) (fail_ : α) : g (I.digitAt_tree word at_ leaf0_ fail_) = I.digitAt_tree word at_ (fun d => g (leaf0_ d)) (g fail_) := by
  unfold I.digitAt_tree; simp only [apply_cnd g, apply_optC g, apply_sumC g]
noncomputable def I.digitAt_t (word : ByteArray) (at_ : Int) : Option (Int) := I.digitAt_tree word at_ (fun d => some d) none
theorem I.digitAt_den (word : ByteArray) (at_ : Int) (κ : V → List E → R) : I.digitAt_F [.str word, .int .i64 at_] [] κ = optC (I.digitAt_t word at_) (fun (r : Int) => κ (.int .i64 r) []) none := by
  have hu : I.digitAt_F [.str word, .int .i64 at_] [] κ = I.digitAt_tree word at_ (fun d => κ (.int .i64 d) []) none := by
    kernel_rfl
  rw [hu]
  exact (I.digitAt_tree_nat (fun o => optC o (fun (r : Int) => κ (.int .i64 r) []) none) word at_ (fun d => some d) none).symm
noncomputable def I.digitAt_s : D.Spec where
  keep := false
  pure := true
  add := true
  ds := [.invalid, .invalid]
  sp := fun args h κ => match args, h with
    | [.str word, .int .i64 at_], [] => optC (I.digitAt_t word at_) (fun (r : Int) => κ (.int .i64 r) []) none
    | _, _ => none
theorem I.digitAt_ok : SpecOk Try.prog 38 I.digitAt_s := by
  refine SpecOk.of TDok mixed (T := I.digitAt_T) ?_ (ann := I.digitAt_ann) Try.func38 rfl (by decide +kernel) ?_ ?_ ?_ ?_
  · intro p hp; cases hp
  · intro args h κ r hh
    simp only [I.digitAt_s] at hh
    split at hh
    · exact (I.digitAt_den _ _ κ).trans hh
    · cases hh
  · intro args h κ r hh
    simp only [I.digitAt_s] at hh ⊢
    split at hh
    · exact optC_law2 (F := fun (r : Int) κ => κ (.int .i64 r) []) (fun b κ r hb => ⟨_, _, hb, fun _ => rfl⟩) hh
    · cases hh
  · intro _ args h κ r hh
    simp only [I.digitAt_s] at hh
    split at hh
    · exact ⟨rfl, fun _ => rfl⟩
    · cases hh
  · intro _ args h κ r hh
    simp only [I.digitAt_s] at hh
    split at hh
    · rfl
    · cases hh

-- loop.example/guardsonnets/impl.placeIn
noncomputable def I.placeIn_T : List (Nat × D.Spec) := []
def I.placeIn_ann : Nat → List Nat × List Nat
  | _ => ([], [])
noncomputable def I.placeIn_F (args : List V) (h : List E) (κ : V → List E → R) : R := funC TD (tableK I.placeIn_T) I.placeIn_ann (drawAny TD (tableP I.placeIn_T)) FUEL Try.f39 args h κ
noncomputable def I.placeIn_tree {α : Type} (net : List Int) (place : Int) (leaf0_ : Bool → α) (fail_ : α) : α :=
  (bif decide (place ≥ 0) then (leaf0_ (decide (place < (↑net.length : Int)))) else (leaf0_ false))
theorem I.placeIn_tree_nat {α γ : Type} (g : α → γ) (net : List Int) (place : Int) (leaf0_ : Bool → α) (fail_ : α) : g (I.placeIn_tree net place leaf0_ fail_) = I.placeIn_tree net place (fun d => g (leaf0_ d)) (g fail_) := by
  unfold I.placeIn_tree; simp only [apply_cnd g, apply_optC g, apply_sumC g]
noncomputable def I.placeIn_t (net : List Int) (place : Int) : Option (Bool) := I.placeIn_tree net place (fun d => some d) none
theorem I.placeIn_den (net : List Int) (place : Int) (κ : V → List E → R) : I.placeIn_F [.ro false (.ints .i64 net), .int .i64 place] [] κ = optC (I.placeIn_t net place) (fun (r : Bool) => κ (.bool r) []) none := by
  have hu : I.placeIn_F [.ro false (.ints .i64 net), .int .i64 place] [] κ = I.placeIn_tree net place (fun d => κ (.bool d) []) none := by
    kernel_rfl
  rw [hu]
  exact (I.placeIn_tree_nat (fun o => optC o (fun (r : Bool) => κ (.bool r) []) none) net place (fun d => some d) none).symm
noncomputable def I.placeIn_s : D.Spec where
  keep := false
  pure := true
  add := true
  ds := [.int .i64, .invalid]
  sp := fun args h κ => match args, h with
    | [.ro false (.ints .i64 net), .int .i64 place], [] => optC (I.placeIn_t net place) (fun (r : Bool) => κ (.bool r) []) none
    | _, _ => none
theorem I.placeIn_ok : SpecOk Try.prog 39 I.placeIn_s := by
  refine SpecOk.of TDok mixed (T := I.placeIn_T) ?_ (ann := I.placeIn_ann) Try.func39 rfl (by decide +kernel) ?_ ?_ ?_ ?_
  · intro p hp; cases hp
  · intro args h κ r hh
    simp only [I.placeIn_s] at hh
    split at hh
    · exact (I.placeIn_den _ _ κ).trans hh
    · cases hh
  · intro args h κ r hh
    simp only [I.placeIn_s] at hh ⊢
    split at hh
    · exact optC_law2 (F := fun (r : Bool) κ => κ (.bool r) []) (fun b κ r hb => ⟨_, _, hb, fun _ => rfl⟩) hh
    · cases hh
  · intro _ args h κ r hh
    simp only [I.placeIn_s] at hh
    split at hh
    · exact ⟨rfl, fun _ => rfl⟩
    · cases hh
  · intro _ args h κ r hh
    simp only [I.placeIn_s] at hh
    split at hh
    · rfl
    · cases hh

-- loop.example/guardsonnets/impl.with
noncomputable def I.with_T : List (Nat × D.Spec) := []
def I.with_ann : Nat → List Nat × List Nat
  | _ => ([], [])
noncomputable def I.with_F (args : List V) (h : List E) (κ : V → List E → R) : R := funC TD (tableK I.with_T) I.with_ann (drawAny TD (tableP I.with_T)) FUEL Try.f41 args h κ
noncomputable def I.with_tree {α : Type} (set_ : Int) (place : Int) (leaf0_ : Int → α) (fail_ : α) : α :=
  (bif decide (place < 0) then fail_ else (leaf0_ (bits BinOp.or IntKind.i64 set_ (IntKind.i64.wrap (1 * 2 ^ min place.toNat IntKind.i64.bits)))))
theorem I.with_tree_nat {α γ : Type} (g : α → γ) (set_ : Int) (place : Int) (leaf0_ : Int → α) (fail_ : α) : g (I.with_tree set_ place leaf0_ fail_) = I.with_tree set_ place (fun d => g (leaf0_ d)) (g fail_) := by
  unfold I.with_tree; simp only [apply_cnd g, apply_optC g, apply_sumC g]
noncomputable def I.with_t (set_ : Int) (place : Int) : Option (Int) := I.with_tree set_ place (fun d => some d) none
theorem I.with_den (set_ : Int) (place : Int) (κ : V → List E → R) : I.with_F [.int .i64 set_, .int .i64 place] [] κ = optC (I.with_t set_ place) (fun (r : Int) => κ (.int .i64 r) []) none := by
  have hu : I.with_F [.int .i64 set_, .int .i64 place] [] κ = I.with_tree set_ place (fun d => κ (.int .i64 d) []) none := by
    kernel_rfl
  rw [hu]
  exact (I.with_tree_nat (fun o => optC o (fun (r : Int) => κ (.int .i64 r) []) none) set_ place (fun d => some d) none).symm
noncomputable def I.with_s : D.Spec where
  keep := false
  pure := true
  add := true
  ds := [.invalid, .invalid]
  sp := fun args h κ => match args, h with
    | [.int .i64 set_, .int .i64 place], [] => optC (I.with_t set_ place) (fun (r : Int) => κ (.int .i64 r) []) none
    | _, _ => none
theorem I.with_ok : SpecOk Try.prog 41 I.with_s := by
  refine SpecOk.of TDok mixed (T := I.with_T) ?_ (ann := I.with_ann) Try.func41 rfl (by decide +kernel) ?_ ?_ ?_ ?_
  · intro p hp; cases hp
  · intro args h κ r hh
    simp only [I.with_s] at hh
    split at hh
    · exact (I.with_den _ _ κ).trans hh
    · cases hh
  · intro args h κ r hh
    simp only [I.with_s] at hh ⊢
    split at hh
    · exact optC_law2 (F := fun (r : Int) κ => κ (.int .i64 r) []) (fun b κ r hb => ⟨_, _, hb, fun _ => rfl⟩) hh
    · cases hh
  · intro _ args h κ r hh
    simp only [I.with_s] at hh
    split at hh
    · exact ⟨rfl, fun _ => rfl⟩
    · cases hh
  · intro _ args h κ r hh
    simp only [I.with_s] at hh
    split at hh
    · rfl
    · cases hh

-- loop.example/guardsonnets/impl.joinedBy
noncomputable def I.joinedBy_T : List (Nat × D.Spec) := [(41, I.with_s)]
def I.joinedBy_ann : Nat → List Nat × List Nat
  | _ => ([], [])
noncomputable def I.joinedBy_F (args : List V) (h : List E) (κ : V → List E → R) : R := funC TD (tableK I.joinedBy_T) I.joinedBy_ann (drawAny TD (tableP I.joinedBy_T)) FUEL Try.f40 args h κ
noncomputable def I.joinedBy_tree {α : Type} (net : List Int) (one0 : Int) (one1 : Int) (leaf0_ : List Int → α) (fail_ : α) : α :=
  (bif small ([] ++ net).length then (bif decide (0 ≤ one0) && decide (one0 < (↑([] ++ net).length : Int)) then (bif decide (one0.toNat < ([] ++ net).length) then (optC (I.with_t (eli ([] ++ net) one0.toNat) one1) (fun c_1 => (bif decide (0 ≤ one0) && decide (one0 < (↑([] ++ net).length : Int)) then (bif decide (one0.toNat < ([] ++ net).length) then (bif decide (0 ≤ one1) && decide (one1 < (↑(([] ++ net).set one0.toNat c_1).length : Int)) then (bif decide (one1.toNat < (([] ++ net).set one0.toNat c_1).length) then (optC (I.with_t (eli (([] ++ net).set one0.toNat c_1) one1.toNat) one0) (fun c_2 => (bif decide (0 ≤ one1) && decide (one1 < (↑(([] ++ net).set one0.toNat c_1).length : Int)) then (bif decide (one1.toNat < (([] ++ net).set one0.toNat c_1).length) then (leaf0_ ((([] ++ net).set one0.toNat c_1).set one1.toNat c_2)) else fail_) else fail_)) fail_) else fail_) else fail_) else fail_) else fail_)) fail_) else fail_) else fail_) else fail_)
theorem I.joinedBy_tree_nat {α γ : Type} (g : α → γ) (net : List Int) (one0 : Int) (one1 : Int) (leaf0_ : List Int → α) (fail_ : α) : g (I.joinedBy_tree net one0 one1 leaf0_ fail_) = I.joinedBy_tree net one0 one1 (fun d => g (leaf0_ d)) (g fail_) := by
  unfold I.joinedBy_tree; simp only [apply_cnd g, apply_optC g, apply_sumC g]
noncomputable def I.joinedBy_t (net : List Int) (one0 : Int) (one1 : Int) : Option (List Int) := I.joinedBy_tree net one0 one1 (fun d => some d) none
theorem I.joinedBy_den (net : List Int) (one0 : Int) (one1 : Int) (κ : V → List E → R) : I.joinedBy_F [.ro false (.ints .i64 net), .agg [.int .i64 one0, .int .i64 one1]] [] κ = optC (I.joinedBy_t net one0 one1) (fun (r : List Int) => κ (.own 0) [.row (.ints .i64 r)]) none := by
  have hu : I.joinedBy_F [.ro false (.ints .i64 net), .agg [.int .i64 one0, .int .i64 one1]] [] κ = I.joinedBy_tree net one0 one1 (fun d => κ (.own 0) [.row (.ints .i64 d)]) none := by
    kernel_rfl
  rw [hu]
  exact (I.joinedBy_tree_nat (fun o => optC o (fun (r : List Int) => κ (.own 0) [.row (.ints .i64 r)]) none) net one0 one1 (fun d => some d) none).symm
noncomputable def I.joinedBy_s : D.Spec where
  keep := false
  pure := false
  add := true
  ds := [.int .i64, .invalid]
  sp := fun args h κ => match args, h with
    | [.ro false (.ints .i64 net), .agg [.int .i64 one0, .int .i64 one1]], [] => optC (I.joinedBy_t net one0 one1) (fun (r : List Int) => κ (.own 0) [.row (.ints .i64 r)]) none
    | _, _ => none
theorem I.joinedBy_ok : SpecOk Try.prog 40 I.joinedBy_s := by
  refine SpecOk.of TDok mixed (T := I.joinedBy_T) ?_ (ann := I.joinedBy_ann) Try.func40 rfl (by decide +kernel) ?_ ?_ ?_ ?_
  · intro p hp
    simp only [I.joinedBy_T, List.mem_cons, List.not_mem_nil, or_false] at hp
    rcases hp with rfl
    · exact I.with_ok
  · intro args h κ r hh
    simp only [I.joinedBy_s] at hh
    split at hh
    · exact (I.joinedBy_den _ _ _ κ).trans hh
    · cases hh
  · intro args h κ r hh
    simp only [I.joinedBy_s] at hh ⊢
    split at hh
    · exact optC_law2 (F := fun (r : List Int) κ => κ (.own 0) [.row (.ints .i64 r)]) (fun b κ r hb => ⟨_, _, hb, fun _ => rfl⟩) hh
    · cases hh
  · intro hh; cases hh
  · intro _ args h κ r hh
    simp only [I.joinedBy_s] at hh
    split at hh
    · rfl
    · cases hh

-- loop.example/guardsonnets/impl.netOfWords
noncomputable def I.netOfWords_T : List (Nat × D.Spec) := [(38, I.digitAt_s), (39, I.placeIn_s), (40, I.joinedBy_s)]
def I.netOfWords_ann : Nat → List Nat × List Nat
  | 6 => ([0, 4, 5], [2, 4])
  | _ => ([], [])
noncomputable def I.netOfWords_F (args : List V) (h : List E) (κ : V → List E → R) : R := funC TD (tableK I.netOfWords_T) I.netOfWords_ann (drawAny TD (tableP I.netOfWords_T)) FUEL Try.f30 args h κ
noncomputable def I.netOfWords_L6 (n : Nat) (σ : St) (k : X → St → R) : R := iterC 0 (fun σ k => denC TD (tableK I.netOfWords_T) I.netOfWords_ann (drawAny TD (tableP I.netOfWords_T)) 0 FUEL ((findLoop 6 (Try.f30.body.getD .skip)).getD .skip) σ k) [0, 4, 5] [2, 4] n σ k
noncomputable def I.netOfWords_k6 (κ : V → List E → R) : X → St → R := (afterC TD (tableK I.netOfWords_T) I.netOfWords_ann (drawAny TD (tableP I.netOfWords_T)) 0 FUEL 6 (Try.f30.body.getD .skip) (finC TD 0 Try.f30 κ)).getD (fun _ _ => none)
noncomputable def I.netOfWords_step6 {α : Type} (x0 : List ByteArray) (x5 : Int) (r0 : List Int) (next_ : Int × (List Int) → α) (out0_ : (List Int) × (List Int) → α) (out1_ : List Int → α) (fail_ : α) : α :=
  (bif decide (x5 < (↑x0.length : Int)) then (bif decide (0 ≤ x5) && decide (x5 < (↑x0.length : Int)) then (optC (I.digitAt_t (els x0 x5.toNat) 0) (fun c_2 => (bif decide (0 ≤ x5) && decide (x5 < (↑x0.length : Int)) then (optC (I.digitAt_t (els x0 x5.toNat) 2) (fun c_3 => (optC (I.placeIn_t r0 c_2) (fun c_4 => (bif !c_4 then (out0_ ([], r0)) else (optC (I.placeIn_t r0 c_3) (fun c_5 => (bif !c_5 then (out0_ ([], r0)) else (optC (I.joinedBy_t r0 c_2 c_3) (fun c_6 => (next_ (IntKind.i64.wrap (x5 + 1), c_6))) fail_))) fail_))) fail_)) fail_) else fail_)) fail_) else fail_) else (out1_ r0))
theorem I.netOfWords_step6_nat {α γ : Type} (g : α → γ) (x0 : List ByteArray) (x5 : Int) (r0 : List Int) (next_ : Int × (List Int) → α) (out0_ : (List Int) × (List Int) → α) (out1_ : List Int → α) (fail_ : α) : g (I.netOfWords_step6 x0 x5 r0 next_ out0_ out1_ fail_) = I.netOfWords_step6 x0 x5 r0 (fun s => g (next_ s)) (fun d => g (out0_ d)) (fun d => g (out1_ d)) (g fail_) := by
  unfold I.netOfWords_step6; simp only [apply_cnd g, apply_optC g, apply_sumC g]
noncomputable def I.netOfWords_run6 (x0 : List ByteArray) : Nat → Int × (List Int) → Option (((List Int) × (List Int)) ⊕ (List Int))
  | 0, _ => none
  | n + 1, s_ => I.netOfWords_step6 x0 s_.1 s_.2 (I.netOfWords_run6 x0 n) (fun d => some ((Sum.inl d))) (fun d => some ((Sum.inr d))) none
theorem I.netOfWords_L6_run (x0 : List ByteArray) (n : Nat) (s_ : Int × (List Int)) (k : X → St → R) : I.netOfWords_L6 n { n := 52, t := [(0, (.ro false (.strs x0))), (4, (.own 0)), (5, (.int .i64 s_.1))], h := [.row (.ints .i64 s_.2)] } k = optC (I.netOfWords_run6 x0 n s_) (fun (r : ((List Int) × (List Int)) ⊕ (List Int)) => (sumC r (fun (r : (List Int) × (List Int)) => k (.ret) { n := 52, t := [(2, (.own 0)), (4, (.own 1))], h := [.row (.ints .i64 r.1), .row (.ints .i64 r.2)] }) (fun (r : List Int) => k (.exit 0) { n := 52, t := [(2, .junk), (4, (.own 0))], h := [.row (.ints .i64 r)] }))) none := by
  induction n generalizing s_ with
  | zero => rfl
  | succ n ih =>
    have hu : I.netOfWords_L6 (n + 1) { n := 52, t := [(0, (.ro false (.strs x0))), (4, (.own 0)), (5, (.int .i64 s_.1))], h := [.row (.ints .i64 s_.2)] } k = I.netOfWords_step6 x0 s_.1 s_.2 (fun s_ => I.netOfWords_L6 n { n := 52, t := [(0, (.ro false (.strs x0))), (4, (.own 0)), (5, (.int .i64 s_.1))], h := [.row (.ints .i64 s_.2)] } k) (fun d => k (.ret) { n := 52, t := [(2, (.own 0)), (4, (.own 1))], h := [.row (.ints .i64 d.1), .row (.ints .i64 d.2)] }) (fun d => k (.exit 0) { n := 52, t := [(2, .junk), (4, (.own 0))], h := [.row (.ints .i64 d)] }) none := by
      kernel_rfl
    have hs : (fun s_ : Int × (List Int) => I.netOfWords_L6 n { n := 52, t := [(0, (.ro false (.strs x0))), (4, (.own 0)), (5, (.int .i64 s_.1))], h := [.row (.ints .i64 s_.2)] } k) = fun s_ => optC (I.netOfWords_run6 x0 n s_) (fun (r : ((List Int) × (List Int)) ⊕ (List Int)) => (sumC r (fun (r : (List Int) × (List Int)) => k (.ret) { n := 52, t := [(2, (.own 0)), (4, (.own 1))], h := [.row (.ints .i64 r.1), .row (.ints .i64 r.2)] }) (fun (r : List Int) => k (.exit 0) { n := 52, t := [(2, .junk), (4, (.own 0))], h := [.row (.ints .i64 r)] }))) none := funext ih
    rw [hu, hs]
    exact (I.netOfWords_step6_nat (fun o => optC o (fun (r : ((List Int) × (List Int)) ⊕ (List Int)) => (sumC r (fun (r : (List Int) × (List Int)) => k (.ret) { n := 52, t := [(2, (.own 0)), (4, (.own 1))], h := [.row (.ints .i64 r.1), .row (.ints .i64 r.2)] }) (fun (r : List Int) => k (.exit 0) { n := 52, t := [(2, .junk), (4, (.own 0))], h := [.row (.ints .i64 r)] }))) none) x0 s_.1 s_.2 (I.netOfWords_run6 x0 n) (fun d => some ((Sum.inl d))) (fun d => some ((Sum.inr d))) none).symm
noncomputable def I.netOfWords_tree {α : Type} (words : List ByteArray) (leaf0_ : List Int → α) (fail_ : α) : α :=
  (bif decide (0 < (↑words.length : Int)) then (optC (I.digitAt_t (els words (Int.toNat 0)) 0) (fun c_1 => (bif decide (c_1 < 1) then (leaf0_ ([])) else (bif decide (c_1 > 6) then (leaf0_ ([])) else (bif decide (0 ≤ c_1) && small c_1.toNat && true then (optC (I.netOfWords_run6 words FUEL (1, List.replicate c_1.toNat 0)) (fun qy_7 => (sumC qy_7 (fun (qy_7 : (List Int) × (List Int)) => (leaf0_ qy_7.1)) (fun (qy_7 : List Int) => (leaf0_ qy_7)))) fail_) else fail_)))) fail_) else fail_)
theorem I.netOfWords_tree_nat {α γ : Type} (g : α → γ) (words : List ByteArray) (leaf0_ : List Int → α) (fail_ : α) : g (I.netOfWords_tree words leaf0_ fail_) = I.netOfWords_tree words (fun d => g (leaf0_ d)) (g fail_) := by
  unfold I.netOfWords_tree; simp only [apply_cnd g, apply_optC g, apply_sumC g]
noncomputable def I.netOfWords_t (words : List ByteArray) : Option (List Int) := I.netOfWords_tree words (fun d => some d) none
theorem I.netOfWords_den (words : List ByteArray) (κ : V → List E → R) : I.netOfWords_F [.ro false (.strs words)] [] κ = optC (I.netOfWords_t words) (fun (r : List Int) => κ (.own 0) [.row (.ints .i64 r)]) none := by
  have hu : I.netOfWords_F [.ro false (.strs words)] [] κ = I.netOfWords_tree words (fun d => κ (.own 0) [.row (.ints .i64 d)]) none := by
    refine Eq.trans (show I.netOfWords_F [.ro false (.strs words)] [] κ = (bif decide (0 < (↑words.length : Int)) then (optC (I.digitAt_t (els words (Int.toNat 0)) 0) (fun c_1 => (bif decide (c_1 < 1) then (κ (.own 0) [.row (.ints .i64 ([]))]) else (bif decide (c_1 > 6) then (κ (.own 0) [.row (.ints .i64 ([]))]) else (bif decide (0 ≤ c_1) && small c_1.toNat && true then (I.netOfWords_L6 FUEL { n := 52, t := [(0, (.ro false (.strs words))), (4, (.own 0)), (5, (.int .i64 1))], h := [.row (.ints .i64 (List.replicate c_1.toNat 0))] } (I.netOfWords_k6 κ)) else none)))) none) else none) by kernel_rfl) ?_
    refine cnd_congr ?_ ?_
    · refine optC_congr (fun c_1 => ?_)
      refine cnd_congr ?_ ?_
      · kernel_rfl
      · refine cnd_congr ?_ ?_
        · kernel_rfl
        · refine cnd_congr ?_ ?_
          · refine (I.netOfWords_L6_run words FUEL (1, List.replicate c_1.toNat 0) (I.netOfWords_k6 κ)).trans (optC_congr (fun qy_7 => ?_))
            rcases qy_7 with qy_7 | qy_7
            · kernel_rfl
            · kernel_rfl
          · kernel_rfl
    · kernel_rfl
  rw [hu]
  exact (I.netOfWords_tree_nat (fun o => optC o (fun (r : List Int) => κ (.own 0) [.row (.ints .i64 r)]) none) words (fun d => some d) none).symm
noncomputable def I.netOfWords_s : D.Spec where
  keep := false
  pure := false
  add := true
  ds := [.string]
  sp := fun args h κ => match args, h with
    | [.ro false (.strs words)], [] => optC (I.netOfWords_t words) (fun (r : List Int) => κ (.own 0) [.row (.ints .i64 r)]) none
    | _, _ => none
theorem I.netOfWords_ok : SpecOk Try.prog 30 I.netOfWords_s := by
  refine SpecOk.of TDok mixed (T := I.netOfWords_T) ?_ (ann := I.netOfWords_ann) Try.func30 rfl (by decide +kernel) ?_ ?_ ?_ ?_
  · intro p hp
    simp only [I.netOfWords_T, List.mem_cons, List.not_mem_nil, or_false] at hp
    rcases hp with rfl | rfl | rfl
    · exact I.digitAt_ok
    · exact I.placeIn_ok
    · exact I.joinedBy_ok
  · intro args h κ r hh
    simp only [I.netOfWords_s] at hh
    split at hh
    · exact (I.netOfWords_den _ κ).trans hh
    · cases hh
  · intro args h κ r hh
    simp only [I.netOfWords_s] at hh ⊢
    split at hh
    · exact optC_law2 (F := fun (r : List Int) κ => κ (.own 0) [.row (.ints .i64 r)]) (fun b κ r hb => ⟨_, _, hb, fun _ => rfl⟩) hh
    · cases hh
  · intro hh; cases hh
  · intro _ args h κ r hh
    simp only [I.netOfWords_s] at hh
    split at hh
    · rfl
    · cases hh

-- loop.example/guardsonnets/impl.NetRead
noncomputable def I.NetRead_T : List (Nat × D.Spec) := [(31, I.wordsOf_s), (30, I.netOfWords_s), (10, I.NetOk_s), (8, I.NetText_s)]
def I.NetRead_ann : Nat → List Nat × List Nat
  | _ => ([], [])
noncomputable def I.NetRead_F (args : List V) (h : List E) (κ : V → List E → R) : R := funC TD (tableK I.NetRead_T) I.NetRead_ann (drawAny TD (tableP I.NetRead_T)) FUEL Try.f12 args h κ
noncomputable def I.NetRead_tree {α : Type} (s_ : ByteArray) (leaf0_ : Bool × (List Int) → α) (fail_ : α) : α :=
  (bif decide ((↑s_.size : Int) > 100) then (leaf0_ (false, [])) else (optC (I.wordsOf_t s_) (fun c_1 => (optC (I.netOfWords_t c_1) (fun c_2 => (optC (I.NetOk_t c_2) (fun c_3 => (bif !c_3 then (leaf0_ (false, [])) else (optC (I.NetText_t c_2) (fun c_4 => (bif !strEq c_4 s_ then (leaf0_ (false, [])) else (leaf0_ (true, c_2)))) fail_))) fail_)) fail_)) fail_))
theorem I.NetRead_tree_nat {α γ : Type} (g : α → γ) (s_ : ByteArray) (leaf0_ : Bool × (List Int) → α) (fail_ : α) : g (I.NetRead_tree s_ leaf0_ fail_) = I.NetRead_tree s_ (fun d => g (leaf0_ d)) (g fail_) := by
  unfold I.NetRead_tree; simp only [apply_cnd g, apply_optC g, apply_sumC g]
noncomputable def I.NetRead_t (s_ : ByteArray) : Option (Bool × (List Int)) := I.NetRead_tree s_ (fun d => some d) none
theorem I.NetRead_den (s_ : ByteArray) (κ : V → List E → R) : I.NetRead_F [.str s_] [] κ = optC (I.NetRead_t s_) (fun (r : Bool × (List Int)) => κ (.tup [(.own 0), (.bool r.1)]) [.row (.ints .i64 r.2)]) none := by
  have hu : I.NetRead_F [.str s_] [] κ = I.NetRead_tree s_ (fun d => κ (.tup [(.own 0), (.bool d.1)]) [.row (.ints .i64 d.2)]) none := by
    kernel_rfl
  rw [hu]
  exact (I.NetRead_tree_nat (fun o => optC o (fun (r : Bool × (List Int)) => κ (.tup [(.own 0), (.bool r.1)]) [.row (.ints .i64 r.2)]) none) s_ (fun d => some d) none).symm
noncomputable def I.NetRead_s : D.Spec where
  keep := false
  pure := false
  add := true
  ds := [.invalid]
  sp := fun args h κ => match args, h with
    | [.str s_], [] => optC (I.NetRead_t s_) (fun (r : Bool × (List Int)) => κ (.tup [(.own 0), (.bool r.1)]) [.row (.ints .i64 r.2)]) none
    | _, _ => none
theorem I.NetRead_ok : SpecOk Try.prog 12 I.NetRead_s := by
  refine SpecOk.of TDok mixed (T := I.NetRead_T) ?_ (ann := I.NetRead_ann) Try.func12 rfl (by decide +kernel) ?_ ?_ ?_ ?_
  · intro p hp
    simp only [I.NetRead_T, List.mem_cons, List.not_mem_nil, or_false] at hp
    rcases hp with rfl | rfl | rfl | rfl
    · exact I.wordsOf_ok
    · exact I.netOfWords_ok
    · exact I.NetOk_ok
    · exact I.NetText_ok
  · intro args h κ r hh
    simp only [I.NetRead_s] at hh
    split at hh
    · exact (I.NetRead_den _ κ).trans hh
    · cases hh
  · intro args h κ r hh
    simp only [I.NetRead_s] at hh ⊢
    split at hh
    · exact optC_law2 (F := fun (r : Bool × (List Int)) κ => κ (.tup [(.own 0), (.bool r.1)]) [.row (.ints .i64 r.2)]) (fun b κ r hb => ⟨_, _, hb, fun _ => rfl⟩) hh
    · cases hh
  · intro hh; cases hh
  · intro _ args h κ r hh
    simp only [I.NetRead_s] at hh
    split at hh
    · rfl
    · cases hh

-- loop.example/guardsonnets/laws.sameInts
noncomputable def L.sameInts_T : List (Nat × D.Spec) := []
def L.sameInts_ann : Nat → List Nat × List Nat
  | 4 => ([0, 1, 5], [4])
  | _ => ([], [])
noncomputable def L.sameInts_F (args : List V) (h : List E) (κ : V → List E → R) : R := funC TD (tableK L.sameInts_T) L.sameInts_ann (drawAny TD (tableP L.sameInts_T)) FUEL Try.f13 args h κ
noncomputable def L.sameInts_L4 (n : Nat) (σ : St) (k : X → St → R) : R := iterC 0 (fun σ k => denC TD (tableK L.sameInts_T) L.sameInts_ann (drawAny TD (tableP L.sameInts_T)) 0 FUEL ((findLoop 4 (Try.f13.body.getD .skip)).getD .skip) σ k) [0, 1, 5] [4] n σ k
noncomputable def L.sameInts_k4 (κ : V → List E → R) : X → St → R := (afterC TD (tableK L.sameInts_T) L.sameInts_ann (drawAny TD (tableP L.sameInts_T)) 0 FUEL 4 (Try.f13.body.getD .skip) (finC TD 0 Try.f13 κ)).getD (fun _ _ => none)
noncomputable def L.sameInts_step4 {α : Type} (x0 : List Int) (x1 : List Int) (x5 : Int) (next_ : Int → α) (out0_ : Bool → α) (out1_ : Unit → α) (fail_ : α) : α :=
  (bif decide (x5 < (↑x0.length : Int)) then (bif decide (0 ≤ x5) && decide (x5 < (↑x0.length : Int)) then (bif decide (0 ≤ x5) && decide (x5 < (↑x1.length : Int)) then (bif !eli x0 x5.toNat == eli x1 x5.toNat then (out0_ false) else (next_ (IntKind.i64.wrap (x5 + 1)))) else fail_) else fail_) else (out1_ ()))
theorem L.sameInts_step4_nat {α γ : Type} (g : α → γ) (x0 : List Int) (x1 : List Int) (x5 : Int) (next_ : Int → α) (out0_ : Bool → α) (out1_ : Unit → α) (fail_ : α) : g (L.sameInts_step4 x0 x1 x5 next_ out0_ out1_ fail_) = L.sameInts_step4 x0 x1 x5 (fun s => g (next_ s)) (fun d => g (out0_ d)) (fun d => g (out1_ d)) (g fail_) := by
  unfold L.sameInts_step4; simp only [apply_cnd g, apply_optC g, apply_sumC g]
noncomputable def L.sameInts_run4 (x0 : List Int) (x1 : List Int) : Nat → Int → Option ((Bool) ⊕ (Unit))
  | 0, _ => none
  | n + 1, s_ => L.sameInts_step4 x0 x1 s_ (L.sameInts_run4 x0 x1 n) (fun d => some ((Sum.inl d))) (fun d => some ((Sum.inr d))) none
theorem L.sameInts_L4_run (x0 : List Int) (x1 : List Int) (n : Nat) (s_ : Int) (k : X → St → R) : L.sameInts_L4 n { n := 26, t := [(0, (.ro false (.ints .i64 x0))), (1, (.ro false (.ints .i64 x1))), (5, (.int .i64 s_))], h := [] } k = optC (L.sameInts_run4 x0 x1 n s_) (fun (r : (Bool) ⊕ (Unit)) => (sumC r (fun (r : Bool) => k (.ret) { n := 26, t := [(4, (.bool r))], h := [] }) (fun (r : Unit) => k (.exit 0) { n := 26, t := [(4, .junk)], h := [] }))) none := by
  induction n generalizing s_ with
  | zero => rfl
  | succ n ih =>
    have hu : L.sameInts_L4 (n + 1) { n := 26, t := [(0, (.ro false (.ints .i64 x0))), (1, (.ro false (.ints .i64 x1))), (5, (.int .i64 s_))], h := [] } k = L.sameInts_step4 x0 x1 s_ (fun s_ => L.sameInts_L4 n { n := 26, t := [(0, (.ro false (.ints .i64 x0))), (1, (.ro false (.ints .i64 x1))), (5, (.int .i64 s_))], h := [] } k) (fun d => k (.ret) { n := 26, t := [(4, (.bool d))], h := [] }) (fun d => k (.exit 0) { n := 26, t := [(4, .junk)], h := [] }) none := by
      kernel_rfl
    have hs : (fun s_ : Int => L.sameInts_L4 n { n := 26, t := [(0, (.ro false (.ints .i64 x0))), (1, (.ro false (.ints .i64 x1))), (5, (.int .i64 s_))], h := [] } k) = fun s_ => optC (L.sameInts_run4 x0 x1 n s_) (fun (r : (Bool) ⊕ (Unit)) => (sumC r (fun (r : Bool) => k (.ret) { n := 26, t := [(4, (.bool r))], h := [] }) (fun (r : Unit) => k (.exit 0) { n := 26, t := [(4, .junk)], h := [] }))) none := funext ih
    rw [hu, hs]
    exact (L.sameInts_step4_nat (fun o => optC o (fun (r : (Bool) ⊕ (Unit)) => (sumC r (fun (r : Bool) => k (.ret) { n := 26, t := [(4, (.bool r))], h := [] }) (fun (r : Unit) => k (.exit 0) { n := 26, t := [(4, .junk)], h := [] }))) none) x0 x1 s_ (L.sameInts_run4 x0 x1 n) (fun d => some ((Sum.inl d))) (fun d => some ((Sum.inr d))) none).symm
noncomputable def L.sameInts_tree {α : Type} (a : List Int) (b_ : List Int) (leaf0_ : Bool → α) (fail_ : α) : α :=
  (bif !(↑a.length : Int) == (↑b_.length : Int) then (leaf0_ false) else (optC (L.sameInts_run4 a b_ FUEL 0) (fun qy_1 => (sumC qy_1 (fun (qy_1 : Bool) => (leaf0_ qy_1)) (fun (qy_1 : Unit) => (leaf0_ true)))) fail_))
theorem L.sameInts_tree_nat {α γ : Type} (g : α → γ) (a : List Int) (b_ : List Int) (leaf0_ : Bool → α) (fail_ : α) : g (L.sameInts_tree a b_ leaf0_ fail_) = L.sameInts_tree a b_ (fun d => g (leaf0_ d)) (g fail_) := by
  unfold L.sameInts_tree; simp only [apply_cnd g, apply_optC g, apply_sumC g]
noncomputable def L.sameInts_t (a : List Int) (b_ : List Int) : Option (Bool) := L.sameInts_tree a b_ (fun d => some d) none
theorem L.sameInts_den (a : List Int) (b_ : List Int) (κ : V → List E → R) : L.sameInts_F [.ro false (.ints .i64 a), .ro false (.ints .i64 b_)] [] κ = optC (L.sameInts_t a b_) (fun (r : Bool) => κ (.bool r) []) none := by
  have hu : L.sameInts_F [.ro false (.ints .i64 a), .ro false (.ints .i64 b_)] [] κ = L.sameInts_tree a b_ (fun d => κ (.bool d) []) none := by
    refine Eq.trans (show L.sameInts_F [.ro false (.ints .i64 a), .ro false (.ints .i64 b_)] [] κ = (bif !(↑a.length : Int) == (↑b_.length : Int) then (κ (.bool false) []) else (L.sameInts_L4 FUEL { n := 26, t := [(0, (.ro false (.ints .i64 a))), (1, (.ro false (.ints .i64 b_))), (5, (.int .i64 0))], h := [] } (L.sameInts_k4 κ))) by kernel_rfl) ?_
    refine cnd_congr ?_ ?_
    · kernel_rfl
    · refine (L.sameInts_L4_run a b_ FUEL 0 (L.sameInts_k4 κ)).trans (optC_congr (fun qy_1 => ?_))
      rcases qy_1 with qy_1 | qy_1
      · kernel_rfl
      · kernel_rfl
  rw [hu]
  exact (L.sameInts_tree_nat (fun o => optC o (fun (r : Bool) => κ (.bool r) []) none) a b_ (fun d => some d) none).symm
noncomputable def L.sameInts_s : D.Spec where
  keep := false
  pure := true
  add := true
  ds := [.int .i64, .int .i64]
  sp := fun args h κ => match args, h with
    | [.ro false (.ints .i64 a), .ro false (.ints .i64 b_)], [] => optC (L.sameInts_t a b_) (fun (r : Bool) => κ (.bool r) []) none
    | _, _ => none
theorem L.sameInts_ok : SpecOk Try.prog 13 L.sameInts_s := by
  refine SpecOk.of TDok mixed (T := L.sameInts_T) ?_ (ann := L.sameInts_ann) Try.func13 rfl (by decide +kernel) ?_ ?_ ?_ ?_
  · intro p hp; cases hp
  · intro args h κ r hh
    simp only [L.sameInts_s] at hh
    split at hh
    · exact (L.sameInts_den _ _ κ).trans hh
    · cases hh
  · intro args h κ r hh
    simp only [L.sameInts_s] at hh ⊢
    split at hh
    · exact optC_law2 (F := fun (r : Bool) κ => κ (.bool r) []) (fun b κ r hb => ⟨_, _, hb, fun _ => rfl⟩) hh
    · cases hh
  · intro _ args h κ r hh
    simp only [L.sameInts_s] at hh
    split at hh
    · exact ⟨rfl, fun _ => rfl⟩
    · cases hh
  · intro _ args h κ r hh
    simp only [L.sameInts_s] at hh
    split at hh
    · rfl
    · cases hh

-- loop.example/guardsonnets/laws.FnNetText
noncomputable def L.FnNetText_T : List (Nat × D.Spec) := [(7, S.DrawNetText_s), (8, I.NetText_s), (9, S.NetText_s), (10, I.NetOk_s), (11, L.alive_s), (12, I.NetRead_s), (13, L.sameInts_s)]
def L.FnNetText_ann : Nat → List Nat × List Nat
  | _ => ([], [])
noncomputable def L.FnNetText_F (args : List V) (h : List E) (κ : V → List E → R) : R := funC TD (tableK L.FnNetText_T) L.FnNetText_ann (drawAny TD (tableP L.FnNetText_T)) FUEL Try.f3 args h κ
noncomputable def L.FnNetText_tree {α : Type} (code : List Int) (leaf0_ : Bool → α) (fail_ : α) : α :=
  (bif decide ((↑code.length : Int) > 1048576) then (leaf0_ true) else (optC (S.DrawNetText_t code) (fun c_1 => (optC (I.NetText_t c_1) (fun c_2 => (optC (S.NetText_t c_1) (fun c_3 => (bif !strEq c_2 c_3 then (leaf0_ false) else (optC (I.NetOk_t c_1) (fun c_4 => (bif !c_4 then (bif strEq c_2 (ByteArray.mk #[]) then (optC (L.alive_t) (fun c_5 => (leaf0_ c_5)) fail_) else (leaf0_ false)) else (optC (I.NetRead_t c_2) (fun c_6 => (bif c_6.fst then (optC (L.sameInts_t c_6.snd c_1) (fun c_7 => (leaf0_ c_7)) fail_) else (leaf0_ false))) fail_))) fail_))) fail_)) fail_)) fail_))
theorem L.FnNetText_tree_nat {α γ : Type} (g : α → γ) (code : List Int) (leaf0_ : Bool → α) (fail_ : α) : g (L.FnNetText_tree code leaf0_ fail_) = L.FnNetText_tree code (fun d => g (leaf0_ d)) (g fail_) := by
  unfold L.FnNetText_tree; simp only [apply_cnd g, apply_optC g, apply_sumC g]
noncomputable def L.FnNetText_t (code : List Int) : Option (Bool) := L.FnNetText_tree code (fun d => some d) none
theorem L.FnNetText_den (code : List Int) (κ : V → List E → R) : L.FnNetText_F [.ro true (.ints .u8 code)] [] κ = optC (L.FnNetText_t code) (fun (r : Bool) => κ (.bool r) []) none := by
  have hu : L.FnNetText_F [.ro true (.ints .u8 code)] [] κ = L.FnNetText_tree code (fun d => κ (.bool d) []) none := by
    kernel_rfl
  rw [hu]
  exact (L.FnNetText_tree_nat (fun o => optC o (fun (r : Bool) => κ (.bool r) []) none) code (fun d => some d) none).symm
noncomputable def L.FnNetText_s : D.Spec where
  keep := true
  pure := true
  add := true
  ds := [.int .u8]
  sp := fun args h κ => match args, h with
    | [.ro true (.ints .u8 code)], [] => optC (L.FnNetText_t code) (fun (r : Bool) => κ (.bool r) []) none
    | _, _ => none
theorem L.FnNetText_ok : SpecOk Try.prog 3 L.FnNetText_s := by
  refine SpecOk.of TDok mixed (T := L.FnNetText_T) ?_ (ann := L.FnNetText_ann) Try.func3 rfl (by decide +kernel) ?_ ?_ ?_ ?_
  · intro p hp
    simp only [L.FnNetText_T, List.mem_cons, List.not_mem_nil, or_false] at hp
    rcases hp with rfl | rfl | rfl | rfl | rfl | rfl | rfl
    · exact S.DrawNetText_ok
    · exact I.NetText_ok
    · exact S.NetText_ok
    · exact I.NetOk_ok
    · exact L.alive_ok
    · exact I.NetRead_ok
    · exact L.sameInts_ok
  · intro args h κ r hh
    simp only [L.FnNetText_s] at hh
    split at hh
    · exact (L.FnNetText_den _ κ).trans hh
    · cases hh
  · intro args h κ r hh
    simp only [L.FnNetText_s] at hh ⊢
    split at hh
    · exact optC_law2 (F := fun (r : Bool) κ => κ (.bool r) []) (fun b κ r hb => ⟨_, _, hb, fun _ => rfl⟩) hh
    · cases hh
  · intro _ args h κ r hh
    simp only [L.FnNetText_s] at hh
    split at hh
    · exact ⟨rfl, fun _ => rfl⟩
    · cases hh
  · intro _ args h κ r hh
    simp only [L.FnNetText_s] at hh
    split at hh
    · rfl
    · cases hh

-- loop.example/guardsonnets/spec.l20Text
noncomputable def S.l20Text_T : List (Nat × D.Spec) := [(20, S.l20Net_s), (9, S.NetText_s), (36, S.l20Rd_pick_s)]
def S.l20Text_ann : Nat → List Nat × List Nat
  | _ => ([], [])
noncomputable def S.l20Text_F (args : List V) (h : List E) (κ : V → List E → R) : R := funC TD (tableK S.l20Text_T) S.l20Text_ann (drawAny TD (tableP S.l20Text_T)) FUEL Try.f32 args h κ
noncomputable def S.l20Text_tree {α : Type} (rb : List Int) (rp : Int) (leaf0_ : ByteArray × (List Int) × Int → α) (fail_ : α) : α :=
  (optC (S.l20Net_t rb rp 30) (fun c_1 => (optC (S.NetText_t c_1.snd.snd) (fun c_2 => (bif !strEq c_2 (ByteArray.mk #[]) then (optC (S.l20Rd_pick_t c_1.fst c_1.snd.fst 4) (fun c_3 => (bif c_3.fst == 0 then (optC (S.l20Rd_pick_t c_3.snd.fst c_3.snd.snd (↑c_2.size : Int)) (fun c_4 => (bif decide (0 ≤ c_4.fst) && decide (c_4.fst ≤ (↑c_2.size : Int)) then (optC (S.l20Rd_pick_t c_4.snd.fst c_4.snd.snd 6) (fun c_5 => (bif decide (0 ≤ c_5.fst) && decide (c_5.fst < (↑[ByteArray.mk #[], ByteArray.mk #[32], ByteArray.mk #[48], ByteArray.mk #[45], ByteArray.mk #[54], ByteArray.mk #[120]].length : Int)) then (bif decide (c_5.fst.toNat < [ByteArray.mk #[], ByteArray.mk #[32], ByteArray.mk #[48], ByteArray.mk #[45], ByteArray.mk #[54], ByteArray.mk #[120]].length) then (bif small ((c_2.extract 0 (0 + c_4.fst.toNat)).size + (els [ByteArray.mk #[], ByteArray.mk #[32], ByteArray.mk #[48], ByteArray.mk #[45], ByteArray.mk #[54], ByteArray.mk #[120]] c_5.fst.toNat).size) then (optC (S.l20Rd_pick_t c_5.snd.fst c_5.snd.snd 2) (fun c_6 => (bif decide (0 ≤ IntKind.i64.wrap (c_4.fst + c_6.fst)) && decide (IntKind.i64.wrap (c_4.fst + c_6.fst) ≤ (↑c_2.size : Int)) && decide ((↑c_2.size : Int) ≤ (↑c_2.size : Int)) then (bif small ((c_2.extract 0 (0 + c_4.fst.toNat) ++ els [ByteArray.mk #[], ByteArray.mk #[32], ByteArray.mk #[48], ByteArray.mk #[45], ByteArray.mk #[54], ByteArray.mk #[120]] c_5.fst.toNat).size + (c_2.extract (IntKind.i64.wrap (c_4.fst + c_6.fst)).toNat ((IntKind.i64.wrap (c_4.fst + c_6.fst)).toNat + (c_2.size - (IntKind.i64.wrap (c_4.fst + c_6.fst)).toNat))).size) then (leaf0_ (c_2.extract 0 (0 + c_4.fst.toNat) ++ els [ByteArray.mk #[], ByteArray.mk #[32], ByteArray.mk #[48], ByteArray.mk #[45], ByteArray.mk #[54], ByteArray.mk #[120]] c_5.fst.toNat ++ c_2.extract (IntKind.i64.wrap (c_4.fst + c_6.fst)).toNat ((IntKind.i64.wrap (c_4.fst + c_6.fst)).toNat + (c_2.size - (IntKind.i64.wrap (c_4.fst + c_6.fst)).toNat)), c_6.snd.fst, c_6.snd.snd)) else fail_) else fail_)) fail_) else fail_) else fail_) else fail_)) fail_) else fail_)) fail_) else (leaf0_ (c_2, c_3.snd.fst, c_3.snd.snd)))) fail_) else (leaf0_ (c_2, c_1.fst, c_1.snd.fst)))) fail_)) fail_)
theorem S.l20Text_tree_nat {α γ : Type} (g : α → γ) (rb : List Int) (rp : Int) (leaf0_ : ByteArray × (List Int) × Int → α) (fail_ : α) : g (S.l20Text_tree rb rp leaf0_ fail_) = S.l20Text_tree rb rp (fun d => g (leaf0_ d)) (g fail_) := by
  unfold S.l20Text_tree; simp only [apply_cnd g, apply_optC g, apply_sumC g]
noncomputable def S.l20Text_t (rb : List Int) (rp : Int) : Option (ByteArray × (List Int) × Int) := S.l20Text_tree rb rp (fun d => some d) none
theorem S.l20Text_den (rb : List Int) (rp : Int) (κ : V → List E → R) : S.l20Text_F [.ptr 0 0] [.cells [.ro true (.ints .u8 rb), .int .i64 rp]] κ = optC (S.l20Text_t rb rp) (fun (r : ByteArray × (List Int) × Int) => κ (.str r.1) [.cells [(.ro true (.ints .u8 r.2.1)), (.int .i64 r.2.2)]]) none := by
  have hu : S.l20Text_F [.ptr 0 0] [.cells [.ro true (.ints .u8 rb), .int .i64 rp]] κ = S.l20Text_tree rb rp (fun d => κ (.str d.1) [.cells [(.ro true (.ints .u8 d.2.1)), (.int .i64 d.2.2)]]) none := by
    kernel_rfl
  rw [hu]
  exact (S.l20Text_tree_nat (fun o => optC o (fun (r : ByteArray × (List Int) × Int) => κ (.str r.1) [.cells [(.ro true (.ints .u8 r.2.1)), (.int .i64 r.2.2)]]) none) rb rp (fun d => some d) none).symm
noncomputable def S.l20Text_s : D.Spec where
  keep := false
  pure := false
  add := false
  ds := [.invalid]
  sp := fun args h κ => match args, h with
    | [.ptr 0 0], [.cells [.ro true (.ints .u8 rb), .int .i64 rp]] => optC (S.l20Text_t rb rp) (fun (r : ByteArray × (List Int) × Int) => κ (.str r.1) [.cells [(.ro true (.ints .u8 r.2.1)), (.int .i64 r.2.2)]]) none
    | _, _ => none
theorem S.l20Text_ok : SpecOk Try.prog 32 S.l20Text_s := by
  refine SpecOk.of TDok mixed (T := S.l20Text_T) ?_ (ann := S.l20Text_ann) Try.func32 rfl (by decide +kernel) ?_ ?_ ?_ ?_
  · intro p hp
    simp only [S.l20Text_T, List.mem_cons, List.not_mem_nil, or_false] at hp
    rcases hp with rfl | rfl | rfl
    · exact S.l20Net_ok
    · exact S.NetText_ok
    · exact S.l20Rd_pick_ok
  · intro args h κ r hh
    simp only [S.l20Text_s] at hh
    split at hh
    · exact (S.l20Text_den _ _ κ).trans hh
    · cases hh
  · intro args h κ r hh
    simp only [S.l20Text_s] at hh ⊢
    split at hh
    · exact optC_law2 (F := fun (r : ByteArray × (List Int) × Int) κ => κ (.str r.1) [.cells [(.ro true (.ints .u8 r.2.1)), (.int .i64 r.2.2)]]) (fun b κ r hb => ⟨_, _, hb, fun _ => rfl⟩) hh
    · cases hh
  · intro hh; cases hh
  · intro hh; cases hh

-- loop.example/guardsonnets/spec.DrawNetRead
noncomputable def S.DrawNetRead_T : List (Nat × D.Spec) := [(21, S.l20Open_s), (32, S.l20Text_s)]
def S.DrawNetRead_ann : Nat → List Nat × List Nat
  | _ => ([], [])
noncomputable def S.DrawNetRead_F (args : List V) (h : List E) (κ : V → List E → R) : R := funC TD (tableK S.DrawNetRead_T) S.DrawNetRead_ann (drawAny TD (tableP S.DrawNetRead_T)) FUEL Try.f14 args h κ
noncomputable def S.DrawNetRead_tree {α : Type} (code : List Int) (leaf0_ : ByteArray → α) (fail_ : α) : α :=
  (optC (S.l20Open_t code) (fun c_1 => (optC (S.l20Text_t c_1.fst c_1.snd) (fun c_2 => (leaf0_ c_2.fst)) fail_)) fail_)
theorem S.DrawNetRead_tree_nat {α γ : Type} (g : α → γ) (code : List Int) (leaf0_ : ByteArray → α) (fail_ : α) : g (S.DrawNetRead_tree code leaf0_ fail_) = S.DrawNetRead_tree code (fun d => g (leaf0_ d)) (g fail_) := by
  unfold S.DrawNetRead_tree; simp only [apply_cnd g, apply_optC g, apply_sumC g]
noncomputable def S.DrawNetRead_t (code : List Int) : Option (ByteArray) := S.DrawNetRead_tree code (fun d => some d) none
theorem S.DrawNetRead_den (code : List Int) (κ : V → List E → R) : S.DrawNetRead_F [.ro true (.ints .u8 code)] [] κ = optC (S.DrawNetRead_t code) (fun (r : ByteArray) => κ (.str r) []) none := by
  have hu : S.DrawNetRead_F [.ro true (.ints .u8 code)] [] κ = S.DrawNetRead_tree code (fun d => κ (.str d) []) none := by
    kernel_rfl
  rw [hu]
  exact (S.DrawNetRead_tree_nat (fun o => optC o (fun (r : ByteArray) => κ (.str r) []) none) code (fun d => some d) none).symm
noncomputable def S.DrawNetRead_s : D.Spec where
  keep := true
  pure := true
  add := true
  ds := [.int .u8]
  sp := fun args h κ => match args, h with
    | [.ro true (.ints .u8 code)], [] => optC (S.DrawNetRead_t code) (fun (r : ByteArray) => κ (.str r) []) none
    | _, _ => none
theorem S.DrawNetRead_ok : SpecOk Try.prog 14 S.DrawNetRead_s := by
  refine SpecOk.of TDok mixed (T := S.DrawNetRead_T) ?_ (ann := S.DrawNetRead_ann) Try.func14 rfl (by decide +kernel) ?_ ?_ ?_ ?_
  · intro p hp
    simp only [S.DrawNetRead_T, List.mem_cons, List.not_mem_nil, or_false] at hp
    rcases hp with rfl | rfl
    · exact S.l20Open_ok
    · exact S.l20Text_ok
  · intro args h κ r hh
    simp only [S.DrawNetRead_s] at hh
    split at hh
    · exact (S.DrawNetRead_den _ κ).trans hh
    · cases hh
  · intro args h κ r hh
    simp only [S.DrawNetRead_s] at hh ⊢
    split at hh
    · exact optC_law2 (F := fun (r : ByteArray) κ => κ (.str r) []) (fun b κ r hb => ⟨_, _, hb, fun _ => rfl⟩) hh
    · cases hh
  · intro _ args h κ r hh
    simp only [S.DrawNetRead_s] at hh
    split at hh
    · exact ⟨rfl, fun _ => rfl⟩
    · cases hh
  · intro _ args h κ r hh
    simp only [S.DrawNetRead_s] at hh
    split at hh
    · rfl
    · cases hh

-- loop.example/guardsonnets/spec.l1Cut
noncomputable def S.l1Cut_T : List (Nat × D.Spec) := []
def S.l1Cut_ann : Nat → List Nat × List Nat
  | 4 => ([0, 1, 5, 6, 7], [0, 5, 6])
  | _ => ([], [])
noncomputable def S.l1Cut_F (args : List V) (h : List E) (κ : V → List E → R) : R := funC TD (tableK S.l1Cut_T) S.l1Cut_ann (drawAny TD (tableP S.l1Cut_T)) FUEL Try.f33 args h κ
noncomputable def S.l1Cut_L4 (n : Nat) (σ : St) (k : X → St → R) : R := iterC 0 (fun σ k => denC TD (tableK S.l1Cut_T) S.l1Cut_ann (drawAny TD (tableP S.l1Cut_T)) 0 FUEL ((findLoop 4 (Try.f33.body.getD .skip)).getD .skip) σ k) [0, 1, 5, 6, 7] [0, 5, 6] n σ k
noncomputable def S.l1Cut_k4 (κ : V → List E → R) : X → St → R := (afterC TD (tableK S.l1Cut_T) S.l1Cut_ann (drawAny TD (tableP S.l1Cut_T)) 0 FUEL 4 (Try.f33.body.getD .skip) (finC TD 0 Try.f33 κ)).getD (fun _ _ => none)
noncomputable def S.l1Cut_step4 {α : Type} (x0 : ByteArray) (x1 : Int) (x6 : Int) (x7 : Int) (r0 : List ByteArray) (next_ : Int × Int × (List ByteArray) → α) (out0_ : Int × (List ByteArray) → α) (fail_ : α) : α :=
  (bif decide (x7 < (↑x0.size : Int)) then (bif decide (0 ≤ x7) && decide (x7 < (↑x0.size : Int)) then (bif strAt x0 x7.toNat == x1 then (bif decide (0 ≤ x6) && decide (x6 ≤ x7) && decide (x7 ≤ (↑x0.size : Int)) then (bif small (r0 ++ [x0.extract x6.toNat (x6.toNat + (x7.toNat - x6.toNat))]).length then (next_ (IntKind.i64.wrap (x7 + 1), IntKind.i64.wrap (x7 + 1), r0 ++ [x0.extract x6.toNat (x6.toNat + (x7.toNat - x6.toNat))])) else fail_) else fail_) else (next_ (x6, IntKind.i64.wrap (x7 + 1), r0))) else fail_) else (out0_ (x6, r0)))
theorem S.l1Cut_step4_nat {α γ : Type} (g : α → γ) (x0 : ByteArray) (x1 : Int) (x6 : Int) (x7 : Int) (r0 : List ByteArray) (next_ : Int × Int × (List ByteArray) → α) (out0_ : Int × (List ByteArray) → α) (fail_ : α) : g (S.l1Cut_step4 x0 x1 x6 x7 r0 next_ out0_ fail_) = S.l1Cut_step4 x0 x1 x6 x7 r0 (fun s => g (next_ s)) (fun d => g (out0_ d)) (g fail_) := by
  unfold S.l1Cut_step4; simp only [apply_cnd g, apply_optC g, apply_sumC g]
noncomputable def S.l1Cut_run4 (x0 : ByteArray) (x1 : Int) : Nat → Int × Int × (List ByteArray) → Option (Int × (List ByteArray))
  | 0, _ => none
  | n + 1, s_ => S.l1Cut_step4 x0 x1 s_.1 s_.2.1 s_.2.2 (S.l1Cut_run4 x0 x1 n) (fun d => some d) none
theorem S.l1Cut_L4_run (x0 : ByteArray) (x1 : Int) (n : Nat) (s_ : Int × Int × (List ByteArray)) (k : X → St → R) : S.l1Cut_L4 n { n := 35, t := [(0, (.str x0)), (1, (.int .u8 x1)), (5, (.own 0)), (6, (.int .i64 s_.1)), (7, (.int .i64 s_.2.1))], h := [.row (.strs s_.2.2)] } k = optC (S.l1Cut_run4 x0 x1 n s_) (fun (r : Int × (List ByteArray)) => k (.exit 0) { n := 35, t := [(0, (.str x0)), (5, (.own 0)), (6, (.int .i64 r.1))], h := [.row (.strs r.2)] }) none := by
  induction n generalizing s_ with
  | zero => rfl
  | succ n ih =>
    have hu : S.l1Cut_L4 (n + 1) { n := 35, t := [(0, (.str x0)), (1, (.int .u8 x1)), (5, (.own 0)), (6, (.int .i64 s_.1)), (7, (.int .i64 s_.2.1))], h := [.row (.strs s_.2.2)] } k = S.l1Cut_step4 x0 x1 s_.1 s_.2.1 s_.2.2 (fun s_ => S.l1Cut_L4 n { n := 35, t := [(0, (.str x0)), (1, (.int .u8 x1)), (5, (.own 0)), (6, (.int .i64 s_.1)), (7, (.int .i64 s_.2.1))], h := [.row (.strs s_.2.2)] } k) (fun d => k (.exit 0) { n := 35, t := [(0, (.str x0)), (5, (.own 0)), (6, (.int .i64 d.1))], h := [.row (.strs d.2)] }) none := by
      kernel_rfl
    have hs : (fun s_ : Int × Int × (List ByteArray) => S.l1Cut_L4 n { n := 35, t := [(0, (.str x0)), (1, (.int .u8 x1)), (5, (.own 0)), (6, (.int .i64 s_.1)), (7, (.int .i64 s_.2.1))], h := [.row (.strs s_.2.2)] } k) = fun s_ => optC (S.l1Cut_run4 x0 x1 n s_) (fun (r : Int × (List ByteArray)) => k (.exit 0) { n := 35, t := [(0, (.str x0)), (5, (.own 0)), (6, (.int .i64 r.1))], h := [.row (.strs r.2)] }) none := funext ih
    rw [hu, hs]
    exact (S.l1Cut_step4_nat (fun o => optC o (fun (r : Int × (List ByteArray)) => k (.exit 0) { n := 35, t := [(0, (.str x0)), (5, (.own 0)), (6, (.int .i64 r.1))], h := [.row (.strs r.2)] }) none) x0 x1 s_.1 s_.2.1 s_.2.2 (S.l1Cut_run4 x0 x1 n) (fun d => some d) none).symm
noncomputable def S.l1Cut_tree {α : Type} (s_ : ByteArray) (sep : Int) (leaf0_ : List ByteArray → α) (fail_ : α) : α :=
  (optC (S.l1Cut_run4 s_ sep FUEL (0, 0, [])) (fun qy_1 => (bif decide (0 ≤ qy_1.1) && decide (qy_1.1 ≤ (↑s_.size : Int)) && decide ((↑s_.size : Int) ≤ (↑s_.size : Int)) then (bif small (qy_1.2 ++ [s_.extract qy_1.1.toNat (qy_1.1.toNat + (s_.size - qy_1.1.toNat))]).length then (leaf0_ (qy_1.2 ++ [s_.extract qy_1.1.toNat (qy_1.1.toNat + (s_.size - qy_1.1.toNat))])) else fail_) else fail_)) fail_)
theorem S.l1Cut_tree_nat {α γ : Type} (g : α → γ) (s_ : ByteArray) (sep : Int) (leaf0_ : List ByteArray → α) (fail_ : α) : g (S.l1Cut_tree s_ sep leaf0_ fail_) = S.l1Cut_tree s_ sep (fun d => g (leaf0_ d)) (g fail_) := by
  unfold S.l1Cut_tree; simp only [apply_cnd g, apply_optC g, apply_sumC g]
noncomputable def S.l1Cut_t (s_ : ByteArray) (sep : Int) : Option (List ByteArray) := S.l1Cut_tree s_ sep (fun d => some d) none
theorem S.l1Cut_den (s_ : ByteArray) (sep : Int) (κ : V → List E → R) : S.l1Cut_F [.str s_, .int .u8 sep] [] κ = optC (S.l1Cut_t s_ sep) (fun (r : List ByteArray) => κ (.own 0) [.row (.strs r)]) none := by
  have hu : S.l1Cut_F [.str s_, .int .u8 sep] [] κ = S.l1Cut_tree s_ sep (fun d => κ (.own 0) [.row (.strs d)]) none := by
    refine Eq.trans (show S.l1Cut_F [.str s_, .int .u8 sep] [] κ = (S.l1Cut_L4 FUEL { n := 35, t := [(0, (.str s_)), (1, (.int .u8 sep)), (5, (.own 0)), (6, (.int .i64 0)), (7, (.int .i64 0))], h := [.row (.strs ([]))] } (S.l1Cut_k4 κ)) by kernel_rfl) ?_
    refine (S.l1Cut_L4_run s_ sep FUEL (0, 0, []) (S.l1Cut_k4 κ)).trans (optC_congr (fun qy_1 => ?_))
    kernel_rfl
  rw [hu]
  exact (S.l1Cut_tree_nat (fun o => optC o (fun (r : List ByteArray) => κ (.own 0) [.row (.strs r)]) none) s_ sep (fun d => some d) none).symm
noncomputable def S.l1Cut_s : D.Spec where
  keep := false
  pure := false
  add := true
  ds := [.invalid, .invalid]
  sp := fun args h κ => match args, h with
    | [.str s_, .int .u8 sep], [] => optC (S.l1Cut_t s_ sep) (fun (r : List ByteArray) => κ (.own 0) [.row (.strs r)]) none
    | _, _ => none
theorem S.l1Cut_ok : SpecOk Try.prog 33 S.l1Cut_s := by
  refine SpecOk.of TDok mixed (T := S.l1Cut_T) ?_ (ann := S.l1Cut_ann) Try.func33 rfl (by decide +kernel) ?_ ?_ ?_ ?_
  · intro p hp; cases hp
  · intro args h κ r hh
    simp only [S.l1Cut_s] at hh
    split at hh
    · exact (S.l1Cut_den _ _ κ).trans hh
    · cases hh
  · intro args h κ r hh
    simp only [S.l1Cut_s] at hh ⊢
    split at hh
    · exact optC_law2 (F := fun (r : List ByteArray) κ => κ (.own 0) [.row (.strs r)]) (fun b κ r hb => ⟨_, _, hb, fun _ => rfl⟩) hh
    · cases hh
  · intro hh; cases hh
  · intro _ args h κ r hh
    simp only [S.l1Cut_s] at hh
    split at hh
    · rfl
    · cases hh


end Go.Proofs.Ytjaklmemllbeiaa
