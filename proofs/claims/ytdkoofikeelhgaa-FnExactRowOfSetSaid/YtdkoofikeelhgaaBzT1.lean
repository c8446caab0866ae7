/- Twins of the translated functions, with their proofs. Conditions: none. -/
import Derived.Test.YtdkoofikeelhgaaBzTab
set_option linter.unusedVariables false
set_option linter.unusedSimpArgs false
namespace Go.Proofs.Ytdkoofikeelhgaa
open D Go.RowKit
-- loop.example/guardsonnets/spec.l20Open
noncomputable def S.l20Open_T : List (Nat × D.Spec) := []
def S.l20Open_ann : Nat → List Nat × List Nat
  | _ => ([], [])
noncomputable def S.l20Open_F (args : List V) (h : List E) (κ : V → List E → R) : R := funC TD (tableK S.l20Open_T) S.l20Open_ann (drawOk (tableP S.l20Open_T)) FUEL Try.f48 args h κ
noncomputable def S.l20Open_tree {α : Type} (code : List Int) (leaf0_ : (List Int) × Int → α) (fail_ : α) : α :=
  (bif decide ((↑code.length : Int) > 2000) then (bif decide (2000 ≤ (↑code.length : Int)) then (leaf0_ (List.take (Int.toNat 2000) (List.drop 0 code), 0)) else fail_) else (leaf0_ (code, 0)))
theorem S.l20Open_tree_nat {α γ : Type} (g : α → γ) (code : List Int) (leaf0_ : (List Int) × Int → α) (fail_ : α) : g (S.l20Open_tree code leaf0_ fail_) = S.l20Open_tree code (fun d => g (leaf0_ d)) (g fail_) := by
  unfold S.l20Open_tree; simp only [apply_cnd g, apply_optC g, apply_sumC g]
noncomputable def S.l20Open_t (code : List Int) : Option ((List Int) × Int) := S.l20Open_tree code (fun d => some d) none
theorem S.l20Open_den (code : List Int) (κ : V → List E → R) : S.l20Open_F [.ro true (.ints .u8 code)] [] κ = optC (S.l20Open_t code) (fun (r : (List Int) × Int) => κ (.ptr 0 0) [.cells [(.ro true (.ints .u8 r.1)), (.int .i64 r.2)]]) none := by
  have hu : S.l20Open_F [.ro true (.ints .u8 code)] [] κ = S.l20Open_tree code (fun d => κ (.ptr 0 0) [.cells [(.ro true (.ints .u8 d.1)), (.int .i64 d.2)]]) none := by
    kernel_rfl
  rw [hu]
  exact (S.l20Open_tree_nat (fun o => optC o (fun (r : (List Int) × Int) => κ (.ptr 0 0) [.cells [(.ro true (.ints .u8 r.1)), (.int .i64 r.2)]]) none) code (fun d => some d) none).symm
noncomputable def S.l20Open_s : D.Spec where
  keep := true
  pure := false
  ds := [.int .u8]
  sp := fun args h κ => match args, h with
    | [.ro true (.ints .u8 code)], [] => optC (S.l20Open_t code) (fun (r : (List Int) × Int) => κ (.ptr 0 0) [.cells [(.ro true (.ints .u8 r.1)), (.int .i64 r.2)]]) none
    | _, _ => none
theorem S.l20Open_ok : SpecOk Try.prog 48 S.l20Open_s := by
  refine SpecOk.of TDok mixed (T := S.l20Open_T) ?_ (ann := S.l20Open_ann) Try.func48 rfl (by decide +kernel) ?_ ?_ ?_
  · intro p hp; cases hp
  · intro args h κ r hh
    simp only [S.l20Open_s] at hh
    split at hh
    · exact (S.l20Open_den _ κ).trans hh
    · cases hh
  · intro args h κ r hh
    simp only [S.l20Open_s] at hh ⊢
    split at hh
    · exact optC_law2 (F := fun (r : (List Int) × Int) κ => κ (.ptr 0 0) [.cells [(.ro true (.ints .u8 r.1)), (.int .i64 r.2)]]) (fun b κ r hb => ⟨_, _, hb, fun _ => rfl⟩) hh
    · cases hh
  · intro hh; cases hh

-- (*loop.example/guardsonnets/spec.l20Rd).pick
noncomputable def S.l20Rd_pick_T : List (Nat × D.Spec) := []
def S.l20Rd_pick_ann : Nat → List Nat × List Nat
  | _ => ([], [])
noncomputable def S.l20Rd_pick_F (args : List V) (h : List E) (κ : V → List E → R) : R := funC TD (tableK S.l20Rd_pick_T) S.l20Rd_pick_ann (drawOk (tableP S.l20Rd_pick_T)) FUEL Try.f75 args h κ
noncomputable def S.l20Rd_pick_tree {α : Type} (rb : List Int) (rp : Int) (n_ : Int) (leaf0_ : Int × (List Int) × Int → α) (fail_ : α) : α :=
  (bif decide (n_ < 1) then (leaf0_ (0, rb, IntKind.i64.wrap (rp + 1))) else (bif (↑rb.length : Int) == 0 then (leaf0_ (0, rb, IntKind.i64.wrap (rp + 1))) else (bif decide (IntKind.i64.wrap (IntKind.i64.wrap (rp + 1) - 1) < (↑rb.length : Int)) then (bif decide (0 ≤ IntKind.i64.wrap (IntKind.i64.wrap (rp + 1) - 1)) && decide (IntKind.i64.wrap (IntKind.i64.wrap (rp + 1) - 1) < (↑rb.length : Int)) then (bif n_ == 0 then fail_ else (leaf0_ ((IntKind.i64.wrap (eli rb (IntKind.i64.wrap (IntKind.i64.wrap (rp + 1) - 1)).toNat)).tmod n_, rb, IntKind.i64.wrap (rp + 1)))) else fail_) else (bif (↑rb.length : Int) == 0 then fail_ else (bif decide (0 ≤ (IntKind.i64.wrap (IntKind.i64.wrap (rp + 1) - 1)).tmod (↑rb.length : Int)) && decide ((IntKind.i64.wrap (IntKind.i64.wrap (rp + 1) - 1)).tmod (↑rb.length : Int) < (↑rb.length : Int)) then (bif (↑rb.length : Int) == 0 then fail_ else (bif decide (0 ≤ (IntKind.i64.wrap (IntKind.i64.wrap (IntKind.i64.wrap (IntKind.i64.wrap (rp + 1) - 1) * 7) + 3)).tmod (↑rb.length : Int)) && decide ((IntKind.i64.wrap (IntKind.i64.wrap (IntKind.i64.wrap (IntKind.i64.wrap (rp + 1) - 1) * 7) + 3)).tmod (↑rb.length : Int) < (↑rb.length : Int)) then (bif (↑rb.length : Int) == 0 then fail_ else (bif n_ == 0 then fail_ else (leaf0_ ((bits BinOp.xor IntKind.i64 (IntKind.i64.wrap (IntKind.i64.wrap (IntKind.i64.wrap (IntKind.i64.wrap (IntKind.i64.wrap (eli rb ((IntKind.i64.wrap (IntKind.i64.wrap (rp + 1) - 1)).tmod (↑rb.length : Int)).toNat) * 131) + IntKind.i64.wrap (IntKind.i64.wrap (eli rb ((IntKind.i64.wrap (IntKind.i64.wrap (IntKind.i64.wrap (IntKind.i64.wrap (rp + 1) - 1) * 7) + 3)).tmod (↑rb.length : Int)).toNat) * 1117)) + IntKind.i64.wrap (IntKind.i64.wrap (IntKind.i64.wrap (rp + 1) - 1) * 29)) + IntKind.i64.wrap (IntKind.i64.wrap ((IntKind.i64.wrap (IntKind.i64.wrap (rp + 1) - 1)).tdiv (↑rb.length : Int)) * 53))) (IntKind.i64.wrap ((IntKind.i64.wrap (IntKind.i64.wrap (IntKind.i64.wrap (IntKind.i64.wrap (IntKind.i64.wrap (eli rb ((IntKind.i64.wrap (IntKind.i64.wrap (rp + 1) - 1)).tmod (↑rb.length : Int)).toNat) * 131) + IntKind.i64.wrap (IntKind.i64.wrap (eli rb ((IntKind.i64.wrap (IntKind.i64.wrap (IntKind.i64.wrap (IntKind.i64.wrap (rp + 1) - 1) * 7) + 3)).tmod (↑rb.length : Int)).toNat) * 1117)) + IntKind.i64.wrap (IntKind.i64.wrap (IntKind.i64.wrap (rp + 1) - 1) * 29)) + IntKind.i64.wrap (IntKind.i64.wrap ((IntKind.i64.wrap (IntKind.i64.wrap (rp + 1) - 1)).tdiv (↑rb.length : Int)) * 53))).tdiv 64))).tmod n_, rb, IntKind.i64.wrap (rp + 1))))) else fail_)) else fail_)))))
theorem S.l20Rd_pick_tree_nat {α γ : Type} (g : α → γ) (rb : List Int) (rp : Int) (n_ : Int) (leaf0_ : Int × (List Int) × Int → α) (fail_ : α) : g (S.l20Rd_pick_tree rb rp n_ leaf0_ fail_) = S.l20Rd_pick_tree rb rp n_ (fun d => g (leaf0_ d)) (g fail_) := by
  unfold S.l20Rd_pick_tree; simp only [apply_cnd g, apply_optC g, apply_sumC g]
noncomputable def S.l20Rd_pick_t (rb : List Int) (rp : Int) (n_ : Int) : Option (Int × (List Int) × Int) := S.l20Rd_pick_tree rb rp n_ (fun d => some d) none
theorem S.l20Rd_pick_den (rb : List Int) (rp : Int) (n_ : Int) (κ : V → List E → R) : S.l20Rd_pick_F [.ptr 0 0, .int .i64 n_] [.cells [.ro true (.ints .u8 rb), .int .i64 rp]] κ = optC (S.l20Rd_pick_t rb rp n_) (fun (r : Int × (List Int) × Int) => κ (.int .i64 r.1) [.cells [(.ro true (.ints .u8 r.2.1)), (.int .i64 r.2.2)]]) none := by
  have hu : S.l20Rd_pick_F [.ptr 0 0, .int .i64 n_] [.cells [.ro true (.ints .u8 rb), .int .i64 rp]] κ = S.l20Rd_pick_tree rb rp n_ (fun d => κ (.int .i64 d.1) [.cells [(.ro true (.ints .u8 d.2.1)), (.int .i64 d.2.2)]]) none := by
    kernel_rfl
  rw [hu]
  exact (S.l20Rd_pick_tree_nat (fun o => optC o (fun (r : Int × (List Int) × Int) => κ (.int .i64 r.1) [.cells [(.ro true (.ints .u8 r.2.1)), (.int .i64 r.2.2)]]) none) rb rp n_ (fun d => some d) none).symm
noncomputable def S.l20Rd_pick_s : D.Spec where
  keep := false
  pure := false
  ds := [.invalid, .invalid]
  sp := fun args h κ => match args, h with
    | [.ptr 0 0, .int .i64 n_], [.cells [.ro true (.ints .u8 rb), .int .i64 rp]] => optC (S.l20Rd_pick_t rb rp n_) (fun (r : Int × (List Int) × Int) => κ (.int .i64 r.1) [.cells [(.ro true (.ints .u8 r.2.1)), (.int .i64 r.2.2)]]) none
    | _, _ => none
theorem S.l20Rd_pick_ok : SpecOk Try.prog 75 S.l20Rd_pick_s := by
  refine SpecOk.of TDok mixed (T := S.l20Rd_pick_T) ?_ (ann := S.l20Rd_pick_ann) Try.func75 rfl (by decide +kernel) ?_ ?_ ?_
  · intro p hp; cases hp
  · intro args h κ r hh
    simp only [S.l20Rd_pick_s] at hh
    split at hh
    · exact (S.l20Rd_pick_den _ _ _ κ).trans hh
    · cases hh
  · intro args h κ r hh
    simp only [S.l20Rd_pick_s] at hh ⊢
    split at hh
    · exact optC_law2 (F := fun (r : Int × (List Int) × Int) κ => κ (.int .i64 r.1) [.cells [(.ro true (.ints .u8 r.2.1)), (.int .i64 r.2.2)]]) (fun b κ r hb => ⟨_, _, hb, fun _ => rfl⟩) hh
    · cases hh
  · intro hh; cases hh

-- (*loop.example/guardsonnets/spec.l20Rd).odd
noncomputable def S.l20Rd_odd_T : List (Nat × D.Spec) := [(75, S.l20Rd_pick_s)]
def S.l20Rd_odd_ann : Nat → List Nat × List Nat
  | _ => ([], [])
noncomputable def S.l20Rd_odd_F (args : List V) (h : List E) (κ : V → List E → R) : R := funC TD (tableK S.l20Rd_odd_T) S.l20Rd_odd_ann (drawOk (tableP S.l20Rd_odd_T)) FUEL Try.f82 args h κ
noncomputable def S.l20Rd_odd_tree {α : Type} (rb : List Int) (rp : Int) (n_ : Int) (leaf0_ : Bool × (List Int) × Int → α) (fail_ : α) : α :=
  (bif decide (n_ > 0) then (optC (S.l20Rd_pick_t rb rp n_) (fun c_1 => (leaf0_ (c_1.fst == IntKind.i64.wrap (n_ - 1), c_1.snd.fst, c_1.snd.snd))) fail_) else (leaf0_ (false, rb, rp)))
theorem S.l20Rd_odd_tree_nat {α γ : Type} (g : α → γ) (rb : List Int) (rp : Int) (n_ : Int) (leaf0_ : Bool × (List Int) × Int → α) (fail_ : α) : g (S.l20Rd_odd_tree rb rp n_ leaf0_ fail_) = S.l20Rd_odd_tree rb rp n_ (fun d => g (leaf0_ d)) (g fail_) := by
  unfold S.l20Rd_odd_tree; simp only [apply_cnd g, apply_optC g, apply_sumC g]
noncomputable def S.l20Rd_odd_t (rb : List Int) (rp : Int) (n_ : Int) : Option (Bool × (List Int) × Int) := S.l20Rd_odd_tree rb rp n_ (fun d => some d) none
theorem S.l20Rd_odd_den (rb : List Int) (rp : Int) (n_ : Int) (κ : V → List E → R) : S.l20Rd_odd_F [.ptr 0 0, .int .i64 n_] [.cells [.ro true (.ints .u8 rb), .int .i64 rp]] κ = optC (S.l20Rd_odd_t rb rp n_) (fun (r : Bool × (List Int) × Int) => κ (.bool r.1) [.cells [(.ro true (.ints .u8 r.2.1)), (.int .i64 r.2.2)]]) none := by
  have hu : S.l20Rd_odd_F [.ptr 0 0, .int .i64 n_] [.cells [.ro true (.ints .u8 rb), .int .i64 rp]] κ = S.l20Rd_odd_tree rb rp n_ (fun d => κ (.bool d.1) [.cells [(.ro true (.ints .u8 d.2.1)), (.int .i64 d.2.2)]]) none := by
    kernel_rfl
  rw [hu]
  exact (S.l20Rd_odd_tree_nat (fun o => optC o (fun (r : Bool × (List Int) × Int) => κ (.bool r.1) [.cells [(.ro true (.ints .u8 r.2.1)), (.int .i64 r.2.2)]]) none) rb rp n_ (fun d => some d) none).symm
noncomputable def S.l20Rd_odd_s : D.Spec where
  keep := false
  pure := false
  ds := [.invalid, .invalid]
  sp := fun args h κ => match args, h with
    | [.ptr 0 0, .int .i64 n_], [.cells [.ro true (.ints .u8 rb), .int .i64 rp]] => optC (S.l20Rd_odd_t rb rp n_) (fun (r : Bool × (List Int) × Int) => κ (.bool r.1) [.cells [(.ro true (.ints .u8 r.2.1)), (.int .i64 r.2.2)]]) none
    | _, _ => none
theorem S.l20Rd_odd_ok : SpecOk Try.prog 82 S.l20Rd_odd_s := by
  refine SpecOk.of TDok mixed (T := S.l20Rd_odd_T) ?_ (ann := S.l20Rd_odd_ann) Try.func82 rfl (by decide +kernel) ?_ ?_ ?_
  · intro p hp
    simp only [S.l20Rd_odd_T, List.mem_cons, List.not_mem_nil, or_false] at hp
    rcases hp with rfl
    · exact S.l20Rd_pick_ok
  · intro args h κ r hh
    simp only [S.l20Rd_odd_s] at hh
    split at hh
    · exact (S.l20Rd_odd_den _ _ _ κ).trans hh
    · cases hh
  · intro args h κ r hh
    simp only [S.l20Rd_odd_s] at hh ⊢
    split at hh
    · exact optC_law2 (F := fun (r : Bool × (List Int) × Int) κ => κ (.bool r.1) [.cells [(.ro true (.ints .u8 r.2.1)), (.int .i64 r.2.2)]]) (fun b κ r hb => ⟨_, _, hb, fun _ => rfl⟩) hh
    · cases hh
  · intro hh; cases hh

-- loop.example/guardsonnets/spec.l20Net
noncomputable def S.l20Net_T : List (Nat × D.Spec) := [(75, S.l20Rd_pick_s), (82, S.l20Rd_odd_s)]
def S.l20Net_ann : Nat → List Nat × List Nat
  | 8 => ([0, 1, 5, 6, 7, 8, 9], [0, 1, 5, 6, 7, 8])
  | 5 => ([0, 1, 5, 6, 7, 8], [0, 1, 5, 6])
  | _ => ([], [])
noncomputable def S.l20Net_F (args : List V) (h : List E) (κ : V → List E → R) : R := funC TD (tableK S.l20Net_T) S.l20Net_ann (drawOk (tableP S.l20Net_T)) FUEL Try.f58 args h κ
noncomputable def S.l20Net_L8 (n : Nat) (σ : St) (k : X → St → R) : R := iterC 1 (fun σ k => denC TD (tableK S.l20Net_T) S.l20Net_ann (drawOk (tableP S.l20Net_T)) 1 FUEL ((findLoop 8 (Try.f58.body.getD .skip)).getD .skip) σ k) [0, 1, 5, 6, 7, 8, 9] [0, 1, 5, 6, 7, 8] n σ k
noncomputable def S.l20Net_L5 (n : Nat) (σ : St) (k : X → St → R) : R := iterC 1 (fun σ k => denC TD (tableK S.l20Net_T) S.l20Net_ann (drawOk (tableP S.l20Net_T)) 1 FUEL ((findLoop 5 (Try.f58.body.getD .skip)).getD .skip) σ k) [0, 1, 5, 6, 7, 8] [0, 1, 5, 6] n σ k
noncomputable def S.l20Net_k8 (c : (St → R) × (X → St → R)) : X → St → R := (afterC TD (tableK S.l20Net_T) S.l20Net_ann (drawOk (tableP S.l20Net_T)) 1 FUEL 8 ((findLoop 5 (Try.f58.body.getD .skip)).getD .skip) (roundC 1 [0, 1, 5, 6, 7, 8] [0, 1, 5, 6] c.1 c.2)).getD (fun _ _ => none)
noncomputable def S.l20Net_k5 (κ : V → List E → R) : X → St → R := (afterC TD (tableK S.l20Net_T) S.l20Net_ann (drawOk (tableP S.l20Net_T)) 1 FUEL 5 (Try.f58.body.getD .skip) (finC TD 1 Try.f58 κ)).getD (fun _ _ => none)
noncomputable def S.l20Net_step8 {α : Type} (x1 : Int) (x5 : Int) (x7 : Int) (x8 : Int) (x9 : Int) (r0_0 : List Int) (r0_1 : Int) (r1 : List Int) (next_ : Int × (List Int) × Int × (List Int) → α) (out0_ : (List Int) × Int × (List Int) → α) (fail_ : α) : α :=
  (bif decide (x9 < x8) then (optC (S.l20Rd_pick_t r0_0 r0_1 3) (fun c_3 => (bif x7 == 0 then (bif x9 == IntKind.i64.wrap (x8 - 1) then (bif decide (0 ≤ x8) && decide (x8 < (↑r1.length : Int)) then (bif decide (x8.toNat < r1.length) then (bif decide (x9 < 0) then fail_ else (bif decide (0 ≤ x8) && decide (x8 < (↑r1.length : Int)) then (bif decide (x8.toNat < r1.length) then (bif decide (0 ≤ x9) && decide (x9 < (↑(r1.set x8.toNat (bits BinOp.or IntKind.i64 (eli r1 x8.toNat) (IntKind.i64.wrap (1 * 2 ^ min x9.toNat IntKind.i64.bits)))).length : Int)) then (bif decide (x9.toNat < (r1.set x8.toNat (bits BinOp.or IntKind.i64 (eli r1 x8.toNat) (IntKind.i64.wrap (1 * 2 ^ min x9.toNat IntKind.i64.bits)))).length) then (bif decide (x8 < 0) then fail_ else (bif decide (0 ≤ x9) && decide (x9 < (↑(r1.set x8.toNat (bits BinOp.or IntKind.i64 (eli r1 x8.toNat) (IntKind.i64.wrap (1 * 2 ^ min x9.toNat IntKind.i64.bits)))).length : Int)) then (bif decide (x9.toNat < (r1.set x8.toNat (bits BinOp.or IntKind.i64 (eli r1 x8.toNat) (IntKind.i64.wrap (1 * 2 ^ min x9.toNat IntKind.i64.bits)))).length) then (next_ (IntKind.i64.wrap (x9 + 1), c_3.snd.fst, c_3.snd.snd, (r1.set x8.toNat (bits BinOp.or IntKind.i64 (eli r1 x8.toNat) (IntKind.i64.wrap (1 * 2 ^ min x9.toNat IntKind.i64.bits)))).set x9.toNat (bits BinOp.or IntKind.i64 (eli (r1.set x8.toNat (bits BinOp.or IntKind.i64 (eli r1 x8.toNat) (IntKind.i64.wrap (1 * 2 ^ min x9.toNat IntKind.i64.bits)))) x9.toNat) (IntKind.i64.wrap (1 * 2 ^ min x8.toNat IntKind.i64.bits))))) else fail_) else fail_)) else fail_) else fail_) else fail_) else fail_)) else fail_) else fail_) else (bif x8 == IntKind.i64.wrap (x5 - 1) then (bif x9 == 0 then (bif decide (x5 > 2) then (bif decide (0 ≤ x8) && decide (x8 < (↑r1.length : Int)) then (bif decide (x8.toNat < r1.length) then (bif decide (x9 < 0) then fail_ else (bif decide (0 ≤ x8) && decide (x8 < (↑r1.length : Int)) then (bif decide (x8.toNat < r1.length) then (bif decide (0 ≤ x9) && decide (x9 < (↑(r1.set x8.toNat (bits BinOp.or IntKind.i64 (eli r1 x8.toNat) (IntKind.i64.wrap (1 * 2 ^ min x9.toNat IntKind.i64.bits)))).length : Int)) then (bif decide (x9.toNat < (r1.set x8.toNat (bits BinOp.or IntKind.i64 (eli r1 x8.toNat) (IntKind.i64.wrap (1 * 2 ^ min x9.toNat IntKind.i64.bits)))).length) then (bif decide (x8 < 0) then fail_ else (bif decide (0 ≤ x9) && decide (x9 < (↑(r1.set x8.toNat (bits BinOp.or IntKind.i64 (eli r1 x8.toNat) (IntKind.i64.wrap (1 * 2 ^ min x9.toNat IntKind.i64.bits)))).length : Int)) then (bif decide (x9.toNat < (r1.set x8.toNat (bits BinOp.or IntKind.i64 (eli r1 x8.toNat) (IntKind.i64.wrap (1 * 2 ^ min x9.toNat IntKind.i64.bits)))).length) then (next_ (IntKind.i64.wrap (x9 + 1), c_3.snd.fst, c_3.snd.snd, (r1.set x8.toNat (bits BinOp.or IntKind.i64 (eli r1 x8.toNat) (IntKind.i64.wrap (1 * 2 ^ min x9.toNat IntKind.i64.bits)))).set x9.toNat (bits BinOp.or IntKind.i64 (eli (r1.set x8.toNat (bits BinOp.or IntKind.i64 (eli r1 x8.toNat) (IntKind.i64.wrap (1 * 2 ^ min x9.toNat IntKind.i64.bits)))) x9.toNat) (IntKind.i64.wrap (1 * 2 ^ min x8.toNat IntKind.i64.bits))))) else fail_) else fail_)) else fail_) else fail_) else fail_) else fail_)) else fail_) else fail_) else (next_ (IntKind.i64.wrap (x9 + 1), c_3.snd.fst, c_3.snd.snd, r1))) else (next_ (IntKind.i64.wrap (x9 + 1), c_3.snd.fst, c_3.snd.snd, r1))) else (next_ (IntKind.i64.wrap (x9 + 1), c_3.snd.fst, c_3.snd.snd, r1)))) else (bif x7 == 1 then (bif x9 == IntKind.i64.wrap (x8 - 1) then (bif decide (0 ≤ x8) && decide (x8 < (↑r1.length : Int)) then (bif decide (x8.toNat < r1.length) then (bif decide (x9 < 0) then fail_ else (bif decide (0 ≤ x8) && decide (x8 < (↑r1.length : Int)) then (bif decide (x8.toNat < r1.length) then (bif decide (0 ≤ x9) && decide (x9 < (↑(r1.set x8.toNat (bits BinOp.or IntKind.i64 (eli r1 x8.toNat) (IntKind.i64.wrap (1 * 2 ^ min x9.toNat IntKind.i64.bits)))).length : Int)) then (bif decide (x9.toNat < (r1.set x8.toNat (bits BinOp.or IntKind.i64 (eli r1 x8.toNat) (IntKind.i64.wrap (1 * 2 ^ min x9.toNat IntKind.i64.bits)))).length) then (bif decide (x8 < 0) then fail_ else (bif decide (0 ≤ x9) && decide (x9 < (↑(r1.set x8.toNat (bits BinOp.or IntKind.i64 (eli r1 x8.toNat) (IntKind.i64.wrap (1 * 2 ^ min x9.toNat IntKind.i64.bits)))).length : Int)) then (bif decide (x9.toNat < (r1.set x8.toNat (bits BinOp.or IntKind.i64 (eli r1 x8.toNat) (IntKind.i64.wrap (1 * 2 ^ min x9.toNat IntKind.i64.bits)))).length) then (next_ (IntKind.i64.wrap (x9 + 1), c_3.snd.fst, c_3.snd.snd, (r1.set x8.toNat (bits BinOp.or IntKind.i64 (eli r1 x8.toNat) (IntKind.i64.wrap (1 * 2 ^ min x9.toNat IntKind.i64.bits)))).set x9.toNat (bits BinOp.or IntKind.i64 (eli (r1.set x8.toNat (bits BinOp.or IntKind.i64 (eli r1 x8.toNat) (IntKind.i64.wrap (1 * 2 ^ min x9.toNat IntKind.i64.bits)))) x9.toNat) (IntKind.i64.wrap (1 * 2 ^ min x8.toNat IntKind.i64.bits))))) else fail_) else fail_)) else fail_) else fail_) else fail_) else fail_)) else fail_) else fail_) else (bif x9 == 0 then (optC (S.l20Rd_pick_t c_3.snd.fst c_3.snd.snd 3) (fun c_4 => (bif c_4.fst == 0 then (bif decide (0 ≤ x8) && decide (x8 < (↑r1.length : Int)) then (bif decide (x8.toNat < r1.length) then (bif decide (x9 < 0) then fail_ else (bif decide (0 ≤ x8) && decide (x8 < (↑r1.length : Int)) then (bif decide (x8.toNat < r1.length) then (bif decide (0 ≤ x9) && decide (x9 < (↑(r1.set x8.toNat (bits BinOp.or IntKind.i64 (eli r1 x8.toNat) (IntKind.i64.wrap (1 * 2 ^ min x9.toNat IntKind.i64.bits)))).length : Int)) then (bif decide (x9.toNat < (r1.set x8.toNat (bits BinOp.or IntKind.i64 (eli r1 x8.toNat) (IntKind.i64.wrap (1 * 2 ^ min x9.toNat IntKind.i64.bits)))).length) then (bif decide (x8 < 0) then fail_ else (bif decide (0 ≤ x9) && decide (x9 < (↑(r1.set x8.toNat (bits BinOp.or IntKind.i64 (eli r1 x8.toNat) (IntKind.i64.wrap (1 * 2 ^ min x9.toNat IntKind.i64.bits)))).length : Int)) then (bif decide (x9.toNat < (r1.set x8.toNat (bits BinOp.or IntKind.i64 (eli r1 x8.toNat) (IntKind.i64.wrap (1 * 2 ^ min x9.toNat IntKind.i64.bits)))).length) then (next_ (IntKind.i64.wrap (x9 + 1), c_4.snd.fst, c_4.snd.snd, (r1.set x8.toNat (bits BinOp.or IntKind.i64 (eli r1 x8.toNat) (IntKind.i64.wrap (1 * 2 ^ min x9.toNat IntKind.i64.bits)))).set x9.toNat (bits BinOp.or IntKind.i64 (eli (r1.set x8.toNat (bits BinOp.or IntKind.i64 (eli r1 x8.toNat) (IntKind.i64.wrap (1 * 2 ^ min x9.toNat IntKind.i64.bits)))) x9.toNat) (IntKind.i64.wrap (1 * 2 ^ min x8.toNat IntKind.i64.bits))))) else fail_) else fail_)) else fail_) else fail_) else fail_) else fail_)) else fail_) else fail_) else (next_ (IntKind.i64.wrap (x9 + 1), c_4.snd.fst, c_4.snd.snd, r1)))) fail_) else (next_ (IntKind.i64.wrap (x9 + 1), c_3.snd.fst, c_3.snd.snd, r1)))) else (bif x7 == 2 then (bif x9 == IntKind.i64.wrap ((IntKind.i64.wrap (x8 - 1)).tdiv 2) then (bif decide (0 ≤ x8) && decide (x8 < (↑r1.length : Int)) then (bif decide (x8.toNat < r1.length) then (bif decide (x9 < 0) then fail_ else (bif decide (0 ≤ x8) && decide (x8 < (↑r1.length : Int)) then (bif decide (x8.toNat < r1.length) then (bif decide (0 ≤ x9) && decide (x9 < (↑(r1.set x8.toNat (bits BinOp.or IntKind.i64 (eli r1 x8.toNat) (IntKind.i64.wrap (1 * 2 ^ min x9.toNat IntKind.i64.bits)))).length : Int)) then (bif decide (x9.toNat < (r1.set x8.toNat (bits BinOp.or IntKind.i64 (eli r1 x8.toNat) (IntKind.i64.wrap (1 * 2 ^ min x9.toNat IntKind.i64.bits)))).length) then (bif decide (x8 < 0) then fail_ else (bif decide (0 ≤ x9) && decide (x9 < (↑(r1.set x8.toNat (bits BinOp.or IntKind.i64 (eli r1 x8.toNat) (IntKind.i64.wrap (1 * 2 ^ min x9.toNat IntKind.i64.bits)))).length : Int)) then (bif decide (x9.toNat < (r1.set x8.toNat (bits BinOp.or IntKind.i64 (eli r1 x8.toNat) (IntKind.i64.wrap (1 * 2 ^ min x9.toNat IntKind.i64.bits)))).length) then (next_ (IntKind.i64.wrap (x9 + 1), c_3.snd.fst, c_3.snd.snd, (r1.set x8.toNat (bits BinOp.or IntKind.i64 (eli r1 x8.toNat) (IntKind.i64.wrap (1 * 2 ^ min x9.toNat IntKind.i64.bits)))).set x9.toNat (bits BinOp.or IntKind.i64 (eli (r1.set x8.toNat (bits BinOp.or IntKind.i64 (eli r1 x8.toNat) (IntKind.i64.wrap (1 * 2 ^ min x9.toNat IntKind.i64.bits)))) x9.toNat) (IntKind.i64.wrap (1 * 2 ^ min x8.toNat IntKind.i64.bits))))) else fail_) else fail_)) else fail_) else fail_) else fail_) else fail_)) else fail_) else fail_) else (next_ (IntKind.i64.wrap (x9 + 1), c_3.snd.fst, c_3.snd.snd, r1))) else (bif c_3.fst == 0 then (bif decide (0 ≤ x8) && decide (x8 < (↑r1.length : Int)) then (bif decide (x8.toNat < r1.length) then (bif decide (x9 < 0) then fail_ else (bif decide (0 ≤ x8) && decide (x8 < (↑r1.length : Int)) then (bif decide (x8.toNat < r1.length) then (bif decide (0 ≤ x9) && decide (x9 < (↑(r1.set x8.toNat (bits BinOp.or IntKind.i64 (eli r1 x8.toNat) (IntKind.i64.wrap (1 * 2 ^ min x9.toNat IntKind.i64.bits)))).length : Int)) then (bif decide (x9.toNat < (r1.set x8.toNat (bits BinOp.or IntKind.i64 (eli r1 x8.toNat) (IntKind.i64.wrap (1 * 2 ^ min x9.toNat IntKind.i64.bits)))).length) then (bif decide (x8 < 0) then fail_ else (bif decide (0 ≤ x9) && decide (x9 < (↑(r1.set x8.toNat (bits BinOp.or IntKind.i64 (eli r1 x8.toNat) (IntKind.i64.wrap (1 * 2 ^ min x9.toNat IntKind.i64.bits)))).length : Int)) then (bif decide (x9.toNat < (r1.set x8.toNat (bits BinOp.or IntKind.i64 (eli r1 x8.toNat) (IntKind.i64.wrap (1 * 2 ^ min x9.toNat IntKind.i64.bits)))).length) then (next_ (IntKind.i64.wrap (x9 + 1), c_3.snd.fst, c_3.snd.snd, (r1.set x8.toNat (bits BinOp.or IntKind.i64 (eli r1 x8.toNat) (IntKind.i64.wrap (1 * 2 ^ min x9.toNat IntKind.i64.bits)))).set x9.toNat (bits BinOp.or IntKind.i64 (eli (r1.set x8.toNat (bits BinOp.or IntKind.i64 (eli r1 x8.toNat) (IntKind.i64.wrap (1 * 2 ^ min x9.toNat IntKind.i64.bits)))) x9.toNat) (IntKind.i64.wrap (1 * 2 ^ min x8.toNat IntKind.i64.bits))))) else fail_) else fail_)) else fail_) else fail_) else fail_) else fail_)) else fail_) else fail_) else (next_ (IntKind.i64.wrap (x9 + 1), c_3.snd.fst, c_3.snd.snd, r1))))))) fail_) else (out0_ (r0_0, r0_1, r1)))
theorem S.l20Net_step8_nat {α γ : Type} (g : α → γ) (x1 : Int) (x5 : Int) (x7 : Int) (x8 : Int) (x9 : Int) (r0_0 : List Int) (r0_1 : Int) (r1 : List Int) (next_ : Int × (List Int) × Int × (List Int) → α) (out0_ : (List Int) × Int × (List Int) → α) (fail_ : α) : g (S.l20Net_step8 x1 x5 x7 x8 x9 r0_0 r0_1 r1 next_ out0_ fail_) = S.l20Net_step8 x1 x5 x7 x8 x9 r0_0 r0_1 r1 (fun s => g (next_ s)) (fun d => g (out0_ d)) (g fail_) := by
  unfold S.l20Net_step8; simp only [apply_cnd g, apply_optC g, apply_sumC g]
noncomputable def S.l20Net_run8 (x1 : Int) (x5 : Int) (x7 : Int) (x8 : Int) : Nat → Int × (List Int) × Int × (List Int) → Option ((List Int) × Int × (List Int))
  | 0, _ => none
  | n + 1, s_ => S.l20Net_step8 x1 x5 x7 x8 s_.1 s_.2.1 s_.2.2.1 s_.2.2.2 (S.l20Net_run8 x1 x5 x7 x8 n) (fun d => some d) none
theorem S.l20Net_L8_run (x1 : Int) (x5 : Int) (x7 : Int) (x8 : Int) (n : Nat) (s_ : Int × (List Int) × Int × (List Int)) (k : X → St → R) : S.l20Net_L8 n { n := 125, t := [(0, (.ptr 0 0)), (1, (.int .i64 x1)), (5, (.int .i64 x5)), (6, (.own 1)), (7, (.int .i64 x7)), (8, (.int .i64 x8)), (9, (.int .i64 s_.1))], h := [.cells [(.ro true (.ints .u8 s_.2.1)), (.int .i64 s_.2.2.1)], .row (.ints .i64 s_.2.2.2)] } k = optC (S.l20Net_run8 x1 x5 x7 x8 n s_) (fun (r : (List Int) × Int × (List Int)) => k (.exit 2) { n := 125, t := [(0, (.ptr 0 0)), (1, (.int .i64 x1)), (5, (.int .i64 x5)), (6, (.own 1)), (7, (.int .i64 x7)), (8, (.int .i64 x8))], h := [.cells [(.ro true (.ints .u8 r.1)), (.int .i64 r.2.1)], .row (.ints .i64 r.2.2)] }) none := by
  induction n generalizing s_ with
  | zero => rfl
  | succ n ih =>
    have hu : S.l20Net_L8 (n + 1) { n := 125, t := [(0, (.ptr 0 0)), (1, (.int .i64 x1)), (5, (.int .i64 x5)), (6, (.own 1)), (7, (.int .i64 x7)), (8, (.int .i64 x8)), (9, (.int .i64 s_.1))], h := [.cells [(.ro true (.ints .u8 s_.2.1)), (.int .i64 s_.2.2.1)], .row (.ints .i64 s_.2.2.2)] } k = S.l20Net_step8 x1 x5 x7 x8 s_.1 s_.2.1 s_.2.2.1 s_.2.2.2 (fun s_ => S.l20Net_L8 n { n := 125, t := [(0, (.ptr 0 0)), (1, (.int .i64 x1)), (5, (.int .i64 x5)), (6, (.own 1)), (7, (.int .i64 x7)), (8, (.int .i64 x8)), (9, (.int .i64 s_.1))], h := [.cells [(.ro true (.ints .u8 s_.2.1)), (.int .i64 s_.2.2.1)], .row (.ints .i64 s_.2.2.2)] } k) (fun d => k (.exit 2) { n := 125, t := [(0, (.ptr 0 0)), (1, (.int .i64 x1)), (5, (.int .i64 x5)), (6, (.own 1)), (7, (.int .i64 x7)), (8, (.int .i64 x8))], h := [.cells [(.ro true (.ints .u8 d.1)), (.int .i64 d.2.1)], .row (.ints .i64 d.2.2)] }) none := by
      kernel_rfl
    have hs : (fun s_ : Int × (List Int) × Int × (List Int) => S.l20Net_L8 n { n := 125, t := [(0, (.ptr 0 0)), (1, (.int .i64 x1)), (5, (.int .i64 x5)), (6, (.own 1)), (7, (.int .i64 x7)), (8, (.int .i64 x8)), (9, (.int .i64 s_.1))], h := [.cells [(.ro true (.ints .u8 s_.2.1)), (.int .i64 s_.2.2.1)], .row (.ints .i64 s_.2.2.2)] } k) = fun s_ => optC (S.l20Net_run8 x1 x5 x7 x8 n s_) (fun (r : (List Int) × Int × (List Int)) => k (.exit 2) { n := 125, t := [(0, (.ptr 0 0)), (1, (.int .i64 x1)), (5, (.int .i64 x5)), (6, (.own 1)), (7, (.int .i64 x7)), (8, (.int .i64 x8))], h := [.cells [(.ro true (.ints .u8 r.1)), (.int .i64 r.2.1)], .row (.ints .i64 r.2.2)] }) none := funext ih
    rw [hu, hs]
    exact (S.l20Net_step8_nat (fun o => optC o (fun (r : (List Int) × Int × (List Int)) => k (.exit 2) { n := 125, t := [(0, (.ptr 0 0)), (1, (.int .i64 x1)), (5, (.int .i64 x5)), (6, (.own 1)), (7, (.int .i64 x7)), (8, (.int .i64 x8))], h := [.cells [(.ro true (.ints .u8 r.1)), (.int .i64 r.2.1)], .row (.ints .i64 r.2.2)] }) none) x1 x5 x7 x8 s_.1 s_.2.1 s_.2.2.1 s_.2.2.2 (S.l20Net_run8 x1 x5 x7 x8 n) (fun d => some d) none).symm
noncomputable def S.l20Net_step5 {α : Type} (x1 : Int) (x5 : Int) (x7 : Int) (x8 : Int) (r0_0 : List Int) (r0_1 : Int) (r1 : List Int) (next_ : Int × (List Int) × Int × (List Int) → α) (out0_ : (List Int) × Int × (List Int) → α) (fail_ : α) : α :=
  (bif decide (x8 < x5) then (optC (S.l20Net_run8 x1 x5 x7 x8 FUEL (0, r0_0, r0_1, r1)) (fun qy_5 => (next_ (IntKind.i64.wrap (x8 + 1), qy_5.1, qy_5.2.1, qy_5.2.2))) fail_) else (out0_ (r0_0, r0_1, r1)))
theorem S.l20Net_step5_nat {α γ : Type} (g : α → γ) (x1 : Int) (x5 : Int) (x7 : Int) (x8 : Int) (r0_0 : List Int) (r0_1 : Int) (r1 : List Int) (next_ : Int × (List Int) × Int × (List Int) → α) (out0_ : (List Int) × Int × (List Int) → α) (fail_ : α) : g (S.l20Net_step5 x1 x5 x7 x8 r0_0 r0_1 r1 next_ out0_ fail_) = S.l20Net_step5 x1 x5 x7 x8 r0_0 r0_1 r1 (fun s => g (next_ s)) (fun d => g (out0_ d)) (g fail_) := by
  unfold S.l20Net_step5; simp only [apply_cnd g, apply_optC g, apply_sumC g]
noncomputable def S.l20Net_run5 (x1 : Int) (x5 : Int) (x7 : Int) : Nat → Int × (List Int) × Int × (List Int) → Option ((List Int) × Int × (List Int))
  | 0, _ => none
  | n + 1, s_ => S.l20Net_step5 x1 x5 x7 s_.1 s_.2.1 s_.2.2.1 s_.2.2.2 (S.l20Net_run5 x1 x5 x7 n) (fun d => some d) none
theorem S.l20Net_L5_run (x1 : Int) (x5 : Int) (x7 : Int) (n : Nat) (s_ : Int × (List Int) × Int × (List Int)) (k : X → St → R) : S.l20Net_L5 n { n := 125, t := [(0, (.ptr 0 0)), (1, (.int .i64 x1)), (5, (.int .i64 x5)), (6, (.own 1)), (7, (.int .i64 x7)), (8, (.int .i64 s_.1))], h := [.cells [(.ro true (.ints .u8 s_.2.1)), (.int .i64 s_.2.2.1)], .row (.ints .i64 s_.2.2.2)] } k = optC (S.l20Net_run5 x1 x5 x7 n s_) (fun (r : (List Int) × Int × (List Int)) => k (.exit 0) { n := 125, t := [(0, (.ptr 0 0)), (1, (.int .i64 x1)), (5, (.int .i64 x5)), (6, (.own 1))], h := [.cells [(.ro true (.ints .u8 r.1)), (.int .i64 r.2.1)], .row (.ints .i64 r.2.2)] }) none := by
  induction n generalizing s_ with
  | zero => rfl
  | succ n ih =>
    have hu : S.l20Net_L5 (n + 1) { n := 125, t := [(0, (.ptr 0 0)), (1, (.int .i64 x1)), (5, (.int .i64 x5)), (6, (.own 1)), (7, (.int .i64 x7)), (8, (.int .i64 s_.1))], h := [.cells [(.ro true (.ints .u8 s_.2.1)), (.int .i64 s_.2.2.1)], .row (.ints .i64 s_.2.2.2)] } k = S.l20Net_step5 x1 x5 x7 s_.1 s_.2.1 s_.2.2.1 s_.2.2.2 (fun s_ => S.l20Net_L5 n { n := 125, t := [(0, (.ptr 0 0)), (1, (.int .i64 x1)), (5, (.int .i64 x5)), (6, (.own 1)), (7, (.int .i64 x7)), (8, (.int .i64 s_.1))], h := [.cells [(.ro true (.ints .u8 s_.2.1)), (.int .i64 s_.2.2.1)], .row (.ints .i64 s_.2.2.2)] } k) (fun d => k (.exit 0) { n := 125, t := [(0, (.ptr 0 0)), (1, (.int .i64 x1)), (5, (.int .i64 x5)), (6, (.own 1))], h := [.cells [(.ro true (.ints .u8 d.1)), (.int .i64 d.2.1)], .row (.ints .i64 d.2.2)] }) none := by
      refine Eq.trans (show S.l20Net_L5 (n + 1) { n := 125, t := [(0, (.ptr 0 0)), (1, (.int .i64 x1)), (5, (.int .i64 x5)), (6, (.own 1)), (7, (.int .i64 x7)), (8, (.int .i64 s_.1))], h := [.cells [(.ro true (.ints .u8 s_.2.1)), (.int .i64 s_.2.2.1)], .row (.ints .i64 s_.2.2.2)] } k = (bif decide (s_.1 < x5) then (S.l20Net_L8 FUEL { n := 125, t := [(0, (.ptr 0 0)), (1, (.int .i64 x1)), (5, (.int .i64 x5)), (6, (.own 1)), (7, (.int .i64 x7)), (8, (.int .i64 s_.1)), (9, (.int .i64 0))], h := [.cells [(.ro true (.ints .u8 s_.2.1)), (.int .i64 s_.2.2.1)], .row (.ints .i64 s_.2.2.2)] } (S.l20Net_k8 ((fun σ => S.l20Net_L5 n σ k), k))) else (k (.exit 0) { n := 125, t := [(0, (.ptr 0 0)), (1, (.int .i64 x1)), (5, (.int .i64 x5)), (6, (.own 1))], h := [.cells [(.ro true (.ints .u8 s_.2.1)), (.int .i64 s_.2.2.1)], .row (.ints .i64 s_.2.2.2)] })) by kernel_rfl) ?_
      refine cnd_congr ?_ ?_
      · refine (S.l20Net_L8_run x1 x5 x7 s_.1 FUEL (0, s_.2.1, s_.2.2.1, s_.2.2.2) (S.l20Net_k8 ((fun σ => S.l20Net_L5 n σ k), k))).trans (optC_congr (fun qy_5 => ?_))
        kernel_rfl
      · kernel_rfl
    have hs : (fun s_ : Int × (List Int) × Int × (List Int) => S.l20Net_L5 n { n := 125, t := [(0, (.ptr 0 0)), (1, (.int .i64 x1)), (5, (.int .i64 x5)), (6, (.own 1)), (7, (.int .i64 x7)), (8, (.int .i64 s_.1))], h := [.cells [(.ro true (.ints .u8 s_.2.1)), (.int .i64 s_.2.2.1)], .row (.ints .i64 s_.2.2.2)] } k) = fun s_ => optC (S.l20Net_run5 x1 x5 x7 n s_) (fun (r : (List Int) × Int × (List Int)) => k (.exit 0) { n := 125, t := [(0, (.ptr 0 0)), (1, (.int .i64 x1)), (5, (.int .i64 x5)), (6, (.own 1))], h := [.cells [(.ro true (.ints .u8 r.1)), (.int .i64 r.2.1)], .row (.ints .i64 r.2.2)] }) none := funext ih
    rw [hu, hs]
    exact (S.l20Net_step5_nat (fun o => optC o (fun (r : (List Int) × Int × (List Int)) => k (.exit 0) { n := 125, t := [(0, (.ptr 0 0)), (1, (.int .i64 x1)), (5, (.int .i64 x5)), (6, (.own 1))], h := [.cells [(.ro true (.ints .u8 r.1)), (.int .i64 r.2.1)], .row (.ints .i64 r.2.2)] }) none) x1 x5 x7 s_.1 s_.2.1 s_.2.2.1 s_.2.2.2 (S.l20Net_run5 x1 x5 x7 n) (fun d => some d) none).symm
noncomputable def S.l20Net_tree {α : Type} (rb : List Int) (rp : Int) (n_ : Int) (leaf0_ : (List Int) × Int × (List Int) → α) (fail_ : α) : α :=
  (optC (S.l20Rd_pick_t rb rp 6) (fun c_1 => (bif decide (0 ≤ IntKind.i64.wrap (1 + c_1.fst)) && small (IntKind.i64.wrap (1 + c_1.fst)).toNat && true then (optC (S.l20Rd_pick_t c_1.snd.fst c_1.snd.snd 4) (fun c_2 => (optC (S.l20Net_run5 n_ (IntKind.i64.wrap (1 + c_1.fst)) c_2.fst FUEL (0, c_2.snd.fst, c_2.snd.snd, List.replicate (IntKind.i64.wrap (1 + c_1.fst)).toNat 0)) (fun qy_6 => (optC (S.l20Rd_odd_t qy_6.1 qy_6.2.1 n_) (fun c_7 => (bif c_7.fst then (optC (S.l20Rd_pick_t c_7.snd.fst c_7.snd.snd 3) (fun c_8 => (bif c_8.fst == 0 then (leaf0_ (c_8.snd.fst, c_8.snd.snd, [])) else (bif c_8.fst == 1 then (bif decide (0 < (↑qy_6.2.2.length : Int)) then (bif decide (0 < qy_6.2.2.length) then (bif decide (0 < (↑qy_6.2.2.length : Int)) then (bif decide (0 < qy_6.2.2.length) then (leaf0_ (c_8.snd.fst, c_8.snd.snd, qy_6.2.2.set 0 (bits BinOp.or IntKind.i64 (eli qy_6.2.2 0) 1))) else fail_) else fail_) else fail_) else fail_) else (bif decide (0 < (↑qy_6.2.2.length : Int)) then (bif decide (0 < qy_6.2.2.length) then (bif decide (IntKind.i64.wrap (IntKind.i64.wrap (1 + c_1.fst) - 1) < 0) then fail_ else (bif decide (0 < (↑qy_6.2.2.length : Int)) then (bif decide (0 < qy_6.2.2.length) then (bif IntKind.i64.wrap (1 + c_1.fst) == 1 then (bif decide (0 < (↑(qy_6.2.2.set 0 (bits BinOp.xor IntKind.i64 (eli qy_6.2.2 0) (IntKind.i64.wrap (1 * 2 ^ min (IntKind.i64.wrap (IntKind.i64.wrap (1 + c_1.fst) - 1)).toNat IntKind.i64.bits)))).length : Int)) then (bif decide (0 < (qy_6.2.2.set 0 (bits BinOp.xor IntKind.i64 (eli qy_6.2.2 0) (IntKind.i64.wrap (1 * 2 ^ min (IntKind.i64.wrap (IntKind.i64.wrap (1 + c_1.fst) - 1)).toNat IntKind.i64.bits)))).length) then (leaf0_ (c_8.snd.fst, c_8.snd.snd, (qy_6.2.2.set 0 (bits BinOp.xor IntKind.i64 (eli qy_6.2.2 0) (IntKind.i64.wrap (1 * 2 ^ min (IntKind.i64.wrap (IntKind.i64.wrap (1 + c_1.fst) - 1)).toNat IntKind.i64.bits)))).set 0 (-1))) else fail_) else fail_) else (leaf0_ (c_8.snd.fst, c_8.snd.snd, qy_6.2.2.set 0 (bits BinOp.xor IntKind.i64 (eli qy_6.2.2 0) (IntKind.i64.wrap (1 * 2 ^ min (IntKind.i64.wrap (IntKind.i64.wrap (1 + c_1.fst) - 1)).toNat IntKind.i64.bits)))))) else fail_) else fail_)) else fail_) else fail_)))) fail_) else (leaf0_ (c_7.snd.fst, c_7.snd.snd, qy_6.2.2)))) fail_)) fail_)) fail_) else fail_)) fail_)
theorem S.l20Net_tree_nat {α γ : Type} (g : α → γ) (rb : List Int) (rp : Int) (n_ : Int) (leaf0_ : (List Int) × Int × (List Int) → α) (fail_ : α) : g (S.l20Net_tree rb rp n_ leaf0_ fail_) = S.l20Net_tree rb rp n_ (fun d => g (leaf0_ d)) (g fail_) := by
  unfold S.l20Net_tree; simp only [apply_cnd g, apply_optC g, apply_sumC g]
noncomputable def S.l20Net_t (rb : List Int) (rp : Int) (n_ : Int) : Option ((List Int) × Int × (List Int)) := S.l20Net_tree rb rp n_ (fun d => some d) none
theorem S.l20Net_den (rb : List Int) (rp : Int) (n_ : Int) (κ : V → List E → R) : S.l20Net_F [.ptr 0 0, .int .i64 n_] [.cells [.ro true (.ints .u8 rb), .int .i64 rp]] κ = optC (S.l20Net_t rb rp n_) (fun (r : (List Int) × Int × (List Int)) => κ (.own 1) [.cells [(.ro true (.ints .u8 r.1)), (.int .i64 r.2.1)], .row (.ints .i64 r.2.2)]) none := by
  have hu : S.l20Net_F [.ptr 0 0, .int .i64 n_] [.cells [.ro true (.ints .u8 rb), .int .i64 rp]] κ = S.l20Net_tree rb rp n_ (fun d => κ (.own 1) [.cells [(.ro true (.ints .u8 d.1)), (.int .i64 d.2.1)], .row (.ints .i64 d.2.2)]) none := by
    refine Eq.trans (show S.l20Net_F [.ptr 0 0, .int .i64 n_] [.cells [.ro true (.ints .u8 rb), .int .i64 rp]] κ = (optC (S.l20Rd_pick_t rb rp 6) (fun c_1 => (bif decide (0 ≤ IntKind.i64.wrap (1 + c_1.fst)) && small (IntKind.i64.wrap (1 + c_1.fst)).toNat && true then (optC (S.l20Rd_pick_t c_1.snd.fst c_1.snd.snd 4) (fun c_2 => (S.l20Net_L5 FUEL { n := 125, t := [(0, (.ptr 0 0)), (1, (.int .i64 n_)), (5, (.int .i64 (IntKind.i64.wrap (1 + c_1.fst)))), (6, (.own 1)), (7, (.int .i64 c_2.fst)), (8, (.int .i64 0))], h := [.cells [(.ro true (.ints .u8 c_2.snd.fst)), (.int .i64 c_2.snd.snd)], .row (.ints .i64 (List.replicate (IntKind.i64.wrap (1 + c_1.fst)).toNat 0))] } (S.l20Net_k5 κ))) none) else none)) none) by kernel_rfl) ?_
    refine optC_congr (fun c_1 => ?_)
    refine cnd_congr ?_ ?_
    · refine optC_congr (fun c_2 => ?_)
      refine (S.l20Net_L5_run n_ (IntKind.i64.wrap (1 + c_1.fst)) c_2.fst FUEL (0, c_2.snd.fst, c_2.snd.snd, List.replicate (IntKind.i64.wrap (1 + c_1.fst)).toNat 0) (S.l20Net_k5 κ)).trans (optC_congr (fun qy_6 => ?_))
      kernel_rfl
    · kernel_rfl
  rw [hu]
  exact (S.l20Net_tree_nat (fun o => optC o (fun (r : (List Int) × Int × (List Int)) => κ (.own 1) [.cells [(.ro true (.ints .u8 r.1)), (.int .i64 r.2.1)], .row (.ints .i64 r.2.2)]) none) rb rp n_ (fun d => some d) none).symm
noncomputable def S.l20Net_s : D.Spec where
  keep := false
  pure := false
  ds := [.invalid, .invalid]
  sp := fun args h κ => match args, h with
    | [.ptr 0 0, .int .i64 n_], [.cells [.ro true (.ints .u8 rb), .int .i64 rp]] => optC (S.l20Net_t rb rp n_) (fun (r : (List Int) × Int × (List Int)) => κ (.own 1) [.cells [(.ro true (.ints .u8 r.1)), (.int .i64 r.2.1)], .row (.ints .i64 r.2.2)]) none
    | _, _ => none
theorem S.l20Net_ok : SpecOk Try.prog 58 S.l20Net_s := by
  refine SpecOk.of TDok mixed (T := S.l20Net_T) ?_ (ann := S.l20Net_ann) Try.func58 rfl (by decide +kernel) ?_ ?_ ?_
  · intro p hp
    simp only [S.l20Net_T, List.mem_cons, List.not_mem_nil, or_false] at hp
    rcases hp with rfl | rfl
    · exact S.l20Rd_pick_ok
    · exact S.l20Rd_odd_ok
  · intro args h κ r hh
    simp only [S.l20Net_s] at hh
    split at hh
    · exact (S.l20Net_den _ _ _ κ).trans hh
    · cases hh
  · intro args h κ r hh
    simp only [S.l20Net_s] at hh ⊢
    split at hh
    · exact optC_law2 (F := fun (r : (List Int) × Int × (List Int)) κ => κ (.own 1) [.cells [(.ro true (.ints .u8 r.1)), (.int .i64 r.2.1)], .row (.ints .i64 r.2.2)]) (fun b κ r hb => ⟨_, _, hb, fun _ => rfl⟩) hh
    · cases hh
  · intro hh; cases hh

-- loop.example/guardsonnets/spec.l20Set
noncomputable def S.l20Set_T : List (Nat × D.Spec) := [(58, S.l20Net_s), (75, S.l20Rd_pick_s)]
def S.l20Set_ann : Nat → List Nat × List Nat
  | _ => ([], [])
noncomputable def S.l20Set_F (args : List V) (h : List E) (κ : V → List E → R) : R := funC TD (tableK S.l20Set_T) S.l20Set_ann (drawOk (tableP S.l20Set_T)) FUEL Try.f72 args h κ
noncomputable def S.l20Set_tree {α : Type} (rb : List Int) (rp : Int) (n_ : Int) (leaf0_ : Int × (List Int) × Int × (List Int) → α) (fail_ : α) : α :=
  (optC (S.l20Net_t rb rp n_) (fun c_1 => (optC (S.l20Rd_pick_t c_1.fst c_1.snd.fst (IntKind.i64.wrap (1 * 2 ^ min (↑c_1.snd.snd.length : Int).toNat IntKind.i64.bits))) (fun c_2 => (optC (S.l20Rd_pick_t c_2.snd.fst c_2.snd.snd 40) (fun c_3 => (leaf0_ (IntKind.i64.wrap (c_2.fst + IntKind.i64.wrap (IntKind.i64.wrap (c_3.fst.tdiv 39) * 64)), c_3.snd.fst, c_3.snd.snd, c_1.snd.snd))) fail_)) fail_)) fail_)
theorem S.l20Set_tree_nat {α γ : Type} (g : α → γ) (rb : List Int) (rp : Int) (n_ : Int) (leaf0_ : Int × (List Int) × Int × (List Int) → α) (fail_ : α) : g (S.l20Set_tree rb rp n_ leaf0_ fail_) = S.l20Set_tree rb rp n_ (fun d => g (leaf0_ d)) (g fail_) := by
  unfold S.l20Set_tree; simp only [apply_cnd g, apply_optC g, apply_sumC g]
noncomputable def S.l20Set_t (rb : List Int) (rp : Int) (n_ : Int) : Option (Int × (List Int) × Int × (List Int)) := S.l20Set_tree rb rp n_ (fun d => some d) none
theorem S.l20Set_den (rb : List Int) (rp : Int) (n_ : Int) (κ : V → List E → R) : S.l20Set_F [.ptr 0 0, .int .i64 n_] [.cells [.ro true (.ints .u8 rb), .int .i64 rp]] κ = optC (S.l20Set_t rb rp n_) (fun (r : Int × (List Int) × Int × (List Int)) => κ (.tup [(.own 1), (.int .i64 r.1)]) [.cells [(.ro true (.ints .u8 r.2.1)), (.int .i64 r.2.2.1)], .row (.ints .i64 r.2.2.2)]) none := by
  have hu : S.l20Set_F [.ptr 0 0, .int .i64 n_] [.cells [.ro true (.ints .u8 rb), .int .i64 rp]] κ = S.l20Set_tree rb rp n_ (fun d => κ (.tup [(.own 1), (.int .i64 d.1)]) [.cells [(.ro true (.ints .u8 d.2.1)), (.int .i64 d.2.2.1)], .row (.ints .i64 d.2.2.2)]) none := by
    kernel_rfl
  rw [hu]
  exact (S.l20Set_tree_nat (fun o => optC o (fun (r : Int × (List Int) × Int × (List Int)) => κ (.tup [(.own 1), (.int .i64 r.1)]) [.cells [(.ro true (.ints .u8 r.2.1)), (.int .i64 r.2.2.1)], .row (.ints .i64 r.2.2.2)]) none) rb rp n_ (fun d => some d) none).symm
noncomputable def S.l20Set_s : D.Spec where
  keep := false
  pure := false
  ds := [.invalid, .invalid]
  sp := fun args h κ => match args, h with
    | [.ptr 0 0, .int .i64 n_], [.cells [.ro true (.ints .u8 rb), .int .i64 rp]] => optC (S.l20Set_t rb rp n_) (fun (r : Int × (List Int) × Int × (List Int)) => κ (.tup [(.own 1), (.int .i64 r.1)]) [.cells [(.ro true (.ints .u8 r.2.1)), (.int .i64 r.2.2.1)], .row (.ints .i64 r.2.2.2)]) none
    | _, _ => none
theorem S.l20Set_ok : SpecOk Try.prog 72 S.l20Set_s := by
  refine SpecOk.of TDok mixed (T := S.l20Set_T) ?_ (ann := S.l20Set_ann) Try.func72 rfl (by decide +kernel) ?_ ?_ ?_
  · intro p hp
    simp only [S.l20Set_T, List.mem_cons, List.not_mem_nil, or_false] at hp
    rcases hp with rfl | rfl
    · exact S.l20Net_ok
    · exact S.l20Rd_pick_ok
  · intro args h κ r hh
    simp only [S.l20Set_s] at hh
    split at hh
    · exact (S.l20Set_den _ _ _ κ).trans hh
    · cases hh
  · intro args h κ r hh
    simp only [S.l20Set_s] at hh ⊢
    split at hh
    · exact optC_law2 (F := fun (r : Int × (List Int) × Int × (List Int)) κ => κ (.tup [(.own 1), (.int .i64 r.1)]) [.cells [(.ro true (.ints .u8 r.2.1)), (.int .i64 r.2.2.1)], .row (.ints .i64 r.2.2.2)]) (fun b κ r hb => ⟨_, _, hb, fun _ => rfl⟩) hh
    · cases hh
  · intro hh; cases hh

-- loop.example/guardsonnets/spec.l1In
noncomputable def S.l1In_T : List (Nat × D.Spec) := []
def S.l1In_ann : Nat → List Nat × List Nat
  | _ => ([], [])
noncomputable def S.l1In_F (args : List V) (h : List E) (κ : V → List E → R) : R := funC TD (tableK S.l1In_T) S.l1In_ann (drawOk (tableP S.l1In_T)) FUEL Try.f78 args h κ
noncomputable def S.l1In_tree {α : Type} (n_ : Int) (low : Int) (high : Int) (leaf0_ : Bool → α) (fail_ : α) : α :=
  (bif decide (n_ ≥ low) then (leaf0_ (decide (n_ ≤ high))) else (leaf0_ false))
theorem S.l1In_tree_nat {α γ : Type} (g : α → γ) (n_ : Int) (low : Int) (high : Int) (leaf0_ : Bool → α) (fail_ : α) : g (S.l1In_tree n_ low high leaf0_ fail_) = S.l1In_tree n_ low high (fun d => g (leaf0_ d)) (g fail_) := by
  unfold S.l1In_tree; simp only [apply_cnd g, apply_optC g, apply_sumC g]
noncomputable def S.l1In_t (n_ : Int) (low : Int) (high : Int) : Option (Bool) := S.l1In_tree n_ low high (fun d => some d) none
theorem S.l1In_den (n_ : Int) (low : Int) (high : Int) (κ : V → List E → R) : S.l1In_F [.int .i64 n_, .int .i64 low, .int .i64 high] [] κ = optC (S.l1In_t n_ low high) (fun (r : Bool) => κ (.bool r) []) none := by
  have hu : S.l1In_F [.int .i64 n_, .int .i64 low, .int .i64 high] [] κ = S.l1In_tree n_ low high (fun d => κ (.bool d) []) none := by
    kernel_rfl
  rw [hu]
  exact (S.l1In_tree_nat (fun o => optC o (fun (r : Bool) => κ (.bool r) []) none) n_ low high (fun d => some d) none).symm
noncomputable def S.l1In_s : D.Spec where
  keep := false
  pure := true
  ds := [.invalid, .invalid, .invalid]
  sp := fun args h κ => match args, h with
    | [.int .i64 n_, .int .i64 low, .int .i64 high], [] => optC (S.l1In_t n_ low high) (fun (r : Bool) => κ (.bool r) []) none
    | _, _ => none
theorem S.l1In_ok : SpecOk Try.prog 78 S.l1In_s := by
  refine SpecOk.of TDok mixed (T := S.l1In_T) ?_ (ann := S.l1In_ann) Try.func78 rfl (by decide +kernel) ?_ ?_ ?_
  · intro p hp; cases hp
  · intro args h κ r hh
    simp only [S.l1In_s] at hh
    split at hh
    · exact (S.l1In_den _ _ _ κ).trans hh
    · cases hh
  · intro args h κ r hh
    simp only [S.l1In_s] at hh ⊢
    split at hh
    · exact optC_law2 (F := fun (r : Bool) κ => κ (.bool r) []) (fun b κ r hb => ⟨_, _, hb, fun _ => rfl⟩) hh
    · cases hh
  · intro _ args h κ r hh
    simp only [S.l1In_s] at hh
    split at hh
    · exact ⟨rfl, fun _ => rfl⟩
    · cases hh

-- loop.example/guardsonnets/spec.NetOk
noncomputable def S.NetOk_T : List (Nat × D.Spec) := [(78, S.l1In_s)]
def S.NetOk_ann : Nat → List Nat × List Nat
  | 12 => ([0, 4, 5], [0, 2, 4])
  | 9 => ([0, 4], [2])
  | 4 => ([0, 3], [0, 2])
  | _ => ([], [])
noncomputable def S.NetOk_F (args : List V) (h : List E) (κ : V → List E → R) : R := funC TD (tableK S.NetOk_T) S.NetOk_ann (drawOk (tableP S.NetOk_T)) FUEL Try.f60 args h κ
noncomputable def S.NetOk_L12 (n : Nat) (σ : St) (k : X → St → R) : R := iterC 0 (fun σ k => denC TD (tableK S.NetOk_T) S.NetOk_ann (drawOk (tableP S.NetOk_T)) 0 FUEL ((findLoop 12 (Try.f60.body.getD .skip)).getD .skip) σ k) [0, 4, 5] [0, 2, 4] n σ k
noncomputable def S.NetOk_L9 (n : Nat) (σ : St) (k : X → St → R) : R := iterC 0 (fun σ k => denC TD (tableK S.NetOk_T) S.NetOk_ann (drawOk (tableP S.NetOk_T)) 0 FUEL ((findLoop 9 (Try.f60.body.getD .skip)).getD .skip) σ k) [0, 4] [2] n σ k
noncomputable def S.NetOk_L4 (n : Nat) (σ : St) (k : X → St → R) : R := iterC 0 (fun σ k => denC TD (tableK S.NetOk_T) S.NetOk_ann (drawOk (tableP S.NetOk_T)) 0 FUEL ((findLoop 4 (Try.f60.body.getD .skip)).getD .skip) σ k) [0, 3] [0, 2] n σ k
noncomputable def S.NetOk_k4 (κ : V → List E → R) : X → St → R := (afterC TD (tableK S.NetOk_T) S.NetOk_ann (drawOk (tableP S.NetOk_T)) 0 FUEL 4 (Try.f60.body.getD .skip) (finC TD 0 Try.f60 κ)).getD (fun _ _ => none)
noncomputable def S.NetOk_k12 (c : (St → R) × (X → St → R)) : X → St → R := (afterC TD (tableK S.NetOk_T) S.NetOk_ann (drawOk (tableP S.NetOk_T)) 0 FUEL 12 ((findLoop 9 (Try.f60.body.getD .skip)).getD .skip) (roundC 0 [0, 4] [2] c.1 c.2)).getD (fun _ _ => none)
noncomputable def S.NetOk_k9 (κ : V → List E → R) : X → St → R := (afterC TD (tableK S.NetOk_T) S.NetOk_ann (drawOk (tableP S.NetOk_T)) 0 FUEL 9 (Try.f60.body.getD .skip) (finC TD 0 Try.f60 κ)).getD (fun _ _ => none)
noncomputable def S.NetOk_step4 {α : Type} (x0 : List Int) (x3 : Int) (next_ : Int → α) (out0_ : Bool → α) (out1_ : Unit → α) (fail_ : α) : α :=
  (bif decide (x3 < (↑x0.length : Int)) then (bif decide (0 ≤ x3) && decide (x3 < (↑x0.length : Int)) then (optC (S.l1In_t (eli x0 x3.toNat) 0 (IntKind.i64.wrap (IntKind.i64.wrap (1 * 2 ^ min (↑x0.length : Int).toNat IntKind.i64.bits) - 1))) (fun c_2 => (bif !c_2 then (out0_ false) else (next_ (IntKind.i64.wrap (x3 + 1))))) fail_) else fail_) else (out1_ ()))
theorem S.NetOk_step4_nat {α γ : Type} (g : α → γ) (x0 : List Int) (x3 : Int) (next_ : Int → α) (out0_ : Bool → α) (out1_ : Unit → α) (fail_ : α) : g (S.NetOk_step4 x0 x3 next_ out0_ out1_ fail_) = S.NetOk_step4 x0 x3 (fun s => g (next_ s)) (fun d => g (out0_ d)) (fun d => g (out1_ d)) (g fail_) := by
  unfold S.NetOk_step4; simp only [apply_cnd g, apply_optC g, apply_sumC g]
noncomputable def S.NetOk_run4 (x0 : List Int) : Nat → Int → Option ((Bool) ⊕ (Unit))
  | 0, _ => none
  | n + 1, s_ => S.NetOk_step4 x0 s_ (S.NetOk_run4 x0 n) (fun d => some ((Sum.inl d))) (fun d => some ((Sum.inr d))) none
theorem S.NetOk_L4_run (x0 : List Int) (n : Nat) (s_ : Int) (k : X → St → R) : S.NetOk_L4 n { n := 68, t := [(0, (.ro false (.ints .i64 x0))), (3, (.int .i64 s_))], h := [] } k = optC (S.NetOk_run4 x0 n s_) (fun (r : (Bool) ⊕ (Unit)) => (sumC r (fun (r : Bool) => k (.ret) { n := 68, t := [(0, (.ro false (.ints .i64 x0))), (2, (.bool r))], h := [] }) (fun (r : Unit) => k (.exit 0) { n := 68, t := [(0, (.ro false (.ints .i64 x0))), (2, .junk)], h := [] }))) none := by
  induction n generalizing s_ with
  | zero => rfl
  | succ n ih =>
    have hu : S.NetOk_L4 (n + 1) { n := 68, t := [(0, (.ro false (.ints .i64 x0))), (3, (.int .i64 s_))], h := [] } k = S.NetOk_step4 x0 s_ (fun s_ => S.NetOk_L4 n { n := 68, t := [(0, (.ro false (.ints .i64 x0))), (3, (.int .i64 s_))], h := [] } k) (fun d => k (.ret) { n := 68, t := [(0, (.ro false (.ints .i64 x0))), (2, (.bool d))], h := [] }) (fun d => k (.exit 0) { n := 68, t := [(0, (.ro false (.ints .i64 x0))), (2, .junk)], h := [] }) none := by
      kernel_rfl
    have hs : (fun s_ : Int => S.NetOk_L4 n { n := 68, t := [(0, (.ro false (.ints .i64 x0))), (3, (.int .i64 s_))], h := [] } k) = fun s_ => optC (S.NetOk_run4 x0 n s_) (fun (r : (Bool) ⊕ (Unit)) => (sumC r (fun (r : Bool) => k (.ret) { n := 68, t := [(0, (.ro false (.ints .i64 x0))), (2, (.bool r))], h := [] }) (fun (r : Unit) => k (.exit 0) { n := 68, t := [(0, (.ro false (.ints .i64 x0))), (2, .junk)], h := [] }))) none := funext ih
    rw [hu, hs]
    exact (S.NetOk_step4_nat (fun o => optC o (fun (r : (Bool) ⊕ (Unit)) => (sumC r (fun (r : Bool) => k (.ret) { n := 68, t := [(0, (.ro false (.ints .i64 x0))), (2, (.bool r))], h := [] }) (fun (r : Unit) => k (.exit 0) { n := 68, t := [(0, (.ro false (.ints .i64 x0))), (2, .junk)], h := [] }))) none) x0 s_ (S.NetOk_run4 x0 n) (fun d => some ((Sum.inl d))) (fun d => some ((Sum.inr d))) none).symm
noncomputable def S.NetOk_step12 {α : Type} (x0 : List Int) (x4 : Int) (x5 : Int) (next_ : Int → α) (out0_ : Bool → α) (out1_ : Unit → α) (fail_ : α) : α :=
  (bif decide (x5 < (↑x0.length : Int)) then (bif decide (0 ≤ x4) && decide (x4 < (↑x0.length : Int)) then (bif decide (x5 < 0) then fail_ else (bif decide (0 ≤ x5) && decide (x5 < (↑x0.length : Int)) then (bif decide (x4 < 0) then fail_ else (bif !((eli x0 x4.toNat).fdiv (2 ^ min x5.toNat IntKind.i64.bits)).tmod 2 == ((eli x0 x5.toNat).fdiv (2 ^ min x4.toNat IntKind.i64.bits)).tmod 2 then (out0_ false) else (bif x5 == x4 then (bif decide (0 ≤ x4) && decide (x4 < (↑x0.length : Int)) then (bif decide (x5 < 0) then fail_ else (bif ((eli x0 x4.toNat).fdiv (2 ^ min x5.toNat IntKind.i64.bits)).tmod 2 == 1 then (out0_ false) else (next_ (IntKind.i64.wrap (x5 + 1))))) else fail_) else (next_ (IntKind.i64.wrap (x5 + 1)))))) else fail_)) else fail_) else (out1_ ()))
theorem S.NetOk_step12_nat {α γ : Type} (g : α → γ) (x0 : List Int) (x4 : Int) (x5 : Int) (next_ : Int → α) (out0_ : Bool → α) (out1_ : Unit → α) (fail_ : α) : g (S.NetOk_step12 x0 x4 x5 next_ out0_ out1_ fail_) = S.NetOk_step12 x0 x4 x5 (fun s => g (next_ s)) (fun d => g (out0_ d)) (fun d => g (out1_ d)) (g fail_) := by
  unfold S.NetOk_step12; simp only [apply_cnd g, apply_optC g, apply_sumC g]
noncomputable def S.NetOk_run12 (x0 : List Int) (x4 : Int) : Nat → Int → Option ((Bool) ⊕ (Unit))
  | 0, _ => none
  | n + 1, s_ => S.NetOk_step12 x0 x4 s_ (S.NetOk_run12 x0 x4 n) (fun d => some ((Sum.inl d))) (fun d => some ((Sum.inr d))) none
theorem S.NetOk_L12_run (x0 : List Int) (x4 : Int) (n : Nat) (s_ : Int) (k : X → St → R) : S.NetOk_L12 n { n := 68, t := [(0, (.ro false (.ints .i64 x0))), (4, (.int .i64 x4)), (5, (.int .i64 s_))], h := [] } k = optC (S.NetOk_run12 x0 x4 n s_) (fun (r : (Bool) ⊕ (Unit)) => (sumC r (fun (r : Bool) => k (.ret) { n := 68, t := [(0, (.ro false (.ints .i64 x0))), (2, (.bool r)), (4, (.int .i64 x4))], h := [] }) (fun (r : Unit) => k (.exit 4) { n := 68, t := [(0, (.ro false (.ints .i64 x0))), (2, .junk), (4, (.int .i64 x4))], h := [] }))) none := by
  induction n generalizing s_ with
  | zero => rfl
  | succ n ih =>
    have hu : S.NetOk_L12 (n + 1) { n := 68, t := [(0, (.ro false (.ints .i64 x0))), (4, (.int .i64 x4)), (5, (.int .i64 s_))], h := [] } k = S.NetOk_step12 x0 x4 s_ (fun s_ => S.NetOk_L12 n { n := 68, t := [(0, (.ro false (.ints .i64 x0))), (4, (.int .i64 x4)), (5, (.int .i64 s_))], h := [] } k) (fun d => k (.ret) { n := 68, t := [(0, (.ro false (.ints .i64 x0))), (2, (.bool d)), (4, (.int .i64 x4))], h := [] }) (fun d => k (.exit 4) { n := 68, t := [(0, (.ro false (.ints .i64 x0))), (2, .junk), (4, (.int .i64 x4))], h := [] }) none := by
      kernel_rfl
    have hs : (fun s_ : Int => S.NetOk_L12 n { n := 68, t := [(0, (.ro false (.ints .i64 x0))), (4, (.int .i64 x4)), (5, (.int .i64 s_))], h := [] } k) = fun s_ => optC (S.NetOk_run12 x0 x4 n s_) (fun (r : (Bool) ⊕ (Unit)) => (sumC r (fun (r : Bool) => k (.ret) { n := 68, t := [(0, (.ro false (.ints .i64 x0))), (2, (.bool r)), (4, (.int .i64 x4))], h := [] }) (fun (r : Unit) => k (.exit 4) { n := 68, t := [(0, (.ro false (.ints .i64 x0))), (2, .junk), (4, (.int .i64 x4))], h := [] }))) none := funext ih
    rw [hu, hs]
    exact (S.NetOk_step12_nat (fun o => optC o (fun (r : (Bool) ⊕ (Unit)) => (sumC r (fun (r : Bool) => k (.ret) { n := 68, t := [(0, (.ro false (.ints .i64 x0))), (2, (.bool r)), (4, (.int .i64 x4))], h := [] }) (fun (r : Unit) => k (.exit 4) { n := 68, t := [(0, (.ro false (.ints .i64 x0))), (2, .junk), (4, (.int .i64 x4))], h := [] }))) none) x0 x4 s_ (S.NetOk_run12 x0 x4 n) (fun d => some ((Sum.inl d))) (fun d => some ((Sum.inr d))) none).symm
noncomputable def S.NetOk_step9 {α : Type} (x0 : List Int) (x4 : Int) (next_ : Int → α) (out0_ : Bool → α) (out1_ : Unit → α) (fail_ : α) : α :=
  (bif decide (x4 < (↑x0.length : Int)) then (optC (S.NetOk_run12 x0 x4 FUEL 0) (fun qy_4 => (sumC qy_4 (fun (qy_4 : Bool) => (out0_ qy_4)) (fun (qy_4 : Unit) => (next_ (IntKind.i64.wrap (x4 + 1)))))) fail_) else (out1_ ()))
theorem S.NetOk_step9_nat {α γ : Type} (g : α → γ) (x0 : List Int) (x4 : Int) (next_ : Int → α) (out0_ : Bool → α) (out1_ : Unit → α) (fail_ : α) : g (S.NetOk_step9 x0 x4 next_ out0_ out1_ fail_) = S.NetOk_step9 x0 x4 (fun s => g (next_ s)) (fun d => g (out0_ d)) (fun d => g (out1_ d)) (g fail_) := by
  unfold S.NetOk_step9; simp only [apply_cnd g, apply_optC g, apply_sumC g]
noncomputable def S.NetOk_run9 (x0 : List Int) : Nat → Int → Option ((Bool) ⊕ (Unit))
  | 0, _ => none
  | n + 1, s_ => S.NetOk_step9 x0 s_ (S.NetOk_run9 x0 n) (fun d => some ((Sum.inl d))) (fun d => some ((Sum.inr d))) none
theorem S.NetOk_L9_run (x0 : List Int) (n : Nat) (s_ : Int) (k : X → St → R) : S.NetOk_L9 n { n := 68, t := [(0, (.ro false (.ints .i64 x0))), (4, (.int .i64 s_))], h := [] } k = optC (S.NetOk_run9 x0 n s_) (fun (r : (Bool) ⊕ (Unit)) => (sumC r (fun (r : Bool) => k (.ret) { n := 68, t := [(2, (.bool r))], h := [] }) (fun (r : Unit) => k (.exit 2) { n := 68, t := [(2, .junk)], h := [] }))) none := by
  induction n generalizing s_ with
  | zero => rfl
  | succ n ih =>
    have hu : S.NetOk_L9 (n + 1) { n := 68, t := [(0, (.ro false (.ints .i64 x0))), (4, (.int .i64 s_))], h := [] } k = S.NetOk_step9 x0 s_ (fun s_ => S.NetOk_L9 n { n := 68, t := [(0, (.ro false (.ints .i64 x0))), (4, (.int .i64 s_))], h := [] } k) (fun d => k (.ret) { n := 68, t := [(2, (.bool d))], h := [] }) (fun d => k (.exit 2) { n := 68, t := [(2, .junk)], h := [] }) none := by
      refine Eq.trans (show S.NetOk_L9 (n + 1) { n := 68, t := [(0, (.ro false (.ints .i64 x0))), (4, (.int .i64 s_))], h := [] } k = (bif decide (s_ < (↑x0.length : Int)) then (S.NetOk_L12 FUEL { n := 68, t := [(0, (.ro false (.ints .i64 x0))), (4, (.int .i64 s_)), (5, (.int .i64 0))], h := [] } (S.NetOk_k12 ((fun σ => S.NetOk_L9 n σ k), k))) else (k (.exit 2) { n := 68, t := [(2, .junk)], h := [] })) by kernel_rfl) ?_
      refine cnd_congr ?_ ?_
      · refine (S.NetOk_L12_run x0 s_ FUEL 0 (S.NetOk_k12 ((fun σ => S.NetOk_L9 n σ k), k))).trans (optC_congr (fun qy_4 => ?_))
        rcases qy_4 with qy_4 | qy_4
        · kernel_rfl
        · kernel_rfl
      · kernel_rfl
    have hs : (fun s_ : Int => S.NetOk_L9 n { n := 68, t := [(0, (.ro false (.ints .i64 x0))), (4, (.int .i64 s_))], h := [] } k) = fun s_ => optC (S.NetOk_run9 x0 n s_) (fun (r : (Bool) ⊕ (Unit)) => (sumC r (fun (r : Bool) => k (.ret) { n := 68, t := [(2, (.bool r))], h := [] }) (fun (r : Unit) => k (.exit 2) { n := 68, t := [(2, .junk)], h := [] }))) none := funext ih
    rw [hu, hs]
    exact (S.NetOk_step9_nat (fun o => optC o (fun (r : (Bool) ⊕ (Unit)) => (sumC r (fun (r : Bool) => k (.ret) { n := 68, t := [(2, (.bool r))], h := [] }) (fun (r : Unit) => k (.exit 2) { n := 68, t := [(2, .junk)], h := [] }))) none) x0 s_ (S.NetOk_run9 x0 n) (fun d => some ((Sum.inl d))) (fun d => some ((Sum.inr d))) none).symm
noncomputable def S.NetOk_tree {α : Type} (net : List Int) (leaf0_ : Bool → α) (fail_ : α) : α :=
  (optC (S.l1In_t (↑net.length : Int) 1 6) (fun c_1 => (bif !c_1 then (leaf0_ false) else (optC (S.NetOk_run4 net FUEL 0) (fun qy_3 => (sumC qy_3 (fun (qy_3 : Bool) => (leaf0_ qy_3)) (fun (qy_3 : Unit) => (optC (S.NetOk_run9 net FUEL 0) (fun qy_5 => (sumC qy_5 (fun (qy_5 : Bool) => (leaf0_ qy_5)) (fun (qy_5 : Unit) => (leaf0_ true)))) fail_)))) fail_))) fail_)
theorem S.NetOk_tree_nat {α γ : Type} (g : α → γ) (net : List Int) (leaf0_ : Bool → α) (fail_ : α) : g (S.NetOk_tree net leaf0_ fail_) = S.NetOk_tree net (fun d => g (leaf0_ d)) (g fail_) := by
  unfold S.NetOk_tree; simp only [apply_cnd g, apply_optC g, apply_sumC g]
noncomputable def S.NetOk_t (net : List Int) : Option (Bool) := S.NetOk_tree net (fun d => some d) none
theorem S.NetOk_den (net : List Int) (κ : V → List E → R) : S.NetOk_F [.ro false (.ints .i64 net)] [] κ = optC (S.NetOk_t net) (fun (r : Bool) => κ (.bool r) []) none := by
  have hu : S.NetOk_F [.ro false (.ints .i64 net)] [] κ = S.NetOk_tree net (fun d => κ (.bool d) []) none := by
    refine Eq.trans (show S.NetOk_F [.ro false (.ints .i64 net)] [] κ = (optC (S.l1In_t (↑net.length : Int) 1 6) (fun c_1 => (bif !c_1 then (κ (.bool false) []) else (S.NetOk_L4 FUEL { n := 68, t := [(0, (.ro false (.ints .i64 net))), (3, (.int .i64 0))], h := [] } (S.NetOk_k4 κ)))) none) by kernel_rfl) ?_
    refine optC_congr (fun c_1 => ?_)
    refine cnd_congr ?_ ?_
    · kernel_rfl
    · refine (S.NetOk_L4_run net FUEL 0 (S.NetOk_k4 κ)).trans (optC_congr (fun qy_3 => ?_))
      rcases qy_3 with qy_3 | qy_3
      · kernel_rfl
      · refine Eq.trans (show (S.NetOk_k4 κ (.exit 0) { n := 68, t := [(0, (.ro false (.ints .i64 net))), (2, .junk)], h := [] }) = (S.NetOk_L9 FUEL { n := 68, t := [(0, (.ro false (.ints .i64 net))), (4, (.int .i64 0))], h := [] } (S.NetOk_k9 κ)) by kernel_rfl) ?_
        refine (S.NetOk_L9_run net FUEL 0 (S.NetOk_k9 κ)).trans (optC_congr (fun qy_5 => ?_))
        rcases qy_5 with qy_5 | qy_5
        · kernel_rfl
        · kernel_rfl
  rw [hu]
  exact (S.NetOk_tree_nat (fun o => optC o (fun (r : Bool) => κ (.bool r) []) none) net (fun d => some d) none).symm
noncomputable def S.NetOk_s : D.Spec where
  keep := false
  pure := true
  ds := [.int .i64]
  sp := fun args h κ => match args, h with
    | [.ro false (.ints .i64 net)], [] => optC (S.NetOk_t net) (fun (r : Bool) => κ (.bool r) []) none
    | _, _ => none
theorem S.NetOk_ok : SpecOk Try.prog 60 S.NetOk_s := by
  refine SpecOk.of TDok mixed (T := S.NetOk_T) ?_ (ann := S.NetOk_ann) Try.func60 rfl (by decide +kernel) ?_ ?_ ?_
  · intro p hp
    simp only [S.NetOk_T, List.mem_cons, List.not_mem_nil, or_false] at hp
    rcases hp with rfl
    · exact S.l1In_ok
  · intro args h κ r hh
    simp only [S.NetOk_s] at hh
    split at hh
    · exact (S.NetOk_den _ κ).trans hh
    · cases hh
  · intro args h κ r hh
    simp only [S.NetOk_s] at hh ⊢
    split at hh
    · exact optC_law2 (F := fun (r : Bool) κ => κ (.bool r) []) (fun b κ r hb => ⟨_, _, hb, fun _ => rfl⟩) hh
    · cases hh
  · intro _ args h κ r hh
    simp only [S.NetOk_s] at hh
    split at hh
    · exact ⟨rfl, fun _ => rfl⟩
    · cases hh

-- loop.example/guardsonnets/spec.l1SetOk
noncomputable def S.l1SetOk_T : List (Nat × D.Spec) := [(60, S.NetOk_s), (78, S.l1In_s)]
def S.l1SetOk_ann : Nat → List Nat × List Nat
  | _ => ([], [])
noncomputable def S.l1SetOk_F (args : List V) (h : List E) (κ : V → List E → R) : R := funC TD (tableK S.l1SetOk_T) S.l1SetOk_ann (drawOk (tableP S.l1SetOk_T)) FUEL Try.f73 args h κ
noncomputable def S.l1SetOk_tree {α : Type} (net : List Int) (set_ : Int) (leaf0_ : Bool → α) (fail_ : α) : α :=
  (optC (S.NetOk_t net) (fun c_1 => (bif c_1 then (optC (S.l1In_t set_ 0 (IntKind.i64.wrap (IntKind.i64.wrap (1 * 2 ^ min (↑net.length : Int).toNat IntKind.i64.bits) - 1))) (fun c_2 => (leaf0_ c_2)) fail_) else (leaf0_ false))) fail_)
theorem S.l1SetOk_tree_nat {α γ : Type} (g : α → γ) (net : List Int) (set_ : Int) (leaf0_ : Bool → α) (fail_ : α) : g (S.l1SetOk_tree net set_ leaf0_ fail_) = S.l1SetOk_tree net set_ (fun d => g (leaf0_ d)) (g fail_) := by
  unfold S.l1SetOk_tree; simp only [apply_cnd g, apply_optC g, apply_sumC g]
noncomputable def S.l1SetOk_t (net : List Int) (set_ : Int) : Option (Bool) := S.l1SetOk_tree net set_ (fun d => some d) none
theorem S.l1SetOk_den (net : List Int) (set_ : Int) (κ : V → List E → R) : S.l1SetOk_F [.ro false (.ints .i64 net), .int .i64 set_] [] κ = optC (S.l1SetOk_t net set_) (fun (r : Bool) => κ (.bool r) []) none := by
  have hu : S.l1SetOk_F [.ro false (.ints .i64 net), .int .i64 set_] [] κ = S.l1SetOk_tree net set_ (fun d => κ (.bool d) []) none := by
    kernel_rfl
  rw [hu]
  exact (S.l1SetOk_tree_nat (fun o => optC o (fun (r : Bool) => κ (.bool r) []) none) net set_ (fun d => some d) none).symm
noncomputable def S.l1SetOk_s : D.Spec where
  keep := false
  pure := true
  ds := [.int .i64, .invalid]
  sp := fun args h κ => match args, h with
    | [.ro false (.ints .i64 net), .int .i64 set_], [] => optC (S.l1SetOk_t net set_) (fun (r : Bool) => κ (.bool r) []) none
    | _, _ => none
theorem S.l1SetOk_ok : SpecOk Try.prog 73 S.l1SetOk_s := by
  refine SpecOk.of TDok mixed (T := S.l1SetOk_T) ?_ (ann := S.l1SetOk_ann) Try.func73 rfl (by decide +kernel) ?_ ?_ ?_
  · intro p hp
    simp only [S.l1SetOk_T, List.mem_cons, List.not_mem_nil, or_false] at hp
    rcases hp with rfl | rfl
    · exact S.NetOk_ok
    · exact S.l1In_ok
  · intro args h κ r hh
    simp only [S.l1SetOk_s] at hh
    split at hh
    · exact (S.l1SetOk_den _ _ κ).trans hh
    · cases hh
  · intro args h κ r hh
    simp only [S.l1SetOk_s] at hh ⊢
    split at hh
    · exact optC_law2 (F := fun (r : Bool) κ => κ (.bool r) []) (fun b κ r hb => ⟨_, _, hb, fun _ => rfl⟩) hh
    · cases hh
  · intro _ args h κ r hh
    simp only [S.l1SetOk_s] at hh
    split at hh
    · exact ⟨rfl, fun _ => rfl⟩
    · cases hh

-- loop.example/guardsonnets/spec.l1Near
noncomputable def S.l1Near_T : List (Nat × D.Spec) := []
def S.l1Near_ann : Nat → List Nat × List Nat
  | 3 => ([0, 1, 5, 6], [5])
  | _ => ([], [])
noncomputable def S.l1Near_F (args : List V) (h : List E) (κ : V → List E → R) : R := funC TD (tableK S.l1Near_T) S.l1Near_ann (drawOk (tableP S.l1Near_T)) FUEL Try.f83 args h κ
noncomputable def S.l1Near_L3 (n : Nat) (σ : St) (k : X → St → R) : R := iterC 0 (fun σ k => denC TD (tableK S.l1Near_T) S.l1Near_ann (drawOk (tableP S.l1Near_T)) 0 FUEL ((findLoop 3 (Try.f83.body.getD .skip)).getD .skip) σ k) [0, 1, 5, 6] [5] n σ k
noncomputable def S.l1Near_k3 (κ : V → List E → R) : X → St → R := (afterC TD (tableK S.l1Near_T) S.l1Near_ann (drawOk (tableP S.l1Near_T)) 0 FUEL 3 (Try.f83.body.getD .skip) (finC TD 0 Try.f83 κ)).getD (fun _ _ => none)
noncomputable def S.l1Near_step3 {α : Type} (x0 : List Int) (x1 : Int) (x5 : Int) (x6 : Int) (next_ : Int × Int → α) (out0_ : Int → α) (fail_ : α) : α :=
  (bif decide (x6 < (↑x0.length : Int)) then (bif decide (x6 < 0) then fail_ else (bif (x1.fdiv (2 ^ min x6.toNat IntKind.i64.bits)).tmod 2 == 1 then (bif decide (0 ≤ x6) && decide (x6 < (↑x0.length : Int)) then (next_ (bits BinOp.or IntKind.i64 x5 (eli x0 x6.toNat), IntKind.i64.wrap (x6 + 1))) else fail_) else (next_ (x5, IntKind.i64.wrap (x6 + 1))))) else (out0_ x5))
theorem S.l1Near_step3_nat {α γ : Type} (g : α → γ) (x0 : List Int) (x1 : Int) (x5 : Int) (x6 : Int) (next_ : Int × Int → α) (out0_ : Int → α) (fail_ : α) : g (S.l1Near_step3 x0 x1 x5 x6 next_ out0_ fail_) = S.l1Near_step3 x0 x1 x5 x6 (fun s => g (next_ s)) (fun d => g (out0_ d)) (g fail_) := by
  unfold S.l1Near_step3; simp only [apply_cnd g, apply_optC g, apply_sumC g]
noncomputable def S.l1Near_run3 (x0 : List Int) (x1 : Int) : Nat → Int × Int → Option (Int)
  | 0, _ => none
  | n + 1, s_ => S.l1Near_step3 x0 x1 s_.1 s_.2 (S.l1Near_run3 x0 x1 n) (fun d => some d) none
theorem S.l1Near_L3_run (x0 : List Int) (x1 : Int) (n : Nat) (s_ : Int × Int) (k : X → St → R) : S.l1Near_L3 n { n := 25, t := [(0, (.ro false (.ints .i64 x0))), (1, (.int .i64 x1)), (5, (.int .i64 s_.1)), (6, (.int .i64 s_.2))], h := [] } k = optC (S.l1Near_run3 x0 x1 n s_) (fun (r : Int) => k (.exit 0) { n := 25, t := [(5, (.int .i64 r))], h := [] }) none := by
  induction n generalizing s_ with
  | zero => rfl
  | succ n ih =>
    have hu : S.l1Near_L3 (n + 1) { n := 25, t := [(0, (.ro false (.ints .i64 x0))), (1, (.int .i64 x1)), (5, (.int .i64 s_.1)), (6, (.int .i64 s_.2))], h := [] } k = S.l1Near_step3 x0 x1 s_.1 s_.2 (fun s_ => S.l1Near_L3 n { n := 25, t := [(0, (.ro false (.ints .i64 x0))), (1, (.int .i64 x1)), (5, (.int .i64 s_.1)), (6, (.int .i64 s_.2))], h := [] } k) (fun d => k (.exit 0) { n := 25, t := [(5, (.int .i64 d))], h := [] }) none := by
      kernel_rfl
    have hs : (fun s_ : Int × Int => S.l1Near_L3 n { n := 25, t := [(0, (.ro false (.ints .i64 x0))), (1, (.int .i64 x1)), (5, (.int .i64 s_.1)), (6, (.int .i64 s_.2))], h := [] } k) = fun s_ => optC (S.l1Near_run3 x0 x1 n s_) (fun (r : Int) => k (.exit 0) { n := 25, t := [(5, (.int .i64 r))], h := [] }) none := funext ih
    rw [hu, hs]
    exact (S.l1Near_step3_nat (fun o => optC o (fun (r : Int) => k (.exit 0) { n := 25, t := [(5, (.int .i64 r))], h := [] }) none) x0 x1 s_.1 s_.2 (S.l1Near_run3 x0 x1 n) (fun d => some d) none).symm
noncomputable def S.l1Near_tree {α : Type} (net : List Int) (set_ : Int) (leaf0_ : Int → α) (fail_ : α) : α :=
  (optC (S.l1Near_run3 net set_ FUEL (0, 0)) (fun qy_1 => (leaf0_ qy_1)) fail_)
theorem S.l1Near_tree_nat {α γ : Type} (g : α → γ) (net : List Int) (set_ : Int) (leaf0_ : Int → α) (fail_ : α) : g (S.l1Near_tree net set_ leaf0_ fail_) = S.l1Near_tree net set_ (fun d => g (leaf0_ d)) (g fail_) := by
  unfold S.l1Near_tree; simp only [apply_cnd g, apply_optC g, apply_sumC g]
noncomputable def S.l1Near_t (net : List Int) (set_ : Int) : Option (Int) := S.l1Near_tree net set_ (fun d => some d) none
theorem S.l1Near_den (net : List Int) (set_ : Int) (κ : V → List E → R) : S.l1Near_F [.ro false (.ints .i64 net), .int .i64 set_] [] κ = optC (S.l1Near_t net set_) (fun (r : Int) => κ (.int .i64 r) []) none := by
  have hu : S.l1Near_F [.ro false (.ints .i64 net), .int .i64 set_] [] κ = S.l1Near_tree net set_ (fun d => κ (.int .i64 d) []) none := by
    refine Eq.trans (show S.l1Near_F [.ro false (.ints .i64 net), .int .i64 set_] [] κ = (S.l1Near_L3 FUEL { n := 25, t := [(0, (.ro false (.ints .i64 net))), (1, (.int .i64 set_)), (5, (.int .i64 0)), (6, (.int .i64 0))], h := [] } (S.l1Near_k3 κ)) by kernel_rfl) ?_
    refine (S.l1Near_L3_run net set_ FUEL (0, 0) (S.l1Near_k3 κ)).trans (optC_congr (fun qy_1 => ?_))
    kernel_rfl
  rw [hu]
  exact (S.l1Near_tree_nat (fun o => optC o (fun (r : Int) => κ (.int .i64 r) []) none) net set_ (fun d => some d) none).symm
noncomputable def S.l1Near_s : D.Spec where
  keep := false
  pure := true
  ds := [.int .i64, .invalid]
  sp := fun args h κ => match args, h with
    | [.ro false (.ints .i64 net), .int .i64 set_], [] => optC (S.l1Near_t net set_) (fun (r : Int) => κ (.int .i64 r) []) none
    | _, _ => none
theorem S.l1Near_ok : SpecOk Try.prog 83 S.l1Near_s := by
  refine SpecOk.of TDok mixed (T := S.l1Near_T) ?_ (ann := S.l1Near_ann) Try.func83 rfl (by decide +kernel) ?_ ?_ ?_
  · intro p hp; cases hp
  · intro args h κ r hh
    simp only [S.l1Near_s] at hh
    split at hh
    · exact (S.l1Near_den _ _ κ).trans hh
    · cases hh
  · intro args h κ r hh
    simp only [S.l1Near_s] at hh ⊢
    split at hh
    · exact optC_law2 (F := fun (r : Int) κ => κ (.int .i64 r) []) (fun b κ r hb => ⟨_, _, hb, fun _ => rfl⟩) hh
    · cases hh
  · intro _ args h κ r hh
    simp only [S.l1Near_s] at hh
    split at hh
    · exact ⟨rfl, fun _ => rfl⟩
    · cases hh

-- loop.example/guardsonnets/spec.SeenBy
noncomputable def S.SeenBy_T : List (Nat × D.Spec) := [(73, S.l1SetOk_s), (83, S.l1Near_s)]
def S.SeenBy_ann : Nat → List Nat × List Nat
  | _ => ([], [])
noncomputable def S.SeenBy_F (args : List V) (h : List E) (κ : V → List E → R) : R := funC TD (tableK S.SeenBy_T) S.SeenBy_ann (drawOk (tableP S.SeenBy_T)) FUEL Try.f74 args h κ
noncomputable def S.SeenBy_tree {α : Type} (net : List Int) (set_ : Int) (leaf0_ : Int → α) (fail_ : α) : α :=
  (optC (S.l1SetOk_t net set_) (fun c_1 => (bif !c_1 then (leaf0_ (-1)) else (optC (S.l1Near_t net set_) (fun c_2 => (leaf0_ (bits BinOp.or IntKind.i64 set_ c_2))) fail_))) fail_)
theorem S.SeenBy_tree_nat {α γ : Type} (g : α → γ) (net : List Int) (set_ : Int) (leaf0_ : Int → α) (fail_ : α) : g (S.SeenBy_tree net set_ leaf0_ fail_) = S.SeenBy_tree net set_ (fun d => g (leaf0_ d)) (g fail_) := by
  unfold S.SeenBy_tree; simp only [apply_cnd g, apply_optC g, apply_sumC g]
noncomputable def S.SeenBy_t (net : List Int) (set_ : Int) : Option (Int) := S.SeenBy_tree net set_ (fun d => some d) none
theorem S.SeenBy_den (net : List Int) (set_ : Int) (κ : V → List E → R) : S.SeenBy_F [.ro false (.ints .i64 net), .int .i64 set_] [] κ = optC (S.SeenBy_t net set_) (fun (r : Int) => κ (.int .i64 r) []) none := by
  have hu : S.SeenBy_F [.ro false (.ints .i64 net), .int .i64 set_] [] κ = S.SeenBy_tree net set_ (fun d => κ (.int .i64 d) []) none := by
    kernel_rfl
  rw [hu]
  exact (S.SeenBy_tree_nat (fun o => optC o (fun (r : Int) => κ (.int .i64 r) []) none) net set_ (fun d => some d) none).symm
noncomputable def S.SeenBy_s : D.Spec where
  keep := false
  pure := true
  ds := [.int .i64, .invalid]
  sp := fun args h κ => match args, h with
    | [.ro false (.ints .i64 net), .int .i64 set_], [] => optC (S.SeenBy_t net set_) (fun (r : Int) => κ (.int .i64 r) []) none
    | _, _ => none
theorem S.SeenBy_ok : SpecOk Try.prog 74 S.SeenBy_s := by
  refine SpecOk.of TDok mixed (T := S.SeenBy_T) ?_ (ann := S.SeenBy_ann) Try.func74 rfl (by decide +kernel) ?_ ?_ ?_
  · intro p hp
    simp only [S.SeenBy_T, List.mem_cons, List.not_mem_nil, or_false] at hp
    rcases hp with rfl | rfl
    · exact S.l1SetOk_ok
    · exact S.l1Near_ok
  · intro args h κ r hh
    simp only [S.SeenBy_s] at hh
    split at hh
    · exact (S.SeenBy_den _ _ κ).trans hh
    · cases hh
  · intro args h κ r hh
    simp only [S.SeenBy_s] at hh ⊢
    split at hh
    · exact optC_law2 (F := fun (r : Int) κ => κ (.int .i64 r) []) (fun b κ r hb => ⟨_, _, hb, fun _ => rfl⟩) hh
    · cases hh
  · intro _ args h κ r hh
    simp only [S.SeenBy_s] at hh
    split at hh
    · exact ⟨rfl, fun _ => rfl⟩
    · cases hh

-- loop.example/guardsonnets/spec.RowOfSet
noncomputable def S.RowOfSet_T : List (Nat × D.Spec) := [(73, S.l1SetOk_s), (74, S.SeenBy_s)]
def S.RowOfSet_ann : Nat → List Nat × List Nat
  | 6 => ([0, 1, 5, 6, 7], [5])
  | _ => ([], [])
noncomputable def S.RowOfSet_F (args : List V) (h : List E) (κ : V → List E → R) : R := funC TD (tableK S.RowOfSet_T) S.RowOfSet_ann (drawOk (tableP S.RowOfSet_T)) FUEL Try.f46 args h κ
noncomputable def S.RowOfSet_L6 (n : Nat) (σ : St) (k : X → St → R) : R := iterC 0 (fun σ k => denC TD (tableK S.RowOfSet_T) S.RowOfSet_ann (drawOk (tableP S.RowOfSet_T)) 0 FUEL ((findLoop 6 (Try.f46.body.getD .skip)).getD .skip) σ k) [0, 1, 5, 6, 7] [5] n σ k
noncomputable def S.RowOfSet_k6 (κ : V → List E → R) : X → St → R := (afterC TD (tableK S.RowOfSet_T) S.RowOfSet_ann (drawOk (tableP S.RowOfSet_T)) 0 FUEL 6 (Try.f46.body.getD .skip) (finC TD 0 Try.f46 κ)).getD (fun _ _ => none)
noncomputable def S.RowOfSet_step6 {α : Type} (x0 : List Int) (x1 : Int) (x6 : Int) (x7 : Int) (r0 : List Int) (next_ : Int × (List Int) → α) (out0_ : List Int → α) (fail_ : α) : α :=
  (bif decide (x7 < (↑x0.length : Int)) then (bif decide (x7 < 0) then fail_ else (bif decide (x7 < 0) then fail_ else (bif small (r0 ++ [IntKind.i64.wrap (IntKind.i64.wrap (1 - (x6.fdiv (2 ^ min x7.toNat IntKind.i64.bits)).tmod 2) + IntKind.i64.wrap (2 * (x1.fdiv (2 ^ min x7.toNat IntKind.i64.bits)).tmod 2))]).length then (next_ (IntKind.i64.wrap (x7 + 1), r0 ++ [IntKind.i64.wrap (IntKind.i64.wrap (1 - (x6.fdiv (2 ^ min x7.toNat IntKind.i64.bits)).tmod 2) + IntKind.i64.wrap (2 * (x1.fdiv (2 ^ min x7.toNat IntKind.i64.bits)).tmod 2))])) else fail_))) else (out0_ r0))
theorem S.RowOfSet_step6_nat {α γ : Type} (g : α → γ) (x0 : List Int) (x1 : Int) (x6 : Int) (x7 : Int) (r0 : List Int) (next_ : Int × (List Int) → α) (out0_ : List Int → α) (fail_ : α) : g (S.RowOfSet_step6 x0 x1 x6 x7 r0 next_ out0_ fail_) = S.RowOfSet_step6 x0 x1 x6 x7 r0 (fun s => g (next_ s)) (fun d => g (out0_ d)) (g fail_) := by
  unfold S.RowOfSet_step6; simp only [apply_cnd g, apply_optC g, apply_sumC g]
noncomputable def S.RowOfSet_run6 (x0 : List Int) (x1 : Int) (x6 : Int) : Nat → Int × (List Int) → Option (List Int)
  | 0, _ => none
  | n + 1, s_ => S.RowOfSet_step6 x0 x1 x6 s_.1 s_.2 (S.RowOfSet_run6 x0 x1 x6 n) (fun d => some d) none
theorem S.RowOfSet_L6_run (x0 : List Int) (x1 : Int) (x6 : Int) (n : Nat) (s_ : Int × (List Int)) (k : X → St → R) : S.RowOfSet_L6 n { n := 38, t := [(0, (.ro false (.ints .i64 x0))), (1, (.int .i64 x1)), (5, (.own 0)), (6, (.int .i64 x6)), (7, (.int .i64 s_.1))], h := [.row (.ints .i64 s_.2)] } k = optC (S.RowOfSet_run6 x0 x1 x6 n s_) (fun (r : List Int) => k (.exit 0) { n := 38, t := [(5, (.own 0))], h := [.row (.ints .i64 r)] }) none := by
  induction n generalizing s_ with
  | zero => rfl
  | succ n ih =>
    have hu : S.RowOfSet_L6 (n + 1) { n := 38, t := [(0, (.ro false (.ints .i64 x0))), (1, (.int .i64 x1)), (5, (.own 0)), (6, (.int .i64 x6)), (7, (.int .i64 s_.1))], h := [.row (.ints .i64 s_.2)] } k = S.RowOfSet_step6 x0 x1 x6 s_.1 s_.2 (fun s_ => S.RowOfSet_L6 n { n := 38, t := [(0, (.ro false (.ints .i64 x0))), (1, (.int .i64 x1)), (5, (.own 0)), (6, (.int .i64 x6)), (7, (.int .i64 s_.1))], h := [.row (.ints .i64 s_.2)] } k) (fun d => k (.exit 0) { n := 38, t := [(5, (.own 0))], h := [.row (.ints .i64 d)] }) none := by
      kernel_rfl
    have hs : (fun s_ : Int × (List Int) => S.RowOfSet_L6 n { n := 38, t := [(0, (.ro false (.ints .i64 x0))), (1, (.int .i64 x1)), (5, (.own 0)), (6, (.int .i64 x6)), (7, (.int .i64 s_.1))], h := [.row (.ints .i64 s_.2)] } k) = fun s_ => optC (S.RowOfSet_run6 x0 x1 x6 n s_) (fun (r : List Int) => k (.exit 0) { n := 38, t := [(5, (.own 0))], h := [.row (.ints .i64 r)] }) none := funext ih
    rw [hu, hs]
    exact (S.RowOfSet_step6_nat (fun o => optC o (fun (r : List Int) => k (.exit 0) { n := 38, t := [(5, (.own 0))], h := [.row (.ints .i64 r)] }) none) x0 x1 x6 s_.1 s_.2 (S.RowOfSet_run6 x0 x1 x6 n) (fun d => some d) none).symm
noncomputable def S.RowOfSet_tree {α : Type} (net : List Int) (set_ : Int) (leaf0_ : List Int → α) (fail_ : α) : α :=
  (optC (S.l1SetOk_t net set_) (fun c_1 => (bif !c_1 then (leaf0_ ([])) else (optC (S.SeenBy_t net set_) (fun c_2 => (optC (S.RowOfSet_run6 net set_ c_2 FUEL (0, [])) (fun qy_3 => (leaf0_ qy_3)) fail_)) fail_))) fail_)
theorem S.RowOfSet_tree_nat {α γ : Type} (g : α → γ) (net : List Int) (set_ : Int) (leaf0_ : List Int → α) (fail_ : α) : g (S.RowOfSet_tree net set_ leaf0_ fail_) = S.RowOfSet_tree net set_ (fun d => g (leaf0_ d)) (g fail_) := by
  unfold S.RowOfSet_tree; simp only [apply_cnd g, apply_optC g, apply_sumC g]
noncomputable def S.RowOfSet_t (net : List Int) (set_ : Int) : Option (List Int) := S.RowOfSet_tree net set_ (fun d => some d) none
theorem S.RowOfSet_den (net : List Int) (set_ : Int) (κ : V → List E → R) : S.RowOfSet_F [.ro false (.ints .i64 net), .int .i64 set_] [] κ = optC (S.RowOfSet_t net set_) (fun (r : List Int) => κ (.own 0) [.row (.ints .i64 r)]) none := by
  have hu : S.RowOfSet_F [.ro false (.ints .i64 net), .int .i64 set_] [] κ = S.RowOfSet_tree net set_ (fun d => κ (.own 0) [.row (.ints .i64 d)]) none := by
    refine Eq.trans (show S.RowOfSet_F [.ro false (.ints .i64 net), .int .i64 set_] [] κ = (optC (S.l1SetOk_t net set_) (fun c_1 => (bif !c_1 then (κ (.own 0) [.row (.ints .i64 ([]))]) else (optC (S.SeenBy_t net set_) (fun c_2 => (S.RowOfSet_L6 FUEL { n := 38, t := [(0, (.ro false (.ints .i64 net))), (1, (.int .i64 set_)), (5, (.own 0)), (6, (.int .i64 c_2)), (7, (.int .i64 0))], h := [.row (.ints .i64 ([]))] } (S.RowOfSet_k6 κ))) none))) none) by kernel_rfl) ?_
    refine optC_congr (fun c_1 => ?_)
    refine cnd_congr ?_ ?_
    · kernel_rfl
    · refine optC_congr (fun c_2 => ?_)
      refine (S.RowOfSet_L6_run net set_ c_2 FUEL (0, []) (S.RowOfSet_k6 κ)).trans (optC_congr (fun qy_3 => ?_))
      kernel_rfl
  rw [hu]
  exact (S.RowOfSet_tree_nat (fun o => optC o (fun (r : List Int) => κ (.own 0) [.row (.ints .i64 r)]) none) net set_ (fun d => some d) none).symm
noncomputable def S.RowOfSet_s : D.Spec where
  keep := false
  pure := false
  ds := [.int .i64, .invalid]
  sp := fun args h κ => match args, h with
    | [.ro false (.ints .i64 net), .int .i64 set_], [] => optC (S.RowOfSet_t net set_) (fun (r : List Int) => κ (.own 0) [.row (.ints .i64 r)]) none
    | _, _ => none
theorem S.RowOfSet_ok : SpecOk Try.prog 46 S.RowOfSet_s := by
  refine SpecOk.of TDok mixed (T := S.RowOfSet_T) ?_ (ann := S.RowOfSet_ann) Try.func46 rfl (by decide +kernel) ?_ ?_ ?_
  · intro p hp
    simp only [S.RowOfSet_T, List.mem_cons, List.not_mem_nil, or_false] at hp
    rcases hp with rfl | rfl
    · exact S.l1SetOk_ok
    · exact S.SeenBy_ok
  · intro args h κ r hh
    simp only [S.RowOfSet_s] at hh
    split at hh
    · exact (S.RowOfSet_den _ _ κ).trans hh
    · cases hh
  · intro args h κ r hh
    simp only [S.RowOfSet_s] at hh ⊢
    split at hh
    · exact optC_law2 (F := fun (r : List Int) κ => κ (.own 0) [.row (.ints .i64 r)]) (fun b κ r hb => ⟨_, _, hb, fun _ => rfl⟩) hh
    · cases hh
  · intro hh; cases hh

-- loop.example/guardsonnets/spec.l20Row
noncomputable def S.l20Row_T : List (Nat × D.Spec) := [(72, S.l20Set_s), (60, S.NetOk_s), (75, S.l20Rd_pick_s), (46, S.RowOfSet_s)]
def S.l20Row_ann : Nat → List Nat × List Nat
  | 9 => ([0, 6, 9, 10], [0, 6, 9])
  | _ => ([], [])
noncomputable def S.l20Row_F (args : List V) (h : List E) (κ : V → List E → R) : R := funC TD (tableK S.l20Row_T) S.l20Row_ann (drawOk (tableP S.l20Row_T)) FUEL Try.f47 args h κ
noncomputable def S.l20Row_L9 (n : Nat) (σ : St) (k : X → St → R) : R := iterC 1 (fun σ k => denC TD (tableK S.l20Row_T) S.l20Row_ann (drawOk (tableP S.l20Row_T)) 1 FUEL ((findLoop 9 (Try.f47.body.getD .skip)).getD .skip) σ k) [0, 6, 9, 10] [0, 6, 9] n σ k
noncomputable def S.l20Row_k9 (κ : V → List E → R) : X → St → R := (afterC TD (tableK S.l20Row_T) S.l20Row_ann (drawOk (tableP S.l20Row_T)) 1 FUEL 9 (Try.f47.body.getD .skip) (finC TD 1 Try.f47 κ)).getD (fun _ _ => none)
noncomputable def S.l20Row_step9 {α : Type} (x10 : Int) (r0_0 : List Int) (r0_1 : Int) (r1 : List Int) (r2 : List Int) (next_ : Int × (List Int) × Int × (List Int) × (List Int) → α) (out0_ : (List Int) × Int × (List Int) × (List Int) → α) (fail_ : α) : α :=
  (bif decide (x10 < (↑r1.length : Int)) then (optC (S.l20Rd_pick_t r0_0 r0_1 3) (fun c_8 => (optC (S.l20Rd_pick_t c_8.snd.fst c_8.snd.snd 30) (fun c_9 => (optC (S.l20Rd_pick_t c_9.snd.fst c_9.snd.snd 40) (fun c_10 => (bif small (r2 ++ [IntKind.i64.wrap (IntKind.i64.wrap (c_8.fst + IntKind.i64.wrap (IntKind.i64.wrap (c_9.fst.tdiv 29) * 2)) - IntKind.i64.wrap (c_10.fst.tdiv 39))]).length then (next_ (IntKind.i64.wrap (x10 + 1), c_10.snd.fst, c_10.snd.snd, r1, r2 ++ [IntKind.i64.wrap (IntKind.i64.wrap (c_8.fst + IntKind.i64.wrap (IntKind.i64.wrap (c_9.fst.tdiv 29) * 2)) - IntKind.i64.wrap (c_10.fst.tdiv 39))])) else fail_)) fail_)) fail_)) fail_) else (out0_ (r0_0, r0_1, r1, r2)))
theorem S.l20Row_step9_nat {α γ : Type} (g : α → γ) (x10 : Int) (r0_0 : List Int) (r0_1 : Int) (r1 : List Int) (r2 : List Int) (next_ : Int × (List Int) × Int × (List Int) × (List Int) → α) (out0_ : (List Int) × Int × (List Int) × (List Int) → α) (fail_ : α) : g (S.l20Row_step9 x10 r0_0 r0_1 r1 r2 next_ out0_ fail_) = S.l20Row_step9 x10 r0_0 r0_1 r1 r2 (fun s => g (next_ s)) (fun d => g (out0_ d)) (g fail_) := by
  unfold S.l20Row_step9; simp only [apply_cnd g, apply_optC g, apply_sumC g]
noncomputable def S.l20Row_run9 : Nat → Int × (List Int) × Int × (List Int) × (List Int) → Option ((List Int) × Int × (List Int) × (List Int))
  | 0, _ => none
  | n + 1, s_ => S.l20Row_step9 s_.1 s_.2.1 s_.2.2.1 s_.2.2.2.1 s_.2.2.2.2 (S.l20Row_run9 n) (fun d => some d) none
theorem S.l20Row_L9_run (n : Nat) (s_ : Int × (List Int) × Int × (List Int) × (List Int)) (k : X → St → R) : S.l20Row_L9 n { n := 73, t := [(0, (.ptr 0 0)), (6, (.own 1)), (9, (.own 2)), (10, (.int .i64 s_.1))], h := [.cells [(.ro true (.ints .u8 s_.2.1)), (.int .i64 s_.2.2.1)], .row (.ints .i64 s_.2.2.2.1), .row (.ints .i64 s_.2.2.2.2)] } k = optC (S.l20Row_run9 n s_) (fun (r : (List Int) × Int × (List Int) × (List Int)) => k (.exit 0) { n := 73, t := [(0, (.ptr 0 0)), (6, (.own 1)), (9, (.own 2))], h := [.cells [(.ro true (.ints .u8 r.1)), (.int .i64 r.2.1)], .row (.ints .i64 r.2.2.1), .row (.ints .i64 r.2.2.2)] }) none := by
  induction n generalizing s_ with
  | zero => rfl
  | succ n ih =>
    have hu : S.l20Row_L9 (n + 1) { n := 73, t := [(0, (.ptr 0 0)), (6, (.own 1)), (9, (.own 2)), (10, (.int .i64 s_.1))], h := [.cells [(.ro true (.ints .u8 s_.2.1)), (.int .i64 s_.2.2.1)], .row (.ints .i64 s_.2.2.2.1), .row (.ints .i64 s_.2.2.2.2)] } k = S.l20Row_step9 s_.1 s_.2.1 s_.2.2.1 s_.2.2.2.1 s_.2.2.2.2 (fun s_ => S.l20Row_L9 n { n := 73, t := [(0, (.ptr 0 0)), (6, (.own 1)), (9, (.own 2)), (10, (.int .i64 s_.1))], h := [.cells [(.ro true (.ints .u8 s_.2.1)), (.int .i64 s_.2.2.1)], .row (.ints .i64 s_.2.2.2.1), .row (.ints .i64 s_.2.2.2.2)] } k) (fun d => k (.exit 0) { n := 73, t := [(0, (.ptr 0 0)), (6, (.own 1)), (9, (.own 2))], h := [.cells [(.ro true (.ints .u8 d.1)), (.int .i64 d.2.1)], .row (.ints .i64 d.2.2.1), .row (.ints .i64 d.2.2.2)] }) none := by
      kernel_rfl
    have hs : (fun s_ : Int × (List Int) × Int × (List Int) × (List Int) => S.l20Row_L9 n { n := 73, t := [(0, (.ptr 0 0)), (6, (.own 1)), (9, (.own 2)), (10, (.int .i64 s_.1))], h := [.cells [(.ro true (.ints .u8 s_.2.1)), (.int .i64 s_.2.2.1)], .row (.ints .i64 s_.2.2.2.1), .row (.ints .i64 s_.2.2.2.2)] } k) = fun s_ => optC (S.l20Row_run9 n s_) (fun (r : (List Int) × Int × (List Int) × (List Int)) => k (.exit 0) { n := 73, t := [(0, (.ptr 0 0)), (6, (.own 1)), (9, (.own 2))], h := [.cells [(.ro true (.ints .u8 r.1)), (.int .i64 r.2.1)], .row (.ints .i64 r.2.2.1), .row (.ints .i64 r.2.2.2)] }) none := funext ih
    rw [hu, hs]
    exact (S.l20Row_step9_nat (fun o => optC o (fun (r : (List Int) × Int × (List Int) × (List Int)) => k (.exit 0) { n := 73, t := [(0, (.ptr 0 0)), (6, (.own 1)), (9, (.own 2))], h := [.cells [(.ro true (.ints .u8 r.1)), (.int .i64 r.2.1)], .row (.ints .i64 r.2.2.1), .row (.ints .i64 r.2.2.2)] }) none) s_.1 s_.2.1 s_.2.2.1 s_.2.2.2.1 s_.2.2.2.2 (S.l20Row_run9 n) (fun d => some d) none).symm
noncomputable def S.l20Row_tree {α : Type} (rb : List Int) (rp : Int) (n_ : Int) (leaf0_ : (List Int) × Int × (List Int) × (List Int) → α) (fail_ : α) : α :=
  (optC (S.l20Set_t rb rp n_) (fun c_1 => (optC (S.NetOk_t c_1.snd.snd.snd) (fun c_2 => (bif c_2 then (optC (S.l20Rd_pick_t c_1.snd.fst c_1.snd.snd.fst 3) (fun c_3 => (bif decide (c_3.fst > 0) then (bif IntKind.i64.wrap (1 * 2 ^ min (↑c_1.snd.snd.snd.length : Int).toNat IntKind.i64.bits) == 0 then fail_ else (optC (S.RowOfSet_t c_1.snd.snd.snd (c_1.fst.tmod (IntKind.i64.wrap (1 * 2 ^ min (↑c_1.snd.snd.snd.length : Int).toNat IntKind.i64.bits)))) (fun c_4 => (optC (S.l20Rd_pick_t c_3.snd.fst c_3.snd.snd 3) (fun c_5 => (bif c_5.fst == 0 then (optC (S.l20Rd_pick_t c_5.snd.fst c_5.snd.snd (↑c_4.length : Int)) (fun c_6 => (optC (S.l20Rd_pick_t c_6.snd.fst c_6.snd.snd 3) (fun c_7 => (bif decide (0 ≤ c_6.fst) && decide (c_6.fst < (↑c_4.length : Int)) then (bif decide (c_6.fst.toNat < c_4.length) then (leaf0_ (c_7.snd.fst, c_7.snd.snd, c_1.snd.snd.snd, c_4.set c_6.fst.toNat c_7.fst)) else fail_) else fail_)) fail_)) fail_) else (leaf0_ (c_5.snd.fst, c_5.snd.snd, c_1.snd.snd.snd, c_4)))) fail_)) fail_)) else (optC (S.l20Row_run9 FUEL (0, c_3.snd.fst, c_3.snd.snd, c_1.snd.snd.snd, [])) (fun qy_11 => (optC (S.l20Rd_pick_t qy_11.1 qy_11.2.1 15) (fun c_12 => (bif c_12.fst == 0 then (bif small (qy_11.2.2.2 ++ [2]).length then (leaf0_ (c_12.snd.fst, c_12.snd.snd, qy_11.2.2.1, qy_11.2.2.2 ++ [2])) else fail_) else (leaf0_ (c_12.snd.fst, c_12.snd.snd, qy_11.2.2.1, qy_11.2.2.2)))) fail_)) fail_))) fail_) else (optC (S.l20Row_run9 FUEL (0, c_1.snd.fst, c_1.snd.snd.fst, c_1.snd.snd.snd, [])) (fun qy_13 => (optC (S.l20Rd_pick_t qy_13.1 qy_13.2.1 15) (fun c_14 => (bif c_14.fst == 0 then (bif small (qy_13.2.2.2 ++ [2]).length then (leaf0_ (c_14.snd.fst, c_14.snd.snd, qy_13.2.2.1, qy_13.2.2.2 ++ [2])) else fail_) else (leaf0_ (c_14.snd.fst, c_14.snd.snd, qy_13.2.2.1, qy_13.2.2.2)))) fail_)) fail_))) fail_)) fail_)
theorem S.l20Row_tree_nat {α γ : Type} (g : α → γ) (rb : List Int) (rp : Int) (n_ : Int) (leaf0_ : (List Int) × Int × (List Int) × (List Int) → α) (fail_ : α) : g (S.l20Row_tree rb rp n_ leaf0_ fail_) = S.l20Row_tree rb rp n_ (fun d => g (leaf0_ d)) (g fail_) := by
  unfold S.l20Row_tree; simp only [apply_cnd g, apply_optC g, apply_sumC g]
noncomputable def S.l20Row_t (rb : List Int) (rp : Int) (n_ : Int) : Option ((List Int) × Int × (List Int) × (List Int)) := S.l20Row_tree rb rp n_ (fun d => some d) none
theorem S.l20Row_den (rb : List Int) (rp : Int) (n_ : Int) (κ : V → List E → R) : S.l20Row_F [.ptr 0 0, .int .i64 n_] [.cells [.ro true (.ints .u8 rb), .int .i64 rp]] κ = optC (S.l20Row_t rb rp n_) (fun (r : (List Int) × Int × (List Int) × (List Int)) => κ (.tup [(.own 1), (.own 2)]) [.cells [(.ro true (.ints .u8 r.1)), (.int .i64 r.2.1)], .row (.ints .i64 r.2.2.1), .row (.ints .i64 r.2.2.2)]) none := by
  have hu : S.l20Row_F [.ptr 0 0, .int .i64 n_] [.cells [.ro true (.ints .u8 rb), .int .i64 rp]] κ = S.l20Row_tree rb rp n_ (fun d => κ (.tup [(.own 1), (.own 2)]) [.cells [(.ro true (.ints .u8 d.1)), (.int .i64 d.2.1)], .row (.ints .i64 d.2.2.1), .row (.ints .i64 d.2.2.2)]) none := by
    refine Eq.trans (show S.l20Row_F [.ptr 0 0, .int .i64 n_] [.cells [.ro true (.ints .u8 rb), .int .i64 rp]] κ = (optC (S.l20Set_t rb rp n_) (fun c_1 => (optC (S.NetOk_t c_1.snd.snd.snd) (fun c_2 => (bif c_2 then (optC (S.l20Rd_pick_t c_1.snd.fst c_1.snd.snd.fst 3) (fun c_3 => (bif decide (c_3.fst > 0) then (bif IntKind.i64.wrap (1 * 2 ^ min (↑c_1.snd.snd.snd.length : Int).toNat IntKind.i64.bits) == 0 then none else (optC (S.RowOfSet_t c_1.snd.snd.snd (c_1.fst.tmod (IntKind.i64.wrap (1 * 2 ^ min (↑c_1.snd.snd.snd.length : Int).toNat IntKind.i64.bits)))) (fun c_4 => (optC (S.l20Rd_pick_t c_3.snd.fst c_3.snd.snd 3) (fun c_5 => (bif c_5.fst == 0 then (optC (S.l20Rd_pick_t c_5.snd.fst c_5.snd.snd (↑c_4.length : Int)) (fun c_6 => (optC (S.l20Rd_pick_t c_6.snd.fst c_6.snd.snd 3) (fun c_7 => (bif decide (0 ≤ c_6.fst) && decide (c_6.fst < (↑c_4.length : Int)) then (bif decide (c_6.fst.toNat < c_4.length) then (κ (.tup [(.own 1), (.own 2)]) [.cells [(.ro true (.ints .u8 c_7.snd.fst)), (.int .i64 c_7.snd.snd)], .row (.ints .i64 c_1.snd.snd.snd), .row (.ints .i64 (c_4.set c_6.fst.toNat c_7.fst))]) else none) else none)) none)) none) else (κ (.tup [(.own 1), (.own 2)]) [.cells [(.ro true (.ints .u8 c_5.snd.fst)), (.int .i64 c_5.snd.snd)], .row (.ints .i64 c_1.snd.snd.snd), .row (.ints .i64 c_4)]))) none)) none)) else (S.l20Row_L9 FUEL { n := 73, t := [(0, (.ptr 0 0)), (6, (.own 1)), (9, (.own 2)), (10, (.int .i64 0))], h := [.cells [(.ro true (.ints .u8 c_3.snd.fst)), (.int .i64 c_3.snd.snd)], .row (.ints .i64 c_1.snd.snd.snd), .row (.ints .i64 ([]))] } (S.l20Row_k9 κ)))) none) else (S.l20Row_L9 FUEL { n := 73, t := [(0, (.ptr 0 0)), (6, (.own 1)), (9, (.own 2)), (10, (.int .i64 0))], h := [.cells [(.ro true (.ints .u8 c_1.snd.fst)), (.int .i64 c_1.snd.snd.fst)], .row (.ints .i64 c_1.snd.snd.snd), .row (.ints .i64 ([]))] } (S.l20Row_k9 κ)))) none)) none) by kernel_rfl) ?_
    refine optC_congr (fun c_1 => ?_)
    refine optC_congr (fun c_2 => ?_)
    refine cnd_congr ?_ ?_
    · refine optC_congr (fun c_3 => ?_)
      refine cnd_congr ?_ ?_
      · kernel_rfl
      · refine (S.l20Row_L9_run FUEL (0, c_3.snd.fst, c_3.snd.snd, c_1.snd.snd.snd, []) (S.l20Row_k9 κ)).trans (optC_congr (fun qy_11 => ?_))
        kernel_rfl
    · refine (S.l20Row_L9_run FUEL (0, c_1.snd.fst, c_1.snd.snd.fst, c_1.snd.snd.snd, []) (S.l20Row_k9 κ)).trans (optC_congr (fun qy_13 => ?_))
      kernel_rfl
  rw [hu]
  exact (S.l20Row_tree_nat (fun o => optC o (fun (r : (List Int) × Int × (List Int) × (List Int)) => κ (.tup [(.own 1), (.own 2)]) [.cells [(.ro true (.ints .u8 r.1)), (.int .i64 r.2.1)], .row (.ints .i64 r.2.2.1), .row (.ints .i64 r.2.2.2)]) none) rb rp n_ (fun d => some d) none).symm
noncomputable def S.l20Row_s : D.Spec where
  keep := false
  pure := false
  ds := [.invalid, .invalid]
  sp := fun args h κ => match args, h with
    | [.ptr 0 0, .int .i64 n_], [.cells [.ro true (.ints .u8 rb), .int .i64 rp]] => optC (S.l20Row_t rb rp n_) (fun (r : (List Int) × Int × (List Int) × (List Int)) => κ (.tup [(.own 1), (.own 2)]) [.cells [(.ro true (.ints .u8 r.1)), (.int .i64 r.2.1)], .row (.ints .i64 r.2.2.1), .row (.ints .i64 r.2.2.2)]) none
    | _, _ => none
theorem S.l20Row_ok : SpecOk Try.prog 47 S.l20Row_s := by
  refine SpecOk.of TDok mixed (T := S.l20Row_T) ?_ (ann := S.l20Row_ann) Try.func47 rfl (by decide +kernel) ?_ ?_ ?_
  · intro p hp
    simp only [S.l20Row_T, List.mem_cons, List.not_mem_nil, or_false] at hp
    rcases hp with rfl | rfl | rfl | rfl
    · exact S.l20Set_ok
    · exact S.NetOk_ok
    · exact S.l20Rd_pick_ok
    · exact S.RowOfSet_ok
  · intro args h κ r hh
    simp only [S.l20Row_s] at hh
    split at hh
    · exact (S.l20Row_den _ _ _ κ).trans hh
    · cases hh
  · intro args h κ r hh
    simp only [S.l20Row_s] at hh ⊢
    split at hh
    · exact optC_law2 (F := fun (r : (List Int) × Int × (List Int) × (List Int)) κ => κ (.tup [(.own 1), (.own 2)]) [.cells [(.ro true (.ints .u8 r.1)), (.int .i64 r.2.1)], .row (.ints .i64 r.2.2.1), .row (.ints .i64 r.2.2.2)]) (fun b κ r hb => ⟨_, _, hb, fun _ => rfl⟩) hh
    · cases hh
  · intro hh; cases hh

-- loop.example/guardsonnets/spec.DrawRomanOk
noncomputable def S.DrawRomanOk_T : List (Nat × D.Spec) := [(48, S.l20Open_s), (47, S.l20Row_s)]
def S.DrawRomanOk_ann : Nat → List Nat × List Nat
  | _ => ([], [])
noncomputable def S.DrawRomanOk_F (args : List V) (h : List E) (κ : V → List E → R) : R := funC TD (tableK S.DrawRomanOk_T) S.DrawRomanOk_ann (drawOk (tableP S.DrawRomanOk_T)) FUEL Try.f15 args h κ
noncomputable def S.DrawRomanOk_tree {α : Type} (code : List Int) (leaf0_ : (List Int) × (List Int) → α) (fail_ : α) : α :=
  (optC (S.l20Open_t code) (fun c_1 => (optC (S.l20Row_t c_1.fst c_1.snd 12) (fun c_2 => (leaf0_ (c_2.snd.snd.fst, c_2.snd.snd.snd))) fail_)) fail_)
theorem S.DrawRomanOk_tree_nat {α γ : Type} (g : α → γ) (code : List Int) (leaf0_ : (List Int) × (List Int) → α) (fail_ : α) : g (S.DrawRomanOk_tree code leaf0_ fail_) = S.DrawRomanOk_tree code (fun d => g (leaf0_ d)) (g fail_) := by
  unfold S.DrawRomanOk_tree; simp only [apply_cnd g, apply_optC g, apply_sumC g]
noncomputable def S.DrawRomanOk_t (code : List Int) : Option ((List Int) × (List Int)) := S.DrawRomanOk_tree code (fun d => some d) none
theorem S.DrawRomanOk_den (code : List Int) (κ : V → List E → R) : S.DrawRomanOk_F [.ro true (.ints .u8 code)] [] κ = optC (S.DrawRomanOk_t code) (fun (r : (List Int) × (List Int)) => κ (.tup [(.own 0), (.own 1)]) [.row (.ints .i64 r.1), .row (.ints .i64 r.2)]) none := by
  have hu : S.DrawRomanOk_F [.ro true (.ints .u8 code)] [] κ = S.DrawRomanOk_tree code (fun d => κ (.tup [(.own 0), (.own 1)]) [.row (.ints .i64 d.1), .row (.ints .i64 d.2)]) none := by
    kernel_rfl
  rw [hu]
  exact (S.DrawRomanOk_tree_nat (fun o => optC o (fun (r : (List Int) × (List Int)) => κ (.tup [(.own 0), (.own 1)]) [.row (.ints .i64 r.1), .row (.ints .i64 r.2)]) none) code (fun d => some d) none).symm
noncomputable def S.DrawRomanOk_s : D.Spec where
  keep := true
  pure := false
  ds := [.int .u8]
  sp := fun args h κ => match args, h with
    | [.ro true (.ints .u8 code)], [] => optC (S.DrawRomanOk_t code) (fun (r : (List Int) × (List Int)) => κ (.tup [(.own 0), (.own 1)]) [.row (.ints .i64 r.1), .row (.ints .i64 r.2)]) none
    | _, _ => none
theorem S.DrawRomanOk_ok : SpecOk Try.prog 15 S.DrawRomanOk_s := by
  refine SpecOk.of TDok mixed (T := S.DrawRomanOk_T) ?_ (ann := S.DrawRomanOk_ann) Try.func15 rfl (by decide +kernel) ?_ ?_ ?_
  · intro p hp
    simp only [S.DrawRomanOk_T, List.mem_cons, List.not_mem_nil, or_false] at hp
    rcases hp with rfl | rfl
    · exact S.l20Open_ok
    · exact S.l20Row_ok
  · intro args h κ r hh
    simp only [S.DrawRomanOk_s] at hh
    split at hh
    · exact (S.DrawRomanOk_den _ κ).trans hh
    · cases hh
  · intro args h κ r hh
    simp only [S.DrawRomanOk_s] at hh ⊢
    split at hh
    · exact optC_law2 (F := fun (r : (List Int) × (List Int)) κ => κ (.tup [(.own 0), (.own 1)]) [.row (.ints .i64 r.1), .row (.ints .i64 r.2)]) (fun b κ r hb => ⟨_, _, hb, fun _ => rfl⟩) hh
    · cases hh
  · intro hh; cases hh

-- loop.example/guardsonnets/impl.setIn
noncomputable def I.setIn_T : List (Nat × D.Spec) := []
def I.setIn_ann : Nat → List Nat × List Nat
  | _ => ([], [])
noncomputable def I.setIn_F (args : List V) (h : List E) (κ : V → List E → R) : R := funC TD (tableK I.setIn_T) I.setIn_ann (drawOk (tableP I.setIn_T)) FUEL Try.f53 args h κ
noncomputable def I.setIn_tree {α : Type} (net : List Int) (set_ : Int) (leaf0_ : Bool → α) (fail_ : α) : α :=
  (bif decide (set_ ≥ 0) then (leaf0_ (decide (set_ < IntKind.i64.wrap (1 * 2 ^ min (↑net.length : Int).toNat IntKind.i64.bits)))) else (leaf0_ false))
theorem I.setIn_tree_nat {α γ : Type} (g : α → γ) (net : List Int) (set_ : Int) (leaf0_ : Bool → α) (fail_ : α) : g (I.setIn_tree net set_ leaf0_ fail_) = I.setIn_tree net set_ (fun d => g (leaf0_ d)) (g fail_) := by
  unfold I.setIn_tree; simp only [apply_cnd g, apply_optC g, apply_sumC g]
noncomputable def I.setIn_t (net : List Int) (set_ : Int) : Option (Bool) := I.setIn_tree net set_ (fun d => some d) none
theorem I.setIn_den (net : List Int) (set_ : Int) (κ : V → List E → R) : I.setIn_F [.ro false (.ints .i64 net), .int .i64 set_] [] κ = optC (I.setIn_t net set_) (fun (r : Bool) => κ (.bool r) []) none := by
  have hu : I.setIn_F [.ro false (.ints .i64 net), .int .i64 set_] [] κ = I.setIn_tree net set_ (fun d => κ (.bool d) []) none := by
    kernel_rfl
  rw [hu]
  exact (I.setIn_tree_nat (fun o => optC o (fun (r : Bool) => κ (.bool r) []) none) net set_ (fun d => some d) none).symm
noncomputable def I.setIn_s : D.Spec where
  keep := false
  pure := true
  ds := [.int .i64, .invalid]
  sp := fun args h κ => match args, h with
    | [.ro false (.ints .i64 net), .int .i64 set_], [] => optC (I.setIn_t net set_) (fun (r : Bool) => κ (.bool r) []) none
    | _, _ => none
theorem I.setIn_ok : SpecOk Try.prog 53 I.setIn_s := by
  refine SpecOk.of TDok mixed (T := I.setIn_T) ?_ (ann := I.setIn_ann) Try.func53 rfl (by decide +kernel) ?_ ?_ ?_
  · intro p hp; cases hp
  · intro args h κ r hh
    simp only [I.setIn_s] at hh
    split at hh
    · exact (I.setIn_den _ _ κ).trans hh
    · cases hh
  · intro args h κ r hh
    simp only [I.setIn_s] at hh ⊢
    split at hh
    · exact optC_law2 (F := fun (r : Bool) κ => κ (.bool r) []) (fun b κ r hb => ⟨_, _, hb, fun _ => rfl⟩) hh
    · cases hh
  · intro _ args h κ r hh
    simp only [I.setIn_s] at hh
    split at hh
    · exact ⟨rfl, fun _ => rfl⟩
    · cases hh

-- loop.example/guardsonnets/impl.hasPlace
noncomputable def I.hasPlace_T : List (Nat × D.Spec) := []
def I.hasPlace_ann : Nat → List Nat × List Nat
  | _ => ([], [])
noncomputable def I.hasPlace_F (args : List V) (h : List E) (κ : V → List E → R) : R := funC TD (tableK I.hasPlace_T) I.hasPlace_ann (drawOk (tableP I.hasPlace_T)) FUEL Try.f64 args h κ
noncomputable def I.hasPlace_tree {α : Type} (set_ : Int) (place : Int) (leaf0_ : Bool → α) (fail_ : α) : α :=
  (bif decide (place < 0) then fail_ else (leaf0_ (bits BinOp.and IntKind.i64 (set_.fdiv (2 ^ min place.toNat IntKind.i64.bits)) 1 == 1)))
theorem I.hasPlace_tree_nat {α γ : Type} (g : α → γ) (set_ : Int) (place : Int) (leaf0_ : Bool → α) (fail_ : α) : g (I.hasPlace_tree set_ place leaf0_ fail_) = I.hasPlace_tree set_ place (fun d => g (leaf0_ d)) (g fail_) := by
  unfold I.hasPlace_tree; simp only [apply_cnd g, apply_optC g, apply_sumC g]
noncomputable def I.hasPlace_t (set_ : Int) (place : Int) : Option (Bool) := I.hasPlace_tree set_ place (fun d => some d) none
theorem I.hasPlace_den (set_ : Int) (place : Int) (κ : V → List E → R) : I.hasPlace_F [.int .i64 set_, .int .i64 place] [] κ = optC (I.hasPlace_t set_ place) (fun (r : Bool) => κ (.bool r) []) none := by
  have hu : I.hasPlace_F [.int .i64 set_, .int .i64 place] [] κ = I.hasPlace_tree set_ place (fun d => κ (.bool d) []) none := by
    kernel_rfl
  rw [hu]
  exact (I.hasPlace_tree_nat (fun o => optC o (fun (r : Bool) => κ (.bool r) []) none) set_ place (fun d => some d) none).symm
noncomputable def I.hasPlace_s : D.Spec where
  keep := false
  pure := true
  ds := [.invalid, .invalid]
  sp := fun args h κ => match args, h with
    | [.int .i64 set_, .int .i64 place], [] => optC (I.hasPlace_t set_ place) (fun (r : Bool) => κ (.bool r) []) none
    | _, _ => none
theorem I.hasPlace_ok : SpecOk Try.prog 64 I.hasPlace_s := by
  refine SpecOk.of TDok mixed (T := I.hasPlace_T) ?_ (ann := I.hasPlace_ann) Try.func64 rfl (by decide +kernel) ?_ ?_ ?_
  · intro p hp; cases hp
  · intro args h κ r hh
    simp only [I.hasPlace_s] at hh
    split at hh
    · exact (I.hasPlace_den _ _ κ).trans hh
    · cases hh
  · intro args h κ r hh
    simp only [I.hasPlace_s] at hh ⊢
    split at hh
    · exact optC_law2 (F := fun (r : Bool) κ => κ (.bool r) []) (fun b κ r hb => ⟨_, _, hb, fun _ => rfl⟩) hh
    · cases hh
  · intro _ args h κ r hh
    simp only [I.hasPlace_s] at hh
    split at hh
    · exact ⟨rfl, fun _ => rfl⟩
    · cases hh

-- loop.example/guardsonnets/impl.knownBack
noncomputable def I.knownBack_T : List (Nat × D.Spec) := [(64, I.hasPlace_s)]
def I.knownBack_ann : Nat → List Nat × List Nat
  | 2 => ([0, 1, 5], [4])
  | _ => ([], [])
noncomputable def I.knownBack_F (args : List V) (h : List E) (κ : V → List E → R) : R := funC TD (tableK I.knownBack_T) I.knownBack_ann (drawOk (tableP I.knownBack_T)) FUEL Try.f65 args h κ
noncomputable def I.knownBack_L2 (n : Nat) (σ : St) (k : X → St → R) : R := iterC 0 (fun σ k => denC TD (tableK I.knownBack_T) I.knownBack_ann (drawOk (tableP I.knownBack_T)) 0 FUEL ((findLoop 2 (Try.f65.body.getD .skip)).getD .skip) σ k) [0, 1, 5] [4] n σ k
noncomputable def I.knownBack_k2 (κ : V → List E → R) : X → St → R := (afterC TD (tableK I.knownBack_T) I.knownBack_ann (drawOk (tableP I.knownBack_T)) 0 FUEL 2 (Try.f65.body.getD .skip) (finC TD 0 Try.f65 κ)).getD (fun _ _ => none)
noncomputable def I.knownBack_step2 {α : Type} (x0 : List Int) (x1 : Int) (x5 : Int) (next_ : Int → α) (out0_ : Bool → α) (out1_ : Unit → α) (fail_ : α) : α :=
  (bif decide (x5 < (↑x0.length : Int)) then (bif decide (0 ≤ x1) && decide (x1 < (↑x0.length : Int)) then (optC (I.hasPlace_t (eli x0 x1.toNat) x5) (fun c_1 => (bif c_1 then (bif decide (0 ≤ x5) && decide (x5 < (↑x0.length : Int)) then (optC (I.hasPlace_t (eli x0 x5.toNat) x1) (fun c_2 => (bif !c_2 then (out0_ false) else (next_ (IntKind.i64.wrap (x5 + 1))))) fail_) else fail_) else (next_ (IntKind.i64.wrap (x5 + 1))))) fail_) else fail_) else (out1_ ()))
theorem I.knownBack_step2_nat {α γ : Type} (g : α → γ) (x0 : List Int) (x1 : Int) (x5 : Int) (next_ : Int → α) (out0_ : Bool → α) (out1_ : Unit → α) (fail_ : α) : g (I.knownBack_step2 x0 x1 x5 next_ out0_ out1_ fail_) = I.knownBack_step2 x0 x1 x5 (fun s => g (next_ s)) (fun d => g (out0_ d)) (fun d => g (out1_ d)) (g fail_) := by
  unfold I.knownBack_step2; simp only [apply_cnd g, apply_optC g, apply_sumC g]
noncomputable def I.knownBack_run2 (x0 : List Int) (x1 : Int) : Nat → Int → Option ((Bool) ⊕ (Unit))
  | 0, _ => none
  | n + 1, s_ => I.knownBack_step2 x0 x1 s_ (I.knownBack_run2 x0 x1 n) (fun d => some ((Sum.inl d))) (fun d => some ((Sum.inr d))) none
theorem I.knownBack_L2_run (x0 : List Int) (x1 : Int) (n : Nat) (s_ : Int) (k : X → St → R) : I.knownBack_L2 n { n := 27, t := [(0, (.ro false (.ints .i64 x0))), (1, (.int .i64 x1)), (5, (.int .i64 s_))], h := [] } k = optC (I.knownBack_run2 x0 x1 n s_) (fun (r : (Bool) ⊕ (Unit)) => (sumC r (fun (r : Bool) => k (.ret) { n := 27, t := [(4, (.bool r))], h := [] }) (fun (r : Unit) => k (.exit 0) { n := 27, t := [(4, .junk)], h := [] }))) none := by
  induction n generalizing s_ with
  | zero => rfl
  | succ n ih =>
    have hu : I.knownBack_L2 (n + 1) { n := 27, t := [(0, (.ro false (.ints .i64 x0))), (1, (.int .i64 x1)), (5, (.int .i64 s_))], h := [] } k = I.knownBack_step2 x0 x1 s_ (fun s_ => I.knownBack_L2 n { n := 27, t := [(0, (.ro false (.ints .i64 x0))), (1, (.int .i64 x1)), (5, (.int .i64 s_))], h := [] } k) (fun d => k (.ret) { n := 27, t := [(4, (.bool d))], h := [] }) (fun d => k (.exit 0) { n := 27, t := [(4, .junk)], h := [] }) none := by
      kernel_rfl
    have hs : (fun s_ : Int => I.knownBack_L2 n { n := 27, t := [(0, (.ro false (.ints .i64 x0))), (1, (.int .i64 x1)), (5, (.int .i64 s_))], h := [] } k) = fun s_ => optC (I.knownBack_run2 x0 x1 n s_) (fun (r : (Bool) ⊕ (Unit)) => (sumC r (fun (r : Bool) => k (.ret) { n := 27, t := [(4, (.bool r))], h := [] }) (fun (r : Unit) => k (.exit 0) { n := 27, t := [(4, .junk)], h := [] }))) none := funext ih
    rw [hu, hs]
    exact (I.knownBack_step2_nat (fun o => optC o (fun (r : (Bool) ⊕ (Unit)) => (sumC r (fun (r : Bool) => k (.ret) { n := 27, t := [(4, (.bool r))], h := [] }) (fun (r : Unit) => k (.exit 0) { n := 27, t := [(4, .junk)], h := [] }))) none) x0 x1 s_ (I.knownBack_run2 x0 x1 n) (fun d => some ((Sum.inl d))) (fun d => some ((Sum.inr d))) none).symm
noncomputable def I.knownBack_tree {α : Type} (net : List Int) (place : Int) (leaf0_ : Bool → α) (fail_ : α) : α :=
  (optC (I.knownBack_run2 net place FUEL 0) (fun qy_3 => (sumC qy_3 (fun (qy_3 : Bool) => (leaf0_ qy_3)) (fun (qy_3 : Unit) => (leaf0_ true)))) fail_)
theorem I.knownBack_tree_nat {α γ : Type} (g : α → γ) (net : List Int) (place : Int) (leaf0_ : Bool → α) (fail_ : α) : g (I.knownBack_tree net place leaf0_ fail_) = I.knownBack_tree net place (fun d => g (leaf0_ d)) (g fail_) := by
  unfold I.knownBack_tree; simp only [apply_cnd g, apply_optC g, apply_sumC g]
noncomputable def I.knownBack_t (net : List Int) (place : Int) : Option (Bool) := I.knownBack_tree net place (fun d => some d) none
theorem I.knownBack_den (net : List Int) (place : Int) (κ : V → List E → R) : I.knownBack_F [.ro false (.ints .i64 net), .int .i64 place] [] κ = optC (I.knownBack_t net place) (fun (r : Bool) => κ (.bool r) []) none := by
  have hu : I.knownBack_F [.ro false (.ints .i64 net), .int .i64 place] [] κ = I.knownBack_tree net place (fun d => κ (.bool d) []) none := by
    refine Eq.trans (show I.knownBack_F [.ro false (.ints .i64 net), .int .i64 place] [] κ = (I.knownBack_L2 FUEL { n := 27, t := [(0, (.ro false (.ints .i64 net))), (1, (.int .i64 place)), (5, (.int .i64 0))], h := [] } (I.knownBack_k2 κ)) by kernel_rfl) ?_
    refine (I.knownBack_L2_run net place FUEL 0 (I.knownBack_k2 κ)).trans (optC_congr (fun qy_3 => ?_))
    rcases qy_3 with qy_3 | qy_3
    · kernel_rfl
    · kernel_rfl
  rw [hu]
  exact (I.knownBack_tree_nat (fun o => optC o (fun (r : Bool) => κ (.bool r) []) none) net place (fun d => some d) none).symm
noncomputable def I.knownBack_s : D.Spec where
  keep := false
  pure := true
  ds := [.int .i64, .invalid]
  sp := fun args h κ => match args, h with
    | [.ro false (.ints .i64 net), .int .i64 place], [] => optC (I.knownBack_t net place) (fun (r : Bool) => κ (.bool r) []) none
    | _, _ => none
theorem I.knownBack_ok : SpecOk Try.prog 65 I.knownBack_s := by
  refine SpecOk.of TDok mixed (T := I.knownBack_T) ?_ (ann := I.knownBack_ann) Try.func65 rfl (by decide +kernel) ?_ ?_ ?_
  · intro p hp
    simp only [I.knownBack_T, List.mem_cons, List.not_mem_nil, or_false] at hp
    rcases hp with rfl
    · exact I.hasPlace_ok
  · intro args h κ r hh
    simp only [I.knownBack_s] at hh
    split at hh
    · exact (I.knownBack_den _ _ κ).trans hh
    · cases hh
  · intro args h κ r hh
    simp only [I.knownBack_s] at hh ⊢
    split at hh
    · exact optC_law2 (F := fun (r : Bool) κ => κ (.bool r) []) (fun b κ r hb => ⟨_, _, hb, fun _ => rfl⟩) hh
    · cases hh
  · intro _ args h κ r hh
    simp only [I.knownBack_s] at hh
    split at hh
    · exact ⟨rfl, fun _ => rfl⟩
    · cases hh

-- loop.example/guardsonnets/impl.NetOk
noncomputable def I.NetOk_T : List (Nat × D.Spec) := [(53, I.setIn_s), (64, I.hasPlace_s), (65, I.knownBack_s)]
def I.NetOk_ann : Nat → List Nat × List Nat
  | 4 => ([0, 3], [2])
  | _ => ([], [])
noncomputable def I.NetOk_F (args : List V) (h : List E) (κ : V → List E → R) : R := funC TD (tableK I.NetOk_T) I.NetOk_ann (drawOk (tableP I.NetOk_T)) FUEL Try.f31 args h κ
noncomputable def I.NetOk_L4 (n : Nat) (σ : St) (k : X → St → R) : R := iterC 0 (fun σ k => denC TD (tableK I.NetOk_T) I.NetOk_ann (drawOk (tableP I.NetOk_T)) 0 FUEL ((findLoop 4 (Try.f31.body.getD .skip)).getD .skip) σ k) [0, 3] [2] n σ k
noncomputable def I.NetOk_k4 (κ : V → List E → R) : X → St → R := (afterC TD (tableK I.NetOk_T) I.NetOk_ann (drawOk (tableP I.NetOk_T)) 0 FUEL 4 (Try.f31.body.getD .skip) (finC TD 0 Try.f31 κ)).getD (fun _ _ => none)
noncomputable def I.NetOk_step4 {α : Type} (x0 : List Int) (x3 : Int) (next_ : Int → α) (out0_ : Bool → α) (out1_ : Unit → α) (fail_ : α) : α :=
  (bif decide (x3 < (↑x0.length : Int)) then (bif decide (0 ≤ x3) && decide (x3 < (↑x0.length : Int)) then (optC (I.setIn_t x0 (eli x0 x3.toNat)) (fun c_1 => (bif !c_1 then (out0_ false) else (bif decide (0 ≤ x3) && decide (x3 < (↑x0.length : Int)) then (optC (I.hasPlace_t (eli x0 x3.toNat) x3) (fun c_2 => (bif c_2 then (out0_ false) else (optC (I.knownBack_t x0 x3) (fun c_3 => (bif !c_3 then (out0_ false) else (next_ (IntKind.i64.wrap (x3 + 1))))) fail_))) fail_) else fail_))) fail_) else fail_) else (out1_ ()))
theorem I.NetOk_step4_nat {α γ : Type} (g : α → γ) (x0 : List Int) (x3 : Int) (next_ : Int → α) (out0_ : Bool → α) (out1_ : Unit → α) (fail_ : α) : g (I.NetOk_step4 x0 x3 next_ out0_ out1_ fail_) = I.NetOk_step4 x0 x3 (fun s => g (next_ s)) (fun d => g (out0_ d)) (fun d => g (out1_ d)) (g fail_) := by
  unfold I.NetOk_step4; simp only [apply_cnd g, apply_optC g, apply_sumC g]
noncomputable def I.NetOk_run4 (x0 : List Int) : Nat → Int → Option ((Bool) ⊕ (Unit))
  | 0, _ => none
  | n + 1, s_ => I.NetOk_step4 x0 s_ (I.NetOk_run4 x0 n) (fun d => some ((Sum.inl d))) (fun d => some ((Sum.inr d))) none
theorem I.NetOk_L4_run (x0 : List Int) (n : Nat) (s_ : Int) (k : X → St → R) : I.NetOk_L4 n { n := 39, t := [(0, (.ro false (.ints .i64 x0))), (3, (.int .i64 s_))], h := [] } k = optC (I.NetOk_run4 x0 n s_) (fun (r : (Bool) ⊕ (Unit)) => (sumC r (fun (r : Bool) => k (.ret) { n := 39, t := [(2, (.bool r))], h := [] }) (fun (r : Unit) => k (.exit 0) { n := 39, t := [(2, .junk)], h := [] }))) none := by
  induction n generalizing s_ with
  | zero => rfl
  | succ n ih =>
    have hu : I.NetOk_L4 (n + 1) { n := 39, t := [(0, (.ro false (.ints .i64 x0))), (3, (.int .i64 s_))], h := [] } k = I.NetOk_step4 x0 s_ (fun s_ => I.NetOk_L4 n { n := 39, t := [(0, (.ro false (.ints .i64 x0))), (3, (.int .i64 s_))], h := [] } k) (fun d => k (.ret) { n := 39, t := [(2, (.bool d))], h := [] }) (fun d => k (.exit 0) { n := 39, t := [(2, .junk)], h := [] }) none := by
      kernel_rfl
    have hs : (fun s_ : Int => I.NetOk_L4 n { n := 39, t := [(0, (.ro false (.ints .i64 x0))), (3, (.int .i64 s_))], h := [] } k) = fun s_ => optC (I.NetOk_run4 x0 n s_) (fun (r : (Bool) ⊕ (Unit)) => (sumC r (fun (r : Bool) => k (.ret) { n := 39, t := [(2, (.bool r))], h := [] }) (fun (r : Unit) => k (.exit 0) { n := 39, t := [(2, .junk)], h := [] }))) none := funext ih
    rw [hu, hs]
    exact (I.NetOk_step4_nat (fun o => optC o (fun (r : (Bool) ⊕ (Unit)) => (sumC r (fun (r : Bool) => k (.ret) { n := 39, t := [(2, (.bool r))], h := [] }) (fun (r : Unit) => k (.exit 0) { n := 39, t := [(2, .junk)], h := [] }))) none) x0 s_ (I.NetOk_run4 x0 n) (fun d => some ((Sum.inl d))) (fun d => some ((Sum.inr d))) none).symm
noncomputable def I.NetOk_tree {α : Type} (net : List Int) (leaf0_ : Bool → α) (fail_ : α) : α :=
  (bif decide ((↑net.length : Int) < 1) then (leaf0_ false) else (bif decide ((↑net.length : Int) > 6) then (leaf0_ false) else (optC (I.NetOk_run4 net FUEL 0) (fun qy_4 => (sumC qy_4 (fun (qy_4 : Bool) => (leaf0_ qy_4)) (fun (qy_4 : Unit) => (leaf0_ true)))) fail_)))
theorem I.NetOk_tree_nat {α γ : Type} (g : α → γ) (net : List Int) (leaf0_ : Bool → α) (fail_ : α) : g (I.NetOk_tree net leaf0_ fail_) = I.NetOk_tree net (fun d => g (leaf0_ d)) (g fail_) := by
  unfold I.NetOk_tree; simp only [apply_cnd g, apply_optC g, apply_sumC g]
noncomputable def I.NetOk_t (net : List Int) : Option (Bool) := I.NetOk_tree net (fun d => some d) none
theorem I.NetOk_den (net : List Int) (κ : V → List E → R) : I.NetOk_F [.ro false (.ints .i64 net)] [] κ = optC (I.NetOk_t net) (fun (r : Bool) => κ (.bool r) []) none := by
  have hu : I.NetOk_F [.ro false (.ints .i64 net)] [] κ = I.NetOk_tree net (fun d => κ (.bool d) []) none := by
    refine Eq.trans (show I.NetOk_F [.ro false (.ints .i64 net)] [] κ = (bif decide ((↑net.length : Int) < 1) then (κ (.bool false) []) else (bif decide ((↑net.length : Int) > 6) then (κ (.bool false) []) else (I.NetOk_L4 FUEL { n := 39, t := [(0, (.ro false (.ints .i64 net))), (3, (.int .i64 0))], h := [] } (I.NetOk_k4 κ)))) by kernel_rfl) ?_
    refine cnd_congr ?_ ?_
    · kernel_rfl
    · refine cnd_congr ?_ ?_
      · kernel_rfl
      · refine (I.NetOk_L4_run net FUEL 0 (I.NetOk_k4 κ)).trans (optC_congr (fun qy_4 => ?_))
        rcases qy_4 with qy_4 | qy_4
        · kernel_rfl
        · kernel_rfl
  rw [hu]
  exact (I.NetOk_tree_nat (fun o => optC o (fun (r : Bool) => κ (.bool r) []) none) net (fun d => some d) none).symm
noncomputable def I.NetOk_s : D.Spec where
  keep := false
  pure := true
  ds := [.int .i64]
  sp := fun args h κ => match args, h with
    | [.ro false (.ints .i64 net)], [] => optC (I.NetOk_t net) (fun (r : Bool) => κ (.bool r) []) none
    | _, _ => none
theorem I.NetOk_ok : SpecOk Try.prog 31 I.NetOk_s := by
  refine SpecOk.of TDok mixed (T := I.NetOk_T) ?_ (ann := I.NetOk_ann) Try.func31 rfl (by decide +kernel) ?_ ?_ ?_
  · intro p hp
    simp only [I.NetOk_T, List.mem_cons, List.not_mem_nil, or_false] at hp
    rcases hp with rfl | rfl | rfl
    · exact I.setIn_ok
    · exact I.hasPlace_ok
    · exact I.knownBack_ok
  · intro args h κ r hh
    simp only [I.NetOk_s] at hh
    split at hh
    · exact (I.NetOk_den _ κ).trans hh
    · cases hh
  · intro args h κ r hh
    simp only [I.NetOk_s] at hh ⊢
    split at hh
    · exact optC_law2 (F := fun (r : Bool) κ => κ (.bool r) []) (fun b κ r hb => ⟨_, _, hb, fun _ => rfl⟩) hh
    · cases hh
  · intro _ args h κ r hh
    simp only [I.NetOk_s] at hh
    split at hh
    · exact ⟨rfl, fun _ => rfl⟩
    · cases hh

-- loop.example/guardsonnets/impl.rowIn
noncomputable def I.rowIn_T : List (Nat × D.Spec) := []
def I.rowIn_ann : Nat → List Nat × List Nat
  | 4 => ([1, 5], [4])
  | _ => ([], [])
noncomputable def I.rowIn_F (args : List V) (h : List E) (κ : V → List E → R) : R := funC TD (tableK I.rowIn_T) I.rowIn_ann (drawOk (tableP I.rowIn_T)) FUEL Try.f49 args h κ
noncomputable def I.rowIn_L4 (n : Nat) (σ : St) (k : X → St → R) : R := iterC 0 (fun σ k => denC TD (tableK I.rowIn_T) I.rowIn_ann (drawOk (tableP I.rowIn_T)) 0 FUEL ((findLoop 4 (Try.f49.body.getD .skip)).getD .skip) σ k) [1, 5] [4] n σ k
noncomputable def I.rowIn_k4 (κ : V → List E → R) : X → St → R := (afterC TD (tableK I.rowIn_T) I.rowIn_ann (drawOk (tableP I.rowIn_T)) 0 FUEL 4 (Try.f49.body.getD .skip) (finC TD 0 Try.f49 κ)).getD (fun _ _ => none)
noncomputable def I.rowIn_step4 {α : Type} (x1 : List Int) (x5 : Int) (next_ : Int → α) (out0_ : Bool → α) (out1_ : Unit → α) (fail_ : α) : α :=
  (bif decide (x5 < (↑x1.length : Int)) then (bif decide (0 ≤ x5) && decide (x5 < (↑x1.length : Int)) then (bif decide (eli x1 x5.toNat < 0) then (out0_ false) else (bif decide (0 ≤ x5) && decide (x5 < (↑x1.length : Int)) then (bif decide (eli x1 x5.toNat > 2) then (out0_ false) else (next_ (IntKind.i64.wrap (x5 + 1)))) else fail_)) else fail_) else (out1_ ()))
theorem I.rowIn_step4_nat {α γ : Type} (g : α → γ) (x1 : List Int) (x5 : Int) (next_ : Int → α) (out0_ : Bool → α) (out1_ : Unit → α) (fail_ : α) : g (I.rowIn_step4 x1 x5 next_ out0_ out1_ fail_) = I.rowIn_step4 x1 x5 (fun s => g (next_ s)) (fun d => g (out0_ d)) (fun d => g (out1_ d)) (g fail_) := by
  unfold I.rowIn_step4; simp only [apply_cnd g, apply_optC g, apply_sumC g]
noncomputable def I.rowIn_run4 (x1 : List Int) : Nat → Int → Option ((Bool) ⊕ (Unit))
  | 0, _ => none
  | n + 1, s_ => I.rowIn_step4 x1 s_ (I.rowIn_run4 x1 n) (fun d => some ((Sum.inl d))) (fun d => some ((Sum.inr d))) none
theorem I.rowIn_L4_run (x1 : List Int) (n : Nat) (s_ : Int) (k : X → St → R) : I.rowIn_L4 n { n := 29, t := [(1, (.ro false (.ints .i64 x1))), (5, (.int .i64 s_))], h := [] } k = optC (I.rowIn_run4 x1 n s_) (fun (r : (Bool) ⊕ (Unit)) => (sumC r (fun (r : Bool) => k (.ret) { n := 29, t := [(4, (.bool r))], h := [] }) (fun (r : Unit) => k (.exit 0) { n := 29, t := [(4, .junk)], h := [] }))) none := by
  induction n generalizing s_ with
  | zero => rfl
  | succ n ih =>
    have hu : I.rowIn_L4 (n + 1) { n := 29, t := [(1, (.ro false (.ints .i64 x1))), (5, (.int .i64 s_))], h := [] } k = I.rowIn_step4 x1 s_ (fun s_ => I.rowIn_L4 n { n := 29, t := [(1, (.ro false (.ints .i64 x1))), (5, (.int .i64 s_))], h := [] } k) (fun d => k (.ret) { n := 29, t := [(4, (.bool d))], h := [] }) (fun d => k (.exit 0) { n := 29, t := [(4, .junk)], h := [] }) none := by
      kernel_rfl
    have hs : (fun s_ : Int => I.rowIn_L4 n { n := 29, t := [(1, (.ro false (.ints .i64 x1))), (5, (.int .i64 s_))], h := [] } k) = fun s_ => optC (I.rowIn_run4 x1 n s_) (fun (r : (Bool) ⊕ (Unit)) => (sumC r (fun (r : Bool) => k (.ret) { n := 29, t := [(4, (.bool r))], h := [] }) (fun (r : Unit) => k (.exit 0) { n := 29, t := [(4, .junk)], h := [] }))) none := funext ih
    rw [hu, hs]
    exact (I.rowIn_step4_nat (fun o => optC o (fun (r : (Bool) ⊕ (Unit)) => (sumC r (fun (r : Bool) => k (.ret) { n := 29, t := [(4, (.bool r))], h := [] }) (fun (r : Unit) => k (.exit 0) { n := 29, t := [(4, .junk)], h := [] }))) none) x1 s_ (I.rowIn_run4 x1 n) (fun d => some ((Sum.inl d))) (fun d => some ((Sum.inr d))) none).symm
noncomputable def I.rowIn_tree {α : Type} (net : List Int) (row : List Int) (leaf0_ : Bool → α) (fail_ : α) : α :=
  (bif !(↑row.length : Int) == (↑net.length : Int) then (leaf0_ false) else (optC (I.rowIn_run4 row FUEL 0) (fun qy_1 => (sumC qy_1 (fun (qy_1 : Bool) => (leaf0_ qy_1)) (fun (qy_1 : Unit) => (leaf0_ true)))) fail_))
theorem I.rowIn_tree_nat {α γ : Type} (g : α → γ) (net : List Int) (row : List Int) (leaf0_ : Bool → α) (fail_ : α) : g (I.rowIn_tree net row leaf0_ fail_) = I.rowIn_tree net row (fun d => g (leaf0_ d)) (g fail_) := by
  unfold I.rowIn_tree; simp only [apply_cnd g, apply_optC g, apply_sumC g]
noncomputable def I.rowIn_t (net : List Int) (row : List Int) : Option (Bool) := I.rowIn_tree net row (fun d => some d) none
theorem I.rowIn_den (net : List Int) (row : List Int) (κ : V → List E → R) : I.rowIn_F [.ro false (.ints .i64 net), .ro false (.ints .i64 row)] [] κ = optC (I.rowIn_t net row) (fun (r : Bool) => κ (.bool r) []) none := by
  have hu : I.rowIn_F [.ro false (.ints .i64 net), .ro false (.ints .i64 row)] [] κ = I.rowIn_tree net row (fun d => κ (.bool d) []) none := by
    refine Eq.trans (show I.rowIn_F [.ro false (.ints .i64 net), .ro false (.ints .i64 row)] [] κ = (bif !(↑row.length : Int) == (↑net.length : Int) then (κ (.bool false) []) else (I.rowIn_L4 FUEL { n := 29, t := [(1, (.ro false (.ints .i64 row))), (5, (.int .i64 0))], h := [] } (I.rowIn_k4 κ))) by kernel_rfl) ?_
    refine cnd_congr ?_ ?_
    · kernel_rfl
    · refine (I.rowIn_L4_run row FUEL 0 (I.rowIn_k4 κ)).trans (optC_congr (fun qy_1 => ?_))
      rcases qy_1 with qy_1 | qy_1
      · kernel_rfl
      · kernel_rfl
  rw [hu]
  exact (I.rowIn_tree_nat (fun o => optC o (fun (r : Bool) => κ (.bool r) []) none) net row (fun d => some d) none).symm
noncomputable def I.rowIn_s : D.Spec where
  keep := false
  pure := true
  ds := [.int .i64, .int .i64]
  sp := fun args h κ => match args, h with
    | [.ro false (.ints .i64 net), .ro false (.ints .i64 row)], [] => optC (I.rowIn_t net row) (fun (r : Bool) => κ (.bool r) []) none
    | _, _ => none
theorem I.rowIn_ok : SpecOk Try.prog 49 I.rowIn_s := by
  refine SpecOk.of TDok mixed (T := I.rowIn_T) ?_ (ann := I.rowIn_ann) Try.func49 rfl (by decide +kernel) ?_ ?_ ?_
  · intro p hp; cases hp
  · intro args h κ r hh
    simp only [I.rowIn_s] at hh
    split at hh
    · exact (I.rowIn_den _ _ κ).trans hh
    · cases hh
  · intro args h κ r hh
    simp only [I.rowIn_s] at hh ⊢
    split at hh
    · exact optC_law2 (F := fun (r : Bool) κ => κ (.bool r) []) (fun b κ r hb => ⟨_, _, hb, fun _ => rfl⟩) hh
    · cases hh
  · intro _ args h κ r hh
    simp only [I.rowIn_s] at hh
    split at hh
    · exact ⟨rfl, fun _ => rfl⟩
    · cases hh

-- loop.example/guardsonnets/impl.with
noncomputable def I.with_T : List (Nat × D.Spec) := []
def I.with_ann : Nat → List Nat × List Nat
  | _ => ([], [])
noncomputable def I.with_F (args : List V) (h : List E) (κ : V → List E → R) : R := funC TD (tableK I.with_T) I.with_ann (drawOk (tableP I.with_T)) FUEL Try.f84 args h κ
noncomputable def I.with_tree {α : Type} (set_ : Int) (place : Int) (leaf0_ : Int → α) (fail_ : α) : α :=
  (bif decide (place < 0) then fail_ else (leaf0_ (bits BinOp.or IntKind.i64 set_ (IntKind.i64.wrap (1 * 2 ^ min place.toNat IntKind.i64.bits)))))
theorem I.with_tree_nat {α γ : Type} (g : α → γ) (set_ : Int) (place : Int) (leaf0_ : Int → α) (fail_ : α) : g (I.with_tree set_ place leaf0_ fail_) = I.with_tree set_ place (fun d => g (leaf0_ d)) (g fail_) := by
  unfold I.with_tree; simp only [apply_cnd g, apply_optC g, apply_sumC g]
noncomputable def I.with_t (set_ : Int) (place : Int) : Option (Int) := I.with_tree set_ place (fun d => some d) none
theorem I.with_den (set_ : Int) (place : Int) (κ : V → List E → R) : I.with_F [.int .i64 set_, .int .i64 place] [] κ = optC (I.with_t set_ place) (fun (r : Int) => κ (.int .i64 r) []) none := by
  have hu : I.with_F [.int .i64 set_, .int .i64 place] [] κ = I.with_tree set_ place (fun d => κ (.int .i64 d) []) none := by
    kernel_rfl
  rw [hu]
  exact (I.with_tree_nat (fun o => optC o (fun (r : Int) => κ (.int .i64 r) []) none) set_ place (fun d => some d) none).symm
noncomputable def I.with_s : D.Spec where
  keep := false
  pure := true
  ds := [.invalid, .invalid]
  sp := fun args h κ => match args, h with
    | [.int .i64 set_, .int .i64 place], [] => optC (I.with_t set_ place) (fun (r : Int) => κ (.int .i64 r) []) none
    | _, _ => none
theorem I.with_ok : SpecOk Try.prog 84 I.with_s := by
  refine SpecOk.of TDok mixed (T := I.with_T) ?_ (ann := I.with_ann) Try.func84 rfl (by decide +kernel) ?_ ?_ ?_
  · intro p hp; cases hp
  · intro args h κ r hh
    simp only [I.with_s] at hh
    split at hh
    · exact (I.with_den _ _ κ).trans hh
    · cases hh
  · intro args h κ r hh
    simp only [I.with_s] at hh ⊢
    split at hh
    · exact optC_law2 (F := fun (r : Int) κ => κ (.int .i64 r) []) (fun b κ r hb => ⟨_, _, hb, fun _ => rfl⟩) hh
    · cases hh
  · intro _ args h κ r hh
    simp only [I.with_s] at hh
    split at hh
    · exact ⟨rfl, fun _ => rfl⟩
    · cases hh

-- loop.example/guardsonnets/impl.placesWith
noncomputable def I.placesWith_T : List (Nat × D.Spec) := [(84, I.with_s)]
def I.placesWith_ann : Nat → List Nat × List Nat
  | 3 => ([0, 1, 5, 6], [5])
  | _ => ([], [])
noncomputable def I.placesWith_F (args : List V) (h : List E) (κ : V → List E → R) : R := funC TD (tableK I.placesWith_T) I.placesWith_ann (drawOk (tableP I.placesWith_T)) FUEL Try.f76 args h κ
noncomputable def I.placesWith_L3 (n : Nat) (σ : St) (k : X → St → R) : R := iterC 0 (fun σ k => denC TD (tableK I.placesWith_T) I.placesWith_ann (drawOk (tableP I.placesWith_T)) 0 FUEL ((findLoop 3 (Try.f76.body.getD .skip)).getD .skip) σ k) [0, 1, 5, 6] [5] n σ k
noncomputable def I.placesWith_k3 (κ : V → List E → R) : X → St → R := (afterC TD (tableK I.placesWith_T) I.placesWith_ann (drawOk (tableP I.placesWith_T)) 0 FUEL 3 (Try.f76.body.getD .skip) (finC TD 0 Try.f76 κ)).getD (fun _ _ => none)
noncomputable def I.placesWith_step3 {α : Type} (x0 : List Int) (x1 : Int) (x5 : Int) (x6 : Int) (next_ : Int × Int → α) (out0_ : Int → α) (fail_ : α) : α :=
  (bif decide (x6 < (↑x0.length : Int)) then (bif decide (0 ≤ x6) && decide (x6 < (↑x0.length : Int)) then (bif eli x0 x6.toNat == x1 then (optC (I.with_t x5 x6) (fun c_1 => (next_ (c_1, IntKind.i64.wrap (x6 + 1)))) fail_) else (next_ (x5, IntKind.i64.wrap (x6 + 1)))) else fail_) else (out0_ x5))
theorem I.placesWith_step3_nat {α γ : Type} (g : α → γ) (x0 : List Int) (x1 : Int) (x5 : Int) (x6 : Int) (next_ : Int × Int → α) (out0_ : Int → α) (fail_ : α) : g (I.placesWith_step3 x0 x1 x5 x6 next_ out0_ fail_) = I.placesWith_step3 x0 x1 x5 x6 (fun s => g (next_ s)) (fun d => g (out0_ d)) (g fail_) := by
  unfold I.placesWith_step3; simp only [apply_cnd g, apply_optC g, apply_sumC g]
noncomputable def I.placesWith_run3 (x0 : List Int) (x1 : Int) : Nat → Int × Int → Option (Int)
  | 0, _ => none
  | n + 1, s_ => I.placesWith_step3 x0 x1 s_.1 s_.2 (I.placesWith_run3 x0 x1 n) (fun d => some d) none
theorem I.placesWith_L3_run (x0 : List Int) (x1 : Int) (n : Nat) (s_ : Int × Int) (k : X → St → R) : I.placesWith_L3 n { n := 23, t := [(0, (.ro false (.ints .i64 x0))), (1, (.int .i64 x1)), (5, (.int .i64 s_.1)), (6, (.int .i64 s_.2))], h := [] } k = optC (I.placesWith_run3 x0 x1 n s_) (fun (r : Int) => k (.exit 0) { n := 23, t := [(5, (.int .i64 r))], h := [] }) none := by
  induction n generalizing s_ with
  | zero => rfl
  | succ n ih =>
    have hu : I.placesWith_L3 (n + 1) { n := 23, t := [(0, (.ro false (.ints .i64 x0))), (1, (.int .i64 x1)), (5, (.int .i64 s_.1)), (6, (.int .i64 s_.2))], h := [] } k = I.placesWith_step3 x0 x1 s_.1 s_.2 (fun s_ => I.placesWith_L3 n { n := 23, t := [(0, (.ro false (.ints .i64 x0))), (1, (.int .i64 x1)), (5, (.int .i64 s_.1)), (6, (.int .i64 s_.2))], h := [] } k) (fun d => k (.exit 0) { n := 23, t := [(5, (.int .i64 d))], h := [] }) none := by
      kernel_rfl
    have hs : (fun s_ : Int × Int => I.placesWith_L3 n { n := 23, t := [(0, (.ro false (.ints .i64 x0))), (1, (.int .i64 x1)), (5, (.int .i64 s_.1)), (6, (.int .i64 s_.2))], h := [] } k) = fun s_ => optC (I.placesWith_run3 x0 x1 n s_) (fun (r : Int) => k (.exit 0) { n := 23, t := [(5, (.int .i64 r))], h := [] }) none := funext ih
    rw [hu, hs]
    exact (I.placesWith_step3_nat (fun o => optC o (fun (r : Int) => k (.exit 0) { n := 23, t := [(5, (.int .i64 r))], h := [] }) none) x0 x1 s_.1 s_.2 (I.placesWith_run3 x0 x1 n) (fun d => some d) none).symm
noncomputable def I.placesWith_tree {α : Type} (row : List Int) (number : Int) (leaf0_ : Int → α) (fail_ : α) : α :=
  (optC (I.placesWith_run3 row number FUEL (0, 0)) (fun qy_2 => (leaf0_ qy_2)) fail_)
theorem I.placesWith_tree_nat {α γ : Type} (g : α → γ) (row : List Int) (number : Int) (leaf0_ : Int → α) (fail_ : α) : g (I.placesWith_tree row number leaf0_ fail_) = I.placesWith_tree row number (fun d => g (leaf0_ d)) (g fail_) := by
  unfold I.placesWith_tree; simp only [apply_cnd g, apply_optC g, apply_sumC g]
noncomputable def I.placesWith_t (row : List Int) (number : Int) : Option (Int) := I.placesWith_tree row number (fun d => some d) none
theorem I.placesWith_den (row : List Int) (number : Int) (κ : V → List E → R) : I.placesWith_F [.ro false (.ints .i64 row), .int .i64 number] [] κ = optC (I.placesWith_t row number) (fun (r : Int) => κ (.int .i64 r) []) none := by
  have hu : I.placesWith_F [.ro false (.ints .i64 row), .int .i64 number] [] κ = I.placesWith_tree row number (fun d => κ (.int .i64 d) []) none := by
    refine Eq.trans (show I.placesWith_F [.ro false (.ints .i64 row), .int .i64 number] [] κ = (I.placesWith_L3 FUEL { n := 23, t := [(0, (.ro false (.ints .i64 row))), (1, (.int .i64 number)), (5, (.int .i64 0)), (6, (.int .i64 0))], h := [] } (I.placesWith_k3 κ)) by kernel_rfl) ?_
    refine (I.placesWith_L3_run row number FUEL (0, 0) (I.placesWith_k3 κ)).trans (optC_congr (fun qy_2 => ?_))
    kernel_rfl
  rw [hu]
  exact (I.placesWith_tree_nat (fun o => optC o (fun (r : Int) => κ (.int .i64 r) []) none) row number (fun d => some d) none).symm
noncomputable def I.placesWith_s : D.Spec where
  keep := false
  pure := true
  ds := [.int .i64, .invalid]
  sp := fun args h κ => match args, h with
    | [.ro false (.ints .i64 row), .int .i64 number], [] => optC (I.placesWith_t row number) (fun (r : Int) => κ (.int .i64 r) []) none
    | _, _ => none
theorem I.placesWith_ok : SpecOk Try.prog 76 I.placesWith_s := by
  refine SpecOk.of TDok mixed (T := I.placesWith_T) ?_ (ann := I.placesWith_ann) Try.func76 rfl (by decide +kernel) ?_ ?_ ?_
  · intro p hp
    simp only [I.placesWith_T, List.mem_cons, List.not_mem_nil, or_false] at hp
    rcases hp with rfl
    · exact I.with_ok
  · intro args h κ r hh
    simp only [I.placesWith_s] at hh
    split at hh
    · exact (I.placesWith_den _ _ κ).trans hh
    · cases hh
  · intro args h κ r hh
    simp only [I.placesWith_s] at hh ⊢
    split at hh
    · exact optC_law2 (F := fun (r : Int) κ => κ (.int .i64 r) []) (fun b κ r hb => ⟨_, _, hb, fun _ => rfl⟩) hh
    · cases hh
  · intro _ args h κ r hh
    simp only [I.placesWith_s] at hh
    split at hh
    · exact ⟨rfl, fun _ => rfl⟩
    · cases hh

-- loop.example/guardsonnets/impl.nextTo
noncomputable def I.nextTo_T : List (Nat × D.Spec) := [(64, I.hasPlace_s)]
def I.nextTo_ann : Nat → List Nat × List Nat
  | 3 => ([0, 1, 5, 6], [5])
  | _ => ([], [])
noncomputable def I.nextTo_F (args : List V) (h : List E) (κ : V → List E → R) : R := funC TD (tableK I.nextTo_T) I.nextTo_ann (drawOk (tableP I.nextTo_T)) FUEL Try.f77 args h κ
noncomputable def I.nextTo_L3 (n : Nat) (σ : St) (k : X → St → R) : R := iterC 0 (fun σ k => denC TD (tableK I.nextTo_T) I.nextTo_ann (drawOk (tableP I.nextTo_T)) 0 FUEL ((findLoop 3 (Try.f77.body.getD .skip)).getD .skip) σ k) [0, 1, 5, 6] [5] n σ k
noncomputable def I.nextTo_k3 (κ : V → List E → R) : X → St → R := (afterC TD (tableK I.nextTo_T) I.nextTo_ann (drawOk (tableP I.nextTo_T)) 0 FUEL 3 (Try.f77.body.getD .skip) (finC TD 0 Try.f77 κ)).getD (fun _ _ => none)
noncomputable def I.nextTo_step3 {α : Type} (x0 : List Int) (x1 : Int) (x5 : Int) (x6 : Int) (next_ : Int × Int → α) (out0_ : Int → α) (fail_ : α) : α :=
  (bif decide (x6 < (↑x0.length : Int)) then (optC (I.hasPlace_t x1 x6) (fun c_1 => (bif c_1 then (bif decide (0 ≤ x6) && decide (x6 < (↑x0.length : Int)) then (next_ (bits BinOp.or IntKind.i64 x5 (eli x0 x6.toNat), IntKind.i64.wrap (x6 + 1))) else fail_) else (next_ (x5, IntKind.i64.wrap (x6 + 1))))) fail_) else (out0_ x5))
theorem I.nextTo_step3_nat {α γ : Type} (g : α → γ) (x0 : List Int) (x1 : Int) (x5 : Int) (x6 : Int) (next_ : Int × Int → α) (out0_ : Int → α) (fail_ : α) : g (I.nextTo_step3 x0 x1 x5 x6 next_ out0_ fail_) = I.nextTo_step3 x0 x1 x5 x6 (fun s => g (next_ s)) (fun d => g (out0_ d)) (g fail_) := by
  unfold I.nextTo_step3; simp only [apply_cnd g, apply_optC g, apply_sumC g]
noncomputable def I.nextTo_run3 (x0 : List Int) (x1 : Int) : Nat → Int × Int → Option (Int)
  | 0, _ => none
  | n + 1, s_ => I.nextTo_step3 x0 x1 s_.1 s_.2 (I.nextTo_run3 x0 x1 n) (fun d => some d) none
theorem I.nextTo_L3_run (x0 : List Int) (x1 : Int) (n : Nat) (s_ : Int × Int) (k : X → St → R) : I.nextTo_L3 n { n := 23, t := [(0, (.ro false (.ints .i64 x0))), (1, (.int .i64 x1)), (5, (.int .i64 s_.1)), (6, (.int .i64 s_.2))], h := [] } k = optC (I.nextTo_run3 x0 x1 n s_) (fun (r : Int) => k (.exit 0) { n := 23, t := [(5, (.int .i64 r))], h := [] }) none := by
  induction n generalizing s_ with
  | zero => rfl
  | succ n ih =>
    have hu : I.nextTo_L3 (n + 1) { n := 23, t := [(0, (.ro false (.ints .i64 x0))), (1, (.int .i64 x1)), (5, (.int .i64 s_.1)), (6, (.int .i64 s_.2))], h := [] } k = I.nextTo_step3 x0 x1 s_.1 s_.2 (fun s_ => I.nextTo_L3 n { n := 23, t := [(0, (.ro false (.ints .i64 x0))), (1, (.int .i64 x1)), (5, (.int .i64 s_.1)), (6, (.int .i64 s_.2))], h := [] } k) (fun d => k (.exit 0) { n := 23, t := [(5, (.int .i64 d))], h := [] }) none := by
      kernel_rfl
    have hs : (fun s_ : Int × Int => I.nextTo_L3 n { n := 23, t := [(0, (.ro false (.ints .i64 x0))), (1, (.int .i64 x1)), (5, (.int .i64 s_.1)), (6, (.int .i64 s_.2))], h := [] } k) = fun s_ => optC (I.nextTo_run3 x0 x1 n s_) (fun (r : Int) => k (.exit 0) { n := 23, t := [(5, (.int .i64 r))], h := [] }) none := funext ih
    rw [hu, hs]
    exact (I.nextTo_step3_nat (fun o => optC o (fun (r : Int) => k (.exit 0) { n := 23, t := [(5, (.int .i64 r))], h := [] }) none) x0 x1 s_.1 s_.2 (I.nextTo_run3 x0 x1 n) (fun d => some d) none).symm
noncomputable def I.nextTo_tree {α : Type} (net : List Int) (set_ : Int) (leaf0_ : Int → α) (fail_ : α) : α :=
  (optC (I.nextTo_run3 net set_ FUEL (0, 0)) (fun qy_2 => (leaf0_ qy_2)) fail_)
theorem I.nextTo_tree_nat {α γ : Type} (g : α → γ) (net : List Int) (set_ : Int) (leaf0_ : Int → α) (fail_ : α) : g (I.nextTo_tree net set_ leaf0_ fail_) = I.nextTo_tree net set_ (fun d => g (leaf0_ d)) (g fail_) := by
  unfold I.nextTo_tree; simp only [apply_cnd g, apply_optC g, apply_sumC g]
noncomputable def I.nextTo_t (net : List Int) (set_ : Int) : Option (Int) := I.nextTo_tree net set_ (fun d => some d) none
theorem I.nextTo_den (net : List Int) (set_ : Int) (κ : V → List E → R) : I.nextTo_F [.ro false (.ints .i64 net), .int .i64 set_] [] κ = optC (I.nextTo_t net set_) (fun (r : Int) => κ (.int .i64 r) []) none := by
  have hu : I.nextTo_F [.ro false (.ints .i64 net), .int .i64 set_] [] κ = I.nextTo_tree net set_ (fun d => κ (.int .i64 d) []) none := by
    refine Eq.trans (show I.nextTo_F [.ro false (.ints .i64 net), .int .i64 set_] [] κ = (I.nextTo_L3 FUEL { n := 23, t := [(0, (.ro false (.ints .i64 net))), (1, (.int .i64 set_)), (5, (.int .i64 0)), (6, (.int .i64 0))], h := [] } (I.nextTo_k3 κ)) by kernel_rfl) ?_
    refine (I.nextTo_L3_run net set_ FUEL (0, 0) (I.nextTo_k3 κ)).trans (optC_congr (fun qy_2 => ?_))
    kernel_rfl
  rw [hu]
  exact (I.nextTo_tree_nat (fun o => optC o (fun (r : Int) => κ (.int .i64 r) []) none) net set_ (fun d => some d) none).symm
noncomputable def I.nextTo_s : D.Spec where
  keep := false
  pure := true
  ds := [.int .i64, .invalid]
  sp := fun args h κ => match args, h with
    | [.ro false (.ints .i64 net), .int .i64 set_], [] => optC (I.nextTo_t net set_) (fun (r : Int) => κ (.int .i64 r) []) none
    | _, _ => none
theorem I.nextTo_ok : SpecOk Try.prog 77 I.nextTo_s := by
  refine SpecOk.of TDok mixed (T := I.nextTo_T) ?_ (ann := I.nextTo_ann) Try.func77 rfl (by decide +kernel) ?_ ?_ ?_
  · intro p hp
    simp only [I.nextTo_T, List.mem_cons, List.not_mem_nil, or_false] at hp
    rcases hp with rfl
    · exact I.hasPlace_ok
  · intro args h κ r hh
    simp only [I.nextTo_s] at hh
    split at hh
    · exact (I.nextTo_den _ _ κ).trans hh
    · cases hh
  · intro args h κ r hh
    simp only [I.nextTo_s] at hh ⊢
    split at hh
    · exact optC_law2 (F := fun (r : Int) κ => κ (.int .i64 r) []) (fun b κ r hb => ⟨_, _, hb, fun _ => rfl⟩) hh
    · cases hh
  · intro _ args h κ r hh
    simp only [I.nextTo_s] at hh
    split at hh
    · exact ⟨rfl, fun _ => rfl⟩
    · cases hh

-- loop.example/guardsonnets/impl.romanIn
noncomputable def I.romanIn_T : List (Nat × D.Spec) := [(76, I.placesWith_s), (77, I.nextTo_s)]
def I.romanIn_ann : Nat → List Nat × List Nat
  | _ => ([], [])
noncomputable def I.romanIn_F (args : List V) (h : List E) (κ : V → List E → R) : R := funC TD (tableK I.romanIn_T) I.romanIn_ann (drawOk (tableP I.romanIn_T)) FUEL Try.f50 args h κ
noncomputable def I.romanIn_tree {α : Type} (net : List Int) (row : List Int) (leaf0_ : Bool → α) (fail_ : α) : α :=
  (optC (I.placesWith_t row 0) (fun c_1 => (optC (I.placesWith_t row 2) (fun c_2 => (optC (I.nextTo_t net c_2) (fun c_3 => (leaf0_ (bits BinOp.andNot IntKind.i64 c_1 c_3 == 0))) fail_)) fail_)) fail_)
theorem I.romanIn_tree_nat {α γ : Type} (g : α → γ) (net : List Int) (row : List Int) (leaf0_ : Bool → α) (fail_ : α) : g (I.romanIn_tree net row leaf0_ fail_) = I.romanIn_tree net row (fun d => g (leaf0_ d)) (g fail_) := by
  unfold I.romanIn_tree; simp only [apply_cnd g, apply_optC g, apply_sumC g]
noncomputable def I.romanIn_t (net : List Int) (row : List Int) : Option (Bool) := I.romanIn_tree net row (fun d => some d) none
theorem I.romanIn_den (net : List Int) (row : List Int) (κ : V → List E → R) : I.romanIn_F [.ro false (.ints .i64 net), .ro false (.ints .i64 row)] [] κ = optC (I.romanIn_t net row) (fun (r : Bool) => κ (.bool r) []) none := by
  have hu : I.romanIn_F [.ro false (.ints .i64 net), .ro false (.ints .i64 row)] [] κ = I.romanIn_tree net row (fun d => κ (.bool d) []) none := by
    kernel_rfl
  rw [hu]
  exact (I.romanIn_tree_nat (fun o => optC o (fun (r : Bool) => κ (.bool r) []) none) net row (fun d => some d) none).symm
noncomputable def I.romanIn_s : D.Spec where
  keep := false
  pure := true
  ds := [.int .i64, .int .i64]
  sp := fun args h κ => match args, h with
    | [.ro false (.ints .i64 net), .ro false (.ints .i64 row)], [] => optC (I.romanIn_t net row) (fun (r : Bool) => κ (.bool r) []) none
    | _, _ => none
theorem I.romanIn_ok : SpecOk Try.prog 50 I.romanIn_s := by
  refine SpecOk.of TDok mixed (T := I.romanIn_T) ?_ (ann := I.romanIn_ann) Try.func50 rfl (by decide +kernel) ?_ ?_ ?_
  · intro p hp
    simp only [I.romanIn_T, List.mem_cons, List.not_mem_nil, or_false] at hp
    rcases hp with rfl | rfl
    · exact I.placesWith_ok
    · exact I.nextTo_ok
  · intro args h κ r hh
    simp only [I.romanIn_s] at hh
    split at hh
    · exact (I.romanIn_den _ _ κ).trans hh
    · cases hh
  · intro args h κ r hh
    simp only [I.romanIn_s] at hh ⊢
    split at hh
    · exact optC_law2 (F := fun (r : Bool) κ => κ (.bool r) []) (fun b κ r hb => ⟨_, _, hb, fun _ => rfl⟩) hh
    · cases hh
  · intro _ args h κ r hh
    simp only [I.romanIn_s] at hh
    split at hh
    · exact ⟨rfl, fun _ => rfl⟩
    · cases hh

-- loop.example/guardsonnets/impl.RomanOk
noncomputable def I.RomanOk_T : List (Nat × D.Spec) := [(31, I.NetOk_s), (49, I.rowIn_s), (50, I.romanIn_s)]
def I.RomanOk_ann : Nat → List Nat × List Nat
  | _ => ([], [])
noncomputable def I.RomanOk_F (args : List V) (h : List E) (κ : V → List E → R) : R := funC TD (tableK I.RomanOk_T) I.RomanOk_ann (drawOk (tableP I.RomanOk_T)) FUEL Try.f16 args h κ
noncomputable def I.RomanOk_tree {α : Type} (net : List Int) (row : List Int) (leaf0_ : Bool → α) (fail_ : α) : α :=
  (optC (I.NetOk_t net) (fun c_1 => (bif c_1 then (optC (I.rowIn_t net row) (fun c_2 => (bif c_2 then (optC (I.romanIn_t net row) (fun c_3 => (leaf0_ c_3)) fail_) else (leaf0_ false))) fail_) else (leaf0_ false))) fail_)
theorem I.RomanOk_tree_nat {α γ : Type} (g : α → γ) (net : List Int) (row : List Int) (leaf0_ : Bool → α) (fail_ : α) : g (I.RomanOk_tree net row leaf0_ fail_) = I.RomanOk_tree net row (fun d => g (leaf0_ d)) (g fail_) := by
  unfold I.RomanOk_tree; simp only [apply_cnd g, apply_optC g, apply_sumC g]
noncomputable def I.RomanOk_t (net : List Int) (row : List Int) : Option (Bool) := I.RomanOk_tree net row (fun d => some d) none
theorem I.RomanOk_den (net : List Int) (row : List Int) (κ : V → List E → R) : I.RomanOk_F [.ro false (.ints .i64 net), .ro false (.ints .i64 row)] [] κ = optC (I.RomanOk_t net row) (fun (r : Bool) => κ (.bool r) []) none := by
  have hu : I.RomanOk_F [.ro false (.ints .i64 net), .ro false (.ints .i64 row)] [] κ = I.RomanOk_tree net row (fun d => κ (.bool d) []) none := by
    kernel_rfl
  rw [hu]
  exact (I.RomanOk_tree_nat (fun o => optC o (fun (r : Bool) => κ (.bool r) []) none) net row (fun d => some d) none).symm
noncomputable def I.RomanOk_s : D.Spec where
  keep := false
  pure := true
  ds := [.int .i64, .int .i64]
  sp := fun args h κ => match args, h with
    | [.ro false (.ints .i64 net), .ro false (.ints .i64 row)], [] => optC (I.RomanOk_t net row) (fun (r : Bool) => κ (.bool r) []) none
    | _, _ => none
theorem I.RomanOk_ok : SpecOk Try.prog 16 I.RomanOk_s := by
  refine SpecOk.of TDok mixed (T := I.RomanOk_T) ?_ (ann := I.RomanOk_ann) Try.func16 rfl (by decide +kernel) ?_ ?_ ?_
  · intro p hp
    simp only [I.RomanOk_T, List.mem_cons, List.not_mem_nil, or_false] at hp
    rcases hp with rfl | rfl | rfl
    · exact I.NetOk_ok
    · exact I.rowIn_ok
    · exact I.romanIn_ok
  · intro args h κ r hh
    simp only [I.RomanOk_s] at hh
    split at hh
    · exact (I.RomanOk_den _ _ κ).trans hh
    · cases hh
  · intro args h κ r hh
    simp only [I.RomanOk_s] at hh ⊢
    split at hh
    · exact optC_law2 (F := fun (r : Bool) κ => κ (.bool r) []) (fun b κ r hb => ⟨_, _, hb, fun _ => rfl⟩) hh
    · cases hh
  · intro _ args h κ r hh
    simp only [I.RomanOk_s] at hh
    split at hh
    · exact ⟨rfl, fun _ => rfl⟩
    · cases hh

-- loop.example/guardsonnets/spec.l7Row
noncomputable def S.l7Row_T : List (Nat × D.Spec) := [(60, S.NetOk_s), (78, S.l1In_s)]
def S.l7Row_ann : Nat → List Nat × List Nat
  | 4 => ([1, 5], [4])
  | _ => ([], [])
noncomputable def S.l7Row_F (args : List V) (h : List E) (κ : V → List E → R) : R := funC TD (tableK S.l7Row_T) S.l7Row_ann (drawOk (tableP S.l7Row_T)) FUEL Try.f51 args h κ
noncomputable def S.l7Row_L4 (n : Nat) (σ : St) (k : X → St → R) : R := iterC 0 (fun σ k => denC TD (tableK S.l7Row_T) S.l7Row_ann (drawOk (tableP S.l7Row_T)) 0 FUEL ((findLoop 4 (Try.f51.body.getD .skip)).getD .skip) σ k) [1, 5] [4] n σ k
noncomputable def S.l7Row_k4 (κ : V → List E → R) : X → St → R := (afterC TD (tableK S.l7Row_T) S.l7Row_ann (drawOk (tableP S.l7Row_T)) 0 FUEL 4 (Try.f51.body.getD .skip) (finC TD 0 Try.f51 κ)).getD (fun _ _ => none)
noncomputable def S.l7Row_step4 {α : Type} (x1 : List Int) (x5 : Int) (next_ : Int → α) (out0_ : Bool → α) (out1_ : Unit → α) (fail_ : α) : α :=
  (bif decide (x5 < (↑x1.length : Int)) then (bif decide (0 ≤ x5) && decide (x5 < (↑x1.length : Int)) then (optC (S.l1In_t (eli x1 x5.toNat) 0 2) (fun c_2 => (bif !c_2 then (out0_ false) else (next_ (IntKind.i64.wrap (x5 + 1))))) fail_) else fail_) else (out1_ ()))
theorem S.l7Row_step4_nat {α γ : Type} (g : α → γ) (x1 : List Int) (x5 : Int) (next_ : Int → α) (out0_ : Bool → α) (out1_ : Unit → α) (fail_ : α) : g (S.l7Row_step4 x1 x5 next_ out0_ out1_ fail_) = S.l7Row_step4 x1 x5 (fun s => g (next_ s)) (fun d => g (out0_ d)) (fun d => g (out1_ d)) (g fail_) := by
  unfold S.l7Row_step4; simp only [apply_cnd g, apply_optC g, apply_sumC g]
noncomputable def S.l7Row_run4 (x1 : List Int) : Nat → Int → Option ((Bool) ⊕ (Unit))
  | 0, _ => none
  | n + 1, s_ => S.l7Row_step4 x1 s_ (S.l7Row_run4 x1 n) (fun d => some ((Sum.inl d))) (fun d => some ((Sum.inr d))) none
theorem S.l7Row_L4_run (x1 : List Int) (n : Nat) (s_ : Int) (k : X → St → R) : S.l7Row_L4 n { n := 28, t := [(1, (.ro false (.ints .i64 x1))), (5, (.int .i64 s_))], h := [] } k = optC (S.l7Row_run4 x1 n s_) (fun (r : (Bool) ⊕ (Unit)) => (sumC r (fun (r : Bool) => k (.ret) { n := 28, t := [(4, (.bool r))], h := [] }) (fun (r : Unit) => k (.exit 0) { n := 28, t := [(4, .junk)], h := [] }))) none := by
  induction n generalizing s_ with
  | zero => rfl
  | succ n ih =>
    have hu : S.l7Row_L4 (n + 1) { n := 28, t := [(1, (.ro false (.ints .i64 x1))), (5, (.int .i64 s_))], h := [] } k = S.l7Row_step4 x1 s_ (fun s_ => S.l7Row_L4 n { n := 28, t := [(1, (.ro false (.ints .i64 x1))), (5, (.int .i64 s_))], h := [] } k) (fun d => k (.ret) { n := 28, t := [(4, (.bool d))], h := [] }) (fun d => k (.exit 0) { n := 28, t := [(4, .junk)], h := [] }) none := by
      kernel_rfl
    have hs : (fun s_ : Int => S.l7Row_L4 n { n := 28, t := [(1, (.ro false (.ints .i64 x1))), (5, (.int .i64 s_))], h := [] } k) = fun s_ => optC (S.l7Row_run4 x1 n s_) (fun (r : (Bool) ⊕ (Unit)) => (sumC r (fun (r : Bool) => k (.ret) { n := 28, t := [(4, (.bool r))], h := [] }) (fun (r : Unit) => k (.exit 0) { n := 28, t := [(4, .junk)], h := [] }))) none := funext ih
    rw [hu, hs]
    exact (S.l7Row_step4_nat (fun o => optC o (fun (r : (Bool) ⊕ (Unit)) => (sumC r (fun (r : Bool) => k (.ret) { n := 28, t := [(4, (.bool r))], h := [] }) (fun (r : Unit) => k (.exit 0) { n := 28, t := [(4, .junk)], h := [] }))) none) x1 s_ (S.l7Row_run4 x1 n) (fun d => some ((Sum.inl d))) (fun d => some ((Sum.inr d))) none).symm
noncomputable def S.l7Row_tree {α : Type} (net : List Int) (row : List Int) (leaf0_ : Bool → α) (fail_ : α) : α :=
  (optC (S.NetOk_t net) (fun c_1 => (bif !c_1 then (leaf0_ false) else (bif !(↑row.length : Int) == (↑net.length : Int) then (leaf0_ false) else (optC (S.l7Row_run4 row FUEL 0) (fun qy_3 => (sumC qy_3 (fun (qy_3 : Bool) => (leaf0_ qy_3)) (fun (qy_3 : Unit) => (leaf0_ true)))) fail_)))) fail_)
theorem S.l7Row_tree_nat {α γ : Type} (g : α → γ) (net : List Int) (row : List Int) (leaf0_ : Bool → α) (fail_ : α) : g (S.l7Row_tree net row leaf0_ fail_) = S.l7Row_tree net row (fun d => g (leaf0_ d)) (g fail_) := by
  unfold S.l7Row_tree; simp only [apply_cnd g, apply_optC g, apply_sumC g]
noncomputable def S.l7Row_t (net : List Int) (row : List Int) : Option (Bool) := S.l7Row_tree net row (fun d => some d) none
theorem S.l7Row_den (net : List Int) (row : List Int) (κ : V → List E → R) : S.l7Row_F [.ro false (.ints .i64 net), .ro false (.ints .i64 row)] [] κ = optC (S.l7Row_t net row) (fun (r : Bool) => κ (.bool r) []) none := by
  have hu : S.l7Row_F [.ro false (.ints .i64 net), .ro false (.ints .i64 row)] [] κ = S.l7Row_tree net row (fun d => κ (.bool d) []) none := by
    refine Eq.trans (show S.l7Row_F [.ro false (.ints .i64 net), .ro false (.ints .i64 row)] [] κ = (optC (S.NetOk_t net) (fun c_1 => (bif !c_1 then (κ (.bool false) []) else (bif !(↑row.length : Int) == (↑net.length : Int) then (κ (.bool false) []) else (S.l7Row_L4 FUEL { n := 28, t := [(1, (.ro false (.ints .i64 row))), (5, (.int .i64 0))], h := [] } (S.l7Row_k4 κ))))) none) by kernel_rfl) ?_
    refine optC_congr (fun c_1 => ?_)
    refine cnd_congr ?_ ?_
    · kernel_rfl
    · refine cnd_congr ?_ ?_
      · kernel_rfl
      · refine (S.l7Row_L4_run row FUEL 0 (S.l7Row_k4 κ)).trans (optC_congr (fun qy_3 => ?_))
        rcases qy_3 with qy_3 | qy_3
        · kernel_rfl
        · kernel_rfl
  rw [hu]
  exact (S.l7Row_tree_nat (fun o => optC o (fun (r : Bool) => κ (.bool r) []) none) net row (fun d => some d) none).symm
noncomputable def S.l7Row_s : D.Spec where
  keep := false
  pure := true
  ds := [.int .i64, .int .i64]
  sp := fun args h κ => match args, h with
    | [.ro false (.ints .i64 net), .ro false (.ints .i64 row)], [] => optC (S.l7Row_t net row) (fun (r : Bool) => κ (.bool r) []) none
    | _, _ => none
theorem S.l7Row_ok : SpecOk Try.prog 51 S.l7Row_s := by
  refine SpecOk.of TDok mixed (T := S.l7Row_T) ?_ (ann := S.l7Row_ann) Try.func51 rfl (by decide +kernel) ?_ ?_ ?_
  · intro p hp
    simp only [S.l7Row_T, List.mem_cons, List.not_mem_nil, or_false] at hp
    rcases hp with rfl | rfl
    · exact S.NetOk_ok
    · exact S.l1In_ok
  · intro args h κ r hh
    simp only [S.l7Row_s] at hh
    split at hh
    · exact (S.l7Row_den _ _ κ).trans hh
    · cases hh
  · intro args h κ r hh
    simp only [S.l7Row_s] at hh ⊢
    split at hh
    · exact optC_law2 (F := fun (r : Bool) κ => κ (.bool r) []) (fun b κ r hb => ⟨_, _, hb, fun _ => rfl⟩) hh
    · cases hh
  · intro _ args h κ r hh
    simp only [S.l7Row_s] at hh
    split at hh
    · exact ⟨rfl, fun _ => rfl⟩
    · cases hh

-- loop.example/guardsonnets/spec.l7With
noncomputable def S.l7With_T : List (Nat × D.Spec) := []
def S.l7With_ann : Nat → List Nat × List Nat
  | 3 => ([0, 1, 5, 6], [5])
  | _ => ([], [])
noncomputable def S.l7With_F (args : List V) (h : List E) (κ : V → List E → R) : R := funC TD (tableK S.l7With_T) S.l7With_ann (drawOk (tableP S.l7With_T)) FUEL Try.f52 args h κ
noncomputable def S.l7With_L3 (n : Nat) (σ : St) (k : X → St → R) : R := iterC 0 (fun σ k => denC TD (tableK S.l7With_T) S.l7With_ann (drawOk (tableP S.l7With_T)) 0 FUEL ((findLoop 3 (Try.f52.body.getD .skip)).getD .skip) σ k) [0, 1, 5, 6] [5] n σ k
noncomputable def S.l7With_k3 (κ : V → List E → R) : X → St → R := (afterC TD (tableK S.l7With_T) S.l7With_ann (drawOk (tableP S.l7With_T)) 0 FUEL 3 (Try.f52.body.getD .skip) (finC TD 0 Try.f52 κ)).getD (fun _ _ => none)
noncomputable def S.l7With_step3 {α : Type} (x0 : List Int) (x1 : Int) (x5 : Int) (x6 : Int) (next_ : Int × Int → α) (out0_ : Int → α) (fail_ : α) : α :=
  (bif decide (x6 < (↑x0.length : Int)) then (bif decide (0 ≤ x6) && decide (x6 < (↑x0.length : Int)) then (bif decide (eli x0 x6.toNat ≥ x1) then (bif decide (x6 < 0) then fail_ else (next_ (bits BinOp.or IntKind.i64 x5 (IntKind.i64.wrap (1 * 2 ^ min x6.toNat IntKind.i64.bits)), IntKind.i64.wrap (x6 + 1)))) else (next_ (x5, IntKind.i64.wrap (x6 + 1)))) else fail_) else (out0_ x5))
theorem S.l7With_step3_nat {α γ : Type} (g : α → γ) (x0 : List Int) (x1 : Int) (x5 : Int) (x6 : Int) (next_ : Int × Int → α) (out0_ : Int → α) (fail_ : α) : g (S.l7With_step3 x0 x1 x5 x6 next_ out0_ fail_) = S.l7With_step3 x0 x1 x5 x6 (fun s => g (next_ s)) (fun d => g (out0_ d)) (g fail_) := by
  unfold S.l7With_step3; simp only [apply_cnd g, apply_optC g, apply_sumC g]
noncomputable def S.l7With_run3 (x0 : List Int) (x1 : Int) : Nat → Int × Int → Option (Int)
  | 0, _ => none
  | n + 1, s_ => S.l7With_step3 x0 x1 s_.1 s_.2 (S.l7With_run3 x0 x1 n) (fun d => some d) none
theorem S.l7With_L3_run (x0 : List Int) (x1 : Int) (n : Nat) (s_ : Int × Int) (k : X → St → R) : S.l7With_L3 n { n := 24, t := [(0, (.ro false (.ints .i64 x0))), (1, (.int .i64 x1)), (5, (.int .i64 s_.1)), (6, (.int .i64 s_.2))], h := [] } k = optC (S.l7With_run3 x0 x1 n s_) (fun (r : Int) => k (.exit 0) { n := 24, t := [(5, (.int .i64 r))], h := [] }) none := by
  induction n generalizing s_ with
  | zero => rfl
  | succ n ih =>
    have hu : S.l7With_L3 (n + 1) { n := 24, t := [(0, (.ro false (.ints .i64 x0))), (1, (.int .i64 x1)), (5, (.int .i64 s_.1)), (6, (.int .i64 s_.2))], h := [] } k = S.l7With_step3 x0 x1 s_.1 s_.2 (fun s_ => S.l7With_L3 n { n := 24, t := [(0, (.ro false (.ints .i64 x0))), (1, (.int .i64 x1)), (5, (.int .i64 s_.1)), (6, (.int .i64 s_.2))], h := [] } k) (fun d => k (.exit 0) { n := 24, t := [(5, (.int .i64 d))], h := [] }) none := by
      kernel_rfl
    have hs : (fun s_ : Int × Int => S.l7With_L3 n { n := 24, t := [(0, (.ro false (.ints .i64 x0))), (1, (.int .i64 x1)), (5, (.int .i64 s_.1)), (6, (.int .i64 s_.2))], h := [] } k) = fun s_ => optC (S.l7With_run3 x0 x1 n s_) (fun (r : Int) => k (.exit 0) { n := 24, t := [(5, (.int .i64 r))], h := [] }) none := funext ih
    rw [hu, hs]
    exact (S.l7With_step3_nat (fun o => optC o (fun (r : Int) => k (.exit 0) { n := 24, t := [(5, (.int .i64 r))], h := [] }) none) x0 x1 s_.1 s_.2 (S.l7With_run3 x0 x1 n) (fun d => some d) none).symm
noncomputable def S.l7With_tree {α : Type} (row : List Int) (least : Int) (leaf0_ : Int → α) (fail_ : α) : α :=
  (optC (S.l7With_run3 row least FUEL (0, 0)) (fun qy_1 => (leaf0_ qy_1)) fail_)
theorem S.l7With_tree_nat {α γ : Type} (g : α → γ) (row : List Int) (least : Int) (leaf0_ : Int → α) (fail_ : α) : g (S.l7With_tree row least leaf0_ fail_) = S.l7With_tree row least (fun d => g (leaf0_ d)) (g fail_) := by
  unfold S.l7With_tree; simp only [apply_cnd g, apply_optC g, apply_sumC g]
noncomputable def S.l7With_t (row : List Int) (least : Int) : Option (Int) := S.l7With_tree row least (fun d => some d) none
theorem S.l7With_den (row : List Int) (least : Int) (κ : V → List E → R) : S.l7With_F [.ro false (.ints .i64 row), .int .i64 least] [] κ = optC (S.l7With_t row least) (fun (r : Int) => κ (.int .i64 r) []) none := by
  have hu : S.l7With_F [.ro false (.ints .i64 row), .int .i64 least] [] κ = S.l7With_tree row least (fun d => κ (.int .i64 d) []) none := by
    refine Eq.trans (show S.l7With_F [.ro false (.ints .i64 row), .int .i64 least] [] κ = (S.l7With_L3 FUEL { n := 24, t := [(0, (.ro false (.ints .i64 row))), (1, (.int .i64 least)), (5, (.int .i64 0)), (6, (.int .i64 0))], h := [] } (S.l7With_k3 κ)) by kernel_rfl) ?_
    refine (S.l7With_L3_run row least FUEL (0, 0) (S.l7With_k3 κ)).trans (optC_congr (fun qy_1 => ?_))
    kernel_rfl
  rw [hu]
  exact (S.l7With_tree_nat (fun o => optC o (fun (r : Int) => κ (.int .i64 r) []) none) row least (fun d => some d) none).symm
noncomputable def S.l7With_s : D.Spec where
  keep := false
  pure := true
  ds := [.int .i64, .invalid]
  sp := fun args h κ => match args, h with
    | [.ro false (.ints .i64 row), .int .i64 least], [] => optC (S.l7With_t row least) (fun (r : Int) => κ (.int .i64 r) []) none
    | _, _ => none
theorem S.l7With_ok : SpecOk Try.prog 52 S.l7With_s := by
  refine SpecOk.of TDok mixed (T := S.l7With_T) ?_ (ann := S.l7With_ann) Try.func52 rfl (by decide +kernel) ?_ ?_ ?_
  · intro p hp; cases hp
  · intro args h κ r hh
    simp only [S.l7With_s] at hh
    split at hh
    · exact (S.l7With_den _ _ κ).trans hh
    · cases hh
  · intro args h κ r hh
    simp only [S.l7With_s] at hh ⊢
    split at hh
    · exact optC_law2 (F := fun (r : Int) κ => κ (.int .i64 r) []) (fun b κ r hb => ⟨_, _, hb, fun _ => rfl⟩) hh
    · cases hh
  · intro _ args h κ r hh
    simp only [S.l7With_s] at hh
    split at hh
    · exact ⟨rfl, fun _ => rfl⟩
    · cases hh

-- loop.example/guardsonnets/spec.RomanOk
noncomputable def S.RomanOk_T : List (Nat × D.Spec) := [(51, S.l7Row_s), (52, S.l7With_s)]
def S.RomanOk_ann : Nat → List Nat × List Nat
  | 4 => ([0, 1, 5], [4])
  | _ => ([], [])
noncomputable def S.RomanOk_F (args : List V) (h : List E) (κ : V → List E → R) : R := funC TD (tableK S.RomanOk_T) S.RomanOk_ann (drawOk (tableP S.RomanOk_T)) FUEL Try.f17 args h κ
noncomputable def S.RomanOk_L4 (n : Nat) (σ : St) (k : X → St → R) : R := iterC 0 (fun σ k => denC TD (tableK S.RomanOk_T) S.RomanOk_ann (drawOk (tableP S.RomanOk_T)) 0 FUEL ((findLoop 4 (Try.f17.body.getD .skip)).getD .skip) σ k) [0, 1, 5] [4] n σ k
noncomputable def S.RomanOk_k4 (κ : V → List E → R) : X → St → R := (afterC TD (tableK S.RomanOk_T) S.RomanOk_ann (drawOk (tableP S.RomanOk_T)) 0 FUEL 4 (Try.f17.body.getD .skip) (finC TD 0 Try.f17 κ)).getD (fun _ _ => none)
noncomputable def S.RomanOk_step4 {α : Type} (x0 : List Int) (x1 : List Int) (x5 : Int) (next_ : Int → α) (out0_ : Bool → α) (out1_ : Unit → α) (fail_ : α) : α :=
  (bif decide (x5 < (↑x1.length : Int)) then (bif decide (0 ≤ x5) && decide (x5 < (↑x1.length : Int)) then (bif eli x1 x5.toNat == 0 then (bif decide (0 ≤ x5) && decide (x5 < (↑x0.length : Int)) then (optC (S.l7With_t x1 2) (fun c_2 => (bif bits BinOp.and IntKind.i64 (eli x0 x5.toNat) c_2 == 0 then (out0_ false) else (next_ (IntKind.i64.wrap (x5 + 1))))) fail_) else fail_) else (next_ (IntKind.i64.wrap (x5 + 1)))) else fail_) else (out1_ ()))
theorem S.RomanOk_step4_nat {α γ : Type} (g : α → γ) (x0 : List Int) (x1 : List Int) (x5 : Int) (next_ : Int → α) (out0_ : Bool → α) (out1_ : Unit → α) (fail_ : α) : g (S.RomanOk_step4 x0 x1 x5 next_ out0_ out1_ fail_) = S.RomanOk_step4 x0 x1 x5 (fun s => g (next_ s)) (fun d => g (out0_ d)) (fun d => g (out1_ d)) (g fail_) := by
  unfold S.RomanOk_step4; simp only [apply_cnd g, apply_optC g, apply_sumC g]
noncomputable def S.RomanOk_run4 (x0 : List Int) (x1 : List Int) : Nat → Int → Option ((Bool) ⊕ (Unit))
  | 0, _ => none
  | n + 1, s_ => S.RomanOk_step4 x0 x1 s_ (S.RomanOk_run4 x0 x1 n) (fun d => some ((Sum.inl d))) (fun d => some ((Sum.inr d))) none
theorem S.RomanOk_L4_run (x0 : List Int) (x1 : List Int) (n : Nat) (s_ : Int) (k : X → St → R) : S.RomanOk_L4 n { n := 31, t := [(0, (.ro false (.ints .i64 x0))), (1, (.ro false (.ints .i64 x1))), (5, (.int .i64 s_))], h := [] } k = optC (S.RomanOk_run4 x0 x1 n s_) (fun (r : (Bool) ⊕ (Unit)) => (sumC r (fun (r : Bool) => k (.ret) { n := 31, t := [(4, (.bool r))], h := [] }) (fun (r : Unit) => k (.exit 0) { n := 31, t := [(4, .junk)], h := [] }))) none := by
  induction n generalizing s_ with
  | zero => rfl
  | succ n ih =>
    have hu : S.RomanOk_L4 (n + 1) { n := 31, t := [(0, (.ro false (.ints .i64 x0))), (1, (.ro false (.ints .i64 x1))), (5, (.int .i64 s_))], h := [] } k = S.RomanOk_step4 x0 x1 s_ (fun s_ => S.RomanOk_L4 n { n := 31, t := [(0, (.ro false (.ints .i64 x0))), (1, (.ro false (.ints .i64 x1))), (5, (.int .i64 s_))], h := [] } k) (fun d => k (.ret) { n := 31, t := [(4, (.bool d))], h := [] }) (fun d => k (.exit 0) { n := 31, t := [(4, .junk)], h := [] }) none := by
      kernel_rfl
    have hs : (fun s_ : Int => S.RomanOk_L4 n { n := 31, t := [(0, (.ro false (.ints .i64 x0))), (1, (.ro false (.ints .i64 x1))), (5, (.int .i64 s_))], h := [] } k) = fun s_ => optC (S.RomanOk_run4 x0 x1 n s_) (fun (r : (Bool) ⊕ (Unit)) => (sumC r (fun (r : Bool) => k (.ret) { n := 31, t := [(4, (.bool r))], h := [] }) (fun (r : Unit) => k (.exit 0) { n := 31, t := [(4, .junk)], h := [] }))) none := funext ih
    rw [hu, hs]
    exact (S.RomanOk_step4_nat (fun o => optC o (fun (r : (Bool) ⊕ (Unit)) => (sumC r (fun (r : Bool) => k (.ret) { n := 31, t := [(4, (.bool r))], h := [] }) (fun (r : Unit) => k (.exit 0) { n := 31, t := [(4, .junk)], h := [] }))) none) x0 x1 s_ (S.RomanOk_run4 x0 x1 n) (fun d => some ((Sum.inl d))) (fun d => some ((Sum.inr d))) none).symm
noncomputable def S.RomanOk_tree {α : Type} (net : List Int) (row : List Int) (leaf0_ : Bool → α) (fail_ : α) : α :=
  (optC (S.l7Row_t net row) (fun c_1 => (bif !c_1 then (leaf0_ false) else (optC (S.RomanOk_run4 net row FUEL 0) (fun qy_3 => (sumC qy_3 (fun (qy_3 : Bool) => (leaf0_ qy_3)) (fun (qy_3 : Unit) => (leaf0_ true)))) fail_))) fail_)
theorem S.RomanOk_tree_nat {α γ : Type} (g : α → γ) (net : List Int) (row : List Int) (leaf0_ : Bool → α) (fail_ : α) : g (S.RomanOk_tree net row leaf0_ fail_) = S.RomanOk_tree net row (fun d => g (leaf0_ d)) (g fail_) := by
  unfold S.RomanOk_tree; simp only [apply_cnd g, apply_optC g, apply_sumC g]
noncomputable def S.RomanOk_t (net : List Int) (row : List Int) : Option (Bool) := S.RomanOk_tree net row (fun d => some d) none
theorem S.RomanOk_den (net : List Int) (row : List Int) (κ : V → List E → R) : S.RomanOk_F [.ro false (.ints .i64 net), .ro false (.ints .i64 row)] [] κ = optC (S.RomanOk_t net row) (fun (r : Bool) => κ (.bool r) []) none := by
  have hu : S.RomanOk_F [.ro false (.ints .i64 net), .ro false (.ints .i64 row)] [] κ = S.RomanOk_tree net row (fun d => κ (.bool d) []) none := by
    refine Eq.trans (show S.RomanOk_F [.ro false (.ints .i64 net), .ro false (.ints .i64 row)] [] κ = (optC (S.l7Row_t net row) (fun c_1 => (bif !c_1 then (κ (.bool false) []) else (S.RomanOk_L4 FUEL { n := 31, t := [(0, (.ro false (.ints .i64 net))), (1, (.ro false (.ints .i64 row))), (5, (.int .i64 0))], h := [] } (S.RomanOk_k4 κ)))) none) by kernel_rfl) ?_
    refine optC_congr (fun c_1 => ?_)
    refine cnd_congr ?_ ?_
    · kernel_rfl
    · refine (S.RomanOk_L4_run net row FUEL 0 (S.RomanOk_k4 κ)).trans (optC_congr (fun qy_3 => ?_))
      rcases qy_3 with qy_3 | qy_3
      · kernel_rfl
      · kernel_rfl
  rw [hu]
  exact (S.RomanOk_tree_nat (fun o => optC o (fun (r : Bool) => κ (.bool r) []) none) net row (fun d => some d) none).symm
noncomputable def S.RomanOk_s : D.Spec where
  keep := false
  pure := true
  ds := [.int .i64, .int .i64]
  sp := fun args h κ => match args, h with
    | [.ro false (.ints .i64 net), .ro false (.ints .i64 row)], [] => optC (S.RomanOk_t net row) (fun (r : Bool) => κ (.bool r) []) none
    | _, _ => none
theorem S.RomanOk_ok : SpecOk Try.prog 17 S.RomanOk_s := by
  refine SpecOk.of TDok mixed (T := S.RomanOk_T) ?_ (ann := S.RomanOk_ann) Try.func17 rfl (by decide +kernel) ?_ ?_ ?_
  · intro p hp
    simp only [S.RomanOk_T, List.mem_cons, List.not_mem_nil, or_false] at hp
    rcases hp with rfl | rfl
    · exact S.l7Row_ok
    · exact S.l7With_ok
  · intro args h κ r hh
    simp only [S.RomanOk_s] at hh
    split at hh
    · exact (S.RomanOk_den _ _ κ).trans hh
    · cases hh
  · intro args h κ r hh
    simp only [S.RomanOk_s] at hh ⊢
    split at hh
    · exact optC_law2 (F := fun (r : Bool) κ => κ (.bool r) []) (fun b κ r hb => ⟨_, _, hb, fun _ => rfl⟩) hh
    · cases hh
  · intro _ args h κ r hh
    simp only [S.RomanOk_s] at hh
    split at hh
    · exact ⟨rfl, fun _ => rfl⟩
    · cases hh

-- loop.example/guardsonnets/laws.alive
noncomputable def L.alive_T : List (Nat × D.Spec) := [(31, I.NetOk_s)]
def L.alive_ann : Nat → List Nat × List Nat
  | _ => ([], [])
noncomputable def L.alive_F (args : List V) (h : List E) (κ : V → List E → R) : R := funC TD (tableK L.alive_T) L.alive_ann (drawOk (tableP L.alive_T)) FUEL Try.f18 args h κ
noncomputable def L.alive_tree {α : Type} (leaf0_ : Bool → α) (fail_ : α) : α :=
  (optC (I.NetOk_t [2, 1]) (fun c_1 => (bif c_1 then (optC (I.NetOk_t [1]) (fun c_2 => (leaf0_ (!c_2))) fail_) else (leaf0_ false))) fail_)
theorem L.alive_tree_nat {α γ : Type} (g : α → γ) (leaf0_ : Bool → α) (fail_ : α) : g (L.alive_tree leaf0_ fail_) = L.alive_tree (fun d => g (leaf0_ d)) (g fail_) := by
  unfold L.alive_tree; simp only [apply_cnd g, apply_optC g, apply_sumC g]
noncomputable def L.alive_t : Option (Bool) := L.alive_tree (fun d => some d) none
theorem L.alive_den (κ : V → List E → R) : L.alive_F [] [] κ = optC (L.alive_t) (fun (r : Bool) => κ (.bool r) []) none := by
  have hu : L.alive_F [] [] κ = L.alive_tree (fun d => κ (.bool d) []) none := by
    kernel_rfl
  rw [hu]
  exact (L.alive_tree_nat (fun o => optC o (fun (r : Bool) => κ (.bool r) []) none) (fun d => some d) none).symm
noncomputable def L.alive_s : D.Spec where
  keep := false
  pure := true
  ds := []
  sp := fun args h κ => match args, h with
    | [], [] => optC (L.alive_t) (fun (r : Bool) => κ (.bool r) []) none
    | _, _ => none
theorem L.alive_ok : SpecOk Try.prog 18 L.alive_s := by
  refine SpecOk.of TDok mixed (T := L.alive_T) ?_ (ann := L.alive_ann) Try.func18 rfl (by decide +kernel) ?_ ?_ ?_
  · intro p hp
    simp only [L.alive_T, List.mem_cons, List.not_mem_nil, or_false] at hp
    rcases hp with rfl
    · exact I.NetOk_ok
  · intro args h κ r hh
    simp only [L.alive_s] at hh
    split at hh
    · exact (L.alive_den κ).trans hh
    · cases hh
  · intro args h κ r hh
    simp only [L.alive_s] at hh ⊢
    split at hh
    · exact optC_law2 (F := fun (r : Bool) κ => κ (.bool r) []) (fun b κ r hb => ⟨_, _, hb, fun _ => rfl⟩) hh
    · cases hh
  · intro _ args h κ r hh
    simp only [L.alive_s] at hh
    split at hh
    · exact ⟨rfl, fun _ => rfl⟩
    · cases hh

-- loop.example/guardsonnets/laws.placesWith
noncomputable def L.placesWith_T : List (Nat × D.Spec) := []
def L.placesWith_ann : Nat → List Nat × List Nat
  | 3 => ([0, 1, 5, 6], [5])
  | _ => ([], [])
noncomputable def L.placesWith_F (args : List V) (h : List E) (κ : V → List E → R) : R := funC TD (tableK L.placesWith_T) L.placesWith_ann (drawOk (tableP L.placesWith_T)) FUEL Try.f20 args h κ
noncomputable def L.placesWith_L3 (n : Nat) (σ : St) (k : X → St → R) : R := iterC 0 (fun σ k => denC TD (tableK L.placesWith_T) L.placesWith_ann (drawOk (tableP L.placesWith_T)) 0 FUEL ((findLoop 3 (Try.f20.body.getD .skip)).getD .skip) σ k) [0, 1, 5, 6] [5] n σ k
noncomputable def L.placesWith_k3 (κ : V → List E → R) : X → St → R := (afterC TD (tableK L.placesWith_T) L.placesWith_ann (drawOk (tableP L.placesWith_T)) 0 FUEL 3 (Try.f20.body.getD .skip) (finC TD 0 Try.f20 κ)).getD (fun _ _ => none)
noncomputable def L.placesWith_step3 {α : Type} (x0 : List Int) (x1 : Int) (x5 : Int) (x6 : Int) (next_ : Int × Int → α) (out0_ : Int → α) (fail_ : α) : α :=
  (bif decide (x6 < (↑x0.length : Int)) then (bif decide (0 ≤ x6) && decide (x6 < (↑x0.length : Int)) then (bif decide (eli x0 x6.toNat ≥ x1) then (bif decide (x6 < 0) then fail_ else (next_ (bits BinOp.or IntKind.i64 x5 (IntKind.i64.wrap (1 * 2 ^ min x6.toNat IntKind.i64.bits)), IntKind.i64.wrap (x6 + 1)))) else (next_ (x5, IntKind.i64.wrap (x6 + 1)))) else fail_) else (out0_ x5))
theorem L.placesWith_step3_nat {α γ : Type} (g : α → γ) (x0 : List Int) (x1 : Int) (x5 : Int) (x6 : Int) (next_ : Int × Int → α) (out0_ : Int → α) (fail_ : α) : g (L.placesWith_step3 x0 x1 x5 x6 next_ out0_ fail_) = L.placesWith_step3 x0 x1 x5 x6 (fun s => g (next_ s)) (fun d => g (out0_ d)) (g fail_) := by
  unfold L.placesWith_step3; simp only [apply_cnd g, apply_optC g, apply_sumC g]
noncomputable def L.placesWith_run3 (x0 : List Int) (x1 : Int) : Nat → Int × Int → Option (Int)
  | 0, _ => none
  | n + 1, s_ => L.placesWith_step3 x0 x1 s_.1 s_.2 (L.placesWith_run3 x0 x1 n) (fun d => some d) none
theorem L.placesWith_L3_run (x0 : List Int) (x1 : Int) (n : Nat) (s_ : Int × Int) (k : X → St → R) : L.placesWith_L3 n { n := 24, t := [(0, (.ro false (.ints .i64 x0))), (1, (.int .i64 x1)), (5, (.int .i64 s_.1)), (6, (.int .i64 s_.2))], h := [] } k = optC (L.placesWith_run3 x0 x1 n s_) (fun (r : Int) => k (.exit 0) { n := 24, t := [(5, (.int .i64 r))], h := [] }) none := by
  induction n generalizing s_ with
  | zero => rfl
  | succ n ih =>
    have hu : L.placesWith_L3 (n + 1) { n := 24, t := [(0, (.ro false (.ints .i64 x0))), (1, (.int .i64 x1)), (5, (.int .i64 s_.1)), (6, (.int .i64 s_.2))], h := [] } k = L.placesWith_step3 x0 x1 s_.1 s_.2 (fun s_ => L.placesWith_L3 n { n := 24, t := [(0, (.ro false (.ints .i64 x0))), (1, (.int .i64 x1)), (5, (.int .i64 s_.1)), (6, (.int .i64 s_.2))], h := [] } k) (fun d => k (.exit 0) { n := 24, t := [(5, (.int .i64 d))], h := [] }) none := by
      kernel_rfl
    have hs : (fun s_ : Int × Int => L.placesWith_L3 n { n := 24, t := [(0, (.ro false (.ints .i64 x0))), (1, (.int .i64 x1)), (5, (.int .i64 s_.1)), (6, (.int .i64 s_.2))], h := [] } k) = fun s_ => optC (L.placesWith_run3 x0 x1 n s_) (fun (r : Int) => k (.exit 0) { n := 24, t := [(5, (.int .i64 r))], h := [] }) none := funext ih
    rw [hu, hs]
    exact (L.placesWith_step3_nat (fun o => optC o (fun (r : Int) => k (.exit 0) { n := 24, t := [(5, (.int .i64 r))], h := [] }) none) x0 x1 s_.1 s_.2 (L.placesWith_run3 x0 x1 n) (fun d => some d) none).symm
noncomputable def L.placesWith_tree {α : Type} (row : List Int) (least : Int) (leaf0_ : Int → α) (fail_ : α) : α :=
  (optC (L.placesWith_run3 row least FUEL (0, 0)) (fun qy_1 => (leaf0_ qy_1)) fail_)
theorem L.placesWith_tree_nat {α γ : Type} (g : α → γ) (row : List Int) (least : Int) (leaf0_ : Int → α) (fail_ : α) : g (L.placesWith_tree row least leaf0_ fail_) = L.placesWith_tree row least (fun d => g (leaf0_ d)) (g fail_) := by
  unfold L.placesWith_tree; simp only [apply_cnd g, apply_optC g, apply_sumC g]
noncomputable def L.placesWith_t (row : List Int) (least : Int) : Option (Int) := L.placesWith_tree row least (fun d => some d) none
theorem L.placesWith_den (row : List Int) (least : Int) (κ : V → List E → R) : L.placesWith_F [.ro false (.ints .i64 row), .int .i64 least] [] κ = optC (L.placesWith_t row least) (fun (r : Int) => κ (.int .i64 r) []) none := by
  have hu : L.placesWith_F [.ro false (.ints .i64 row), .int .i64 least] [] κ = L.placesWith_tree row least (fun d => κ (.int .i64 d) []) none := by
    refine Eq.trans (show L.placesWith_F [.ro false (.ints .i64 row), .int .i64 least] [] κ = (L.placesWith_L3 FUEL { n := 24, t := [(0, (.ro false (.ints .i64 row))), (1, (.int .i64 least)), (5, (.int .i64 0)), (6, (.int .i64 0))], h := [] } (L.placesWith_k3 κ)) by kernel_rfl) ?_
    refine (L.placesWith_L3_run row least FUEL (0, 0) (L.placesWith_k3 κ)).trans (optC_congr (fun qy_1 => ?_))
    kernel_rfl
  rw [hu]
  exact (L.placesWith_tree_nat (fun o => optC o (fun (r : Int) => κ (.int .i64 r) []) none) row least (fun d => some d) none).symm
noncomputable def L.placesWith_s : D.Spec where
  keep := false
  pure := true
  ds := [.int .i64, .invalid]
  sp := fun args h κ => match args, h with
    | [.ro false (.ints .i64 row), .int .i64 least], [] => optC (L.placesWith_t row least) (fun (r : Int) => κ (.int .i64 r) []) none
    | _, _ => none
theorem L.placesWith_ok : SpecOk Try.prog 20 L.placesWith_s := by
  refine SpecOk.of TDok mixed (T := L.placesWith_T) ?_ (ann := L.placesWith_ann) Try.func20 rfl (by decide +kernel) ?_ ?_ ?_
  · intro p hp; cases hp
  · intro args h κ r hh
    simp only [L.placesWith_s] at hh
    split at hh
    · exact (L.placesWith_den _ _ κ).trans hh
    · cases hh
  · intro args h κ r hh
    simp only [L.placesWith_s] at hh ⊢
    split at hh
    · exact optC_law2 (F := fun (r : Int) κ => κ (.int .i64 r) []) (fun b κ r hb => ⟨_, _, hb, fun _ => rfl⟩) hh
    · cases hh
  · intro _ args h κ r hh
    simp only [L.placesWith_s] at hh
    split at hh
    · exact ⟨rfl, fun _ => rfl⟩
    · cases hh

-- loop.example/guardsonnets/impl.ballIn
noncomputable def I.ballIn_T : List (Nat × D.Spec) := []
def I.ballIn_ann : Nat → List Nat × List Nat
  | _ => ([], [])
noncomputable def I.ballIn_F (args : List V) (h : List E) (κ : V → List E → R) : R := funC TD (tableK I.ballIn_T) I.ballIn_ann (drawOk (tableP I.ballIn_T)) FUEL Try.f81 args h κ
noncomputable def I.ballIn_tree {α : Type} (net : List Int) (place : Int) (leaf0_ : Int → α) (fail_ : α) : α :=
  (bif decide (0 ≤ place) && decide (place < (↑net.length : Int)) then (bif decide (place < 0) then fail_ else (leaf0_ (bits BinOp.or IntKind.i64 (eli net place.toNat) (IntKind.i64.wrap (1 * 2 ^ min place.toNat IntKind.i64.bits))))) else fail_)
theorem I.ballIn_tree_nat {α γ : Type} (g : α → γ) (net : List Int) (place : Int) (leaf0_ : Int → α) (fail_ : α) : g (I.ballIn_tree net place leaf0_ fail_) = I.ballIn_tree net place (fun d => g (leaf0_ d)) (g fail_) := by
  unfold I.ballIn_tree; simp only [apply_cnd g, apply_optC g, apply_sumC g]
noncomputable def I.ballIn_t (net : List Int) (place : Int) : Option (Int) := I.ballIn_tree net place (fun d => some d) none
theorem I.ballIn_den (net : List Int) (place : Int) (κ : V → List E → R) : I.ballIn_F [.ro false (.ints .i64 net), .int .i64 place] [] κ = optC (I.ballIn_t net place) (fun (r : Int) => κ (.int .i64 r) []) none := by
  have hu : I.ballIn_F [.ro false (.ints .i64 net), .int .i64 place] [] κ = I.ballIn_tree net place (fun d => κ (.int .i64 d) []) none := by
    kernel_rfl
  rw [hu]
  exact (I.ballIn_tree_nat (fun o => optC o (fun (r : Int) => κ (.int .i64 r) []) none) net place (fun d => some d) none).symm
noncomputable def I.ballIn_s : D.Spec where
  keep := false
  pure := true
  ds := [.int .i64, .invalid]
  sp := fun args h κ => match args, h with
    | [.ro false (.ints .i64 net), .int .i64 place], [] => optC (I.ballIn_t net place) (fun (r : Int) => κ (.int .i64 r) []) none
    | _, _ => none
theorem I.ballIn_ok : SpecOk Try.prog 81 I.ballIn_s := by
  refine SpecOk.of TDok mixed (T := I.ballIn_T) ?_ (ann := I.ballIn_ann) Try.func81 rfl (by decide +kernel) ?_ ?_ ?_
  · intro p hp; cases hp
  · intro args h κ r hh
    simp only [I.ballIn_s] at hh
    split at hh
    · exact (I.ballIn_den _ _ κ).trans hh
    · cases hh
  · intro args h κ r hh
    simp only [I.ballIn_s] at hh ⊢
    split at hh
    · exact optC_law2 (F := fun (r : Int) κ => κ (.int .i64 r) []) (fun b κ r hb => ⟨_, _, hb, fun _ => rfl⟩) hh
    · cases hh
  · intro _ args h κ r hh
    simp only [I.ballIn_s] at hh
    split at hh
    · exact ⟨rfl, fun _ => rfl⟩
    · cases hh

-- loop.example/guardsonnets/impl.seenIn
noncomputable def I.seenIn_T : List (Nat × D.Spec) := [(64, I.hasPlace_s), (81, I.ballIn_s)]
def I.seenIn_ann : Nat → List Nat × List Nat
  | 3 => ([0, 1, 5, 6], [5])
  | _ => ([], [])
noncomputable def I.seenIn_F (args : List V) (h : List E) (κ : V → List E → R) : R := funC TD (tableK I.seenIn_T) I.seenIn_ann (drawOk (tableP I.seenIn_T)) FUEL Try.f56 args h κ
noncomputable def I.seenIn_L3 (n : Nat) (σ : St) (k : X → St → R) : R := iterC 0 (fun σ k => denC TD (tableK I.seenIn_T) I.seenIn_ann (drawOk (tableP I.seenIn_T)) 0 FUEL ((findLoop 3 (Try.f56.body.getD .skip)).getD .skip) σ k) [0, 1, 5, 6] [5] n σ k
noncomputable def I.seenIn_k3 (κ : V → List E → R) : X → St → R := (afterC TD (tableK I.seenIn_T) I.seenIn_ann (drawOk (tableP I.seenIn_T)) 0 FUEL 3 (Try.f56.body.getD .skip) (finC TD 0 Try.f56 κ)).getD (fun _ _ => none)
noncomputable def I.seenIn_step3 {α : Type} (x0 : List Int) (x1 : Int) (x5 : Int) (x6 : Int) (next_ : Int × Int → α) (out0_ : Int → α) (fail_ : α) : α :=
  (bif decide (x6 < (↑x0.length : Int)) then (optC (I.hasPlace_t x1 x6) (fun c_1 => (bif c_1 then (optC (I.ballIn_t x0 x6) (fun c_2 => (next_ (bits BinOp.or IntKind.i64 x5 c_2, IntKind.i64.wrap (x6 + 1)))) fail_) else (next_ (x5, IntKind.i64.wrap (x6 + 1))))) fail_) else (out0_ x5))
theorem I.seenIn_step3_nat {α γ : Type} (g : α → γ) (x0 : List Int) (x1 : Int) (x5 : Int) (x6 : Int) (next_ : Int × Int → α) (out0_ : Int → α) (fail_ : α) : g (I.seenIn_step3 x0 x1 x5 x6 next_ out0_ fail_) = I.seenIn_step3 x0 x1 x5 x6 (fun s => g (next_ s)) (fun d => g (out0_ d)) (g fail_) := by
  unfold I.seenIn_step3; simp only [apply_cnd g, apply_optC g, apply_sumC g]
noncomputable def I.seenIn_run3 (x0 : List Int) (x1 : Int) : Nat → Int × Int → Option (Int)
  | 0, _ => none
  | n + 1, s_ => I.seenIn_step3 x0 x1 s_.1 s_.2 (I.seenIn_run3 x0 x1 n) (fun d => some d) none
theorem I.seenIn_L3_run (x0 : List Int) (x1 : Int) (n : Nat) (s_ : Int × Int) (k : X → St → R) : I.seenIn_L3 n { n := 22, t := [(0, (.ro false (.ints .i64 x0))), (1, (.int .i64 x1)), (5, (.int .i64 s_.1)), (6, (.int .i64 s_.2))], h := [] } k = optC (I.seenIn_run3 x0 x1 n s_) (fun (r : Int) => k (.exit 0) { n := 22, t := [(5, (.int .i64 r))], h := [] }) none := by
  induction n generalizing s_ with
  | zero => rfl
  | succ n ih =>
    have hu : I.seenIn_L3 (n + 1) { n := 22, t := [(0, (.ro false (.ints .i64 x0))), (1, (.int .i64 x1)), (5, (.int .i64 s_.1)), (6, (.int .i64 s_.2))], h := [] } k = I.seenIn_step3 x0 x1 s_.1 s_.2 (fun s_ => I.seenIn_L3 n { n := 22, t := [(0, (.ro false (.ints .i64 x0))), (1, (.int .i64 x1)), (5, (.int .i64 s_.1)), (6, (.int .i64 s_.2))], h := [] } k) (fun d => k (.exit 0) { n := 22, t := [(5, (.int .i64 d))], h := [] }) none := by
      kernel_rfl
    have hs : (fun s_ : Int × Int => I.seenIn_L3 n { n := 22, t := [(0, (.ro false (.ints .i64 x0))), (1, (.int .i64 x1)), (5, (.int .i64 s_.1)), (6, (.int .i64 s_.2))], h := [] } k) = fun s_ => optC (I.seenIn_run3 x0 x1 n s_) (fun (r : Int) => k (.exit 0) { n := 22, t := [(5, (.int .i64 r))], h := [] }) none := funext ih
    rw [hu, hs]
    exact (I.seenIn_step3_nat (fun o => optC o (fun (r : Int) => k (.exit 0) { n := 22, t := [(5, (.int .i64 r))], h := [] }) none) x0 x1 s_.1 s_.2 (I.seenIn_run3 x0 x1 n) (fun d => some d) none).symm
noncomputable def I.seenIn_tree {α : Type} (net : List Int) (set_ : Int) (leaf0_ : Int → α) (fail_ : α) : α :=
  (optC (I.seenIn_run3 net set_ FUEL (0, 0)) (fun qy_3 => (leaf0_ qy_3)) fail_)
theorem I.seenIn_tree_nat {α γ : Type} (g : α → γ) (net : List Int) (set_ : Int) (leaf0_ : Int → α) (fail_ : α) : g (I.seenIn_tree net set_ leaf0_ fail_) = I.seenIn_tree net set_ (fun d => g (leaf0_ d)) (g fail_) := by
  unfold I.seenIn_tree; simp only [apply_cnd g, apply_optC g, apply_sumC g]
noncomputable def I.seenIn_t (net : List Int) (set_ : Int) : Option (Int) := I.seenIn_tree net set_ (fun d => some d) none
theorem I.seenIn_den (net : List Int) (set_ : Int) (κ : V → List E → R) : I.seenIn_F [.ro false (.ints .i64 net), .int .i64 set_] [] κ = optC (I.seenIn_t net set_) (fun (r : Int) => κ (.int .i64 r) []) none := by
  have hu : I.seenIn_F [.ro false (.ints .i64 net), .int .i64 set_] [] κ = I.seenIn_tree net set_ (fun d => κ (.int .i64 d) []) none := by
    refine Eq.trans (show I.seenIn_F [.ro false (.ints .i64 net), .int .i64 set_] [] κ = (I.seenIn_L3 FUEL { n := 22, t := [(0, (.ro false (.ints .i64 net))), (1, (.int .i64 set_)), (5, (.int .i64 0)), (6, (.int .i64 0))], h := [] } (I.seenIn_k3 κ)) by kernel_rfl) ?_
    refine (I.seenIn_L3_run net set_ FUEL (0, 0) (I.seenIn_k3 κ)).trans (optC_congr (fun qy_3 => ?_))
    kernel_rfl
  rw [hu]
  exact (I.seenIn_tree_nat (fun o => optC o (fun (r : Int) => κ (.int .i64 r) []) none) net set_ (fun d => some d) none).symm
noncomputable def I.seenIn_s : D.Spec where
  keep := false
  pure := true
  ds := [.int .i64, .invalid]
  sp := fun args h κ => match args, h with
    | [.ro false (.ints .i64 net), .int .i64 set_], [] => optC (I.seenIn_t net set_) (fun (r : Int) => κ (.int .i64 r) []) none
    | _, _ => none
theorem I.seenIn_ok : SpecOk Try.prog 56 I.seenIn_s := by
  refine SpecOk.of TDok mixed (T := I.seenIn_T) ?_ (ann := I.seenIn_ann) Try.func56 rfl (by decide +kernel) ?_ ?_ ?_
  · intro p hp
    simp only [I.seenIn_T, List.mem_cons, List.not_mem_nil, or_false] at hp
    rcases hp with rfl | rfl
    · exact I.hasPlace_ok
    · exact I.ballIn_ok
  · intro args h κ r hh
    simp only [I.seenIn_s] at hh
    split at hh
    · exact (I.seenIn_den _ _ κ).trans hh
    · cases hh
  · intro args h κ r hh
    simp only [I.seenIn_s] at hh ⊢
    split at hh
    · exact optC_law2 (F := fun (r : Int) κ => κ (.int .i64 r) []) (fun b κ r hb => ⟨_, _, hb, fun _ => rfl⟩) hh
    · cases hh
  · intro _ args h κ r hh
    simp only [I.seenIn_s] at hh
    split at hh
    · exact ⟨rfl, fun _ => rfl⟩
    · cases hh

-- loop.example/guardsonnets/impl.allOf
noncomputable def I.allOf_T : List (Nat × D.Spec) := []
def I.allOf_ann : Nat → List Nat × List Nat
  | _ => ([], [])
noncomputable def I.allOf_F (args : List V) (h : List E) (κ : V → List E → R) : R := funC TD (tableK I.allOf_T) I.allOf_ann (drawOk (tableP I.allOf_T)) FUEL Try.f79 args h κ
noncomputable def I.allOf_tree {α : Type} (net : List Int) (leaf0_ : Int → α) (fail_ : α) : α :=
  (leaf0_ (IntKind.i64.wrap (IntKind.i64.wrap (1 * 2 ^ min (↑net.length : Int).toNat IntKind.i64.bits) - 1)))
theorem I.allOf_tree_nat {α γ : Type} (g : α → γ) (net : List Int) (leaf0_ : Int → α) (fail_ : α) : g (I.allOf_tree net leaf0_ fail_) = I.allOf_tree net (fun d => g (leaf0_ d)) (g fail_) := by
  unfold I.allOf_tree; simp only [apply_cnd g, apply_optC g, apply_sumC g]
noncomputable def I.allOf_t (net : List Int) : Option (Int) := I.allOf_tree net (fun d => some d) none
theorem I.allOf_den (net : List Int) (κ : V → List E → R) : I.allOf_F [.ro false (.ints .i64 net)] [] κ = optC (I.allOf_t net) (fun (r : Int) => κ (.int .i64 r) []) none := by
  have hu : I.allOf_F [.ro false (.ints .i64 net)] [] κ = I.allOf_tree net (fun d => κ (.int .i64 d) []) none := by
    kernel_rfl
  rw [hu]
  exact (I.allOf_tree_nat (fun o => optC o (fun (r : Int) => κ (.int .i64 r) []) none) net (fun d => some d) none).symm
noncomputable def I.allOf_s : D.Spec where
  keep := false
  pure := true
  ds := [.int .i64]
  sp := fun args h κ => match args, h with
    | [.ro false (.ints .i64 net)], [] => optC (I.allOf_t net) (fun (r : Int) => κ (.int .i64 r) []) none
    | _, _ => none
theorem I.allOf_ok : SpecOk Try.prog 79 I.allOf_s := by
  refine SpecOk.of TDok mixed (T := I.allOf_T) ?_ (ann := I.allOf_ann) Try.func79 rfl (by decide +kernel) ?_ ?_ ?_
  · intro p hp; cases hp
  · intro args h κ r hh
    simp only [I.allOf_s] at hh
    split at hh
    · exact (I.allOf_den _ κ).trans hh
    · cases hh
  · intro args h κ r hh
    simp only [I.allOf_s] at hh ⊢
    split at hh
    · exact optC_law2 (F := fun (r : Int) κ => κ (.int .i64 r) []) (fun b κ r hb => ⟨_, _, hb, fun _ => rfl⟩) hh
    · cases hh
  · intro _ args h κ r hh
    simp only [I.allOf_s] at hh
    split at hh
    · exact ⟨rfl, fun _ => rfl⟩
    · cases hh

-- loop.example/guardsonnets/impl.watchIn
noncomputable def I.watchIn_T : List (Nat × D.Spec) := [(56, I.seenIn_s), (79, I.allOf_s)]
def I.watchIn_ann : Nat → List Nat × List Nat
  | _ => ([], [])
noncomputable def I.watchIn_F (args : List V) (h : List E) (κ : V → List E → R) : R := funC TD (tableK I.watchIn_T) I.watchIn_ann (drawOk (tableP I.watchIn_T)) FUEL Try.f54 args h κ
noncomputable def I.watchIn_tree {α : Type} (net : List Int) (set_ : Int) (leaf0_ : Bool → α) (fail_ : α) : α :=
  (optC (I.seenIn_t net set_) (fun c_1 => (optC (I.allOf_t net) (fun c_2 => (leaf0_ (c_1 == c_2))) fail_)) fail_)
theorem I.watchIn_tree_nat {α γ : Type} (g : α → γ) (net : List Int) (set_ : Int) (leaf0_ : Bool → α) (fail_ : α) : g (I.watchIn_tree net set_ leaf0_ fail_) = I.watchIn_tree net set_ (fun d => g (leaf0_ d)) (g fail_) := by
  unfold I.watchIn_tree; simp only [apply_cnd g, apply_optC g, apply_sumC g]
noncomputable def I.watchIn_t (net : List Int) (set_ : Int) : Option (Bool) := I.watchIn_tree net set_ (fun d => some d) none
theorem I.watchIn_den (net : List Int) (set_ : Int) (κ : V → List E → R) : I.watchIn_F [.ro false (.ints .i64 net), .int .i64 set_] [] κ = optC (I.watchIn_t net set_) (fun (r : Bool) => κ (.bool r) []) none := by
  have hu : I.watchIn_F [.ro false (.ints .i64 net), .int .i64 set_] [] κ = I.watchIn_tree net set_ (fun d => κ (.bool d) []) none := by
    kernel_rfl
  rw [hu]
  exact (I.watchIn_tree_nat (fun o => optC o (fun (r : Bool) => κ (.bool r) []) none) net set_ (fun d => some d) none).symm
noncomputable def I.watchIn_s : D.Spec where
  keep := false
  pure := true
  ds := [.int .i64, .invalid]
  sp := fun args h κ => match args, h with
    | [.ro false (.ints .i64 net), .int .i64 set_], [] => optC (I.watchIn_t net set_) (fun (r : Bool) => κ (.bool r) []) none
    | _, _ => none
theorem I.watchIn_ok : SpecOk Try.prog 54 I.watchIn_s := by
  refine SpecOk.of TDok mixed (T := I.watchIn_T) ?_ (ann := I.watchIn_ann) Try.func54 rfl (by decide +kernel) ?_ ?_ ?_
  · intro p hp
    simp only [I.watchIn_T, List.mem_cons, List.not_mem_nil, or_false] at hp
    rcases hp with rfl | rfl
    · exact I.seenIn_ok
    · exact I.allOf_ok
  · intro args h κ r hh
    simp only [I.watchIn_s] at hh
    split at hh
    · exact (I.watchIn_den _ _ κ).trans hh
    · cases hh
  · intro args h κ r hh
    simp only [I.watchIn_s] at hh ⊢
    split at hh
    · exact optC_law2 (F := fun (r : Bool) κ => κ (.bool r) []) (fun b κ r hb => ⟨_, _, hb, fun _ => rfl⟩) hh
    · cases hh
  · intro _ args h κ r hh
    simp only [I.watchIn_s] at hh
    split at hh
    · exact ⟨rfl, fun _ => rfl⟩
    · cases hh

-- loop.example/guardsonnets/impl.WatchOk
noncomputable def I.WatchOk_T : List (Nat × D.Spec) := [(31, I.NetOk_s), (53, I.setIn_s), (54, I.watchIn_s)]
def I.WatchOk_ann : Nat → List Nat × List Nat
  | _ => ([], [])
noncomputable def I.WatchOk_F (args : List V) (h : List E) (κ : V → List E → R) : R := funC TD (tableK I.WatchOk_T) I.WatchOk_ann (drawOk (tableP I.WatchOk_T)) FUEL Try.f19 args h κ
noncomputable def I.WatchOk_tree {α : Type} (net : List Int) (set_ : Int) (leaf0_ : Bool → α) (fail_ : α) : α :=
  (optC (I.NetOk_t net) (fun c_1 => (bif c_1 then (optC (I.setIn_t net set_) (fun c_2 => (bif c_2 then (optC (I.watchIn_t net set_) (fun c_3 => (leaf0_ c_3)) fail_) else (leaf0_ false))) fail_) else (leaf0_ false))) fail_)
theorem I.WatchOk_tree_nat {α γ : Type} (g : α → γ) (net : List Int) (set_ : Int) (leaf0_ : Bool → α) (fail_ : α) : g (I.WatchOk_tree net set_ leaf0_ fail_) = I.WatchOk_tree net set_ (fun d => g (leaf0_ d)) (g fail_) := by
  unfold I.WatchOk_tree; simp only [apply_cnd g, apply_optC g, apply_sumC g]
noncomputable def I.WatchOk_t (net : List Int) (set_ : Int) : Option (Bool) := I.WatchOk_tree net set_ (fun d => some d) none
theorem I.WatchOk_den (net : List Int) (set_ : Int) (κ : V → List E → R) : I.WatchOk_F [.ro false (.ints .i64 net), .int .i64 set_] [] κ = optC (I.WatchOk_t net set_) (fun (r : Bool) => κ (.bool r) []) none := by
  have hu : I.WatchOk_F [.ro false (.ints .i64 net), .int .i64 set_] [] κ = I.WatchOk_tree net set_ (fun d => κ (.bool d) []) none := by
    kernel_rfl
  rw [hu]
  exact (I.WatchOk_tree_nat (fun o => optC o (fun (r : Bool) => κ (.bool r) []) none) net set_ (fun d => some d) none).symm
noncomputable def I.WatchOk_s : D.Spec where
  keep := false
  pure := true
  ds := [.int .i64, .invalid]
  sp := fun args h κ => match args, h with
    | [.ro false (.ints .i64 net), .int .i64 set_], [] => optC (I.WatchOk_t net set_) (fun (r : Bool) => κ (.bool r) []) none
    | _, _ => none
theorem I.WatchOk_ok : SpecOk Try.prog 19 I.WatchOk_s := by
  refine SpecOk.of TDok mixed (T := I.WatchOk_T) ?_ (ann := I.WatchOk_ann) Try.func19 rfl (by decide +kernel) ?_ ?_ ?_
  · intro p hp
    simp only [I.WatchOk_T, List.mem_cons, List.not_mem_nil, or_false] at hp
    rcases hp with rfl | rfl | rfl
    · exact I.NetOk_ok
    · exact I.setIn_ok
    · exact I.watchIn_ok
  · intro args h κ r hh
    simp only [I.WatchOk_s] at hh
    split at hh
    · exact (I.WatchOk_den _ _ κ).trans hh
    · cases hh
  · intro args h κ r hh
    simp only [I.WatchOk_s] at hh ⊢
    split at hh
    · exact optC_law2 (F := fun (r : Bool) κ => κ (.bool r) []) (fun b κ r hb => ⟨_, _, hb, fun _ => rfl⟩) hh
    · cases hh
  · intro _ args h κ r hh
    simp only [I.WatchOk_s] at hh
    split at hh
    · exact ⟨rfl, fun _ => rfl⟩
    · cases hh


end Go.Proofs.Ytdkoofikeelhgaa
