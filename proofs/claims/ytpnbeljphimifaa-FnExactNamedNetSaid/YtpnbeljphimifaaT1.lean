/- Twins of the translated functions, with their proofs. Conditions: none. -/
import Derived.Test.YtpnbeljphimifaaTab
set_option linter.unusedVariables false
set_option linter.unusedSimpArgs false
namespace Go.Proofs.Ytpnbeljphimifaa
open D Go.RowKit
-- loop.example/guardsonnets/spec.l20Open
noncomputable def S.l20Open_T : List (Nat × D.Spec) := []
def S.l20Open_ann : Nat → List Nat × List Nat
  | _ => ([], [])
noncomputable def S.l20Open_F (args : List V) (h : List E) (κ : V → List E → R) : R := funC TD (tableK S.l20Open_T) S.l20Open_ann (drawOk (tableP S.l20Open_T)) FUEL Try.f42 args h κ
noncomputable def S.l20Open_tree {α : Type} (code : List Int) (leaf0_ : (List Int) × Int → α) (fail_ : α) : α :=
  (bif decide ((↑code.length : Int) > 2000) then (bif decide (2000 ≤ (↑code.length : Int)) then (leaf0_ (List.take (Int.toNat 2000) (List.drop 0 code), 0)) else fail_) else (leaf0_ (code, 0)))
theorem S.l20Open_tree_nat {α γ : Type} (g : α → γ) (code : List Int) (leaf0_ : (List Int) × Int → α) (fail_ : α) : g (S.l20Open_tree code leaf0_ fail_) = S.l20Open_tree code (fun d => g (leaf0_ d)) (g fail_) := by
  unfold S.l20Open_tree; simp only [apply_cnd g, apply_optC g, apply_sumC g]
noncomputable def S.l20Open_t (code : List Int) : Option ((List Int) × Int) := S.l20Open_tree code (fun d => some d) none
theorem S.l20Open_den (code : List Int) (κ : V → List E → R) : S.l20Open_F [.ro true (.ints .u8 code)] [] κ = optC (S.l20Open_t code) (fun (r : (List Int) × Int) => κ (.ptr 0 0) [.cells [(.ro true (.ints .u8 r.1)), (.int .i64 r.2)]]) none := by
  have hu : S.l20Open_F [.ro true (.ints .u8 code)] [] κ = S.l20Open_tree code (fun d => κ (.ptr 0 0) [.cells [(.ro true (.ints .u8 d.1)), (.int .i64 d.2)]]) none := by
    kernel_rfl
  rw [hu]
  exact (S.l20Open_tree_nat (fun o => optC o (fun (r : (List Int) × Int) => κ (.ptr 0 0) [.cells [(.ro true (.ints .u8 r.1)), (.int .i64 r.2)]]) none) code (fun d => some d) none).symm
noncomputable def S.l20Open_s : D.Spec where
  keep := true
  pure := false
  ds := [.int .u8]
  sp := fun args h κ => match args, h with
    | [.ro true (.ints .u8 code)], [] => optC (S.l20Open_t code) (fun (r : (List Int) × Int) => κ (.ptr 0 0) [.cells [(.ro true (.ints .u8 r.1)), (.int .i64 r.2)]]) none
    | _, _ => none
theorem S.l20Open_ok : SpecOk Try.prog 42 S.l20Open_s := by
  refine SpecOk.of TDok mixed (T := S.l20Open_T) ?_ (ann := S.l20Open_ann) Try.func42 rfl (by decide +kernel) ?_ ?_ ?_
  · intro p hp; cases hp
  · intro args h κ r hh
    simp only [S.l20Open_s] at hh
    split at hh
    · exact (S.l20Open_den _ κ).trans hh
    · cases hh
  · intro args h κ r hh
    simp only [S.l20Open_s] at hh ⊢
    split at hh
    · exact optC_law2 (F := fun (r : (List Int) × Int) κ => κ (.ptr 0 0) [.cells [(.ro true (.ints .u8 r.1)), (.int .i64 r.2)]]) (fun b κ r hb => ⟨_, _, hb, fun _ => rfl⟩) hh
    · cases hh
  · intro hh; cases hh

-- (*loop.example/guardsonnets/spec.l20Rd).pick
noncomputable def S.l20Rd_pick_T : List (Nat × D.Spec) := []
def S.l20Rd_pick_ann : Nat → List Nat × List Nat
  | _ => ([], [])
noncomputable def S.l20Rd_pick_F (args : List V) (h : List E) (κ : V → List E → R) : R := funC TD (tableK S.l20Rd_pick_T) S.l20Rd_pick_ann (drawOk (tableP S.l20Rd_pick_T)) FUEL Try.f64 args h κ
noncomputable def S.l20Rd_pick_tree {α : Type} (rb : List Int) (rp : Int) (n_ : Int) (leaf0_ : Int × (List Int) × Int → α) (fail_ : α) : α :=
  (bif decide (n_ < 1) then (leaf0_ (0, rb, IntKind.i64.wrap (rp + 1))) else (bif (↑rb.length : Int) == 0 then (leaf0_ (0, rb, IntKind.i64.wrap (rp + 1))) else (bif decide (IntKind.i64.wrap (IntKind.i64.wrap (rp + 1) - 1) < (↑rb.length : Int)) then (bif decide (0 ≤ IntKind.i64.wrap (IntKind.i64.wrap (rp + 1) - 1)) && decide (IntKind.i64.wrap (IntKind.i64.wrap (rp + 1) - 1) < (↑rb.length : Int)) then (bif n_ == 0 then fail_ else (leaf0_ ((IntKind.i64.wrap (eli rb (IntKind.i64.wrap (IntKind.i64.wrap (rp + 1) - 1)).toNat)).tmod n_, rb, IntKind.i64.wrap (rp + 1)))) else fail_) else (bif (↑rb.length : Int) == 0 then fail_ else (bif decide (0 ≤ (IntKind.i64.wrap (IntKind.i64.wrap (rp + 1) - 1)).tmod (↑rb.length : Int)) && decide ((IntKind.i64.wrap (IntKind.i64.wrap (rp + 1) - 1)).tmod (↑rb.length : Int) < (↑rb.length : Int)) then (bif (↑rb.length : Int) == 0 then fail_ else (bif decide (0 ≤ (IntKind.i64.wrap (IntKind.i64.wrap (IntKind.i64.wrap (IntKind.i64.wrap (rp + 1) - 1) * 7) + 3)).tmod (↑rb.length : Int)) && decide ((IntKind.i64.wrap (IntKind.i64.wrap (IntKind.i64.wrap (IntKind.i64.wrap (rp + 1) - 1) * 7) + 3)).tmod (↑rb.length : Int) < (↑rb.length : Int)) then (bif (↑rb.length : Int) == 0 then fail_ else (bif n_ == 0 then fail_ else (leaf0_ ((bits BinOp.xor IntKind.i64 (IntKind.i64.wrap (IntKind.i64.wrap (IntKind.i64.wrap (IntKind.i64.wrap (IntKind.i64.wrap (eli rb ((IntKind.i64.wrap (IntKind.i64.wrap (rp + 1) - 1)).tmod (↑rb.length : Int)).toNat) * 131) + IntKind.i64.wrap (IntKind.i64.wrap (eli rb ((IntKind.i64.wrap (IntKind.i64.wrap (IntKind.i64.wrap (IntKind.i64.wrap (rp + 1) - 1) * 7) + 3)).tmod (↑rb.length : Int)).toNat) * 1117)) + IntKind.i64.wrap (IntKind.i64.wrap (IntKind.i64.wrap (rp + 1) - 1) * 29)) + IntKind.i64.wrap (IntKind.i64.wrap ((IntKind.i64.wrap (IntKind.i64.wrap (rp + 1) - 1)).tdiv (↑rb.length : Int)) * 53))) (IntKind.i64.wrap ((IntKind.i64.wrap (IntKind.i64.wrap (IntKind.i64.wrap (IntKind.i64.wrap (IntKind.i64.wrap (eli rb ((IntKind.i64.wrap (IntKind.i64.wrap (rp + 1) - 1)).tmod (↑rb.length : Int)).toNat) * 131) + IntKind.i64.wrap (IntKind.i64.wrap (eli rb ((IntKind.i64.wrap (IntKind.i64.wrap (IntKind.i64.wrap (IntKind.i64.wrap (rp + 1) - 1) * 7) + 3)).tmod (↑rb.length : Int)).toNat) * 1117)) + IntKind.i64.wrap (IntKind.i64.wrap (IntKind.i64.wrap (rp + 1) - 1) * 29)) + IntKind.i64.wrap (IntKind.i64.wrap ((IntKind.i64.wrap (IntKind.i64.wrap (rp + 1) - 1)).tdiv (↑rb.length : Int)) * 53))).tdiv 64))).tmod n_, rb, IntKind.i64.wrap (rp + 1))))) else fail_)) else fail_)))))
theorem S.l20Rd_pick_tree_nat {α γ : Type} (g : α → γ) (rb : List Int) (rp : Int) (n_ : Int) (leaf0_ : Int × (List Int) × Int → α) (fail_ : α) : g (S.l20Rd_pick_tree rb rp n_ leaf0_ fail_) = S.l20Rd_pick_tree rb rp n_ (fun d => g (leaf0_ d)) (g fail_) := by
  unfold S.l20Rd_pick_tree; simp only [apply_cnd g, apply_optC g, apply_sumC g]
noncomputable def S.l20Rd_pick_t (rb : List Int) (rp : Int) (n_ : Int) : Option (Int × (List Int) × Int) := S.l20Rd_pick_tree rb rp n_ (fun d => some d) none
theorem S.l20Rd_pick_den (rb : List Int) (rp : Int) (n_ : Int) (κ : V → List E → R) : S.l20Rd_pick_F [.ptr 0 0, .int .i64 n_] [.cells [.ro true (.ints .u8 rb), .int .i64 rp]] κ = optC (S.l20Rd_pick_t rb rp n_) (fun (r : Int × (List Int) × Int) => κ (.int .i64 r.1) [.cells [(.ro true (.ints .u8 r.2.1)), (.int .i64 r.2.2)]]) none := by
  have hu : S.l20Rd_pick_F [.ptr 0 0, .int .i64 n_] [.cells [.ro true (.ints .u8 rb), .int .i64 rp]] κ = S.l20Rd_pick_tree rb rp n_ (fun d => κ (.int .i64 d.1) [.cells [(.ro true (.ints .u8 d.2.1)), (.int .i64 d.2.2)]]) none := by
    kernel_rfl
  rw [hu]
  exact (S.l20Rd_pick_tree_nat (fun o => optC o (fun (r : Int × (List Int) × Int) => κ (.int .i64 r.1) [.cells [(.ro true (.ints .u8 r.2.1)), (.int .i64 r.2.2)]]) none) rb rp n_ (fun d => some d) none).symm
noncomputable def S.l20Rd_pick_s : D.Spec where
  keep := false
  pure := false
  ds := [.invalid, .invalid]
  sp := fun args h κ => match args, h with
    | [.ptr 0 0, .int .i64 n_], [.cells [.ro true (.ints .u8 rb), .int .i64 rp]] => optC (S.l20Rd_pick_t rb rp n_) (fun (r : Int × (List Int) × Int) => κ (.int .i64 r.1) [.cells [(.ro true (.ints .u8 r.2.1)), (.int .i64 r.2.2)]]) none
    | _, _ => none
theorem S.l20Rd_pick_ok : SpecOk Try.prog 64 S.l20Rd_pick_s := by
  refine SpecOk.of TDok mixed (T := S.l20Rd_pick_T) ?_ (ann := S.l20Rd_pick_ann) Try.func64 rfl (by decide +kernel) ?_ ?_ ?_
  · intro p hp; cases hp
  · intro args h κ r hh
    simp only [S.l20Rd_pick_s] at hh
    split at hh
    · exact (S.l20Rd_pick_den _ _ _ κ).trans hh
    · cases hh
  · intro args h κ r hh
    simp only [S.l20Rd_pick_s] at hh ⊢
    split at hh
    · exact optC_law2 (F := fun (r : Int × (List Int) × Int) κ => κ (.int .i64 r.1) [.cells [(.ro true (.ints .u8 r.2.1)), (.int .i64 r.2.2)]]) (fun b κ r hb => ⟨_, _, hb, fun _ => rfl⟩) hh
    · cases hh
  · intro hh; cases hh

-- (*loop.example/guardsonnets/spec.l20Rd).odd
noncomputable def S.l20Rd_odd_T : List (Nat × D.Spec) := [(64, S.l20Rd_pick_s)]
def S.l20Rd_odd_ann : Nat → List Nat × List Nat
  | _ => ([], [])
noncomputable def S.l20Rd_odd_F (args : List V) (h : List E) (κ : V → List E → R) : R := funC TD (tableK S.l20Rd_odd_T) S.l20Rd_odd_ann (drawOk (tableP S.l20Rd_odd_T)) FUEL Try.f65 args h κ
noncomputable def S.l20Rd_odd_tree {α : Type} (rb : List Int) (rp : Int) (n_ : Int) (leaf0_ : Bool × (List Int) × Int → α) (fail_ : α) : α :=
  (bif decide (n_ > 0) then (optC (S.l20Rd_pick_t rb rp n_) (fun c_1 => (leaf0_ (c_1.fst == IntKind.i64.wrap (n_ - 1), c_1.snd.fst, c_1.snd.snd))) fail_) else (leaf0_ (false, rb, rp)))
theorem S.l20Rd_odd_tree_nat {α γ : Type} (g : α → γ) (rb : List Int) (rp : Int) (n_ : Int) (leaf0_ : Bool × (List Int) × Int → α) (fail_ : α) : g (S.l20Rd_odd_tree rb rp n_ leaf0_ fail_) = S.l20Rd_odd_tree rb rp n_ (fun d => g (leaf0_ d)) (g fail_) := by
  unfold S.l20Rd_odd_tree; simp only [apply_cnd g, apply_optC g, apply_sumC g]
noncomputable def S.l20Rd_odd_t (rb : List Int) (rp : Int) (n_ : Int) : Option (Bool × (List Int) × Int) := S.l20Rd_odd_tree rb rp n_ (fun d => some d) none
theorem S.l20Rd_odd_den (rb : List Int) (rp : Int) (n_ : Int) (κ : V → List E → R) : S.l20Rd_odd_F [.ptr 0 0, .int .i64 n_] [.cells [.ro true (.ints .u8 rb), .int .i64 rp]] κ = optC (S.l20Rd_odd_t rb rp n_) (fun (r : Bool × (List Int) × Int) => κ (.bool r.1) [.cells [(.ro true (.ints .u8 r.2.1)), (.int .i64 r.2.2)]]) none := by
  have hu : S.l20Rd_odd_F [.ptr 0 0, .int .i64 n_] [.cells [.ro true (.ints .u8 rb), .int .i64 rp]] κ = S.l20Rd_odd_tree rb rp n_ (fun d => κ (.bool d.1) [.cells [(.ro true (.ints .u8 d.2.1)), (.int .i64 d.2.2)]]) none := by
    kernel_rfl
  rw [hu]
  exact (S.l20Rd_odd_tree_nat (fun o => optC o (fun (r : Bool × (List Int) × Int) => κ (.bool r.1) [.cells [(.ro true (.ints .u8 r.2.1)), (.int .i64 r.2.2)]]) none) rb rp n_ (fun d => some d) none).symm
noncomputable def S.l20Rd_odd_s : D.Spec where
  keep := false
  pure := false
  ds := [.invalid, .invalid]
  sp := fun args h κ => match args, h with
    | [.ptr 0 0, .int .i64 n_], [.cells [.ro true (.ints .u8 rb), .int .i64 rp]] => optC (S.l20Rd_odd_t rb rp n_) (fun (r : Bool × (List Int) × Int) => κ (.bool r.1) [.cells [(.ro true (.ints .u8 r.2.1)), (.int .i64 r.2.2)]]) none
    | _, _ => none
theorem S.l20Rd_odd_ok : SpecOk Try.prog 65 S.l20Rd_odd_s := by
  refine SpecOk.of TDok mixed (T := S.l20Rd_odd_T) ?_ (ann := S.l20Rd_odd_ann) Try.func65 rfl (by decide +kernel) ?_ ?_ ?_
  · intro p hp
    simp only [S.l20Rd_odd_T, List.mem_cons, List.not_mem_nil, or_false] at hp
    rcases hp with rfl
    · exact S.l20Rd_pick_ok
  · intro args h κ r hh
    simp only [S.l20Rd_odd_s] at hh
    split at hh
    · exact (S.l20Rd_odd_den _ _ _ κ).trans hh
    · cases hh
  · intro args h κ r hh
    simp only [S.l20Rd_odd_s] at hh ⊢
    split at hh
    · exact optC_law2 (F := fun (r : Bool × (List Int) × Int) κ => κ (.bool r.1) [.cells [(.ro true (.ints .u8 r.2.1)), (.int .i64 r.2.2)]]) (fun b κ r hb => ⟨_, _, hb, fun _ => rfl⟩) hh
    · cases hh
  · intro hh; cases hh

-- loop.example/guardsonnets/spec.l20Net
noncomputable def S.l20Net_T : List (Nat × D.Spec) := [(64, S.l20Rd_pick_s), (65, S.l20Rd_odd_s)]
def S.l20Net_ann : Nat → List Nat × List Nat
  | 8 => ([0, 1, 5, 6, 7, 8, 9], [0, 1, 5, 6, 7, 8])
  | 5 => ([0, 1, 5, 6, 7, 8], [0, 1, 5, 6])
  | _ => ([], [])
noncomputable def S.l20Net_F (args : List V) (h : List E) (κ : V → List E → R) : R := funC TD (tableK S.l20Net_T) S.l20Net_ann (drawOk (tableP S.l20Net_T)) FUEL Try.f52 args h κ
noncomputable def S.l20Net_L8 (n : Nat) (σ : St) (k : X → St → R) : R := iterC 1 (fun σ k => denC TD (tableK S.l20Net_T) S.l20Net_ann (drawOk (tableP S.l20Net_T)) 1 FUEL ((findLoop 8 (Try.f52.body.getD .skip)).getD .skip) σ k) [0, 1, 5, 6, 7, 8, 9] [0, 1, 5, 6, 7, 8] n σ k
noncomputable def S.l20Net_L5 (n : Nat) (σ : St) (k : X → St → R) : R := iterC 1 (fun σ k => denC TD (tableK S.l20Net_T) S.l20Net_ann (drawOk (tableP S.l20Net_T)) 1 FUEL ((findLoop 5 (Try.f52.body.getD .skip)).getD .skip) σ k) [0, 1, 5, 6, 7, 8] [0, 1, 5, 6] n σ k
noncomputable def S.l20Net_k8 (c : (St → R) × (X → St → R)) : X → St → R := (afterC TD (tableK S.l20Net_T) S.l20Net_ann (drawOk (tableP S.l20Net_T)) 1 FUEL 8 ((findLoop 5 (Try.f52.body.getD .skip)).getD .skip) (roundC 1 [0, 1, 5, 6, 7, 8] [0, 1, 5, 6] c.1 c.2)).getD (fun _ _ => none)
noncomputable def S.l20Net_k5 (κ : V → List E → R) : X → St → R := (afterC TD (tableK S.l20Net_T) S.l20Net_ann (drawOk (tableP S.l20Net_T)) 1 FUEL 5 (Try.f52.body.getD .skip) (finC 1 Try.f52 κ)).getD (fun _ _ => none)
noncomputable def S.l20Net_step8 {α : Type} (x1 : Int) (x5 : Int) (x7 : Int) (x8 : Int) (x9 : Int) (r0_0 : List Int) (r0_1 : Int) (r1 : List Int) (next_ : Int × (List Int) × Int × (List Int) → α) (out0_ : (List Int) × Int × (List Int) → α) (fail_ : α) : α :=
  (bif decide (x9 < x8) then (optC (S.l20Rd_pick_t r0_0 r0_1 3) (fun c_3 => (bif x7 == 0 then (bif x9 == IntKind.i64.wrap (x8 - 1) then (bif decide (0 ≤ x8) && decide (x8 < (↑r1.length : Int)) then (bif decide (x8.toNat < r1.length) then (bif decide (x9 < 0) then fail_ else (bif decide (0 ≤ x8) && decide (x8 < (↑r1.length : Int)) then (bif decide (x8.toNat < r1.length) then (bif decide (0 ≤ x9) && decide (x9 < (↑(r1.set x8.toNat (bits BinOp.or IntKind.i64 (eli r1 x8.toNat) (IntKind.i64.wrap (1 * 2 ^ min x9.toNat IntKind.i64.bits)))).length : Int)) then (bif decide (x9.toNat < (r1.set x8.toNat (bits BinOp.or IntKind.i64 (eli r1 x8.toNat) (IntKind.i64.wrap (1 * 2 ^ min x9.toNat IntKind.i64.bits)))).length) then (bif decide (x8 < 0) then fail_ else (bif decide (0 ≤ x9) && decide (x9 < (↑(r1.set x8.toNat (bits BinOp.or IntKind.i64 (eli r1 x8.toNat) (IntKind.i64.wrap (1 * 2 ^ min x9.toNat IntKind.i64.bits)))).length : Int)) then (bif decide (x9.toNat < (r1.set x8.toNat (bits BinOp.or IntKind.i64 (eli r1 x8.toNat) (IntKind.i64.wrap (1 * 2 ^ min x9.toNat IntKind.i64.bits)))).length) then (next_ (IntKind.i64.wrap (x9 + 1), c_3.snd.fst, c_3.snd.snd, (r1.set x8.toNat (bits BinOp.or IntKind.i64 (eli r1 x8.toNat) (IntKind.i64.wrap (1 * 2 ^ min x9.toNat IntKind.i64.bits)))).set x9.toNat (bits BinOp.or IntKind.i64 (eli (r1.set x8.toNat (bits BinOp.or IntKind.i64 (eli r1 x8.toNat) (IntKind.i64.wrap (1 * 2 ^ min x9.toNat IntKind.i64.bits)))) x9.toNat) (IntKind.i64.wrap (1 * 2 ^ min x8.toNat IntKind.i64.bits))))) else fail_) else fail_)) else fail_) else fail_) else fail_) else fail_)) else fail_) else fail_) else (bif x8 == IntKind.i64.wrap (x5 - 1) then (bif x9 == 0 then (bif decide (x5 > 2) then (bif decide (0 ≤ x8) && decide (x8 < (↑r1.length : Int)) then (bif decide (x8.toNat < r1.length) then (bif decide (x9 < 0) then fail_ else (bif decide (0 ≤ x8) && decide (x8 < (↑r1.length : Int)) then (bif decide (x8.toNat < r1.length) then (bif decide (0 ≤ x9) && decide (x9 < (↑(r1.set x8.toNat (bits BinOp.or IntKind.i64 (eli r1 x8.toNat) (IntKind.i64.wrap (1 * 2 ^ min x9.toNat IntKind.i64.bits)))).length : Int)) then (bif decide (x9.toNat < (r1.set x8.toNat (bits BinOp.or IntKind.i64 (eli r1 x8.toNat) (IntKind.i64.wrap (1 * 2 ^ min x9.toNat IntKind.i64.bits)))).length) then (bif decide (x8 < 0) then fail_ else (bif decide (0 ≤ x9) && decide (x9 < (↑(r1.set x8.toNat (bits BinOp.or IntKind.i64 (eli r1 x8.toNat) (IntKind.i64.wrap (1 * 2 ^ min x9.toNat IntKind.i64.bits)))).length : Int)) then (bif decide (x9.toNat < (r1.set x8.toNat (bits BinOp.or IntKind.i64 (eli r1 x8.toNat) (IntKind.i64.wrap (1 * 2 ^ min x9.toNat IntKind.i64.bits)))).length) then (next_ (IntKind.i64.wrap (x9 + 1), c_3.snd.fst, c_3.snd.snd, (r1.set x8.toNat (bits BinOp.or IntKind.i64 (eli r1 x8.toNat) (IntKind.i64.wrap (1 * 2 ^ min x9.toNat IntKind.i64.bits)))).set x9.toNat (bits BinOp.or IntKind.i64 (eli (r1.set x8.toNat (bits BinOp.or IntKind.i64 (eli r1 x8.toNat) (IntKind.i64.wrap (1 * 2 ^ min x9.toNat IntKind.i64.bits)))) x9.toNat) (IntKind.i64.wrap (1 * 2 ^ min x8.toNat IntKind.i64.bits))))) else fail_) else fail_)) else fail_) else fail_) else fail_) else fail_)) else fail_) else fail_) else (next_ (IntKind.i64.wrap (x9 + 1), c_3.snd.fst, c_3.snd.snd, r1))) else (next_ (IntKind.i64.wrap (x9 + 1), c_3.snd.fst, c_3.snd.snd, r1))) else (next_ (IntKind.i64.wrap (x9 + 1), c_3.snd.fst, c_3.snd.snd, r1)))) else (bif x7 == 1 then (bif x9 == IntKind.i64.wrap (x8 - 1) then (bif decide (0 ≤ x8) && decide (x8 < (↑r1.length : Int)) then (bif decide (x8.toNat < r1.length) then (bif decide (x9 < 0) then fail_ else (bif decide (0 ≤ x8) && decide (x8 < (↑r1.length : Int)) then (bif decide (x8.toNat < r1.length) then (bif decide (0 ≤ x9) && decide (x9 < (↑(r1.set x8.toNat (bits BinOp.or IntKind.i64 (eli r1 x8.toNat) (IntKind.i64.wrap (1 * 2 ^ min x9.toNat IntKind.i64.bits)))).length : Int)) then (bif decide (x9.toNat < (r1.set x8.toNat (bits BinOp.or IntKind.i64 (eli r1 x8.toNat) (IntKind.i64.wrap (1 * 2 ^ min x9.toNat IntKind.i64.bits)))).length) then (bif decide (x8 < 0) then fail_ else (bif decide (0 ≤ x9) && decide (x9 < (↑(r1.set x8.toNat (bits BinOp.or IntKind.i64 (eli r1 x8.toNat) (IntKind.i64.wrap (1 * 2 ^ min x9.toNat IntKind.i64.bits)))).length : Int)) then (bif decide (x9.toNat < (r1.set x8.toNat (bits BinOp.or IntKind.i64 (eli r1 x8.toNat) (IntKind.i64.wrap (1 * 2 ^ min x9.toNat IntKind.i64.bits)))).length) then (next_ (IntKind.i64.wrap (x9 + 1), c_3.snd.fst, c_3.snd.snd, (r1.set x8.toNat (bits BinOp.or IntKind.i64 (eli r1 x8.toNat) (IntKind.i64.wrap (1 * 2 ^ min x9.toNat IntKind.i64.bits)))).set x9.toNat (bits BinOp.or IntKind.i64 (eli (r1.set x8.toNat (bits BinOp.or IntKind.i64 (eli r1 x8.toNat) (IntKind.i64.wrap (1 * 2 ^ min x9.toNat IntKind.i64.bits)))) x9.toNat) (IntKind.i64.wrap (1 * 2 ^ min x8.toNat IntKind.i64.bits))))) else fail_) else fail_)) else fail_) else fail_) else fail_) else fail_)) else fail_) else fail_) else (bif x9 == 0 then (optC (S.l20Rd_pick_t c_3.snd.fst c_3.snd.snd 3) (fun c_4 => (bif c_4.fst == 0 then (bif decide (0 ≤ x8) && decide (x8 < (↑r1.length : Int)) then (bif decide (x8.toNat < r1.length) then (bif decide (x9 < 0) then fail_ else (bif decide (0 ≤ x8) && decide (x8 < (↑r1.length : Int)) then (bif decide (x8.toNat < r1.length) then (bif decide (0 ≤ x9) && decide (x9 < (↑(r1.set x8.toNat (bits BinOp.or IntKind.i64 (eli r1 x8.toNat) (IntKind.i64.wrap (1 * 2 ^ min x9.toNat IntKind.i64.bits)))).length : Int)) then (bif decide (x9.toNat < (r1.set x8.toNat (bits BinOp.or IntKind.i64 (eli r1 x8.toNat) (IntKind.i64.wrap (1 * 2 ^ min x9.toNat IntKind.i64.bits)))).length) then (bif decide (x8 < 0) then fail_ else (bif decide (0 ≤ x9) && decide (x9 < (↑(r1.set x8.toNat (bits BinOp.or IntKind.i64 (eli r1 x8.toNat) (IntKind.i64.wrap (1 * 2 ^ min x9.toNat IntKind.i64.bits)))).length : Int)) then (bif decide (x9.toNat < (r1.set x8.toNat (bits BinOp.or IntKind.i64 (eli r1 x8.toNat) (IntKind.i64.wrap (1 * 2 ^ min x9.toNat IntKind.i64.bits)))).length) then (next_ (IntKind.i64.wrap (x9 + 1), c_4.snd.fst, c_4.snd.snd, (r1.set x8.toNat (bits BinOp.or IntKind.i64 (eli r1 x8.toNat) (IntKind.i64.wrap (1 * 2 ^ min x9.toNat IntKind.i64.bits)))).set x9.toNat (bits BinOp.or IntKind.i64 (eli (r1.set x8.toNat (bits BinOp.or IntKind.i64 (eli r1 x8.toNat) (IntKind.i64.wrap (1 * 2 ^ min x9.toNat IntKind.i64.bits)))) x9.toNat) (IntKind.i64.wrap (1 * 2 ^ min x8.toNat IntKind.i64.bits))))) else fail_) else fail_)) else fail_) else fail_) else fail_) else fail_)) else fail_) else fail_) else (next_ (IntKind.i64.wrap (x9 + 1), c_4.snd.fst, c_4.snd.snd, r1)))) fail_) else (next_ (IntKind.i64.wrap (x9 + 1), c_3.snd.fst, c_3.snd.snd, r1)))) else (bif x7 == 2 then (bif x9 == IntKind.i64.wrap ((IntKind.i64.wrap (x8 - 1)).tdiv 2) then (bif decide (0 ≤ x8) && decide (x8 < (↑r1.length : Int)) then (bif decide (x8.toNat < r1.length) then (bif decide (x9 < 0) then fail_ else (bif decide (0 ≤ x8) && decide (x8 < (↑r1.length : Int)) then (bif decide (x8.toNat < r1.length) then (bif decide (0 ≤ x9) && decide (x9 < (↑(r1.set x8.toNat (bits BinOp.or IntKind.i64 (eli r1 x8.toNat) (IntKind.i64.wrap (1 * 2 ^ min x9.toNat IntKind.i64.bits)))).length : Int)) then (bif decide (x9.toNat < (r1.set x8.toNat (bits BinOp.or IntKind.i64 (eli r1 x8.toNat) (IntKind.i64.wrap (1 * 2 ^ min x9.toNat IntKind.i64.bits)))).length) then (bif decide (x8 < 0) then fail_ else (bif decide (0 ≤ x9) && decide (x9 < (↑(r1.set x8.toNat (bits BinOp.or IntKind.i64 (eli r1 x8.toNat) (IntKind.i64.wrap (1 * 2 ^ min x9.toNat IntKind.i64.bits)))).length : Int)) then (bif decide (x9.toNat < (r1.set x8.toNat (bits BinOp.or IntKind.i64 (eli r1 x8.toNat) (IntKind.i64.wrap (1 * 2 ^ min x9.toNat IntKind.i64.bits)))).length) then (next_ (IntKind.i64.wrap (x9 + 1), c_3.snd.fst, c_3.snd.snd, (r1.set x8.toNat (bits BinOp.or IntKind.i64 (eli r1 x8.toNat) (IntKind.i64.wrap (1 * 2 ^ min x9.toNat IntKind.i64.bits)))).set x9.toNat (bits BinOp.or IntKind.i64 (eli (r1.set x8.toNat (bits BinOp.or IntKind.i64 (eli r1 x8.toNat) (IntKind.i64.wrap (1 * 2 ^ min x9.toNat IntKind.i64.bits)))) x9.toNat) (IntKind.i64.wrap (1 * 2 ^ min x8.toNat IntKind.i64.bits))))) else fail_) else fail_)) else fail_) else fail_) else fail_) else fail_)) else fail_) else fail_) else (next_ (IntKind.i64.wrap (x9 + 1), c_3.snd.fst, c_3.snd.snd, r1))) else (bif c_3.fst == 0 then (bif decide (0 ≤ x8) && decide (x8 < (↑r1.length : Int)) then (bif decide (x8.toNat < r1.length) then (bif decide (x9 < 0) then fail_ else (bif decide (0 ≤ x8) && decide (x8 < (↑r1.length : Int)) then (bif decide (x8.toNat < r1.length) then (bif decide (0 ≤ x9) && decide (x9 < (↑(r1.set x8.toNat (bits BinOp.or IntKind.i64 (eli r1 x8.toNat) (IntKind.i64.wrap (1 * 2 ^ min x9.toNat IntKind.i64.bits)))).length : Int)) then (bif decide (x9.toNat < (r1.set x8.toNat (bits BinOp.or IntKind.i64 (eli r1 x8.toNat) (IntKind.i64.wrap (1 * 2 ^ min x9.toNat IntKind.i64.bits)))).length) then (bif decide (x8 < 0) then fail_ else (bif decide (0 ≤ x9) && decide (x9 < (↑(r1.set x8.toNat (bits BinOp.or IntKind.i64 (eli r1 x8.toNat) (IntKind.i64.wrap (1 * 2 ^ min x9.toNat IntKind.i64.bits)))).length : Int)) then (bif decide (x9.toNat < (r1.set x8.toNat (bits BinOp.or IntKind.i64 (eli r1 x8.toNat) (IntKind.i64.wrap (1 * 2 ^ min x9.toNat IntKind.i64.bits)))).length) then (next_ (IntKind.i64.wrap (x9 + 1), c_3.snd.fst, c_3.snd.snd, (r1.set x8.toNat (bits BinOp.or IntKind.i64 (eli r1 x8.toNat) (IntKind.i64.wrap (1 * 2 ^ min x9.toNat IntKind.i64.bits)))).set x9.toNat (bits BinOp.or IntKind.i64 (eli (r1.set x8.toNat (bits BinOp.or IntKind.i64 (eli r1 x8.toNat) (IntKind.i64.wrap (1 * 2 ^ min x9.toNat IntKind.i64.bits)))) x9.toNat) (IntKind.i64.wrap (1 * 2 ^ min x8.toNat IntKind.i64.bits))))) else fail_) else fail_)) else fail_) else fail_) else fail_) else fail_)) else fail_) else fail_) else (next_ (IntKind.i64.wrap (x9 + 1), c_3.snd.fst, c_3.snd.snd, r1))))))) fail_) else (out0_ (r0_0, r0_1, r1)))
theorem S.l20Net_step8_nat {α γ : Type} (g : α → γ) (x1 : Int) (x5 : Int) (x7 : Int) (x8 : Int) (x9 : Int) (r0_0 : List Int) (r0_1 : Int) (r1 : List Int) (next_ : Int × (List Int) × Int × (List Int) → α) (out0_ : (List Int) × Int × (List Int) → α) (fail_ : α) : g (S.l20Net_step8 x1 x5 x7 x8 x9 r0_0 r0_1 r1 next_ out0_ fail_) = S.l20Net_step8 x1 x5 x7 x8 x9 r0_0 r0_1 r1 (fun s => g (next_ s)) (fun d => g (out0_ d)) (g fail_) := by
  unfold S.l20Net_step8; simp only [apply_cnd g, apply_optC g, apply_sumC g]
noncomputable def S.l20Net_run8 (x1 : Int) (x5 : Int) (x7 : Int) (x8 : Int) : Nat → Int × (List Int) × Int × (List Int) → Option ((List Int) × Int × (List Int))
  | 0, _ => none
  | n + 1, s_ => S.l20Net_step8 x1 x5 x7 x8 s_.1 s_.2.1 s_.2.2.1 s_.2.2.2 (S.l20Net_run8 x1 x5 x7 x8 n) (fun d => some d) none
theorem S.l20Net_L8_run (x1 : Int) (x5 : Int) (x7 : Int) (x8 : Int) (n : Nat) (s_ : Int × (List Int) × Int × (List Int)) (k : X → St → R) : S.l20Net_L8 n { n := 125, t := [(0, (.ptr 0 0)), (1, (.int .i64 x1)), (5, (.int .i64 x5)), (6, (.own 1)), (7, (.int .i64 x7)), (8, (.int .i64 x8)), (9, (.int .i64 s_.1))], h := [.cells [(.ro true (.ints .u8 s_.2.1)), (.int .i64 s_.2.2.1)], .row (.ints .i64 s_.2.2.2)] } k = optC (S.l20Net_run8 x1 x5 x7 x8 n s_) (fun (r : (List Int) × Int × (List Int)) => k (.exit 2) { n := 125, t := [(0, (.ptr 0 0)), (1, (.int .i64 x1)), (5, (.int .i64 x5)), (6, (.own 1)), (7, (.int .i64 x7)), (8, (.int .i64 x8))], h := [.cells [(.ro true (.ints .u8 r.1)), (.int .i64 r.2.1)], .row (.ints .i64 r.2.2)] }) none := by
  induction n generalizing s_ with
  | zero => rfl
  | succ n ih =>
    have hu : S.l20Net_L8 (n + 1) { n := 125, t := [(0, (.ptr 0 0)), (1, (.int .i64 x1)), (5, (.int .i64 x5)), (6, (.own 1)), (7, (.int .i64 x7)), (8, (.int .i64 x8)), (9, (.int .i64 s_.1))], h := [.cells [(.ro true (.ints .u8 s_.2.1)), (.int .i64 s_.2.2.1)], .row (.ints .i64 s_.2.2.2)] } k = S.l20Net_step8 x1 x5 x7 x8 s_.1 s_.2.1 s_.2.2.1 s_.2.2.2 (fun s_ => S.l20Net_L8 n { n := 125, t := [(0, (.ptr 0 0)), (1, (.int .i64 x1)), (5, (.int .i64 x5)), (6, (.own 1)), (7, (.int .i64 x7)), (8, (.int .i64 x8)), (9, (.int .i64 s_.1))], h := [.cells [(.ro true (.ints .u8 s_.2.1)), (.int .i64 s_.2.2.1)], .row (.ints .i64 s_.2.2.2)] } k) (fun d => k (.exit 2) { n := 125, t := [(0, (.ptr 0 0)), (1, (.int .i64 x1)), (5, (.int .i64 x5)), (6, (.own 1)), (7, (.int .i64 x7)), (8, (.int .i64 x8))], h := [.cells [(.ro true (.ints .u8 d.1)), (.int .i64 d.2.1)], .row (.ints .i64 d.2.2)] }) none := by
      kernel_rfl
    have hs : (fun s_ : Int × (List Int) × Int × (List Int) => S.l20Net_L8 n { n := 125, t := [(0, (.ptr 0 0)), (1, (.int .i64 x1)), (5, (.int .i64 x5)), (6, (.own 1)), (7, (.int .i64 x7)), (8, (.int .i64 x8)), (9, (.int .i64 s_.1))], h := [.cells [(.ro true (.ints .u8 s_.2.1)), (.int .i64 s_.2.2.1)], .row (.ints .i64 s_.2.2.2)] } k) = fun s_ => optC (S.l20Net_run8 x1 x5 x7 x8 n s_) (fun (r : (List Int) × Int × (List Int)) => k (.exit 2) { n := 125, t := [(0, (.ptr 0 0)), (1, (.int .i64 x1)), (5, (.int .i64 x5)), (6, (.own 1)), (7, (.int .i64 x7)), (8, (.int .i64 x8))], h := [.cells [(.ro true (.ints .u8 r.1)), (.int .i64 r.2.1)], .row (.ints .i64 r.2.2)] }) none := funext ih
    rw [hu, hs]
    exact (S.l20Net_step8_nat (fun o => optC o (fun (r : (List Int) × Int × (List Int)) => k (.exit 2) { n := 125, t := [(0, (.ptr 0 0)), (1, (.int .i64 x1)), (5, (.int .i64 x5)), (6, (.own 1)), (7, (.int .i64 x7)), (8, (.int .i64 x8))], h := [.cells [(.ro true (.ints .u8 r.1)), (.int .i64 r.2.1)], .row (.ints .i64 r.2.2)] }) none) x1 x5 x7 x8 s_.1 s_.2.1 s_.2.2.1 s_.2.2.2 (S.l20Net_run8 x1 x5 x7 x8 n) (fun d => some d) none).symm
noncomputable def S.l20Net_step5 {α : Type} (x1 : Int) (x5 : Int) (x7 : Int) (x8 : Int) (r0_0 : List Int) (r0_1 : Int) (r1 : List Int) (next_ : Int × (List Int) × Int × (List Int) → α) (out0_ : (List Int) × Int × (List Int) → α) (fail_ : α) : α :=
  (bif decide (x8 < x5) then (optC (S.l20Net_run8 x1 x5 x7 x8 FUEL (0, r0_0, r0_1, r1)) (fun qy_5 => (next_ (IntKind.i64.wrap (x8 + 1), qy_5.1, qy_5.2.1, qy_5.2.2))) fail_) else (out0_ (r0_0, r0_1, r1)))
theorem S.l20Net_step5_nat {α γ : Type} (g : α → γ) (x1 : Int) (x5 : Int) (x7 : Int) (x8 : Int) (r0_0 : List Int) (r0_1 : Int) (r1 : List Int) (next_ : Int × (List Int) × Int × (List Int) → α) (out0_ : (List Int) × Int × (List Int) → α) (fail_ : α) : g (S.l20Net_step5 x1 x5 x7 x8 r0_0 r0_1 r1 next_ out0_ fail_) = S.l20Net_step5 x1 x5 x7 x8 r0_0 r0_1 r1 (fun s => g (next_ s)) (fun d => g (out0_ d)) (g fail_) := by
  unfold S.l20Net_step5; simp only [apply_cnd g, apply_optC g, apply_sumC g]
noncomputable def S.l20Net_run5 (x1 : Int) (x5 : Int) (x7 : Int) : Nat → Int × (List Int) × Int × (List Int) → Option ((List Int) × Int × (List Int))
  | 0, _ => none
  | n + 1, s_ => S.l20Net_step5 x1 x5 x7 s_.1 s_.2.1 s_.2.2.1 s_.2.2.2 (S.l20Net_run5 x1 x5 x7 n) (fun d => some d) none
theorem S.l20Net_L5_run (x1 : Int) (x5 : Int) (x7 : Int) (n : Nat) (s_ : Int × (List Int) × Int × (List Int)) (k : X → St → R) : S.l20Net_L5 n { n := 125, t := [(0, (.ptr 0 0)), (1, (.int .i64 x1)), (5, (.int .i64 x5)), (6, (.own 1)), (7, (.int .i64 x7)), (8, (.int .i64 s_.1))], h := [.cells [(.ro true (.ints .u8 s_.2.1)), (.int .i64 s_.2.2.1)], .row (.ints .i64 s_.2.2.2)] } k = optC (S.l20Net_run5 x1 x5 x7 n s_) (fun (r : (List Int) × Int × (List Int)) => k (.exit 0) { n := 125, t := [(0, (.ptr 0 0)), (1, (.int .i64 x1)), (5, (.int .i64 x5)), (6, (.own 1))], h := [.cells [(.ro true (.ints .u8 r.1)), (.int .i64 r.2.1)], .row (.ints .i64 r.2.2)] }) none := by
  induction n generalizing s_ with
  | zero => rfl
  | succ n ih =>
    have hu : S.l20Net_L5 (n + 1) { n := 125, t := [(0, (.ptr 0 0)), (1, (.int .i64 x1)), (5, (.int .i64 x5)), (6, (.own 1)), (7, (.int .i64 x7)), (8, (.int .i64 s_.1))], h := [.cells [(.ro true (.ints .u8 s_.2.1)), (.int .i64 s_.2.2.1)], .row (.ints .i64 s_.2.2.2)] } k = S.l20Net_step5 x1 x5 x7 s_.1 s_.2.1 s_.2.2.1 s_.2.2.2 (fun s_ => S.l20Net_L5 n { n := 125, t := [(0, (.ptr 0 0)), (1, (.int .i64 x1)), (5, (.int .i64 x5)), (6, (.own 1)), (7, (.int .i64 x7)), (8, (.int .i64 s_.1))], h := [.cells [(.ro true (.ints .u8 s_.2.1)), (.int .i64 s_.2.2.1)], .row (.ints .i64 s_.2.2.2)] } k) (fun d => k (.exit 0) { n := 125, t := [(0, (.ptr 0 0)), (1, (.int .i64 x1)), (5, (.int .i64 x5)), (6, (.own 1))], h := [.cells [(.ro true (.ints .u8 d.1)), (.int .i64 d.2.1)], .row (.ints .i64 d.2.2)] }) none := by
      refine Eq.trans (show S.l20Net_L5 (n + 1) { n := 125, t := [(0, (.ptr 0 0)), (1, (.int .i64 x1)), (5, (.int .i64 x5)), (6, (.own 1)), (7, (.int .i64 x7)), (8, (.int .i64 s_.1))], h := [.cells [(.ro true (.ints .u8 s_.2.1)), (.int .i64 s_.2.2.1)], .row (.ints .i64 s_.2.2.2)] } k = (bif decide (s_.1 < x5) then (S.l20Net_L8 FUEL { n := 125, t := [(0, (.ptr 0 0)), (1, (.int .i64 x1)), (5, (.int .i64 x5)), (6, (.own 1)), (7, (.int .i64 x7)), (8, (.int .i64 s_.1)), (9, (.int .i64 0))], h := [.cells [(.ro true (.ints .u8 s_.2.1)), (.int .i64 s_.2.2.1)], .row (.ints .i64 s_.2.2.2)] } (S.l20Net_k8 ((fun σ => S.l20Net_L5 n σ k), k))) else (k (.exit 0) { n := 125, t := [(0, (.ptr 0 0)), (1, (.int .i64 x1)), (5, (.int .i64 x5)), (6, (.own 1))], h := [.cells [(.ro true (.ints .u8 s_.2.1)), (.int .i64 s_.2.2.1)], .row (.ints .i64 s_.2.2.2)] })) by kernel_rfl) ?_
      refine cnd_congr ?_ ?_
      · refine (S.l20Net_L8_run x1 x5 x7 s_.1 FUEL (0, s_.2.1, s_.2.2.1, s_.2.2.2) (S.l20Net_k8 ((fun σ => S.l20Net_L5 n σ k), k))).trans (optC_congr (fun qy_5 => ?_))
        kernel_rfl
      · kernel_rfl
    have hs : (fun s_ : Int × (List Int) × Int × (List Int) => S.l20Net_L5 n { n := 125, t := [(0, (.ptr 0 0)), (1, (.int .i64 x1)), (5, (.int .i64 x5)), (6, (.own 1)), (7, (.int .i64 x7)), (8, (.int .i64 s_.1))], h := [.cells [(.ro true (.ints .u8 s_.2.1)), (.int .i64 s_.2.2.1)], .row (.ints .i64 s_.2.2.2)] } k) = fun s_ => optC (S.l20Net_run5 x1 x5 x7 n s_) (fun (r : (List Int) × Int × (List Int)) => k (.exit 0) { n := 125, t := [(0, (.ptr 0 0)), (1, (.int .i64 x1)), (5, (.int .i64 x5)), (6, (.own 1))], h := [.cells [(.ro true (.ints .u8 r.1)), (.int .i64 r.2.1)], .row (.ints .i64 r.2.2)] }) none := funext ih
    rw [hu, hs]
    exact (S.l20Net_step5_nat (fun o => optC o (fun (r : (List Int) × Int × (List Int)) => k (.exit 0) { n := 125, t := [(0, (.ptr 0 0)), (1, (.int .i64 x1)), (5, (.int .i64 x5)), (6, (.own 1))], h := [.cells [(.ro true (.ints .u8 r.1)), (.int .i64 r.2.1)], .row (.ints .i64 r.2.2)] }) none) x1 x5 x7 s_.1 s_.2.1 s_.2.2.1 s_.2.2.2 (S.l20Net_run5 x1 x5 x7 n) (fun d => some d) none).symm
noncomputable def S.l20Net_tree {α : Type} (rb : List Int) (rp : Int) (n_ : Int) (leaf0_ : (List Int) × Int × (List Int) → α) (fail_ : α) : α :=
  (optC (S.l20Rd_pick_t rb rp 6) (fun c_1 => (bif decide (0 ≤ IntKind.i64.wrap (1 + c_1.fst)) && small (IntKind.i64.wrap (1 + c_1.fst)).toNat && true then (optC (S.l20Rd_pick_t c_1.snd.fst c_1.snd.snd 4) (fun c_2 => (optC (S.l20Net_run5 n_ (IntKind.i64.wrap (1 + c_1.fst)) c_2.fst FUEL (0, c_2.snd.fst, c_2.snd.snd, List.replicate (IntKind.i64.wrap (1 + c_1.fst)).toNat 0)) (fun qy_6 => (optC (S.l20Rd_odd_t qy_6.1 qy_6.2.1 n_) (fun c_7 => (bif c_7.fst then (optC (S.l20Rd_pick_t c_7.snd.fst c_7.snd.snd 3) (fun c_8 => (bif c_8.fst == 0 then (leaf0_ (c_8.snd.fst, c_8.snd.snd, [])) else (bif c_8.fst == 1 then (bif decide (0 < (↑qy_6.2.2.length : Int)) then (bif decide (0 < qy_6.2.2.length) then (bif decide (0 < (↑qy_6.2.2.length : Int)) then (bif decide (0 < qy_6.2.2.length) then (leaf0_ (c_8.snd.fst, c_8.snd.snd, qy_6.2.2.set 0 (bits BinOp.or IntKind.i64 (eli qy_6.2.2 0) 1))) else fail_) else fail_) else fail_) else fail_) else (bif decide (0 < (↑qy_6.2.2.length : Int)) then (bif decide (0 < qy_6.2.2.length) then (bif decide (IntKind.i64.wrap (IntKind.i64.wrap (1 + c_1.fst) - 1) < 0) then fail_ else (bif decide (0 < (↑qy_6.2.2.length : Int)) then (bif decide (0 < qy_6.2.2.length) then (bif IntKind.i64.wrap (1 + c_1.fst) == 1 then (bif decide (0 < (↑(qy_6.2.2.set 0 (bits BinOp.xor IntKind.i64 (eli qy_6.2.2 0) (IntKind.i64.wrap (1 * 2 ^ min (IntKind.i64.wrap (IntKind.i64.wrap (1 + c_1.fst) - 1)).toNat IntKind.i64.bits)))).length : Int)) then (bif decide (0 < (qy_6.2.2.set 0 (bits BinOp.xor IntKind.i64 (eli qy_6.2.2 0) (IntKind.i64.wrap (1 * 2 ^ min (IntKind.i64.wrap (IntKind.i64.wrap (1 + c_1.fst) - 1)).toNat IntKind.i64.bits)))).length) then (leaf0_ (c_8.snd.fst, c_8.snd.snd, (qy_6.2.2.set 0 (bits BinOp.xor IntKind.i64 (eli qy_6.2.2 0) (IntKind.i64.wrap (1 * 2 ^ min (IntKind.i64.wrap (IntKind.i64.wrap (1 + c_1.fst) - 1)).toNat IntKind.i64.bits)))).set 0 (-1))) else fail_) else fail_) else (leaf0_ (c_8.snd.fst, c_8.snd.snd, qy_6.2.2.set 0 (bits BinOp.xor IntKind.i64 (eli qy_6.2.2 0) (IntKind.i64.wrap (1 * 2 ^ min (IntKind.i64.wrap (IntKind.i64.wrap (1 + c_1.fst) - 1)).toNat IntKind.i64.bits)))))) else fail_) else fail_)) else fail_) else fail_)))) fail_) else (leaf0_ (c_7.snd.fst, c_7.snd.snd, qy_6.2.2)))) fail_)) fail_)) fail_) else fail_)) fail_)
theorem S.l20Net_tree_nat {α γ : Type} (g : α → γ) (rb : List Int) (rp : Int) (n_ : Int) (leaf0_ : (List Int) × Int × (List Int) → α) (fail_ : α) : g (S.l20Net_tree rb rp n_ leaf0_ fail_) = S.l20Net_tree rb rp n_ (fun d => g (leaf0_ d)) (g fail_) := by
  unfold S.l20Net_tree; simp only [apply_cnd g, apply_optC g, apply_sumC g]
noncomputable def S.l20Net_t (rb : List Int) (rp : Int) (n_ : Int) : Option ((List Int) × Int × (List Int)) := S.l20Net_tree rb rp n_ (fun d => some d) none
theorem S.l20Net_den (rb : List Int) (rp : Int) (n_ : Int) (κ : V → List E → R) : S.l20Net_F [.ptr 0 0, .int .i64 n_] [.cells [.ro true (.ints .u8 rb), .int .i64 rp]] κ = optC (S.l20Net_t rb rp n_) (fun (r : (List Int) × Int × (List Int)) => κ (.own 1) [.cells [(.ro true (.ints .u8 r.1)), (.int .i64 r.2.1)], .row (.ints .i64 r.2.2)]) none := by
  have hu : S.l20Net_F [.ptr 0 0, .int .i64 n_] [.cells [.ro true (.ints .u8 rb), .int .i64 rp]] κ = S.l20Net_tree rb rp n_ (fun d => κ (.own 1) [.cells [(.ro true (.ints .u8 d.1)), (.int .i64 d.2.1)], .row (.ints .i64 d.2.2)]) none := by
    refine Eq.trans (show S.l20Net_F [.ptr 0 0, .int .i64 n_] [.cells [.ro true (.ints .u8 rb), .int .i64 rp]] κ = (optC (S.l20Rd_pick_t rb rp 6) (fun c_1 => (bif decide (0 ≤ IntKind.i64.wrap (1 + c_1.fst)) && small (IntKind.i64.wrap (1 + c_1.fst)).toNat && true then (optC (S.l20Rd_pick_t c_1.snd.fst c_1.snd.snd 4) (fun c_2 => (S.l20Net_L5 FUEL { n := 125, t := [(0, (.ptr 0 0)), (1, (.int .i64 n_)), (5, (.int .i64 (IntKind.i64.wrap (1 + c_1.fst)))), (6, (.own 1)), (7, (.int .i64 c_2.fst)), (8, (.int .i64 0))], h := [.cells [(.ro true (.ints .u8 c_2.snd.fst)), (.int .i64 c_2.snd.snd)], .row (.ints .i64 (List.replicate (IntKind.i64.wrap (1 + c_1.fst)).toNat 0))] } (S.l20Net_k5 κ))) none) else none)) none) by kernel_rfl) ?_
    refine optC_congr (fun c_1 => ?_)
    refine cnd_congr ?_ ?_
    · refine optC_congr (fun c_2 => ?_)
      refine (S.l20Net_L5_run n_ (IntKind.i64.wrap (1 + c_1.fst)) c_2.fst FUEL (0, c_2.snd.fst, c_2.snd.snd, List.replicate (IntKind.i64.wrap (1 + c_1.fst)).toNat 0) (S.l20Net_k5 κ)).trans (optC_congr (fun qy_6 => ?_))
      kernel_rfl
    · kernel_rfl
  rw [hu]
  exact (S.l20Net_tree_nat (fun o => optC o (fun (r : (List Int) × Int × (List Int)) => κ (.own 1) [.cells [(.ro true (.ints .u8 r.1)), (.int .i64 r.2.1)], .row (.ints .i64 r.2.2)]) none) rb rp n_ (fun d => some d) none).symm
noncomputable def S.l20Net_s : D.Spec where
  keep := false
  pure := false
  ds := [.invalid, .invalid]
  sp := fun args h κ => match args, h with
    | [.ptr 0 0, .int .i64 n_], [.cells [.ro true (.ints .u8 rb), .int .i64 rp]] => optC (S.l20Net_t rb rp n_) (fun (r : (List Int) × Int × (List Int)) => κ (.own 1) [.cells [(.ro true (.ints .u8 r.1)), (.int .i64 r.2.1)], .row (.ints .i64 r.2.2)]) none
    | _, _ => none
theorem S.l20Net_ok : SpecOk Try.prog 52 S.l20Net_s := by
  refine SpecOk.of TDok mixed (T := S.l20Net_T) ?_ (ann := S.l20Net_ann) Try.func52 rfl (by decide +kernel) ?_ ?_ ?_
  · intro p hp
    simp only [S.l20Net_T, List.mem_cons, List.not_mem_nil, or_false] at hp
    rcases hp with rfl | rfl
    · exact S.l20Rd_pick_ok
    · exact S.l20Rd_odd_ok
  · intro args h κ r hh
    simp only [S.l20Net_s] at hh
    split at hh
    · exact (S.l20Net_den _ _ _ κ).trans hh
    · cases hh
  · intro args h κ r hh
    simp only [S.l20Net_s] at hh ⊢
    split at hh
    · exact optC_law2 (F := fun (r : (List Int) × Int × (List Int)) κ => κ (.own 1) [.cells [(.ro true (.ints .u8 r.1)), (.int .i64 r.2.1)], .row (.ints .i64 r.2.2)]) (fun b κ r hb => ⟨_, _, hb, fun _ => rfl⟩) hh
    · cases hh
  · intro hh; cases hh

-- loop.example/guardsonnets/spec.l20Spot
noncomputable def S.l20Spot_T : List (Nat × D.Spec) := [(52, S.l20Net_s), (64, S.l20Rd_pick_s)]
def S.l20Spot_ann : Nat → List Nat × List Nat
  | _ => ([], [])
noncomputable def S.l20Spot_F (args : List V) (h : List E) (κ : V → List E → R) : R := funC TD (tableK S.l20Spot_T) S.l20Spot_ann (drawOk (tableP S.l20Spot_T)) FUEL Try.f41 args h κ
noncomputable def S.l20Spot_tree {α : Type} (rb : List Int) (rp : Int) (n_ : Int) (leaf0_ : Int × (List Int) × Int × (List Int) → α) (fail_ : α) : α :=
  (optC (S.l20Net_t rb rp n_) (fun c_1 => (optC (S.l20Rd_pick_t c_1.fst c_1.snd.fst (if 1 > (↑c_1.snd.snd.length : Int) then 1 else (↑c_1.snd.snd.length : Int))) (fun c_2 => (optC (S.l20Rd_pick_t c_2.snd.fst c_2.snd.snd 40) (fun c_3 => (leaf0_ (IntKind.i64.wrap (c_2.fst + IntKind.i64.wrap (IntKind.i64.wrap (c_3.fst.tdiv 39) * 6)), c_3.snd.fst, c_3.snd.snd, c_1.snd.snd))) fail_)) fail_)) fail_)
theorem S.l20Spot_tree_nat {α γ : Type} (g : α → γ) (rb : List Int) (rp : Int) (n_ : Int) (leaf0_ : Int × (List Int) × Int × (List Int) → α) (fail_ : α) : g (S.l20Spot_tree rb rp n_ leaf0_ fail_) = S.l20Spot_tree rb rp n_ (fun d => g (leaf0_ d)) (g fail_) := by
  unfold S.l20Spot_tree; simp only [apply_cnd g, apply_optC g, apply_sumC g]
noncomputable def S.l20Spot_t (rb : List Int) (rp : Int) (n_ : Int) : Option (Int × (List Int) × Int × (List Int)) := S.l20Spot_tree rb rp n_ (fun d => some d) none
theorem S.l20Spot_den (rb : List Int) (rp : Int) (n_ : Int) (κ : V → List E → R) : S.l20Spot_F [.ptr 0 0, .int .i64 n_] [.cells [.ro true (.ints .u8 rb), .int .i64 rp]] κ = optC (S.l20Spot_t rb rp n_) (fun (r : Int × (List Int) × Int × (List Int)) => κ (.tup [(.own 1), (.int .i64 r.1)]) [.cells [(.ro true (.ints .u8 r.2.1)), (.int .i64 r.2.2.1)], .row (.ints .i64 r.2.2.2)]) none := by
  have hu : S.l20Spot_F [.ptr 0 0, .int .i64 n_] [.cells [.ro true (.ints .u8 rb), .int .i64 rp]] κ = S.l20Spot_tree rb rp n_ (fun d => κ (.tup [(.own 1), (.int .i64 d.1)]) [.cells [(.ro true (.ints .u8 d.2.1)), (.int .i64 d.2.2.1)], .row (.ints .i64 d.2.2.2)]) none := by
    kernel_rfl
  rw [hu]
  exact (S.l20Spot_tree_nat (fun o => optC o (fun (r : Int × (List Int) × Int × (List Int)) => κ (.tup [(.own 1), (.int .i64 r.1)]) [.cells [(.ro true (.ints .u8 r.2.1)), (.int .i64 r.2.2.1)], .row (.ints .i64 r.2.2.2)]) none) rb rp n_ (fun d => some d) none).symm
noncomputable def S.l20Spot_s : D.Spec where
  keep := false
  pure := false
  ds := [.invalid, .invalid]
  sp := fun args h κ => match args, h with
    | [.ptr 0 0, .int .i64 n_], [.cells [.ro true (.ints .u8 rb), .int .i64 rp]] => optC (S.l20Spot_t rb rp n_) (fun (r : Int × (List Int) × Int × (List Int)) => κ (.tup [(.own 1), (.int .i64 r.1)]) [.cells [(.ro true (.ints .u8 r.2.1)), (.int .i64 r.2.2.1)], .row (.ints .i64 r.2.2.2)]) none
    | _, _ => none
theorem S.l20Spot_ok : SpecOk Try.prog 41 S.l20Spot_s := by
  refine SpecOk.of TDok mixed (T := S.l20Spot_T) ?_ (ann := S.l20Spot_ann) Try.func41 rfl (by decide +kernel) ?_ ?_ ?_
  · intro p hp
    simp only [S.l20Spot_T, List.mem_cons, List.not_mem_nil, or_false] at hp
    rcases hp with rfl | rfl
    · exact S.l20Net_ok
    · exact S.l20Rd_pick_ok
  · intro args h κ r hh
    simp only [S.l20Spot_s] at hh
    split at hh
    · exact (S.l20Spot_den _ _ _ κ).trans hh
    · cases hh
  · intro args h κ r hh
    simp only [S.l20Spot_s] at hh ⊢
    split at hh
    · exact optC_law2 (F := fun (r : Int × (List Int) × Int × (List Int)) κ => κ (.tup [(.own 1), (.int .i64 r.1)]) [.cells [(.ro true (.ints .u8 r.2.1)), (.int .i64 r.2.2.1)], .row (.ints .i64 r.2.2.2)]) (fun b κ r hb => ⟨_, _, hb, fun _ => rfl⟩) hh
    · cases hh
  · intro hh; cases hh

-- loop.example/guardsonnets/spec.DrawBallOf
noncomputable def S.DrawBallOf_T : List (Nat × D.Spec) := [(42, S.l20Open_s), (41, S.l20Spot_s)]
def S.DrawBallOf_ann : Nat → List Nat × List Nat
  | _ => ([], [])
noncomputable def S.DrawBallOf_F (args : List V) (h : List E) (κ : V → List E → R) : R := funC TD (tableK S.DrawBallOf_T) S.DrawBallOf_ann (drawOk (tableP S.DrawBallOf_T)) FUEL Try.f11 args h κ
noncomputable def S.DrawBallOf_tree {α : Type} (code : List Int) (leaf0_ : Int × (List Int) → α) (fail_ : α) : α :=
  (optC (S.l20Open_t code) (fun c_1 => (optC (S.l20Spot_t c_1.fst c_1.snd 12) (fun c_2 => (leaf0_ (c_2.fst, c_2.snd.snd.snd))) fail_)) fail_)
theorem S.DrawBallOf_tree_nat {α γ : Type} (g : α → γ) (code : List Int) (leaf0_ : Int × (List Int) → α) (fail_ : α) : g (S.DrawBallOf_tree code leaf0_ fail_) = S.DrawBallOf_tree code (fun d => g (leaf0_ d)) (g fail_) := by
  unfold S.DrawBallOf_tree; simp only [apply_cnd g, apply_optC g, apply_sumC g]
noncomputable def S.DrawBallOf_t (code : List Int) : Option (Int × (List Int)) := S.DrawBallOf_tree code (fun d => some d) none
theorem S.DrawBallOf_den (code : List Int) (κ : V → List E → R) : S.DrawBallOf_F [.ro true (.ints .u8 code)] [] κ = optC (S.DrawBallOf_t code) (fun (r : Int × (List Int)) => κ (.tup [(.own 0), (.int .i64 r.1)]) [.row (.ints .i64 r.2)]) none := by
  have hu : S.DrawBallOf_F [.ro true (.ints .u8 code)] [] κ = S.DrawBallOf_tree code (fun d => κ (.tup [(.own 0), (.int .i64 d.1)]) [.row (.ints .i64 d.2)]) none := by
    kernel_rfl
  rw [hu]
  exact (S.DrawBallOf_tree_nat (fun o => optC o (fun (r : Int × (List Int)) => κ (.tup [(.own 0), (.int .i64 r.1)]) [.row (.ints .i64 r.2)]) none) code (fun d => some d) none).symm
noncomputable def S.DrawBallOf_s : D.Spec where
  keep := true
  pure := false
  ds := [.int .u8]
  sp := fun args h κ => match args, h with
    | [.ro true (.ints .u8 code)], [] => optC (S.DrawBallOf_t code) (fun (r : Int × (List Int)) => κ (.tup [(.own 0), (.int .i64 r.1)]) [.row (.ints .i64 r.2)]) none
    | _, _ => none
theorem S.DrawBallOf_ok : SpecOk Try.prog 11 S.DrawBallOf_s := by
  refine SpecOk.of TDok mixed (T := S.DrawBallOf_T) ?_ (ann := S.DrawBallOf_ann) Try.func11 rfl (by decide +kernel) ?_ ?_ ?_
  · intro p hp
    simp only [S.DrawBallOf_T, List.mem_cons, List.not_mem_nil, or_false] at hp
    rcases hp with rfl | rfl
    · exact S.l20Open_ok
    · exact S.l20Spot_ok
  · intro args h κ r hh
    simp only [S.DrawBallOf_s] at hh
    split at hh
    · exact (S.DrawBallOf_den _ κ).trans hh
    · cases hh
  · intro args h κ r hh
    simp only [S.DrawBallOf_s] at hh ⊢
    split at hh
    · exact optC_law2 (F := fun (r : Int × (List Int)) κ => κ (.tup [(.own 0), (.int .i64 r.1)]) [.row (.ints .i64 r.2)]) (fun b κ r hb => ⟨_, _, hb, fun _ => rfl⟩) hh
    · cases hh
  · intro hh; cases hh

-- loop.example/guardsonnets/impl.setIn
noncomputable def I.setIn_T : List (Nat × D.Spec) := []
def I.setIn_ann : Nat → List Nat × List Nat
  | _ => ([], [])
noncomputable def I.setIn_F (args : List V) (h : List E) (κ : V → List E → R) : R := funC TD (tableK I.setIn_T) I.setIn_ann (drawOk (tableP I.setIn_T)) FUEL Try.f48 args h κ
noncomputable def I.setIn_tree {α : Type} (net : List Int) (set_ : Int) (leaf0_ : Bool → α) (fail_ : α) : α :=
  (bif decide (set_ ≥ 0) then (leaf0_ (decide (set_ < IntKind.i64.wrap (1 * 2 ^ min (↑net.length : Int).toNat IntKind.i64.bits)))) else (leaf0_ false))
theorem I.setIn_tree_nat {α γ : Type} (g : α → γ) (net : List Int) (set_ : Int) (leaf0_ : Bool → α) (fail_ : α) : g (I.setIn_tree net set_ leaf0_ fail_) = I.setIn_tree net set_ (fun d => g (leaf0_ d)) (g fail_) := by
  unfold I.setIn_tree; simp only [apply_cnd g, apply_optC g, apply_sumC g]
noncomputable def I.setIn_t (net : List Int) (set_ : Int) : Option (Bool) := I.setIn_tree net set_ (fun d => some d) none
theorem I.setIn_den (net : List Int) (set_ : Int) (κ : V → List E → R) : I.setIn_F [.ro false (.ints .i64 net), .int .i64 set_] [] κ = optC (I.setIn_t net set_) (fun (r : Bool) => κ (.bool r) []) none := by
  have hu : I.setIn_F [.ro false (.ints .i64 net), .int .i64 set_] [] κ = I.setIn_tree net set_ (fun d => κ (.bool d) []) none := by
    kernel_rfl
  rw [hu]
  exact (I.setIn_tree_nat (fun o => optC o (fun (r : Bool) => κ (.bool r) []) none) net set_ (fun d => some d) none).symm
noncomputable def I.setIn_s : D.Spec where
  keep := false
  pure := true
  ds := [.int .i64, .invalid]
  sp := fun args h κ => match args, h with
    | [.ro false (.ints .i64 net), .int .i64 set_], [] => optC (I.setIn_t net set_) (fun (r : Bool) => κ (.bool r) []) none
    | _, _ => none
theorem I.setIn_ok : SpecOk Try.prog 48 I.setIn_s := by
  refine SpecOk.of TDok mixed (T := I.setIn_T) ?_ (ann := I.setIn_ann) Try.func48 rfl (by decide +kernel) ?_ ?_ ?_
  · intro p hp; cases hp
  · intro args h κ r hh
    simp only [I.setIn_s] at hh
    split at hh
    · exact (I.setIn_den _ _ κ).trans hh
    · cases hh
  · intro args h κ r hh
    simp only [I.setIn_s] at hh ⊢
    split at hh
    · exact optC_law2 (F := fun (r : Bool) κ => κ (.bool r) []) (fun b κ r hb => ⟨_, _, hb, fun _ => rfl⟩) hh
    · cases hh
  · intro _ args h κ r hh
    simp only [I.setIn_s] at hh
    split at hh
    · exact ⟨rfl, fun _ => rfl⟩
    · cases hh

-- loop.example/guardsonnets/impl.hasPlace
noncomputable def I.hasPlace_T : List (Nat × D.Spec) := []
def I.hasPlace_ann : Nat → List Nat × List Nat
  | _ => ([], [])
noncomputable def I.hasPlace_F (args : List V) (h : List E) (κ : V → List E → R) : R := funC TD (tableK I.hasPlace_T) I.hasPlace_ann (drawOk (tableP I.hasPlace_T)) FUEL Try.f55 args h κ
noncomputable def I.hasPlace_tree {α : Type} (set_ : Int) (place : Int) (leaf0_ : Bool → α) (fail_ : α) : α :=
  (bif decide (place < 0) then fail_ else (leaf0_ (bits BinOp.and IntKind.i64 (set_.fdiv (2 ^ min place.toNat IntKind.i64.bits)) 1 == 1)))
theorem I.hasPlace_tree_nat {α γ : Type} (g : α → γ) (set_ : Int) (place : Int) (leaf0_ : Bool → α) (fail_ : α) : g (I.hasPlace_tree set_ place leaf0_ fail_) = I.hasPlace_tree set_ place (fun d => g (leaf0_ d)) (g fail_) := by
  unfold I.hasPlace_tree; simp only [apply_cnd g, apply_optC g, apply_sumC g]
noncomputable def I.hasPlace_t (set_ : Int) (place : Int) : Option (Bool) := I.hasPlace_tree set_ place (fun d => some d) none
theorem I.hasPlace_den (set_ : Int) (place : Int) (κ : V → List E → R) : I.hasPlace_F [.int .i64 set_, .int .i64 place] [] κ = optC (I.hasPlace_t set_ place) (fun (r : Bool) => κ (.bool r) []) none := by
  have hu : I.hasPlace_F [.int .i64 set_, .int .i64 place] [] κ = I.hasPlace_tree set_ place (fun d => κ (.bool d) []) none := by
    kernel_rfl
  rw [hu]
  exact (I.hasPlace_tree_nat (fun o => optC o (fun (r : Bool) => κ (.bool r) []) none) set_ place (fun d => some d) none).symm
noncomputable def I.hasPlace_s : D.Spec where
  keep := false
  pure := true
  ds := [.invalid, .invalid]
  sp := fun args h κ => match args, h with
    | [.int .i64 set_, .int .i64 place], [] => optC (I.hasPlace_t set_ place) (fun (r : Bool) => κ (.bool r) []) none
    | _, _ => none
theorem I.hasPlace_ok : SpecOk Try.prog 55 I.hasPlace_s := by
  refine SpecOk.of TDok mixed (T := I.hasPlace_T) ?_ (ann := I.hasPlace_ann) Try.func55 rfl (by decide +kernel) ?_ ?_ ?_
  · intro p hp; cases hp
  · intro args h κ r hh
    simp only [I.hasPlace_s] at hh
    split at hh
    · exact (I.hasPlace_den _ _ κ).trans hh
    · cases hh
  · intro args h κ r hh
    simp only [I.hasPlace_s] at hh ⊢
    split at hh
    · exact optC_law2 (F := fun (r : Bool) κ => κ (.bool r) []) (fun b κ r hb => ⟨_, _, hb, fun _ => rfl⟩) hh
    · cases hh
  · intro _ args h κ r hh
    simp only [I.hasPlace_s] at hh
    split at hh
    · exact ⟨rfl, fun _ => rfl⟩
    · cases hh

-- loop.example/guardsonnets/impl.knownBack
noncomputable def I.knownBack_T : List (Nat × D.Spec) := [(55, I.hasPlace_s)]
def I.knownBack_ann : Nat → List Nat × List Nat
  | 2 => ([0, 1, 5], [4])
  | _ => ([], [])
noncomputable def I.knownBack_F (args : List V) (h : List E) (κ : V → List E → R) : R := funC TD (tableK I.knownBack_T) I.knownBack_ann (drawOk (tableP I.knownBack_T)) FUEL Try.f56 args h κ
noncomputable def I.knownBack_L2 (n : Nat) (σ : St) (k : X → St → R) : R := iterC 0 (fun σ k => denC TD (tableK I.knownBack_T) I.knownBack_ann (drawOk (tableP I.knownBack_T)) 0 FUEL ((findLoop 2 (Try.f56.body.getD .skip)).getD .skip) σ k) [0, 1, 5] [4] n σ k
noncomputable def I.knownBack_k2 (κ : V → List E → R) : X → St → R := (afterC TD (tableK I.knownBack_T) I.knownBack_ann (drawOk (tableP I.knownBack_T)) 0 FUEL 2 (Try.f56.body.getD .skip) (finC 0 Try.f56 κ)).getD (fun _ _ => none)
noncomputable def I.knownBack_step2 {α : Type} (x0 : List Int) (x1 : Int) (x5 : Int) (next_ : Int → α) (out0_ : Bool → α) (out1_ : Unit → α) (fail_ : α) : α :=
  (bif decide (x5 < (↑x0.length : Int)) then (bif decide (0 ≤ x1) && decide (x1 < (↑x0.length : Int)) then (optC (I.hasPlace_t (eli x0 x1.toNat) x5) (fun c_1 => (bif c_1 then (bif decide (0 ≤ x5) && decide (x5 < (↑x0.length : Int)) then (optC (I.hasPlace_t (eli x0 x5.toNat) x1) (fun c_2 => (bif !c_2 then (out0_ false) else (next_ (IntKind.i64.wrap (x5 + 1))))) fail_) else fail_) else (next_ (IntKind.i64.wrap (x5 + 1))))) fail_) else fail_) else (out1_ ()))
theorem I.knownBack_step2_nat {α γ : Type} (g : α → γ) (x0 : List Int) (x1 : Int) (x5 : Int) (next_ : Int → α) (out0_ : Bool → α) (out1_ : Unit → α) (fail_ : α) : g (I.knownBack_step2 x0 x1 x5 next_ out0_ out1_ fail_) = I.knownBack_step2 x0 x1 x5 (fun s => g (next_ s)) (fun d => g (out0_ d)) (fun d => g (out1_ d)) (g fail_) := by
  unfold I.knownBack_step2; simp only [apply_cnd g, apply_optC g, apply_sumC g]
noncomputable def I.knownBack_run2 (x0 : List Int) (x1 : Int) : Nat → Int → Option ((Bool) ⊕ (Unit))
  | 0, _ => none
  | n + 1, s_ => I.knownBack_step2 x0 x1 s_ (I.knownBack_run2 x0 x1 n) (fun d => some ((Sum.inl d))) (fun d => some ((Sum.inr d))) none
theorem I.knownBack_L2_run (x0 : List Int) (x1 : Int) (n : Nat) (s_ : Int) (k : X → St → R) : I.knownBack_L2 n { n := 27, t := [(0, (.ro false (.ints .i64 x0))), (1, (.int .i64 x1)), (5, (.int .i64 s_))], h := [] } k = optC (I.knownBack_run2 x0 x1 n s_) (fun (r : (Bool) ⊕ (Unit)) => (sumC r (fun (r : Bool) => k (.ret) { n := 27, t := [(4, (.bool r))], h := [] }) (fun (r : Unit) => k (.exit 0) { n := 27, t := [(4, .junk)], h := [] }))) none := by
  induction n generalizing s_ with
  | zero => rfl
  | succ n ih =>
    have hu : I.knownBack_L2 (n + 1) { n := 27, t := [(0, (.ro false (.ints .i64 x0))), (1, (.int .i64 x1)), (5, (.int .i64 s_))], h := [] } k = I.knownBack_step2 x0 x1 s_ (fun s_ => I.knownBack_L2 n { n := 27, t := [(0, (.ro false (.ints .i64 x0))), (1, (.int .i64 x1)), (5, (.int .i64 s_))], h := [] } k) (fun d => k (.ret) { n := 27, t := [(4, (.bool d))], h := [] }) (fun d => k (.exit 0) { n := 27, t := [(4, .junk)], h := [] }) none := by
      kernel_rfl
    have hs : (fun s_ : Int => I.knownBack_L2 n { n := 27, t := [(0, (.ro false (.ints .i64 x0))), (1, (.int .i64 x1)), (5, (.int .i64 s_))], h := [] } k) = fun s_ => optC (I.knownBack_run2 x0 x1 n s_) (fun (r : (Bool) ⊕ (Unit)) => (sumC r (fun (r : Bool) => k (.ret) { n := 27, t := [(4, (.bool r))], h := [] }) (fun (r : Unit) => k (.exit 0) { n := 27, t := [(4, .junk)], h := [] }))) none := funext ih
    rw [hu, hs]
    exact (I.knownBack_step2_nat (fun o => optC o (fun (r : (Bool) ⊕ (Unit)) => (sumC r (fun (r : Bool) => k (.ret) { n := 27, t := [(4, (.bool r))], h := [] }) (fun (r : Unit) => k (.exit 0) { n := 27, t := [(4, .junk)], h := [] }))) none) x0 x1 s_ (I.knownBack_run2 x0 x1 n) (fun d => some ((Sum.inl d))) (fun d => some ((Sum.inr d))) none).symm
noncomputable def I.knownBack_tree {α : Type} (net : List Int) (place : Int) (leaf0_ : Bool → α) (fail_ : α) : α :=
  (optC (I.knownBack_run2 net place FUEL 0) (fun qy_3 => (sumC qy_3 (fun (qy_3 : Bool) => (leaf0_ qy_3)) (fun (qy_3 : Unit) => (leaf0_ true)))) fail_)
theorem I.knownBack_tree_nat {α γ : Type} (g : α → γ) (net : List Int) (place : Int) (leaf0_ : Bool → α) (fail_ : α) : g (I.knownBack_tree net place leaf0_ fail_) = I.knownBack_tree net place (fun d => g (leaf0_ d)) (g fail_) := by
  unfold I.knownBack_tree; simp only [apply_cnd g, apply_optC g, apply_sumC g]
noncomputable def I.knownBack_t (net : List Int) (place : Int) : Option (Bool) := I.knownBack_tree net place (fun d => some d) none
theorem I.knownBack_den (net : List Int) (place : Int) (κ : V → List E → R) : I.knownBack_F [.ro false (.ints .i64 net), .int .i64 place] [] κ = optC (I.knownBack_t net place) (fun (r : Bool) => κ (.bool r) []) none := by
  have hu : I.knownBack_F [.ro false (.ints .i64 net), .int .i64 place] [] κ = I.knownBack_tree net place (fun d => κ (.bool d) []) none := by
    refine Eq.trans (show I.knownBack_F [.ro false (.ints .i64 net), .int .i64 place] [] κ = (I.knownBack_L2 FUEL { n := 27, t := [(0, (.ro false (.ints .i64 net))), (1, (.int .i64 place)), (5, (.int .i64 0))], h := [] } (I.knownBack_k2 κ)) by kernel_rfl) ?_
    refine (I.knownBack_L2_run net place FUEL 0 (I.knownBack_k2 κ)).trans (optC_congr (fun qy_3 => ?_))
    rcases qy_3 with qy_3 | qy_3
    · kernel_rfl
    · kernel_rfl
  rw [hu]
  exact (I.knownBack_tree_nat (fun o => optC o (fun (r : Bool) => κ (.bool r) []) none) net place (fun d => some d) none).symm
noncomputable def I.knownBack_s : D.Spec where
  keep := false
  pure := true
  ds := [.int .i64, .invalid]
  sp := fun args h κ => match args, h with
    | [.ro false (.ints .i64 net), .int .i64 place], [] => optC (I.knownBack_t net place) (fun (r : Bool) => κ (.bool r) []) none
    | _, _ => none
theorem I.knownBack_ok : SpecOk Try.prog 56 I.knownBack_s := by
  refine SpecOk.of TDok mixed (T := I.knownBack_T) ?_ (ann := I.knownBack_ann) Try.func56 rfl (by decide +kernel) ?_ ?_ ?_
  · intro p hp
    simp only [I.knownBack_T, List.mem_cons, List.not_mem_nil, or_false] at hp
    rcases hp with rfl
    · exact I.hasPlace_ok
  · intro args h κ r hh
    simp only [I.knownBack_s] at hh
    split at hh
    · exact (I.knownBack_den _ _ κ).trans hh
    · cases hh
  · intro args h κ r hh
    simp only [I.knownBack_s] at hh ⊢
    split at hh
    · exact optC_law2 (F := fun (r : Bool) κ => κ (.bool r) []) (fun b κ r hb => ⟨_, _, hb, fun _ => rfl⟩) hh
    · cases hh
  · intro _ args h κ r hh
    simp only [I.knownBack_s] at hh
    split at hh
    · exact ⟨rfl, fun _ => rfl⟩
    · cases hh

-- loop.example/guardsonnets/impl.NetOk
noncomputable def I.NetOk_T : List (Nat × D.Spec) := [(48, I.setIn_s), (55, I.hasPlace_s), (56, I.knownBack_s)]
def I.NetOk_ann : Nat → List Nat × List Nat
  | 4 => ([0, 3], [2])
  | _ => ([], [])
noncomputable def I.NetOk_F (args : List V) (h : List E) (κ : V → List E → R) : R := funC TD (tableK I.NetOk_T) I.NetOk_ann (drawOk (tableP I.NetOk_T)) FUEL Try.f21 args h κ
noncomputable def I.NetOk_L4 (n : Nat) (σ : St) (k : X → St → R) : R := iterC 0 (fun σ k => denC TD (tableK I.NetOk_T) I.NetOk_ann (drawOk (tableP I.NetOk_T)) 0 FUEL ((findLoop 4 (Try.f21.body.getD .skip)).getD .skip) σ k) [0, 3] [2] n σ k
noncomputable def I.NetOk_k4 (κ : V → List E → R) : X → St → R := (afterC TD (tableK I.NetOk_T) I.NetOk_ann (drawOk (tableP I.NetOk_T)) 0 FUEL 4 (Try.f21.body.getD .skip) (finC 0 Try.f21 κ)).getD (fun _ _ => none)
noncomputable def I.NetOk_step4 {α : Type} (x0 : List Int) (x3 : Int) (next_ : Int → α) (out0_ : Bool → α) (out1_ : Unit → α) (fail_ : α) : α :=
  (bif decide (x3 < (↑x0.length : Int)) then (bif decide (0 ≤ x3) && decide (x3 < (↑x0.length : Int)) then (optC (I.setIn_t x0 (eli x0 x3.toNat)) (fun c_1 => (bif !c_1 then (out0_ false) else (bif decide (0 ≤ x3) && decide (x3 < (↑x0.length : Int)) then (optC (I.hasPlace_t (eli x0 x3.toNat) x3) (fun c_2 => (bif c_2 then (out0_ false) else (optC (I.knownBack_t x0 x3) (fun c_3 => (bif !c_3 then (out0_ false) else (next_ (IntKind.i64.wrap (x3 + 1))))) fail_))) fail_) else fail_))) fail_) else fail_) else (out1_ ()))
theorem I.NetOk_step4_nat {α γ : Type} (g : α → γ) (x0 : List Int) (x3 : Int) (next_ : Int → α) (out0_ : Bool → α) (out1_ : Unit → α) (fail_ : α) : g (I.NetOk_step4 x0 x3 next_ out0_ out1_ fail_) = I.NetOk_step4 x0 x3 (fun s => g (next_ s)) (fun d => g (out0_ d)) (fun d => g (out1_ d)) (g fail_) := by
  unfold I.NetOk_step4; simp only [apply_cnd g, apply_optC g, apply_sumC g]
noncomputable def I.NetOk_run4 (x0 : List Int) : Nat → Int → Option ((Bool) ⊕ (Unit))
  | 0, _ => none
  | n + 1, s_ => I.NetOk_step4 x0 s_ (I.NetOk_run4 x0 n) (fun d => some ((Sum.inl d))) (fun d => some ((Sum.inr d))) none
theorem I.NetOk_L4_run (x0 : List Int) (n : Nat) (s_ : Int) (k : X → St → R) : I.NetOk_L4 n { n := 39, t := [(0, (.ro false (.ints .i64 x0))), (3, (.int .i64 s_))], h := [] } k = optC (I.NetOk_run4 x0 n s_) (fun (r : (Bool) ⊕ (Unit)) => (sumC r (fun (r : Bool) => k (.ret) { n := 39, t := [(2, (.bool r))], h := [] }) (fun (r : Unit) => k (.exit 0) { n := 39, t := [(2, .junk)], h := [] }))) none := by
  induction n generalizing s_ with
  | zero => rfl
  | succ n ih =>
    have hu : I.NetOk_L4 (n + 1) { n := 39, t := [(0, (.ro false (.ints .i64 x0))), (3, (.int .i64 s_))], h := [] } k = I.NetOk_step4 x0 s_ (fun s_ => I.NetOk_L4 n { n := 39, t := [(0, (.ro false (.ints .i64 x0))), (3, (.int .i64 s_))], h := [] } k) (fun d => k (.ret) { n := 39, t := [(2, (.bool d))], h := [] }) (fun d => k (.exit 0) { n := 39, t := [(2, .junk)], h := [] }) none := by
      kernel_rfl
    have hs : (fun s_ : Int => I.NetOk_L4 n { n := 39, t := [(0, (.ro false (.ints .i64 x0))), (3, (.int .i64 s_))], h := [] } k) = fun s_ => optC (I.NetOk_run4 x0 n s_) (fun (r : (Bool) ⊕ (Unit)) => (sumC r (fun (r : Bool) => k (.ret) { n := 39, t := [(2, (.bool r))], h := [] }) (fun (r : Unit) => k (.exit 0) { n := 39, t := [(2, .junk)], h := [] }))) none := funext ih
    rw [hu, hs]
    exact (I.NetOk_step4_nat (fun o => optC o (fun (r : (Bool) ⊕ (Unit)) => (sumC r (fun (r : Bool) => k (.ret) { n := 39, t := [(2, (.bool r))], h := [] }) (fun (r : Unit) => k (.exit 0) { n := 39, t := [(2, .junk)], h := [] }))) none) x0 s_ (I.NetOk_run4 x0 n) (fun d => some ((Sum.inl d))) (fun d => some ((Sum.inr d))) none).symm
noncomputable def I.NetOk_tree {α : Type} (net : List Int) (leaf0_ : Bool → α) (fail_ : α) : α :=
  (bif decide ((↑net.length : Int) < 1) then (leaf0_ false) else (bif decide ((↑net.length : Int) > 6) then (leaf0_ false) else (optC (I.NetOk_run4 net FUEL 0) (fun qy_4 => (sumC qy_4 (fun (qy_4 : Bool) => (leaf0_ qy_4)) (fun (qy_4 : Unit) => (leaf0_ true)))) fail_)))
theorem I.NetOk_tree_nat {α γ : Type} (g : α → γ) (net : List Int) (leaf0_ : Bool → α) (fail_ : α) : g (I.NetOk_tree net leaf0_ fail_) = I.NetOk_tree net (fun d => g (leaf0_ d)) (g fail_) := by
  unfold I.NetOk_tree; simp only [apply_cnd g, apply_optC g, apply_sumC g]
noncomputable def I.NetOk_t (net : List Int) : Option (Bool) := I.NetOk_tree net (fun d => some d) none
theorem I.NetOk_den (net : List Int) (κ : V → List E → R) : I.NetOk_F [.ro false (.ints .i64 net)] [] κ = optC (I.NetOk_t net) (fun (r : Bool) => κ (.bool r) []) none := by
  have hu : I.NetOk_F [.ro false (.ints .i64 net)] [] κ = I.NetOk_tree net (fun d => κ (.bool d) []) none := by
    refine Eq.trans (show I.NetOk_F [.ro false (.ints .i64 net)] [] κ = (bif decide ((↑net.length : Int) < 1) then (κ (.bool false) []) else (bif decide ((↑net.length : Int) > 6) then (κ (.bool false) []) else (I.NetOk_L4 FUEL { n := 39, t := [(0, (.ro false (.ints .i64 net))), (3, (.int .i64 0))], h := [] } (I.NetOk_k4 κ)))) by kernel_rfl) ?_
    refine cnd_congr ?_ ?_
    · kernel_rfl
    · refine cnd_congr ?_ ?_
      · kernel_rfl
      · refine (I.NetOk_L4_run net FUEL 0 (I.NetOk_k4 κ)).trans (optC_congr (fun qy_4 => ?_))
        rcases qy_4 with qy_4 | qy_4
        · kernel_rfl
        · kernel_rfl
  rw [hu]
  exact (I.NetOk_tree_nat (fun o => optC o (fun (r : Bool) => κ (.bool r) []) none) net (fun d => some d) none).symm
noncomputable def I.NetOk_s : D.Spec where
  keep := false
  pure := true
  ds := [.int .i64]
  sp := fun args h κ => match args, h with
    | [.ro false (.ints .i64 net)], [] => optC (I.NetOk_t net) (fun (r : Bool) => κ (.bool r) []) none
    | _, _ => none
theorem I.NetOk_ok : SpecOk Try.prog 21 I.NetOk_s := by
  refine SpecOk.of TDok mixed (T := I.NetOk_T) ?_ (ann := I.NetOk_ann) Try.func21 rfl (by decide +kernel) ?_ ?_ ?_
  · intro p hp
    simp only [I.NetOk_T, List.mem_cons, List.not_mem_nil, or_false] at hp
    rcases hp with rfl | rfl | rfl
    · exact I.setIn_ok
    · exact I.hasPlace_ok
    · exact I.knownBack_ok
  · intro args h κ r hh
    simp only [I.NetOk_s] at hh
    split at hh
    · exact (I.NetOk_den _ κ).trans hh
    · cases hh
  · intro args h κ r hh
    simp only [I.NetOk_s] at hh ⊢
    split at hh
    · exact optC_law2 (F := fun (r : Bool) κ => κ (.bool r) []) (fun b κ r hb => ⟨_, _, hb, fun _ => rfl⟩) hh
    · cases hh
  · intro _ args h κ r hh
    simp only [I.NetOk_s] at hh
    split at hh
    · exact ⟨rfl, fun _ => rfl⟩
    · cases hh

-- loop.example/guardsonnets/impl.placeIn
noncomputable def I.placeIn_T : List (Nat × D.Spec) := []
def I.placeIn_ann : Nat → List Nat × List Nat
  | _ => ([], [])
noncomputable def I.placeIn_F (args : List V) (h : List E) (κ : V → List E → R) : R := funC TD (tableK I.placeIn_T) I.placeIn_ann (drawOk (tableP I.placeIn_T)) FUEL Try.f43 args h κ
noncomputable def I.placeIn_tree {α : Type} (net : List Int) (place : Int) (leaf0_ : Bool → α) (fail_ : α) : α :=
  (bif decide (place ≥ 0) then (leaf0_ (decide (place < (↑net.length : Int)))) else (leaf0_ false))
theorem I.placeIn_tree_nat {α γ : Type} (g : α → γ) (net : List Int) (place : Int) (leaf0_ : Bool → α) (fail_ : α) : g (I.placeIn_tree net place leaf0_ fail_) = I.placeIn_tree net place (fun d => g (leaf0_ d)) (g fail_) := by
  unfold I.placeIn_tree; simp only [apply_cnd g, apply_optC g, apply_sumC g]
noncomputable def I.placeIn_t (net : List Int) (place : Int) : Option (Bool) := I.placeIn_tree net place (fun d => some d) none
theorem I.placeIn_den (net : List Int) (place : Int) (κ : V → List E → R) : I.placeIn_F [.ro false (.ints .i64 net), .int .i64 place] [] κ = optC (I.placeIn_t net place) (fun (r : Bool) => κ (.bool r) []) none := by
  have hu : I.placeIn_F [.ro false (.ints .i64 net), .int .i64 place] [] κ = I.placeIn_tree net place (fun d => κ (.bool d) []) none := by
    kernel_rfl
  rw [hu]
  exact (I.placeIn_tree_nat (fun o => optC o (fun (r : Bool) => κ (.bool r) []) none) net place (fun d => some d) none).symm
noncomputable def I.placeIn_s : D.Spec where
  keep := false
  pure := true
  ds := [.int .i64, .invalid]
  sp := fun args h κ => match args, h with
    | [.ro false (.ints .i64 net), .int .i64 place], [] => optC (I.placeIn_t net place) (fun (r : Bool) => κ (.bool r) []) none
    | _, _ => none
theorem I.placeIn_ok : SpecOk Try.prog 43 I.placeIn_s := by
  refine SpecOk.of TDok mixed (T := I.placeIn_T) ?_ (ann := I.placeIn_ann) Try.func43 rfl (by decide +kernel) ?_ ?_ ?_
  · intro p hp; cases hp
  · intro args h κ r hh
    simp only [I.placeIn_s] at hh
    split at hh
    · exact (I.placeIn_den _ _ κ).trans hh
    · cases hh
  · intro args h κ r hh
    simp only [I.placeIn_s] at hh ⊢
    split at hh
    · exact optC_law2 (F := fun (r : Bool) κ => κ (.bool r) []) (fun b κ r hb => ⟨_, _, hb, fun _ => rfl⟩) hh
    · cases hh
  · intro _ args h κ r hh
    simp only [I.placeIn_s] at hh
    split at hh
    · exact ⟨rfl, fun _ => rfl⟩
    · cases hh

-- loop.example/guardsonnets/impl.ballIn
noncomputable def I.ballIn_T : List (Nat × D.Spec) := []
def I.ballIn_ann : Nat → List Nat × List Nat
  | _ => ([], [])
noncomputable def I.ballIn_F (args : List V) (h : List E) (κ : V → List E → R) : R := funC TD (tableK I.ballIn_T) I.ballIn_ann (drawOk (tableP I.ballIn_T)) FUEL Try.f44 args h κ
noncomputable def I.ballIn_tree {α : Type} (net : List Int) (place : Int) (leaf0_ : Int → α) (fail_ : α) : α :=
  (bif decide (0 ≤ place) && decide (place < (↑net.length : Int)) then (bif decide (place < 0) then fail_ else (leaf0_ (bits BinOp.or IntKind.i64 (eli net place.toNat) (IntKind.i64.wrap (1 * 2 ^ min place.toNat IntKind.i64.bits))))) else fail_)
theorem I.ballIn_tree_nat {α γ : Type} (g : α → γ) (net : List Int) (place : Int) (leaf0_ : Int → α) (fail_ : α) : g (I.ballIn_tree net place leaf0_ fail_) = I.ballIn_tree net place (fun d => g (leaf0_ d)) (g fail_) := by
  unfold I.ballIn_tree; simp only [apply_cnd g, apply_optC g, apply_sumC g]
noncomputable def I.ballIn_t (net : List Int) (place : Int) : Option (Int) := I.ballIn_tree net place (fun d => some d) none
theorem I.ballIn_den (net : List Int) (place : Int) (κ : V → List E → R) : I.ballIn_F [.ro false (.ints .i64 net), .int .i64 place] [] κ = optC (I.ballIn_t net place) (fun (r : Int) => κ (.int .i64 r) []) none := by
  have hu : I.ballIn_F [.ro false (.ints .i64 net), .int .i64 place] [] κ = I.ballIn_tree net place (fun d => κ (.int .i64 d) []) none := by
    kernel_rfl
  rw [hu]
  exact (I.ballIn_tree_nat (fun o => optC o (fun (r : Int) => κ (.int .i64 r) []) none) net place (fun d => some d) none).symm
noncomputable def I.ballIn_s : D.Spec where
  keep := false
  pure := true
  ds := [.int .i64, .invalid]
  sp := fun args h κ => match args, h with
    | [.ro false (.ints .i64 net), .int .i64 place], [] => optC (I.ballIn_t net place) (fun (r : Int) => κ (.int .i64 r) []) none
    | _, _ => none
theorem I.ballIn_ok : SpecOk Try.prog 44 I.ballIn_s := by
  refine SpecOk.of TDok mixed (T := I.ballIn_T) ?_ (ann := I.ballIn_ann) Try.func44 rfl (by decide +kernel) ?_ ?_ ?_
  · intro p hp; cases hp
  · intro args h κ r hh
    simp only [I.ballIn_s] at hh
    split at hh
    · exact (I.ballIn_den _ _ κ).trans hh
    · cases hh
  · intro args h κ r hh
    simp only [I.ballIn_s] at hh ⊢
    split at hh
    · exact optC_law2 (F := fun (r : Int) κ => κ (.int .i64 r) []) (fun b κ r hb => ⟨_, _, hb, fun _ => rfl⟩) hh
    · cases hh
  · intro _ args h κ r hh
    simp only [I.ballIn_s] at hh
    split at hh
    · exact ⟨rfl, fun _ => rfl⟩
    · cases hh

-- loop.example/guardsonnets/impl.BallOf
noncomputable def I.BallOf_T : List (Nat × D.Spec) := [(21, I.NetOk_s), (43, I.placeIn_s), (44, I.ballIn_s)]
def I.BallOf_ann : Nat → List Nat × List Nat
  | _ => ([], [])
noncomputable def I.BallOf_F (args : List V) (h : List E) (κ : V → List E → R) : R := funC TD (tableK I.BallOf_T) I.BallOf_ann (drawOk (tableP I.BallOf_T)) FUEL Try.f12 args h κ
noncomputable def I.BallOf_tree {α : Type} (net : List Int) (place : Int) (leaf0_ : Int → α) (fail_ : α) : α :=
  (optC (I.NetOk_t net) (fun c_1 => (bif !c_1 then (leaf0_ (-1)) else (optC (I.placeIn_t net place) (fun c_2 => (bif !c_2 then (leaf0_ (-1)) else (optC (I.ballIn_t net place) (fun c_3 => (leaf0_ c_3)) fail_))) fail_))) fail_)
theorem I.BallOf_tree_nat {α γ : Type} (g : α → γ) (net : List Int) (place : Int) (leaf0_ : Int → α) (fail_ : α) : g (I.BallOf_tree net place leaf0_ fail_) = I.BallOf_tree net place (fun d => g (leaf0_ d)) (g fail_) := by
  unfold I.BallOf_tree; simp only [apply_cnd g, apply_optC g, apply_sumC g]
noncomputable def I.BallOf_t (net : List Int) (place : Int) : Option (Int) := I.BallOf_tree net place (fun d => some d) none
theorem I.BallOf_den (net : List Int) (place : Int) (κ : V → List E → R) : I.BallOf_F [.ro false (.ints .i64 net), .int .i64 place] [] κ = optC (I.BallOf_t net place) (fun (r : Int) => κ (.int .i64 r) []) none := by
  have hu : I.BallOf_F [.ro false (.ints .i64 net), .int .i64 place] [] κ = I.BallOf_tree net place (fun d => κ (.int .i64 d) []) none := by
    kernel_rfl
  rw [hu]
  exact (I.BallOf_tree_nat (fun o => optC o (fun (r : Int) => κ (.int .i64 r) []) none) net place (fun d => some d) none).symm
noncomputable def I.BallOf_s : D.Spec where
  keep := false
  pure := true
  ds := [.int .i64, .invalid]
  sp := fun args h κ => match args, h with
    | [.ro false (.ints .i64 net), .int .i64 place], [] => optC (I.BallOf_t net place) (fun (r : Int) => κ (.int .i64 r) []) none
    | _, _ => none
theorem I.BallOf_ok : SpecOk Try.prog 12 I.BallOf_s := by
  refine SpecOk.of TDok mixed (T := I.BallOf_T) ?_ (ann := I.BallOf_ann) Try.func12 rfl (by decide +kernel) ?_ ?_ ?_
  · intro p hp
    simp only [I.BallOf_T, List.mem_cons, List.not_mem_nil, or_false] at hp
    rcases hp with rfl | rfl | rfl
    · exact I.NetOk_ok
    · exact I.placeIn_ok
    · exact I.ballIn_ok
  · intro args h κ r hh
    simp only [I.BallOf_s] at hh
    split at hh
    · exact (I.BallOf_den _ _ κ).trans hh
    · cases hh
  · intro args h κ r hh
    simp only [I.BallOf_s] at hh ⊢
    split at hh
    · exact optC_law2 (F := fun (r : Int) κ => κ (.int .i64 r) []) (fun b κ r hb => ⟨_, _, hb, fun _ => rfl⟩) hh
    · cases hh
  · intro _ args h κ r hh
    simp only [I.BallOf_s] at hh
    split at hh
    · exact ⟨rfl, fun _ => rfl⟩
    · cases hh

-- loop.example/guardsonnets/spec.l1In
noncomputable def S.l1In_T : List (Nat × D.Spec) := []
def S.l1In_ann : Nat → List Nat × List Nat
  | _ => ([], [])
noncomputable def S.l1In_F (args : List V) (h : List E) (κ : V → List E → R) : R := funC TD (tableK S.l1In_T) S.l1In_ann (drawOk (tableP S.l1In_T)) FUEL Try.f46 args h κ
noncomputable def S.l1In_tree {α : Type} (n_ : Int) (low : Int) (high : Int) (leaf0_ : Bool → α) (fail_ : α) : α :=
  (bif decide (n_ ≥ low) then (leaf0_ (decide (n_ ≤ high))) else (leaf0_ false))
theorem S.l1In_tree_nat {α γ : Type} (g : α → γ) (n_ : Int) (low : Int) (high : Int) (leaf0_ : Bool → α) (fail_ : α) : g (S.l1In_tree n_ low high leaf0_ fail_) = S.l1In_tree n_ low high (fun d => g (leaf0_ d)) (g fail_) := by
  unfold S.l1In_tree; simp only [apply_cnd g, apply_optC g, apply_sumC g]
noncomputable def S.l1In_t (n_ : Int) (low : Int) (high : Int) : Option (Bool) := S.l1In_tree n_ low high (fun d => some d) none
theorem S.l1In_den (n_ : Int) (low : Int) (high : Int) (κ : V → List E → R) : S.l1In_F [.int .i64 n_, .int .i64 low, .int .i64 high] [] κ = optC (S.l1In_t n_ low high) (fun (r : Bool) => κ (.bool r) []) none := by
  have hu : S.l1In_F [.int .i64 n_, .int .i64 low, .int .i64 high] [] κ = S.l1In_tree n_ low high (fun d => κ (.bool d) []) none := by
    kernel_rfl
  rw [hu]
  exact (S.l1In_tree_nat (fun o => optC o (fun (r : Bool) => κ (.bool r) []) none) n_ low high (fun d => some d) none).symm
noncomputable def S.l1In_s : D.Spec where
  keep := false
  pure := true
  ds := [.invalid, .invalid, .invalid]
  sp := fun args h κ => match args, h with
    | [.int .i64 n_, .int .i64 low, .int .i64 high], [] => optC (S.l1In_t n_ low high) (fun (r : Bool) => κ (.bool r) []) none
    | _, _ => none
theorem S.l1In_ok : SpecOk Try.prog 46 S.l1In_s := by
  refine SpecOk.of TDok mixed (T := S.l1In_T) ?_ (ann := S.l1In_ann) Try.func46 rfl (by decide +kernel) ?_ ?_ ?_
  · intro p hp; cases hp
  · intro args h κ r hh
    simp only [S.l1In_s] at hh
    split at hh
    · exact (S.l1In_den _ _ _ κ).trans hh
    · cases hh
  · intro args h κ r hh
    simp only [S.l1In_s] at hh ⊢
    split at hh
    · exact optC_law2 (F := fun (r : Bool) κ => κ (.bool r) []) (fun b κ r hb => ⟨_, _, hb, fun _ => rfl⟩) hh
    · cases hh
  · intro _ args h κ r hh
    simp only [S.l1In_s] at hh
    split at hh
    · exact ⟨rfl, fun _ => rfl⟩
    · cases hh

-- loop.example/guardsonnets/spec.NetOk
noncomputable def S.NetOk_T : List (Nat × D.Spec) := [(46, S.l1In_s)]
def S.NetOk_ann : Nat → List Nat × List Nat
  | 12 => ([0, 4, 5], [0, 2, 4])
  | 9 => ([0, 4], [2])
  | 4 => ([0, 3], [0, 2])
  | _ => ([], [])
noncomputable def S.NetOk_F (args : List V) (h : List E) (κ : V → List E → R) : R := funC TD (tableK S.NetOk_T) S.NetOk_ann (drawOk (tableP S.NetOk_T)) FUEL Try.f45 args h κ
noncomputable def S.NetOk_L12 (n : Nat) (σ : St) (k : X → St → R) : R := iterC 0 (fun σ k => denC TD (tableK S.NetOk_T) S.NetOk_ann (drawOk (tableP S.NetOk_T)) 0 FUEL ((findLoop 12 (Try.f45.body.getD .skip)).getD .skip) σ k) [0, 4, 5] [0, 2, 4] n σ k
noncomputable def S.NetOk_L9 (n : Nat) (σ : St) (k : X → St → R) : R := iterC 0 (fun σ k => denC TD (tableK S.NetOk_T) S.NetOk_ann (drawOk (tableP S.NetOk_T)) 0 FUEL ((findLoop 9 (Try.f45.body.getD .skip)).getD .skip) σ k) [0, 4] [2] n σ k
noncomputable def S.NetOk_L4 (n : Nat) (σ : St) (k : X → St → R) : R := iterC 0 (fun σ k => denC TD (tableK S.NetOk_T) S.NetOk_ann (drawOk (tableP S.NetOk_T)) 0 FUEL ((findLoop 4 (Try.f45.body.getD .skip)).getD .skip) σ k) [0, 3] [0, 2] n σ k
noncomputable def S.NetOk_k4 (κ : V → List E → R) : X → St → R := (afterC TD (tableK S.NetOk_T) S.NetOk_ann (drawOk (tableP S.NetOk_T)) 0 FUEL 4 (Try.f45.body.getD .skip) (finC 0 Try.f45 κ)).getD (fun _ _ => none)
noncomputable def S.NetOk_k12 (c : (St → R) × (X → St → R)) : X → St → R := (afterC TD (tableK S.NetOk_T) S.NetOk_ann (drawOk (tableP S.NetOk_T)) 0 FUEL 12 ((findLoop 9 (Try.f45.body.getD .skip)).getD .skip) (roundC 0 [0, 4] [2] c.1 c.2)).getD (fun _ _ => none)
noncomputable def S.NetOk_k9 (κ : V → List E → R) : X → St → R := (afterC TD (tableK S.NetOk_T) S.NetOk_ann (drawOk (tableP S.NetOk_T)) 0 FUEL 9 (Try.f45.body.getD .skip) (finC 0 Try.f45 κ)).getD (fun _ _ => none)
noncomputable def S.NetOk_step4 {α : Type} (x0 : List Int) (x3 : Int) (next_ : Int → α) (out0_ : Bool → α) (out1_ : Unit → α) (fail_ : α) : α :=
  (bif decide (x3 < (↑x0.length : Int)) then (bif decide (0 ≤ x3) && decide (x3 < (↑x0.length : Int)) then (optC (S.l1In_t (eli x0 x3.toNat) 0 (IntKind.i64.wrap (IntKind.i64.wrap (1 * 2 ^ min (↑x0.length : Int).toNat IntKind.i64.bits) - 1))) (fun c_2 => (bif !c_2 then (out0_ false) else (next_ (IntKind.i64.wrap (x3 + 1))))) fail_) else fail_) else (out1_ ()))
theorem S.NetOk_step4_nat {α γ : Type} (g : α → γ) (x0 : List Int) (x3 : Int) (next_ : Int → α) (out0_ : Bool → α) (out1_ : Unit → α) (fail_ : α) : g (S.NetOk_step4 x0 x3 next_ out0_ out1_ fail_) = S.NetOk_step4 x0 x3 (fun s => g (next_ s)) (fun d => g (out0_ d)) (fun d => g (out1_ d)) (g fail_) := by
  unfold S.NetOk_step4; simp only [apply_cnd g, apply_optC g, apply_sumC g]
noncomputable def S.NetOk_run4 (x0 : List Int) : Nat → Int → Option ((Bool) ⊕ (Unit))
  | 0, _ => none
  | n + 1, s_ => S.NetOk_step4 x0 s_ (S.NetOk_run4 x0 n) (fun d => some ((Sum.inl d))) (fun d => some ((Sum.inr d))) none
theorem S.NetOk_L4_run (x0 : List Int) (n : Nat) (s_ : Int) (k : X → St → R) : S.NetOk_L4 n { n := 68, t := [(0, (.ro false (.ints .i64 x0))), (3, (.int .i64 s_))], h := [] } k = optC (S.NetOk_run4 x0 n s_) (fun (r : (Bool) ⊕ (Unit)) => (sumC r (fun (r : Bool) => k (.ret) { n := 68, t := [(0, (.ro false (.ints .i64 x0))), (2, (.bool r))], h := [] }) (fun (r : Unit) => k (.exit 0) { n := 68, t := [(0, (.ro false (.ints .i64 x0))), (2, .junk)], h := [] }))) none := by
  induction n generalizing s_ with
  | zero => rfl
  | succ n ih =>
    have hu : S.NetOk_L4 (n + 1) { n := 68, t := [(0, (.ro false (.ints .i64 x0))), (3, (.int .i64 s_))], h := [] } k = S.NetOk_step4 x0 s_ (fun s_ => S.NetOk_L4 n { n := 68, t := [(0, (.ro false (.ints .i64 x0))), (3, (.int .i64 s_))], h := [] } k) (fun d => k (.ret) { n := 68, t := [(0, (.ro false (.ints .i64 x0))), (2, (.bool d))], h := [] }) (fun d => k (.exit 0) { n := 68, t := [(0, (.ro false (.ints .i64 x0))), (2, .junk)], h := [] }) none := by
      kernel_rfl
    have hs : (fun s_ : Int => S.NetOk_L4 n { n := 68, t := [(0, (.ro false (.ints .i64 x0))), (3, (.int .i64 s_))], h := [] } k) = fun s_ => optC (S.NetOk_run4 x0 n s_) (fun (r : (Bool) ⊕ (Unit)) => (sumC r (fun (r : Bool) => k (.ret) { n := 68, t := [(0, (.ro false (.ints .i64 x0))), (2, (.bool r))], h := [] }) (fun (r : Unit) => k (.exit 0) { n := 68, t := [(0, (.ro false (.ints .i64 x0))), (2, .junk)], h := [] }))) none := funext ih
    rw [hu, hs]
    exact (S.NetOk_step4_nat (fun o => optC o (fun (r : (Bool) ⊕ (Unit)) => (sumC r (fun (r : Bool) => k (.ret) { n := 68, t := [(0, (.ro false (.ints .i64 x0))), (2, (.bool r))], h := [] }) (fun (r : Unit) => k (.exit 0) { n := 68, t := [(0, (.ro false (.ints .i64 x0))), (2, .junk)], h := [] }))) none) x0 s_ (S.NetOk_run4 x0 n) (fun d => some ((Sum.inl d))) (fun d => some ((Sum.inr d))) none).symm
noncomputable def S.NetOk_step12 {α : Type} (x0 : List Int) (x4 : Int) (x5 : Int) (next_ : Int → α) (out0_ : Bool → α) (out1_ : Unit → α) (fail_ : α) : α :=
  (bif decide (x5 < (↑x0.length : Int)) then (bif decide (0 ≤ x4) && decide (x4 < (↑x0.length : Int)) then (bif decide (x5 < 0) then fail_ else (bif decide (0 ≤ x5) && decide (x5 < (↑x0.length : Int)) then (bif decide (x4 < 0) then fail_ else (bif !((eli x0 x4.toNat).fdiv (2 ^ min x5.toNat IntKind.i64.bits)).tmod 2 == ((eli x0 x5.toNat).fdiv (2 ^ min x4.toNat IntKind.i64.bits)).tmod 2 then (out0_ false) else (bif x5 == x4 then (bif decide (0 ≤ x4) && decide (x4 < (↑x0.length : Int)) then (bif decide (x5 < 0) then fail_ else (bif ((eli x0 x4.toNat).fdiv (2 ^ min x5.toNat IntKind.i64.bits)).tmod 2 == 1 then (out0_ false) else (next_ (IntKind.i64.wrap (x5 + 1))))) else fail_) else (next_ (IntKind.i64.wrap (x5 + 1)))))) else fail_)) else fail_) else (out1_ ()))
theorem S.NetOk_step12_nat {α γ : Type} (g : α → γ) (x0 : List Int) (x4 : Int) (x5 : Int) (next_ : Int → α) (out0_ : Bool → α) (out1_ : Unit → α) (fail_ : α) : g (S.NetOk_step12 x0 x4 x5 next_ out0_ out1_ fail_) = S.NetOk_step12 x0 x4 x5 (fun s => g (next_ s)) (fun d => g (out0_ d)) (fun d => g (out1_ d)) (g fail_) := by
  unfold S.NetOk_step12; simp only [apply_cnd g, apply_optC g, apply_sumC g]
noncomputable def S.NetOk_run12 (x0 : List Int) (x4 : Int) : Nat → Int → Option ((Bool) ⊕ (Unit))
  | 0, _ => none
  | n + 1, s_ => S.NetOk_step12 x0 x4 s_ (S.NetOk_run12 x0 x4 n) (fun d => some ((Sum.inl d))) (fun d => some ((Sum.inr d))) none
theorem S.NetOk_L12_run (x0 : List Int) (x4 : Int) (n : Nat) (s_ : Int) (k : X → St → R) : S.NetOk_L12 n { n := 68, t := [(0, (.ro false (.ints .i64 x0))), (4, (.int .i64 x4)), (5, (.int .i64 s_))], h := [] } k = optC (S.NetOk_run12 x0 x4 n s_) (fun (r : (Bool) ⊕ (Unit)) => (sumC r (fun (r : Bool) => k (.ret) { n := 68, t := [(0, (.ro false (.ints .i64 x0))), (2, (.bool r)), (4, (.int .i64 x4))], h := [] }) (fun (r : Unit) => k (.exit 4) { n := 68, t := [(0, (.ro false (.ints .i64 x0))), (2, .junk), (4, (.int .i64 x4))], h := [] }))) none := by
  induction n generalizing s_ with
  | zero => rfl
  | succ n ih =>
    have hu : S.NetOk_L12 (n + 1) { n := 68, t := [(0, (.ro false (.ints .i64 x0))), (4, (.int .i64 x4)), (5, (.int .i64 s_))], h := [] } k = S.NetOk_step12 x0 x4 s_ (fun s_ => S.NetOk_L12 n { n := 68, t := [(0, (.ro false (.ints .i64 x0))), (4, (.int .i64 x4)), (5, (.int .i64 s_))], h := [] } k) (fun d => k (.ret) { n := 68, t := [(0, (.ro false (.ints .i64 x0))), (2, (.bool d)), (4, (.int .i64 x4))], h := [] }) (fun d => k (.exit 4) { n := 68, t := [(0, (.ro false (.ints .i64 x0))), (2, .junk), (4, (.int .i64 x4))], h := [] }) none := by
      kernel_rfl
    have hs : (fun s_ : Int => S.NetOk_L12 n { n := 68, t := [(0, (.ro false (.ints .i64 x0))), (4, (.int .i64 x4)), (5, (.int .i64 s_))], h := [] } k) = fun s_ => optC (S.NetOk_run12 x0 x4 n s_) (fun (r : (Bool) ⊕ (Unit)) => (sumC r (fun (r : Bool) => k (.ret) { n := 68, t := [(0, (.ro false (.ints .i64 x0))), (2, (.bool r)), (4, (.int .i64 x4))], h := [] }) (fun (r : Unit) => k (.exit 4) { n := 68, t := [(0, (.ro false (.ints .i64 x0))), (2, .junk), (4, (.int .i64 x4))], h := [] }))) none := funext ih
    rw [hu, hs]
    exact (S.NetOk_step12_nat (fun o => optC o (fun (r : (Bool) ⊕ (Unit)) => (sumC r (fun (r : Bool) => k (.ret) { n := 68, t := [(0, (.ro false (.ints .i64 x0))), (2, (.bool r)), (4, (.int .i64 x4))], h := [] }) (fun (r : Unit) => k (.exit 4) { n := 68, t := [(0, (.ro false (.ints .i64 x0))), (2, .junk), (4, (.int .i64 x4))], h := [] }))) none) x0 x4 s_ (S.NetOk_run12 x0 x4 n) (fun d => some ((Sum.inl d))) (fun d => some ((Sum.inr d))) none).symm
noncomputable def S.NetOk_step9 {α : Type} (x0 : List Int) (x4 : Int) (next_ : Int → α) (out0_ : Bool → α) (out1_ : Unit → α) (fail_ : α) : α :=
  (bif decide (x4 < (↑x0.length : Int)) then (optC (S.NetOk_run12 x0 x4 FUEL 0) (fun qy_4 => (sumC qy_4 (fun (qy_4 : Bool) => (out0_ qy_4)) (fun (qy_4 : Unit) => (next_ (IntKind.i64.wrap (x4 + 1)))))) fail_) else (out1_ ()))
theorem S.NetOk_step9_nat {α γ : Type} (g : α → γ) (x0 : List Int) (x4 : Int) (next_ : Int → α) (out0_ : Bool → α) (out1_ : Unit → α) (fail_ : α) : g (S.NetOk_step9 x0 x4 next_ out0_ out1_ fail_) = S.NetOk_step9 x0 x4 (fun s => g (next_ s)) (fun d => g (out0_ d)) (fun d => g (out1_ d)) (g fail_) := by
  unfold S.NetOk_step9; simp only [apply_cnd g, apply_optC g, apply_sumC g]
noncomputable def S.NetOk_run9 (x0 : List Int) : Nat → Int → Option ((Bool) ⊕ (Unit))
  | 0, _ => none
  | n + 1, s_ => S.NetOk_step9 x0 s_ (S.NetOk_run9 x0 n) (fun d => some ((Sum.inl d))) (fun d => some ((Sum.inr d))) none
theorem S.NetOk_L9_run (x0 : List Int) (n : Nat) (s_ : Int) (k : X → St → R) : S.NetOk_L9 n { n := 68, t := [(0, (.ro false (.ints .i64 x0))), (4, (.int .i64 s_))], h := [] } k = optC (S.NetOk_run9 x0 n s_) (fun (r : (Bool) ⊕ (Unit)) => (sumC r (fun (r : Bool) => k (.ret) { n := 68, t := [(2, (.bool r))], h := [] }) (fun (r : Unit) => k (.exit 2) { n := 68, t := [(2, .junk)], h := [] }))) none := by
  induction n generalizing s_ with
  | zero => rfl
  | succ n ih =>
    have hu : S.NetOk_L9 (n + 1) { n := 68, t := [(0, (.ro false (.ints .i64 x0))), (4, (.int .i64 s_))], h := [] } k = S.NetOk_step9 x0 s_ (fun s_ => S.NetOk_L9 n { n := 68, t := [(0, (.ro false (.ints .i64 x0))), (4, (.int .i64 s_))], h := [] } k) (fun d => k (.ret) { n := 68, t := [(2, (.bool d))], h := [] }) (fun d => k (.exit 2) { n := 68, t := [(2, .junk)], h := [] }) none := by
      refine Eq.trans (show S.NetOk_L9 (n + 1) { n := 68, t := [(0, (.ro false (.ints .i64 x0))), (4, (.int .i64 s_))], h := [] } k = (bif decide (s_ < (↑x0.length : Int)) then (S.NetOk_L12 FUEL { n := 68, t := [(0, (.ro false (.ints .i64 x0))), (4, (.int .i64 s_)), (5, (.int .i64 0))], h := [] } (S.NetOk_k12 ((fun σ => S.NetOk_L9 n σ k), k))) else (k (.exit 2) { n := 68, t := [(2, .junk)], h := [] })) by kernel_rfl) ?_
      refine cnd_congr ?_ ?_
      · refine (S.NetOk_L12_run x0 s_ FUEL 0 (S.NetOk_k12 ((fun σ => S.NetOk_L9 n σ k), k))).trans (optC_congr (fun qy_4 => ?_))
        rcases qy_4 with qy_4 | qy_4
        · kernel_rfl
        · kernel_rfl
      · kernel_rfl
    have hs : (fun s_ : Int => S.NetOk_L9 n { n := 68, t := [(0, (.ro false (.ints .i64 x0))), (4, (.int .i64 s_))], h := [] } k) = fun s_ => optC (S.NetOk_run9 x0 n s_) (fun (r : (Bool) ⊕ (Unit)) => (sumC r (fun (r : Bool) => k (.ret) { n := 68, t := [(2, (.bool r))], h := [] }) (fun (r : Unit) => k (.exit 2) { n := 68, t := [(2, .junk)], h := [] }))) none := funext ih
    rw [hu, hs]
    exact (S.NetOk_step9_nat (fun o => optC o (fun (r : (Bool) ⊕ (Unit)) => (sumC r (fun (r : Bool) => k (.ret) { n := 68, t := [(2, (.bool r))], h := [] }) (fun (r : Unit) => k (.exit 2) { n := 68, t := [(2, .junk)], h := [] }))) none) x0 s_ (S.NetOk_run9 x0 n) (fun d => some ((Sum.inl d))) (fun d => some ((Sum.inr d))) none).symm
noncomputable def S.NetOk_tree {α : Type} (net : List Int) (leaf0_ : Bool → α) (fail_ : α) : α :=
  (optC (S.l1In_t (↑net.length : Int) 1 6) (fun c_1 => (bif !c_1 then (leaf0_ false) else (optC (S.NetOk_run4 net FUEL 0) (fun qy_3 => (sumC qy_3 (fun (qy_3 : Bool) => (leaf0_ qy_3)) (fun (qy_3 : Unit) => (optC (S.NetOk_run9 net FUEL 0) (fun qy_5 => (sumC qy_5 (fun (qy_5 : Bool) => (leaf0_ qy_5)) (fun (qy_5 : Unit) => (leaf0_ true)))) fail_)))) fail_))) fail_)
theorem S.NetOk_tree_nat {α γ : Type} (g : α → γ) (net : List Int) (leaf0_ : Bool → α) (fail_ : α) : g (S.NetOk_tree net leaf0_ fail_) = S.NetOk_tree net (fun d => g (leaf0_ d)) (g fail_) := by
  unfold S.NetOk_tree; simp only [apply_cnd g, apply_optC g, apply_sumC g]
noncomputable def S.NetOk_t (net : List Int) : Option (Bool) := S.NetOk_tree net (fun d => some d) none
theorem S.NetOk_den (net : List Int) (κ : V → List E → R) : S.NetOk_F [.ro false (.ints .i64 net)] [] κ = optC (S.NetOk_t net) (fun (r : Bool) => κ (.bool r) []) none := by
  have hu : S.NetOk_F [.ro false (.ints .i64 net)] [] κ = S.NetOk_tree net (fun d => κ (.bool d) []) none := by
    refine Eq.trans (show S.NetOk_F [.ro false (.ints .i64 net)] [] κ = (optC (S.l1In_t (↑net.length : Int) 1 6) (fun c_1 => (bif !c_1 then (κ (.bool false) []) else (S.NetOk_L4 FUEL { n := 68, t := [(0, (.ro false (.ints .i64 net))), (3, (.int .i64 0))], h := [] } (S.NetOk_k4 κ)))) none) by kernel_rfl) ?_
    refine optC_congr (fun c_1 => ?_)
    refine cnd_congr ?_ ?_
    · kernel_rfl
    · refine (S.NetOk_L4_run net FUEL 0 (S.NetOk_k4 κ)).trans (optC_congr (fun qy_3 => ?_))
      rcases qy_3 with qy_3 | qy_3
      · kernel_rfl
      · refine Eq.trans (show (S.NetOk_k4 κ (.exit 0) { n := 68, t := [(0, (.ro false (.ints .i64 net))), (2, .junk)], h := [] }) = (S.NetOk_L9 FUEL { n := 68, t := [(0, (.ro false (.ints .i64 net))), (4, (.int .i64 0))], h := [] } (S.NetOk_k9 κ)) by kernel_rfl) ?_
        refine (S.NetOk_L9_run net FUEL 0 (S.NetOk_k9 κ)).trans (optC_congr (fun qy_5 => ?_))
        rcases qy_5 with qy_5 | qy_5
        · kernel_rfl
        · kernel_rfl
  rw [hu]
  exact (S.NetOk_tree_nat (fun o => optC o (fun (r : Bool) => κ (.bool r) []) none) net (fun d => some d) none).symm
noncomputable def S.NetOk_s : D.Spec where
  keep := false
  pure := true
  ds := [.int .i64]
  sp := fun args h κ => match args, h with
    | [.ro false (.ints .i64 net)], [] => optC (S.NetOk_t net) (fun (r : Bool) => κ (.bool r) []) none
    | _, _ => none
theorem S.NetOk_ok : SpecOk Try.prog 45 S.NetOk_s := by
  refine SpecOk.of TDok mixed (T := S.NetOk_T) ?_ (ann := S.NetOk_ann) Try.func45 rfl (by decide +kernel) ?_ ?_ ?_
  · intro p hp
    simp only [S.NetOk_T, List.mem_cons, List.not_mem_nil, or_false] at hp
    rcases hp with rfl
    · exact S.l1In_ok
  · intro args h κ r hh
    simp only [S.NetOk_s] at hh
    split at hh
    · exact (S.NetOk_den _ κ).trans hh
    · cases hh
  · intro args h κ r hh
    simp only [S.NetOk_s] at hh ⊢
    split at hh
    · exact optC_law2 (F := fun (r : Bool) κ => κ (.bool r) []) (fun b κ r hb => ⟨_, _, hb, fun _ => rfl⟩) hh
    · cases hh
  · intro _ args h κ r hh
    simp only [S.NetOk_s] at hh
    split at hh
    · exact ⟨rfl, fun _ => rfl⟩
    · cases hh

-- loop.example/guardsonnets/spec.BallOf
noncomputable def S.BallOf_T : List (Nat × D.Spec) := [(45, S.NetOk_s), (46, S.l1In_s)]
def S.BallOf_ann : Nat → List Nat × List Nat
  | _ => ([], [])
noncomputable def S.BallOf_F (args : List V) (h : List E) (κ : V → List E → R) : R := funC TD (tableK S.BallOf_T) S.BallOf_ann (drawOk (tableP S.BallOf_T)) FUEL Try.f13 args h κ
noncomputable def S.BallOf_tree {α : Type} (net : List Int) (place : Int) (leaf0_ : Int → α) (fail_ : α) : α :=
  (optC (S.NetOk_t net) (fun c_1 => (bif !c_1 then (leaf0_ (-1)) else (optC (S.l1In_t place 0 (IntKind.i64.wrap ((↑net.length : Int) - 1))) (fun c_2 => (bif !c_2 then (leaf0_ (-1)) else (bif decide (0 ≤ place) && decide (place < (↑net.length : Int)) then (bif decide (place < 0) then fail_ else (leaf0_ (bits BinOp.or IntKind.i64 (eli net place.toNat) (IntKind.i64.wrap (1 * 2 ^ min place.toNat IntKind.i64.bits))))) else fail_))) fail_))) fail_)
theorem S.BallOf_tree_nat {α γ : Type} (g : α → γ) (net : List Int) (place : Int) (leaf0_ : Int → α) (fail_ : α) : g (S.BallOf_tree net place leaf0_ fail_) = S.BallOf_tree net place (fun d => g (leaf0_ d)) (g fail_) := by
  unfold S.BallOf_tree; simp only [apply_cnd g, apply_optC g, apply_sumC g]
noncomputable def S.BallOf_t (net : List Int) (place : Int) : Option (Int) := S.BallOf_tree net place (fun d => some d) none
theorem S.BallOf_den (net : List Int) (place : Int) (κ : V → List E → R) : S.BallOf_F [.ro false (.ints .i64 net), .int .i64 place] [] κ = optC (S.BallOf_t net place) (fun (r : Int) => κ (.int .i64 r) []) none := by
  have hu : S.BallOf_F [.ro false (.ints .i64 net), .int .i64 place] [] κ = S.BallOf_tree net place (fun d => κ (.int .i64 d) []) none := by
    kernel_rfl
  rw [hu]
  exact (S.BallOf_tree_nat (fun o => optC o (fun (r : Int) => κ (.int .i64 r) []) none) net place (fun d => some d) none).symm
noncomputable def S.BallOf_s : D.Spec where
  keep := false
  pure := true
  ds := [.int .i64, .invalid]
  sp := fun args h κ => match args, h with
    | [.ro false (.ints .i64 net), .int .i64 place], [] => optC (S.BallOf_t net place) (fun (r : Int) => κ (.int .i64 r) []) none
    | _, _ => none
theorem S.BallOf_ok : SpecOk Try.prog 13 S.BallOf_s := by
  refine SpecOk.of TDok mixed (T := S.BallOf_T) ?_ (ann := S.BallOf_ann) Try.func13 rfl (by decide +kernel) ?_ ?_ ?_
  · intro p hp
    simp only [S.BallOf_T, List.mem_cons, List.not_mem_nil, or_false] at hp
    rcases hp with rfl | rfl
    · exact S.NetOk_ok
    · exact S.l1In_ok
  · intro args h κ r hh
    simp only [S.BallOf_s] at hh
    split at hh
    · exact (S.BallOf_den _ _ κ).trans hh
    · cases hh
  · intro args h κ r hh
    simp only [S.BallOf_s] at hh ⊢
    split at hh
    · exact optC_law2 (F := fun (r : Int) κ => κ (.int .i64 r) []) (fun b κ r hb => ⟨_, _, hb, fun _ => rfl⟩) hh
    · cases hh
  · intro _ args h κ r hh
    simp only [S.BallOf_s] at hh
    split at hh
    · exact ⟨rfl, fun _ => rfl⟩
    · cases hh

-- loop.example/guardsonnets/laws.alive
noncomputable def L.alive_T : List (Nat × D.Spec) := [(21, I.NetOk_s)]
def L.alive_ann : Nat → List Nat × List Nat
  | _ => ([], [])
noncomputable def L.alive_F (args : List V) (h : List E) (κ : V → List E → R) : R := funC TD (tableK L.alive_T) L.alive_ann (drawOk (tableP L.alive_T)) FUEL Try.f14 args h κ
noncomputable def L.alive_tree {α : Type} (leaf0_ : Bool → α) (fail_ : α) : α :=
  (optC (I.NetOk_t [2, 1]) (fun c_1 => (bif c_1 then (optC (I.NetOk_t [1]) (fun c_2 => (leaf0_ (!c_2))) fail_) else (leaf0_ false))) fail_)
theorem L.alive_tree_nat {α γ : Type} (g : α → γ) (leaf0_ : Bool → α) (fail_ : α) : g (L.alive_tree leaf0_ fail_) = L.alive_tree (fun d => g (leaf0_ d)) (g fail_) := by
  unfold L.alive_tree; simp only [apply_cnd g, apply_optC g, apply_sumC g]
noncomputable def L.alive_t : Option (Bool) := L.alive_tree (fun d => some d) none
theorem L.alive_den (κ : V → List E → R) : L.alive_F [] [] κ = optC (L.alive_t) (fun (r : Bool) => κ (.bool r) []) none := by
  have hu : L.alive_F [] [] κ = L.alive_tree (fun d => κ (.bool d) []) none := by
    kernel_rfl
  rw [hu]
  exact (L.alive_tree_nat (fun o => optC o (fun (r : Bool) => κ (.bool r) []) none) (fun d => some d) none).symm
noncomputable def L.alive_s : D.Spec where
  keep := false
  pure := true
  ds := []
  sp := fun args h κ => match args, h with
    | [], [] => optC (L.alive_t) (fun (r : Bool) => κ (.bool r) []) none
    | _, _ => none
theorem L.alive_ok : SpecOk Try.prog 14 L.alive_s := by
  refine SpecOk.of TDok mixed (T := L.alive_T) ?_ (ann := L.alive_ann) Try.func14 rfl (by decide +kernel) ?_ ?_ ?_
  · intro p hp
    simp only [L.alive_T, List.mem_cons, List.not_mem_nil, or_false] at hp
    rcases hp with rfl
    · exact I.NetOk_ok
  · intro args h κ r hh
    simp only [L.alive_s] at hh
    split at hh
    · exact (L.alive_den κ).trans hh
    · cases hh
  · intro args h κ r hh
    simp only [L.alive_s] at hh ⊢
    split at hh
    · exact optC_law2 (F := fun (r : Bool) κ => κ (.bool r) []) (fun b κ r hb => ⟨_, _, hb, fun _ => rfl⟩) hh
    · cases hh
  · intro _ args h κ r hh
    simp only [L.alive_s] at hh
    split at hh
    · exact ⟨rfl, fun _ => rfl⟩
    · cases hh

-- loop.example/guardsonnets/laws.FnBallOf
noncomputable def L.FnBallOf_T : List (Nat × D.Spec) := [(11, S.DrawBallOf_s), (12, I.BallOf_s), (13, S.BallOf_s), (14, L.alive_s)]
def L.FnBallOf_ann : Nat → List Nat × List Nat
  | 10 => ([3, 4, 5, 6], [2, 4, 5])
  | _ => ([], [])
noncomputable def L.FnBallOf_F (args : List V) (h : List E) (κ : V → List E → R) : R := funC TD (tableK L.FnBallOf_T) L.FnBallOf_ann (drawOk (tableP L.FnBallOf_T)) FUEL Try.f3 args h κ
noncomputable def L.FnBallOf_L10 (n : Nat) (σ : St) (k : X → St → R) : R := iterC 0 (fun σ k => denC TD (tableK L.FnBallOf_T) L.FnBallOf_ann (drawOk (tableP L.FnBallOf_T)) 0 FUEL ((findLoop 10 (Try.f3.body.getD .skip)).getD .skip) σ k) [3, 4, 5, 6] [2, 4, 5] n σ k
noncomputable def L.FnBallOf_k10 (κ : V → List E → R) : X → St → R := (afterC TD (tableK L.FnBallOf_T) L.FnBallOf_ann (drawOk (tableP L.FnBallOf_T)) 0 FUEL 10 (Try.f3.body.getD .skip) (finC 0 Try.f3 κ)).getD (fun _ _ => none)
noncomputable def L.FnBallOf_step10 {α : Type} (x4 : Int) (x5 : Int) (x6 : Int) (r0 : List Int) (next_ : Int × (List Int) → α) (out0_ : Bool → α) (out1_ : Unit → α) (fail_ : α) : α :=
  (bif decide (x6 < (↑r0.length : Int)) then (bif decide (x6 < 0) then fail_ else (optC (I.BallOf_t r0 x6) (fun c_5 => (bif decide (x4 < 0) then fail_ else (bif !(x5.fdiv (2 ^ min x6.toNat IntKind.i64.bits)).tmod 2 == (c_5.fdiv (2 ^ min x4.toNat IntKind.i64.bits)).tmod 2 then (out0_ false) else (next_ (IntKind.i64.wrap (x6 + 1), r0))))) fail_)) else (out1_ ()))
theorem L.FnBallOf_step10_nat {α γ : Type} (g : α → γ) (x4 : Int) (x5 : Int) (x6 : Int) (r0 : List Int) (next_ : Int × (List Int) → α) (out0_ : Bool → α) (out1_ : Unit → α) (fail_ : α) : g (L.FnBallOf_step10 x4 x5 x6 r0 next_ out0_ out1_ fail_) = L.FnBallOf_step10 x4 x5 x6 r0 (fun s => g (next_ s)) (fun d => g (out0_ d)) (fun d => g (out1_ d)) (g fail_) := by
  unfold L.FnBallOf_step10; simp only [apply_cnd g, apply_optC g, apply_sumC g]
noncomputable def L.FnBallOf_run10 (x4 : Int) (x5 : Int) : Nat → Int × (List Int) → Option ((Bool) ⊕ (Unit))
  | 0, _ => none
  | n + 1, s_ => L.FnBallOf_step10 x4 x5 s_.1 s_.2 (L.FnBallOf_run10 x4 x5 n) (fun d => some ((Sum.inl d))) (fun d => some ((Sum.inr d))) none
theorem L.FnBallOf_L10_run (x4 : Int) (x5 : Int) (n : Nat) (s_ : Int × (List Int)) (k : X → St → R) : L.FnBallOf_L10 n { n := 52, t := [(3, (.own 0)), (4, (.int .i64 x4)), (5, (.int .i64 x5)), (6, (.int .i64 s_.1))], h := [.row (.ints .i64 s_.2)] } k = optC (L.FnBallOf_run10 x4 x5 n s_) (fun (r : (Bool) ⊕ (Unit)) => (sumC r (fun (r : Bool) => k (.ret) { n := 52, t := [(2, (.bool r)), (4, (.int .i64 x4)), (5, (.int .i64 x5))], h := [] }) (fun (r : Unit) => k (.exit 0) { n := 52, t := [(2, .junk), (4, (.int .i64 x4)), (5, (.int .i64 x5))], h := [] }))) none := by
  induction n generalizing s_ with
  | zero => rfl
  | succ n ih =>
    have hu : L.FnBallOf_L10 (n + 1) { n := 52, t := [(3, (.own 0)), (4, (.int .i64 x4)), (5, (.int .i64 x5)), (6, (.int .i64 s_.1))], h := [.row (.ints .i64 s_.2)] } k = L.FnBallOf_step10 x4 x5 s_.1 s_.2 (fun s_ => L.FnBallOf_L10 n { n := 52, t := [(3, (.own 0)), (4, (.int .i64 x4)), (5, (.int .i64 x5)), (6, (.int .i64 s_.1))], h := [.row (.ints .i64 s_.2)] } k) (fun d => k (.ret) { n := 52, t := [(2, (.bool d)), (4, (.int .i64 x4)), (5, (.int .i64 x5))], h := [] }) (fun d => k (.exit 0) { n := 52, t := [(2, .junk), (4, (.int .i64 x4)), (5, (.int .i64 x5))], h := [] }) none := by
      kernel_rfl
    have hs : (fun s_ : Int × (List Int) => L.FnBallOf_L10 n { n := 52, t := [(3, (.own 0)), (4, (.int .i64 x4)), (5, (.int .i64 x5)), (6, (.int .i64 s_.1))], h := [.row (.ints .i64 s_.2)] } k) = fun s_ => optC (L.FnBallOf_run10 x4 x5 n s_) (fun (r : (Bool) ⊕ (Unit)) => (sumC r (fun (r : Bool) => k (.ret) { n := 52, t := [(2, (.bool r)), (4, (.int .i64 x4)), (5, (.int .i64 x5))], h := [] }) (fun (r : Unit) => k (.exit 0) { n := 52, t := [(2, .junk), (4, (.int .i64 x4)), (5, (.int .i64 x5))], h := [] }))) none := funext ih
    rw [hu, hs]
    exact (L.FnBallOf_step10_nat (fun o => optC o (fun (r : (Bool) ⊕ (Unit)) => (sumC r (fun (r : Bool) => k (.ret) { n := 52, t := [(2, (.bool r)), (4, (.int .i64 x4)), (5, (.int .i64 x5))], h := [] }) (fun (r : Unit) => k (.exit 0) { n := 52, t := [(2, .junk), (4, (.int .i64 x4)), (5, (.int .i64 x5))], h := [] }))) none) x4 x5 s_.1 s_.2 (L.FnBallOf_run10 x4 x5 n) (fun d => some ((Sum.inl d))) (fun d => some ((Sum.inr d))) none).symm
noncomputable def L.FnBallOf_tree {α : Type} (code : List Int) (leaf0_ : Bool → α) (fail_ : α) : α :=
  (bif decide ((↑code.length : Int) > 1048576) then (leaf0_ true) else (optC (S.DrawBallOf_t code) (fun c_1 => (optC (I.BallOf_t c_1.snd c_1.fst) (fun c_2 => (optC (S.BallOf_t c_1.snd c_1.fst) (fun c_3 => (bif !c_2 == c_3 then (leaf0_ false) else (bif decide (c_2 < 0) then (bif c_2 == -1 then (optC (L.alive_t) (fun c_4 => (leaf0_ c_4)) fail_) else (leaf0_ false)) else (optC (L.FnBallOf_run10 c_1.fst c_2 FUEL (0, c_1.snd)) (fun qy_6 => (sumC qy_6 (fun (qy_6 : Bool) => (leaf0_ qy_6)) (fun (qy_6 : Unit) => (bif decide (c_1.fst < 0) then fail_ else (leaf0_ ((c_2.fdiv (2 ^ min c_1.fst.toNat IntKind.i64.bits)).tmod 2 == 1)))))) fail_)))) fail_)) fail_)) fail_))
theorem L.FnBallOf_tree_nat {α γ : Type} (g : α → γ) (code : List Int) (leaf0_ : Bool → α) (fail_ : α) : g (L.FnBallOf_tree code leaf0_ fail_) = L.FnBallOf_tree code (fun d => g (leaf0_ d)) (g fail_) := by
  unfold L.FnBallOf_tree; simp only [apply_cnd g, apply_optC g, apply_sumC g]
noncomputable def L.FnBallOf_t (code : List Int) : Option (Bool) := L.FnBallOf_tree code (fun d => some d) none
theorem L.FnBallOf_den (code : List Int) (κ : V → List E → R) : L.FnBallOf_F [.ro true (.ints .u8 code)] [] κ = optC (L.FnBallOf_t code) (fun (r : Bool) => κ (.bool r) []) none := by
  have hu : L.FnBallOf_F [.ro true (.ints .u8 code)] [] κ = L.FnBallOf_tree code (fun d => κ (.bool d) []) none := by
    refine Eq.trans (show L.FnBallOf_F [.ro true (.ints .u8 code)] [] κ = (bif decide ((↑code.length : Int) > 1048576) then (κ (.bool true) []) else (optC (S.DrawBallOf_t code) (fun c_1 => (optC (I.BallOf_t c_1.snd c_1.fst) (fun c_2 => (optC (S.BallOf_t c_1.snd c_1.fst) (fun c_3 => (bif !c_2 == c_3 then (κ (.bool false) []) else (bif decide (c_2 < 0) then (bif c_2 == -1 then (optC (L.alive_t) (fun c_4 => (κ (.bool c_4) [])) none) else (κ (.bool false) [])) else (L.FnBallOf_L10 FUEL { n := 52, t := [(3, (.own 0)), (4, (.int .i64 c_1.fst)), (5, (.int .i64 c_2)), (6, (.int .i64 0))], h := [.row (.ints .i64 c_1.snd)] } (L.FnBallOf_k10 κ))))) none)) none)) none)) by kernel_rfl) ?_
    refine cnd_congr ?_ ?_
    · kernel_rfl
    · refine optC_congr (fun c_1 => ?_)
      refine optC_congr (fun c_2 => ?_)
      refine optC_congr (fun c_3 => ?_)
      refine cnd_congr ?_ ?_
      · kernel_rfl
      · refine cnd_congr ?_ ?_
        · kernel_rfl
        · refine (L.FnBallOf_L10_run c_1.fst c_2 FUEL (0, c_1.snd) (L.FnBallOf_k10 κ)).trans (optC_congr (fun qy_6 => ?_))
          rcases qy_6 with qy_6 | qy_6
          · kernel_rfl
          · kernel_rfl
  rw [hu]
  exact (L.FnBallOf_tree_nat (fun o => optC o (fun (r : Bool) => κ (.bool r) []) none) code (fun d => some d) none).symm
noncomputable def L.FnBallOf_s : D.Spec where
  keep := true
  pure := true
  ds := [.int .u8]
  sp := fun args h κ => match args, h with
    | [.ro true (.ints .u8 code)], [] => optC (L.FnBallOf_t code) (fun (r : Bool) => κ (.bool r) []) none
    | _, _ => none
theorem L.FnBallOf_ok : SpecOk Try.prog 3 L.FnBallOf_s := by
  refine SpecOk.of TDok mixed (T := L.FnBallOf_T) ?_ (ann := L.FnBallOf_ann) Try.func3 rfl (by decide +kernel) ?_ ?_ ?_
  · intro p hp
    simp only [L.FnBallOf_T, List.mem_cons, List.not_mem_nil, or_false] at hp
    rcases hp with rfl | rfl | rfl | rfl
    · exact S.DrawBallOf_ok
    · exact I.BallOf_ok
    · exact S.BallOf_ok
    · exact L.alive_ok
  · intro args h κ r hh
    simp only [L.FnBallOf_s] at hh
    split at hh
    · exact (L.FnBallOf_den _ κ).trans hh
    · cases hh
  · intro args h κ r hh
    simp only [L.FnBallOf_s] at hh ⊢
    split at hh
    · exact optC_law2 (F := fun (r : Bool) κ => κ (.bool r) []) (fun b κ r hb => ⟨_, _, hb, fun _ => rfl⟩) hh
    · cases hh
  · intro _ args h κ r hh
    simp only [L.FnBallOf_s] at hh
    split at hh
    · exact ⟨rfl, fun _ => rfl⟩
    · cases hh

-- loop.example/guardsonnets/spec.l20Set
noncomputable def S.l20Set_T : List (Nat × D.Spec) := [(52, S.l20Net_s), (64, S.l20Rd_pick_s)]
def S.l20Set_ann : Nat → List Nat × List Nat
  | _ => ([], [])
noncomputable def S.l20Set_F (args : List V) (h : List E) (κ : V → List E → R) : R := funC TD (tableK S.l20Set_T) S.l20Set_ann (drawOk (tableP S.l20Set_T)) FUEL Try.f47 args h κ
noncomputable def S.l20Set_tree {α : Type} (rb : List Int) (rp : Int) (n_ : Int) (leaf0_ : Int × (List Int) × Int × (List Int) → α) (fail_ : α) : α :=
  (optC (S.l20Net_t rb rp n_) (fun c_1 => (optC (S.l20Rd_pick_t c_1.fst c_1.snd.fst (IntKind.i64.wrap (1 * 2 ^ min (↑c_1.snd.snd.length : Int).toNat IntKind.i64.bits))) (fun c_2 => (optC (S.l20Rd_pick_t c_2.snd.fst c_2.snd.snd 40) (fun c_3 => (leaf0_ (IntKind.i64.wrap (c_2.fst + IntKind.i64.wrap (IntKind.i64.wrap (c_3.fst.tdiv 39) * 64)), c_3.snd.fst, c_3.snd.snd, c_1.snd.snd))) fail_)) fail_)) fail_)
theorem S.l20Set_tree_nat {α γ : Type} (g : α → γ) (rb : List Int) (rp : Int) (n_ : Int) (leaf0_ : Int × (List Int) × Int × (List Int) → α) (fail_ : α) : g (S.l20Set_tree rb rp n_ leaf0_ fail_) = S.l20Set_tree rb rp n_ (fun d => g (leaf0_ d)) (g fail_) := by
  unfold S.l20Set_tree; simp only [apply_cnd g, apply_optC g, apply_sumC g]
noncomputable def S.l20Set_t (rb : List Int) (rp : Int) (n_ : Int) : Option (Int × (List Int) × Int × (List Int)) := S.l20Set_tree rb rp n_ (fun d => some d) none
theorem S.l20Set_den (rb : List Int) (rp : Int) (n_ : Int) (κ : V → List E → R) : S.l20Set_F [.ptr 0 0, .int .i64 n_] [.cells [.ro true (.ints .u8 rb), .int .i64 rp]] κ = optC (S.l20Set_t rb rp n_) (fun (r : Int × (List Int) × Int × (List Int)) => κ (.tup [(.own 1), (.int .i64 r.1)]) [.cells [(.ro true (.ints .u8 r.2.1)), (.int .i64 r.2.2.1)], .row (.ints .i64 r.2.2.2)]) none := by
  have hu : S.l20Set_F [.ptr 0 0, .int .i64 n_] [.cells [.ro true (.ints .u8 rb), .int .i64 rp]] κ = S.l20Set_tree rb rp n_ (fun d => κ (.tup [(.own 1), (.int .i64 d.1)]) [.cells [(.ro true (.ints .u8 d.2.1)), (.int .i64 d.2.2.1)], .row (.ints .i64 d.2.2.2)]) none := by
    kernel_rfl
  rw [hu]
  exact (S.l20Set_tree_nat (fun o => optC o (fun (r : Int × (List Int) × Int × (List Int)) => κ (.tup [(.own 1), (.int .i64 r.1)]) [.cells [(.ro true (.ints .u8 r.2.1)), (.int .i64 r.2.2.1)], .row (.ints .i64 r.2.2.2)]) none) rb rp n_ (fun d => some d) none).symm
noncomputable def S.l20Set_s : D.Spec where
  keep := false
  pure := false
  ds := [.invalid, .invalid]
  sp := fun args h κ => match args, h with
    | [.ptr 0 0, .int .i64 n_], [.cells [.ro true (.ints .u8 rb), .int .i64 rp]] => optC (S.l20Set_t rb rp n_) (fun (r : Int × (List Int) × Int × (List Int)) => κ (.tup [(.own 1), (.int .i64 r.1)]) [.cells [(.ro true (.ints .u8 r.2.1)), (.int .i64 r.2.2.1)], .row (.ints .i64 r.2.2.2)]) none
    | _, _ => none
theorem S.l20Set_ok : SpecOk Try.prog 47 S.l20Set_s := by
  refine SpecOk.of TDok mixed (T := S.l20Set_T) ?_ (ann := S.l20Set_ann) Try.func47 rfl (by decide +kernel) ?_ ?_ ?_
  · intro p hp
    simp only [S.l20Set_T, List.mem_cons, List.not_mem_nil, or_false] at hp
    rcases hp with rfl | rfl
    · exact S.l20Net_ok
    · exact S.l20Rd_pick_ok
  · intro args h κ r hh
    simp only [S.l20Set_s] at hh
    split at hh
    · exact (S.l20Set_den _ _ _ κ).trans hh
    · cases hh
  · intro args h κ r hh
    simp only [S.l20Set_s] at hh ⊢
    split at hh
    · exact optC_law2 (F := fun (r : Int × (List Int) × Int × (List Int)) κ => κ (.tup [(.own 1), (.int .i64 r.1)]) [.cells [(.ro true (.ints .u8 r.2.1)), (.int .i64 r.2.2.1)], .row (.ints .i64 r.2.2.2)]) (fun b κ r hb => ⟨_, _, hb, fun _ => rfl⟩) hh
    · cases hh
  · intro hh; cases hh

-- loop.example/guardsonnets/spec.DrawSeenBy
noncomputable def S.DrawSeenBy_T : List (Nat × D.Spec) := [(42, S.l20Open_s), (47, S.l20Set_s)]
def S.DrawSeenBy_ann : Nat → List Nat × List Nat
  | _ => ([], [])
noncomputable def S.DrawSeenBy_F (args : List V) (h : List E) (κ : V → List E → R) : R := funC TD (tableK S.DrawSeenBy_T) S.DrawSeenBy_ann (drawOk (tableP S.DrawSeenBy_T)) FUEL Try.f15 args h κ
noncomputable def S.DrawSeenBy_tree {α : Type} (code : List Int) (leaf0_ : Int × (List Int) → α) (fail_ : α) : α :=
  (optC (S.l20Open_t code) (fun c_1 => (optC (S.l20Set_t c_1.fst c_1.snd 12) (fun c_2 => (leaf0_ (c_2.fst, c_2.snd.snd.snd))) fail_)) fail_)
theorem S.DrawSeenBy_tree_nat {α γ : Type} (g : α → γ) (code : List Int) (leaf0_ : Int × (List Int) → α) (fail_ : α) : g (S.DrawSeenBy_tree code leaf0_ fail_) = S.DrawSeenBy_tree code (fun d => g (leaf0_ d)) (g fail_) := by
  unfold S.DrawSeenBy_tree; simp only [apply_cnd g, apply_optC g, apply_sumC g]
noncomputable def S.DrawSeenBy_t (code : List Int) : Option (Int × (List Int)) := S.DrawSeenBy_tree code (fun d => some d) none
theorem S.DrawSeenBy_den (code : List Int) (κ : V → List E → R) : S.DrawSeenBy_F [.ro true (.ints .u8 code)] [] κ = optC (S.DrawSeenBy_t code) (fun (r : Int × (List Int)) => κ (.tup [(.own 0), (.int .i64 r.1)]) [.row (.ints .i64 r.2)]) none := by
  have hu : S.DrawSeenBy_F [.ro true (.ints .u8 code)] [] κ = S.DrawSeenBy_tree code (fun d => κ (.tup [(.own 0), (.int .i64 d.1)]) [.row (.ints .i64 d.2)]) none := by
    kernel_rfl
  rw [hu]
  exact (S.DrawSeenBy_tree_nat (fun o => optC o (fun (r : Int × (List Int)) => κ (.tup [(.own 0), (.int .i64 r.1)]) [.row (.ints .i64 r.2)]) none) code (fun d => some d) none).symm
noncomputable def S.DrawSeenBy_s : D.Spec where
  keep := true
  pure := false
  ds := [.int .u8]
  sp := fun args h κ => match args, h with
    | [.ro true (.ints .u8 code)], [] => optC (S.DrawSeenBy_t code) (fun (r : Int × (List Int)) => κ (.tup [(.own 0), (.int .i64 r.1)]) [.row (.ints .i64 r.2)]) none
    | _, _ => none
theorem S.DrawSeenBy_ok : SpecOk Try.prog 15 S.DrawSeenBy_s := by
  refine SpecOk.of TDok mixed (T := S.DrawSeenBy_T) ?_ (ann := S.DrawSeenBy_ann) Try.func15 rfl (by decide +kernel) ?_ ?_ ?_
  · intro p hp
    simp only [S.DrawSeenBy_T, List.mem_cons, List.not_mem_nil, or_false] at hp
    rcases hp with rfl | rfl
    · exact S.l20Open_ok
    · exact S.l20Set_ok
  · intro args h κ r hh
    simp only [S.DrawSeenBy_s] at hh
    split at hh
    · exact (S.DrawSeenBy_den _ κ).trans hh
    · cases hh
  · intro args h κ r hh
    simp only [S.DrawSeenBy_s] at hh ⊢
    split at hh
    · exact optC_law2 (F := fun (r : Int × (List Int)) κ => κ (.tup [(.own 0), (.int .i64 r.1)]) [.row (.ints .i64 r.2)]) (fun b κ r hb => ⟨_, _, hb, fun _ => rfl⟩) hh
    · cases hh
  · intro hh; cases hh

-- loop.example/guardsonnets/impl.seenIn
noncomputable def I.seenIn_T : List (Nat × D.Spec) := [(55, I.hasPlace_s), (44, I.ballIn_s)]
def I.seenIn_ann : Nat → List Nat × List Nat
  | 3 => ([0, 1, 5, 6], [5])
  | _ => ([], [])
noncomputable def I.seenIn_F (args : List V) (h : List E) (κ : V → List E → R) : R := funC TD (tableK I.seenIn_T) I.seenIn_ann (drawOk (tableP I.seenIn_T)) FUEL Try.f49 args h κ
noncomputable def I.seenIn_L3 (n : Nat) (σ : St) (k : X → St → R) : R := iterC 0 (fun σ k => denC TD (tableK I.seenIn_T) I.seenIn_ann (drawOk (tableP I.seenIn_T)) 0 FUEL ((findLoop 3 (Try.f49.body.getD .skip)).getD .skip) σ k) [0, 1, 5, 6] [5] n σ k
noncomputable def I.seenIn_k3 (κ : V → List E → R) : X → St → R := (afterC TD (tableK I.seenIn_T) I.seenIn_ann (drawOk (tableP I.seenIn_T)) 0 FUEL 3 (Try.f49.body.getD .skip) (finC 0 Try.f49 κ)).getD (fun _ _ => none)
noncomputable def I.seenIn_step3 {α : Type} (x0 : List Int) (x1 : Int) (x5 : Int) (x6 : Int) (next_ : Int × Int → α) (out0_ : Int → α) (fail_ : α) : α :=
  (bif decide (x6 < (↑x0.length : Int)) then (optC (I.hasPlace_t x1 x6) (fun c_1 => (bif c_1 then (optC (I.ballIn_t x0 x6) (fun c_2 => (next_ (bits BinOp.or IntKind.i64 x5 c_2, IntKind.i64.wrap (x6 + 1)))) fail_) else (next_ (x5, IntKind.i64.wrap (x6 + 1))))) fail_) else (out0_ x5))
theorem I.seenIn_step3_nat {α γ : Type} (g : α → γ) (x0 : List Int) (x1 : Int) (x5 : Int) (x6 : Int) (next_ : Int × Int → α) (out0_ : Int → α) (fail_ : α) : g (I.seenIn_step3 x0 x1 x5 x6 next_ out0_ fail_) = I.seenIn_step3 x0 x1 x5 x6 (fun s => g (next_ s)) (fun d => g (out0_ d)) (g fail_) := by
  unfold I.seenIn_step3; simp only [apply_cnd g, apply_optC g, apply_sumC g]
noncomputable def I.seenIn_run3 (x0 : List Int) (x1 : Int) : Nat → Int × Int → Option (Int)
  | 0, _ => none
  | n + 1, s_ => I.seenIn_step3 x0 x1 s_.1 s_.2 (I.seenIn_run3 x0 x1 n) (fun d => some d) none
theorem I.seenIn_L3_run (x0 : List Int) (x1 : Int) (n : Nat) (s_ : Int × Int) (k : X → St → R) : I.seenIn_L3 n { n := 22, t := [(0, (.ro false (.ints .i64 x0))), (1, (.int .i64 x1)), (5, (.int .i64 s_.1)), (6, (.int .i64 s_.2))], h := [] } k = optC (I.seenIn_run3 x0 x1 n s_) (fun (r : Int) => k (.exit 0) { n := 22, t := [(5, (.int .i64 r))], h := [] }) none := by
  induction n generalizing s_ with
  | zero => rfl
  | succ n ih =>
    have hu : I.seenIn_L3 (n + 1) { n := 22, t := [(0, (.ro false (.ints .i64 x0))), (1, (.int .i64 x1)), (5, (.int .i64 s_.1)), (6, (.int .i64 s_.2))], h := [] } k = I.seenIn_step3 x0 x1 s_.1 s_.2 (fun s_ => I.seenIn_L3 n { n := 22, t := [(0, (.ro false (.ints .i64 x0))), (1, (.int .i64 x1)), (5, (.int .i64 s_.1)), (6, (.int .i64 s_.2))], h := [] } k) (fun d => k (.exit 0) { n := 22, t := [(5, (.int .i64 d))], h := [] }) none := by
      kernel_rfl
    have hs : (fun s_ : Int × Int => I.seenIn_L3 n { n := 22, t := [(0, (.ro false (.ints .i64 x0))), (1, (.int .i64 x1)), (5, (.int .i64 s_.1)), (6, (.int .i64 s_.2))], h := [] } k) = fun s_ => optC (I.seenIn_run3 x0 x1 n s_) (fun (r : Int) => k (.exit 0) { n := 22, t := [(5, (.int .i64 r))], h := [] }) none := funext ih
    rw [hu, hs]
    exact (I.seenIn_step3_nat (fun o => optC o (fun (r : Int) => k (.exit 0) { n := 22, t := [(5, (.int .i64 r))], h := [] }) none) x0 x1 s_.1 s_.2 (I.seenIn_run3 x0 x1 n) (fun d => some d) none).symm
noncomputable def I.seenIn_tree {α : Type} (net : List Int) (set_ : Int) (leaf0_ : Int → α) (fail_ : α) : α :=
  (optC (I.seenIn_run3 net set_ FUEL (0, 0)) (fun qy_3 => (leaf0_ qy_3)) fail_)
theorem I.seenIn_tree_nat {α γ : Type} (g : α → γ) (net : List Int) (set_ : Int) (leaf0_ : Int → α) (fail_ : α) : g (I.seenIn_tree net set_ leaf0_ fail_) = I.seenIn_tree net set_ (fun d => g (leaf0_ d)) (g fail_) := by
  unfold I.seenIn_tree; simp only [apply_cnd g, apply_optC g, apply_sumC g]
noncomputable def I.seenIn_t (net : List Int) (set_ : Int) : Option (Int) := I.seenIn_tree net set_ (fun d => some d) none
theorem I.seenIn_den (net : List Int) (set_ : Int) (κ : V → List E → R) : I.seenIn_F [.ro false (.ints .i64 net), .int .i64 set_] [] κ = optC (I.seenIn_t net set_) (fun (r : Int) => κ (.int .i64 r) []) none := by
  have hu : I.seenIn_F [.ro false (.ints .i64 net), .int .i64 set_] [] κ = I.seenIn_tree net set_ (fun d => κ (.int .i64 d) []) none := by
    refine Eq.trans (show I.seenIn_F [.ro false (.ints .i64 net), .int .i64 set_] [] κ = (I.seenIn_L3 FUEL { n := 22, t := [(0, (.ro false (.ints .i64 net))), (1, (.int .i64 set_)), (5, (.int .i64 0)), (6, (.int .i64 0))], h := [] } (I.seenIn_k3 κ)) by kernel_rfl) ?_
    refine (I.seenIn_L3_run net set_ FUEL (0, 0) (I.seenIn_k3 κ)).trans (optC_congr (fun qy_3 => ?_))
    kernel_rfl
  rw [hu]
  exact (I.seenIn_tree_nat (fun o => optC o (fun (r : Int) => κ (.int .i64 r) []) none) net set_ (fun d => some d) none).symm
noncomputable def I.seenIn_s : D.Spec where
  keep := false
  pure := true
  ds := [.int .i64, .invalid]
  sp := fun args h κ => match args, h with
    | [.ro false (.ints .i64 net), .int .i64 set_], [] => optC (I.seenIn_t net set_) (fun (r : Int) => κ (.int .i64 r) []) none
    | _, _ => none
theorem I.seenIn_ok : SpecOk Try.prog 49 I.seenIn_s := by
  refine SpecOk.of TDok mixed (T := I.seenIn_T) ?_ (ann := I.seenIn_ann) Try.func49 rfl (by decide +kernel) ?_ ?_ ?_
  · intro p hp
    simp only [I.seenIn_T, List.mem_cons, List.not_mem_nil, or_false] at hp
    rcases hp with rfl | rfl
    · exact I.hasPlace_ok
    · exact I.ballIn_ok
  · intro args h κ r hh
    simp only [I.seenIn_s] at hh
    split at hh
    · exact (I.seenIn_den _ _ κ).trans hh
    · cases hh
  · intro args h κ r hh
    simp only [I.seenIn_s] at hh ⊢
    split at hh
    · exact optC_law2 (F := fun (r : Int) κ => κ (.int .i64 r) []) (fun b κ r hb => ⟨_, _, hb, fun _ => rfl⟩) hh
    · cases hh
  · intro _ args h κ r hh
    simp only [I.seenIn_s] at hh
    split at hh
    · exact ⟨rfl, fun _ => rfl⟩
    · cases hh

-- loop.example/guardsonnets/impl.SeenBy
noncomputable def I.SeenBy_T : List (Nat × D.Spec) := [(21, I.NetOk_s), (48, I.setIn_s), (49, I.seenIn_s)]
def I.SeenBy_ann : Nat → List Nat × List Nat
  | _ => ([], [])
noncomputable def I.SeenBy_F (args : List V) (h : List E) (κ : V → List E → R) : R := funC TD (tableK I.SeenBy_T) I.SeenBy_ann (drawOk (tableP I.SeenBy_T)) FUEL Try.f16 args h κ
noncomputable def I.SeenBy_tree {α : Type} (net : List Int) (set_ : Int) (leaf0_ : Int → α) (fail_ : α) : α :=
  (optC (I.NetOk_t net) (fun c_1 => (bif !c_1 then (leaf0_ (-1)) else (optC (I.setIn_t net set_) (fun c_2 => (bif !c_2 then (leaf0_ (-1)) else (optC (I.seenIn_t net set_) (fun c_3 => (leaf0_ c_3)) fail_))) fail_))) fail_)
theorem I.SeenBy_tree_nat {α γ : Type} (g : α → γ) (net : List Int) (set_ : Int) (leaf0_ : Int → α) (fail_ : α) : g (I.SeenBy_tree net set_ leaf0_ fail_) = I.SeenBy_tree net set_ (fun d => g (leaf0_ d)) (g fail_) := by
  unfold I.SeenBy_tree; simp only [apply_cnd g, apply_optC g, apply_sumC g]
noncomputable def I.SeenBy_t (net : List Int) (set_ : Int) : Option (Int) := I.SeenBy_tree net set_ (fun d => some d) none
theorem I.SeenBy_den (net : List Int) (set_ : Int) (κ : V → List E → R) : I.SeenBy_F [.ro false (.ints .i64 net), .int .i64 set_] [] κ = optC (I.SeenBy_t net set_) (fun (r : Int) => κ (.int .i64 r) []) none := by
  have hu : I.SeenBy_F [.ro false (.ints .i64 net), .int .i64 set_] [] κ = I.SeenBy_tree net set_ (fun d => κ (.int .i64 d) []) none := by
    kernel_rfl
  rw [hu]
  exact (I.SeenBy_tree_nat (fun o => optC o (fun (r : Int) => κ (.int .i64 r) []) none) net set_ (fun d => some d) none).symm
noncomputable def I.SeenBy_s : D.Spec where
  keep := false
  pure := true
  ds := [.int .i64, .invalid]
  sp := fun args h κ => match args, h with
    | [.ro false (.ints .i64 net), .int .i64 set_], [] => optC (I.SeenBy_t net set_) (fun (r : Int) => κ (.int .i64 r) []) none
    | _, _ => none
theorem I.SeenBy_ok : SpecOk Try.prog 16 I.SeenBy_s := by
  refine SpecOk.of TDok mixed (T := I.SeenBy_T) ?_ (ann := I.SeenBy_ann) Try.func16 rfl (by decide +kernel) ?_ ?_ ?_
  · intro p hp
    simp only [I.SeenBy_T, List.mem_cons, List.not_mem_nil, or_false] at hp
    rcases hp with rfl | rfl | rfl
    · exact I.NetOk_ok
    · exact I.setIn_ok
    · exact I.seenIn_ok
  · intro args h κ r hh
    simp only [I.SeenBy_s] at hh
    split at hh
    · exact (I.SeenBy_den _ _ κ).trans hh
    · cases hh
  · intro args h κ r hh
    simp only [I.SeenBy_s] at hh ⊢
    split at hh
    · exact optC_law2 (F := fun (r : Int) κ => κ (.int .i64 r) []) (fun b κ r hb => ⟨_, _, hb, fun _ => rfl⟩) hh
    · cases hh
  · intro _ args h κ r hh
    simp only [I.SeenBy_s] at hh
    split at hh
    · exact ⟨rfl, fun _ => rfl⟩
    · cases hh

-- loop.example/guardsonnets/spec.l1SetOk
noncomputable def S.l1SetOk_T : List (Nat × D.Spec) := [(45, S.NetOk_s), (46, S.l1In_s)]
def S.l1SetOk_ann : Nat → List Nat × List Nat
  | _ => ([], [])
noncomputable def S.l1SetOk_F (args : List V) (h : List E) (κ : V → List E → R) : R := funC TD (tableK S.l1SetOk_T) S.l1SetOk_ann (drawOk (tableP S.l1SetOk_T)) FUEL Try.f50 args h κ
noncomputable def S.l1SetOk_tree {α : Type} (net : List Int) (set_ : Int) (leaf0_ : Bool → α) (fail_ : α) : α :=
  (optC (S.NetOk_t net) (fun c_1 => (bif c_1 then (optC (S.l1In_t set_ 0 (IntKind.i64.wrap (IntKind.i64.wrap (1 * 2 ^ min (↑net.length : Int).toNat IntKind.i64.bits) - 1))) (fun c_2 => (leaf0_ c_2)) fail_) else (leaf0_ false))) fail_)
theorem S.l1SetOk_tree_nat {α γ : Type} (g : α → γ) (net : List Int) (set_ : Int) (leaf0_ : Bool → α) (fail_ : α) : g (S.l1SetOk_tree net set_ leaf0_ fail_) = S.l1SetOk_tree net set_ (fun d => g (leaf0_ d)) (g fail_) := by
  unfold S.l1SetOk_tree; simp only [apply_cnd g, apply_optC g, apply_sumC g]
noncomputable def S.l1SetOk_t (net : List Int) (set_ : Int) : Option (Bool) := S.l1SetOk_tree net set_ (fun d => some d) none
theorem S.l1SetOk_den (net : List Int) (set_ : Int) (κ : V → List E → R) : S.l1SetOk_F [.ro false (.ints .i64 net), .int .i64 set_] [] κ = optC (S.l1SetOk_t net set_) (fun (r : Bool) => κ (.bool r) []) none := by
  have hu : S.l1SetOk_F [.ro false (.ints .i64 net), .int .i64 set_] [] κ = S.l1SetOk_tree net set_ (fun d => κ (.bool d) []) none := by
    kernel_rfl
  rw [hu]
  exact (S.l1SetOk_tree_nat (fun o => optC o (fun (r : Bool) => κ (.bool r) []) none) net set_ (fun d => some d) none).symm
noncomputable def S.l1SetOk_s : D.Spec where
  keep := false
  pure := true
  ds := [.int .i64, .invalid]
  sp := fun args h κ => match args, h with
    | [.ro false (.ints .i64 net), .int .i64 set_], [] => optC (S.l1SetOk_t net set_) (fun (r : Bool) => κ (.bool r) []) none
    | _, _ => none
theorem S.l1SetOk_ok : SpecOk Try.prog 50 S.l1SetOk_s := by
  refine SpecOk.of TDok mixed (T := S.l1SetOk_T) ?_ (ann := S.l1SetOk_ann) Try.func50 rfl (by decide +kernel) ?_ ?_ ?_
  · intro p hp
    simp only [S.l1SetOk_T, List.mem_cons, List.not_mem_nil, or_false] at hp
    rcases hp with rfl | rfl
    · exact S.NetOk_ok
    · exact S.l1In_ok
  · intro args h κ r hh
    simp only [S.l1SetOk_s] at hh
    split at hh
    · exact (S.l1SetOk_den _ _ κ).trans hh
    · cases hh
  · intro args h κ r hh
    simp only [S.l1SetOk_s] at hh ⊢
    split at hh
    · exact optC_law2 (F := fun (r : Bool) κ => κ (.bool r) []) (fun b κ r hb => ⟨_, _, hb, fun _ => rfl⟩) hh
    · cases hh
  · intro _ args h κ r hh
    simp only [S.l1SetOk_s] at hh
    split at hh
    · exact ⟨rfl, fun _ => rfl⟩
    · cases hh

-- loop.example/guardsonnets/spec.l1Near
noncomputable def S.l1Near_T : List (Nat × D.Spec) := []
def S.l1Near_ann : Nat → List Nat × List Nat
  | 3 => ([0, 1, 5, 6], [5])
  | _ => ([], [])
noncomputable def S.l1Near_F (args : List V) (h : List E) (κ : V → List E → R) : R := funC TD (tableK S.l1Near_T) S.l1Near_ann (drawOk (tableP S.l1Near_T)) FUEL Try.f51 args h κ
noncomputable def S.l1Near_L3 (n : Nat) (σ : St) (k : X → St → R) : R := iterC 0 (fun σ k => denC TD (tableK S.l1Near_T) S.l1Near_ann (drawOk (tableP S.l1Near_T)) 0 FUEL ((findLoop 3 (Try.f51.body.getD .skip)).getD .skip) σ k) [0, 1, 5, 6] [5] n σ k
noncomputable def S.l1Near_k3 (κ : V → List E → R) : X → St → R := (afterC TD (tableK S.l1Near_T) S.l1Near_ann (drawOk (tableP S.l1Near_T)) 0 FUEL 3 (Try.f51.body.getD .skip) (finC 0 Try.f51 κ)).getD (fun _ _ => none)
noncomputable def S.l1Near_step3 {α : Type} (x0 : List Int) (x1 : Int) (x5 : Int) (x6 : Int) (next_ : Int × Int → α) (out0_ : Int → α) (fail_ : α) : α :=
  (bif decide (x6 < (↑x0.length : Int)) then (bif decide (x6 < 0) then fail_ else (bif (x1.fdiv (2 ^ min x6.toNat IntKind.i64.bits)).tmod 2 == 1 then (bif decide (0 ≤ x6) && decide (x6 < (↑x0.length : Int)) then (next_ (bits BinOp.or IntKind.i64 x5 (eli x0 x6.toNat), IntKind.i64.wrap (x6 + 1))) else fail_) else (next_ (x5, IntKind.i64.wrap (x6 + 1))))) else (out0_ x5))
theorem S.l1Near_step3_nat {α γ : Type} (g : α → γ) (x0 : List Int) (x1 : Int) (x5 : Int) (x6 : Int) (next_ : Int × Int → α) (out0_ : Int → α) (fail_ : α) : g (S.l1Near_step3 x0 x1 x5 x6 next_ out0_ fail_) = S.l1Near_step3 x0 x1 x5 x6 (fun s => g (next_ s)) (fun d => g (out0_ d)) (g fail_) := by
  unfold S.l1Near_step3; simp only [apply_cnd g, apply_optC g, apply_sumC g]
noncomputable def S.l1Near_run3 (x0 : List Int) (x1 : Int) : Nat → Int × Int → Option (Int)
  | 0, _ => none
  | n + 1, s_ => S.l1Near_step3 x0 x1 s_.1 s_.2 (S.l1Near_run3 x0 x1 n) (fun d => some d) none
theorem S.l1Near_L3_run (x0 : List Int) (x1 : Int) (n : Nat) (s_ : Int × Int) (k : X → St → R) : S.l1Near_L3 n { n := 25, t := [(0, (.ro false (.ints .i64 x0))), (1, (.int .i64 x1)), (5, (.int .i64 s_.1)), (6, (.int .i64 s_.2))], h := [] } k = optC (S.l1Near_run3 x0 x1 n s_) (fun (r : Int) => k (.exit 0) { n := 25, t := [(5, (.int .i64 r))], h := [] }) none := by
  induction n generalizing s_ with
  | zero => rfl
  | succ n ih =>
    have hu : S.l1Near_L3 (n + 1) { n := 25, t := [(0, (.ro false (.ints .i64 x0))), (1, (.int .i64 x1)), (5, (.int .i64 s_.1)), (6, (.int .i64 s_.2))], h := [] } k = S.l1Near_step3 x0 x1 s_.1 s_.2 (fun s_ => S.l1Near_L3 n { n := 25, t := [(0, (.ro false (.ints .i64 x0))), (1, (.int .i64 x1)), (5, (.int .i64 s_.1)), (6, (.int .i64 s_.2))], h := [] } k) (fun d => k (.exit 0) { n := 25, t := [(5, (.int .i64 d))], h := [] }) none := by
      kernel_rfl
    have hs : (fun s_ : Int × Int => S.l1Near_L3 n { n := 25, t := [(0, (.ro false (.ints .i64 x0))), (1, (.int .i64 x1)), (5, (.int .i64 s_.1)), (6, (.int .i64 s_.2))], h := [] } k) = fun s_ => optC (S.l1Near_run3 x0 x1 n s_) (fun (r : Int) => k (.exit 0) { n := 25, t := [(5, (.int .i64 r))], h := [] }) none := funext ih
    rw [hu, hs]
    exact (S.l1Near_step3_nat (fun o => optC o (fun (r : Int) => k (.exit 0) { n := 25, t := [(5, (.int .i64 r))], h := [] }) none) x0 x1 s_.1 s_.2 (S.l1Near_run3 x0 x1 n) (fun d => some d) none).symm
noncomputable def S.l1Near_tree {α : Type} (net : List Int) (set_ : Int) (leaf0_ : Int → α) (fail_ : α) : α :=
  (optC (S.l1Near_run3 net set_ FUEL (0, 0)) (fun qy_1 => (leaf0_ qy_1)) fail_)
theorem S.l1Near_tree_nat {α γ : Type} (g : α → γ) (net : List Int) (set_ : Int) (leaf0_ : Int → α) (fail_ : α) : g (S.l1Near_tree net set_ leaf0_ fail_) = S.l1Near_tree net set_ (fun d => g (leaf0_ d)) (g fail_) := by
  unfold S.l1Near_tree; simp only [apply_cnd g, apply_optC g, apply_sumC g]
noncomputable def S.l1Near_t (net : List Int) (set_ : Int) : Option (Int) := S.l1Near_tree net set_ (fun d => some d) none
theorem S.l1Near_den (net : List Int) (set_ : Int) (κ : V → List E → R) : S.l1Near_F [.ro false (.ints .i64 net), .int .i64 set_] [] κ = optC (S.l1Near_t net set_) (fun (r : Int) => κ (.int .i64 r) []) none := by
  have hu : S.l1Near_F [.ro false (.ints .i64 net), .int .i64 set_] [] κ = S.l1Near_tree net set_ (fun d => κ (.int .i64 d) []) none := by
    refine Eq.trans (show S.l1Near_F [.ro false (.ints .i64 net), .int .i64 set_] [] κ = (S.l1Near_L3 FUEL { n := 25, t := [(0, (.ro false (.ints .i64 net))), (1, (.int .i64 set_)), (5, (.int .i64 0)), (6, (.int .i64 0))], h := [] } (S.l1Near_k3 κ)) by kernel_rfl) ?_
    refine (S.l1Near_L3_run net set_ FUEL (0, 0) (S.l1Near_k3 κ)).trans (optC_congr (fun qy_1 => ?_))
    kernel_rfl
  rw [hu]
  exact (S.l1Near_tree_nat (fun o => optC o (fun (r : Int) => κ (.int .i64 r) []) none) net set_ (fun d => some d) none).symm
noncomputable def S.l1Near_s : D.Spec where
  keep := false
  pure := true
  ds := [.int .i64, .invalid]
  sp := fun args h κ => match args, h with
    | [.ro false (.ints .i64 net), .int .i64 set_], [] => optC (S.l1Near_t net set_) (fun (r : Int) => κ (.int .i64 r) []) none
    | _, _ => none
theorem S.l1Near_ok : SpecOk Try.prog 51 S.l1Near_s := by
  refine SpecOk.of TDok mixed (T := S.l1Near_T) ?_ (ann := S.l1Near_ann) Try.func51 rfl (by decide +kernel) ?_ ?_ ?_
  · intro p hp; cases hp
  · intro args h κ r hh
    simp only [S.l1Near_s] at hh
    split at hh
    · exact (S.l1Near_den _ _ κ).trans hh
    · cases hh
  · intro args h κ r hh
    simp only [S.l1Near_s] at hh ⊢
    split at hh
    · exact optC_law2 (F := fun (r : Int) κ => κ (.int .i64 r) []) (fun b κ r hb => ⟨_, _, hb, fun _ => rfl⟩) hh
    · cases hh
  · intro _ args h κ r hh
    simp only [S.l1Near_s] at hh
    split at hh
    · exact ⟨rfl, fun _ => rfl⟩
    · cases hh

-- loop.example/guardsonnets/spec.SeenBy
noncomputable def S.SeenBy_T : List (Nat × D.Spec) := [(50, S.l1SetOk_s), (51, S.l1Near_s)]
def S.SeenBy_ann : Nat → List Nat × List Nat
  | _ => ([], [])
noncomputable def S.SeenBy_F (args : List V) (h : List E) (κ : V → List E → R) : R := funC TD (tableK S.SeenBy_T) S.SeenBy_ann (drawOk (tableP S.SeenBy_T)) FUEL Try.f17 args h κ
noncomputable def S.SeenBy_tree {α : Type} (net : List Int) (set_ : Int) (leaf0_ : Int → α) (fail_ : α) : α :=
  (optC (S.l1SetOk_t net set_) (fun c_1 => (bif !c_1 then (leaf0_ (-1)) else (optC (S.l1Near_t net set_) (fun c_2 => (leaf0_ (bits BinOp.or IntKind.i64 set_ c_2))) fail_))) fail_)
theorem S.SeenBy_tree_nat {α γ : Type} (g : α → γ) (net : List Int) (set_ : Int) (leaf0_ : Int → α) (fail_ : α) : g (S.SeenBy_tree net set_ leaf0_ fail_) = S.SeenBy_tree net set_ (fun d => g (leaf0_ d)) (g fail_) := by
  unfold S.SeenBy_tree; simp only [apply_cnd g, apply_optC g, apply_sumC g]
noncomputable def S.SeenBy_t (net : List Int) (set_ : Int) : Option (Int) := S.SeenBy_tree net set_ (fun d => some d) none
theorem S.SeenBy_den (net : List Int) (set_ : Int) (κ : V → List E → R) : S.SeenBy_F [.ro false (.ints .i64 net), .int .i64 set_] [] κ = optC (S.SeenBy_t net set_) (fun (r : Int) => κ (.int .i64 r) []) none := by
  have hu : S.SeenBy_F [.ro false (.ints .i64 net), .int .i64 set_] [] κ = S.SeenBy_tree net set_ (fun d => κ (.int .i64 d) []) none := by
    kernel_rfl
  rw [hu]
  exact (S.SeenBy_tree_nat (fun o => optC o (fun (r : Int) => κ (.int .i64 r) []) none) net set_ (fun d => some d) none).symm
noncomputable def S.SeenBy_s : D.Spec where
  keep := false
  pure := true
  ds := [.int .i64, .invalid]
  sp := fun args h κ => match args, h with
    | [.ro false (.ints .i64 net), .int .i64 set_], [] => optC (S.SeenBy_t net set_) (fun (r : Int) => κ (.int .i64 r) []) none
    | _, _ => none
theorem S.SeenBy_ok : SpecOk Try.prog 17 S.SeenBy_s := by
  refine SpecOk.of TDok mixed (T := S.SeenBy_T) ?_ (ann := S.SeenBy_ann) Try.func17 rfl (by decide +kernel) ?_ ?_ ?_
  · intro p hp
    simp only [S.SeenBy_T, List.mem_cons, List.not_mem_nil, or_false] at hp
    rcases hp with rfl | rfl
    · exact S.l1SetOk_ok
    · exact S.l1Near_ok
  · intro args h κ r hh
    simp only [S.SeenBy_s] at hh
    split at hh
    · exact (S.SeenBy_den _ _ κ).trans hh
    · cases hh
  · intro args h κ r hh
    simp only [S.SeenBy_s] at hh ⊢
    split at hh
    · exact optC_law2 (F := fun (r : Int) κ => κ (.int .i64 r) []) (fun b κ r hb => ⟨_, _, hb, fun _ => rfl⟩) hh
    · cases hh
  · intro _ args h κ r hh
    simp only [S.SeenBy_s] at hh
    split at hh
    · exact ⟨rfl, fun _ => rfl⟩
    · cases hh

-- loop.example/guardsonnets/laws.FnSeenBy
noncomputable def L.FnSeenBy_T : List (Nat × D.Spec) := [(15, S.DrawSeenBy_s), (16, I.SeenBy_s), (17, S.SeenBy_s), (14, L.alive_s), (12, I.BallOf_s)]
def L.FnSeenBy_ann : Nat → List Nat × List Nat
  | 13 => ([5, 6, 7, 8, 9], [4, 5, 6, 7, 8])
  | _ => ([], [])
noncomputable def L.FnSeenBy_F (args : List V) (h : List E) (κ : V → List E → R) : R := funC TD (tableK L.FnSeenBy_T) L.FnSeenBy_ann (drawOk (tableP L.FnSeenBy_T)) FUEL Try.f4 args h κ
noncomputable def L.FnSeenBy_L13 (n : Nat) (σ : St) (k : X → St → R) : R := iterC 0 (fun σ k => denC TD (tableK L.FnSeenBy_T) L.FnSeenBy_ann (drawOk (tableP L.FnSeenBy_T)) 0 FUEL ((findLoop 13 (Try.f4.body.getD .skip)).getD .skip) σ k) [5, 6, 7, 8, 9] [4, 5, 6, 7, 8] n σ k
noncomputable def L.FnSeenBy_k13 (κ : V → List E → R) : X → St → R := (afterC TD (tableK L.FnSeenBy_T) L.FnSeenBy_ann (drawOk (tableP L.FnSeenBy_T)) 0 FUEL 13 (Try.f4.body.getD .skip) (finC 0 Try.f4 κ)).getD (fun _ _ => none)
noncomputable def L.FnSeenBy_step13 {α : Type} (x6 : Int) (x7 : Int) (x8 : Int) (x9 : Int) (r0 : List Int) (next_ : Int × (List Int) → α) (out0_ : Bool × (List Int) → α) (out1_ : List Int → α) (fail_ : α) : α :=
  (bif decide (x9 < (↑r0.length : Int)) then (bif decide (x9 < 0) then fail_ else (optC (I.BallOf_t r0 x9) (fun c_5 => (bif !((x7.fdiv (2 ^ min x9.toNat IntKind.i64.bits)).tmod 2 == 1) == (bits BinOp.and IntKind.i64 c_5 x6 != 0) then (out0_ (false, r0)) else (next_ (IntKind.i64.wrap (x9 + 1), r0)))) fail_)) else (out1_ r0))
theorem L.FnSeenBy_step13_nat {α γ : Type} (g : α → γ) (x6 : Int) (x7 : Int) (x8 : Int) (x9 : Int) (r0 : List Int) (next_ : Int × (List Int) → α) (out0_ : Bool × (List Int) → α) (out1_ : List Int → α) (fail_ : α) : g (L.FnSeenBy_step13 x6 x7 x8 x9 r0 next_ out0_ out1_ fail_) = L.FnSeenBy_step13 x6 x7 x8 x9 r0 (fun s => g (next_ s)) (fun d => g (out0_ d)) (fun d => g (out1_ d)) (g fail_) := by
  unfold L.FnSeenBy_step13; simp only [apply_cnd g, apply_optC g, apply_sumC g]
noncomputable def L.FnSeenBy_run13 (x6 : Int) (x7 : Int) (x8 : Int) : Nat → Int × (List Int) → Option ((Bool × (List Int)) ⊕ (List Int))
  | 0, _ => none
  | n + 1, s_ => L.FnSeenBy_step13 x6 x7 x8 s_.1 s_.2 (L.FnSeenBy_run13 x6 x7 x8 n) (fun d => some ((Sum.inl d))) (fun d => some ((Sum.inr d))) none
theorem L.FnSeenBy_L13_run (x6 : Int) (x7 : Int) (x8 : Int) (n : Nat) (s_ : Int × (List Int)) (k : X → St → R) : L.FnSeenBy_L13 n { n := 84, t := [(5, (.own 0)), (6, (.int .i64 x6)), (7, (.int .i64 x7)), (8, (.int .i64 x8)), (9, (.int .i64 s_.1))], h := [.row (.ints .i64 s_.2)] } k = optC (L.FnSeenBy_run13 x6 x7 x8 n s_) (fun (r : (Bool × (List Int)) ⊕ (List Int)) => (sumC r (fun (r : Bool × (List Int)) => k (.ret) { n := 84, t := [(4, (.bool r.1)), (5, (.own 0)), (6, (.int .i64 x6)), (7, (.int .i64 x7)), (8, (.int .i64 x8))], h := [.row (.ints .i64 r.2)] }) (fun (r : List Int) => k (.exit 0) { n := 84, t := [(4, .junk), (5, (.own 0)), (6, (.int .i64 x6)), (7, (.int .i64 x7)), (8, (.int .i64 x8))], h := [.row (.ints .i64 r)] }))) none := by
  induction n generalizing s_ with
  | zero => rfl
  | succ n ih =>
    have hu : L.FnSeenBy_L13 (n + 1) { n := 84, t := [(5, (.own 0)), (6, (.int .i64 x6)), (7, (.int .i64 x7)), (8, (.int .i64 x8)), (9, (.int .i64 s_.1))], h := [.row (.ints .i64 s_.2)] } k = L.FnSeenBy_step13 x6 x7 x8 s_.1 s_.2 (fun s_ => L.FnSeenBy_L13 n { n := 84, t := [(5, (.own 0)), (6, (.int .i64 x6)), (7, (.int .i64 x7)), (8, (.int .i64 x8)), (9, (.int .i64 s_.1))], h := [.row (.ints .i64 s_.2)] } k) (fun d => k (.ret) { n := 84, t := [(4, (.bool d.1)), (5, (.own 0)), (6, (.int .i64 x6)), (7, (.int .i64 x7)), (8, (.int .i64 x8))], h := [.row (.ints .i64 d.2)] }) (fun d => k (.exit 0) { n := 84, t := [(4, .junk), (5, (.own 0)), (6, (.int .i64 x6)), (7, (.int .i64 x7)), (8, (.int .i64 x8))], h := [.row (.ints .i64 d)] }) none := by
      kernel_rfl
    have hs : (fun s_ : Int × (List Int) => L.FnSeenBy_L13 n { n := 84, t := [(5, (.own 0)), (6, (.int .i64 x6)), (7, (.int .i64 x7)), (8, (.int .i64 x8)), (9, (.int .i64 s_.1))], h := [.row (.ints .i64 s_.2)] } k) = fun s_ => optC (L.FnSeenBy_run13 x6 x7 x8 n s_) (fun (r : (Bool × (List Int)) ⊕ (List Int)) => (sumC r (fun (r : Bool × (List Int)) => k (.ret) { n := 84, t := [(4, (.bool r.1)), (5, (.own 0)), (6, (.int .i64 x6)), (7, (.int .i64 x7)), (8, (.int .i64 x8))], h := [.row (.ints .i64 r.2)] }) (fun (r : List Int) => k (.exit 0) { n := 84, t := [(4, .junk), (5, (.own 0)), (6, (.int .i64 x6)), (7, (.int .i64 x7)), (8, (.int .i64 x8))], h := [.row (.ints .i64 r)] }))) none := funext ih
    rw [hu, hs]
    exact (L.FnSeenBy_step13_nat (fun o => optC o (fun (r : (Bool × (List Int)) ⊕ (List Int)) => (sumC r (fun (r : Bool × (List Int)) => k (.ret) { n := 84, t := [(4, (.bool r.1)), (5, (.own 0)), (6, (.int .i64 x6)), (7, (.int .i64 x7)), (8, (.int .i64 x8))], h := [.row (.ints .i64 r.2)] }) (fun (r : List Int) => k (.exit 0) { n := 84, t := [(4, .junk), (5, (.own 0)), (6, (.int .i64 x6)), (7, (.int .i64 x7)), (8, (.int .i64 x8))], h := [.row (.ints .i64 r)] }))) none) x6 x7 x8 s_.1 s_.2 (L.FnSeenBy_run13 x6 x7 x8 n) (fun d => some ((Sum.inl d))) (fun d => some ((Sum.inr d))) none).symm
noncomputable def L.FnSeenBy_tree {α : Type} (code : List Int) (more : List Int) (leaf0_ : Bool → α) (fail_ : α) : α :=
  (bif decide ((↑code.length : Int) > 1048576) then (leaf0_ true) else (bif decide ((↑more.length : Int) > 1048576) then (leaf0_ true) else (optC (S.DrawSeenBy_t code) (fun c_1 => (optC (I.SeenBy_t c_1.snd c_1.fst) (fun c_2 => (optC (S.SeenBy_t c_1.snd c_1.fst) (fun c_3 => (bif !c_2 == c_3 then (leaf0_ false) else (bif decide (c_2 < 0) then (bif c_2 == -1 then (optC (L.alive_t) (fun c_4 => (leaf0_ c_4)) fail_) else (leaf0_ false)) else (bif decide ((↑more.length : Int) > 0) then (bif decide (0 < (↑more.length : Int)) then (optC (L.FnSeenBy_run13 c_1.fst c_2 (bits BinOp.and IntKind.i64 (IntKind.i64.wrap (eli more (Int.toNat 0))) (IntKind.i64.wrap (IntKind.i64.wrap (1 * 2 ^ min (↑c_1.snd.length : Int).toNat IntKind.i64.bits) - 1))) FUEL (0, c_1.snd)) (fun qy_6 => (sumC qy_6 (fun (qy_6 : Bool × (List Int)) => (leaf0_ qy_6.1)) (fun (qy_6 : List Int) => (optC (I.SeenBy_t qy_6 (bits BinOp.or IntKind.i64 c_1.fst (bits BinOp.and IntKind.i64 (IntKind.i64.wrap (eli more (Int.toNat 0))) (IntKind.i64.wrap (IntKind.i64.wrap (1 * 2 ^ min (↑c_1.snd.length : Int).toNat IntKind.i64.bits) - 1))))) (fun c_7 => (optC (I.SeenBy_t qy_6 (bits BinOp.and IntKind.i64 (IntKind.i64.wrap (eli more (Int.toNat 0))) (IntKind.i64.wrap (IntKind.i64.wrap (1 * 2 ^ min (↑c_1.snd.length : Int).toNat IntKind.i64.bits) - 1)))) (fun c_8 => (bif c_7 == bits BinOp.or IntKind.i64 c_2 c_8 then (optC (I.SeenBy_t qy_6 0) (fun c_9 => (leaf0_ (c_9 == 0))) fail_) else (leaf0_ false))) fail_)) fail_)))) fail_) else fail_) else (optC (L.FnSeenBy_run13 c_1.fst c_2 0 FUEL (0, c_1.snd)) (fun qy_10 => (sumC qy_10 (fun (qy_10 : Bool × (List Int)) => (leaf0_ qy_10.1)) (fun (qy_10 : List Int) => (optC (I.SeenBy_t qy_10 (bits BinOp.or IntKind.i64 c_1.fst 0)) (fun c_11 => (optC (I.SeenBy_t qy_10 0) (fun c_12 => (bif c_11 == bits BinOp.or IntKind.i64 c_2 c_12 then (optC (I.SeenBy_t qy_10 0) (fun c_13 => (leaf0_ (c_13 == 0))) fail_) else (leaf0_ false))) fail_)) fail_)))) fail_))))) fail_)) fail_)) fail_)))
theorem L.FnSeenBy_tree_nat {α γ : Type} (g : α → γ) (code : List Int) (more : List Int) (leaf0_ : Bool → α) (fail_ : α) : g (L.FnSeenBy_tree code more leaf0_ fail_) = L.FnSeenBy_tree code more (fun d => g (leaf0_ d)) (g fail_) := by
  unfold L.FnSeenBy_tree; simp only [apply_cnd g, apply_optC g, apply_sumC g]
noncomputable def L.FnSeenBy_t (code : List Int) (more : List Int) : Option (Bool) := L.FnSeenBy_tree code more (fun d => some d) none
theorem L.FnSeenBy_den (code : List Int) (more : List Int) (κ : V → List E → R) : L.FnSeenBy_F [.ro true (.ints .u8 code), .ro true (.ints .u8 more)] [] κ = optC (L.FnSeenBy_t code more) (fun (r : Bool) => κ (.bool r) []) none := by
  have hu : L.FnSeenBy_F [.ro true (.ints .u8 code), .ro true (.ints .u8 more)] [] κ = L.FnSeenBy_tree code more (fun d => κ (.bool d) []) none := by
    refine Eq.trans (show L.FnSeenBy_F [.ro true (.ints .u8 code), .ro true (.ints .u8 more)] [] κ = (bif decide ((↑code.length : Int) > 1048576) then (κ (.bool true) []) else (bif decide ((↑more.length : Int) > 1048576) then (κ (.bool true) []) else (optC (S.DrawSeenBy_t code) (fun c_1 => (optC (I.SeenBy_t c_1.snd c_1.fst) (fun c_2 => (optC (S.SeenBy_t c_1.snd c_1.fst) (fun c_3 => (bif !c_2 == c_3 then (κ (.bool false) []) else (bif decide (c_2 < 0) then (bif c_2 == -1 then (optC (L.alive_t) (fun c_4 => (κ (.bool c_4) [])) none) else (κ (.bool false) [])) else (bif decide ((↑more.length : Int) > 0) then (bif decide (0 < (↑more.length : Int)) then (L.FnSeenBy_L13 FUEL { n := 84, t := [(5, (.own 0)), (6, (.int .i64 c_1.fst)), (7, (.int .i64 c_2)), (8, (.int .i64 (bits BinOp.and IntKind.i64 (IntKind.i64.wrap (eli more (Int.toNat 0))) (IntKind.i64.wrap (IntKind.i64.wrap (1 * 2 ^ min (↑c_1.snd.length : Int).toNat IntKind.i64.bits) - 1))))), (9, (.int .i64 0))], h := [.row (.ints .i64 c_1.snd)] } (L.FnSeenBy_k13 κ)) else none) else (L.FnSeenBy_L13 FUEL { n := 84, t := [(5, (.own 0)), (6, (.int .i64 c_1.fst)), (7, (.int .i64 c_2)), (8, (.int .i64 0)), (9, (.int .i64 0))], h := [.row (.ints .i64 c_1.snd)] } (L.FnSeenBy_k13 κ)))))) none)) none)) none))) by kernel_rfl) ?_
    refine cnd_congr ?_ ?_
    · kernel_rfl
    · refine cnd_congr ?_ ?_
      · kernel_rfl
      · refine optC_congr (fun c_1 => ?_)
        refine optC_congr (fun c_2 => ?_)
        refine optC_congr (fun c_3 => ?_)
        refine cnd_congr ?_ ?_
        · kernel_rfl
        · refine cnd_congr ?_ ?_
          · kernel_rfl
          · refine cnd_congr ?_ ?_
            · refine cnd_congr ?_ ?_
              · refine (L.FnSeenBy_L13_run c_1.fst c_2 (bits BinOp.and IntKind.i64 (IntKind.i64.wrap (eli more (Int.toNat 0))) (IntKind.i64.wrap (IntKind.i64.wrap (1 * 2 ^ min (↑c_1.snd.length : Int).toNat IntKind.i64.bits) - 1))) FUEL (0, c_1.snd) (L.FnSeenBy_k13 κ)).trans (optC_congr (fun qy_6 => ?_))
                rcases qy_6 with qy_6 | qy_6
                · kernel_rfl
                · kernel_rfl
              · kernel_rfl
            · refine (L.FnSeenBy_L13_run c_1.fst c_2 0 FUEL (0, c_1.snd) (L.FnSeenBy_k13 κ)).trans (optC_congr (fun qy_10 => ?_))
              rcases qy_10 with qy_10 | qy_10
              · kernel_rfl
              · kernel_rfl
  rw [hu]
  exact (L.FnSeenBy_tree_nat (fun o => optC o (fun (r : Bool) => κ (.bool r) []) none) code more (fun d => some d) none).symm
noncomputable def L.FnSeenBy_s : D.Spec where
  keep := true
  pure := true
  ds := [.int .u8, .int .u8]
  sp := fun args h κ => match args, h with
    | [.ro true (.ints .u8 code), .ro true (.ints .u8 more)], [] => optC (L.FnSeenBy_t code more) (fun (r : Bool) => κ (.bool r) []) none
    | _, _ => none
theorem L.FnSeenBy_ok : SpecOk Try.prog 4 L.FnSeenBy_s := by
  refine SpecOk.of TDok mixed (T := L.FnSeenBy_T) ?_ (ann := L.FnSeenBy_ann) Try.func4 rfl (by decide +kernel) ?_ ?_ ?_
  · intro p hp
    simp only [L.FnSeenBy_T, List.mem_cons, List.not_mem_nil, or_false] at hp
    rcases hp with rfl | rfl | rfl | rfl | rfl
    · exact S.DrawSeenBy_ok
    · exact I.SeenBy_ok
    · exact S.SeenBy_ok
    · exact L.alive_ok
    · exact I.BallOf_ok
  · intro args h κ r hh
    simp only [L.FnSeenBy_s] at hh
    split at hh
    · exact (L.FnSeenBy_den _ _ κ).trans hh
    · cases hh
  · intro args h κ r hh
    simp only [L.FnSeenBy_s] at hh ⊢
    split at hh
    · exact optC_law2 (F := fun (r : Bool) κ => κ (.bool r) []) (fun b κ r hb => ⟨_, _, hb, fun _ => rfl⟩) hh
    · cases hh
  · intro _ args h κ r hh
    simp only [L.FnSeenBy_s] at hh
    split at hh
    · exact ⟨rfl, fun _ => rfl⟩
    · cases hh

-- loop.example/guardsonnets/spec.DrawWiresOf
noncomputable def S.DrawWiresOf_T : List (Nat × D.Spec) := [(42, S.l20Open_s), (52, S.l20Net_s)]
def S.DrawWiresOf_ann : Nat → List Nat × List Nat
  | _ => ([], [])
noncomputable def S.DrawWiresOf_F (args : List V) (h : List E) (κ : V → List E → R) : R := funC TD (tableK S.DrawWiresOf_T) S.DrawWiresOf_ann (drawOk (tableP S.DrawWiresOf_T)) FUEL Try.f18 args h κ
noncomputable def S.DrawWiresOf_tree {α : Type} (code : List Int) (leaf0_ : List Int → α) (fail_ : α) : α :=
  (optC (S.l20Open_t code) (fun c_1 => (optC (S.l20Net_t c_1.fst c_1.snd 9) (fun c_2 => (leaf0_ c_2.snd.snd)) fail_)) fail_)
theorem S.DrawWiresOf_tree_nat {α γ : Type} (g : α → γ) (code : List Int) (leaf0_ : List Int → α) (fail_ : α) : g (S.DrawWiresOf_tree code leaf0_ fail_) = S.DrawWiresOf_tree code (fun d => g (leaf0_ d)) (g fail_) := by
  unfold S.DrawWiresOf_tree; simp only [apply_cnd g, apply_optC g, apply_sumC g]
noncomputable def S.DrawWiresOf_t (code : List Int) : Option (List Int) := S.DrawWiresOf_tree code (fun d => some d) none
theorem S.DrawWiresOf_den (code : List Int) (κ : V → List E → R) : S.DrawWiresOf_F [.ro true (.ints .u8 code)] [] κ = optC (S.DrawWiresOf_t code) (fun (r : List Int) => κ (.own 0) [.row (.ints .i64 r)]) none := by
  have hu : S.DrawWiresOf_F [.ro true (.ints .u8 code)] [] κ = S.DrawWiresOf_tree code (fun d => κ (.own 0) [.row (.ints .i64 d)]) none := by
    kernel_rfl
  rw [hu]
  exact (S.DrawWiresOf_tree_nat (fun o => optC o (fun (r : List Int) => κ (.own 0) [.row (.ints .i64 r)]) none) code (fun d => some d) none).symm
noncomputable def S.DrawWiresOf_s : D.Spec where
  keep := true
  pure := false
  ds := [.int .u8]
  sp := fun args h κ => match args, h with
    | [.ro true (.ints .u8 code)], [] => optC (S.DrawWiresOf_t code) (fun (r : List Int) => κ (.own 0) [.row (.ints .i64 r)]) none
    | _, _ => none
theorem S.DrawWiresOf_ok : SpecOk Try.prog 18 S.DrawWiresOf_s := by
  refine SpecOk.of TDok mixed (T := S.DrawWiresOf_T) ?_ (ann := S.DrawWiresOf_ann) Try.func18 rfl (by decide +kernel) ?_ ?_ ?_
  · intro p hp
    simp only [S.DrawWiresOf_T, List.mem_cons, List.not_mem_nil, or_false] at hp
    rcases hp with rfl | rfl
    · exact S.l20Open_ok
    · exact S.l20Net_ok
  · intro args h κ r hh
    simp only [S.DrawWiresOf_s] at hh
    split at hh
    · exact (S.DrawWiresOf_den _ κ).trans hh
    · cases hh
  · intro args h κ r hh
    simp only [S.DrawWiresOf_s] at hh ⊢
    split at hh
    · exact optC_law2 (F := fun (r : List Int) κ => κ (.own 0) [.row (.ints .i64 r)]) (fun b κ r hb => ⟨_, _, hb, fun _ => rfl⟩) hh
    · cases hh
  · intro hh; cases hh

-- loop.example/guardsonnets/impl.sizeOf
noncomputable def I.sizeOf_T : List (Nat × D.Spec) := []
def I.sizeOf_ann : Nat → List Nat × List Nat
  | 3 => ([0, 3, 4], [3])
  | _ => ([], [])
noncomputable def I.sizeOf_F (args : List V) (h : List E) (κ : V → List E → R) : R := funC TD (tableK I.sizeOf_T) I.sizeOf_ann (drawOk (tableP I.sizeOf_T)) FUEL Try.f53 args h κ
noncomputable def I.sizeOf_L3 (n : Nat) (σ : St) (k : X → St → R) : R := iterC 0 (fun σ k => denC TD (tableK I.sizeOf_T) I.sizeOf_ann (drawOk (tableP I.sizeOf_T)) 0 FUEL ((findLoop 3 (Try.f53.body.getD .skip)).getD .skip) σ k) [0, 3, 4] [3] n σ k
noncomputable def I.sizeOf_k3 (κ : V → List E → R) : X → St → R := (afterC TD (tableK I.sizeOf_T) I.sizeOf_ann (drawOk (tableP I.sizeOf_T)) 0 FUEL 3 (Try.f53.body.getD .skip) (finC 0 Try.f53 κ)).getD (fun _ _ => none)
noncomputable def I.sizeOf_step3 {α : Type} (x0 : Int) (x3 : Int) (x4 : Int) (next_ : Int × Int → α) (out0_ : Int → α) (fail_ : α) : α :=
  (bif decide (x4 < 6) then (bif decide (x4 < 0) then fail_ else (next_ (IntKind.i64.wrap (x3 + bits BinOp.and IntKind.i64 (x0.fdiv (2 ^ min x4.toNat IntKind.i64.bits)) 1), IntKind.i64.wrap (x4 + 1)))) else (out0_ x3))
theorem I.sizeOf_step3_nat {α γ : Type} (g : α → γ) (x0 : Int) (x3 : Int) (x4 : Int) (next_ : Int × Int → α) (out0_ : Int → α) (fail_ : α) : g (I.sizeOf_step3 x0 x3 x4 next_ out0_ fail_) = I.sizeOf_step3 x0 x3 x4 (fun s => g (next_ s)) (fun d => g (out0_ d)) (g fail_) := by
  unfold I.sizeOf_step3; simp only [apply_cnd g, apply_optC g, apply_sumC g]
noncomputable def I.sizeOf_run3 (x0 : Int) : Nat → Int × Int → Option (Int)
  | 0, _ => none
  | n + 1, s_ => I.sizeOf_step3 x0 s_.1 s_.2 (I.sizeOf_run3 x0 n) (fun d => some d) none
theorem I.sizeOf_L3_run (x0 : Int) (n : Nat) (s_ : Int × Int) (k : X → St → R) : I.sizeOf_L3 n { n := 16, t := [(0, (.int .i64 x0)), (3, (.int .i64 s_.1)), (4, (.int .i64 s_.2))], h := [] } k = optC (I.sizeOf_run3 x0 n s_) (fun (r : Int) => k (.exit 0) { n := 16, t := [(3, (.int .i64 r))], h := [] }) none := by
  induction n generalizing s_ with
  | zero => rfl
  | succ n ih =>
    have hu : I.sizeOf_L3 (n + 1) { n := 16, t := [(0, (.int .i64 x0)), (3, (.int .i64 s_.1)), (4, (.int .i64 s_.2))], h := [] } k = I.sizeOf_step3 x0 s_.1 s_.2 (fun s_ => I.sizeOf_L3 n { n := 16, t := [(0, (.int .i64 x0)), (3, (.int .i64 s_.1)), (4, (.int .i64 s_.2))], h := [] } k) (fun d => k (.exit 0) { n := 16, t := [(3, (.int .i64 d))], h := [] }) none := by
      kernel_rfl
    have hs : (fun s_ : Int × Int => I.sizeOf_L3 n { n := 16, t := [(0, (.int .i64 x0)), (3, (.int .i64 s_.1)), (4, (.int .i64 s_.2))], h := [] } k) = fun s_ => optC (I.sizeOf_run3 x0 n s_) (fun (r : Int) => k (.exit 0) { n := 16, t := [(3, (.int .i64 r))], h := [] }) none := funext ih
    rw [hu, hs]
    exact (I.sizeOf_step3_nat (fun o => optC o (fun (r : Int) => k (.exit 0) { n := 16, t := [(3, (.int .i64 r))], h := [] }) none) x0 s_.1 s_.2 (I.sizeOf_run3 x0 n) (fun d => some d) none).symm
noncomputable def I.sizeOf_tree {α : Type} (set_ : Int) (leaf0_ : Int → α) (fail_ : α) : α :=
  (optC (I.sizeOf_run3 set_ FUEL (0, 0)) (fun qy_1 => (leaf0_ qy_1)) fail_)
theorem I.sizeOf_tree_nat {α γ : Type} (g : α → γ) (set_ : Int) (leaf0_ : Int → α) (fail_ : α) : g (I.sizeOf_tree set_ leaf0_ fail_) = I.sizeOf_tree set_ (fun d => g (leaf0_ d)) (g fail_) := by
  unfold I.sizeOf_tree; simp only [apply_cnd g, apply_optC g, apply_sumC g]
noncomputable def I.sizeOf_t (set_ : Int) : Option (Int) := I.sizeOf_tree set_ (fun d => some d) none
theorem I.sizeOf_den (set_ : Int) (κ : V → List E → R) : I.sizeOf_F [.int .i64 set_] [] κ = optC (I.sizeOf_t set_) (fun (r : Int) => κ (.int .i64 r) []) none := by
  have hu : I.sizeOf_F [.int .i64 set_] [] κ = I.sizeOf_tree set_ (fun d => κ (.int .i64 d) []) none := by
    refine Eq.trans (show I.sizeOf_F [.int .i64 set_] [] κ = (I.sizeOf_L3 FUEL { n := 16, t := [(0, (.int .i64 set_)), (3, (.int .i64 0)), (4, (.int .i64 0))], h := [] } (I.sizeOf_k3 κ)) by kernel_rfl) ?_
    refine (I.sizeOf_L3_run set_ FUEL (0, 0) (I.sizeOf_k3 κ)).trans (optC_congr (fun qy_1 => ?_))
    kernel_rfl
  rw [hu]
  exact (I.sizeOf_tree_nat (fun o => optC o (fun (r : Int) => κ (.int .i64 r) []) none) set_ (fun d => some d) none).symm
noncomputable def I.sizeOf_s : D.Spec where
  keep := false
  pure := true
  ds := [.invalid]
  sp := fun args h κ => match args, h with
    | [.int .i64 set_], [] => optC (I.sizeOf_t set_) (fun (r : Int) => κ (.int .i64 r) []) none
    | _, _ => none
theorem I.sizeOf_ok : SpecOk Try.prog 53 I.sizeOf_s := by
  refine SpecOk.of TDok mixed (T := I.sizeOf_T) ?_ (ann := I.sizeOf_ann) Try.func53 rfl (by decide +kernel) ?_ ?_ ?_
  · intro p hp; cases hp
  · intro args h κ r hh
    simp only [I.sizeOf_s] at hh
    split at hh
    · exact (I.sizeOf_den _ κ).trans hh
    · cases hh
  · intro args h κ r hh
    simp only [I.sizeOf_s] at hh ⊢
    split at hh
    · exact optC_law2 (F := fun (r : Int) κ => κ (.int .i64 r) []) (fun b κ r hb => ⟨_, _, hb, fun _ => rfl⟩) hh
    · cases hh
  · intro _ args h κ r hh
    simp only [I.sizeOf_s] at hh
    split at hh
    · exact ⟨rfl, fun _ => rfl⟩
    · cases hh

-- loop.example/guardsonnets/impl.WiresOf
noncomputable def I.WiresOf_T : List (Nat × D.Spec) := [(21, I.NetOk_s), (53, I.sizeOf_s)]
def I.WiresOf_ann : Nat → List Nat × List Nat
  | 5 => ([0, 3, 4], [3])
  | _ => ([], [])
noncomputable def I.WiresOf_F (args : List V) (h : List E) (κ : V → List E → R) : R := funC TD (tableK I.WiresOf_T) I.WiresOf_ann (drawOk (tableP I.WiresOf_T)) FUEL Try.f19 args h κ
noncomputable def I.WiresOf_L5 (n : Nat) (σ : St) (k : X → St → R) : R := iterC 0 (fun σ k => denC TD (tableK I.WiresOf_T) I.WiresOf_ann (drawOk (tableP I.WiresOf_T)) 0 FUEL ((findLoop 5 (Try.f19.body.getD .skip)).getD .skip) σ k) [0, 3, 4] [3] n σ k
noncomputable def I.WiresOf_k5 (κ : V → List E → R) : X → St → R := (afterC TD (tableK I.WiresOf_T) I.WiresOf_ann (drawOk (tableP I.WiresOf_T)) 0 FUEL 5 (Try.f19.body.getD .skip) (finC 0 Try.f19 κ)).getD (fun _ _ => none)
noncomputable def I.WiresOf_step5 {α : Type} (x0 : List Int) (x3 : Int) (x4 : Int) (next_ : Int × Int → α) (out0_ : Int → α) (fail_ : α) : α :=
  (bif decide (x4 < (↑x0.length : Int)) then (bif decide (0 ≤ x4) && decide (x4 < (↑x0.length : Int)) then (optC (I.sizeOf_t (eli x0 x4.toNat)) (fun c_2 => (next_ (IntKind.i64.wrap (x3 + c_2), IntKind.i64.wrap (x4 + 1)))) fail_) else fail_) else (out0_ x3))
theorem I.WiresOf_step5_nat {α γ : Type} (g : α → γ) (x0 : List Int) (x3 : Int) (x4 : Int) (next_ : Int × Int → α) (out0_ : Int → α) (fail_ : α) : g (I.WiresOf_step5 x0 x3 x4 next_ out0_ fail_) = I.WiresOf_step5 x0 x3 x4 (fun s => g (next_ s)) (fun d => g (out0_ d)) (g fail_) := by
  unfold I.WiresOf_step5; simp only [apply_cnd g, apply_optC g, apply_sumC g]
noncomputable def I.WiresOf_run5 (x0 : List Int) : Nat → Int × Int → Option (Int)
  | 0, _ => none
  | n + 1, s_ => I.WiresOf_step5 x0 s_.1 s_.2 (I.WiresOf_run5 x0 n) (fun d => some d) none
theorem I.WiresOf_L5_run (x0 : List Int) (n : Nat) (s_ : Int × Int) (k : X → St → R) : I.WiresOf_L5 n { n := 23, t := [(0, (.ro false (.ints .i64 x0))), (3, (.int .i64 s_.1)), (4, (.int .i64 s_.2))], h := [] } k = optC (I.WiresOf_run5 x0 n s_) (fun (r : Int) => k (.exit 0) { n := 23, t := [(3, (.int .i64 r))], h := [] }) none := by
  induction n generalizing s_ with
  | zero => rfl
  | succ n ih =>
    have hu : I.WiresOf_L5 (n + 1) { n := 23, t := [(0, (.ro false (.ints .i64 x0))), (3, (.int .i64 s_.1)), (4, (.int .i64 s_.2))], h := [] } k = I.WiresOf_step5 x0 s_.1 s_.2 (fun s_ => I.WiresOf_L5 n { n := 23, t := [(0, (.ro false (.ints .i64 x0))), (3, (.int .i64 s_.1)), (4, (.int .i64 s_.2))], h := [] } k) (fun d => k (.exit 0) { n := 23, t := [(3, (.int .i64 d))], h := [] }) none := by
      kernel_rfl
    have hs : (fun s_ : Int × Int => I.WiresOf_L5 n { n := 23, t := [(0, (.ro false (.ints .i64 x0))), (3, (.int .i64 s_.1)), (4, (.int .i64 s_.2))], h := [] } k) = fun s_ => optC (I.WiresOf_run5 x0 n s_) (fun (r : Int) => k (.exit 0) { n := 23, t := [(3, (.int .i64 r))], h := [] }) none := funext ih
    rw [hu, hs]
    exact (I.WiresOf_step5_nat (fun o => optC o (fun (r : Int) => k (.exit 0) { n := 23, t := [(3, (.int .i64 r))], h := [] }) none) x0 s_.1 s_.2 (I.WiresOf_run5 x0 n) (fun d => some d) none).symm
noncomputable def I.WiresOf_tree {α : Type} (net : List Int) (leaf0_ : Int → α) (fail_ : α) : α :=
  (optC (I.NetOk_t net) (fun c_1 => (bif !c_1 then (leaf0_ (-1)) else (optC (I.WiresOf_run5 net FUEL (0, 0)) (fun qy_3 => (leaf0_ (IntKind.i64.wrap (qy_3.tdiv 2)))) fail_))) fail_)
theorem I.WiresOf_tree_nat {α γ : Type} (g : α → γ) (net : List Int) (leaf0_ : Int → α) (fail_ : α) : g (I.WiresOf_tree net leaf0_ fail_) = I.WiresOf_tree net (fun d => g (leaf0_ d)) (g fail_) := by
  unfold I.WiresOf_tree; simp only [apply_cnd g, apply_optC g, apply_sumC g]
noncomputable def I.WiresOf_t (net : List Int) : Option (Int) := I.WiresOf_tree net (fun d => some d) none
theorem I.WiresOf_den (net : List Int) (κ : V → List E → R) : I.WiresOf_F [.ro false (.ints .i64 net)] [] κ = optC (I.WiresOf_t net) (fun (r : Int) => κ (.int .i64 r) []) none := by
  have hu : I.WiresOf_F [.ro false (.ints .i64 net)] [] κ = I.WiresOf_tree net (fun d => κ (.int .i64 d) []) none := by
    refine Eq.trans (show I.WiresOf_F [.ro false (.ints .i64 net)] [] κ = (optC (I.NetOk_t net) (fun c_1 => (bif !c_1 then (κ (.int .i64 (-1)) []) else (I.WiresOf_L5 FUEL { n := 23, t := [(0, (.ro false (.ints .i64 net))), (3, (.int .i64 0)), (4, (.int .i64 0))], h := [] } (I.WiresOf_k5 κ)))) none) by kernel_rfl) ?_
    refine optC_congr (fun c_1 => ?_)
    refine cnd_congr ?_ ?_
    · kernel_rfl
    · refine (I.WiresOf_L5_run net FUEL (0, 0) (I.WiresOf_k5 κ)).trans (optC_congr (fun qy_3 => ?_))
      kernel_rfl
  rw [hu]
  exact (I.WiresOf_tree_nat (fun o => optC o (fun (r : Int) => κ (.int .i64 r) []) none) net (fun d => some d) none).symm
noncomputable def I.WiresOf_s : D.Spec where
  keep := false
  pure := true
  ds := [.int .i64]
  sp := fun args h κ => match args, h with
    | [.ro false (.ints .i64 net)], [] => optC (I.WiresOf_t net) (fun (r : Int) => κ (.int .i64 r) []) none
    | _, _ => none
theorem I.WiresOf_ok : SpecOk Try.prog 19 I.WiresOf_s := by
  refine SpecOk.of TDok mixed (T := I.WiresOf_T) ?_ (ann := I.WiresOf_ann) Try.func19 rfl (by decide +kernel) ?_ ?_ ?_
  · intro p hp
    simp only [I.WiresOf_T, List.mem_cons, List.not_mem_nil, or_false] at hp
    rcases hp with rfl | rfl
    · exact I.NetOk_ok
    · exact I.sizeOf_ok
  · intro args h κ r hh
    simp only [I.WiresOf_s] at hh
    split at hh
    · exact (I.WiresOf_den _ κ).trans hh
    · cases hh
  · intro args h κ r hh
    simp only [I.WiresOf_s] at hh ⊢
    split at hh
    · exact optC_law2 (F := fun (r : Int) κ => κ (.int .i64 r) []) (fun b κ r hb => ⟨_, _, hb, fun _ => rfl⟩) hh
    · cases hh
  · intro _ args h κ r hh
    simp only [I.WiresOf_s] at hh
    split at hh
    · exact ⟨rfl, fun _ => rfl⟩
    · cases hh

-- loop.example/guardsonnets/spec.l1Size
noncomputable def S.l1Size_T : List (Nat × D.Spec) := []
def S.l1Size_ann : Nat → List Nat × List Nat
  | 2 => ([0, 3], [3])
  | _ => ([], [])
noncomputable def S.l1Size_F (args : List V) (h : List E) (κ : V → List E → R) : R := funC TD (tableK S.l1Size_T) S.l1Size_ann (drawOk (tableP S.l1Size_T)) FUEL Try.f54 args h κ
noncomputable def S.l1Size_L2 (n : Nat) (σ : St) (k : X → St → R) : R := iterC 0 (fun σ k => denC TD (tableK S.l1Size_T) S.l1Size_ann (drawOk (tableP S.l1Size_T)) 0 FUEL ((findLoop 2 (Try.f54.body.getD .skip)).getD .skip) σ k) [0, 3] [3] n σ k
noncomputable def S.l1Size_k2 (κ : V → List E → R) : X → St → R := (afterC TD (tableK S.l1Size_T) S.l1Size_ann (drawOk (tableP S.l1Size_T)) 0 FUEL 2 (Try.f54.body.getD .skip) (finC 0 Try.f54 κ)).getD (fun _ _ => none)
noncomputable def S.l1Size_step2 {α : Type} (x0 : Int) (x3 : Int) (next_ : Int × Int → α) (out0_ : Int → α) (fail_ : α) : α :=
  (bif decide (x0 > 0) then (next_ (IntKind.i64.wrap (x0.tdiv 2), IntKind.i64.wrap (x3 + x0.tmod 2))) else (out0_ x3))
theorem S.l1Size_step2_nat {α γ : Type} (g : α → γ) (x0 : Int) (x3 : Int) (next_ : Int × Int → α) (out0_ : Int → α) (fail_ : α) : g (S.l1Size_step2 x0 x3 next_ out0_ fail_) = S.l1Size_step2 x0 x3 (fun s => g (next_ s)) (fun d => g (out0_ d)) (g fail_) := by
  unfold S.l1Size_step2; simp only [apply_cnd g, apply_optC g, apply_sumC g]
noncomputable def S.l1Size_run2 : Nat → Int × Int → Option (Int)
  | 0, _ => none
  | n + 1, s_ => S.l1Size_step2 s_.1 s_.2 (S.l1Size_run2 n) (fun d => some d) none
theorem S.l1Size_L2_run (n : Nat) (s_ : Int × Int) (k : X → St → R) : S.l1Size_L2 n { n := 13, t := [(0, (.int .i64 s_.1)), (3, (.int .i64 s_.2))], h := [] } k = optC (S.l1Size_run2 n s_) (fun (r : Int) => k (.exit 0) { n := 13, t := [(3, (.int .i64 r))], h := [] }) none := by
  induction n generalizing s_ with
  | zero => rfl
  | succ n ih =>
    have hu : S.l1Size_L2 (n + 1) { n := 13, t := [(0, (.int .i64 s_.1)), (3, (.int .i64 s_.2))], h := [] } k = S.l1Size_step2 s_.1 s_.2 (fun s_ => S.l1Size_L2 n { n := 13, t := [(0, (.int .i64 s_.1)), (3, (.int .i64 s_.2))], h := [] } k) (fun d => k (.exit 0) { n := 13, t := [(3, (.int .i64 d))], h := [] }) none := by
      kernel_rfl
    have hs : (fun s_ : Int × Int => S.l1Size_L2 n { n := 13, t := [(0, (.int .i64 s_.1)), (3, (.int .i64 s_.2))], h := [] } k) = fun s_ => optC (S.l1Size_run2 n s_) (fun (r : Int) => k (.exit 0) { n := 13, t := [(3, (.int .i64 r))], h := [] }) none := funext ih
    rw [hu, hs]
    exact (S.l1Size_step2_nat (fun o => optC o (fun (r : Int) => k (.exit 0) { n := 13, t := [(3, (.int .i64 r))], h := [] }) none) s_.1 s_.2 (S.l1Size_run2 n) (fun d => some d) none).symm
noncomputable def S.l1Size_tree {α : Type} (set_ : Int) (leaf0_ : Int → α) (fail_ : α) : α :=
  (optC (S.l1Size_run2 FUEL (set_, 0)) (fun qy_1 => (leaf0_ qy_1)) fail_)
theorem S.l1Size_tree_nat {α γ : Type} (g : α → γ) (set_ : Int) (leaf0_ : Int → α) (fail_ : α) : g (S.l1Size_tree set_ leaf0_ fail_) = S.l1Size_tree set_ (fun d => g (leaf0_ d)) (g fail_) := by
  unfold S.l1Size_tree; simp only [apply_cnd g, apply_optC g, apply_sumC g]
noncomputable def S.l1Size_t (set_ : Int) : Option (Int) := S.l1Size_tree set_ (fun d => some d) none
theorem S.l1Size_den (set_ : Int) (κ : V → List E → R) : S.l1Size_F [.int .i64 set_] [] κ = optC (S.l1Size_t set_) (fun (r : Int) => κ (.int .i64 r) []) none := by
  have hu : S.l1Size_F [.int .i64 set_] [] κ = S.l1Size_tree set_ (fun d => κ (.int .i64 d) []) none := by
    refine Eq.trans (show S.l1Size_F [.int .i64 set_] [] κ = (S.l1Size_L2 FUEL { n := 13, t := [(0, (.int .i64 set_)), (3, (.int .i64 0))], h := [] } (S.l1Size_k2 κ)) by kernel_rfl) ?_
    refine (S.l1Size_L2_run FUEL (set_, 0) (S.l1Size_k2 κ)).trans (optC_congr (fun qy_1 => ?_))
    kernel_rfl
  rw [hu]
  exact (S.l1Size_tree_nat (fun o => optC o (fun (r : Int) => κ (.int .i64 r) []) none) set_ (fun d => some d) none).symm
noncomputable def S.l1Size_s : D.Spec where
  keep := false
  pure := true
  ds := [.invalid]
  sp := fun args h κ => match args, h with
    | [.int .i64 set_], [] => optC (S.l1Size_t set_) (fun (r : Int) => κ (.int .i64 r) []) none
    | _, _ => none
theorem S.l1Size_ok : SpecOk Try.prog 54 S.l1Size_s := by
  refine SpecOk.of TDok mixed (T := S.l1Size_T) ?_ (ann := S.l1Size_ann) Try.func54 rfl (by decide +kernel) ?_ ?_ ?_
  · intro p hp; cases hp
  · intro args h κ r hh
    simp only [S.l1Size_s] at hh
    split at hh
    · exact (S.l1Size_den _ κ).trans hh
    · cases hh
  · intro args h κ r hh
    simp only [S.l1Size_s] at hh ⊢
    split at hh
    · exact optC_law2 (F := fun (r : Int) κ => κ (.int .i64 r) []) (fun b κ r hb => ⟨_, _, hb, fun _ => rfl⟩) hh
    · cases hh
  · intro _ args h κ r hh
    simp only [S.l1Size_s] at hh
    split at hh
    · exact ⟨rfl, fun _ => rfl⟩
    · cases hh

-- loop.example/guardsonnets/spec.WiresOf
noncomputable def S.WiresOf_T : List (Nat × D.Spec) := [(45, S.NetOk_s), (54, S.l1Size_s)]
def S.WiresOf_ann : Nat → List Nat × List Nat
  | 5 => ([0, 3, 4], [3])
  | _ => ([], [])
noncomputable def S.WiresOf_F (args : List V) (h : List E) (κ : V → List E → R) : R := funC TD (tableK S.WiresOf_T) S.WiresOf_ann (drawOk (tableP S.WiresOf_T)) FUEL Try.f20 args h κ
noncomputable def S.WiresOf_L5 (n : Nat) (σ : St) (k : X → St → R) : R := iterC 0 (fun σ k => denC TD (tableK S.WiresOf_T) S.WiresOf_ann (drawOk (tableP S.WiresOf_T)) 0 FUEL ((findLoop 5 (Try.f20.body.getD .skip)).getD .skip) σ k) [0, 3, 4] [3] n σ k
noncomputable def S.WiresOf_k5 (κ : V → List E → R) : X → St → R := (afterC TD (tableK S.WiresOf_T) S.WiresOf_ann (drawOk (tableP S.WiresOf_T)) 0 FUEL 5 (Try.f20.body.getD .skip) (finC 0 Try.f20 κ)).getD (fun _ _ => none)
noncomputable def S.WiresOf_step5 {α : Type} (x0 : List Int) (x3 : Int) (x4 : Int) (next_ : Int × Int → α) (out0_ : Int → α) (fail_ : α) : α :=
  (bif decide (x4 < (↑x0.length : Int)) then (bif decide (0 ≤ x4) && decide (x4 < (↑x0.length : Int)) then (optC (S.l1Size_t (eli x0 x4.toNat)) (fun c_2 => (next_ (IntKind.i64.wrap (x3 + c_2), IntKind.i64.wrap (x4 + 1)))) fail_) else fail_) else (out0_ x3))
theorem S.WiresOf_step5_nat {α γ : Type} (g : α → γ) (x0 : List Int) (x3 : Int) (x4 : Int) (next_ : Int × Int → α) (out0_ : Int → α) (fail_ : α) : g (S.WiresOf_step5 x0 x3 x4 next_ out0_ fail_) = S.WiresOf_step5 x0 x3 x4 (fun s => g (next_ s)) (fun d => g (out0_ d)) (g fail_) := by
  unfold S.WiresOf_step5; simp only [apply_cnd g, apply_optC g, apply_sumC g]
noncomputable def S.WiresOf_run5 (x0 : List Int) : Nat → Int × Int → Option (Int)
  | 0, _ => none
  | n + 1, s_ => S.WiresOf_step5 x0 s_.1 s_.2 (S.WiresOf_run5 x0 n) (fun d => some d) none
theorem S.WiresOf_L5_run (x0 : List Int) (n : Nat) (s_ : Int × Int) (k : X → St → R) : S.WiresOf_L5 n { n := 23, t := [(0, (.ro false (.ints .i64 x0))), (3, (.int .i64 s_.1)), (4, (.int .i64 s_.2))], h := [] } k = optC (S.WiresOf_run5 x0 n s_) (fun (r : Int) => k (.exit 0) { n := 23, t := [(3, (.int .i64 r))], h := [] }) none := by
  induction n generalizing s_ with
  | zero => rfl
  | succ n ih =>
    have hu : S.WiresOf_L5 (n + 1) { n := 23, t := [(0, (.ro false (.ints .i64 x0))), (3, (.int .i64 s_.1)), (4, (.int .i64 s_.2))], h := [] } k = S.WiresOf_step5 x0 s_.1 s_.2 (fun s_ => S.WiresOf_L5 n { n := 23, t := [(0, (.ro false (.ints .i64 x0))), (3, (.int .i64 s_.1)), (4, (.int .i64 s_.2))], h := [] } k) (fun d => k (.exit 0) { n := 23, t := [(3, (.int .i64 d))], h := [] }) none := by
      kernel_rfl
    have hs : (fun s_ : Int × Int => S.WiresOf_L5 n { n := 23, t := [(0, (.ro false (.ints .i64 x0))), (3, (.int .i64 s_.1)), (4, (.int .i64 s_.2))], h := [] } k) = fun s_ => optC (S.WiresOf_run5 x0 n s_) (fun (r : Int) => k (.exit 0) { n := 23, t := [(3, (.int .i64 r))], h := [] }) none := funext ih
    rw [hu, hs]
    exact (S.WiresOf_step5_nat (fun o => optC o (fun (r : Int) => k (.exit 0) { n := 23, t := [(3, (.int .i64 r))], h := [] }) none) x0 s_.1 s_.2 (S.WiresOf_run5 x0 n) (fun d => some d) none).symm
noncomputable def S.WiresOf_tree {α : Type} (net : List Int) (leaf0_ : Int → α) (fail_ : α) : α :=
  (optC (S.NetOk_t net) (fun c_1 => (bif !c_1 then (leaf0_ (-1)) else (optC (S.WiresOf_run5 net FUEL (0, 0)) (fun qy_3 => (leaf0_ (IntKind.i64.wrap (qy_3.tdiv 2)))) fail_))) fail_)
theorem S.WiresOf_tree_nat {α γ : Type} (g : α → γ) (net : List Int) (leaf0_ : Int → α) (fail_ : α) : g (S.WiresOf_tree net leaf0_ fail_) = S.WiresOf_tree net (fun d => g (leaf0_ d)) (g fail_) := by
  unfold S.WiresOf_tree; simp only [apply_cnd g, apply_optC g, apply_sumC g]
noncomputable def S.WiresOf_t (net : List Int) : Option (Int) := S.WiresOf_tree net (fun d => some d) none
theorem S.WiresOf_den (net : List Int) (κ : V → List E → R) : S.WiresOf_F [.ro false (.ints .i64 net)] [] κ = optC (S.WiresOf_t net) (fun (r : Int) => κ (.int .i64 r) []) none := by
  have hu : S.WiresOf_F [.ro false (.ints .i64 net)] [] κ = S.WiresOf_tree net (fun d => κ (.int .i64 d) []) none := by
    refine Eq.trans (show S.WiresOf_F [.ro false (.ints .i64 net)] [] κ = (optC (S.NetOk_t net) (fun c_1 => (bif !c_1 then (κ (.int .i64 (-1)) []) else (S.WiresOf_L5 FUEL { n := 23, t := [(0, (.ro false (.ints .i64 net))), (3, (.int .i64 0)), (4, (.int .i64 0))], h := [] } (S.WiresOf_k5 κ)))) none) by kernel_rfl) ?_
    refine optC_congr (fun c_1 => ?_)
    refine cnd_congr ?_ ?_
    · kernel_rfl
    · refine (S.WiresOf_L5_run net FUEL (0, 0) (S.WiresOf_k5 κ)).trans (optC_congr (fun qy_3 => ?_))
      kernel_rfl
  rw [hu]
  exact (S.WiresOf_tree_nat (fun o => optC o (fun (r : Int) => κ (.int .i64 r) []) none) net (fun d => some d) none).symm
noncomputable def S.WiresOf_s : D.Spec where
  keep := false
  pure := true
  ds := [.int .i64]
  sp := fun args h κ => match args, h with
    | [.ro false (.ints .i64 net)], [] => optC (S.WiresOf_t net) (fun (r : Int) => κ (.int .i64 r) []) none
    | _, _ => none
theorem S.WiresOf_ok : SpecOk Try.prog 20 S.WiresOf_s := by
  refine SpecOk.of TDok mixed (T := S.WiresOf_T) ?_ (ann := S.WiresOf_ann) Try.func20 rfl (by decide +kernel) ?_ ?_ ?_
  · intro p hp
    simp only [S.WiresOf_T, List.mem_cons, List.not_mem_nil, or_false] at hp
    rcases hp with rfl | rfl
    · exact S.NetOk_ok
    · exact S.l1Size_ok
  · intro args h κ r hh
    simp only [S.WiresOf_s] at hh
    split at hh
    · exact (S.WiresOf_den _ κ).trans hh
    · cases hh
  · intro args h κ r hh
    simp only [S.WiresOf_s] at hh ⊢
    split at hh
    · exact optC_law2 (F := fun (r : Int) κ => κ (.int .i64 r) []) (fun b κ r hb => ⟨_, _, hb, fun _ => rfl⟩) hh
    · cases hh
  · intro _ args h κ r hh
    simp only [S.WiresOf_s] at hh
    split at hh
    · exact ⟨rfl, fun _ => rfl⟩
    · cases hh

-- loop.example/guardsonnets/laws.sizeOf
noncomputable def L.sizeOf_T : List (Nat × D.Spec) := []
def L.sizeOf_ann : Nat → List Nat × List Nat
  | 2 => ([0, 3], [3])
  | _ => ([], [])
noncomputable def L.sizeOf_F (args : List V) (h : List E) (κ : V → List E → R) : R := funC TD (tableK L.sizeOf_T) L.sizeOf_ann (drawOk (tableP L.sizeOf_T)) FUEL Try.f22 args h κ
noncomputable def L.sizeOf_L2 (n : Nat) (σ : St) (k : X → St → R) : R := iterC 0 (fun σ k => denC TD (tableK L.sizeOf_T) L.sizeOf_ann (drawOk (tableP L.sizeOf_T)) 0 FUEL ((findLoop 2 (Try.f22.body.getD .skip)).getD .skip) σ k) [0, 3] [3] n σ k
noncomputable def L.sizeOf_k2 (κ : V → List E → R) : X → St → R := (afterC TD (tableK L.sizeOf_T) L.sizeOf_ann (drawOk (tableP L.sizeOf_T)) 0 FUEL 2 (Try.f22.body.getD .skip) (finC 0 Try.f22 κ)).getD (fun _ _ => none)
noncomputable def L.sizeOf_step2 {α : Type} (x0 : Int) (x3 : Int) (next_ : Int × Int → α) (out0_ : Int → α) (fail_ : α) : α :=
  (bif decide (x0 > 0) then (next_ (IntKind.i64.wrap (x0.tdiv 2), IntKind.i64.wrap (x3 + x0.tmod 2))) else (out0_ x3))
theorem L.sizeOf_step2_nat {α γ : Type} (g : α → γ) (x0 : Int) (x3 : Int) (next_ : Int × Int → α) (out0_ : Int → α) (fail_ : α) : g (L.sizeOf_step2 x0 x3 next_ out0_ fail_) = L.sizeOf_step2 x0 x3 (fun s => g (next_ s)) (fun d => g (out0_ d)) (g fail_) := by
  unfold L.sizeOf_step2; simp only [apply_cnd g, apply_optC g, apply_sumC g]
noncomputable def L.sizeOf_run2 : Nat → Int × Int → Option (Int)
  | 0, _ => none
  | n + 1, s_ => L.sizeOf_step2 s_.1 s_.2 (L.sizeOf_run2 n) (fun d => some d) none
theorem L.sizeOf_L2_run (n : Nat) (s_ : Int × Int) (k : X → St → R) : L.sizeOf_L2 n { n := 13, t := [(0, (.int .i64 s_.1)), (3, (.int .i64 s_.2))], h := [] } k = optC (L.sizeOf_run2 n s_) (fun (r : Int) => k (.exit 0) { n := 13, t := [(3, (.int .i64 r))], h := [] }) none := by
  induction n generalizing s_ with
  | zero => rfl
  | succ n ih =>
    have hu : L.sizeOf_L2 (n + 1) { n := 13, t := [(0, (.int .i64 s_.1)), (3, (.int .i64 s_.2))], h := [] } k = L.sizeOf_step2 s_.1 s_.2 (fun s_ => L.sizeOf_L2 n { n := 13, t := [(0, (.int .i64 s_.1)), (3, (.int .i64 s_.2))], h := [] } k) (fun d => k (.exit 0) { n := 13, t := [(3, (.int .i64 d))], h := [] }) none := by
      kernel_rfl
    have hs : (fun s_ : Int × Int => L.sizeOf_L2 n { n := 13, t := [(0, (.int .i64 s_.1)), (3, (.int .i64 s_.2))], h := [] } k) = fun s_ => optC (L.sizeOf_run2 n s_) (fun (r : Int) => k (.exit 0) { n := 13, t := [(3, (.int .i64 r))], h := [] }) none := funext ih
    rw [hu, hs]
    exact (L.sizeOf_step2_nat (fun o => optC o (fun (r : Int) => k (.exit 0) { n := 13, t := [(3, (.int .i64 r))], h := [] }) none) s_.1 s_.2 (L.sizeOf_run2 n) (fun d => some d) none).symm
noncomputable def L.sizeOf_tree {α : Type} (n_ : Int) (leaf0_ : Int → α) (fail_ : α) : α :=
  (optC (L.sizeOf_run2 FUEL (n_, 0)) (fun qy_1 => (leaf0_ qy_1)) fail_)
theorem L.sizeOf_tree_nat {α γ : Type} (g : α → γ) (n_ : Int) (leaf0_ : Int → α) (fail_ : α) : g (L.sizeOf_tree n_ leaf0_ fail_) = L.sizeOf_tree n_ (fun d => g (leaf0_ d)) (g fail_) := by
  unfold L.sizeOf_tree; simp only [apply_cnd g, apply_optC g, apply_sumC g]
noncomputable def L.sizeOf_t (n_ : Int) : Option (Int) := L.sizeOf_tree n_ (fun d => some d) none
theorem L.sizeOf_den (n_ : Int) (κ : V → List E → R) : L.sizeOf_F [.int .i64 n_] [] κ = optC (L.sizeOf_t n_) (fun (r : Int) => κ (.int .i64 r) []) none := by
  have hu : L.sizeOf_F [.int .i64 n_] [] κ = L.sizeOf_tree n_ (fun d => κ (.int .i64 d) []) none := by
    refine Eq.trans (show L.sizeOf_F [.int .i64 n_] [] κ = (L.sizeOf_L2 FUEL { n := 13, t := [(0, (.int .i64 n_)), (3, (.int .i64 0))], h := [] } (L.sizeOf_k2 κ)) by kernel_rfl) ?_
    refine (L.sizeOf_L2_run FUEL (n_, 0) (L.sizeOf_k2 κ)).trans (optC_congr (fun qy_1 => ?_))
    kernel_rfl
  rw [hu]
  exact (L.sizeOf_tree_nat (fun o => optC o (fun (r : Int) => κ (.int .i64 r) []) none) n_ (fun d => some d) none).symm
noncomputable def L.sizeOf_s : D.Spec where
  keep := false
  pure := true
  ds := [.invalid]
  sp := fun args h κ => match args, h with
    | [.int .i64 n_], [] => optC (L.sizeOf_t n_) (fun (r : Int) => κ (.int .i64 r) []) none
    | _, _ => none
theorem L.sizeOf_ok : SpecOk Try.prog 22 L.sizeOf_s := by
  refine SpecOk.of TDok mixed (T := L.sizeOf_T) ?_ (ann := L.sizeOf_ann) Try.func22 rfl (by decide +kernel) ?_ ?_ ?_
  · intro p hp; cases hp
  · intro args h κ r hh
    simp only [L.sizeOf_s] at hh
    split at hh
    · exact (L.sizeOf_den _ κ).trans hh
    · cases hh
  · intro args h κ r hh
    simp only [L.sizeOf_s] at hh ⊢
    split at hh
    · exact optC_law2 (F := fun (r : Int) κ => κ (.int .i64 r) []) (fun b κ r hb => ⟨_, _, hb, fun _ => rfl⟩) hh
    · cases hh
  · intro _ args h κ r hh
    simp only [L.sizeOf_s] at hh
    split at hh
    · exact ⟨rfl, fun _ => rfl⟩
    · cases hh

-- loop.example/guardsonnets/impl.partIn
noncomputable def I.partIn_T : List (Nat × D.Spec) := [(49, I.seenIn_s)]
def I.partIn_ann : Nat → List Nat × List Nat
  | 3 => ([0, 5, 6], [5])
  | _ => ([], [])
noncomputable def I.partIn_F (args : List V) (h : List E) (κ : V → List E → R) : R := funC TD (tableK I.partIn_T) I.partIn_ann (drawOk (tableP I.partIn_T)) FUEL Try.f57 args h κ
noncomputable def I.partIn_L3 (n : Nat) (σ : St) (k : X → St → R) : R := iterC 0 (fun σ k => denC TD (tableK I.partIn_T) I.partIn_ann (drawOk (tableP I.partIn_T)) 0 FUEL ((findLoop 3 (Try.f57.body.getD .skip)).getD .skip) σ k) [0, 5, 6] [5] n σ k
noncomputable def I.partIn_k3 (κ : V → List E → R) : X → St → R := (afterC TD (tableK I.partIn_T) I.partIn_ann (drawOk (tableP I.partIn_T)) 0 FUEL 3 (Try.f57.body.getD .skip) (finC 0 Try.f57 κ)).getD (fun _ _ => none)
noncomputable def I.partIn_step3 {α : Type} (x0 : List Int) (x5 : Int) (x6 : Int) (next_ : Int × Int → α) (out0_ : Int → α) (fail_ : α) : α :=
  (bif decide (x6 < (↑x0.length : Int)) then (optC (I.seenIn_t x0 x5) (fun c_1 => (next_ (c_1, IntKind.i64.wrap (x6 + 1)))) fail_) else (out0_ x5))
theorem I.partIn_step3_nat {α γ : Type} (g : α → γ) (x0 : List Int) (x5 : Int) (x6 : Int) (next_ : Int × Int → α) (out0_ : Int → α) (fail_ : α) : g (I.partIn_step3 x0 x5 x6 next_ out0_ fail_) = I.partIn_step3 x0 x5 x6 (fun s => g (next_ s)) (fun d => g (out0_ d)) (g fail_) := by
  unfold I.partIn_step3; simp only [apply_cnd g, apply_optC g, apply_sumC g]
noncomputable def I.partIn_run3 (x0 : List Int) : Nat → Int × Int → Option (Int)
  | 0, _ => none
  | n + 1, s_ => I.partIn_step3 x0 s_.1 s_.2 (I.partIn_run3 x0 n) (fun d => some d) none
theorem I.partIn_L3_run (x0 : List Int) (n : Nat) (s_ : Int × Int) (k : X → St → R) : I.partIn_L3 n { n := 19, t := [(0, (.ro false (.ints .i64 x0))), (5, (.int .i64 s_.1)), (6, (.int .i64 s_.2))], h := [] } k = optC (I.partIn_run3 x0 n s_) (fun (r : Int) => k (.exit 0) { n := 19, t := [(5, (.int .i64 r))], h := [] }) none := by
  induction n generalizing s_ with
  | zero => rfl
  | succ n ih =>
    have hu : I.partIn_L3 (n + 1) { n := 19, t := [(0, (.ro false (.ints .i64 x0))), (5, (.int .i64 s_.1)), (6, (.int .i64 s_.2))], h := [] } k = I.partIn_step3 x0 s_.1 s_.2 (fun s_ => I.partIn_L3 n { n := 19, t := [(0, (.ro false (.ints .i64 x0))), (5, (.int .i64 s_.1)), (6, (.int .i64 s_.2))], h := [] } k) (fun d => k (.exit 0) { n := 19, t := [(5, (.int .i64 d))], h := [] }) none := by
      kernel_rfl
    have hs : (fun s_ : Int × Int => I.partIn_L3 n { n := 19, t := [(0, (.ro false (.ints .i64 x0))), (5, (.int .i64 s_.1)), (6, (.int .i64 s_.2))], h := [] } k) = fun s_ => optC (I.partIn_run3 x0 n s_) (fun (r : Int) => k (.exit 0) { n := 19, t := [(5, (.int .i64 r))], h := [] }) none := funext ih
    rw [hu, hs]
    exact (I.partIn_step3_nat (fun o => optC o (fun (r : Int) => k (.exit 0) { n := 19, t := [(5, (.int .i64 r))], h := [] }) none) x0 s_.1 s_.2 (I.partIn_run3 x0 n) (fun d => some d) none).symm
noncomputable def I.partIn_tree {α : Type} (net : List Int) (place : Int) (leaf0_ : Int → α) (fail_ : α) : α :=
  (bif decide (place < 0) then fail_ else (optC (I.partIn_run3 net FUEL (IntKind.i64.wrap (1 * 2 ^ min place.toNat IntKind.i64.bits), 1)) (fun qy_2 => (leaf0_ qy_2)) fail_))
theorem I.partIn_tree_nat {α γ : Type} (g : α → γ) (net : List Int) (place : Int) (leaf0_ : Int → α) (fail_ : α) : g (I.partIn_tree net place leaf0_ fail_) = I.partIn_tree net place (fun d => g (leaf0_ d)) (g fail_) := by
  unfold I.partIn_tree; simp only [apply_cnd g, apply_optC g, apply_sumC g]
noncomputable def I.partIn_t (net : List Int) (place : Int) : Option (Int) := I.partIn_tree net place (fun d => some d) none
theorem I.partIn_den (net : List Int) (place : Int) (κ : V → List E → R) : I.partIn_F [.ro false (.ints .i64 net), .int .i64 place] [] κ = optC (I.partIn_t net place) (fun (r : Int) => κ (.int .i64 r) []) none := by
  have hu : I.partIn_F [.ro false (.ints .i64 net), .int .i64 place] [] κ = I.partIn_tree net place (fun d => κ (.int .i64 d) []) none := by
    refine Eq.trans (show I.partIn_F [.ro false (.ints .i64 net), .int .i64 place] [] κ = (bif decide (place < 0) then none else (I.partIn_L3 FUEL { n := 19, t := [(0, (.ro false (.ints .i64 net))), (5, (.int .i64 (IntKind.i64.wrap (1 * 2 ^ min place.toNat IntKind.i64.bits)))), (6, (.int .i64 1))], h := [] } (I.partIn_k3 κ))) by kernel_rfl) ?_
    refine cnd_congr ?_ ?_
    · kernel_rfl
    · refine (I.partIn_L3_run net FUEL (IntKind.i64.wrap (1 * 2 ^ min place.toNat IntKind.i64.bits), 1) (I.partIn_k3 κ)).trans (optC_congr (fun qy_2 => ?_))
      kernel_rfl
  rw [hu]
  exact (I.partIn_tree_nat (fun o => optC o (fun (r : Int) => κ (.int .i64 r) []) none) net place (fun d => some d) none).symm
noncomputable def I.partIn_s : D.Spec where
  keep := false
  pure := true
  ds := [.int .i64, .invalid]
  sp := fun args h κ => match args, h with
    | [.ro false (.ints .i64 net), .int .i64 place], [] => optC (I.partIn_t net place) (fun (r : Int) => κ (.int .i64 r) []) none
    | _, _ => none
theorem I.partIn_ok : SpecOk Try.prog 57 I.partIn_s := by
  refine SpecOk.of TDok mixed (T := I.partIn_T) ?_ (ann := I.partIn_ann) Try.func57 rfl (by decide +kernel) ?_ ?_ ?_
  · intro p hp
    simp only [I.partIn_T, List.mem_cons, List.not_mem_nil, or_false] at hp
    rcases hp with rfl
    · exact I.seenIn_ok
  · intro args h κ r hh
    simp only [I.partIn_s] at hh
    split at hh
    · exact (I.partIn_den _ _ κ).trans hh
    · cases hh
  · intro args h κ r hh
    simp only [I.partIn_s] at hh ⊢
    split at hh
    · exact optC_law2 (F := fun (r : Int) κ => κ (.int .i64 r) []) (fun b κ r hb => ⟨_, _, hb, fun _ => rfl⟩) hh
    · cases hh
  · intro _ args h κ r hh
    simp only [I.partIn_s] at hh
    split at hh
    · exact ⟨rfl, fun _ => rfl⟩
    · cases hh

-- loop.example/guardsonnets/impl.PartMany
noncomputable def I.PartMany_T : List (Nat × D.Spec) := [(21, I.NetOk_s), (55, I.hasPlace_s), (57, I.partIn_s)]
def I.PartMany_ann : Nat → List Nat × List Nat
  | 6 => ([0, 3, 4, 5], [3])
  | _ => ([], [])
noncomputable def I.PartMany_F (args : List V) (h : List E) (κ : V → List E → R) : R := funC TD (tableK I.PartMany_T) I.PartMany_ann (drawOk (tableP I.PartMany_T)) FUEL Try.f23 args h κ
noncomputable def I.PartMany_L6 (n : Nat) (σ : St) (k : X → St → R) : R := iterC 0 (fun σ k => denC TD (tableK I.PartMany_T) I.PartMany_ann (drawOk (tableP I.PartMany_T)) 0 FUEL ((findLoop 6 (Try.f23.body.getD .skip)).getD .skip) σ k) [0, 3, 4, 5] [3] n σ k
noncomputable def I.PartMany_k6 (κ : V → List E → R) : X → St → R := (afterC TD (tableK I.PartMany_T) I.PartMany_ann (drawOk (tableP I.PartMany_T)) 0 FUEL 6 (Try.f23.body.getD .skip) (finC 0 Try.f23 κ)).getD (fun _ _ => none)
noncomputable def I.PartMany_step6 {α : Type} (x0 : List Int) (x3 : Int) (x4 : Int) (x5 : Int) (next_ : Int × Int × Int → α) (out0_ : Int → α) (fail_ : α) : α :=
  (bif decide (x5 < (↑x0.length : Int)) then (optC (I.hasPlace_t x4 x5) (fun c_2 => (bif !c_2 then (optC (I.partIn_t x0 x5) (fun c_3 => (next_ (IntKind.i64.wrap (x3 + 1), bits BinOp.or IntKind.i64 x4 c_3, IntKind.i64.wrap (x5 + 1)))) fail_) else (next_ (x3, x4, IntKind.i64.wrap (x5 + 1))))) fail_) else (out0_ x3))
theorem I.PartMany_step6_nat {α γ : Type} (g : α → γ) (x0 : List Int) (x3 : Int) (x4 : Int) (x5 : Int) (next_ : Int × Int × Int → α) (out0_ : Int → α) (fail_ : α) : g (I.PartMany_step6 x0 x3 x4 x5 next_ out0_ fail_) = I.PartMany_step6 x0 x3 x4 x5 (fun s => g (next_ s)) (fun d => g (out0_ d)) (g fail_) := by
  unfold I.PartMany_step6; simp only [apply_cnd g, apply_optC g, apply_sumC g]
noncomputable def I.PartMany_run6 (x0 : List Int) : Nat → Int × Int × Int → Option (Int)
  | 0, _ => none
  | n + 1, s_ => I.PartMany_step6 x0 s_.1 s_.2.1 s_.2.2 (I.PartMany_run6 x0 n) (fun d => some d) none
theorem I.PartMany_L6_run (x0 : List Int) (n : Nat) (s_ : Int × Int × Int) (k : X → St → R) : I.PartMany_L6 n { n := 27, t := [(0, (.ro false (.ints .i64 x0))), (3, (.int .i64 s_.1)), (4, (.int .i64 s_.2.1)), (5, (.int .i64 s_.2.2))], h := [] } k = optC (I.PartMany_run6 x0 n s_) (fun (r : Int) => k (.exit 0) { n := 27, t := [(3, (.int .i64 r))], h := [] }) none := by
  induction n generalizing s_ with
  | zero => rfl
  | succ n ih =>
    have hu : I.PartMany_L6 (n + 1) { n := 27, t := [(0, (.ro false (.ints .i64 x0))), (3, (.int .i64 s_.1)), (4, (.int .i64 s_.2.1)), (5, (.int .i64 s_.2.2))], h := [] } k = I.PartMany_step6 x0 s_.1 s_.2.1 s_.2.2 (fun s_ => I.PartMany_L6 n { n := 27, t := [(0, (.ro false (.ints .i64 x0))), (3, (.int .i64 s_.1)), (4, (.int .i64 s_.2.1)), (5, (.int .i64 s_.2.2))], h := [] } k) (fun d => k (.exit 0) { n := 27, t := [(3, (.int .i64 d))], h := [] }) none := by
      kernel_rfl
    have hs : (fun s_ : Int × Int × Int => I.PartMany_L6 n { n := 27, t := [(0, (.ro false (.ints .i64 x0))), (3, (.int .i64 s_.1)), (4, (.int .i64 s_.2.1)), (5, (.int .i64 s_.2.2))], h := [] } k) = fun s_ => optC (I.PartMany_run6 x0 n s_) (fun (r : Int) => k (.exit 0) { n := 27, t := [(3, (.int .i64 r))], h := [] }) none := funext ih
    rw [hu, hs]
    exact (I.PartMany_step6_nat (fun o => optC o (fun (r : Int) => k (.exit 0) { n := 27, t := [(3, (.int .i64 r))], h := [] }) none) x0 s_.1 s_.2.1 s_.2.2 (I.PartMany_run6 x0 n) (fun d => some d) none).symm
noncomputable def I.PartMany_tree {α : Type} (net : List Int) (leaf0_ : Int → α) (fail_ : α) : α :=
  (optC (I.NetOk_t net) (fun c_1 => (bif !c_1 then (leaf0_ (-1)) else (optC (I.PartMany_run6 net FUEL (0, 0, 0)) (fun qy_4 => (leaf0_ qy_4)) fail_))) fail_)
theorem I.PartMany_tree_nat {α γ : Type} (g : α → γ) (net : List Int) (leaf0_ : Int → α) (fail_ : α) : g (I.PartMany_tree net leaf0_ fail_) = I.PartMany_tree net (fun d => g (leaf0_ d)) (g fail_) := by
  unfold I.PartMany_tree; simp only [apply_cnd g, apply_optC g, apply_sumC g]
noncomputable def I.PartMany_t (net : List Int) : Option (Int) := I.PartMany_tree net (fun d => some d) none
theorem I.PartMany_den (net : List Int) (κ : V → List E → R) : I.PartMany_F [.ro false (.ints .i64 net)] [] κ = optC (I.PartMany_t net) (fun (r : Int) => κ (.int .i64 r) []) none := by
  have hu : I.PartMany_F [.ro false (.ints .i64 net)] [] κ = I.PartMany_tree net (fun d => κ (.int .i64 d) []) none := by
    refine Eq.trans (show I.PartMany_F [.ro false (.ints .i64 net)] [] κ = (optC (I.NetOk_t net) (fun c_1 => (bif !c_1 then (κ (.int .i64 (-1)) []) else (I.PartMany_L6 FUEL { n := 27, t := [(0, (.ro false (.ints .i64 net))), (3, (.int .i64 0)), (4, (.int .i64 0)), (5, (.int .i64 0))], h := [] } (I.PartMany_k6 κ)))) none) by kernel_rfl) ?_
    refine optC_congr (fun c_1 => ?_)
    refine cnd_congr ?_ ?_
    · kernel_rfl
    · refine (I.PartMany_L6_run net FUEL (0, 0, 0) (I.PartMany_k6 κ)).trans (optC_congr (fun qy_4 => ?_))
      kernel_rfl
  rw [hu]
  exact (I.PartMany_tree_nat (fun o => optC o (fun (r : Int) => κ (.int .i64 r) []) none) net (fun d => some d) none).symm
noncomputable def I.PartMany_s : D.Spec where
  keep := false
  pure := true
  ds := [.int .i64]
  sp := fun args h κ => match args, h with
    | [.ro false (.ints .i64 net)], [] => optC (I.PartMany_t net) (fun (r : Int) => κ (.int .i64 r) []) none
    | _, _ => none
theorem I.PartMany_ok : SpecOk Try.prog 23 I.PartMany_s := by
  refine SpecOk.of TDok mixed (T := I.PartMany_T) ?_ (ann := I.PartMany_ann) Try.func23 rfl (by decide +kernel) ?_ ?_ ?_
  · intro p hp
    simp only [I.PartMany_T, List.mem_cons, List.not_mem_nil, or_false] at hp
    rcases hp with rfl | rfl | rfl
    · exact I.NetOk_ok
    · exact I.hasPlace_ok
    · exact I.partIn_ok
  · intro args h κ r hh
    simp only [I.PartMany_s] at hh
    split at hh
    · exact (I.PartMany_den _ κ).trans hh
    · cases hh
  · intro args h κ r hh
    simp only [I.PartMany_s] at hh ⊢
    split at hh
    · exact optC_law2 (F := fun (r : Int) κ => κ (.int .i64 r) []) (fun b κ r hb => ⟨_, _, hb, fun _ => rfl⟩) hh
    · cases hh
  · intro _ args h κ r hh
    simp only [I.PartMany_s] at hh
    split at hh
    · exact ⟨rfl, fun _ => rfl⟩
    · cases hh


end Go.Proofs.Ytpnbeljphimifaa
