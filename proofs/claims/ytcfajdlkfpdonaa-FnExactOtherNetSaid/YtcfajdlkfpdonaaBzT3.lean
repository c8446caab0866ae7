/- Twins of the translated functions, with their proofs. Conditions: none. -/
import Derived.Test.YtcfajdlkfpdonaaBzT2
set_option linter.unusedVariables false
set_option linter.unusedSimpArgs false
set_option linter.unusedSectionVars false
namespace Go.Proofs.Ytcfajdlkfpdonaa
open D Go.RowKit
-- loop.example/guardsonnets/laws.FnCliqueRow
noncomputable def L.FnCliqueRow_T : List (Nat × D.Spec) := [(34, S.DrawCliqueRow_s), (35, I.CliqueRow_s), (37, S.CliqueRow_s), (36, L.sameInts_s), (18, I.NetOk_s), (19, L.alive_s), (31, I.CliqueRowOk_s), (38, I.FewestCliques_s)]
def L.FnCliqueRow_ann : Nat → List Nat × List Nat
  | 11 => ([3, 4, 5, 6], [3, 4, 5])
  | _ => ([], [])
noncomputable def L.FnCliqueRow_F (args : List V) (h : List E) (κ : V → List E → R) : R := funC TD (tableK L.FnCliqueRow_T) L.FnCliqueRow_ann (drawOk TD (tableP L.FnCliqueRow_T)) FUEL Try.f9 args h κ
noncomputable def L.FnCliqueRow_L11 (n : Nat) (σ : St) (k : X → St → R) : R := iterC 0 (fun σ k => denC TD (tableK L.FnCliqueRow_T) L.FnCliqueRow_ann (drawOk TD (tableP L.FnCliqueRow_T)) 0 FUEL ((findLoop 11 (Try.f9.body.getD .skip)).getD .skip) σ k) [3, 4, 5, 6] [3, 4, 5] n σ k
noncomputable def L.FnCliqueRow_k11 (κ : V → List E → R) : X → St → R := (afterC TD (tableK L.FnCliqueRow_T) L.FnCliqueRow_ann (drawOk TD (tableP L.FnCliqueRow_T)) 0 FUEL 11 (Try.f9.body.getD .skip) (finC TD 0 Try.f9 κ)).getD (fun _ _ => none)
noncomputable def L.FnCliqueRow_step11 {α : Type} (x5 : Int) (x6 : Int) (r0 : List Int) (r1 : List Int) (next_ : Int × Int × (List Int) × (List Int) → α) (out0_ : Int × (List Int) × (List Int) → α) (fail_ : α) : α :=
  (bif decide (x6 < (↑r1.length : Int)) then (bif decide (0 ≤ x6) && decide (x6 < (↑r1.length : Int)) then (bif decide (x6.toNat < r1.length) then (next_ (if IntKind.i64.wrap (eli r1 x6.toNat + 1) > x5 then IntKind.i64.wrap (eli r1 x6.toNat + 1) else x5, IntKind.i64.wrap (x6 + 1), r0, r1)) else fail_) else fail_) else (out0_ (x5, r0, r1)))
theorem L.FnCliqueRow_step11_nat {α γ : Type} (g : α → γ) (x5 : Int) (x6 : Int) (r0 : List Int) (r1 : List Int) (next_ : Int × Int × (List Int) × (List Int) → α) (out0_ : Int × (List Int) × (List Int) → α) (fail_ : α) : g (L.FnCliqueRow_step11 x5 x6 r0 r1 next_ out0_ fail_) = L.FnCliqueRow_step11 x5 x6 r0 r1 (fun s => g (next_ s)) (fun d => g (out0_ d)) (g fail_) := by
  unfold L.FnCliqueRow_step11; simp only [apply_cnd g, apply_optC g, apply_sumC g]
noncomputable def L.FnCliqueRow_run11 : Nat → Int × Int × (List Int) × (List Int) → Option (Int × (List Int) × (List Int))
  | 0, _ => none
  | n + 1, s_ => L.FnCliqueRow_step11 s_.1 s_.2.1 s_.2.2.1 s_.2.2.2 (L.FnCliqueRow_run11 n) (fun d => some d) none
theorem L.FnCliqueRow_L11_run (n : Nat) (s_ : Int × Int × (List Int) × (List Int)) (k : X → St → R) : L.FnCliqueRow_L11 n { n := 50, t := [(3, (.own 0)), (4, (.own 1)), (5, (.int .i64 s_.1)), (6, (.int .i64 s_.2.1))], h := [.row (.ints .i64 s_.2.2.1), .row (.ints .i64 s_.2.2.2)] } k = optC (L.FnCliqueRow_run11 n s_) (fun (r : Int × (List Int) × (List Int)) => k (.exit 0) { n := 50, t := [(3, (.own 0)), (4, (.own 1)), (5, (.int .i64 r.1))], h := [.row (.ints .i64 r.2.1), .row (.ints .i64 r.2.2)] }) none := by
  induction n generalizing s_ with
  | zero => rfl
  | succ n ih =>
    have hu : L.FnCliqueRow_L11 (n + 1) { n := 50, t := [(3, (.own 0)), (4, (.own 1)), (5, (.int .i64 s_.1)), (6, (.int .i64 s_.2.1))], h := [.row (.ints .i64 s_.2.2.1), .row (.ints .i64 s_.2.2.2)] } k = L.FnCliqueRow_step11 s_.1 s_.2.1 s_.2.2.1 s_.2.2.2 (fun s_ => L.FnCliqueRow_L11 n { n := 50, t := [(3, (.own 0)), (4, (.own 1)), (5, (.int .i64 s_.1)), (6, (.int .i64 s_.2.1))], h := [.row (.ints .i64 s_.2.2.1), .row (.ints .i64 s_.2.2.2)] } k) (fun d => k (.exit 0) { n := 50, t := [(3, (.own 0)), (4, (.own 1)), (5, (.int .i64 d.1))], h := [.row (.ints .i64 d.2.1), .row (.ints .i64 d.2.2)] }) none := by
      kernel_rfl
    have hs : (fun s_ : Int × Int × (List Int) × (List Int) => L.FnCliqueRow_L11 n { n := 50, t := [(3, (.own 0)), (4, (.own 1)), (5, (.int .i64 s_.1)), (6, (.int .i64 s_.2.1))], h := [.row (.ints .i64 s_.2.2.1), .row (.ints .i64 s_.2.2.2)] } k) = fun s_ => optC (L.FnCliqueRow_run11 n s_) (fun (r : Int × (List Int) × (List Int)) => k (.exit 0) { n := 50, t := [(3, (.own 0)), (4, (.own 1)), (5, (.int .i64 r.1))], h := [.row (.ints .i64 r.2.1), .row (.ints .i64 r.2.2)] }) none := funext ih
    rw [hu, hs]
    exact (L.FnCliqueRow_step11_nat (fun o => optC o (fun (r : Int × (List Int) × (List Int)) => k (.exit 0) { n := 50, t := [(3, (.own 0)), (4, (.own 1)), (5, (.int .i64 r.1))], h := [.row (.ints .i64 r.2.1), .row (.ints .i64 r.2.2)] }) none) s_.1 s_.2.1 s_.2.2.1 s_.2.2.2 (L.FnCliqueRow_run11 n) (fun d => some d) none).symm
noncomputable def L.FnCliqueRow_tree {α : Type} (code : List Int) (leaf0_ : Bool → α) (fail_ : α) : α :=
  (bif decide ((↑code.length : Int) > 1048576) then (leaf0_ true) else (optC (S.DrawCliqueRow_t code) (fun c_1 => (optC (I.CliqueRow_t c_1) (fun c_2 => (optC (S.CliqueRow_t c_1) (fun c_3 => (optC (L.sameInts_t c_2 c_3) (fun c_4 => (bif !c_4 then (leaf0_ false) else (bif (↑c_2.length : Int) == 0 then (optC (I.NetOk_t c_1) (fun c_5 => (bif !c_5 then (optC (L.alive_t) (fun c_6 => (leaf0_ c_6)) fail_) else (leaf0_ false))) fail_) else (optC (L.FnCliqueRow_run11 FUEL (0, 0, c_1, c_2)) (fun qy_7 => (optC (I.CliqueRowOk_t qy_7.2.1 qy_7.2.2) (fun c_8 => (bif c_8 then (optC (I.FewestCliques_t qy_7.2.1) (fun c_9 => (leaf0_ (qy_7.1 == c_9))) fail_) else (leaf0_ false))) fail_)) fail_)))) fail_)) fail_)) fail_)) fail_))
theorem L.FnCliqueRow_tree_nat {α γ : Type} (g : α → γ) (code : List Int) (leaf0_ : Bool → α) (fail_ : α) : g (L.FnCliqueRow_tree code leaf0_ fail_) = L.FnCliqueRow_tree code (fun d => g (leaf0_ d)) (g fail_) := by
  unfold L.FnCliqueRow_tree; simp only [apply_cnd g, apply_optC g, apply_sumC g]
noncomputable def L.FnCliqueRow_t (code : List Int) : Option (Bool) := L.FnCliqueRow_tree code (fun d => some d) none
theorem L.FnCliqueRow_den (code : List Int) (κ : V → List E → R) : L.FnCliqueRow_F [.ro true (.ints .u8 code)] [] κ = optC (L.FnCliqueRow_t code) (fun (r : Bool) => κ (.bool r) []) none := by
  have hu : L.FnCliqueRow_F [.ro true (.ints .u8 code)] [] κ = L.FnCliqueRow_tree code (fun d => κ (.bool d) []) none := by
    refine Eq.trans (show L.FnCliqueRow_F [.ro true (.ints .u8 code)] [] κ = (bif decide ((↑code.length : Int) > 1048576) then (κ (.bool true) []) else (optC (S.DrawCliqueRow_t code) (fun c_1 => (optC (I.CliqueRow_t c_1) (fun c_2 => (optC (S.CliqueRow_t c_1) (fun c_3 => (optC (L.sameInts_t c_2 c_3) (fun c_4 => (bif !c_4 then (κ (.bool false) []) else (bif (↑c_2.length : Int) == 0 then (optC (I.NetOk_t c_1) (fun c_5 => (bif !c_5 then (optC (L.alive_t) (fun c_6 => (κ (.bool c_6) [])) none) else (κ (.bool false) []))) none) else (L.FnCliqueRow_L11 FUEL { n := 50, t := [(3, (.own 0)), (4, (.own 1)), (5, (.int .i64 0)), (6, (.int .i64 0))], h := [.row (.ints .i64 c_1), .row (.ints .i64 c_2)] } (L.FnCliqueRow_k11 κ))))) none)) none)) none)) none)) by kernel_rfl) ?_
    refine cnd_congr ?_ ?_
    · kernel_rfl
    · refine optC_congr (fun c_1 => ?_)
      refine optC_congr (fun c_2 => ?_)
      refine optC_congr (fun c_3 => ?_)
      refine optC_congr (fun c_4 => ?_)
      refine cnd_congr ?_ ?_
      · kernel_rfl
      · refine cnd_congr ?_ ?_
        · kernel_rfl
        · refine (L.FnCliqueRow_L11_run FUEL (0, 0, c_1, c_2) (L.FnCliqueRow_k11 κ)).trans (optC_congr (fun qy_7 => ?_))
          kernel_rfl
  rw [hu]
  exact (L.FnCliqueRow_tree_nat (fun o => optC o (fun (r : Bool) => κ (.bool r) []) none) code (fun d => some d) none).symm
noncomputable def L.FnCliqueRow_s : D.Spec where
  keep := true
  pure := true
  ds := [.int .u8]
  sp := fun args h κ => match args, h with
    | [.ro true (.ints .u8 code)], [] => optC (L.FnCliqueRow_t code) (fun (r : Bool) => κ (.bool r) []) none
    | _, _ => none
theorem L.FnCliqueRow_ok : SpecOk Try.prog 9 L.FnCliqueRow_s := by
  refine SpecOk.of TDok mixed (T := L.FnCliqueRow_T) ?_ (ann := L.FnCliqueRow_ann) Try.func9 rfl (by decide +kernel) ?_ ?_ ?_
  · intro p hp
    simp only [L.FnCliqueRow_T, List.mem_cons, List.not_mem_nil, or_false] at hp
    rcases hp with rfl | rfl | rfl | rfl | rfl | rfl | rfl | rfl
    · exact S.DrawCliqueRow_ok
    · exact I.CliqueRow_ok
    · exact S.CliqueRow_ok
    · exact L.sameInts_ok
    · exact I.NetOk_ok
    · exact L.alive_ok
    · exact I.CliqueRowOk_ok
    · exact I.FewestCliques_ok
  · intro args h κ r hh
    simp only [L.FnCliqueRow_s] at hh
    split at hh
    · exact (L.FnCliqueRow_den _ κ).trans hh
    · cases hh
  · intro args h κ r hh
    simp only [L.FnCliqueRow_s] at hh ⊢
    split at hh
    · exact optC_law2 (F := fun (r : Bool) κ => κ (.bool r) []) (fun b κ r hb => ⟨_, _, hb, fun _ => rfl⟩) hh
    · cases hh
  · intro _ args h κ r hh
    simp only [L.FnCliqueRow_s] at hh
    split at hh
    · exact ⟨rfl, fun _ => rfl⟩
    · cases hh

-- loop.example/guardsonnets/laws.markIntS
noncomputable def L.markIntS_T : List (Nat × D.Spec) := []
def L.markIntS_ann : Nat → List Nat × List Nat
  | 2 => ([0, 1, 5], [1])
  | _ => ([], [])
noncomputable def L.markIntS_F (args : List V) (h : List E) (κ : V → List E → R) : R := funC TD (tableK L.markIntS_T) L.markIntS_ann (drawOk TD (tableP L.markIntS_T)) FUEL Try.f39 args h κ
noncomputable def L.markIntS_L2 (n : Nat) (σ : St) (k : X → St → R) : R := iterC 1 (fun σ k => denC TD (tableK L.markIntS_T) L.markIntS_ann (drawOk TD (tableP L.markIntS_T)) 1 FUEL ((findLoop 2 (Try.f39.body.getD .skip)).getD .skip) σ k) [0, 1, 5] [1] n σ k
noncomputable def L.markIntS_k2 (κ : V → List E → R) : X → St → R := (afterC TD (tableK L.markIntS_T) L.markIntS_ann (drawOk TD (tableP L.markIntS_T)) 1 FUEL 2 (Try.f39.body.getD .skip) (finC TD 1 Try.f39 κ)).getD (fun _ _ => none)
noncomputable def L.markIntS_step2 {α : Type} (x1 : Int) (x5 : Int) (r0 : List Int) (next_ : Int × Int × (List Int) → α) (out0_ : Int × (List Int) → α) (fail_ : α) : α :=
  (bif decide (x5 < (↑r0.length : Int)) then (bif decide (0 ≤ x5) && decide (x5 < (↑r0.length : Int)) then (bif decide (x5.toNat < r0.length) then (next_ (IntKind.i64.wrap (x1 + 1), IntKind.i64.wrap (x5 + 1), r0.set x5.toNat x1)) else fail_) else fail_) else (out0_ (x1, r0)))
theorem L.markIntS_step2_nat {α γ : Type} (g : α → γ) (x1 : Int) (x5 : Int) (r0 : List Int) (next_ : Int × Int × (List Int) → α) (out0_ : Int × (List Int) → α) (fail_ : α) : g (L.markIntS_step2 x1 x5 r0 next_ out0_ fail_) = L.markIntS_step2 x1 x5 r0 (fun s => g (next_ s)) (fun d => g (out0_ d)) (g fail_) := by
  unfold L.markIntS_step2; simp only [apply_cnd g, apply_optC g, apply_sumC g]
noncomputable def L.markIntS_run2 : Nat → Int × Int × (List Int) → Option (Int × (List Int))
  | 0, _ => none
  | n + 1, s_ => L.markIntS_step2 s_.1 s_.2.1 s_.2.2 (L.markIntS_run2 n) (fun d => some d) none
theorem L.markIntS_L2_run (n : Nat) (s_ : Int × Int × (List Int)) (k : X → St → R) : L.markIntS_L2 n { n := 19, t := [(0, (.own 0)), (1, (.int .i64 s_.1)), (5, (.int .i64 s_.2.1))], h := [.row (.ints .i64 s_.2.2)] } k = optC (L.markIntS_run2 n s_) (fun (r : Int × (List Int)) => k (.exit 0) { n := 19, t := [(1, (.int .i64 r.1))], h := [.row (.ints .i64 r.2)] }) none := by
  induction n generalizing s_ with
  | zero => rfl
  | succ n ih =>
    have hu : L.markIntS_L2 (n + 1) { n := 19, t := [(0, (.own 0)), (1, (.int .i64 s_.1)), (5, (.int .i64 s_.2.1))], h := [.row (.ints .i64 s_.2.2)] } k = L.markIntS_step2 s_.1 s_.2.1 s_.2.2 (fun s_ => L.markIntS_L2 n { n := 19, t := [(0, (.own 0)), (1, (.int .i64 s_.1)), (5, (.int .i64 s_.2.1))], h := [.row (.ints .i64 s_.2.2)] } k) (fun d => k (.exit 0) { n := 19, t := [(1, (.int .i64 d.1))], h := [.row (.ints .i64 d.2)] }) none := by
      kernel_rfl
    have hs : (fun s_ : Int × Int × (List Int) => L.markIntS_L2 n { n := 19, t := [(0, (.own 0)), (1, (.int .i64 s_.1)), (5, (.int .i64 s_.2.1))], h := [.row (.ints .i64 s_.2.2)] } k) = fun s_ => optC (L.markIntS_run2 n s_) (fun (r : Int × (List Int)) => k (.exit 0) { n := 19, t := [(1, (.int .i64 r.1))], h := [.row (.ints .i64 r.2)] }) none := funext ih
    rw [hu, hs]
    exact (L.markIntS_step2_nat (fun o => optC o (fun (r : Int × (List Int)) => k (.exit 0) { n := 19, t := [(1, (.int .i64 r.1))], h := [.row (.ints .i64 r.2)] }) none) s_.1 s_.2.1 s_.2.2 (L.markIntS_run2 n) (fun d => some d) none).symm
noncomputable def L.markIntS_tree {α : Type} (a : List Int) (k_ : Int) (leaf0_ : Int × (List Int) → α) (fail_ : α) : α :=
  (optC (L.markIntS_run2 FUEL (k_, 0, a)) (fun qy_1 => (leaf0_ (qy_1.1, qy_1.2))) fail_)
theorem L.markIntS_tree_nat {α γ : Type} (g : α → γ) (a : List Int) (k_ : Int) (leaf0_ : Int × (List Int) → α) (fail_ : α) : g (L.markIntS_tree a k_ leaf0_ fail_) = L.markIntS_tree a k_ (fun d => g (leaf0_ d)) (g fail_) := by
  unfold L.markIntS_tree; simp only [apply_cnd g, apply_optC g, apply_sumC g]
noncomputable def L.markIntS_t (a : List Int) (k_ : Int) : Option (Int × (List Int)) := L.markIntS_tree a k_ (fun d => some d) none
theorem L.markIntS_den (a : List Int) (k_ : Int) (κ : V → List E → R) : L.markIntS_F [.own 0, .int .i64 k_] [.row (.ints .i64 a)] κ = optC (L.markIntS_t a k_) (fun (r : Int × (List Int)) => κ (.int .i64 r.1) [.row (.ints .i64 r.2)]) none := by
  have hu : L.markIntS_F [.own 0, .int .i64 k_] [.row (.ints .i64 a)] κ = L.markIntS_tree a k_ (fun d => κ (.int .i64 d.1) [.row (.ints .i64 d.2)]) none := by
    refine Eq.trans (show L.markIntS_F [.own 0, .int .i64 k_] [.row (.ints .i64 a)] κ = (L.markIntS_L2 FUEL { n := 19, t := [(0, (.own 0)), (1, (.int .i64 k_)), (5, (.int .i64 0))], h := [.row (.ints .i64 a)] } (L.markIntS_k2 κ)) by kernel_rfl) ?_
    refine (L.markIntS_L2_run FUEL (k_, 0, a) (L.markIntS_k2 κ)).trans (optC_congr (fun qy_1 => ?_))
    kernel_rfl
  rw [hu]
  exact (L.markIntS_tree_nat (fun o => optC o (fun (r : Int × (List Int)) => κ (.int .i64 r.1) [.row (.ints .i64 r.2)]) none) a k_ (fun d => some d) none).symm
noncomputable def L.markIntS_s : D.Spec where
  keep := false
  pure := false
  ds := [.pointer 0, .invalid]
  sp := fun args h κ => match args, h with
    | [.own 0, .int .i64 k_], [.row (.ints .i64 a)] => optC (L.markIntS_t a k_) (fun (r : Int × (List Int)) => κ (.int .i64 r.1) [.row (.ints .i64 r.2)]) none
    | _, _ => none
theorem L.markIntS_ok : SpecOk Try.prog 39 L.markIntS_s := by
  refine SpecOk.of TDok mixed (T := L.markIntS_T) ?_ (ann := L.markIntS_ann) Try.func39 rfl (by decide +kernel) ?_ ?_ ?_
  · intro p hp; cases hp
  · intro args h κ r hh
    simp only [L.markIntS_s] at hh
    split at hh
    · exact (L.markIntS_den _ _ κ).trans hh
    · cases hh
  · intro args h κ r hh
    simp only [L.markIntS_s] at hh ⊢
    split at hh
    · exact optC_law2 (F := fun (r : Int × (List Int)) κ => κ (.int .i64 r.1) [.row (.ints .i64 r.2)]) (fun b κ r hb => ⟨_, _, hb, fun _ => rfl⟩) hh
    · cases hh
  · intro hh; cases hh

-- loop.example/guardsonnets/laws.heldIntS
noncomputable def L.heldIntS_T : List (Nat × D.Spec) := []
def L.heldIntS_ann : Nat → List Nat × List Nat
  | 2 => ([0, 1, 5], [1, 4])
  | _ => ([], [])
noncomputable def L.heldIntS_F (args : List V) (h : List E) (κ : V → List E → R) : R := funC TD (tableK L.heldIntS_T) L.heldIntS_ann (drawOk TD (tableP L.heldIntS_T)) FUEL Try.f40 args h κ
noncomputable def L.heldIntS_L2 (n : Nat) (σ : St) (k : X → St → R) : R := iterC 0 (fun σ k => denC TD (tableK L.heldIntS_T) L.heldIntS_ann (drawOk TD (tableP L.heldIntS_T)) 0 FUEL ((findLoop 2 (Try.f40.body.getD .skip)).getD .skip) σ k) [0, 1, 5] [1, 4] n σ k
noncomputable def L.heldIntS_k2 (κ : V → List E → R) : X → St → R := (afterC TD (tableK L.heldIntS_T) L.heldIntS_ann (drawOk TD (tableP L.heldIntS_T)) 0 FUEL 2 (Try.f40.body.getD .skip) (finC TD 0 Try.f40 κ)).getD (fun _ _ => none)
noncomputable def L.heldIntS_step2 {α : Type} (x0 : List Int) (x1 : Int) (x5 : Int) (next_ : Int × Int → α) (out0_ : Int × Int → α) (out1_ : Int → α) (fail_ : α) : α :=
  (bif decide (x5 < (↑x0.length : Int)) then (bif decide (0 ≤ x5) && decide (x5 < (↑x0.length : Int)) then (bif !eli x0 x5.toNat == x1 then (out0_ (x1, -1)) else (next_ (IntKind.i64.wrap (x1 + 1), IntKind.i64.wrap (x5 + 1)))) else fail_) else (out1_ x1))
theorem L.heldIntS_step2_nat {α γ : Type} (g : α → γ) (x0 : List Int) (x1 : Int) (x5 : Int) (next_ : Int × Int → α) (out0_ : Int × Int → α) (out1_ : Int → α) (fail_ : α) : g (L.heldIntS_step2 x0 x1 x5 next_ out0_ out1_ fail_) = L.heldIntS_step2 x0 x1 x5 (fun s => g (next_ s)) (fun d => g (out0_ d)) (fun d => g (out1_ d)) (g fail_) := by
  unfold L.heldIntS_step2; simp only [apply_cnd g, apply_optC g, apply_sumC g]
noncomputable def L.heldIntS_run2 (x0 : List Int) : Nat → Int × Int → Option ((Int × Int) ⊕ (Int))
  | 0, _ => none
  | n + 1, s_ => L.heldIntS_step2 x0 s_.1 s_.2 (L.heldIntS_run2 x0 n) (fun d => some ((Sum.inl d))) (fun d => some ((Sum.inr d))) none
theorem L.heldIntS_L2_run (x0 : List Int) (n : Nat) (s_ : Int × Int) (k : X → St → R) : L.heldIntS_L2 n { n := 21, t := [(0, (.ro false (.ints .i64 x0))), (1, (.int .i64 s_.1)), (5, (.int .i64 s_.2))], h := [] } k = optC (L.heldIntS_run2 x0 n s_) (fun (r : (Int × Int) ⊕ (Int)) => (sumC r (fun (r : Int × Int) => k (.ret) { n := 21, t := [(1, (.int .i64 r.1)), (4, (.int .i64 r.2))], h := [] }) (fun (r : Int) => k (.exit 0) { n := 21, t := [(1, (.int .i64 r)), (4, .junk)], h := [] }))) none := by
  induction n generalizing s_ with
  | zero => rfl
  | succ n ih =>
    have hu : L.heldIntS_L2 (n + 1) { n := 21, t := [(0, (.ro false (.ints .i64 x0))), (1, (.int .i64 s_.1)), (5, (.int .i64 s_.2))], h := [] } k = L.heldIntS_step2 x0 s_.1 s_.2 (fun s_ => L.heldIntS_L2 n { n := 21, t := [(0, (.ro false (.ints .i64 x0))), (1, (.int .i64 s_.1)), (5, (.int .i64 s_.2))], h := [] } k) (fun d => k (.ret) { n := 21, t := [(1, (.int .i64 d.1)), (4, (.int .i64 d.2))], h := [] }) (fun d => k (.exit 0) { n := 21, t := [(1, (.int .i64 d)), (4, .junk)], h := [] }) none := by
      kernel_rfl
    have hs : (fun s_ : Int × Int => L.heldIntS_L2 n { n := 21, t := [(0, (.ro false (.ints .i64 x0))), (1, (.int .i64 s_.1)), (5, (.int .i64 s_.2))], h := [] } k) = fun s_ => optC (L.heldIntS_run2 x0 n s_) (fun (r : (Int × Int) ⊕ (Int)) => (sumC r (fun (r : Int × Int) => k (.ret) { n := 21, t := [(1, (.int .i64 r.1)), (4, (.int .i64 r.2))], h := [] }) (fun (r : Int) => k (.exit 0) { n := 21, t := [(1, (.int .i64 r)), (4, .junk)], h := [] }))) none := funext ih
    rw [hu, hs]
    exact (L.heldIntS_step2_nat (fun o => optC o (fun (r : (Int × Int) ⊕ (Int)) => (sumC r (fun (r : Int × Int) => k (.ret) { n := 21, t := [(1, (.int .i64 r.1)), (4, (.int .i64 r.2))], h := [] }) (fun (r : Int) => k (.exit 0) { n := 21, t := [(1, (.int .i64 r)), (4, .junk)], h := [] }))) none) x0 s_.1 s_.2 (L.heldIntS_run2 x0 n) (fun d => some ((Sum.inl d))) (fun d => some ((Sum.inr d))) none).symm
noncomputable def L.heldIntS_tree {α : Type} (a : List Int) (k_ : Int) (leaf0_ : Int → α) (fail_ : α) : α :=
  (optC (L.heldIntS_run2 a FUEL (k_, 0)) (fun qy_1 => (sumC qy_1 (fun (qy_1 : Int × Int) => (leaf0_ qy_1.2)) (fun (qy_1 : Int) => (leaf0_ qy_1)))) fail_)
theorem L.heldIntS_tree_nat {α γ : Type} (g : α → γ) (a : List Int) (k_ : Int) (leaf0_ : Int → α) (fail_ : α) : g (L.heldIntS_tree a k_ leaf0_ fail_) = L.heldIntS_tree a k_ (fun d => g (leaf0_ d)) (g fail_) := by
  unfold L.heldIntS_tree; simp only [apply_cnd g, apply_optC g, apply_sumC g]
noncomputable def L.heldIntS_t (a : List Int) (k_ : Int) : Option (Int) := L.heldIntS_tree a k_ (fun d => some d) none
theorem L.heldIntS_den (a : List Int) (k_ : Int) (κ : V → List E → R) : L.heldIntS_F [.ro false (.ints .i64 a), .int .i64 k_] [] κ = optC (L.heldIntS_t a k_) (fun (r : Int) => κ (.int .i64 r) []) none := by
  have hu : L.heldIntS_F [.ro false (.ints .i64 a), .int .i64 k_] [] κ = L.heldIntS_tree a k_ (fun d => κ (.int .i64 d) []) none := by
    refine Eq.trans (show L.heldIntS_F [.ro false (.ints .i64 a), .int .i64 k_] [] κ = (L.heldIntS_L2 FUEL { n := 21, t := [(0, (.ro false (.ints .i64 a))), (1, (.int .i64 k_)), (5, (.int .i64 0))], h := [] } (L.heldIntS_k2 κ)) by kernel_rfl) ?_
    refine (L.heldIntS_L2_run a FUEL (k_, 0) (L.heldIntS_k2 κ)).trans (optC_congr (fun qy_1 => ?_))
    rcases qy_1 with qy_1 | qy_1
    · kernel_rfl
    · kernel_rfl
  rw [hu]
  exact (L.heldIntS_tree_nat (fun o => optC o (fun (r : Int) => κ (.int .i64 r) []) none) a k_ (fun d => some d) none).symm
noncomputable def L.heldIntS_s : D.Spec where
  keep := false
  pure := true
  ds := [.int .i64, .invalid]
  sp := fun args h κ => match args, h with
    | [.ro false (.ints .i64 a), .int .i64 k_], [] => optC (L.heldIntS_t a k_) (fun (r : Int) => κ (.int .i64 r) []) none
    | _, _ => none
theorem L.heldIntS_ok : SpecOk Try.prog 40 L.heldIntS_s := by
  refine SpecOk.of TDok mixed (T := L.heldIntS_T) ?_ (ann := L.heldIntS_ann) Try.func40 rfl (by decide +kernel) ?_ ?_ ?_
  · intro p hp; cases hp
  · intro args h κ r hh
    simp only [L.heldIntS_s] at hh
    split at hh
    · exact (L.heldIntS_den _ _ κ).trans hh
    · cases hh
  · intro args h κ r hh
    simp only [L.heldIntS_s] at hh ⊢
    split at hh
    · exact optC_law2 (F := fun (r : Int) κ => κ (.int .i64 r) []) (fun b κ r hb => ⟨_, _, hb, fun _ => rfl⟩) hh
    · cases hh
  · intro _ args h κ r hh
    simp only [L.heldIntS_s] at hh
    split at hh
    · exact ⟨rfl, fun _ => rfl⟩
    · cases hh

-- loop.example/guardsonnets/laws.FnExactCliqueRow
noncomputable def L.FnExactCliqueRow_T : List (Nat × D.Spec) := [(23, L.toIntS_s), (37, S.CliqueRow_s), (35, I.CliqueRow_s), (24, L.eqIntS_s), (39, L.markIntS_s), (40, L.heldIntS_s)]
def L.FnExactCliqueRow_ann : Nat → List Nat × List Nat
  | _ => ([], [])
noncomputable def L.FnExactCliqueRow_F (args : List V) (h : List E) (κ : V → List E → R) : R := funC TD (tableK L.FnExactCliqueRow_T) L.FnExactCliqueRow_ann (drawOk TD (tableP L.FnExactCliqueRow_T)) FUEL Try.f10 args h κ
noncomputable def L.FnExactCliqueRow_tree {α : Type} (aNet : List Int) (leaf0_ : Bool → α) (fail_ : α) : α :=
  (bif decide ((↑aNet.length : Int) > 1048576) then (leaf0_ true) else (optC (L.toIntS_t aNet) (fun c_1 => (optC (S.CliqueRow_t c_1) (fun c_2 => (optC (L.toIntS_t aNet) (fun c_3 => (optC (I.CliqueRow_t c_3) (fun c_4 => (optC (L.eqIntS_t c_4 c_2) (fun c_5 => (bif !c_5 then (leaf0_ false) else (optC (L.toIntS_t aNet) (fun c_6 => (optC (L.eqIntS_t c_3 c_6) (fun c_7 => (bif !c_7 then (leaf0_ false) else (optC (L.markIntS_t c_3 1) (fun c_8 => (bif decide (c_8.fst < 0) then (leaf0_ false) else (optC (L.eqIntS_t c_4 c_2) (fun c_9 => (bif !c_9 then (leaf0_ false) else (optC (L.markIntS_t c_4 1) (fun c_10 => (optC (L.heldIntS_t c_10.snd 1) (fun c_11 => (bif decide (c_11 < 0) then (leaf0_ false) else (bif !c_11 == c_10.fst then (leaf0_ false) else (optC (L.toIntS_t aNet) (fun c_12 => (optC (I.CliqueRow_t c_12) (fun c_13 => (optC (L.eqIntS_t c_13 c_2) (fun c_14 => (bif !c_14 then (leaf0_ false) else (optC (L.heldIntS_t c_10.snd 1) (fun c_15 => (bif decide (c_15 < 0) then (leaf0_ false) else (bif !c_15 == c_10.fst then (leaf0_ false) else (leaf0_ true)))) fail_))) fail_)) fail_)) fail_)))) fail_)) fail_))) fail_))) fail_))) fail_)) fail_))) fail_)) fail_)) fail_)) fail_)) fail_))
theorem L.FnExactCliqueRow_tree_nat {α γ : Type} (g : α → γ) (aNet : List Int) (leaf0_ : Bool → α) (fail_ : α) : g (L.FnExactCliqueRow_tree aNet leaf0_ fail_) = L.FnExactCliqueRow_tree aNet (fun d => g (leaf0_ d)) (g fail_) := by
  unfold L.FnExactCliqueRow_tree; simp only [apply_cnd g, apply_optC g, apply_sumC g]
noncomputable def L.FnExactCliqueRow_t (aNet : List Int) : Option (Bool) := L.FnExactCliqueRow_tree aNet (fun d => some d) none
theorem L.FnExactCliqueRow_den (aNet : List Int) (κ : V → List E → R) : L.FnExactCliqueRow_F [.ro true (.ints .i64 aNet)] [] κ = optC (L.FnExactCliqueRow_t aNet) (fun (r : Bool) => κ (.bool r) []) none := by
  have hu : L.FnExactCliqueRow_F [.ro true (.ints .i64 aNet)] [] κ = L.FnExactCliqueRow_tree aNet (fun d => κ (.bool d) []) none := by
    kernel_rfl
  rw [hu]
  exact (L.FnExactCliqueRow_tree_nat (fun o => optC o (fun (r : Bool) => κ (.bool r) []) none) aNet (fun d => some d) none).symm
noncomputable def L.FnExactCliqueRow_s : D.Spec where
  keep := true
  pure := true
  ds := [.int .i64]
  sp := fun args h κ => match args, h with
    | [.ro true (.ints .i64 aNet)], [] => optC (L.FnExactCliqueRow_t aNet) (fun (r : Bool) => κ (.bool r) []) none
    | _, _ => none
theorem L.FnExactCliqueRow_ok : SpecOk Try.prog 10 L.FnExactCliqueRow_s := by
  refine SpecOk.of TDok mixed (T := L.FnExactCliqueRow_T) ?_ (ann := L.FnExactCliqueRow_ann) Try.func10 rfl (by decide +kernel) ?_ ?_ ?_
  · intro p hp
    simp only [L.FnExactCliqueRow_T, List.mem_cons, List.not_mem_nil, or_false] at hp
    rcases hp with rfl | rfl | rfl | rfl | rfl | rfl
    · exact L.toIntS_ok
    · exact S.CliqueRow_ok
    · exact I.CliqueRow_ok
    · exact L.eqIntS_ok
    · exact L.markIntS_ok
    · exact L.heldIntS_ok
  · intro args h κ r hh
    simp only [L.FnExactCliqueRow_s] at hh
    split at hh
    · exact (L.FnExactCliqueRow_den _ κ).trans hh
    · cases hh
  · intro args h κ r hh
    simp only [L.FnExactCliqueRow_s] at hh ⊢
    split at hh
    · exact optC_law2 (F := fun (r : Bool) κ => κ (.bool r) []) (fun b κ r hb => ⟨_, _, hb, fun _ => rfl⟩) hh
    · cases hh
  · intro _ args h κ r hh
    simp only [L.FnExactCliqueRow_s] at hh
    split at hh
    · exact ⟨rfl, fun _ => rfl⟩
    · cases hh

-- loop.example/guardsonnets/spec.DrawOtherNet
noncomputable def S.DrawOtherNet_T : List (Nat × D.Spec) := [(47, S.l20Open_s), (61, S.l20Net_s)]
def S.DrawOtherNet_ann : Nat → List Nat × List Nat
  | _ => ([], [])
noncomputable def S.DrawOtherNet_F (args : List V) (h : List E) (κ : V → List E → R) : R := funC TD (tableK S.DrawOtherNet_T) S.DrawOtherNet_ann (drawOk TD (tableP S.DrawOtherNet_T)) FUEL Try.f41 args h κ
noncomputable def S.DrawOtherNet_tree {α : Type} (code : List Int) (leaf0_ : List Int → α) (fail_ : α) : α :=
  (optC (S.l20Open_t code) (fun c_1 => (optC (S.l20Net_t c_1.fst c_1.snd 9) (fun c_2 => (leaf0_ c_2.snd.snd)) fail_)) fail_)
theorem S.DrawOtherNet_tree_nat {α γ : Type} (g : α → γ) (code : List Int) (leaf0_ : List Int → α) (fail_ : α) : g (S.DrawOtherNet_tree code leaf0_ fail_) = S.DrawOtherNet_tree code (fun d => g (leaf0_ d)) (g fail_) := by
  unfold S.DrawOtherNet_tree; simp only [apply_cnd g, apply_optC g, apply_sumC g]
noncomputable def S.DrawOtherNet_t (code : List Int) : Option (List Int) := S.DrawOtherNet_tree code (fun d => some d) none
theorem S.DrawOtherNet_den (code : List Int) (κ : V → List E → R) : S.DrawOtherNet_F [.ro true (.ints .u8 code)] [] κ = optC (S.DrawOtherNet_t code) (fun (r : List Int) => κ (.own 0) [.row (.ints .i64 r)]) none := by
  have hu : S.DrawOtherNet_F [.ro true (.ints .u8 code)] [] κ = S.DrawOtherNet_tree code (fun d => κ (.own 0) [.row (.ints .i64 d)]) none := by
    kernel_rfl
  rw [hu]
  exact (S.DrawOtherNet_tree_nat (fun o => optC o (fun (r : List Int) => κ (.own 0) [.row (.ints .i64 r)]) none) code (fun d => some d) none).symm
noncomputable def S.DrawOtherNet_s : D.Spec where
  keep := true
  pure := false
  ds := [.int .u8]
  sp := fun args h κ => match args, h with
    | [.ro true (.ints .u8 code)], [] => optC (S.DrawOtherNet_t code) (fun (r : List Int) => κ (.own 0) [.row (.ints .i64 r)]) none
    | _, _ => none
theorem S.DrawOtherNet_ok : SpecOk Try.prog 41 S.DrawOtherNet_s := by
  refine SpecOk.of TDok mixed (T := S.DrawOtherNet_T) ?_ (ann := S.DrawOtherNet_ann) Try.func41 rfl (by decide +kernel) ?_ ?_ ?_
  · intro p hp
    simp only [S.DrawOtherNet_T, List.mem_cons, List.not_mem_nil, or_false] at hp
    rcases hp with rfl | rfl
    · exact S.l20Open_ok
    · exact S.l20Net_ok
  · intro args h κ r hh
    simp only [S.DrawOtherNet_s] at hh
    split at hh
    · exact (S.DrawOtherNet_den _ κ).trans hh
    · cases hh
  · intro args h κ r hh
    simp only [S.DrawOtherNet_s] at hh ⊢
    split at hh
    · exact optC_law2 (F := fun (r : List Int) κ => κ (.own 0) [.row (.ints .i64 r)]) (fun b κ r hb => ⟨_, _, hb, fun _ => rfl⟩) hh
    · cases hh
  · intro hh; cases hh

-- loop.example/guardsonnets/spec.OtherNet
noncomputable def S.OtherNet_T : List (Nat × D.Spec) := [(49, S.NetOk_s)]
def S.OtherNet_ann : Nat → List Nat × List Nat
  | 3 => ([0, 3, 4], [3])
  | _ => ([], [])
noncomputable def S.OtherNet_F (args : List V) (h : List E) (κ : V → List E → R) : R := funC TD (tableK S.OtherNet_T) S.OtherNet_ann (drawOk TD (tableP S.OtherNet_T)) FUEL Try.f42 args h κ
noncomputable def S.OtherNet_L3 (n : Nat) (σ : St) (k : X → St → R) : R := iterC 0 (fun σ k => denC TD (tableK S.OtherNet_T) S.OtherNet_ann (drawOk TD (tableP S.OtherNet_T)) 0 FUEL ((findLoop 3 (Try.f42.body.getD .skip)).getD .skip) σ k) [0, 3, 4] [3] n σ k
noncomputable def S.OtherNet_k3 (κ : V → List E → R) : X → St → R := (afterC TD (tableK S.OtherNet_T) S.OtherNet_ann (drawOk TD (tableP S.OtherNet_T)) 0 FUEL 3 (Try.f42.body.getD .skip) (finC TD 0 Try.f42 κ)).getD (fun _ _ => none)
noncomputable def S.OtherNet_step3 {α : Type} (x0 : List Int) (x4 : Int) (r0 : List Int) (next_ : Int × (List Int) → α) (out0_ : List Int → α) (fail_ : α) : α :=
  (bif decide (x4 < (↑x0.length : Int)) then (optC (S.NetOk_t x0) (fun c_1 => (bif c_1 then (bif decide (0 ≤ x4) && decide (x4 < (↑x0.length : Int)) then (bif decide (x4 < 0) then fail_ else (bif small (r0 ++ [IntKind.i64.wrap (IntKind.i64.wrap (IntKind.i64.wrap (IntKind.i64.wrap (1 * 2 ^ min (↑x0.length : Int).toNat IntKind.i64.bits) - 1) - eli x0 x4.toNat) - IntKind.i64.wrap (1 * 2 ^ min x4.toNat IntKind.i64.bits))]).length then (next_ (IntKind.i64.wrap (x4 + 1), r0 ++ [IntKind.i64.wrap (IntKind.i64.wrap (IntKind.i64.wrap (IntKind.i64.wrap (1 * 2 ^ min (↑x0.length : Int).toNat IntKind.i64.bits) - 1) - eli x0 x4.toNat) - IntKind.i64.wrap (1 * 2 ^ min x4.toNat IntKind.i64.bits))])) else fail_)) else fail_) else (out0_ r0))) fail_) else (out0_ r0))
theorem S.OtherNet_step3_nat {α γ : Type} (g : α → γ) (x0 : List Int) (x4 : Int) (r0 : List Int) (next_ : Int × (List Int) → α) (out0_ : List Int → α) (fail_ : α) : g (S.OtherNet_step3 x0 x4 r0 next_ out0_ fail_) = S.OtherNet_step3 x0 x4 r0 (fun s => g (next_ s)) (fun d => g (out0_ d)) (g fail_) := by
  unfold S.OtherNet_step3; simp only [apply_cnd g, apply_optC g, apply_sumC g]
noncomputable def S.OtherNet_run3 (x0 : List Int) : Nat → Int × (List Int) → Option (List Int)
  | 0, _ => none
  | n + 1, s_ => S.OtherNet_step3 x0 s_.1 s_.2 (S.OtherNet_run3 x0 n) (fun d => some d) none
theorem S.OtherNet_L3_run (x0 : List Int) (n : Nat) (s_ : Int × (List Int)) (k : X → St → R) : S.OtherNet_L3 n { n := 32, t := [(0, (.ro false (.ints .i64 x0))), (3, (.own 0)), (4, (.int .i64 s_.1))], h := [.row (.ints .i64 s_.2)] } k = optC (S.OtherNet_run3 x0 n s_) (fun (r : List Int) => k (.exit 0) { n := 32, t := [(3, (.own 0))], h := [.row (.ints .i64 r)] }) none := by
  induction n generalizing s_ with
  | zero => rfl
  | succ n ih =>
    have hu : S.OtherNet_L3 (n + 1) { n := 32, t := [(0, (.ro false (.ints .i64 x0))), (3, (.own 0)), (4, (.int .i64 s_.1))], h := [.row (.ints .i64 s_.2)] } k = S.OtherNet_step3 x0 s_.1 s_.2 (fun s_ => S.OtherNet_L3 n { n := 32, t := [(0, (.ro false (.ints .i64 x0))), (3, (.own 0)), (4, (.int .i64 s_.1))], h := [.row (.ints .i64 s_.2)] } k) (fun d => k (.exit 0) { n := 32, t := [(3, (.own 0))], h := [.row (.ints .i64 d)] }) none := by
      kernel_rfl
    have hs : (fun s_ : Int × (List Int) => S.OtherNet_L3 n { n := 32, t := [(0, (.ro false (.ints .i64 x0))), (3, (.own 0)), (4, (.int .i64 s_.1))], h := [.row (.ints .i64 s_.2)] } k) = fun s_ => optC (S.OtherNet_run3 x0 n s_) (fun (r : List Int) => k (.exit 0) { n := 32, t := [(3, (.own 0))], h := [.row (.ints .i64 r)] }) none := funext ih
    rw [hu, hs]
    exact (S.OtherNet_step3_nat (fun o => optC o (fun (r : List Int) => k (.exit 0) { n := 32, t := [(3, (.own 0))], h := [.row (.ints .i64 r)] }) none) x0 s_.1 s_.2 (S.OtherNet_run3 x0 n) (fun d => some d) none).symm
noncomputable def S.OtherNet_tree {α : Type} (net : List Int) (leaf0_ : List Int → α) (fail_ : α) : α :=
  (optC (S.OtherNet_run3 net FUEL (0, [])) (fun qy_2 => (leaf0_ qy_2)) fail_)
theorem S.OtherNet_tree_nat {α γ : Type} (g : α → γ) (net : List Int) (leaf0_ : List Int → α) (fail_ : α) : g (S.OtherNet_tree net leaf0_ fail_) = S.OtherNet_tree net (fun d => g (leaf0_ d)) (g fail_) := by
  unfold S.OtherNet_tree; simp only [apply_cnd g, apply_optC g, apply_sumC g]
noncomputable def S.OtherNet_t (net : List Int) : Option (List Int) := S.OtherNet_tree net (fun d => some d) none
theorem S.OtherNet_den (net : List Int) (κ : V → List E → R) : S.OtherNet_F [.ro false (.ints .i64 net)] [] κ = optC (S.OtherNet_t net) (fun (r : List Int) => κ (.own 0) [.row (.ints .i64 r)]) none := by
  have hu : S.OtherNet_F [.ro false (.ints .i64 net)] [] κ = S.OtherNet_tree net (fun d => κ (.own 0) [.row (.ints .i64 d)]) none := by
    refine Eq.trans (show S.OtherNet_F [.ro false (.ints .i64 net)] [] κ = (S.OtherNet_L3 FUEL { n := 32, t := [(0, (.ro false (.ints .i64 net))), (3, (.own 0)), (4, (.int .i64 0))], h := [.row (.ints .i64 ([]))] } (S.OtherNet_k3 κ)) by kernel_rfl) ?_
    refine (S.OtherNet_L3_run net FUEL (0, []) (S.OtherNet_k3 κ)).trans (optC_congr (fun qy_2 => ?_))
    kernel_rfl
  rw [hu]
  exact (S.OtherNet_tree_nat (fun o => optC o (fun (r : List Int) => κ (.own 0) [.row (.ints .i64 r)]) none) net (fun d => some d) none).symm
noncomputable def S.OtherNet_s : D.Spec where
  keep := false
  pure := false
  ds := [.int .i64]
  sp := fun args h κ => match args, h with
    | [.ro false (.ints .i64 net)], [] => optC (S.OtherNet_t net) (fun (r : List Int) => κ (.own 0) [.row (.ints .i64 r)]) none
    | _, _ => none
theorem S.OtherNet_ok : SpecOk Try.prog 42 S.OtherNet_s := by
  refine SpecOk.of TDok mixed (T := S.OtherNet_T) ?_ (ann := S.OtherNet_ann) Try.func42 rfl (by decide +kernel) ?_ ?_ ?_
  · intro p hp
    simp only [S.OtherNet_T, List.mem_cons, List.not_mem_nil, or_false] at hp
    rcases hp with rfl
    · exact S.NetOk_ok
  · intro args h κ r hh
    simp only [S.OtherNet_s] at hh
    split at hh
    · exact (S.OtherNet_den _ κ).trans hh
    · cases hh
  · intro args h κ r hh
    simp only [S.OtherNet_s] at hh ⊢
    split at hh
    · exact optC_law2 (F := fun (r : List Int) κ => κ (.own 0) [.row (.ints .i64 r)]) (fun b κ r hb => ⟨_, _, hb, fun _ => rfl⟩) hh
    · cases hh
  · intro hh; cases hh

-- loop.example/guardsonnets/impl.seenIn
noncomputable def I.seenIn_T : List (Nat × D.Spec) := [(55, I.hasPlace_s), (58, I.ballIn_s)]
def I.seenIn_ann : Nat → List Nat × List Nat
  | 3 => ([0, 1, 5, 6], [5])
  | _ => ([], [])
noncomputable def I.seenIn_F (args : List V) (h : List E) (κ : V → List E → R) : R := funC TD (tableK I.seenIn_T) I.seenIn_ann (drawOk TD (tableP I.seenIn_T)) FUEL Try.f80 args h κ
noncomputable def I.seenIn_L3 (n : Nat) (σ : St) (k : X → St → R) : R := iterC 0 (fun σ k => denC TD (tableK I.seenIn_T) I.seenIn_ann (drawOk TD (tableP I.seenIn_T)) 0 FUEL ((findLoop 3 (Try.f80.body.getD .skip)).getD .skip) σ k) [0, 1, 5, 6] [5] n σ k
noncomputable def I.seenIn_k3 (κ : V → List E → R) : X → St → R := (afterC TD (tableK I.seenIn_T) I.seenIn_ann (drawOk TD (tableP I.seenIn_T)) 0 FUEL 3 (Try.f80.body.getD .skip) (finC TD 0 Try.f80 κ)).getD (fun _ _ => none)
noncomputable def I.seenIn_step3 {α : Type} (x0 : List Int) (x1 : Int) (x5 : Int) (x6 : Int) (next_ : Int × Int → α) (out0_ : Int → α) (fail_ : α) : α :=
  (bif decide (x6 < (↑x0.length : Int)) then (optC (I.hasPlace_t x1 x6) (fun c_1 => (bif c_1 then (optC (I.ballIn_t x0 x6) (fun c_2 => (next_ (bits BinOp.or IntKind.i64 x5 c_2, IntKind.i64.wrap (x6 + 1)))) fail_) else (next_ (x5, IntKind.i64.wrap (x6 + 1))))) fail_) else (out0_ x5))
theorem I.seenIn_step3_nat {α γ : Type} (g : α → γ) (x0 : List Int) (x1 : Int) (x5 : Int) (x6 : Int) (next_ : Int × Int → α) (out0_ : Int → α) (fail_ : α) : g (I.seenIn_step3 x0 x1 x5 x6 next_ out0_ fail_) = I.seenIn_step3 x0 x1 x5 x6 (fun s => g (next_ s)) (fun d => g (out0_ d)) (g fail_) := by
  unfold I.seenIn_step3; simp only [apply_cnd g, apply_optC g, apply_sumC g]
noncomputable def I.seenIn_run3 (x0 : List Int) (x1 : Int) : Nat → Int × Int → Option (Int)
  | 0, _ => none
  | n + 1, s_ => I.seenIn_step3 x0 x1 s_.1 s_.2 (I.seenIn_run3 x0 x1 n) (fun d => some d) none
theorem I.seenIn_L3_run (x0 : List Int) (x1 : Int) (n : Nat) (s_ : Int × Int) (k : X → St → R) : I.seenIn_L3 n { n := 22, t := [(0, (.ro false (.ints .i64 x0))), (1, (.int .i64 x1)), (5, (.int .i64 s_.1)), (6, (.int .i64 s_.2))], h := [] } k = optC (I.seenIn_run3 x0 x1 n s_) (fun (r : Int) => k (.exit 0) { n := 22, t := [(5, (.int .i64 r))], h := [] }) none := by
  induction n generalizing s_ with
  | zero => rfl
  | succ n ih =>
    have hu : I.seenIn_L3 (n + 1) { n := 22, t := [(0, (.ro false (.ints .i64 x0))), (1, (.int .i64 x1)), (5, (.int .i64 s_.1)), (6, (.int .i64 s_.2))], h := [] } k = I.seenIn_step3 x0 x1 s_.1 s_.2 (fun s_ => I.seenIn_L3 n { n := 22, t := [(0, (.ro false (.ints .i64 x0))), (1, (.int .i64 x1)), (5, (.int .i64 s_.1)), (6, (.int .i64 s_.2))], h := [] } k) (fun d => k (.exit 0) { n := 22, t := [(5, (.int .i64 d))], h := [] }) none := by
      kernel_rfl
    have hs : (fun s_ : Int × Int => I.seenIn_L3 n { n := 22, t := [(0, (.ro false (.ints .i64 x0))), (1, (.int .i64 x1)), (5, (.int .i64 s_.1)), (6, (.int .i64 s_.2))], h := [] } k) = fun s_ => optC (I.seenIn_run3 x0 x1 n s_) (fun (r : Int) => k (.exit 0) { n := 22, t := [(5, (.int .i64 r))], h := [] }) none := funext ih
    rw [hu, hs]
    exact (I.seenIn_step3_nat (fun o => optC o (fun (r : Int) => k (.exit 0) { n := 22, t := [(5, (.int .i64 r))], h := [] }) none) x0 x1 s_.1 s_.2 (I.seenIn_run3 x0 x1 n) (fun d => some d) none).symm
noncomputable def I.seenIn_tree {α : Type} (net : List Int) (set_ : Int) (leaf0_ : Int → α) (fail_ : α) : α :=
  (optC (I.seenIn_run3 net set_ FUEL (0, 0)) (fun qy_3 => (leaf0_ qy_3)) fail_)
theorem I.seenIn_tree_nat {α γ : Type} (g : α → γ) (net : List Int) (set_ : Int) (leaf0_ : Int → α) (fail_ : α) : g (I.seenIn_tree net set_ leaf0_ fail_) = I.seenIn_tree net set_ (fun d => g (leaf0_ d)) (g fail_) := by
  unfold I.seenIn_tree; simp only [apply_cnd g, apply_optC g, apply_sumC g]
noncomputable def I.seenIn_t (net : List Int) (set_ : Int) : Option (Int) := I.seenIn_tree net set_ (fun d => some d) none
theorem I.seenIn_den (net : List Int) (set_ : Int) (κ : V → List E → R) : I.seenIn_F [.ro false (.ints .i64 net), .int .i64 set_] [] κ = optC (I.seenIn_t net set_) (fun (r : Int) => κ (.int .i64 r) []) none := by
  have hu : I.seenIn_F [.ro false (.ints .i64 net), .int .i64 set_] [] κ = I.seenIn_tree net set_ (fun d => κ (.int .i64 d) []) none := by
    refine Eq.trans (show I.seenIn_F [.ro false (.ints .i64 net), .int .i64 set_] [] κ = (I.seenIn_L3 FUEL { n := 22, t := [(0, (.ro false (.ints .i64 net))), (1, (.int .i64 set_)), (5, (.int .i64 0)), (6, (.int .i64 0))], h := [] } (I.seenIn_k3 κ)) by kernel_rfl) ?_
    refine (I.seenIn_L3_run net set_ FUEL (0, 0) (I.seenIn_k3 κ)).trans (optC_congr (fun qy_3 => ?_))
    kernel_rfl
  rw [hu]
  exact (I.seenIn_tree_nat (fun o => optC o (fun (r : Int) => κ (.int .i64 r) []) none) net set_ (fun d => some d) none).symm
noncomputable def I.seenIn_s : D.Spec where
  keep := false
  pure := true
  ds := [.int .i64, .invalid]
  sp := fun args h κ => match args, h with
    | [.ro false (.ints .i64 net), .int .i64 set_], [] => optC (I.seenIn_t net set_) (fun (r : Int) => κ (.int .i64 r) []) none
    | _, _ => none
theorem I.seenIn_ok : SpecOk Try.prog 80 I.seenIn_s := by
  refine SpecOk.of TDok mixed (T := I.seenIn_T) ?_ (ann := I.seenIn_ann) Try.func80 rfl (by decide +kernel) ?_ ?_ ?_
  · intro p hp
    simp only [I.seenIn_T, List.mem_cons, List.not_mem_nil, or_false] at hp
    rcases hp with rfl | rfl
    · exact I.hasPlace_ok
    · exact I.ballIn_ok
  · intro args h κ r hh
    simp only [I.seenIn_s] at hh
    split at hh
    · exact (I.seenIn_den _ _ κ).trans hh
    · cases hh
  · intro args h κ r hh
    simp only [I.seenIn_s] at hh ⊢
    split at hh
    · exact optC_law2 (F := fun (r : Int) κ => κ (.int .i64 r) []) (fun b κ r hb => ⟨_, _, hb, fun _ => rfl⟩) hh
    · cases hh
  · intro _ args h κ r hh
    simp only [I.seenIn_s] at hh
    split at hh
    · exact ⟨rfl, fun _ => rfl⟩
    · cases hh

-- loop.example/guardsonnets/impl.partIn
noncomputable def I.partIn_T : List (Nat × D.Spec) := [(80, I.seenIn_s)]
def I.partIn_ann : Nat → List Nat × List Nat
  | 3 => ([0, 5, 6], [5])
  | _ => ([], [])
noncomputable def I.partIn_F (args : List V) (h : List E) (κ : V → List E → R) : R := funC TD (tableK I.partIn_T) I.partIn_ann (drawOk TD (tableP I.partIn_T)) FUEL Try.f71 args h κ
noncomputable def I.partIn_L3 (n : Nat) (σ : St) (k : X → St → R) : R := iterC 0 (fun σ k => denC TD (tableK I.partIn_T) I.partIn_ann (drawOk TD (tableP I.partIn_T)) 0 FUEL ((findLoop 3 (Try.f71.body.getD .skip)).getD .skip) σ k) [0, 5, 6] [5] n σ k
noncomputable def I.partIn_k3 (κ : V → List E → R) : X → St → R := (afterC TD (tableK I.partIn_T) I.partIn_ann (drawOk TD (tableP I.partIn_T)) 0 FUEL 3 (Try.f71.body.getD .skip) (finC TD 0 Try.f71 κ)).getD (fun _ _ => none)
noncomputable def I.partIn_step3 {α : Type} (x0 : List Int) (x5 : Int) (x6 : Int) (next_ : Int × Int → α) (out0_ : Int → α) (fail_ : α) : α :=
  (bif decide (x6 < (↑x0.length : Int)) then (optC (I.seenIn_t x0 x5) (fun c_1 => (next_ (c_1, IntKind.i64.wrap (x6 + 1)))) fail_) else (out0_ x5))
theorem I.partIn_step3_nat {α γ : Type} (g : α → γ) (x0 : List Int) (x5 : Int) (x6 : Int) (next_ : Int × Int → α) (out0_ : Int → α) (fail_ : α) : g (I.partIn_step3 x0 x5 x6 next_ out0_ fail_) = I.partIn_step3 x0 x5 x6 (fun s => g (next_ s)) (fun d => g (out0_ d)) (g fail_) := by
  unfold I.partIn_step3; simp only [apply_cnd g, apply_optC g, apply_sumC g]
noncomputable def I.partIn_run3 (x0 : List Int) : Nat → Int × Int → Option (Int)
  | 0, _ => none
  | n + 1, s_ => I.partIn_step3 x0 s_.1 s_.2 (I.partIn_run3 x0 n) (fun d => some d) none
theorem I.partIn_L3_run (x0 : List Int) (n : Nat) (s_ : Int × Int) (k : X → St → R) : I.partIn_L3 n { n := 19, t := [(0, (.ro false (.ints .i64 x0))), (5, (.int .i64 s_.1)), (6, (.int .i64 s_.2))], h := [] } k = optC (I.partIn_run3 x0 n s_) (fun (r : Int) => k (.exit 0) { n := 19, t := [(5, (.int .i64 r))], h := [] }) none := by
  induction n generalizing s_ with
  | zero => rfl
  | succ n ih =>
    have hu : I.partIn_L3 (n + 1) { n := 19, t := [(0, (.ro false (.ints .i64 x0))), (5, (.int .i64 s_.1)), (6, (.int .i64 s_.2))], h := [] } k = I.partIn_step3 x0 s_.1 s_.2 (fun s_ => I.partIn_L3 n { n := 19, t := [(0, (.ro false (.ints .i64 x0))), (5, (.int .i64 s_.1)), (6, (.int .i64 s_.2))], h := [] } k) (fun d => k (.exit 0) { n := 19, t := [(5, (.int .i64 d))], h := [] }) none := by
      kernel_rfl
    have hs : (fun s_ : Int × Int => I.partIn_L3 n { n := 19, t := [(0, (.ro false (.ints .i64 x0))), (5, (.int .i64 s_.1)), (6, (.int .i64 s_.2))], h := [] } k) = fun s_ => optC (I.partIn_run3 x0 n s_) (fun (r : Int) => k (.exit 0) { n := 19, t := [(5, (.int .i64 r))], h := [] }) none := funext ih
    rw [hu, hs]
    exact (I.partIn_step3_nat (fun o => optC o (fun (r : Int) => k (.exit 0) { n := 19, t := [(5, (.int .i64 r))], h := [] }) none) x0 s_.1 s_.2 (I.partIn_run3 x0 n) (fun d => some d) none).symm
noncomputable def I.partIn_tree {α : Type} (net : List Int) (place : Int) (leaf0_ : Int → α) (fail_ : α) : α :=
  (bif decide (place < 0) then fail_ else (optC (I.partIn_run3 net FUEL (IntKind.i64.wrap (1 * 2 ^ min place.toNat IntKind.i64.bits), 1)) (fun qy_2 => (leaf0_ qy_2)) fail_))
theorem I.partIn_tree_nat {α γ : Type} (g : α → γ) (net : List Int) (place : Int) (leaf0_ : Int → α) (fail_ : α) : g (I.partIn_tree net place leaf0_ fail_) = I.partIn_tree net place (fun d => g (leaf0_ d)) (g fail_) := by
  unfold I.partIn_tree; simp only [apply_cnd g, apply_optC g, apply_sumC g]
noncomputable def I.partIn_t (net : List Int) (place : Int) : Option (Int) := I.partIn_tree net place (fun d => some d) none
theorem I.partIn_den (net : List Int) (place : Int) (κ : V → List E → R) : I.partIn_F [.ro false (.ints .i64 net), .int .i64 place] [] κ = optC (I.partIn_t net place) (fun (r : Int) => κ (.int .i64 r) []) none := by
  have hu : I.partIn_F [.ro false (.ints .i64 net), .int .i64 place] [] κ = I.partIn_tree net place (fun d => κ (.int .i64 d) []) none := by
    refine Eq.trans (show I.partIn_F [.ro false (.ints .i64 net), .int .i64 place] [] κ = (bif decide (place < 0) then none else (I.partIn_L3 FUEL { n := 19, t := [(0, (.ro false (.ints .i64 net))), (5, (.int .i64 (IntKind.i64.wrap (1 * 2 ^ min place.toNat IntKind.i64.bits)))), (6, (.int .i64 1))], h := [] } (I.partIn_k3 κ))) by kernel_rfl) ?_
    refine cnd_congr ?_ ?_
    · kernel_rfl
    · refine (I.partIn_L3_run net FUEL (IntKind.i64.wrap (1 * 2 ^ min place.toNat IntKind.i64.bits), 1) (I.partIn_k3 κ)).trans (optC_congr (fun qy_2 => ?_))
      kernel_rfl
  rw [hu]
  exact (I.partIn_tree_nat (fun o => optC o (fun (r : Int) => κ (.int .i64 r) []) none) net place (fun d => some d) none).symm
noncomputable def I.partIn_s : D.Spec where
  keep := false
  pure := true
  ds := [.int .i64, .invalid]
  sp := fun args h κ => match args, h with
    | [.ro false (.ints .i64 net), .int .i64 place], [] => optC (I.partIn_t net place) (fun (r : Int) => κ (.int .i64 r) []) none
    | _, _ => none
theorem I.partIn_ok : SpecOk Try.prog 71 I.partIn_s := by
  refine SpecOk.of TDok mixed (T := I.partIn_T) ?_ (ann := I.partIn_ann) Try.func71 rfl (by decide +kernel) ?_ ?_ ?_
  · intro p hp
    simp only [I.partIn_T, List.mem_cons, List.not_mem_nil, or_false] at hp
    rcases hp with rfl
    · exact I.seenIn_ok
  · intro args h κ r hh
    simp only [I.partIn_s] at hh
    split at hh
    · exact (I.partIn_den _ _ κ).trans hh
    · cases hh
  · intro args h κ r hh
    simp only [I.partIn_s] at hh ⊢
    split at hh
    · exact optC_law2 (F := fun (r : Int) κ => κ (.int .i64 r) []) (fun b κ r hb => ⟨_, _, hb, fun _ => rfl⟩) hh
    · cases hh
  · intro _ args h κ r hh
    simp only [I.partIn_s] at hh
    split at hh
    · exact ⟨rfl, fun _ => rfl⟩
    · cases hh

-- loop.example/guardsonnets/impl.PartMany
noncomputable def I.PartMany_T : List (Nat × D.Spec) := [(18, I.NetOk_s), (55, I.hasPlace_s), (71, I.partIn_s)]
def I.PartMany_ann : Nat → List Nat × List Nat
  | 6 => ([0, 3, 4, 5], [3])
  | _ => ([], [])
noncomputable def I.PartMany_F (args : List V) (h : List E) (κ : V → List E → R) : R := funC TD (tableK I.PartMany_T) I.PartMany_ann (drawOk TD (tableP I.PartMany_T)) FUEL Try.f43 args h κ
noncomputable def I.PartMany_L6 (n : Nat) (σ : St) (k : X → St → R) : R := iterC 0 (fun σ k => denC TD (tableK I.PartMany_T) I.PartMany_ann (drawOk TD (tableP I.PartMany_T)) 0 FUEL ((findLoop 6 (Try.f43.body.getD .skip)).getD .skip) σ k) [0, 3, 4, 5] [3] n σ k
noncomputable def I.PartMany_k6 (κ : V → List E → R) : X → St → R := (afterC TD (tableK I.PartMany_T) I.PartMany_ann (drawOk TD (tableP I.PartMany_T)) 0 FUEL 6 (Try.f43.body.getD .skip) (finC TD 0 Try.f43 κ)).getD (fun _ _ => none)
noncomputable def I.PartMany_step6 {α : Type} (x0 : List Int) (x3 : Int) (x4 : Int) (x5 : Int) (next_ : Int × Int × Int → α) (out0_ : Int → α) (fail_ : α) : α :=
  (bif decide (x5 < (↑x0.length : Int)) then (optC (I.hasPlace_t x4 x5) (fun c_2 => (bif !c_2 then (optC (I.partIn_t x0 x5) (fun c_3 => (next_ (IntKind.i64.wrap (x3 + 1), bits BinOp.or IntKind.i64 x4 c_3, IntKind.i64.wrap (x5 + 1)))) fail_) else (next_ (x3, x4, IntKind.i64.wrap (x5 + 1))))) fail_) else (out0_ x3))
theorem I.PartMany_step6_nat {α γ : Type} (g : α → γ) (x0 : List Int) (x3 : Int) (x4 : Int) (x5 : Int) (next_ : Int × Int × Int → α) (out0_ : Int → α) (fail_ : α) : g (I.PartMany_step6 x0 x3 x4 x5 next_ out0_ fail_) = I.PartMany_step6 x0 x3 x4 x5 (fun s => g (next_ s)) (fun d => g (out0_ d)) (g fail_) := by
  unfold I.PartMany_step6; simp only [apply_cnd g, apply_optC g, apply_sumC g]
noncomputable def I.PartMany_run6 (x0 : List Int) : Nat → Int × Int × Int → Option (Int)
  | 0, _ => none
  | n + 1, s_ => I.PartMany_step6 x0 s_.1 s_.2.1 s_.2.2 (I.PartMany_run6 x0 n) (fun d => some d) none
theorem I.PartMany_L6_run (x0 : List Int) (n : Nat) (s_ : Int × Int × Int) (k : X → St → R) : I.PartMany_L6 n { n := 27, t := [(0, (.ro false (.ints .i64 x0))), (3, (.int .i64 s_.1)), (4, (.int .i64 s_.2.1)), (5, (.int .i64 s_.2.2))], h := [] } k = optC (I.PartMany_run6 x0 n s_) (fun (r : Int) => k (.exit 0) { n := 27, t := [(3, (.int .i64 r))], h := [] }) none := by
  induction n generalizing s_ with
  | zero => rfl
  | succ n ih =>
    have hu : I.PartMany_L6 (n + 1) { n := 27, t := [(0, (.ro false (.ints .i64 x0))), (3, (.int .i64 s_.1)), (4, (.int .i64 s_.2.1)), (5, (.int .i64 s_.2.2))], h := [] } k = I.PartMany_step6 x0 s_.1 s_.2.1 s_.2.2 (fun s_ => I.PartMany_L6 n { n := 27, t := [(0, (.ro false (.ints .i64 x0))), (3, (.int .i64 s_.1)), (4, (.int .i64 s_.2.1)), (5, (.int .i64 s_.2.2))], h := [] } k) (fun d => k (.exit 0) { n := 27, t := [(3, (.int .i64 d))], h := [] }) none := by
      kernel_rfl
    have hs : (fun s_ : Int × Int × Int => I.PartMany_L6 n { n := 27, t := [(0, (.ro false (.ints .i64 x0))), (3, (.int .i64 s_.1)), (4, (.int .i64 s_.2.1)), (5, (.int .i64 s_.2.2))], h := [] } k) = fun s_ => optC (I.PartMany_run6 x0 n s_) (fun (r : Int) => k (.exit 0) { n := 27, t := [(3, (.int .i64 r))], h := [] }) none := funext ih
    rw [hu, hs]
    exact (I.PartMany_step6_nat (fun o => optC o (fun (r : Int) => k (.exit 0) { n := 27, t := [(3, (.int .i64 r))], h := [] }) none) x0 s_.1 s_.2.1 s_.2.2 (I.PartMany_run6 x0 n) (fun d => some d) none).symm
noncomputable def I.PartMany_tree {α : Type} (net : List Int) (leaf0_ : Int → α) (fail_ : α) : α :=
  (optC (I.NetOk_t net) (fun c_1 => (bif !c_1 then (leaf0_ (-1)) else (optC (I.PartMany_run6 net FUEL (0, 0, 0)) (fun qy_4 => (leaf0_ qy_4)) fail_))) fail_)
theorem I.PartMany_tree_nat {α γ : Type} (g : α → γ) (net : List Int) (leaf0_ : Int → α) (fail_ : α) : g (I.PartMany_tree net leaf0_ fail_) = I.PartMany_tree net (fun d => g (leaf0_ d)) (g fail_) := by
  unfold I.PartMany_tree; simp only [apply_cnd g, apply_optC g, apply_sumC g]
noncomputable def I.PartMany_t (net : List Int) : Option (Int) := I.PartMany_tree net (fun d => some d) none
theorem I.PartMany_den (net : List Int) (κ : V → List E → R) : I.PartMany_F [.ro false (.ints .i64 net)] [] κ = optC (I.PartMany_t net) (fun (r : Int) => κ (.int .i64 r) []) none := by
  have hu : I.PartMany_F [.ro false (.ints .i64 net)] [] κ = I.PartMany_tree net (fun d => κ (.int .i64 d) []) none := by
    refine Eq.trans (show I.PartMany_F [.ro false (.ints .i64 net)] [] κ = (optC (I.NetOk_t net) (fun c_1 => (bif !c_1 then (κ (.int .i64 (-1)) []) else (I.PartMany_L6 FUEL { n := 27, t := [(0, (.ro false (.ints .i64 net))), (3, (.int .i64 0)), (4, (.int .i64 0)), (5, (.int .i64 0))], h := [] } (I.PartMany_k6 κ)))) none) by kernel_rfl) ?_
    refine optC_congr (fun c_1 => ?_)
    refine cnd_congr ?_ ?_
    · kernel_rfl
    · refine (I.PartMany_L6_run net FUEL (0, 0, 0) (I.PartMany_k6 κ)).trans (optC_congr (fun qy_4 => ?_))
      kernel_rfl
  rw [hu]
  exact (I.PartMany_tree_nat (fun o => optC o (fun (r : Int) => κ (.int .i64 r) []) none) net (fun d => some d) none).symm
noncomputable def I.PartMany_s : D.Spec where
  keep := false
  pure := true
  ds := [.int .i64]
  sp := fun args h κ => match args, h with
    | [.ro false (.ints .i64 net)], [] => optC (I.PartMany_t net) (fun (r : Int) => κ (.int .i64 r) []) none
    | _, _ => none
theorem I.PartMany_ok : SpecOk Try.prog 43 I.PartMany_s := by
  refine SpecOk.of TDok mixed (T := I.PartMany_T) ?_ (ann := I.PartMany_ann) Try.func43 rfl (by decide +kernel) ?_ ?_ ?_
  · intro p hp
    simp only [I.PartMany_T, List.mem_cons, List.not_mem_nil, or_false] at hp
    rcases hp with rfl | rfl | rfl
    · exact I.NetOk_ok
    · exact I.hasPlace_ok
    · exact I.partIn_ok
  · intro args h κ r hh
    simp only [I.PartMany_s] at hh
    split at hh
    · exact (I.PartMany_den _ κ).trans hh
    · cases hh
  · intro args h κ r hh
    simp only [I.PartMany_s] at hh ⊢
    split at hh
    · exact optC_law2 (F := fun (r : Int) κ => κ (.int .i64 r) []) (fun b κ r hb => ⟨_, _, hb, fun _ => rfl⟩) hh
    · cases hh
  · intro _ args h κ r hh
    simp only [I.PartMany_s] at hh
    split at hh
    · exact ⟨rfl, fun _ => rfl⟩
    · cases hh

-- loop.example/guardsonnets/laws.FnOtherNet
noncomputable def L.FnOtherNet_T : List (Nat × D.Spec) := [(41, S.DrawOtherNet_s), (22, I.OtherNet_s), (42, S.OtherNet_s), (36, L.sameInts_s), (18, I.NetOk_s), (19, L.alive_s), (29, I.WiresOf_s), (43, I.PartMany_s)]
def L.FnOtherNet_ann : Nat → List Nat × List Nat
  | _ => ([], [])
noncomputable def L.FnOtherNet_F (args : List V) (h : List E) (κ : V → List E → R) : R := funC TD (tableK L.FnOtherNet_T) L.FnOtherNet_ann (drawOk TD (tableP L.FnOtherNet_T)) FUEL Try.f11 args h κ
noncomputable def L.FnOtherNet_tree {α : Type} (code : List Int) (leaf0_ : Bool → α) (fail_ : α) : α :=
  (bif decide ((↑code.length : Int) > 1048576) then (leaf0_ true) else (optC (S.DrawOtherNet_t code) (fun c_1 => (optC (I.OtherNet_t c_1) (fun c_2 => (optC (S.OtherNet_t c_1) (fun c_3 => (optC (L.sameInts_t c_2 c_3) (fun c_4 => (bif !c_4 then (leaf0_ false) else (bif (↑c_2.length : Int) == 0 then (optC (I.NetOk_t c_1) (fun c_5 => (bif !c_5 then (optC (L.alive_t) (fun c_6 => (leaf0_ c_6)) fail_) else (leaf0_ false))) fail_) else (optC (I.NetOk_t c_2) (fun c_7 => (bif c_7 then (optC (I.OtherNet_t c_2) (fun c_8 => (optC (L.sameInts_t c_8 c_1) (fun c_9 => (bif c_9 then (optC (I.WiresOf_t c_1) (fun c_10 => (optC (I.WiresOf_t c_2) (fun c_11 => (bif IntKind.i64.wrap (c_10 + c_11) == IntKind.i64.wrap ((IntKind.i64.wrap ((↑c_1.length : Int) * IntKind.i64.wrap ((↑c_1.length : Int) - 1))).tdiv 2) then (optC (I.PartMany_t c_1) (fun c_12 => (bif c_12 == 1 then (leaf0_ true) else (optC (I.PartMany_t c_2) (fun c_13 => (leaf0_ (c_13 == 1))) fail_))) fail_) else (leaf0_ false))) fail_)) fail_) else (leaf0_ false))) fail_)) fail_) else (leaf0_ false))) fail_)))) fail_)) fail_)) fail_)) fail_))
theorem L.FnOtherNet_tree_nat {α γ : Type} (g : α → γ) (code : List Int) (leaf0_ : Bool → α) (fail_ : α) : g (L.FnOtherNet_tree code leaf0_ fail_) = L.FnOtherNet_tree code (fun d => g (leaf0_ d)) (g fail_) := by
  unfold L.FnOtherNet_tree; simp only [apply_cnd g, apply_optC g, apply_sumC g]
noncomputable def L.FnOtherNet_t (code : List Int) : Option (Bool) := L.FnOtherNet_tree code (fun d => some d) none
theorem L.FnOtherNet_den (code : List Int) (κ : V → List E → R) : L.FnOtherNet_F [.ro true (.ints .u8 code)] [] κ = optC (L.FnOtherNet_t code) (fun (r : Bool) => κ (.bool r) []) none := by
  have hu : L.FnOtherNet_F [.ro true (.ints .u8 code)] [] κ = L.FnOtherNet_tree code (fun d => κ (.bool d) []) none := by
    kernel_rfl
  rw [hu]
  exact (L.FnOtherNet_tree_nat (fun o => optC o (fun (r : Bool) => κ (.bool r) []) none) code (fun d => some d) none).symm
noncomputable def L.FnOtherNet_s : D.Spec where
  keep := true
  pure := true
  ds := [.int .u8]
  sp := fun args h κ => match args, h with
    | [.ro true (.ints .u8 code)], [] => optC (L.FnOtherNet_t code) (fun (r : Bool) => κ (.bool r) []) none
    | _, _ => none
theorem L.FnOtherNet_ok : SpecOk Try.prog 11 L.FnOtherNet_s := by
  refine SpecOk.of TDok mixed (T := L.FnOtherNet_T) ?_ (ann := L.FnOtherNet_ann) Try.func11 rfl (by decide +kernel) ?_ ?_ ?_
  · intro p hp
    simp only [L.FnOtherNet_T, List.mem_cons, List.not_mem_nil, or_false] at hp
    rcases hp with rfl | rfl | rfl | rfl | rfl | rfl | rfl | rfl
    · exact S.DrawOtherNet_ok
    · exact I.OtherNet_ok
    · exact S.OtherNet_ok
    · exact L.sameInts_ok
    · exact I.NetOk_ok
    · exact L.alive_ok
    · exact I.WiresOf_ok
    · exact I.PartMany_ok
  · intro args h κ r hh
    simp only [L.FnOtherNet_s] at hh
    split at hh
    · exact (L.FnOtherNet_den _ κ).trans hh
    · cases hh
  · intro args h κ r hh
    simp only [L.FnOtherNet_s] at hh ⊢
    split at hh
    · exact optC_law2 (F := fun (r : Bool) κ => κ (.bool r) []) (fun b κ r hb => ⟨_, _, hb, fun _ => rfl⟩) hh
    · cases hh
  · intro _ args h κ r hh
    simp only [L.FnOtherNet_s] at hh
    split at hh
    · exact ⟨rfl, fun _ => rfl⟩
    · cases hh

-- loop.example/guardsonnets/laws.FnExactOtherNet
noncomputable def L.FnExactOtherNet_T : List (Nat × D.Spec) := [(23, L.toIntS_s), (42, S.OtherNet_s), (22, I.OtherNet_s), (24, L.eqIntS_s), (39, L.markIntS_s), (40, L.heldIntS_s)]
def L.FnExactOtherNet_ann : Nat → List Nat × List Nat
  | _ => ([], [])
noncomputable def L.FnExactOtherNet_F (args : List V) (h : List E) (κ : V → List E → R) : R := funC TD (tableK L.FnExactOtherNet_T) L.FnExactOtherNet_ann (drawOk TD (tableP L.FnExactOtherNet_T)) FUEL Try.f12 args h κ
noncomputable def L.FnExactOtherNet_tree {α : Type} (aNet : List Int) (leaf0_ : Bool → α) (fail_ : α) : α :=
  (bif decide ((↑aNet.length : Int) > 1048576) then (leaf0_ true) else (optC (L.toIntS_t aNet) (fun c_1 => (optC (S.OtherNet_t c_1) (fun c_2 => (optC (L.toIntS_t aNet) (fun c_3 => (optC (I.OtherNet_t c_3) (fun c_4 => (optC (L.eqIntS_t c_4 c_2) (fun c_5 => (bif !c_5 then (leaf0_ false) else (optC (L.toIntS_t aNet) (fun c_6 => (optC (L.eqIntS_t c_3 c_6) (fun c_7 => (bif !c_7 then (leaf0_ false) else (optC (L.markIntS_t c_3 1) (fun c_8 => (bif decide (c_8.fst < 0) then (leaf0_ false) else (optC (L.eqIntS_t c_4 c_2) (fun c_9 => (bif !c_9 then (leaf0_ false) else (optC (L.markIntS_t c_4 1) (fun c_10 => (optC (L.heldIntS_t c_10.snd 1) (fun c_11 => (bif decide (c_11 < 0) then (leaf0_ false) else (bif !c_11 == c_10.fst then (leaf0_ false) else (optC (L.toIntS_t aNet) (fun c_12 => (optC (I.OtherNet_t c_12) (fun c_13 => (optC (L.eqIntS_t c_13 c_2) (fun c_14 => (bif !c_14 then (leaf0_ false) else (optC (L.heldIntS_t c_10.snd 1) (fun c_15 => (bif decide (c_15 < 0) then (leaf0_ false) else (bif !c_15 == c_10.fst then (leaf0_ false) else (leaf0_ true)))) fail_))) fail_)) fail_)) fail_)))) fail_)) fail_))) fail_))) fail_))) fail_)) fail_))) fail_)) fail_)) fail_)) fail_)) fail_))
theorem L.FnExactOtherNet_tree_nat {α γ : Type} (g : α → γ) (aNet : List Int) (leaf0_ : Bool → α) (fail_ : α) : g (L.FnExactOtherNet_tree aNet leaf0_ fail_) = L.FnExactOtherNet_tree aNet (fun d => g (leaf0_ d)) (g fail_) := by
  unfold L.FnExactOtherNet_tree; simp only [apply_cnd g, apply_optC g, apply_sumC g]
noncomputable def L.FnExactOtherNet_t (aNet : List Int) : Option (Bool) := L.FnExactOtherNet_tree aNet (fun d => some d) none
theorem L.FnExactOtherNet_den (aNet : List Int) (κ : V → List E → R) : L.FnExactOtherNet_F [.ro true (.ints .i64 aNet)] [] κ = optC (L.FnExactOtherNet_t aNet) (fun (r : Bool) => κ (.bool r) []) none := by
  have hu : L.FnExactOtherNet_F [.ro true (.ints .i64 aNet)] [] κ = L.FnExactOtherNet_tree aNet (fun d => κ (.bool d) []) none := by
    kernel_rfl
  rw [hu]
  exact (L.FnExactOtherNet_tree_nat (fun o => optC o (fun (r : Bool) => κ (.bool r) []) none) aNet (fun d => some d) none).symm
noncomputable def L.FnExactOtherNet_s : D.Spec where
  keep := true
  pure := true
  ds := [.int .i64]
  sp := fun args h κ => match args, h with
    | [.ro true (.ints .i64 aNet)], [] => optC (L.FnExactOtherNet_t aNet) (fun (r : Bool) => κ (.bool r) []) none
    | _, _ => none
theorem L.FnExactOtherNet_ok : SpecOk Try.prog 12 L.FnExactOtherNet_s := by
  refine SpecOk.of TDok mixed (T := L.FnExactOtherNet_T) ?_ (ann := L.FnExactOtherNet_ann) Try.func12 rfl (by decide +kernel) ?_ ?_ ?_
  · intro p hp
    simp only [L.FnExactOtherNet_T, List.mem_cons, List.not_mem_nil, or_false] at hp
    rcases hp with rfl | rfl | rfl | rfl | rfl | rfl
    · exact L.toIntS_ok
    · exact S.OtherNet_ok
    · exact I.OtherNet_ok
    · exact L.eqIntS_ok
    · exact L.markIntS_ok
    · exact L.heldIntS_ok
  · intro args h κ r hh
    simp only [L.FnExactOtherNet_s] at hh
    split at hh
    · exact (L.FnExactOtherNet_den _ κ).trans hh
    · cases hh
  · intro args h κ r hh
    simp only [L.FnExactOtherNet_s] at hh ⊢
    split at hh
    · exact optC_law2 (F := fun (r : Bool) κ => κ (.bool r) []) (fun b κ r hb => ⟨_, _, hb, fun _ => rfl⟩) hh
    · cases hh
  · intro _ args h κ r hh
    simp only [L.FnExactOtherNet_s] at hh
    split at hh
    · exact ⟨rfl, fun _ => rfl⟩
    · cases hh

-- loop.example/guardsonnets/spec.l20Seen
noncomputable def S.l20Seen_T : List (Nat × D.Spec) := [(48, S.l20Set_s), (54, S.l1SetOk_s), (50, S.l20Rd_pick_s)]
def S.l20Seen_ann : Nat → List Nat × List Nat
  | _ => ([], [])
noncomputable def S.l20Seen_F (args : List V) (h : List E) (κ : V → List E → R) : R := funC TD (tableK S.l20Seen_T) S.l20Seen_ann (drawOk TD (tableP S.l20Seen_T)) FUEL Try.f72 args h κ
noncomputable def S.l20Seen_tree {α : Type} (rb : List Int) (rp : Int) (n_ : Int) (leaf0_ : Int × (List Int) × Int × (List Int) → α) (fail_ : α) : α :=
  (optC (S.l20Set_t rb rp n_) (fun c_1 => (optC (S.l1SetOk_t c_1.snd.snd.snd c_1.fst) (fun c_2 => (bif c_2 then (optC (S.l20Rd_pick_t c_1.snd.fst c_1.snd.snd.fst 2) (fun c_3 => (bif c_3.fst == 0 then (optC (S.l20Rd_pick_t c_3.snd.fst c_3.snd.snd (IntKind.i64.wrap (1 * 2 ^ min (↑c_1.snd.snd.snd.length : Int).toNat IntKind.i64.bits))) (fun c_4 => (leaf0_ (bits BinOp.and IntKind.i64 c_1.fst c_4.fst, c_4.snd.fst, c_4.snd.snd, c_1.snd.snd.snd))) fail_) else (leaf0_ (c_1.fst, c_3.snd.fst, c_3.snd.snd, c_1.snd.snd.snd)))) fail_) else (leaf0_ (c_1.fst, c_1.snd.fst, c_1.snd.snd.fst, c_1.snd.snd.snd)))) fail_)) fail_)
theorem S.l20Seen_tree_nat {α γ : Type} (g : α → γ) (rb : List Int) (rp : Int) (n_ : Int) (leaf0_ : Int × (List Int) × Int × (List Int) → α) (fail_ : α) : g (S.l20Seen_tree rb rp n_ leaf0_ fail_) = S.l20Seen_tree rb rp n_ (fun d => g (leaf0_ d)) (g fail_) := by
  unfold S.l20Seen_tree; simp only [apply_cnd g, apply_optC g, apply_sumC g]
noncomputable def S.l20Seen_t (rb : List Int) (rp : Int) (n_ : Int) : Option (Int × (List Int) × Int × (List Int)) := S.l20Seen_tree rb rp n_ (fun d => some d) none
theorem S.l20Seen_den (rb : List Int) (rp : Int) (n_ : Int) (κ : V → List E → R) : S.l20Seen_F [.ptr 0 0, .int .i64 n_] [.cells [.ro true (.ints .u8 rb), .int .i64 rp]] κ = optC (S.l20Seen_t rb rp n_) (fun (r : Int × (List Int) × Int × (List Int)) => κ (.tup [(.own 1), (.int .i64 r.1)]) [.cells [(.ro true (.ints .u8 r.2.1)), (.int .i64 r.2.2.1)], .row (.ints .i64 r.2.2.2)]) none := by
  have hu : S.l20Seen_F [.ptr 0 0, .int .i64 n_] [.cells [.ro true (.ints .u8 rb), .int .i64 rp]] κ = S.l20Seen_tree rb rp n_ (fun d => κ (.tup [(.own 1), (.int .i64 d.1)]) [.cells [(.ro true (.ints .u8 d.2.1)), (.int .i64 d.2.2.1)], .row (.ints .i64 d.2.2.2)]) none := by
    kernel_rfl
  rw [hu]
  exact (S.l20Seen_tree_nat (fun o => optC o (fun (r : Int × (List Int) × Int × (List Int)) => κ (.tup [(.own 1), (.int .i64 r.1)]) [.cells [(.ro true (.ints .u8 r.2.1)), (.int .i64 r.2.2.1)], .row (.ints .i64 r.2.2.2)]) none) rb rp n_ (fun d => some d) none).symm
noncomputable def S.l20Seen_s : D.Spec where
  keep := false
  pure := false
  ds := [.invalid, .invalid]
  sp := fun args h κ => match args, h with
    | [.ptr 0 0, .int .i64 n_], [.cells [.ro true (.ints .u8 rb), .int .i64 rp]] => optC (S.l20Seen_t rb rp n_) (fun (r : Int × (List Int) × Int × (List Int)) => κ (.tup [(.own 1), (.int .i64 r.1)]) [.cells [(.ro true (.ints .u8 r.2.1)), (.int .i64 r.2.2.1)], .row (.ints .i64 r.2.2.2)]) none
    | _, _ => none
theorem S.l20Seen_ok : SpecOk Try.prog 72 S.l20Seen_s := by
  refine SpecOk.of TDok mixed (T := S.l20Seen_T) ?_ (ann := S.l20Seen_ann) Try.func72 rfl (by decide +kernel) ?_ ?_ ?_
  · intro p hp
    simp only [S.l20Seen_T, List.mem_cons, List.not_mem_nil, or_false] at hp
    rcases hp with rfl | rfl | rfl
    · exact S.l20Set_ok
    · exact S.l1SetOk_ok
    · exact S.l20Rd_pick_ok
  · intro args h κ r hh
    simp only [S.l20Seen_s] at hh
    split at hh
    · exact (S.l20Seen_den _ _ _ κ).trans hh
    · cases hh
  · intro args h κ r hh
    simp only [S.l20Seen_s] at hh ⊢
    split at hh
    · exact optC_law2 (F := fun (r : Int × (List Int) × Int × (List Int)) κ => κ (.tup [(.own 1), (.int .i64 r.1)]) [.cells [(.ro true (.ints .u8 r.2.1)), (.int .i64 r.2.2.1)], .row (.ints .i64 r.2.2.2)]) (fun b κ r hb => ⟨_, _, hb, fun _ => rfl⟩) hh
    · cases hh
  · intro hh; cases hh

-- loop.example/guardsonnets/spec.l1Near
noncomputable def S.l1Near_T : List (Nat × D.Spec) := []
def S.l1Near_ann : Nat → List Nat × List Nat
  | 3 => ([0, 1, 5, 6], [5])
  | _ => ([], [])
noncomputable def S.l1Near_F (args : List V) (h : List E) (κ : V → List E → R) : R := funC TD (tableK S.l1Near_T) S.l1Near_ann (drawOk TD (tableP S.l1Near_T)) FUEL Try.f81 args h κ
noncomputable def S.l1Near_L3 (n : Nat) (σ : St) (k : X → St → R) : R := iterC 0 (fun σ k => denC TD (tableK S.l1Near_T) S.l1Near_ann (drawOk TD (tableP S.l1Near_T)) 0 FUEL ((findLoop 3 (Try.f81.body.getD .skip)).getD .skip) σ k) [0, 1, 5, 6] [5] n σ k
noncomputable def S.l1Near_k3 (κ : V → List E → R) : X → St → R := (afterC TD (tableK S.l1Near_T) S.l1Near_ann (drawOk TD (tableP S.l1Near_T)) 0 FUEL 3 (Try.f81.body.getD .skip) (finC TD 0 Try.f81 κ)).getD (fun _ _ => none)
noncomputable def S.l1Near_step3 {α : Type} (x0 : List Int) (x1 : Int) (x5 : Int) (x6 : Int) (next_ : Int × Int → α) (out0_ : Int → α) (fail_ : α) : α :=
  (bif decide (x6 < (↑x0.length : Int)) then (bif decide (x6 < 0) then fail_ else (bif (x1.fdiv (2 ^ min x6.toNat IntKind.i64.bits)).tmod 2 == 1 then (bif decide (0 ≤ x6) && decide (x6 < (↑x0.length : Int)) then (next_ (bits BinOp.or IntKind.i64 x5 (eli x0 x6.toNat), IntKind.i64.wrap (x6 + 1))) else fail_) else (next_ (x5, IntKind.i64.wrap (x6 + 1))))) else (out0_ x5))
theorem S.l1Near_step3_nat {α γ : Type} (g : α → γ) (x0 : List Int) (x1 : Int) (x5 : Int) (x6 : Int) (next_ : Int × Int → α) (out0_ : Int → α) (fail_ : α) : g (S.l1Near_step3 x0 x1 x5 x6 next_ out0_ fail_) = S.l1Near_step3 x0 x1 x5 x6 (fun s => g (next_ s)) (fun d => g (out0_ d)) (g fail_) := by
  unfold S.l1Near_step3; simp only [apply_cnd g, apply_optC g, apply_sumC g]
noncomputable def S.l1Near_run3 (x0 : List Int) (x1 : Int) : Nat → Int × Int → Option (Int)
  | 0, _ => none
  | n + 1, s_ => S.l1Near_step3 x0 x1 s_.1 s_.2 (S.l1Near_run3 x0 x1 n) (fun d => some d) none
theorem S.l1Near_L3_run (x0 : List Int) (x1 : Int) (n : Nat) (s_ : Int × Int) (k : X → St → R) : S.l1Near_L3 n { n := 25, t := [(0, (.ro false (.ints .i64 x0))), (1, (.int .i64 x1)), (5, (.int .i64 s_.1)), (6, (.int .i64 s_.2))], h := [] } k = optC (S.l1Near_run3 x0 x1 n s_) (fun (r : Int) => k (.exit 0) { n := 25, t := [(5, (.int .i64 r))], h := [] }) none := by
  induction n generalizing s_ with
  | zero => rfl
  | succ n ih =>
    have hu : S.l1Near_L3 (n + 1) { n := 25, t := [(0, (.ro false (.ints .i64 x0))), (1, (.int .i64 x1)), (5, (.int .i64 s_.1)), (6, (.int .i64 s_.2))], h := [] } k = S.l1Near_step3 x0 x1 s_.1 s_.2 (fun s_ => S.l1Near_L3 n { n := 25, t := [(0, (.ro false (.ints .i64 x0))), (1, (.int .i64 x1)), (5, (.int .i64 s_.1)), (6, (.int .i64 s_.2))], h := [] } k) (fun d => k (.exit 0) { n := 25, t := [(5, (.int .i64 d))], h := [] }) none := by
      kernel_rfl
    have hs : (fun s_ : Int × Int => S.l1Near_L3 n { n := 25, t := [(0, (.ro false (.ints .i64 x0))), (1, (.int .i64 x1)), (5, (.int .i64 s_.1)), (6, (.int .i64 s_.2))], h := [] } k) = fun s_ => optC (S.l1Near_run3 x0 x1 n s_) (fun (r : Int) => k (.exit 0) { n := 25, t := [(5, (.int .i64 r))], h := [] }) none := funext ih
    rw [hu, hs]
    exact (S.l1Near_step3_nat (fun o => optC o (fun (r : Int) => k (.exit 0) { n := 25, t := [(5, (.int .i64 r))], h := [] }) none) x0 x1 s_.1 s_.2 (S.l1Near_run3 x0 x1 n) (fun d => some d) none).symm
noncomputable def S.l1Near_tree {α : Type} (net : List Int) (set_ : Int) (leaf0_ : Int → α) (fail_ : α) : α :=
  (optC (S.l1Near_run3 net set_ FUEL (0, 0)) (fun qy_1 => (leaf0_ qy_1)) fail_)
theorem S.l1Near_tree_nat {α γ : Type} (g : α → γ) (net : List Int) (set_ : Int) (leaf0_ : Int → α) (fail_ : α) : g (S.l1Near_tree net set_ leaf0_ fail_) = S.l1Near_tree net set_ (fun d => g (leaf0_ d)) (g fail_) := by
  unfold S.l1Near_tree; simp only [apply_cnd g, apply_optC g, apply_sumC g]
noncomputable def S.l1Near_t (net : List Int) (set_ : Int) : Option (Int) := S.l1Near_tree net set_ (fun d => some d) none
theorem S.l1Near_den (net : List Int) (set_ : Int) (κ : V → List E → R) : S.l1Near_F [.ro false (.ints .i64 net), .int .i64 set_] [] κ = optC (S.l1Near_t net set_) (fun (r : Int) => κ (.int .i64 r) []) none := by
  have hu : S.l1Near_F [.ro false (.ints .i64 net), .int .i64 set_] [] κ = S.l1Near_tree net set_ (fun d => κ (.int .i64 d) []) none := by
    refine Eq.trans (show S.l1Near_F [.ro false (.ints .i64 net), .int .i64 set_] [] κ = (S.l1Near_L3 FUEL { n := 25, t := [(0, (.ro false (.ints .i64 net))), (1, (.int .i64 set_)), (5, (.int .i64 0)), (6, (.int .i64 0))], h := [] } (S.l1Near_k3 κ)) by kernel_rfl) ?_
    refine (S.l1Near_L3_run net set_ FUEL (0, 0) (S.l1Near_k3 κ)).trans (optC_congr (fun qy_1 => ?_))
    kernel_rfl
  rw [hu]
  exact (S.l1Near_tree_nat (fun o => optC o (fun (r : Int) => κ (.int .i64 r) []) none) net set_ (fun d => some d) none).symm
noncomputable def S.l1Near_s : D.Spec where
  keep := false
  pure := true
  ds := [.int .i64, .invalid]
  sp := fun args h κ => match args, h with
    | [.ro false (.ints .i64 net), .int .i64 set_], [] => optC (S.l1Near_t net set_) (fun (r : Int) => κ (.int .i64 r) []) none
    | _, _ => none
theorem S.l1Near_ok : SpecOk Try.prog 81 S.l1Near_s := by
  refine SpecOk.of TDok mixed (T := S.l1Near_T) ?_ (ann := S.l1Near_ann) Try.func81 rfl (by decide +kernel) ?_ ?_ ?_
  · intro p hp; cases hp
  · intro args h κ r hh
    simp only [S.l1Near_s] at hh
    split at hh
    · exact (S.l1Near_den _ _ κ).trans hh
    · cases hh
  · intro args h κ r hh
    simp only [S.l1Near_s] at hh ⊢
    split at hh
    · exact optC_law2 (F := fun (r : Int) κ => κ (.int .i64 r) []) (fun b κ r hb => ⟨_, _, hb, fun _ => rfl⟩) hh
    · cases hh
  · intro _ args h κ r hh
    simp only [S.l1Near_s] at hh
    split at hh
    · exact ⟨rfl, fun _ => rfl⟩
    · cases hh

-- loop.example/guardsonnets/spec.SeenBy
noncomputable def S.SeenBy_T : List (Nat × D.Spec) := [(54, S.l1SetOk_s), (81, S.l1Near_s)]
def S.SeenBy_ann : Nat → List Nat × List Nat
  | _ => ([], [])
noncomputable def S.SeenBy_F (args : List V) (h : List E) (κ : V → List E → R) : R := funC TD (tableK S.SeenBy_T) S.SeenBy_ann (drawOk TD (tableP S.SeenBy_T)) FUEL Try.f73 args h κ
noncomputable def S.SeenBy_tree {α : Type} (net : List Int) (set_ : Int) (leaf0_ : Int → α) (fail_ : α) : α :=
  (optC (S.l1SetOk_t net set_) (fun c_1 => (bif !c_1 then (leaf0_ (-1)) else (optC (S.l1Near_t net set_) (fun c_2 => (leaf0_ (bits BinOp.or IntKind.i64 set_ c_2))) fail_))) fail_)
theorem S.SeenBy_tree_nat {α γ : Type} (g : α → γ) (net : List Int) (set_ : Int) (leaf0_ : Int → α) (fail_ : α) : g (S.SeenBy_tree net set_ leaf0_ fail_) = S.SeenBy_tree net set_ (fun d => g (leaf0_ d)) (g fail_) := by
  unfold S.SeenBy_tree; simp only [apply_cnd g, apply_optC g, apply_sumC g]
noncomputable def S.SeenBy_t (net : List Int) (set_ : Int) : Option (Int) := S.SeenBy_tree net set_ (fun d => some d) none
theorem S.SeenBy_den (net : List Int) (set_ : Int) (κ : V → List E → R) : S.SeenBy_F [.ro false (.ints .i64 net), .int .i64 set_] [] κ = optC (S.SeenBy_t net set_) (fun (r : Int) => κ (.int .i64 r) []) none := by
  have hu : S.SeenBy_F [.ro false (.ints .i64 net), .int .i64 set_] [] κ = S.SeenBy_tree net set_ (fun d => κ (.int .i64 d) []) none := by
    kernel_rfl
  rw [hu]
  exact (S.SeenBy_tree_nat (fun o => optC o (fun (r : Int) => κ (.int .i64 r) []) none) net set_ (fun d => some d) none).symm
noncomputable def S.SeenBy_s : D.Spec where
  keep := false
  pure := true
  ds := [.int .i64, .invalid]
  sp := fun args h κ => match args, h with
    | [.ro false (.ints .i64 net), .int .i64 set_], [] => optC (S.SeenBy_t net set_) (fun (r : Int) => κ (.int .i64 r) []) none
    | _, _ => none
theorem S.SeenBy_ok : SpecOk Try.prog 73 S.SeenBy_s := by
  refine SpecOk.of TDok mixed (T := S.SeenBy_T) ?_ (ann := S.SeenBy_ann) Try.func73 rfl (by decide +kernel) ?_ ?_ ?_
  · intro p hp
    simp only [S.SeenBy_T, List.mem_cons, List.not_mem_nil, or_false] at hp
    rcases hp with rfl | rfl
    · exact S.l1SetOk_ok
    · exact S.l1Near_ok
  · intro args h κ r hh
    simp only [S.SeenBy_s] at hh
    split at hh
    · exact (S.SeenBy_den _ _ κ).trans hh
    · cases hh
  · intro args h κ r hh
    simp only [S.SeenBy_s] at hh ⊢
    split at hh
    · exact optC_law2 (F := fun (r : Int) κ => κ (.int .i64 r) []) (fun b κ r hb => ⟨_, _, hb, fun _ => rfl⟩) hh
    · cases hh
  · intro _ args h κ r hh
    simp only [S.SeenBy_s] at hh
    split at hh
    · exact ⟨rfl, fun _ => rfl⟩
    · cases hh

-- loop.example/guardsonnets/spec.DrawPlayMay
noncomputable def S.DrawPlayMay_T : List (Nat × D.Spec) := [(47, S.l20Open_s), (72, S.l20Seen_s), (49, S.NetOk_s), (50, S.l20Rd_pick_s), (73, S.SeenBy_s)]
def S.DrawPlayMay_ann : Nat → List Nat × List Nat
  | _ => ([], [])
noncomputable def S.DrawPlayMay_F (args : List V) (h : List E) (κ : V → List E → R) : R := funC TD (tableK S.DrawPlayMay_T) S.DrawPlayMay_ann (drawOk TD (tableP S.DrawPlayMay_T)) FUEL Try.f44 args h κ
noncomputable def S.DrawPlayMay_tree {α : Type} (code : List Int) (leaf0_ : Int × Int × (List Int) → α) (fail_ : α) : α :=
  (optC (S.l20Open_t code) (fun c_1 => (optC (S.l20Seen_t c_1.fst c_1.snd 12) (fun c_2 => (optC (S.NetOk_t c_2.snd.snd.snd) (fun c_3 => (bif c_3 then (optC (S.l20Rd_pick_t c_2.snd.fst c_2.snd.snd.fst 2) (fun c_4 => (bif c_4.fst == 0 then (bif IntKind.i64.wrap (1 * 2 ^ min (↑c_2.snd.snd.snd.length : Int).toNat IntKind.i64.bits) == 0 then fail_ else (optC (S.SeenBy_t c_2.snd.snd.snd (c_2.fst.tmod (IntKind.i64.wrap (1 * 2 ^ min (↑c_2.snd.snd.snd.length : Int).toNat IntKind.i64.bits)))) (fun c_5 => (optC (S.l20Rd_pick_t c_4.snd.fst c_4.snd.snd (if 1 > (↑c_2.snd.snd.snd.length : Int) then 1 else (↑c_2.snd.snd.snd.length : Int))) (fun c_6 => (optC (S.l20Rd_pick_t c_6.snd.fst c_6.snd.snd 40) (fun c_7 => (leaf0_ (c_5, IntKind.i64.wrap (c_6.fst + IntKind.i64.wrap (IntKind.i64.wrap (c_7.fst.tdiv 39) * 6)), c_2.snd.snd.snd))) fail_)) fail_)) fail_)) else (optC (S.l20Rd_pick_t c_4.snd.fst c_4.snd.snd (if 1 > (↑c_2.snd.snd.snd.length : Int) then 1 else (↑c_2.snd.snd.snd.length : Int))) (fun c_8 => (optC (S.l20Rd_pick_t c_8.snd.fst c_8.snd.snd 40) (fun c_9 => (leaf0_ (c_2.fst, IntKind.i64.wrap (c_8.fst + IntKind.i64.wrap (IntKind.i64.wrap (c_9.fst.tdiv 39) * 6)), c_2.snd.snd.snd))) fail_)) fail_))) fail_) else (optC (S.l20Rd_pick_t c_2.snd.fst c_2.snd.snd.fst (if 1 > (↑c_2.snd.snd.snd.length : Int) then 1 else (↑c_2.snd.snd.snd.length : Int))) (fun c_10 => (optC (S.l20Rd_pick_t c_10.snd.fst c_10.snd.snd 40) (fun c_11 => (leaf0_ (c_2.fst, IntKind.i64.wrap (c_10.fst + IntKind.i64.wrap (IntKind.i64.wrap (c_11.fst.tdiv 39) * 6)), c_2.snd.snd.snd))) fail_)) fail_))) fail_)) fail_)) fail_)
theorem S.DrawPlayMay_tree_nat {α γ : Type} (g : α → γ) (code : List Int) (leaf0_ : Int × Int × (List Int) → α) (fail_ : α) : g (S.DrawPlayMay_tree code leaf0_ fail_) = S.DrawPlayMay_tree code (fun d => g (leaf0_ d)) (g fail_) := by
  unfold S.DrawPlayMay_tree; simp only [apply_cnd g, apply_optC g, apply_sumC g]
noncomputable def S.DrawPlayMay_t (code : List Int) : Option (Int × Int × (List Int)) := S.DrawPlayMay_tree code (fun d => some d) none
theorem S.DrawPlayMay_den (code : List Int) (κ : V → List E → R) : S.DrawPlayMay_F [.ro true (.ints .u8 code)] [] κ = optC (S.DrawPlayMay_t code) (fun (r : Int × Int × (List Int)) => κ (.tup [(.own 0), (.int .i64 r.1), (.int .i64 r.2.1)]) [.row (.ints .i64 r.2.2)]) none := by
  have hu : S.DrawPlayMay_F [.ro true (.ints .u8 code)] [] κ = S.DrawPlayMay_tree code (fun d => κ (.tup [(.own 0), (.int .i64 d.1), (.int .i64 d.2.1)]) [.row (.ints .i64 d.2.2)]) none := by
    kernel_rfl
  rw [hu]
  exact (S.DrawPlayMay_tree_nat (fun o => optC o (fun (r : Int × Int × (List Int)) => κ (.tup [(.own 0), (.int .i64 r.1), (.int .i64 r.2.1)]) [.row (.ints .i64 r.2.2)]) none) code (fun d => some d) none).symm
noncomputable def S.DrawPlayMay_s : D.Spec where
  keep := true
  pure := false
  ds := [.int .u8]
  sp := fun args h κ => match args, h with
    | [.ro true (.ints .u8 code)], [] => optC (S.DrawPlayMay_t code) (fun (r : Int × Int × (List Int)) => κ (.tup [(.own 0), (.int .i64 r.1), (.int .i64 r.2.1)]) [.row (.ints .i64 r.2.2)]) none
    | _, _ => none
theorem S.DrawPlayMay_ok : SpecOk Try.prog 44 S.DrawPlayMay_s := by
  refine SpecOk.of TDok mixed (T := S.DrawPlayMay_T) ?_ (ann := S.DrawPlayMay_ann) Try.func44 rfl (by decide +kernel) ?_ ?_ ?_
  · intro p hp
    simp only [S.DrawPlayMay_T, List.mem_cons, List.not_mem_nil, or_false] at hp
    rcases hp with rfl | rfl | rfl | rfl | rfl
    · exact S.l20Open_ok
    · exact S.l20Seen_ok
    · exact S.NetOk_ok
    · exact S.l20Rd_pick_ok
    · exact S.SeenBy_ok
  · intro args h κ r hh
    simp only [S.DrawPlayMay_s] at hh
    split at hh
    · exact (S.DrawPlayMay_den _ κ).trans hh
    · cases hh
  · intro args h κ r hh
    simp only [S.DrawPlayMay_s] at hh ⊢
    split at hh
    · exact optC_law2 (F := fun (r : Int × Int × (List Int)) κ => κ (.tup [(.own 0), (.int .i64 r.1), (.int .i64 r.2.1)]) [.row (.ints .i64 r.2.2)]) (fun b κ r hb => ⟨_, _, hb, fun _ => rfl⟩) hh
    · cases hh
  · intro hh; cases hh

-- loop.example/guardsonnets/impl.playIn
noncomputable def I.playIn_T : List (Nat × D.Spec) := [(58, I.ballIn_s)]
def I.playIn_ann : Nat → List Nat × List Nat
  | _ => ([], [])
noncomputable def I.playIn_F (args : List V) (h : List E) (κ : V → List E → R) : R := funC TD (tableK I.playIn_T) I.playIn_ann (drawOk TD (tableP I.playIn_T)) FUEL Try.f74 args h κ
noncomputable def I.playIn_tree {α : Type} (net : List Int) (seen : Int) (place : Int) (leaf0_ : Bool → α) (fail_ : α) : α :=
  (optC (I.ballIn_t net place) (fun c_1 => (leaf0_ (bits BinOp.andNot IntKind.i64 c_1 seen != 0))) fail_)
theorem I.playIn_tree_nat {α γ : Type} (g : α → γ) (net : List Int) (seen : Int) (place : Int) (leaf0_ : Bool → α) (fail_ : α) : g (I.playIn_tree net seen place leaf0_ fail_) = I.playIn_tree net seen place (fun d => g (leaf0_ d)) (g fail_) := by
  unfold I.playIn_tree; simp only [apply_cnd g, apply_optC g, apply_sumC g]
noncomputable def I.playIn_t (net : List Int) (seen : Int) (place : Int) : Option (Bool) := I.playIn_tree net seen place (fun d => some d) none
theorem I.playIn_den (net : List Int) (seen : Int) (place : Int) (κ : V → List E → R) : I.playIn_F [.ro false (.ints .i64 net), .int .i64 seen, .int .i64 place] [] κ = optC (I.playIn_t net seen place) (fun (r : Bool) => κ (.bool r) []) none := by
  have hu : I.playIn_F [.ro false (.ints .i64 net), .int .i64 seen, .int .i64 place] [] κ = I.playIn_tree net seen place (fun d => κ (.bool d) []) none := by
    kernel_rfl
  rw [hu]
  exact (I.playIn_tree_nat (fun o => optC o (fun (r : Bool) => κ (.bool r) []) none) net seen place (fun d => some d) none).symm
noncomputable def I.playIn_s : D.Spec where
  keep := false
  pure := true
  ds := [.int .i64, .invalid, .invalid]
  sp := fun args h κ => match args, h with
    | [.ro false (.ints .i64 net), .int .i64 seen, .int .i64 place], [] => optC (I.playIn_t net seen place) (fun (r : Bool) => κ (.bool r) []) none
    | _, _ => none
theorem I.playIn_ok : SpecOk Try.prog 74 I.playIn_s := by
  refine SpecOk.of TDok mixed (T := I.playIn_T) ?_ (ann := I.playIn_ann) Try.func74 rfl (by decide +kernel) ?_ ?_ ?_
  · intro p hp
    simp only [I.playIn_T, List.mem_cons, List.not_mem_nil, or_false] at hp
    rcases hp with rfl
    · exact I.ballIn_ok
  · intro args h κ r hh
    simp only [I.playIn_s] at hh
    split at hh
    · exact (I.playIn_den _ _ _ κ).trans hh
    · cases hh
  · intro args h κ r hh
    simp only [I.playIn_s] at hh ⊢
    split at hh
    · exact optC_law2 (F := fun (r : Bool) κ => κ (.bool r) []) (fun b κ r hb => ⟨_, _, hb, fun _ => rfl⟩) hh
    · cases hh
  · intro _ args h κ r hh
    simp only [I.playIn_s] at hh
    split at hh
    · exact ⟨rfl, fun _ => rfl⟩
    · cases hh

-- loop.example/guardsonnets/impl.PlayMay
noncomputable def I.PlayMay_T : List (Nat × D.Spec) := [(18, I.NetOk_s), (52, I.setIn_s), (57, I.placeIn_s), (74, I.playIn_s)]
def I.PlayMay_ann : Nat → List Nat × List Nat
  | _ => ([], [])
noncomputable def I.PlayMay_F (args : List V) (h : List E) (κ : V → List E → R) : R := funC TD (tableK I.PlayMay_T) I.PlayMay_ann (drawOk TD (tableP I.PlayMay_T)) FUEL Try.f45 args h κ
noncomputable def I.PlayMay_tree {α : Type} (net : List Int) (seen : Int) (place : Int) (leaf0_ : Bool → α) (fail_ : α) : α :=
  (optC (I.NetOk_t net) (fun c_1 => (bif c_1 then (optC (I.setIn_t net seen) (fun c_2 => (bif c_2 then (optC (I.placeIn_t net place) (fun c_3 => (bif c_3 then (optC (I.playIn_t net seen place) (fun c_4 => (leaf0_ c_4)) fail_) else (leaf0_ false))) fail_) else (leaf0_ false))) fail_) else (leaf0_ false))) fail_)
theorem I.PlayMay_tree_nat {α γ : Type} (g : α → γ) (net : List Int) (seen : Int) (place : Int) (leaf0_ : Bool → α) (fail_ : α) : g (I.PlayMay_tree net seen place leaf0_ fail_) = I.PlayMay_tree net seen place (fun d => g (leaf0_ d)) (g fail_) := by
  unfold I.PlayMay_tree; simp only [apply_cnd g, apply_optC g, apply_sumC g]
noncomputable def I.PlayMay_t (net : List Int) (seen : Int) (place : Int) : Option (Bool) := I.PlayMay_tree net seen place (fun d => some d) none
theorem I.PlayMay_den (net : List Int) (seen : Int) (place : Int) (κ : V → List E → R) : I.PlayMay_F [.ro false (.ints .i64 net), .int .i64 seen, .int .i64 place] [] κ = optC (I.PlayMay_t net seen place) (fun (r : Bool) => κ (.bool r) []) none := by
  have hu : I.PlayMay_F [.ro false (.ints .i64 net), .int .i64 seen, .int .i64 place] [] κ = I.PlayMay_tree net seen place (fun d => κ (.bool d) []) none := by
    kernel_rfl
  rw [hu]
  exact (I.PlayMay_tree_nat (fun o => optC o (fun (r : Bool) => κ (.bool r) []) none) net seen place (fun d => some d) none).symm
noncomputable def I.PlayMay_s : D.Spec where
  keep := false
  pure := true
  ds := [.int .i64, .invalid, .invalid]
  sp := fun args h κ => match args, h with
    | [.ro false (.ints .i64 net), .int .i64 seen, .int .i64 place], [] => optC (I.PlayMay_t net seen place) (fun (r : Bool) => κ (.bool r) []) none
    | _, _ => none
theorem I.PlayMay_ok : SpecOk Try.prog 45 I.PlayMay_s := by
  refine SpecOk.of TDok mixed (T := I.PlayMay_T) ?_ (ann := I.PlayMay_ann) Try.func45 rfl (by decide +kernel) ?_ ?_ ?_
  · intro p hp
    simp only [I.PlayMay_T, List.mem_cons, List.not_mem_nil, or_false] at hp
    rcases hp with rfl | rfl | rfl | rfl
    · exact I.NetOk_ok
    · exact I.setIn_ok
    · exact I.placeIn_ok
    · exact I.playIn_ok
  · intro args h κ r hh
    simp only [I.PlayMay_s] at hh
    split at hh
    · exact (I.PlayMay_den _ _ _ κ).trans hh
    · cases hh
  · intro args h κ r hh
    simp only [I.PlayMay_s] at hh ⊢
    split at hh
    · exact optC_law2 (F := fun (r : Bool) κ => κ (.bool r) []) (fun b κ r hb => ⟨_, _, hb, fun _ => rfl⟩) hh
    · cases hh
  · intro _ args h κ r hh
    simp only [I.PlayMay_s] at hh
    split at hh
    · exact ⟨rfl, fun _ => rfl⟩
    · cases hh

-- loop.example/guardsonnets/spec.l12New
noncomputable def S.l12New_T : List (Nat × D.Spec) := []
def S.l12New_ann : Nat → List Nat × List Nat
  | _ => ([], [])
noncomputable def S.l12New_F (args : List V) (h : List E) (κ : V → List E → R) : R := funC TD (tableK S.l12New_T) S.l12New_ann (drawOk TD (tableP S.l12New_T)) FUEL Try.f75 args h κ
noncomputable def S.l12New_tree {α : Type} (net : List Int) (seen : Int) (place : Int) (leaf0_ : Bool → α) (fail_ : α) : α :=
  (bif decide (0 ≤ place) && decide (place < (↑net.length : Int)) then (bif decide (place < 0) then fail_ else (leaf0_ (decide (bits BinOp.andNot IntKind.i64 (bits BinOp.or IntKind.i64 (eli net place.toNat) (IntKind.i64.wrap (1 * 2 ^ min place.toNat IntKind.i64.bits))) seen > 0)))) else fail_)
theorem S.l12New_tree_nat {α γ : Type} (g : α → γ) (net : List Int) (seen : Int) (place : Int) (leaf0_ : Bool → α) (fail_ : α) : g (S.l12New_tree net seen place leaf0_ fail_) = S.l12New_tree net seen place (fun d => g (leaf0_ d)) (g fail_) := by
  unfold S.l12New_tree; simp only [apply_cnd g, apply_optC g, apply_sumC g]
noncomputable def S.l12New_t (net : List Int) (seen : Int) (place : Int) : Option (Bool) := S.l12New_tree net seen place (fun d => some d) none
theorem S.l12New_den (net : List Int) (seen : Int) (place : Int) (κ : V → List E → R) : S.l12New_F [.ro false (.ints .i64 net), .int .i64 seen, .int .i64 place] [] κ = optC (S.l12New_t net seen place) (fun (r : Bool) => κ (.bool r) []) none := by
  have hu : S.l12New_F [.ro false (.ints .i64 net), .int .i64 seen, .int .i64 place] [] κ = S.l12New_tree net seen place (fun d => κ (.bool d) []) none := by
    kernel_rfl
  rw [hu]
  exact (S.l12New_tree_nat (fun o => optC o (fun (r : Bool) => κ (.bool r) []) none) net seen place (fun d => some d) none).symm
noncomputable def S.l12New_s : D.Spec where
  keep := false
  pure := true
  ds := [.int .i64, .invalid, .invalid]
  sp := fun args h κ => match args, h with
    | [.ro false (.ints .i64 net), .int .i64 seen, .int .i64 place], [] => optC (S.l12New_t net seen place) (fun (r : Bool) => κ (.bool r) []) none
    | _, _ => none
theorem S.l12New_ok : SpecOk Try.prog 75 S.l12New_s := by
  refine SpecOk.of TDok mixed (T := S.l12New_T) ?_ (ann := S.l12New_ann) Try.func75 rfl (by decide +kernel) ?_ ?_ ?_
  · intro p hp; cases hp
  · intro args h κ r hh
    simp only [S.l12New_s] at hh
    split at hh
    · exact (S.l12New_den _ _ _ κ).trans hh
    · cases hh
  · intro args h κ r hh
    simp only [S.l12New_s] at hh ⊢
    split at hh
    · exact optC_law2 (F := fun (r : Bool) κ => κ (.bool r) []) (fun b κ r hb => ⟨_, _, hb, fun _ => rfl⟩) hh
    · cases hh
  · intro _ args h κ r hh
    simp only [S.l12New_s] at hh
    split at hh
    · exact ⟨rfl, fun _ => rfl⟩
    · cases hh

-- loop.example/guardsonnets/spec.PlayMay
noncomputable def S.PlayMay_T : List (Nat × D.Spec) := [(54, S.l1SetOk_s), (67, S.l1In_s), (75, S.l12New_s)]
def S.PlayMay_ann : Nat → List Nat × List Nat
  | _ => ([], [])
noncomputable def S.PlayMay_F (args : List V) (h : List E) (κ : V → List E → R) : R := funC TD (tableK S.PlayMay_T) S.PlayMay_ann (drawOk TD (tableP S.PlayMay_T)) FUEL Try.f46 args h κ
noncomputable def S.PlayMay_tree {α : Type} (net : List Int) (seen : Int) (place : Int) (leaf0_ : Bool → α) (fail_ : α) : α :=
  (optC (S.l1SetOk_t net seen) (fun c_1 => (bif c_1 then (optC (S.l1In_t place 0 (IntKind.i64.wrap ((↑net.length : Int) - 1))) (fun c_2 => (bif c_2 then (optC (S.l12New_t net seen place) (fun c_3 => (leaf0_ c_3)) fail_) else (leaf0_ false))) fail_) else (leaf0_ false))) fail_)
theorem S.PlayMay_tree_nat {α γ : Type} (g : α → γ) (net : List Int) (seen : Int) (place : Int) (leaf0_ : Bool → α) (fail_ : α) : g (S.PlayMay_tree net seen place leaf0_ fail_) = S.PlayMay_tree net seen place (fun d => g (leaf0_ d)) (g fail_) := by
  unfold S.PlayMay_tree; simp only [apply_cnd g, apply_optC g, apply_sumC g]
noncomputable def S.PlayMay_t (net : List Int) (seen : Int) (place : Int) : Option (Bool) := S.PlayMay_tree net seen place (fun d => some d) none
theorem S.PlayMay_den (net : List Int) (seen : Int) (place : Int) (κ : V → List E → R) : S.PlayMay_F [.ro false (.ints .i64 net), .int .i64 seen, .int .i64 place] [] κ = optC (S.PlayMay_t net seen place) (fun (r : Bool) => κ (.bool r) []) none := by
  have hu : S.PlayMay_F [.ro false (.ints .i64 net), .int .i64 seen, .int .i64 place] [] κ = S.PlayMay_tree net seen place (fun d => κ (.bool d) []) none := by
    kernel_rfl
  rw [hu]
  exact (S.PlayMay_tree_nat (fun o => optC o (fun (r : Bool) => κ (.bool r) []) none) net seen place (fun d => some d) none).symm
noncomputable def S.PlayMay_s : D.Spec where
  keep := false
  pure := true
  ds := [.int .i64, .invalid, .invalid]
  sp := fun args h κ => match args, h with
    | [.ro false (.ints .i64 net), .int .i64 seen, .int .i64 place], [] => optC (S.PlayMay_t net seen place) (fun (r : Bool) => κ (.bool r) []) none
    | _, _ => none
theorem S.PlayMay_ok : SpecOk Try.prog 46 S.PlayMay_s := by
  refine SpecOk.of TDok mixed (T := S.PlayMay_T) ?_ (ann := S.PlayMay_ann) Try.func46 rfl (by decide +kernel) ?_ ?_ ?_
  · intro p hp
    simp only [S.PlayMay_T, List.mem_cons, List.not_mem_nil, or_false] at hp
    rcases hp with rfl | rfl | rfl
    · exact S.l1SetOk_ok
    · exact S.l1In_ok
    · exact S.l12New_ok
  · intro args h κ r hh
    simp only [S.PlayMay_s] at hh
    split at hh
    · exact (S.PlayMay_den _ _ _ κ).trans hh
    · cases hh
  · intro args h κ r hh
    simp only [S.PlayMay_s] at hh ⊢
    split at hh
    · exact optC_law2 (F := fun (r : Bool) κ => κ (.bool r) []) (fun b κ r hb => ⟨_, _, hb, fun _ => rfl⟩) hh
    · cases hh
  · intro _ args h κ r hh
    simp only [S.PlayMay_s] at hh
    split at hh
    · exact ⟨rfl, fun _ => rfl⟩
    · cases hh

-- loop.example/guardsonnets/laws.FnPlayMay
noncomputable def L.FnPlayMay_T : List (Nat × D.Spec) := [(44, S.DrawPlayMay_s), (45, I.PlayMay_s), (46, S.PlayMay_s), (20, I.BallOf_s), (19, L.alive_s)]
def L.FnPlayMay_ann : Nat → List Nat × List Nat
  | _ => ([], [])
noncomputable def L.FnPlayMay_F (args : List V) (h : List E) (κ : V → List E → R) : R := funC TD (tableK L.FnPlayMay_T) L.FnPlayMay_ann (drawOk TD (tableP L.FnPlayMay_T)) FUEL Try.f13 args h κ
noncomputable def L.FnPlayMay_tree {α : Type} (code : List Int) (leaf0_ : Bool → α) (fail_ : α) : α :=
  (bif decide ((↑code.length : Int) > 1048576) then (leaf0_ true) else (optC (S.DrawPlayMay_t code) (fun c_1 => (optC (I.PlayMay_t c_1.snd.snd c_1.fst c_1.snd.fst) (fun c_2 => (optC (S.PlayMay_t c_1.snd.snd c_1.fst c_1.snd.fst) (fun c_3 => (bif !c_2 == c_3 then (leaf0_ false) else (optC (I.BallOf_t c_1.snd.snd c_1.snd.fst) (fun c_4 => (bif decide (c_4 < 0) then (bif !c_2 then (optC (L.alive_t) (fun c_5 => (leaf0_ c_5)) fail_) else (leaf0_ false)) else (optC (I.PlayMay_t c_1.snd.snd 0 c_1.snd.fst) (fun c_6 => (bif c_6 then (optC (I.PlayMay_t c_1.snd.snd (IntKind.i64.wrap (IntKind.i64.wrap (1 * 2 ^ min (↑c_1.snd.snd.length : Int).toNat IntKind.i64.bits) - 1)) c_1.snd.fst) (fun c_7 => (bif !c_7 then (optC (L.alive_t) (fun c_8 => (leaf0_ c_8)) fail_) else (leaf0_ false))) fail_) else (leaf0_ false))) fail_))) fail_))) fail_)) fail_)) fail_))
theorem L.FnPlayMay_tree_nat {α γ : Type} (g : α → γ) (code : List Int) (leaf0_ : Bool → α) (fail_ : α) : g (L.FnPlayMay_tree code leaf0_ fail_) = L.FnPlayMay_tree code (fun d => g (leaf0_ d)) (g fail_) := by
  unfold L.FnPlayMay_tree; simp only [apply_cnd g, apply_optC g, apply_sumC g]
noncomputable def L.FnPlayMay_t (code : List Int) : Option (Bool) := L.FnPlayMay_tree code (fun d => some d) none
theorem L.FnPlayMay_den (code : List Int) (κ : V → List E → R) : L.FnPlayMay_F [.ro true (.ints .u8 code)] [] κ = optC (L.FnPlayMay_t code) (fun (r : Bool) => κ (.bool r) []) none := by
  have hu : L.FnPlayMay_F [.ro true (.ints .u8 code)] [] κ = L.FnPlayMay_tree code (fun d => κ (.bool d) []) none := by
    kernel_rfl
  rw [hu]
  exact (L.FnPlayMay_tree_nat (fun o => optC o (fun (r : Bool) => κ (.bool r) []) none) code (fun d => some d) none).symm
noncomputable def L.FnPlayMay_s : D.Spec where
  keep := true
  pure := true
  ds := [.int .u8]
  sp := fun args h κ => match args, h with
    | [.ro true (.ints .u8 code)], [] => optC (L.FnPlayMay_t code) (fun (r : Bool) => κ (.bool r) []) none
    | _, _ => none
theorem L.FnPlayMay_ok : SpecOk Try.prog 13 L.FnPlayMay_s := by
  refine SpecOk.of TDok mixed (T := L.FnPlayMay_T) ?_ (ann := L.FnPlayMay_ann) Try.func13 rfl (by decide +kernel) ?_ ?_ ?_
  · intro p hp
    simp only [L.FnPlayMay_T, List.mem_cons, List.not_mem_nil, or_false] at hp
    rcases hp with rfl | rfl | rfl | rfl | rfl
    · exact S.DrawPlayMay_ok
    · exact I.PlayMay_ok
    · exact S.PlayMay_ok
    · exact I.BallOf_ok
    · exact L.alive_ok
  · intro args h κ r hh
    simp only [L.FnPlayMay_s] at hh
    split at hh
    · exact (L.FnPlayMay_den _ κ).trans hh
    · cases hh
  · intro args h κ r hh
    simp only [L.FnPlayMay_s] at hh ⊢
    split at hh
    · exact optC_law2 (F := fun (r : Bool) κ => κ (.bool r) []) (fun b κ r hb => ⟨_, _, hb, fun _ => rfl⟩) hh
    · cases hh
  · intro _ args h κ r hh
    simp only [L.FnPlayMay_s] at hh
    split at hh
    · exact ⟨rfl, fun _ => rfl⟩
    · cases hh

-- loop.example/guardsonnets/laws.FnExactPlayMay
noncomputable def L.FnExactPlayMay_T : List (Nat × D.Spec) := [(23, L.toIntS_s), (46, S.PlayMay_s), (45, I.PlayMay_s), (24, L.eqIntS_s)]
def L.FnExactPlayMay_ann : Nat → List Nat × List Nat
  | _ => ([], [])
noncomputable def L.FnExactPlayMay_F (args : List V) (h : List E) (κ : V → List E → R) : R := funC TD (tableK L.FnExactPlayMay_T) L.FnExactPlayMay_ann (drawOk TD (tableP L.FnExactPlayMay_T)) FUEL Try.f14 args h κ
noncomputable def L.FnExactPlayMay_tree {α : Type} (aNet : List Int) (aSeen : Int) (aPlace : Int) (leaf0_ : Bool → α) (fail_ : α) : α :=
  (bif decide ((↑aNet.length : Int) > 1048576) then (leaf0_ true) else (optC (L.toIntS_t aNet) (fun c_1 => (optC (S.PlayMay_t c_1 aSeen aPlace) (fun c_2 => (optC (L.toIntS_t aNet) (fun c_3 => (optC (I.PlayMay_t c_3 aSeen aPlace) (fun c_4 => (bif !c_4 == c_2 then (leaf0_ false) else (optC (L.toIntS_t aNet) (fun c_5 => (optC (L.eqIntS_t c_3 c_5) (fun c_6 => (bif !c_6 then (leaf0_ false) else (leaf0_ true))) fail_)) fail_))) fail_)) fail_)) fail_)) fail_))
theorem L.FnExactPlayMay_tree_nat {α γ : Type} (g : α → γ) (aNet : List Int) (aSeen : Int) (aPlace : Int) (leaf0_ : Bool → α) (fail_ : α) : g (L.FnExactPlayMay_tree aNet aSeen aPlace leaf0_ fail_) = L.FnExactPlayMay_tree aNet aSeen aPlace (fun d => g (leaf0_ d)) (g fail_) := by
  unfold L.FnExactPlayMay_tree; simp only [apply_cnd g, apply_optC g, apply_sumC g]
noncomputable def L.FnExactPlayMay_t (aNet : List Int) (aSeen : Int) (aPlace : Int) : Option (Bool) := L.FnExactPlayMay_tree aNet aSeen aPlace (fun d => some d) none
theorem L.FnExactPlayMay_den (aNet : List Int) (aSeen : Int) (aPlace : Int) (κ : V → List E → R) : L.FnExactPlayMay_F [.ro true (.ints .i64 aNet), .int .i64 aSeen, .int .i64 aPlace] [] κ = optC (L.FnExactPlayMay_t aNet aSeen aPlace) (fun (r : Bool) => κ (.bool r) []) none := by
  have hu : L.FnExactPlayMay_F [.ro true (.ints .i64 aNet), .int .i64 aSeen, .int .i64 aPlace] [] κ = L.FnExactPlayMay_tree aNet aSeen aPlace (fun d => κ (.bool d) []) none := by
    kernel_rfl
  rw [hu]
  exact (L.FnExactPlayMay_tree_nat (fun o => optC o (fun (r : Bool) => κ (.bool r) []) none) aNet aSeen aPlace (fun d => some d) none).symm
noncomputable def L.FnExactPlayMay_s : D.Spec where
  keep := true
  pure := true
  ds := [.int .i64, .invalid, .invalid]
  sp := fun args h κ => match args, h with
    | [.ro true (.ints .i64 aNet), .int .i64 aSeen, .int .i64 aPlace], [] => optC (L.FnExactPlayMay_t aNet aSeen aPlace) (fun (r : Bool) => κ (.bool r) []) none
    | _, _ => none
theorem L.FnExactPlayMay_ok : SpecOk Try.prog 14 L.FnExactPlayMay_s := by
  refine SpecOk.of TDok mixed (T := L.FnExactPlayMay_T) ?_ (ann := L.FnExactPlayMay_ann) Try.func14 rfl (by decide +kernel) ?_ ?_ ?_
  · intro p hp
    simp only [L.FnExactPlayMay_T, List.mem_cons, List.not_mem_nil, or_false] at hp
    rcases hp with rfl | rfl | rfl | rfl
    · exact L.toIntS_ok
    · exact S.PlayMay_ok
    · exact I.PlayMay_ok
    · exact L.eqIntS_ok
  · intro args h κ r hh
    simp only [L.FnExactPlayMay_s] at hh
    split at hh
    · exact (L.FnExactPlayMay_den _ _ _ κ).trans hh
    · cases hh
  · intro args h κ r hh
    simp only [L.FnExactPlayMay_s] at hh ⊢
    split at hh
    · exact optC_law2 (F := fun (r : Bool) κ => κ (.bool r) []) (fun b κ r hb => ⟨_, _, hb, fun _ => rfl⟩) hh
    · cases hh
  · intro _ args h κ r hh
    simp only [L.FnExactPlayMay_s] at hh
    split at hh
    · exact ⟨rfl, fun _ => rfl⟩
    · cases hh


end Go.Proofs.Ytcfajdlkfpdonaa
