/- Twins of the translated functions, with their proofs. Conditions: none. -/
import Derived.Test.YtdkoofikeelhgaaBzT2
set_option linter.unusedVariables false
set_option linter.unusedSimpArgs false
namespace Go.Proofs.Ytdkoofikeelhgaa
open D Go.RowKit
-- loop.example/guardsonnets/impl.fewerOf
noncomputable def I.fewerOf_T : List (Nat × D.Spec) := []
def I.fewerOf_ann : Nat → List Nat × List Nat
  | _ => ([], [])
noncomputable def I.fewerOf_F (args : List V) (h : List E) (κ : V → List E → R) : R := funC TD (tableK I.fewerOf_T) I.fewerOf_ann (drawOk (tableP I.fewerOf_T)) FUEL Try.f71 args h κ
noncomputable def I.fewerOf_tree {α : Type} (fewest : Int) (number : Int) (leaf0_ : Int → α) (fail_ : α) : α :=
  (bif decide (fewest < 0) then (leaf0_ number) else (bif decide (number < fewest) then (leaf0_ number) else (leaf0_ fewest)))
theorem I.fewerOf_tree_nat {α γ : Type} (g : α → γ) (fewest : Int) (number : Int) (leaf0_ : Int → α) (fail_ : α) : g (I.fewerOf_tree fewest number leaf0_ fail_) = I.fewerOf_tree fewest number (fun d => g (leaf0_ d)) (g fail_) := by
  unfold I.fewerOf_tree; simp only [apply_cnd g, apply_optC g, apply_sumC g]
noncomputable def I.fewerOf_t (fewest : Int) (number : Int) : Option (Int) := I.fewerOf_tree fewest number (fun d => some d) none
theorem I.fewerOf_den (fewest : Int) (number : Int) (κ : V → List E → R) : I.fewerOf_F [.int .i64 fewest, .int .i64 number] [] κ = optC (I.fewerOf_t fewest number) (fun (r : Int) => κ (.int .i64 r) []) none := by
  have hu : I.fewerOf_F [.int .i64 fewest, .int .i64 number] [] κ = I.fewerOf_tree fewest number (fun d => κ (.int .i64 d) []) none := by
    kernel_rfl
  rw [hu]
  exact (I.fewerOf_tree_nat (fun o => optC o (fun (r : Int) => κ (.int .i64 r) []) none) fewest number (fun d => some d) none).symm
noncomputable def I.fewerOf_s : D.Spec where
  keep := false
  pure := true
  ds := [.invalid, .invalid]
  sp := fun args h κ => match args, h with
    | [.int .i64 fewest, .int .i64 number], [] => optC (I.fewerOf_t fewest number) (fun (r : Int) => κ (.int .i64 r) []) none
    | _, _ => none
theorem I.fewerOf_ok : SpecOk Try.prog 71 I.fewerOf_s := by
  refine SpecOk.of TDok mixed (T := I.fewerOf_T) ?_ (ann := I.fewerOf_ann) Try.func71 rfl (by decide +kernel) ?_ ?_ ?_
  · intro p hp; cases hp
  · intro args h κ r hh
    simp only [I.fewerOf_s] at hh
    split at hh
    · exact (I.fewerOf_den _ _ κ).trans hh
    · cases hh
  · intro args h κ r hh
    simp only [I.fewerOf_s] at hh ⊢
    split at hh
    · exact optC_law2 (F := fun (r : Int) κ => κ (.int .i64 r) []) (fun b κ r hb => ⟨_, _, hb, fun _ => rfl⟩) hh
    · cases hh
  · intro _ args h κ r hh
    simp only [I.fewerOf_s] at hh
    split at hh
    · exact ⟨rfl, fun _ => rfl⟩
    · cases hh

-- loop.example/guardsonnets/impl.FewestItalian
noncomputable def I.FewestItalian_T : List (Nat × D.Spec) := [(31, I.NetOk_s), (69, I.rowsOf_s), (70, I.rowAt_s), (55, I.italianIn_s), (66, I.guardsOf_s), (71, I.fewerOf_s)]
def I.FewestItalian_ann : Nat → List Nat × List Nat
  | 5 => ([0, 3, 4], [3])
  | _ => ([], [])
noncomputable def I.FewestItalian_F (args : List V) (h : List E) (κ : V → List E → R) : R := funC TD (tableK I.FewestItalian_T) I.FewestItalian_ann (drawOk (tableP I.FewestItalian_T)) FUEL Try.f41 args h κ
noncomputable def I.FewestItalian_L5 (n : Nat) (σ : St) (k : X → St → R) : R := iterC 0 (fun σ k => denC TD (tableK I.FewestItalian_T) I.FewestItalian_ann (drawOk (tableP I.FewestItalian_T)) 0 FUEL ((findLoop 5 (Try.f41.body.getD .skip)).getD .skip) σ k) [0, 3, 4] [3] n σ k
noncomputable def I.FewestItalian_k5 (κ : V → List E → R) : X → St → R := (afterC TD (tableK I.FewestItalian_T) I.FewestItalian_ann (drawOk (tableP I.FewestItalian_T)) 0 FUEL 5 (Try.f41.body.getD .skip) (finC TD 0 Try.f41 κ)).getD (fun _ _ => none)
noncomputable def I.FewestItalian_step5 {α : Type} (x0 : List Int) (x3 : Int) (x4 : Int) (next_ : Int × Int → α) (out0_ : Int → α) (fail_ : α) : α :=
  (optC (I.rowsOf_t x0) (fun c_2 => (bif decide (x4 < c_2) then (optC (I.rowAt_t x0 x4) (fun c_3 => (optC (I.italianIn_t x0 c_3) (fun c_4 => (bif c_4 then (optC (I.guardsOf_t c_3) (fun c_5 => (optC (I.fewerOf_t x3 c_5) (fun c_6 => (next_ (c_6, IntKind.i64.wrap (x4 + 1)))) fail_)) fail_) else (next_ (x3, IntKind.i64.wrap (x4 + 1))))) fail_)) fail_) else (out0_ x3))) fail_)
theorem I.FewestItalian_step5_nat {α γ : Type} (g : α → γ) (x0 : List Int) (x3 : Int) (x4 : Int) (next_ : Int × Int → α) (out0_ : Int → α) (fail_ : α) : g (I.FewestItalian_step5 x0 x3 x4 next_ out0_ fail_) = I.FewestItalian_step5 x0 x3 x4 (fun s => g (next_ s)) (fun d => g (out0_ d)) (g fail_) := by
  unfold I.FewestItalian_step5; simp only [apply_cnd g, apply_optC g, apply_sumC g]
noncomputable def I.FewestItalian_run5 (x0 : List Int) : Nat → Int × Int → Option (Int)
  | 0, _ => none
  | n + 1, s_ => I.FewestItalian_step5 x0 s_.1 s_.2 (I.FewestItalian_run5 x0 n) (fun d => some d) none
theorem I.FewestItalian_L5_run (x0 : List Int) (n : Nat) (s_ : Int × Int) (k : X → St → R) : I.FewestItalian_L5 n { n := 26, t := [(0, (.ro false (.ints .i64 x0))), (3, (.int .i64 s_.1)), (4, (.int .i64 s_.2))], h := [] } k = optC (I.FewestItalian_run5 x0 n s_) (fun (r : Int) => k (.exit 0) { n := 26, t := [(3, (.int .i64 r))], h := [] }) none := by
  induction n generalizing s_ with
  | zero => rfl
  | succ n ih =>
    have hu : I.FewestItalian_L5 (n + 1) { n := 26, t := [(0, (.ro false (.ints .i64 x0))), (3, (.int .i64 s_.1)), (4, (.int .i64 s_.2))], h := [] } k = I.FewestItalian_step5 x0 s_.1 s_.2 (fun s_ => I.FewestItalian_L5 n { n := 26, t := [(0, (.ro false (.ints .i64 x0))), (3, (.int .i64 s_.1)), (4, (.int .i64 s_.2))], h := [] } k) (fun d => k (.exit 0) { n := 26, t := [(3, (.int .i64 d))], h := [] }) none := by
      kernel_rfl
    have hs : (fun s_ : Int × Int => I.FewestItalian_L5 n { n := 26, t := [(0, (.ro false (.ints .i64 x0))), (3, (.int .i64 s_.1)), (4, (.int .i64 s_.2))], h := [] } k) = fun s_ => optC (I.FewestItalian_run5 x0 n s_) (fun (r : Int) => k (.exit 0) { n := 26, t := [(3, (.int .i64 r))], h := [] }) none := funext ih
    rw [hu, hs]
    exact (I.FewestItalian_step5_nat (fun o => optC o (fun (r : Int) => k (.exit 0) { n := 26, t := [(3, (.int .i64 r))], h := [] }) none) x0 s_.1 s_.2 (I.FewestItalian_run5 x0 n) (fun d => some d) none).symm
noncomputable def I.FewestItalian_tree {α : Type} (net : List Int) (leaf0_ : Int → α) (fail_ : α) : α :=
  (optC (I.NetOk_t net) (fun c_1 => (bif !c_1 then (leaf0_ (-1)) else (optC (I.FewestItalian_run5 net FUEL (-1, 0)) (fun qy_7 => (leaf0_ qy_7)) fail_))) fail_)
theorem I.FewestItalian_tree_nat {α γ : Type} (g : α → γ) (net : List Int) (leaf0_ : Int → α) (fail_ : α) : g (I.FewestItalian_tree net leaf0_ fail_) = I.FewestItalian_tree net (fun d => g (leaf0_ d)) (g fail_) := by
  unfold I.FewestItalian_tree; simp only [apply_cnd g, apply_optC g, apply_sumC g]
noncomputable def I.FewestItalian_t (net : List Int) : Option (Int) := I.FewestItalian_tree net (fun d => some d) none
theorem I.FewestItalian_den (net : List Int) (κ : V → List E → R) : I.FewestItalian_F [.ro false (.ints .i64 net)] [] κ = optC (I.FewestItalian_t net) (fun (r : Int) => κ (.int .i64 r) []) none := by
  have hu : I.FewestItalian_F [.ro false (.ints .i64 net)] [] κ = I.FewestItalian_tree net (fun d => κ (.int .i64 d) []) none := by
    refine Eq.trans (show I.FewestItalian_F [.ro false (.ints .i64 net)] [] κ = (optC (I.NetOk_t net) (fun c_1 => (bif !c_1 then (κ (.int .i64 (-1)) []) else (I.FewestItalian_L5 FUEL { n := 26, t := [(0, (.ro false (.ints .i64 net))), (3, (.int .i64 (-1))), (4, (.int .i64 0))], h := [] } (I.FewestItalian_k5 κ)))) none) by kernel_rfl) ?_
    refine optC_congr (fun c_1 => ?_)
    refine cnd_congr ?_ ?_
    · kernel_rfl
    · refine (I.FewestItalian_L5_run net FUEL (-1, 0) (I.FewestItalian_k5 κ)).trans (optC_congr (fun qy_7 => ?_))
      kernel_rfl
  rw [hu]
  exact (I.FewestItalian_tree_nat (fun o => optC o (fun (r : Int) => κ (.int .i64 r) []) none) net (fun d => some d) none).symm
noncomputable def I.FewestItalian_s : D.Spec where
  keep := false
  pure := true
  ds := [.int .i64]
  sp := fun args h κ => match args, h with
    | [.ro false (.ints .i64 net)], [] => optC (I.FewestItalian_t net) (fun (r : Int) => κ (.int .i64 r) []) none
    | _, _ => none
theorem I.FewestItalian_ok : SpecOk Try.prog 41 I.FewestItalian_s := by
  refine SpecOk.of TDok mixed (T := I.FewestItalian_T) ?_ (ann := I.FewestItalian_ann) Try.func41 rfl (by decide +kernel) ?_ ?_ ?_
  · intro p hp
    simp only [I.FewestItalian_T, List.mem_cons, List.not_mem_nil, or_false] at hp
    rcases hp with rfl | rfl | rfl | rfl | rfl | rfl
    · exact I.NetOk_ok
    · exact I.rowsOf_ok
    · exact I.rowAt_ok
    · exact I.italianIn_ok
    · exact I.guardsOf_ok
    · exact I.fewerOf_ok
  · intro args h κ r hh
    simp only [I.FewestItalian_s] at hh
    split at hh
    · exact (I.FewestItalian_den _ κ).trans hh
    · cases hh
  · intro args h κ r hh
    simp only [I.FewestItalian_s] at hh ⊢
    split at hh
    · exact optC_law2 (F := fun (r : Int) κ => κ (.int .i64 r) []) (fun b κ r hb => ⟨_, _, hb, fun _ => rfl⟩) hh
    · cases hh
  · intro _ args h κ r hh
    simp only [I.FewestItalian_s] at hh
    split at hh
    · exact ⟨rfl, fun _ => rfl⟩
    · cases hh

-- loop.example/guardsonnets/laws.FnFewestRoman
noncomputable def L.FnFewestRoman_T : List (Nat × D.Spec) := [(36, S.DrawFewestRoman_s), (33, I.FewestRoman_s), (37, S.FewestRoman_s), (31, I.NetOk_s), (18, L.alive_s), (38, L.sizeOf_s), (22, I.SeenBy_s), (39, I.FewestWatch_s), (40, I.WiresOf_s), (41, I.FewestItalian_s)]
def L.FnFewestRoman_ann : Nat → List Nat × List Nat
  | 11 => ([3, 4, 5, 6], [3, 4, 5])
  | _ => ([], [])
noncomputable def L.FnFewestRoman_F (args : List V) (h : List E) (κ : V → List E → R) : R := funC TD (tableK L.FnFewestRoman_T) L.FnFewestRoman_ann (drawOk (tableP L.FnFewestRoman_T)) FUEL Try.f9 args h κ
noncomputable def L.FnFewestRoman_L11 (n : Nat) (σ : St) (k : X → St → R) : R := iterC 0 (fun σ k => denC TD (tableK L.FnFewestRoman_T) L.FnFewestRoman_ann (drawOk (tableP L.FnFewestRoman_T)) 0 FUEL ((findLoop 11 (Try.f9.body.getD .skip)).getD .skip) σ k) [3, 4, 5, 6] [3, 4, 5] n σ k
noncomputable def L.FnFewestRoman_k11 (κ : V → List E → R) : X → St → R := (afterC TD (tableK L.FnFewestRoman_T) L.FnFewestRoman_ann (drawOk (tableP L.FnFewestRoman_T)) 0 FUEL 11 (Try.f9.body.getD .skip) (finC TD 0 Try.f9 κ)).getD (fun _ _ => none)
noncomputable def L.FnFewestRoman_step11 {α : Type} (x4 : Int) (x5 : Int) (x6 : Int) (r0 : List Int) (next_ : Int × Int × (List Int) → α) (out0_ : Int × (List Int) → α) (fail_ : α) : α :=
  (bif decide (x6 < IntKind.i64.wrap (1 * 2 ^ min (↑r0.length : Int).toNat IntKind.i64.bits)) then (optC (L.sizeOf_t x6) (fun c_6 => (optC (I.SeenBy_t r0 x6) (fun c_7 => (optC (L.sizeOf_t c_7) (fun c_8 => (next_ (if IntKind.i64.wrap (IntKind.i64.wrap (IntKind.i64.wrap (2 * c_6) + (↑r0.length : Int)) - c_8) < x5 then IntKind.i64.wrap (IntKind.i64.wrap (IntKind.i64.wrap (2 * c_6) + (↑r0.length : Int)) - c_8) else x5, IntKind.i64.wrap (x6 + 1), r0))) fail_)) fail_)) fail_) else (out0_ (x5, r0)))
theorem L.FnFewestRoman_step11_nat {α γ : Type} (g : α → γ) (x4 : Int) (x5 : Int) (x6 : Int) (r0 : List Int) (next_ : Int × Int × (List Int) → α) (out0_ : Int × (List Int) → α) (fail_ : α) : g (L.FnFewestRoman_step11 x4 x5 x6 r0 next_ out0_ fail_) = L.FnFewestRoman_step11 x4 x5 x6 r0 (fun s => g (next_ s)) (fun d => g (out0_ d)) (g fail_) := by
  unfold L.FnFewestRoman_step11; simp only [apply_cnd g, apply_optC g, apply_sumC g]
noncomputable def L.FnFewestRoman_run11 (x4 : Int) : Nat → Int × Int × (List Int) → Option (Int × (List Int))
  | 0, _ => none
  | n + 1, s_ => L.FnFewestRoman_step11 x4 s_.1 s_.2.1 s_.2.2 (L.FnFewestRoman_run11 x4 n) (fun d => some d) none
theorem L.FnFewestRoman_L11_run (x4 : Int) (n : Nat) (s_ : Int × Int × (List Int)) (k : X → St → R) : L.FnFewestRoman_L11 n { n := 84, t := [(3, (.own 0)), (4, (.int .i64 x4)), (5, (.int .i64 s_.1)), (6, (.int .i64 s_.2.1))], h := [.row (.ints .i64 s_.2.2)] } k = optC (L.FnFewestRoman_run11 x4 n s_) (fun (r : Int × (List Int)) => k (.exit 0) { n := 84, t := [(3, (.own 0)), (4, (.int .i64 x4)), (5, (.int .i64 r.1))], h := [.row (.ints .i64 r.2)] }) none := by
  induction n generalizing s_ with
  | zero => rfl
  | succ n ih =>
    have hu : L.FnFewestRoman_L11 (n + 1) { n := 84, t := [(3, (.own 0)), (4, (.int .i64 x4)), (5, (.int .i64 s_.1)), (6, (.int .i64 s_.2.1))], h := [.row (.ints .i64 s_.2.2)] } k = L.FnFewestRoman_step11 x4 s_.1 s_.2.1 s_.2.2 (fun s_ => L.FnFewestRoman_L11 n { n := 84, t := [(3, (.own 0)), (4, (.int .i64 x4)), (5, (.int .i64 s_.1)), (6, (.int .i64 s_.2.1))], h := [.row (.ints .i64 s_.2.2)] } k) (fun d => k (.exit 0) { n := 84, t := [(3, (.own 0)), (4, (.int .i64 x4)), (5, (.int .i64 d.1))], h := [.row (.ints .i64 d.2)] }) none := by
      kernel_rfl
    have hs : (fun s_ : Int × Int × (List Int) => L.FnFewestRoman_L11 n { n := 84, t := [(3, (.own 0)), (4, (.int .i64 x4)), (5, (.int .i64 s_.1)), (6, (.int .i64 s_.2.1))], h := [.row (.ints .i64 s_.2.2)] } k) = fun s_ => optC (L.FnFewestRoman_run11 x4 n s_) (fun (r : Int × (List Int)) => k (.exit 0) { n := 84, t := [(3, (.own 0)), (4, (.int .i64 x4)), (5, (.int .i64 r.1))], h := [.row (.ints .i64 r.2)] }) none := funext ih
    rw [hu, hs]
    exact (L.FnFewestRoman_step11_nat (fun o => optC o (fun (r : Int × (List Int)) => k (.exit 0) { n := 84, t := [(3, (.own 0)), (4, (.int .i64 x4)), (5, (.int .i64 r.1))], h := [.row (.ints .i64 r.2)] }) none) x4 s_.1 s_.2.1 s_.2.2 (L.FnFewestRoman_run11 x4 n) (fun d => some d) none).symm
noncomputable def L.FnFewestRoman_tree {α : Type} (code : List Int) (leaf0_ : Bool → α) (fail_ : α) : α :=
  (bif decide ((↑code.length : Int) > 1048576) then (leaf0_ true) else (optC (S.DrawFewestRoman_t code) (fun c_1 => (optC (I.FewestRoman_t c_1) (fun c_2 => (optC (S.FewestRoman_t c_1) (fun c_3 => (bif !c_2 == c_3 then (leaf0_ false) else (bif decide (c_2 < 0) then (bif c_2 == -1 then (optC (I.NetOk_t c_1) (fun c_4 => (bif !c_4 then (optC (L.alive_t) (fun c_5 => (leaf0_ c_5)) fail_) else (leaf0_ false))) fail_) else (leaf0_ false)) else (optC (L.FnFewestRoman_run11 c_2 FUEL ((↑c_1.length : Int), 0, c_1)) (fun qy_9 => (optC (I.FewestWatch_t qy_9.2) (fun c_10 => (bif c_2 == qy_9.1 then (bif decide (c_2 ≥ c_10) then (bif decide (c_2 ≤ IntKind.i64.wrap (2 * c_10)) then (optC (I.WiresOf_t qy_9.2) (fun c_11 => (bif (c_2 == c_10) == (c_11 == 0) then (optC (I.FewestItalian_t qy_9.2) (fun c_12 => (leaf0_ (decide (c_2 ≥ c_12)))) fail_) else (leaf0_ false))) fail_) else (leaf0_ false)) else (leaf0_ false)) else (leaf0_ false))) fail_)) fail_)))) fail_)) fail_)) fail_))
theorem L.FnFewestRoman_tree_nat {α γ : Type} (g : α → γ) (code : List Int) (leaf0_ : Bool → α) (fail_ : α) : g (L.FnFewestRoman_tree code leaf0_ fail_) = L.FnFewestRoman_tree code (fun d => g (leaf0_ d)) (g fail_) := by
  unfold L.FnFewestRoman_tree; simp only [apply_cnd g, apply_optC g, apply_sumC g]
noncomputable def L.FnFewestRoman_t (code : List Int) : Option (Bool) := L.FnFewestRoman_tree code (fun d => some d) none
theorem L.FnFewestRoman_den (code : List Int) (κ : V → List E → R) : L.FnFewestRoman_F [.ro true (.ints .u8 code)] [] κ = optC (L.FnFewestRoman_t code) (fun (r : Bool) => κ (.bool r) []) none := by
  have hu : L.FnFewestRoman_F [.ro true (.ints .u8 code)] [] κ = L.FnFewestRoman_tree code (fun d => κ (.bool d) []) none := by
    refine Eq.trans (show L.FnFewestRoman_F [.ro true (.ints .u8 code)] [] κ = (bif decide ((↑code.length : Int) > 1048576) then (κ (.bool true) []) else (optC (S.DrawFewestRoman_t code) (fun c_1 => (optC (I.FewestRoman_t c_1) (fun c_2 => (optC (S.FewestRoman_t c_1) (fun c_3 => (bif !c_2 == c_3 then (κ (.bool false) []) else (bif decide (c_2 < 0) then (bif c_2 == -1 then (optC (I.NetOk_t c_1) (fun c_4 => (bif !c_4 then (optC (L.alive_t) (fun c_5 => (κ (.bool c_5) [])) none) else (κ (.bool false) []))) none) else (κ (.bool false) [])) else (L.FnFewestRoman_L11 FUEL { n := 84, t := [(3, (.own 0)), (4, (.int .i64 c_2)), (5, (.int .i64 ((↑c_1.length : Int)))), (6, (.int .i64 0))], h := [.row (.ints .i64 c_1)] } (L.FnFewestRoman_k11 κ))))) none)) none)) none)) by kernel_rfl) ?_
    refine cnd_congr ?_ ?_
    · kernel_rfl
    · refine optC_congr (fun c_1 => ?_)
      refine optC_congr (fun c_2 => ?_)
      refine optC_congr (fun c_3 => ?_)
      refine cnd_congr ?_ ?_
      · kernel_rfl
      · refine cnd_congr ?_ ?_
        · kernel_rfl
        · refine (L.FnFewestRoman_L11_run c_2 FUEL ((↑c_1.length : Int), 0, c_1) (L.FnFewestRoman_k11 κ)).trans (optC_congr (fun qy_9 => ?_))
          kernel_rfl
  rw [hu]
  exact (L.FnFewestRoman_tree_nat (fun o => optC o (fun (r : Bool) => κ (.bool r) []) none) code (fun d => some d) none).symm
noncomputable def L.FnFewestRoman_s : D.Spec where
  keep := true
  pure := true
  ds := [.int .u8]
  sp := fun args h κ => match args, h with
    | [.ro true (.ints .u8 code)], [] => optC (L.FnFewestRoman_t code) (fun (r : Bool) => κ (.bool r) []) none
    | _, _ => none
theorem L.FnFewestRoman_ok : SpecOk Try.prog 9 L.FnFewestRoman_s := by
  refine SpecOk.of TDok mixed (T := L.FnFewestRoman_T) ?_ (ann := L.FnFewestRoman_ann) Try.func9 rfl (by decide +kernel) ?_ ?_ ?_
  · intro p hp
    simp only [L.FnFewestRoman_T, List.mem_cons, List.not_mem_nil, or_false] at hp
    rcases hp with rfl | rfl | rfl | rfl | rfl | rfl | rfl | rfl | rfl | rfl
    · exact S.DrawFewestRoman_ok
    · exact I.FewestRoman_ok
    · exact S.FewestRoman_ok
    · exact I.NetOk_ok
    · exact L.alive_ok
    · exact L.sizeOf_ok
    · exact I.SeenBy_ok
    · exact I.FewestWatch_ok
    · exact I.WiresOf_ok
    · exact I.FewestItalian_ok
  · intro args h κ r hh
    simp only [L.FnFewestRoman_s] at hh
    split at hh
    · exact (L.FnFewestRoman_den _ κ).trans hh
    · cases hh
  · intro args h κ r hh
    simp only [L.FnFewestRoman_s] at hh ⊢
    split at hh
    · exact optC_law2 (F := fun (r : Bool) κ => κ (.bool r) []) (fun b κ r hb => ⟨_, _, hb, fun _ => rfl⟩) hh
    · cases hh
  · intro _ args h κ r hh
    simp only [L.FnFewestRoman_s] at hh
    split at hh
    · exact ⟨rfl, fun _ => rfl⟩
    · cases hh

-- loop.example/guardsonnets/laws.FnExactFewestRoman
noncomputable def L.FnExactFewestRoman_T : List (Nat × D.Spec) := [(23, L.toIntS_s), (37, S.FewestRoman_s), (33, I.FewestRoman_s), (24, L.eqIntS_s)]
def L.FnExactFewestRoman_ann : Nat → List Nat × List Nat
  | _ => ([], [])
noncomputable def L.FnExactFewestRoman_F (args : List V) (h : List E) (κ : V → List E → R) : R := funC TD (tableK L.FnExactFewestRoman_T) L.FnExactFewestRoman_ann (drawOk (tableP L.FnExactFewestRoman_T)) FUEL Try.f10 args h κ
noncomputable def L.FnExactFewestRoman_tree {α : Type} (aNet : List Int) (leaf0_ : Bool → α) (fail_ : α) : α :=
  (bif decide ((↑aNet.length : Int) > 1048576) then (leaf0_ true) else (optC (L.toIntS_t aNet) (fun c_1 => (optC (S.FewestRoman_t c_1) (fun c_2 => (optC (L.toIntS_t aNet) (fun c_3 => (optC (I.FewestRoman_t c_3) (fun c_4 => (bif !c_4 == c_2 then (leaf0_ false) else (optC (L.toIntS_t aNet) (fun c_5 => (optC (L.eqIntS_t c_3 c_5) (fun c_6 => (bif !c_6 then (leaf0_ false) else (leaf0_ true))) fail_)) fail_))) fail_)) fail_)) fail_)) fail_))
theorem L.FnExactFewestRoman_tree_nat {α γ : Type} (g : α → γ) (aNet : List Int) (leaf0_ : Bool → α) (fail_ : α) : g (L.FnExactFewestRoman_tree aNet leaf0_ fail_) = L.FnExactFewestRoman_tree aNet (fun d => g (leaf0_ d)) (g fail_) := by
  unfold L.FnExactFewestRoman_tree; simp only [apply_cnd g, apply_optC g, apply_sumC g]
noncomputable def L.FnExactFewestRoman_t (aNet : List Int) : Option (Bool) := L.FnExactFewestRoman_tree aNet (fun d => some d) none
theorem L.FnExactFewestRoman_den (aNet : List Int) (κ : V → List E → R) : L.FnExactFewestRoman_F [.ro true (.ints .i64 aNet)] [] κ = optC (L.FnExactFewestRoman_t aNet) (fun (r : Bool) => κ (.bool r) []) none := by
  have hu : L.FnExactFewestRoman_F [.ro true (.ints .i64 aNet)] [] κ = L.FnExactFewestRoman_tree aNet (fun d => κ (.bool d) []) none := by
    kernel_rfl
  rw [hu]
  exact (L.FnExactFewestRoman_tree_nat (fun o => optC o (fun (r : Bool) => κ (.bool r) []) none) aNet (fun d => some d) none).symm
noncomputable def L.FnExactFewestRoman_s : D.Spec where
  keep := true
  pure := true
  ds := [.int .i64]
  sp := fun args h κ => match args, h with
    | [.ro true (.ints .i64 aNet)], [] => optC (L.FnExactFewestRoman_t aNet) (fun (r : Bool) => κ (.bool r) []) none
    | _, _ => none
theorem L.FnExactFewestRoman_ok : SpecOk Try.prog 10 L.FnExactFewestRoman_s := by
  refine SpecOk.of TDok mixed (T := L.FnExactFewestRoman_T) ?_ (ann := L.FnExactFewestRoman_ann) Try.func10 rfl (by decide +kernel) ?_ ?_ ?_
  · intro p hp
    simp only [L.FnExactFewestRoman_T, List.mem_cons, List.not_mem_nil, or_false] at hp
    rcases hp with rfl | rfl | rfl | rfl
    · exact L.toIntS_ok
    · exact S.FewestRoman_ok
    · exact I.FewestRoman_ok
    · exact L.eqIntS_ok
  · intro args h κ r hh
    simp only [L.FnExactFewestRoman_s] at hh
    split at hh
    · exact (L.FnExactFewestRoman_den _ κ).trans hh
    · cases hh
  · intro args h κ r hh
    simp only [L.FnExactFewestRoman_s] at hh ⊢
    split at hh
    · exact optC_law2 (F := fun (r : Bool) κ => κ (.bool r) []) (fun b κ r hb => ⟨_, _, hb, fun _ => rfl⟩) hh
    · cases hh
  · intro _ args h κ r hh
    simp only [L.FnExactFewestRoman_s] at hh
    split at hh
    · exact ⟨rfl, fun _ => rfl⟩
    · cases hh

-- loop.example/guardsonnets/spec.DrawFewestItalian
noncomputable def S.DrawFewestItalian_T : List (Nat × D.Spec) := [(48, S.l20Open_s), (58, S.l20Net_s)]
def S.DrawFewestItalian_ann : Nat → List Nat × List Nat
  | _ => ([], [])
noncomputable def S.DrawFewestItalian_F (args : List V) (h : List E) (κ : V → List E → R) : R := funC TD (tableK S.DrawFewestItalian_T) S.DrawFewestItalian_ann (drawOk (tableP S.DrawFewestItalian_T)) FUEL Try.f42 args h κ
noncomputable def S.DrawFewestItalian_tree {α : Type} (code : List Int) (leaf0_ : List Int → α) (fail_ : α) : α :=
  (optC (S.l20Open_t code) (fun c_1 => (optC (S.l20Net_t c_1.fst c_1.snd 9) (fun c_2 => (leaf0_ c_2.snd.snd)) fail_)) fail_)
theorem S.DrawFewestItalian_tree_nat {α γ : Type} (g : α → γ) (code : List Int) (leaf0_ : List Int → α) (fail_ : α) : g (S.DrawFewestItalian_tree code leaf0_ fail_) = S.DrawFewestItalian_tree code (fun d => g (leaf0_ d)) (g fail_) := by
  unfold S.DrawFewestItalian_tree; simp only [apply_cnd g, apply_optC g, apply_sumC g]
noncomputable def S.DrawFewestItalian_t (code : List Int) : Option (List Int) := S.DrawFewestItalian_tree code (fun d => some d) none
theorem S.DrawFewestItalian_den (code : List Int) (κ : V → List E → R) : S.DrawFewestItalian_F [.ro true (.ints .u8 code)] [] κ = optC (S.DrawFewestItalian_t code) (fun (r : List Int) => κ (.own 0) [.row (.ints .i64 r)]) none := by
  have hu : S.DrawFewestItalian_F [.ro true (.ints .u8 code)] [] κ = S.DrawFewestItalian_tree code (fun d => κ (.own 0) [.row (.ints .i64 d)]) none := by
    kernel_rfl
  rw [hu]
  exact (S.DrawFewestItalian_tree_nat (fun o => optC o (fun (r : List Int) => κ (.own 0) [.row (.ints .i64 r)]) none) code (fun d => some d) none).symm
noncomputable def S.DrawFewestItalian_s : D.Spec where
  keep := true
  pure := false
  ds := [.int .u8]
  sp := fun args h κ => match args, h with
    | [.ro true (.ints .u8 code)], [] => optC (S.DrawFewestItalian_t code) (fun (r : List Int) => κ (.own 0) [.row (.ints .i64 r)]) none
    | _, _ => none
theorem S.DrawFewestItalian_ok : SpecOk Try.prog 42 S.DrawFewestItalian_s := by
  refine SpecOk.of TDok mixed (T := S.DrawFewestItalian_T) ?_ (ann := S.DrawFewestItalian_ann) Try.func42 rfl (by decide +kernel) ?_ ?_ ?_
  · intro p hp
    simp only [S.DrawFewestItalian_T, List.mem_cons, List.not_mem_nil, or_false] at hp
    rcases hp with rfl | rfl
    · exact S.l20Open_ok
    · exact S.l20Net_ok
  · intro args h κ r hh
    simp only [S.DrawFewestItalian_s] at hh
    split at hh
    · exact (S.DrawFewestItalian_den _ κ).trans hh
    · cases hh
  · intro args h κ r hh
    simp only [S.DrawFewestItalian_s] at hh ⊢
    split at hh
    · exact optC_law2 (F := fun (r : List Int) κ => κ (.own 0) [.row (.ints .i64 r)]) (fun b κ r hb => ⟨_, _, hb, fun _ => rfl⟩) hh
    · cases hh
  · intro hh; cases hh

-- loop.example/guardsonnets/spec.FewestItalian
noncomputable def S.FewestItalian_T : List (Nat × D.Spec) := [(60, S.NetOk_s), (61, S.l7Rows_s), (62, S.l7Of_s), (26, S.ItalianOk_s), (63, S.l7Sum_s)]
def S.FewestItalian_ann : Nat → List Nat × List Nat
  | 5 => ([0, 3, 4], [3])
  | _ => ([], [])
noncomputable def S.FewestItalian_F (args : List V) (h : List E) (κ : V → List E → R) : R := funC TD (tableK S.FewestItalian_T) S.FewestItalian_ann (drawOk (tableP S.FewestItalian_T)) FUEL Try.f43 args h κ
noncomputable def S.FewestItalian_L5 (n : Nat) (σ : St) (k : X → St → R) : R := iterC 0 (fun σ k => denC TD (tableK S.FewestItalian_T) S.FewestItalian_ann (drawOk (tableP S.FewestItalian_T)) 0 FUEL ((findLoop 5 (Try.f43.body.getD .skip)).getD .skip) σ k) [0, 3, 4] [3] n σ k
noncomputable def S.FewestItalian_k5 (κ : V → List E → R) : X → St → R := (afterC TD (tableK S.FewestItalian_T) S.FewestItalian_ann (drawOk (tableP S.FewestItalian_T)) 0 FUEL 5 (Try.f43.body.getD .skip) (finC TD 0 Try.f43 κ)).getD (fun _ _ => none)
noncomputable def S.FewestItalian_step5 {α : Type} (x0 : List Int) (x3 : Int) (x4 : Int) (next_ : Int × Int → α) (out0_ : Int → α) (fail_ : α) : α :=
  (optC (S.l7Rows_t (↑x0.length : Int)) (fun c_2 => (bif decide (x4 < c_2) then (optC (S.l7Of_t (↑x0.length : Int) x4) (fun c_3 => (optC (S.ItalianOk_t x0 c_3) (fun c_4 => (bif c_4 then (optC (S.l7Sum_t c_3) (fun c_5 => (next_ (if c_5 < x3 then c_5 else x3, IntKind.i64.wrap (x4 + 1)))) fail_) else (next_ (x3, IntKind.i64.wrap (x4 + 1))))) fail_)) fail_) else (out0_ x3))) fail_)
theorem S.FewestItalian_step5_nat {α γ : Type} (g : α → γ) (x0 : List Int) (x3 : Int) (x4 : Int) (next_ : Int × Int → α) (out0_ : Int → α) (fail_ : α) : g (S.FewestItalian_step5 x0 x3 x4 next_ out0_ fail_) = S.FewestItalian_step5 x0 x3 x4 (fun s => g (next_ s)) (fun d => g (out0_ d)) (g fail_) := by
  unfold S.FewestItalian_step5; simp only [apply_cnd g, apply_optC g, apply_sumC g]
noncomputable def S.FewestItalian_run5 (x0 : List Int) : Nat → Int × Int → Option (Int)
  | 0, _ => none
  | n + 1, s_ => S.FewestItalian_step5 x0 s_.1 s_.2 (S.FewestItalian_run5 x0 n) (fun d => some d) none
theorem S.FewestItalian_L5_run (x0 : List Int) (n : Nat) (s_ : Int × Int) (k : X → St → R) : S.FewestItalian_L5 n { n := 30, t := [(0, (.ro false (.ints .i64 x0))), (3, (.int .i64 s_.1)), (4, (.int .i64 s_.2))], h := [] } k = optC (S.FewestItalian_run5 x0 n s_) (fun (r : Int) => k (.exit 0) { n := 30, t := [(3, (.int .i64 r))], h := [] }) none := by
  induction n generalizing s_ with
  | zero => rfl
  | succ n ih =>
    have hu : S.FewestItalian_L5 (n + 1) { n := 30, t := [(0, (.ro false (.ints .i64 x0))), (3, (.int .i64 s_.1)), (4, (.int .i64 s_.2))], h := [] } k = S.FewestItalian_step5 x0 s_.1 s_.2 (fun s_ => S.FewestItalian_L5 n { n := 30, t := [(0, (.ro false (.ints .i64 x0))), (3, (.int .i64 s_.1)), (4, (.int .i64 s_.2))], h := [] } k) (fun d => k (.exit 0) { n := 30, t := [(3, (.int .i64 d))], h := [] }) none := by
      kernel_rfl
    have hs : (fun s_ : Int × Int => S.FewestItalian_L5 n { n := 30, t := [(0, (.ro false (.ints .i64 x0))), (3, (.int .i64 s_.1)), (4, (.int .i64 s_.2))], h := [] } k) = fun s_ => optC (S.FewestItalian_run5 x0 n s_) (fun (r : Int) => k (.exit 0) { n := 30, t := [(3, (.int .i64 r))], h := [] }) none := funext ih
    rw [hu, hs]
    exact (S.FewestItalian_step5_nat (fun o => optC o (fun (r : Int) => k (.exit 0) { n := 30, t := [(3, (.int .i64 r))], h := [] }) none) x0 s_.1 s_.2 (S.FewestItalian_run5 x0 n) (fun d => some d) none).symm
noncomputable def S.FewestItalian_tree {α : Type} (net : List Int) (leaf0_ : Int → α) (fail_ : α) : α :=
  (optC (S.NetOk_t net) (fun c_1 => (bif !c_1 then (leaf0_ (-1)) else (optC (S.FewestItalian_run5 net FUEL ((↑net.length : Int), 0)) (fun qy_6 => (leaf0_ qy_6)) fail_))) fail_)
theorem S.FewestItalian_tree_nat {α γ : Type} (g : α → γ) (net : List Int) (leaf0_ : Int → α) (fail_ : α) : g (S.FewestItalian_tree net leaf0_ fail_) = S.FewestItalian_tree net (fun d => g (leaf0_ d)) (g fail_) := by
  unfold S.FewestItalian_tree; simp only [apply_cnd g, apply_optC g, apply_sumC g]
noncomputable def S.FewestItalian_t (net : List Int) : Option (Int) := S.FewestItalian_tree net (fun d => some d) none
theorem S.FewestItalian_den (net : List Int) (κ : V → List E → R) : S.FewestItalian_F [.ro false (.ints .i64 net)] [] κ = optC (S.FewestItalian_t net) (fun (r : Int) => κ (.int .i64 r) []) none := by
  have hu : S.FewestItalian_F [.ro false (.ints .i64 net)] [] κ = S.FewestItalian_tree net (fun d => κ (.int .i64 d) []) none := by
    refine Eq.trans (show S.FewestItalian_F [.ro false (.ints .i64 net)] [] κ = (optC (S.NetOk_t net) (fun c_1 => (bif !c_1 then (κ (.int .i64 (-1)) []) else (S.FewestItalian_L5 FUEL { n := 30, t := [(0, (.ro false (.ints .i64 net))), (3, (.int .i64 ((↑net.length : Int)))), (4, (.int .i64 0))], h := [] } (S.FewestItalian_k5 κ)))) none) by kernel_rfl) ?_
    refine optC_congr (fun c_1 => ?_)
    refine cnd_congr ?_ ?_
    · kernel_rfl
    · refine (S.FewestItalian_L5_run net FUEL ((↑net.length : Int), 0) (S.FewestItalian_k5 κ)).trans (optC_congr (fun qy_6 => ?_))
      kernel_rfl
  rw [hu]
  exact (S.FewestItalian_tree_nat (fun o => optC o (fun (r : Int) => κ (.int .i64 r) []) none) net (fun d => some d) none).symm
noncomputable def S.FewestItalian_s : D.Spec where
  keep := false
  pure := true
  ds := [.int .i64]
  sp := fun args h κ => match args, h with
    | [.ro false (.ints .i64 net)], [] => optC (S.FewestItalian_t net) (fun (r : Int) => κ (.int .i64 r) []) none
    | _, _ => none
theorem S.FewestItalian_ok : SpecOk Try.prog 43 S.FewestItalian_s := by
  refine SpecOk.of TDok mixed (T := S.FewestItalian_T) ?_ (ann := S.FewestItalian_ann) Try.func43 rfl (by decide +kernel) ?_ ?_ ?_
  · intro p hp
    simp only [S.FewestItalian_T, List.mem_cons, List.not_mem_nil, or_false] at hp
    rcases hp with rfl | rfl | rfl | rfl | rfl
    · exact S.NetOk_ok
    · exact S.l7Rows_ok
    · exact S.l7Of_ok
    · exact S.ItalianOk_ok
    · exact S.l7Sum_ok
  · intro args h κ r hh
    simp only [S.FewestItalian_s] at hh
    split at hh
    · exact (S.FewestItalian_den _ κ).trans hh
    · cases hh
  · intro args h κ r hh
    simp only [S.FewestItalian_s] at hh ⊢
    split at hh
    · exact optC_law2 (F := fun (r : Int) κ => κ (.int .i64 r) []) (fun b κ r hb => ⟨_, _, hb, fun _ => rfl⟩) hh
    · cases hh
  · intro _ args h κ r hh
    simp only [S.FewestItalian_s] at hh
    split at hh
    · exact ⟨rfl, fun _ => rfl⟩
    · cases hh

-- loop.example/guardsonnets/laws.FnFewestItalian
noncomputable def L.FnFewestItalian_T : List (Nat × D.Spec) := [(42, S.DrawFewestItalian_s), (41, I.FewestItalian_s), (43, S.FewestItalian_s), (31, I.NetOk_s), (18, L.alive_s), (39, I.FewestWatch_s), (33, I.FewestRoman_s)]
def L.FnFewestItalian_ann : Nat → List Nat × List Nat
  | _ => ([], [])
noncomputable def L.FnFewestItalian_F (args : List V) (h : List E) (κ : V → List E → R) : R := funC TD (tableK L.FnFewestItalian_T) L.FnFewestItalian_ann (drawOk (tableP L.FnFewestItalian_T)) FUEL Try.f11 args h κ
noncomputable def L.FnFewestItalian_tree {α : Type} (code : List Int) (leaf0_ : Bool → α) (fail_ : α) : α :=
  (bif decide ((↑code.length : Int) > 1048576) then (leaf0_ true) else (optC (S.DrawFewestItalian_t code) (fun c_1 => (optC (I.FewestItalian_t c_1) (fun c_2 => (optC (S.FewestItalian_t c_1) (fun c_3 => (bif !c_2 == c_3 then (leaf0_ false) else (bif decide (c_2 < 0) then (bif c_2 == -1 then (optC (I.NetOk_t c_1) (fun c_4 => (bif !c_4 then (optC (L.alive_t) (fun c_5 => (leaf0_ c_5)) fail_) else (leaf0_ false))) fail_) else (leaf0_ false)) else (optC (I.FewestWatch_t c_1) (fun c_6 => (bif decide (c_2 ≥ c_6) then (optC (I.FewestRoman_t c_1) (fun c_7 => (bif decide (c_2 ≤ c_7) then (leaf0_ (decide (c_2 ≤ (↑c_1.length : Int)))) else (leaf0_ false))) fail_) else (leaf0_ false))) fail_)))) fail_)) fail_)) fail_))
theorem L.FnFewestItalian_tree_nat {α γ : Type} (g : α → γ) (code : List Int) (leaf0_ : Bool → α) (fail_ : α) : g (L.FnFewestItalian_tree code leaf0_ fail_) = L.FnFewestItalian_tree code (fun d => g (leaf0_ d)) (g fail_) := by
  unfold L.FnFewestItalian_tree; simp only [apply_cnd g, apply_optC g, apply_sumC g]
noncomputable def L.FnFewestItalian_t (code : List Int) : Option (Bool) := L.FnFewestItalian_tree code (fun d => some d) none
theorem L.FnFewestItalian_den (code : List Int) (κ : V → List E → R) : L.FnFewestItalian_F [.ro true (.ints .u8 code)] [] κ = optC (L.FnFewestItalian_t code) (fun (r : Bool) => κ (.bool r) []) none := by
  have hu : L.FnFewestItalian_F [.ro true (.ints .u8 code)] [] κ = L.FnFewestItalian_tree code (fun d => κ (.bool d) []) none := by
    kernel_rfl
  rw [hu]
  exact (L.FnFewestItalian_tree_nat (fun o => optC o (fun (r : Bool) => κ (.bool r) []) none) code (fun d => some d) none).symm
noncomputable def L.FnFewestItalian_s : D.Spec where
  keep := true
  pure := true
  ds := [.int .u8]
  sp := fun args h κ => match args, h with
    | [.ro true (.ints .u8 code)], [] => optC (L.FnFewestItalian_t code) (fun (r : Bool) => κ (.bool r) []) none
    | _, _ => none
theorem L.FnFewestItalian_ok : SpecOk Try.prog 11 L.FnFewestItalian_s := by
  refine SpecOk.of TDok mixed (T := L.FnFewestItalian_T) ?_ (ann := L.FnFewestItalian_ann) Try.func11 rfl (by decide +kernel) ?_ ?_ ?_
  · intro p hp
    simp only [L.FnFewestItalian_T, List.mem_cons, List.not_mem_nil, or_false] at hp
    rcases hp with rfl | rfl | rfl | rfl | rfl | rfl | rfl
    · exact S.DrawFewestItalian_ok
    · exact I.FewestItalian_ok
    · exact S.FewestItalian_ok
    · exact I.NetOk_ok
    · exact L.alive_ok
    · exact I.FewestWatch_ok
    · exact I.FewestRoman_ok
  · intro args h κ r hh
    simp only [L.FnFewestItalian_s] at hh
    split at hh
    · exact (L.FnFewestItalian_den _ κ).trans hh
    · cases hh
  · intro args h κ r hh
    simp only [L.FnFewestItalian_s] at hh ⊢
    split at hh
    · exact optC_law2 (F := fun (r : Bool) κ => κ (.bool r) []) (fun b κ r hb => ⟨_, _, hb, fun _ => rfl⟩) hh
    · cases hh
  · intro _ args h κ r hh
    simp only [L.FnFewestItalian_s] at hh
    split at hh
    · exact ⟨rfl, fun _ => rfl⟩
    · cases hh

-- loop.example/guardsonnets/laws.FnExactFewestItalian
noncomputable def L.FnExactFewestItalian_T : List (Nat × D.Spec) := [(23, L.toIntS_s), (43, S.FewestItalian_s), (41, I.FewestItalian_s), (24, L.eqIntS_s)]
def L.FnExactFewestItalian_ann : Nat → List Nat × List Nat
  | _ => ([], [])
noncomputable def L.FnExactFewestItalian_F (args : List V) (h : List E) (κ : V → List E → R) : R := funC TD (tableK L.FnExactFewestItalian_T) L.FnExactFewestItalian_ann (drawOk (tableP L.FnExactFewestItalian_T)) FUEL Try.f12 args h κ
noncomputable def L.FnExactFewestItalian_tree {α : Type} (aNet : List Int) (leaf0_ : Bool → α) (fail_ : α) : α :=
  (bif decide ((↑aNet.length : Int) > 1048576) then (leaf0_ true) else (optC (L.toIntS_t aNet) (fun c_1 => (optC (S.FewestItalian_t c_1) (fun c_2 => (optC (L.toIntS_t aNet) (fun c_3 => (optC (I.FewestItalian_t c_3) (fun c_4 => (bif !c_4 == c_2 then (leaf0_ false) else (optC (L.toIntS_t aNet) (fun c_5 => (optC (L.eqIntS_t c_3 c_5) (fun c_6 => (bif !c_6 then (leaf0_ false) else (leaf0_ true))) fail_)) fail_))) fail_)) fail_)) fail_)) fail_))
theorem L.FnExactFewestItalian_tree_nat {α γ : Type} (g : α → γ) (aNet : List Int) (leaf0_ : Bool → α) (fail_ : α) : g (L.FnExactFewestItalian_tree aNet leaf0_ fail_) = L.FnExactFewestItalian_tree aNet (fun d => g (leaf0_ d)) (g fail_) := by
  unfold L.FnExactFewestItalian_tree; simp only [apply_cnd g, apply_optC g, apply_sumC g]
noncomputable def L.FnExactFewestItalian_t (aNet : List Int) : Option (Bool) := L.FnExactFewestItalian_tree aNet (fun d => some d) none
theorem L.FnExactFewestItalian_den (aNet : List Int) (κ : V → List E → R) : L.FnExactFewestItalian_F [.ro true (.ints .i64 aNet)] [] κ = optC (L.FnExactFewestItalian_t aNet) (fun (r : Bool) => κ (.bool r) []) none := by
  have hu : L.FnExactFewestItalian_F [.ro true (.ints .i64 aNet)] [] κ = L.FnExactFewestItalian_tree aNet (fun d => κ (.bool d) []) none := by
    kernel_rfl
  rw [hu]
  exact (L.FnExactFewestItalian_tree_nat (fun o => optC o (fun (r : Bool) => κ (.bool r) []) none) aNet (fun d => some d) none).symm
noncomputable def L.FnExactFewestItalian_s : D.Spec where
  keep := true
  pure := true
  ds := [.int .i64]
  sp := fun args h κ => match args, h with
    | [.ro true (.ints .i64 aNet)], [] => optC (L.FnExactFewestItalian_t aNet) (fun (r : Bool) => κ (.bool r) []) none
    | _, _ => none
theorem L.FnExactFewestItalian_ok : SpecOk Try.prog 12 L.FnExactFewestItalian_s := by
  refine SpecOk.of TDok mixed (T := L.FnExactFewestItalian_T) ?_ (ann := L.FnExactFewestItalian_ann) Try.func12 rfl (by decide +kernel) ?_ ?_ ?_
  · intro p hp
    simp only [L.FnExactFewestItalian_T, List.mem_cons, List.not_mem_nil, or_false] at hp
    rcases hp with rfl | rfl | rfl | rfl
    · exact L.toIntS_ok
    · exact S.FewestItalian_ok
    · exact I.FewestItalian_ok
    · exact L.eqIntS_ok
  · intro args h κ r hh
    simp only [L.FnExactFewestItalian_s] at hh
    split at hh
    · exact (L.FnExactFewestItalian_den _ κ).trans hh
    · cases hh
  · intro args h κ r hh
    simp only [L.FnExactFewestItalian_s] at hh ⊢
    split at hh
    · exact optC_law2 (F := fun (r : Bool) κ => κ (.bool r) []) (fun b κ r hb => ⟨_, _, hb, fun _ => rfl⟩) hh
    · cases hh
  · intro _ args h κ r hh
    simp only [L.FnExactFewestItalian_s] at hh
    split at hh
    · exact ⟨rfl, fun _ => rfl⟩
    · cases hh

-- loop.example/guardsonnets/spec.DrawRowOfSet
noncomputable def S.DrawRowOfSet_T : List (Nat × D.Spec) := [(48, S.l20Open_s), (72, S.l20Set_s)]
def S.DrawRowOfSet_ann : Nat → List Nat × List Nat
  | _ => ([], [])
noncomputable def S.DrawRowOfSet_F (args : List V) (h : List E) (κ : V → List E → R) : R := funC TD (tableK S.DrawRowOfSet_T) S.DrawRowOfSet_ann (drawOk (tableP S.DrawRowOfSet_T)) FUEL Try.f44 args h κ
noncomputable def S.DrawRowOfSet_tree {α : Type} (code : List Int) (leaf0_ : Int × (List Int) → α) (fail_ : α) : α :=
  (optC (S.l20Open_t code) (fun c_1 => (optC (S.l20Set_t c_1.fst c_1.snd 12) (fun c_2 => (leaf0_ (c_2.fst, c_2.snd.snd.snd))) fail_)) fail_)
theorem S.DrawRowOfSet_tree_nat {α γ : Type} (g : α → γ) (code : List Int) (leaf0_ : Int × (List Int) → α) (fail_ : α) : g (S.DrawRowOfSet_tree code leaf0_ fail_) = S.DrawRowOfSet_tree code (fun d => g (leaf0_ d)) (g fail_) := by
  unfold S.DrawRowOfSet_tree; simp only [apply_cnd g, apply_optC g, apply_sumC g]
noncomputable def S.DrawRowOfSet_t (code : List Int) : Option (Int × (List Int)) := S.DrawRowOfSet_tree code (fun d => some d) none
theorem S.DrawRowOfSet_den (code : List Int) (κ : V → List E → R) : S.DrawRowOfSet_F [.ro true (.ints .u8 code)] [] κ = optC (S.DrawRowOfSet_t code) (fun (r : Int × (List Int)) => κ (.tup [(.own 0), (.int .i64 r.1)]) [.row (.ints .i64 r.2)]) none := by
  have hu : S.DrawRowOfSet_F [.ro true (.ints .u8 code)] [] κ = S.DrawRowOfSet_tree code (fun d => κ (.tup [(.own 0), (.int .i64 d.1)]) [.row (.ints .i64 d.2)]) none := by
    kernel_rfl
  rw [hu]
  exact (S.DrawRowOfSet_tree_nat (fun o => optC o (fun (r : Int × (List Int)) => κ (.tup [(.own 0), (.int .i64 r.1)]) [.row (.ints .i64 r.2)]) none) code (fun d => some d) none).symm
noncomputable def S.DrawRowOfSet_s : D.Spec where
  keep := true
  pure := false
  ds := [.int .u8]
  sp := fun args h κ => match args, h with
    | [.ro true (.ints .u8 code)], [] => optC (S.DrawRowOfSet_t code) (fun (r : Int × (List Int)) => κ (.tup [(.own 0), (.int .i64 r.1)]) [.row (.ints .i64 r.2)]) none
    | _, _ => none
theorem S.DrawRowOfSet_ok : SpecOk Try.prog 44 S.DrawRowOfSet_s := by
  refine SpecOk.of TDok mixed (T := S.DrawRowOfSet_T) ?_ (ann := S.DrawRowOfSet_ann) Try.func44 rfl (by decide +kernel) ?_ ?_ ?_
  · intro p hp
    simp only [S.DrawRowOfSet_T, List.mem_cons, List.not_mem_nil, or_false] at hp
    rcases hp with rfl | rfl
    · exact S.l20Open_ok
    · exact S.l20Set_ok
  · intro args h κ r hh
    simp only [S.DrawRowOfSet_s] at hh
    split at hh
    · exact (S.DrawRowOfSet_den _ κ).trans hh
    · cases hh
  · intro args h κ r hh
    simp only [S.DrawRowOfSet_s] at hh ⊢
    split at hh
    · exact optC_law2 (F := fun (r : Int × (List Int)) κ => κ (.tup [(.own 0), (.int .i64 r.1)]) [.row (.ints .i64 r.2)]) (fun b κ r hb => ⟨_, _, hb, fun _ => rfl⟩) hh
    · cases hh
  · intro hh; cases hh

-- loop.example/guardsonnets/impl.RowOfSet
noncomputable def I.RowOfSet_T : List (Nat × D.Spec) := [(31, I.NetOk_s), (53, I.setIn_s), (56, I.seenIn_s), (64, I.hasPlace_s)]
def I.RowOfSet_ann : Nat → List Nat × List Nat
  | 6 => ([0, 1, 5, 6, 7], [6])
  | _ => ([], [])
noncomputable def I.RowOfSet_F (args : List V) (h : List E) (κ : V → List E → R) : R := funC TD (tableK I.RowOfSet_T) I.RowOfSet_ann (drawOk (tableP I.RowOfSet_T)) FUEL Try.f45 args h κ
noncomputable def I.RowOfSet_L6 (n : Nat) (σ : St) (k : X → St → R) : R := iterC 0 (fun σ k => denC TD (tableK I.RowOfSet_T) I.RowOfSet_ann (drawOk (tableP I.RowOfSet_T)) 0 FUEL ((findLoop 6 (Try.f45.body.getD .skip)).getD .skip) σ k) [0, 1, 5, 6, 7] [6] n σ k
noncomputable def I.RowOfSet_k6 (κ : V → List E → R) : X → St → R := (afterC TD (tableK I.RowOfSet_T) I.RowOfSet_ann (drawOk (tableP I.RowOfSet_T)) 0 FUEL 6 (Try.f45.body.getD .skip) (finC TD 0 Try.f45 κ)).getD (fun _ _ => none)
noncomputable def I.RowOfSet_step6 {α : Type} (x0 : List Int) (x1 : Int) (x5 : Int) (x7 : Int) (r0 : List Int) (next_ : Int × (List Int) → α) (out0_ : List Int → α) (fail_ : α) : α :=
  (bif decide (x7 < (↑x0.length : Int)) then (optC (I.hasPlace_t x1 x7) (fun c_4 => (bif c_4 then (bif decide (0 ≤ x7) && decide (x7 < (↑r0.length : Int)) then (bif decide (x7.toNat < r0.length) then (next_ (IntKind.i64.wrap (x7 + 1), r0.set x7.toNat 2)) else fail_) else fail_) else (optC (I.hasPlace_t x5 x7) (fun c_5 => (bif !c_5 then (bif decide (0 ≤ x7) && decide (x7 < (↑r0.length : Int)) then (bif decide (x7.toNat < r0.length) then (next_ (IntKind.i64.wrap (x7 + 1), r0.set x7.toNat 1)) else fail_) else fail_) else (next_ (IntKind.i64.wrap (x7 + 1), r0)))) fail_))) fail_) else (out0_ r0))
theorem I.RowOfSet_step6_nat {α γ : Type} (g : α → γ) (x0 : List Int) (x1 : Int) (x5 : Int) (x7 : Int) (r0 : List Int) (next_ : Int × (List Int) → α) (out0_ : List Int → α) (fail_ : α) : g (I.RowOfSet_step6 x0 x1 x5 x7 r0 next_ out0_ fail_) = I.RowOfSet_step6 x0 x1 x5 x7 r0 (fun s => g (next_ s)) (fun d => g (out0_ d)) (g fail_) := by
  unfold I.RowOfSet_step6; simp only [apply_cnd g, apply_optC g, apply_sumC g]
noncomputable def I.RowOfSet_run6 (x0 : List Int) (x1 : Int) (x5 : Int) : Nat → Int × (List Int) → Option (List Int)
  | 0, _ => none
  | n + 1, s_ => I.RowOfSet_step6 x0 x1 x5 s_.1 s_.2 (I.RowOfSet_run6 x0 x1 x5 n) (fun d => some d) none
theorem I.RowOfSet_L6_run (x0 : List Int) (x1 : Int) (x5 : Int) (n : Nat) (s_ : Int × (List Int)) (k : X → St → R) : I.RowOfSet_L6 n { n := 43, t := [(0, (.ro false (.ints .i64 x0))), (1, (.int .i64 x1)), (5, (.int .i64 x5)), (6, (.own 0)), (7, (.int .i64 s_.1))], h := [.row (.ints .i64 s_.2)] } k = optC (I.RowOfSet_run6 x0 x1 x5 n s_) (fun (r : List Int) => k (.exit 0) { n := 43, t := [(6, (.own 0))], h := [.row (.ints .i64 r)] }) none := by
  induction n generalizing s_ with
  | zero => rfl
  | succ n ih =>
    have hu : I.RowOfSet_L6 (n + 1) { n := 43, t := [(0, (.ro false (.ints .i64 x0))), (1, (.int .i64 x1)), (5, (.int .i64 x5)), (6, (.own 0)), (7, (.int .i64 s_.1))], h := [.row (.ints .i64 s_.2)] } k = I.RowOfSet_step6 x0 x1 x5 s_.1 s_.2 (fun s_ => I.RowOfSet_L6 n { n := 43, t := [(0, (.ro false (.ints .i64 x0))), (1, (.int .i64 x1)), (5, (.int .i64 x5)), (6, (.own 0)), (7, (.int .i64 s_.1))], h := [.row (.ints .i64 s_.2)] } k) (fun d => k (.exit 0) { n := 43, t := [(6, (.own 0))], h := [.row (.ints .i64 d)] }) none := by
      kernel_rfl
    have hs : (fun s_ : Int × (List Int) => I.RowOfSet_L6 n { n := 43, t := [(0, (.ro false (.ints .i64 x0))), (1, (.int .i64 x1)), (5, (.int .i64 x5)), (6, (.own 0)), (7, (.int .i64 s_.1))], h := [.row (.ints .i64 s_.2)] } k) = fun s_ => optC (I.RowOfSet_run6 x0 x1 x5 n s_) (fun (r : List Int) => k (.exit 0) { n := 43, t := [(6, (.own 0))], h := [.row (.ints .i64 r)] }) none := funext ih
    rw [hu, hs]
    exact (I.RowOfSet_step6_nat (fun o => optC o (fun (r : List Int) => k (.exit 0) { n := 43, t := [(6, (.own 0))], h := [.row (.ints .i64 r)] }) none) x0 x1 x5 s_.1 s_.2 (I.RowOfSet_run6 x0 x1 x5 n) (fun d => some d) none).symm
noncomputable def I.RowOfSet_tree {α : Type} (net : List Int) (set_ : Int) (leaf0_ : List Int → α) (fail_ : α) : α :=
  (optC (I.NetOk_t net) (fun c_1 => (bif !c_1 then (leaf0_ ([])) else (optC (I.setIn_t net set_) (fun c_2 => (bif !c_2 then (leaf0_ ([])) else (optC (I.seenIn_t net set_) (fun c_3 => (bif small (↑net.length : Int).toNat && true then (optC (I.RowOfSet_run6 net set_ c_3 FUEL (0, List.replicate (↑net.length : Int).toNat 0)) (fun qy_6 => (leaf0_ qy_6)) fail_) else fail_)) fail_))) fail_))) fail_)
theorem I.RowOfSet_tree_nat {α γ : Type} (g : α → γ) (net : List Int) (set_ : Int) (leaf0_ : List Int → α) (fail_ : α) : g (I.RowOfSet_tree net set_ leaf0_ fail_) = I.RowOfSet_tree net set_ (fun d => g (leaf0_ d)) (g fail_) := by
  unfold I.RowOfSet_tree; simp only [apply_cnd g, apply_optC g, apply_sumC g]
noncomputable def I.RowOfSet_t (net : List Int) (set_ : Int) : Option (List Int) := I.RowOfSet_tree net set_ (fun d => some d) none
theorem I.RowOfSet_den (net : List Int) (set_ : Int) (κ : V → List E → R) : I.RowOfSet_F [.ro false (.ints .i64 net), .int .i64 set_] [] κ = optC (I.RowOfSet_t net set_) (fun (r : List Int) => κ (.own 0) [.row (.ints .i64 r)]) none := by
  have hu : I.RowOfSet_F [.ro false (.ints .i64 net), .int .i64 set_] [] κ = I.RowOfSet_tree net set_ (fun d => κ (.own 0) [.row (.ints .i64 d)]) none := by
    refine Eq.trans (show I.RowOfSet_F [.ro false (.ints .i64 net), .int .i64 set_] [] κ = (optC (I.NetOk_t net) (fun c_1 => (bif !c_1 then (κ (.own 0) [.row (.ints .i64 ([]))]) else (optC (I.setIn_t net set_) (fun c_2 => (bif !c_2 then (κ (.own 0) [.row (.ints .i64 ([]))]) else (optC (I.seenIn_t net set_) (fun c_3 => (bif small (↑net.length : Int).toNat && true then (I.RowOfSet_L6 FUEL { n := 43, t := [(0, (.ro false (.ints .i64 net))), (1, (.int .i64 set_)), (5, (.int .i64 c_3)), (6, (.own 0)), (7, (.int .i64 0))], h := [.row (.ints .i64 (List.replicate (↑net.length : Int).toNat 0))] } (I.RowOfSet_k6 κ)) else none)) none))) none))) none) by kernel_rfl) ?_
    refine optC_congr (fun c_1 => ?_)
    refine cnd_congr ?_ ?_
    · kernel_rfl
    · refine optC_congr (fun c_2 => ?_)
      refine cnd_congr ?_ ?_
      · kernel_rfl
      · refine optC_congr (fun c_3 => ?_)
        refine cnd_congr ?_ ?_
        · refine (I.RowOfSet_L6_run net set_ c_3 FUEL (0, List.replicate (↑net.length : Int).toNat 0) (I.RowOfSet_k6 κ)).trans (optC_congr (fun qy_6 => ?_))
          kernel_rfl
        · kernel_rfl
  rw [hu]
  exact (I.RowOfSet_tree_nat (fun o => optC o (fun (r : List Int) => κ (.own 0) [.row (.ints .i64 r)]) none) net set_ (fun d => some d) none).symm
noncomputable def I.RowOfSet_s : D.Spec where
  keep := false
  pure := false
  ds := [.int .i64, .invalid]
  sp := fun args h κ => match args, h with
    | [.ro false (.ints .i64 net), .int .i64 set_], [] => optC (I.RowOfSet_t net set_) (fun (r : List Int) => κ (.own 0) [.row (.ints .i64 r)]) none
    | _, _ => none
theorem I.RowOfSet_ok : SpecOk Try.prog 45 I.RowOfSet_s := by
  refine SpecOk.of TDok mixed (T := I.RowOfSet_T) ?_ (ann := I.RowOfSet_ann) Try.func45 rfl (by decide +kernel) ?_ ?_ ?_
  · intro p hp
    simp only [I.RowOfSet_T, List.mem_cons, List.not_mem_nil, or_false] at hp
    rcases hp with rfl | rfl | rfl | rfl
    · exact I.NetOk_ok
    · exact I.setIn_ok
    · exact I.seenIn_ok
    · exact I.hasPlace_ok
  · intro args h κ r hh
    simp only [I.RowOfSet_s] at hh
    split at hh
    · exact (I.RowOfSet_den _ _ κ).trans hh
    · cases hh
  · intro args h κ r hh
    simp only [I.RowOfSet_s] at hh ⊢
    split at hh
    · exact optC_law2 (F := fun (r : List Int) κ => κ (.own 0) [.row (.ints .i64 r)]) (fun b κ r hb => ⟨_, _, hb, fun _ => rfl⟩) hh
    · cases hh
  · intro hh; cases hh

-- loop.example/guardsonnets/laws.FnRowOfSet
noncomputable def L.FnRowOfSet_T : List (Nat × D.Spec) := [(44, S.DrawRowOfSet_s), (45, I.RowOfSet_s), (46, S.RowOfSet_s), (29, L.sameInts_s), (22, I.SeenBy_s), (18, L.alive_s), (16, I.RomanOk_s), (20, L.placesWith_s), (32, L.sumOf_s), (38, L.sizeOf_s)]
def L.FnRowOfSet_ann : Nat → List Nat × List Nat
  | _ => ([], [])
noncomputable def L.FnRowOfSet_F (args : List V) (h : List E) (κ : V → List E → R) : R := funC TD (tableK L.FnRowOfSet_T) L.FnRowOfSet_ann (drawOk (tableP L.FnRowOfSet_T)) FUEL Try.f13 args h κ
noncomputable def L.FnRowOfSet_tree {α : Type} (code : List Int) (leaf0_ : Bool → α) (fail_ : α) : α :=
  (bif decide ((↑code.length : Int) > 1048576) then (leaf0_ true) else (optC (S.DrawRowOfSet_t code) (fun c_1 => (optC (I.RowOfSet_t c_1.snd c_1.fst) (fun c_2 => (optC (S.RowOfSet_t c_1.snd c_1.fst) (fun c_3 => (optC (L.sameInts_t c_2 c_3) (fun c_4 => (bif !c_4 then (leaf0_ false) else (bif (↑c_2.length : Int) == 0 then (optC (I.SeenBy_t c_1.snd c_1.fst) (fun c_5 => (bif c_5 == -1 then (optC (L.alive_t) (fun c_6 => (leaf0_ c_6)) fail_) else (leaf0_ false))) fail_) else (optC (I.RomanOk_t c_1.snd c_2) (fun c_7 => (bif c_7 then (optC (L.placesWith_t c_2 2) (fun c_8 => (bif c_8 == c_1.fst then (optC (L.sumOf_t c_2) (fun c_9 => (optC (L.sizeOf_t c_1.fst) (fun c_10 => (optC (I.SeenBy_t c_1.snd c_1.fst) (fun c_11 => (optC (L.sizeOf_t c_11) (fun c_12 => (leaf0_ (c_9 == IntKind.i64.wrap (IntKind.i64.wrap (IntKind.i64.wrap (2 * c_10) + (↑c_1.snd.length : Int)) - c_12)))) fail_)) fail_)) fail_)) fail_) else (leaf0_ false))) fail_) else (leaf0_ false))) fail_)))) fail_)) fail_)) fail_)) fail_))
theorem L.FnRowOfSet_tree_nat {α γ : Type} (g : α → γ) (code : List Int) (leaf0_ : Bool → α) (fail_ : α) : g (L.FnRowOfSet_tree code leaf0_ fail_) = L.FnRowOfSet_tree code (fun d => g (leaf0_ d)) (g fail_) := by
  unfold L.FnRowOfSet_tree; simp only [apply_cnd g, apply_optC g, apply_sumC g]
noncomputable def L.FnRowOfSet_t (code : List Int) : Option (Bool) := L.FnRowOfSet_tree code (fun d => some d) none
theorem L.FnRowOfSet_den (code : List Int) (κ : V → List E → R) : L.FnRowOfSet_F [.ro true (.ints .u8 code)] [] κ = optC (L.FnRowOfSet_t code) (fun (r : Bool) => κ (.bool r) []) none := by
  have hu : L.FnRowOfSet_F [.ro true (.ints .u8 code)] [] κ = L.FnRowOfSet_tree code (fun d => κ (.bool d) []) none := by
    kernel_rfl
  rw [hu]
  exact (L.FnRowOfSet_tree_nat (fun o => optC o (fun (r : Bool) => κ (.bool r) []) none) code (fun d => some d) none).symm
noncomputable def L.FnRowOfSet_s : D.Spec where
  keep := true
  pure := true
  ds := [.int .u8]
  sp := fun args h κ => match args, h with
    | [.ro true (.ints .u8 code)], [] => optC (L.FnRowOfSet_t code) (fun (r : Bool) => κ (.bool r) []) none
    | _, _ => none
theorem L.FnRowOfSet_ok : SpecOk Try.prog 13 L.FnRowOfSet_s := by
  refine SpecOk.of TDok mixed (T := L.FnRowOfSet_T) ?_ (ann := L.FnRowOfSet_ann) Try.func13 rfl (by decide +kernel) ?_ ?_ ?_
  · intro p hp
    simp only [L.FnRowOfSet_T, List.mem_cons, List.not_mem_nil, or_false] at hp
    rcases hp with rfl | rfl | rfl | rfl | rfl | rfl | rfl | rfl | rfl | rfl
    · exact S.DrawRowOfSet_ok
    · exact I.RowOfSet_ok
    · exact S.RowOfSet_ok
    · exact L.sameInts_ok
    · exact I.SeenBy_ok
    · exact L.alive_ok
    · exact I.RomanOk_ok
    · exact L.placesWith_ok
    · exact L.sumOf_ok
    · exact L.sizeOf_ok
  · intro args h κ r hh
    simp only [L.FnRowOfSet_s] at hh
    split at hh
    · exact (L.FnRowOfSet_den _ κ).trans hh
    · cases hh
  · intro args h κ r hh
    simp only [L.FnRowOfSet_s] at hh ⊢
    split at hh
    · exact optC_law2 (F := fun (r : Bool) κ => κ (.bool r) []) (fun b κ r hb => ⟨_, _, hb, fun _ => rfl⟩) hh
    · cases hh
  · intro _ args h κ r hh
    simp only [L.FnRowOfSet_s] at hh
    split at hh
    · exact ⟨rfl, fun _ => rfl⟩
    · cases hh

-- loop.example/guardsonnets/laws.FnExactRowOfSet
noncomputable def L.FnExactRowOfSet_T : List (Nat × D.Spec) := [(23, L.toIntS_s), (46, S.RowOfSet_s), (45, I.RowOfSet_s), (24, L.eqIntS_s), (34, L.markIntS_s), (35, L.heldIntS_s)]
def L.FnExactRowOfSet_ann : Nat → List Nat × List Nat
  | _ => ([], [])
noncomputable def L.FnExactRowOfSet_F (args : List V) (h : List E) (κ : V → List E → R) : R := funC TD (tableK L.FnExactRowOfSet_T) L.FnExactRowOfSet_ann (drawOk (tableP L.FnExactRowOfSet_T)) FUEL Try.f14 args h κ
noncomputable def L.FnExactRowOfSet_tree {α : Type} (aNet : List Int) (aSet : Int) (leaf0_ : Bool → α) (fail_ : α) : α :=
  (bif decide ((↑aNet.length : Int) > 1048576) then (leaf0_ true) else (optC (L.toIntS_t aNet) (fun c_1 => (optC (S.RowOfSet_t c_1 aSet) (fun c_2 => (optC (L.toIntS_t aNet) (fun c_3 => (optC (I.RowOfSet_t c_3 aSet) (fun c_4 => (optC (L.eqIntS_t c_4 c_2) (fun c_5 => (bif !c_5 then (leaf0_ false) else (optC (L.toIntS_t aNet) (fun c_6 => (optC (L.eqIntS_t c_3 c_6) (fun c_7 => (bif !c_7 then (leaf0_ false) else (optC (L.markIntS_t c_3 1) (fun c_8 => (bif decide (c_8.fst < 0) then (leaf0_ false) else (optC (L.eqIntS_t c_4 c_2) (fun c_9 => (bif !c_9 then (leaf0_ false) else (optC (L.markIntS_t c_4 1) (fun c_10 => (optC (L.heldIntS_t c_10.snd 1) (fun c_11 => (bif decide (c_11 < 0) then (leaf0_ false) else (bif !c_11 == c_10.fst then (leaf0_ false) else (optC (L.toIntS_t aNet) (fun c_12 => (optC (I.RowOfSet_t c_12 aSet) (fun c_13 => (optC (L.eqIntS_t c_13 c_2) (fun c_14 => (bif !c_14 then (leaf0_ false) else (optC (L.heldIntS_t c_10.snd 1) (fun c_15 => (bif decide (c_15 < 0) then (leaf0_ false) else (bif !c_15 == c_10.fst then (leaf0_ false) else (leaf0_ true)))) fail_))) fail_)) fail_)) fail_)))) fail_)) fail_))) fail_))) fail_))) fail_)) fail_))) fail_)) fail_)) fail_)) fail_)) fail_))
theorem L.FnExactRowOfSet_tree_nat {α γ : Type} (g : α → γ) (aNet : List Int) (aSet : Int) (leaf0_ : Bool → α) (fail_ : α) : g (L.FnExactRowOfSet_tree aNet aSet leaf0_ fail_) = L.FnExactRowOfSet_tree aNet aSet (fun d => g (leaf0_ d)) (g fail_) := by
  unfold L.FnExactRowOfSet_tree; simp only [apply_cnd g, apply_optC g, apply_sumC g]
noncomputable def L.FnExactRowOfSet_t (aNet : List Int) (aSet : Int) : Option (Bool) := L.FnExactRowOfSet_tree aNet aSet (fun d => some d) none
theorem L.FnExactRowOfSet_den (aNet : List Int) (aSet : Int) (κ : V → List E → R) : L.FnExactRowOfSet_F [.ro true (.ints .i64 aNet), .int .i64 aSet] [] κ = optC (L.FnExactRowOfSet_t aNet aSet) (fun (r : Bool) => κ (.bool r) []) none := by
  have hu : L.FnExactRowOfSet_F [.ro true (.ints .i64 aNet), .int .i64 aSet] [] κ = L.FnExactRowOfSet_tree aNet aSet (fun d => κ (.bool d) []) none := by
    kernel_rfl
  rw [hu]
  exact (L.FnExactRowOfSet_tree_nat (fun o => optC o (fun (r : Bool) => κ (.bool r) []) none) aNet aSet (fun d => some d) none).symm
noncomputable def L.FnExactRowOfSet_s : D.Spec where
  keep := true
  pure := true
  ds := [.int .i64, .invalid]
  sp := fun args h κ => match args, h with
    | [.ro true (.ints .i64 aNet), .int .i64 aSet], [] => optC (L.FnExactRowOfSet_t aNet aSet) (fun (r : Bool) => κ (.bool r) []) none
    | _, _ => none
theorem L.FnExactRowOfSet_ok : SpecOk Try.prog 14 L.FnExactRowOfSet_s := by
  refine SpecOk.of TDok mixed (T := L.FnExactRowOfSet_T) ?_ (ann := L.FnExactRowOfSet_ann) Try.func14 rfl (by decide +kernel) ?_ ?_ ?_
  · intro p hp
    simp only [L.FnExactRowOfSet_T, List.mem_cons, List.not_mem_nil, or_false] at hp
    rcases hp with rfl | rfl | rfl | rfl | rfl | rfl
    · exact L.toIntS_ok
    · exact S.RowOfSet_ok
    · exact I.RowOfSet_ok
    · exact L.eqIntS_ok
    · exact L.markIntS_ok
    · exact L.heldIntS_ok
  · intro args h κ r hh
    simp only [L.FnExactRowOfSet_s] at hh
    split at hh
    · exact (L.FnExactRowOfSet_den _ _ κ).trans hh
    · cases hh
  · intro args h κ r hh
    simp only [L.FnExactRowOfSet_s] at hh ⊢
    split at hh
    · exact optC_law2 (F := fun (r : Bool) κ => κ (.bool r) []) (fun b κ r hb => ⟨_, _, hb, fun _ => rfl⟩) hh
    · cases hh
  · intro _ args h κ r hh
    simp only [L.FnExactRowOfSet_s] at hh
    split at hh
    · exact ⟨rfl, fun _ => rfl⟩
    · cases hh


end Go.Proofs.Ytdkoofikeelhgaa
