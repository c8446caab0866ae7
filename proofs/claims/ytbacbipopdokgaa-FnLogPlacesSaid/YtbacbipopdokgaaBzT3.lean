/- Twins of the translated functions, with their proofs. Conditions: none. -/
import Derived.Test.YtbacbipopdokgaaBzT2
set_option linter.unusedVariables false
set_option linter.unusedSimpArgs false
set_option linter.unusedSectionVars false
namespace Go.Proofs.Ytbacbipopdokgaa
open D Go.RowKit
-- loop.example/guardsonnets/spec.LogPlaces
noncomputable def S.LogPlaces_T : List (Nat × D.Spec) := [(46, S.l1In_s), (47, S.l17Record_s)]
def S.LogPlaces_ann : Nat → List Nat × List Nat
  | 3 => ([0, 4, 5], [2, 3, 4])
  | _ => ([], [])
noncomputable def S.LogPlaces_F (args : List V) (h : List E) (κ : V → List E → R) : R := funC TD (tableK S.LogPlaces_T) S.LogPlaces_ann (drawOk TD (tableP S.LogPlaces_T)) FUEL Try.f29 args h κ
noncomputable def S.LogPlaces_L3 (n : Nat) (σ : St) (k : X → St → R) : R := iterC 0 (fun σ k => denC TD (tableK S.LogPlaces_T) S.LogPlaces_ann (drawOk TD (tableP S.LogPlaces_T)) 0 FUEL ((findLoop 3 (Try.f29.body.getD .skip)).getD .skip) σ k) [0, 4, 5] [2, 3, 4] n σ k
noncomputable def S.LogPlaces_k3 (κ : V → List E → R) : X → St → R := (afterC TD (tableK S.LogPlaces_T) S.LogPlaces_ann (drawOk TD (tableP S.LogPlaces_T)) 0 FUEL 3 (Try.f29.body.getD .skip) (finC TD 0 Try.f29 κ)).getD (fun _ _ => none)
noncomputable def S.LogPlaces_step3 {α : Type} (x0 : List Int) (x5 : Int) (r0 : List Int) (next_ : Int × (List Int) → α) (out0_ : Int × (List Int) → α) (out1_ : List Int → α) (fail_ : α) : α :=
  (bif decide (x5 < 40) then (bif decide ((↑x0.length : Int) ≥ IntKind.i64.wrap (IntKind.i64.wrap (3 * x5) + 3)) then (bif decide (0 ≤ IntKind.i64.wrap (3 * x5)) && decide (IntKind.i64.wrap (3 * x5) < (↑x0.length : Int)) then (optC (S.l1In_t (IntKind.i64.wrap (IntKind.i64.wrap (eli x0 (IntKind.i64.wrap (3 * x5)).toNat) - 1)) 0 5) (fun c_1 => (bif !c_1 then (out0_ (IntKind.i64.wrap (3 * x5), r0)) else (optC (S.l17Record_t (IntKind.i64.wrap (IntKind.i64.wrap (eli x0 (IntKind.i64.wrap (3 * x5)).toNat) - 1)) x5) (fun c_2 => (bif decide (0 ≤ IntKind.i64.wrap (3 * x5)) && decide (IntKind.i64.wrap (3 * x5) ≤ IntKind.i64.wrap (IntKind.i64.wrap (3 * x5) + 3)) && decide (IntKind.i64.wrap (IntKind.i64.wrap (3 * x5) + 3) ≤ (↑x0.length : Int)) then (bif !strEq (bytesOf c_2) (bytesOf (List.take ((IntKind.i64.wrap (IntKind.i64.wrap (3 * x5) + 3)).toNat - (IntKind.i64.wrap (3 * x5)).toNat) (List.drop (IntKind.i64.wrap (3 * x5)).toNat x0))) then (out0_ (IntKind.i64.wrap (3 * x5), r0)) else (bif small (r0 ++ [IntKind.i64.wrap (IntKind.i64.wrap (eli x0 (IntKind.i64.wrap (3 * x5)).toNat) - 1)]).length then (next_ (IntKind.i64.wrap (x5 + 1), r0 ++ [IntKind.i64.wrap (IntKind.i64.wrap (eli x0 (IntKind.i64.wrap (3 * x5)).toNat) - 1)])) else fail_)) else fail_)) fail_))) fail_) else fail_) else (out1_ r0)) else (out1_ r0))
theorem S.LogPlaces_step3_nat {α γ : Type} (g : α → γ) (x0 : List Int) (x5 : Int) (r0 : List Int) (next_ : Int × (List Int) → α) (out0_ : Int × (List Int) → α) (out1_ : List Int → α) (fail_ : α) : g (S.LogPlaces_step3 x0 x5 r0 next_ out0_ out1_ fail_) = S.LogPlaces_step3 x0 x5 r0 (fun s => g (next_ s)) (fun d => g (out0_ d)) (fun d => g (out1_ d)) (g fail_) := by
  unfold S.LogPlaces_step3; simp only [apply_cnd g, apply_optC g, apply_sumC g]
noncomputable def S.LogPlaces_run3 (x0 : List Int) : Nat → Int × (List Int) → Option ((Int × (List Int)) ⊕ (List Int))
  | 0, _ => none
  | n + 1, s_ => S.LogPlaces_step3 x0 s_.1 s_.2 (S.LogPlaces_run3 x0 n) (fun d => some ((Sum.inl d))) (fun d => some ((Sum.inr d))) none
theorem S.LogPlaces_L3_run (x0 : List Int) (n : Nat) (s_ : Int × (List Int)) (k : X → St → R) : S.LogPlaces_L3 n { n := 56, t := [(0, (.ro false (.ints .u8 x0))), (4, (.own 0)), (5, (.int .i64 s_.1))], h := [.row (.ints .i64 s_.2)] } k = optC (S.LogPlaces_run3 x0 n s_) (fun (r : (Int × (List Int)) ⊕ (List Int)) => (sumC r (fun (r : Int × (List Int)) => k (.ret) { n := 56, t := [(2, (.own 0)), (3, (.int .i64 r.1)), (4, (.own 0))], h := [.row (.ints .i64 r.2)] }) (fun (r : List Int) => k (.exit 0) { n := 56, t := [(2, .junk), (3, .junk), (4, (.own 0))], h := [.row (.ints .i64 r)] }))) none := by
  induction n generalizing s_ with
  | zero => rfl
  | succ n ih =>
    have hu : S.LogPlaces_L3 (n + 1) { n := 56, t := [(0, (.ro false (.ints .u8 x0))), (4, (.own 0)), (5, (.int .i64 s_.1))], h := [.row (.ints .i64 s_.2)] } k = S.LogPlaces_step3 x0 s_.1 s_.2 (fun s_ => S.LogPlaces_L3 n { n := 56, t := [(0, (.ro false (.ints .u8 x0))), (4, (.own 0)), (5, (.int .i64 s_.1))], h := [.row (.ints .i64 s_.2)] } k) (fun d => k (.ret) { n := 56, t := [(2, (.own 0)), (3, (.int .i64 d.1)), (4, (.own 0))], h := [.row (.ints .i64 d.2)] }) (fun d => k (.exit 0) { n := 56, t := [(2, .junk), (3, .junk), (4, (.own 0))], h := [.row (.ints .i64 d)] }) none := by
      kernel_rfl
    have hs : (fun s_ : Int × (List Int) => S.LogPlaces_L3 n { n := 56, t := [(0, (.ro false (.ints .u8 x0))), (4, (.own 0)), (5, (.int .i64 s_.1))], h := [.row (.ints .i64 s_.2)] } k) = fun s_ => optC (S.LogPlaces_run3 x0 n s_) (fun (r : (Int × (List Int)) ⊕ (List Int)) => (sumC r (fun (r : Int × (List Int)) => k (.ret) { n := 56, t := [(2, (.own 0)), (3, (.int .i64 r.1)), (4, (.own 0))], h := [.row (.ints .i64 r.2)] }) (fun (r : List Int) => k (.exit 0) { n := 56, t := [(2, .junk), (3, .junk), (4, (.own 0))], h := [.row (.ints .i64 r)] }))) none := funext ih
    rw [hu, hs]
    exact (S.LogPlaces_step3_nat (fun o => optC o (fun (r : (Int × (List Int)) ⊕ (List Int)) => (sumC r (fun (r : Int × (List Int)) => k (.ret) { n := 56, t := [(2, (.own 0)), (3, (.int .i64 r.1)), (4, (.own 0))], h := [.row (.ints .i64 r.2)] }) (fun (r : List Int) => k (.exit 0) { n := 56, t := [(2, .junk), (3, .junk), (4, (.own 0))], h := [.row (.ints .i64 r)] }))) none) x0 s_.1 s_.2 (S.LogPlaces_run3 x0 n) (fun d => some ((Sum.inl d))) (fun d => some ((Sum.inr d))) none).symm
noncomputable def S.LogPlaces_tree {α : Type} (log : List Int) (leaf0_ : Int × (List Int) → α) (fail_ : α) : α :=
  (optC (S.LogPlaces_run3 log FUEL (0, [])) (fun qy_3 => (sumC qy_3 (fun (qy_3 : Int × (List Int)) => (leaf0_ (qy_3.1, qy_3.2))) (fun (qy_3 : List Int) => (leaf0_ (IntKind.i64.wrap (3 * (↑qy_3.length : Int)), qy_3))))) fail_)
theorem S.LogPlaces_tree_nat {α γ : Type} (g : α → γ) (log : List Int) (leaf0_ : Int × (List Int) → α) (fail_ : α) : g (S.LogPlaces_tree log leaf0_ fail_) = S.LogPlaces_tree log (fun d => g (leaf0_ d)) (g fail_) := by
  unfold S.LogPlaces_tree; simp only [apply_cnd g, apply_optC g, apply_sumC g]
noncomputable def S.LogPlaces_t (log : List Int) : Option (Int × (List Int)) := S.LogPlaces_tree log (fun d => some d) none
theorem S.LogPlaces_den (log : List Int) (κ : V → List E → R) : S.LogPlaces_F [.ro false (.ints .u8 log)] [] κ = optC (S.LogPlaces_t log) (fun (r : Int × (List Int)) => κ (.tup [(.own 0), (.int .i64 r.1)]) [.row (.ints .i64 r.2)]) none := by
  have hu : S.LogPlaces_F [.ro false (.ints .u8 log)] [] κ = S.LogPlaces_tree log (fun d => κ (.tup [(.own 0), (.int .i64 d.1)]) [.row (.ints .i64 d.2)]) none := by
    refine Eq.trans (show S.LogPlaces_F [.ro false (.ints .u8 log)] [] κ = (S.LogPlaces_L3 FUEL { n := 56, t := [(0, (.ro false (.ints .u8 log))), (4, (.own 0)), (5, (.int .i64 0))], h := [.row (.ints .i64 ([]))] } (S.LogPlaces_k3 κ)) by kernel_rfl) ?_
    refine (S.LogPlaces_L3_run log FUEL (0, []) (S.LogPlaces_k3 κ)).trans (optC_congr (fun qy_3 => ?_))
    rcases qy_3 with qy_3 | qy_3
    · kernel_rfl
    · kernel_rfl
  rw [hu]
  exact (S.LogPlaces_tree_nat (fun o => optC o (fun (r : Int × (List Int)) => κ (.tup [(.own 0), (.int .i64 r.1)]) [.row (.ints .i64 r.2)]) none) log (fun d => some d) none).symm
noncomputable def S.LogPlaces_s : D.Spec where
  keep := false
  pure := false
  add := true
  ds := [.int .u8]
  sp := fun args h κ => match args, h with
    | [.ro false (.ints .u8 log)], [] => optC (S.LogPlaces_t log) (fun (r : Int × (List Int)) => κ (.tup [(.own 0), (.int .i64 r.1)]) [.row (.ints .i64 r.2)]) none
    | _, _ => none
theorem S.LogPlaces_ok : SpecOk Try.prog 29 S.LogPlaces_s := by
  refine SpecOk.of TDok mixed (T := S.LogPlaces_T) ?_ (ann := S.LogPlaces_ann) Try.func29 rfl (by decide +kernel) ?_ ?_ ?_ ?_
  · intro p hp
    simp only [S.LogPlaces_T, List.mem_cons, List.not_mem_nil, or_false] at hp
    rcases hp with rfl | rfl
    · exact S.l1In_ok
    · exact S.l17Record_ok
  · intro args h κ r hh
    simp only [S.LogPlaces_s] at hh
    split at hh
    · exact (S.LogPlaces_den _ κ).trans hh
    · cases hh
  · intro args h κ r hh
    simp only [S.LogPlaces_s] at hh ⊢
    split at hh
    · exact optC_law2 (F := fun (r : Int × (List Int)) κ => κ (.tup [(.own 0), (.int .i64 r.1)]) [.row (.ints .i64 r.2)]) (fun b κ r hb => ⟨_, _, hb, fun _ => rfl⟩) hh
    · cases hh
  · intro hh; cases hh
  · intro _ args h κ r hh
    simp only [S.LogPlaces_s] at hh
    split at hh
    · rfl
    · cases hh

-- loop.example/guardsonnets/laws.FnLogPlaces
noncomputable def L.FnLogPlaces_T : List (Nat × D.Spec) := [(28, S.DrawLogPlaces_s), (22, I.LogPlaces_s), (29, S.LogPlaces_s), (23, L.sameInts_s), (20, I.LogOf_s), (13, L.alive_s)]
def L.FnLogPlaces_ann : Nat → List Nat × List Nat
  | _ => ([], [])
noncomputable def L.FnLogPlaces_F (args : List V) (h : List E) (κ : V → List E → R) : R := funC TD (tableK L.FnLogPlaces_T) L.FnLogPlaces_ann (drawOk TD (tableP L.FnLogPlaces_T)) FUEL Try.f7 args h κ
noncomputable def L.FnLogPlaces_tree {α : Type} (code : List Int) (leaf0_ : Bool → α) (fail_ : α) : α :=
  (bif decide ((↑code.length : Int) > 1048576) then (leaf0_ true) else (optC (S.DrawLogPlaces_t code) (fun c_1 => (optC (I.LogPlaces_t c_1) (fun c_2 => (optC (S.LogPlaces_t c_1) (fun c_3 => (bif !c_2.fst == c_3.fst then (leaf0_ false) else (optC (L.sameInts_t c_2.snd c_3.snd) (fun c_4 => (bif !c_4 then (leaf0_ false) else (bif c_2.fst == IntKind.i64.wrap (3 * (↑c_2.snd.length : Int)) then (optC (I.LogOf_t c_2.snd) (fun c_5 => (bif decide (0 ≤ c_2.fst) && decide (c_2.fst ≤ (↑c_1.length : Int)) then (bif strEq (bytesOf c_5) (bytesOf (List.take c_2.fst.toNat (List.drop 0 c_1))) then (optC (L.alive_t) (fun c_6 => (leaf0_ c_6)) fail_) else (leaf0_ false)) else fail_)) fail_) else (leaf0_ false)))) fail_))) fail_)) fail_)) fail_))
theorem L.FnLogPlaces_tree_nat {α γ : Type} (g : α → γ) (code : List Int) (leaf0_ : Bool → α) (fail_ : α) : g (L.FnLogPlaces_tree code leaf0_ fail_) = L.FnLogPlaces_tree code (fun d => g (leaf0_ d)) (g fail_) := by
  unfold L.FnLogPlaces_tree; simp only [apply_cnd g, apply_optC g, apply_sumC g]
noncomputable def L.FnLogPlaces_t (code : List Int) : Option (Bool) := L.FnLogPlaces_tree code (fun d => some d) none
theorem L.FnLogPlaces_den (code : List Int) (κ : V → List E → R) : L.FnLogPlaces_F [.ro true (.ints .u8 code)] [] κ = optC (L.FnLogPlaces_t code) (fun (r : Bool) => κ (.bool r) []) none := by
  have hu : L.FnLogPlaces_F [.ro true (.ints .u8 code)] [] κ = L.FnLogPlaces_tree code (fun d => κ (.bool d) []) none := by
    kernel_rfl
  rw [hu]
  exact (L.FnLogPlaces_tree_nat (fun o => optC o (fun (r : Bool) => κ (.bool r) []) none) code (fun d => some d) none).symm
noncomputable def L.FnLogPlaces_s : D.Spec where
  keep := true
  pure := true
  add := true
  ds := [.int .u8]
  sp := fun args h κ => match args, h with
    | [.ro true (.ints .u8 code)], [] => optC (L.FnLogPlaces_t code) (fun (r : Bool) => κ (.bool r) []) none
    | _, _ => none
theorem L.FnLogPlaces_ok : SpecOk Try.prog 7 L.FnLogPlaces_s := by
  refine SpecOk.of TDok mixed (T := L.FnLogPlaces_T) ?_ (ann := L.FnLogPlaces_ann) Try.func7 rfl (by decide +kernel) ?_ ?_ ?_ ?_
  · intro p hp
    simp only [L.FnLogPlaces_T, List.mem_cons, List.not_mem_nil, or_false] at hp
    rcases hp with rfl | rfl | rfl | rfl | rfl | rfl
    · exact S.DrawLogPlaces_ok
    · exact I.LogPlaces_ok
    · exact S.LogPlaces_ok
    · exact L.sameInts_ok
    · exact I.LogOf_ok
    · exact L.alive_ok
  · intro args h κ r hh
    simp only [L.FnLogPlaces_s] at hh
    split at hh
    · exact (L.FnLogPlaces_den _ κ).trans hh
    · cases hh
  · intro args h κ r hh
    simp only [L.FnLogPlaces_s] at hh ⊢
    split at hh
    · exact optC_law2 (F := fun (r : Bool) κ => κ (.bool r) []) (fun b κ r hb => ⟨_, _, hb, fun _ => rfl⟩) hh
    · cases hh
  · intro _ args h κ r hh
    simp only [L.FnLogPlaces_s] at hh
    split at hh
    · exact ⟨rfl, fun _ => rfl⟩
    · cases hh
  · intro _ args h κ r hh
    simp only [L.FnLogPlaces_s] at hh
    split at hh
    · rfl
    · cases hh

-- loop.example/guardsonnets/laws.toByteS
noncomputable def L.toByteS_T : List (Nat × D.Spec) := []
def L.toByteS_ann : Nat → List Nat × List Nat
  | 3 => ([0, 3, 4], [3])
  | _ => ([], [])
noncomputable def L.toByteS_F (args : List V) (h : List E) (κ : V → List E → R) : R := funC TD (tableK L.toByteS_T) L.toByteS_ann (drawOk TD (tableP L.toByteS_T)) FUEL Try.f30 args h κ
noncomputable def L.toByteS_L3 (n : Nat) (σ : St) (k : X → St → R) : R := iterC 0 (fun σ k => denC TD (tableK L.toByteS_T) L.toByteS_ann (drawOk TD (tableP L.toByteS_T)) 0 FUEL ((findLoop 3 (Try.f30.body.getD .skip)).getD .skip) σ k) [0, 3, 4] [3] n σ k
noncomputable def L.toByteS_k3 (κ : V → List E → R) : X → St → R := (afterC TD (tableK L.toByteS_T) L.toByteS_ann (drawOk TD (tableP L.toByteS_T)) 0 FUEL 3 (Try.f30.body.getD .skip) (finC TD 0 Try.f30 κ)).getD (fun _ _ => none)
noncomputable def L.toByteS_step3 {α : Type} (x0 : List Int) (x4 : Int) (r0 : List Int) (next_ : Int × (List Int) → α) (out0_ : List Int → α) (fail_ : α) : α :=
  (bif decide (x4 < (↑x0.length : Int)) then (bif decide (0 ≤ x4) && decide (x4 < (↑x0.length : Int)) then (bif decide (0 ≤ x4) && decide (x4 < (↑r0.length : Int)) then (bif decide (x4.toNat < r0.length) then (next_ (IntKind.i64.wrap (x4 + 1), r0.set x4.toNat (eli x0 x4.toNat))) else fail_) else fail_) else fail_) else (out0_ r0))
theorem L.toByteS_step3_nat {α γ : Type} (g : α → γ) (x0 : List Int) (x4 : Int) (r0 : List Int) (next_ : Int × (List Int) → α) (out0_ : List Int → α) (fail_ : α) : g (L.toByteS_step3 x0 x4 r0 next_ out0_ fail_) = L.toByteS_step3 x0 x4 r0 (fun s => g (next_ s)) (fun d => g (out0_ d)) (g fail_) := by
  unfold L.toByteS_step3; simp only [apply_cnd g, apply_optC g, apply_sumC g]
noncomputable def L.toByteS_run3 (x0 : List Int) : Nat → Int × (List Int) → Option (List Int)
  | 0, _ => none
  | n + 1, s_ => L.toByteS_step3 x0 s_.1 s_.2 (L.toByteS_run3 x0 n) (fun d => some d) none
theorem L.toByteS_L3_run (x0 : List Int) (n : Nat) (s_ : Int × (List Int)) (k : X → St → R) : L.toByteS_L3 n { n := 22, t := [(0, (.ro false (.ints .u8 x0))), (3, (.own 0)), (4, (.int .i64 s_.1))], h := [.row (.ints .u8 s_.2)] } k = optC (L.toByteS_run3 x0 n s_) (fun (r : List Int) => k (.exit 0) { n := 22, t := [(3, (.own 0))], h := [.row (.ints .u8 r)] }) none := by
  induction n generalizing s_ with
  | zero => rfl
  | succ n ih =>
    have hu : L.toByteS_L3 (n + 1) { n := 22, t := [(0, (.ro false (.ints .u8 x0))), (3, (.own 0)), (4, (.int .i64 s_.1))], h := [.row (.ints .u8 s_.2)] } k = L.toByteS_step3 x0 s_.1 s_.2 (fun s_ => L.toByteS_L3 n { n := 22, t := [(0, (.ro false (.ints .u8 x0))), (3, (.own 0)), (4, (.int .i64 s_.1))], h := [.row (.ints .u8 s_.2)] } k) (fun d => k (.exit 0) { n := 22, t := [(3, (.own 0))], h := [.row (.ints .u8 d)] }) none := by
      kernel_rfl
    have hs : (fun s_ : Int × (List Int) => L.toByteS_L3 n { n := 22, t := [(0, (.ro false (.ints .u8 x0))), (3, (.own 0)), (4, (.int .i64 s_.1))], h := [.row (.ints .u8 s_.2)] } k) = fun s_ => optC (L.toByteS_run3 x0 n s_) (fun (r : List Int) => k (.exit 0) { n := 22, t := [(3, (.own 0))], h := [.row (.ints .u8 r)] }) none := funext ih
    rw [hu, hs]
    exact (L.toByteS_step3_nat (fun o => optC o (fun (r : List Int) => k (.exit 0) { n := 22, t := [(3, (.own 0))], h := [.row (.ints .u8 r)] }) none) x0 s_.1 s_.2 (L.toByteS_run3 x0 n) (fun d => some d) none).symm
noncomputable def L.toByteS_tree {α : Type} (a : List Int) (leaf0_ : List Int → α) (fail_ : α) : α :=
  (bif small (↑a.length : Int).toNat && true then (optC (L.toByteS_run3 a FUEL (0, List.replicate (↑a.length : Int).toNat 0)) (fun qy_1 => (leaf0_ qy_1)) fail_) else fail_)
theorem L.toByteS_tree_nat {α γ : Type} (g : α → γ) (a : List Int) (leaf0_ : List Int → α) (fail_ : α) : g (L.toByteS_tree a leaf0_ fail_) = L.toByteS_tree a (fun d => g (leaf0_ d)) (g fail_) := by
  unfold L.toByteS_tree; simp only [apply_cnd g, apply_optC g, apply_sumC g]
noncomputable def L.toByteS_t (a : List Int) : Option (List Int) := L.toByteS_tree a (fun d => some d) none
theorem L.toByteS_den (a : List Int) (κ : V → List E → R) : L.toByteS_F [.ro false (.ints .u8 a)] [] κ = optC (L.toByteS_t a) (fun (r : List Int) => κ (.own 0) [.row (.ints .u8 r)]) none := by
  have hu : L.toByteS_F [.ro false (.ints .u8 a)] [] κ = L.toByteS_tree a (fun d => κ (.own 0) [.row (.ints .u8 d)]) none := by
    refine Eq.trans (show L.toByteS_F [.ro false (.ints .u8 a)] [] κ = (bif small (↑a.length : Int).toNat && true then (L.toByteS_L3 FUEL { n := 22, t := [(0, (.ro false (.ints .u8 a))), (3, (.own 0)), (4, (.int .i64 0))], h := [.row (.ints .u8 (List.replicate (↑a.length : Int).toNat 0))] } (L.toByteS_k3 κ)) else none) by kernel_rfl) ?_
    refine cnd_congr ?_ ?_
    · refine (L.toByteS_L3_run a FUEL (0, List.replicate (↑a.length : Int).toNat 0) (L.toByteS_k3 κ)).trans (optC_congr (fun qy_1 => ?_))
      kernel_rfl
    · kernel_rfl
  rw [hu]
  exact (L.toByteS_tree_nat (fun o => optC o (fun (r : List Int) => κ (.own 0) [.row (.ints .u8 r)]) none) a (fun d => some d) none).symm
noncomputable def L.toByteS_s : D.Spec where
  keep := false
  pure := false
  add := true
  ds := [.int .u8]
  sp := fun args h κ => match args, h with
    | [.ro false (.ints .u8 a)], [] => optC (L.toByteS_t a) (fun (r : List Int) => κ (.own 0) [.row (.ints .u8 r)]) none
    | _, _ => none
theorem L.toByteS_ok : SpecOk Try.prog 30 L.toByteS_s := by
  refine SpecOk.of TDok mixed (T := L.toByteS_T) ?_ (ann := L.toByteS_ann) Try.func30 rfl (by decide +kernel) ?_ ?_ ?_ ?_
  · intro p hp; cases hp
  · intro args h κ r hh
    simp only [L.toByteS_s] at hh
    split at hh
    · exact (L.toByteS_den _ κ).trans hh
    · cases hh
  · intro args h κ r hh
    simp only [L.toByteS_s] at hh ⊢
    split at hh
    · exact optC_law2 (F := fun (r : List Int) κ => κ (.own 0) [.row (.ints .u8 r)]) (fun b κ r hb => ⟨_, _, hb, fun _ => rfl⟩) hh
    · cases hh
  · intro hh; cases hh
  · intro _ args h κ r hh
    simp only [L.toByteS_s] at hh
    split at hh
    · rfl
    · cases hh

-- loop.example/guardsonnets/laws.heldIntS
noncomputable def L.heldIntS_T : List (Nat × D.Spec) := []
def L.heldIntS_ann : Nat → List Nat × List Nat
  | 2 => ([0, 1, 5], [1, 4])
  | _ => ([], [])
noncomputable def L.heldIntS_F (args : List V) (h : List E) (κ : V → List E → R) : R := funC TD (tableK L.heldIntS_T) L.heldIntS_ann (drawOk TD (tableP L.heldIntS_T)) FUEL Try.f31 args h κ
noncomputable def L.heldIntS_L2 (n : Nat) (σ : St) (k : X → St → R) : R := iterC 0 (fun σ k => denC TD (tableK L.heldIntS_T) L.heldIntS_ann (drawOk TD (tableP L.heldIntS_T)) 0 FUEL ((findLoop 2 (Try.f31.body.getD .skip)).getD .skip) σ k) [0, 1, 5] [1, 4] n σ k
noncomputable def L.heldIntS_k2 (κ : V → List E → R) : X → St → R := (afterC TD (tableK L.heldIntS_T) L.heldIntS_ann (drawOk TD (tableP L.heldIntS_T)) 0 FUEL 2 (Try.f31.body.getD .skip) (finC TD 0 Try.f31 κ)).getD (fun _ _ => none)
noncomputable def L.heldIntS_step2 {α : Type} (x0 : List Int) (x1 : Int) (x5 : Int) (next_ : Int × Int → α) (out0_ : Int × Int → α) (out1_ : Int → α) (fail_ : α) : α :=
  (bif decide (x5 < (↑x0.length : Int)) then (bif decide (0 ≤ x5) && decide (x5 < (↑x0.length : Int)) then (bif !eli x0 x5.toNat == x1 then (out0_ (x1, -1)) else (next_ (IntKind.i64.wrap (x1 + 1), IntKind.i64.wrap (x5 + 1)))) else fail_) else (out1_ x1))
theorem L.heldIntS_step2_nat {α γ : Type} (g : α → γ) (x0 : List Int) (x1 : Int) (x5 : Int) (next_ : Int × Int → α) (out0_ : Int × Int → α) (out1_ : Int → α) (fail_ : α) : g (L.heldIntS_step2 x0 x1 x5 next_ out0_ out1_ fail_) = L.heldIntS_step2 x0 x1 x5 (fun s => g (next_ s)) (fun d => g (out0_ d)) (fun d => g (out1_ d)) (g fail_) := by
  unfold L.heldIntS_step2; simp only [apply_cnd g, apply_optC g, apply_sumC g]
noncomputable def L.heldIntS_run2 (x0 : List Int) : Nat → Int × Int → Option ((Int × Int) ⊕ (Int))
  | 0, _ => none
  | n + 1, s_ => L.heldIntS_step2 x0 s_.1 s_.2 (L.heldIntS_run2 x0 n) (fun d => some ((Sum.inl d))) (fun d => some ((Sum.inr d))) none
theorem L.heldIntS_L2_run (x0 : List Int) (n : Nat) (s_ : Int × Int) (k : X → St → R) : L.heldIntS_L2 n { n := 21, t := [(0, (.ro false (.ints .i64 x0))), (1, (.int .i64 s_.1)), (5, (.int .i64 s_.2))], h := [] } k = optC (L.heldIntS_run2 x0 n s_) (fun (r : (Int × Int) ⊕ (Int)) => (sumC r (fun (r : Int × Int) => k (.ret) { n := 21, t := [(1, (.int .i64 r.1)), (4, (.int .i64 r.2))], h := [] }) (fun (r : Int) => k (.exit 0) { n := 21, t := [(1, (.int .i64 r)), (4, .junk)], h := [] }))) none := by
  induction n generalizing s_ with
  | zero => rfl
  | succ n ih =>
    have hu : L.heldIntS_L2 (n + 1) { n := 21, t := [(0, (.ro false (.ints .i64 x0))), (1, (.int .i64 s_.1)), (5, (.int .i64 s_.2))], h := [] } k = L.heldIntS_step2 x0 s_.1 s_.2 (fun s_ => L.heldIntS_L2 n { n := 21, t := [(0, (.ro false (.ints .i64 x0))), (1, (.int .i64 s_.1)), (5, (.int .i64 s_.2))], h := [] } k) (fun d => k (.ret) { n := 21, t := [(1, (.int .i64 d.1)), (4, (.int .i64 d.2))], h := [] }) (fun d => k (.exit 0) { n := 21, t := [(1, (.int .i64 d)), (4, .junk)], h := [] }) none := by
      kernel_rfl
    have hs : (fun s_ : Int × Int => L.heldIntS_L2 n { n := 21, t := [(0, (.ro false (.ints .i64 x0))), (1, (.int .i64 s_.1)), (5, (.int .i64 s_.2))], h := [] } k) = fun s_ => optC (L.heldIntS_run2 x0 n s_) (fun (r : (Int × Int) ⊕ (Int)) => (sumC r (fun (r : Int × Int) => k (.ret) { n := 21, t := [(1, (.int .i64 r.1)), (4, (.int .i64 r.2))], h := [] }) (fun (r : Int) => k (.exit 0) { n := 21, t := [(1, (.int .i64 r)), (4, .junk)], h := [] }))) none := funext ih
    rw [hu, hs]
    exact (L.heldIntS_step2_nat (fun o => optC o (fun (r : (Int × Int) ⊕ (Int)) => (sumC r (fun (r : Int × Int) => k (.ret) { n := 21, t := [(1, (.int .i64 r.1)), (4, (.int .i64 r.2))], h := [] }) (fun (r : Int) => k (.exit 0) { n := 21, t := [(1, (.int .i64 r)), (4, .junk)], h := [] }))) none) x0 s_.1 s_.2 (L.heldIntS_run2 x0 n) (fun d => some ((Sum.inl d))) (fun d => some ((Sum.inr d))) none).symm
noncomputable def L.heldIntS_tree {α : Type} (a : List Int) (k_ : Int) (leaf0_ : Int → α) (fail_ : α) : α :=
  (optC (L.heldIntS_run2 a FUEL (k_, 0)) (fun qy_1 => (sumC qy_1 (fun (qy_1 : Int × Int) => (leaf0_ qy_1.2)) (fun (qy_1 : Int) => (leaf0_ qy_1)))) fail_)
theorem L.heldIntS_tree_nat {α γ : Type} (g : α → γ) (a : List Int) (k_ : Int) (leaf0_ : Int → α) (fail_ : α) : g (L.heldIntS_tree a k_ leaf0_ fail_) = L.heldIntS_tree a k_ (fun d => g (leaf0_ d)) (g fail_) := by
  unfold L.heldIntS_tree; simp only [apply_cnd g, apply_optC g, apply_sumC g]
noncomputable def L.heldIntS_t (a : List Int) (k_ : Int) : Option (Int) := L.heldIntS_tree a k_ (fun d => some d) none
theorem L.heldIntS_den (a : List Int) (k_ : Int) (κ : V → List E → R) : L.heldIntS_F [.ro false (.ints .i64 a), .int .i64 k_] [] κ = optC (L.heldIntS_t a k_) (fun (r : Int) => κ (.int .i64 r) []) none := by
  have hu : L.heldIntS_F [.ro false (.ints .i64 a), .int .i64 k_] [] κ = L.heldIntS_tree a k_ (fun d => κ (.int .i64 d) []) none := by
    refine Eq.trans (show L.heldIntS_F [.ro false (.ints .i64 a), .int .i64 k_] [] κ = (L.heldIntS_L2 FUEL { n := 21, t := [(0, (.ro false (.ints .i64 a))), (1, (.int .i64 k_)), (5, (.int .i64 0))], h := [] } (L.heldIntS_k2 κ)) by kernel_rfl) ?_
    refine (L.heldIntS_L2_run a FUEL (k_, 0) (L.heldIntS_k2 κ)).trans (optC_congr (fun qy_1 => ?_))
    rcases qy_1 with qy_1 | qy_1
    · kernel_rfl
    · kernel_rfl
  rw [hu]
  exact (L.heldIntS_tree_nat (fun o => optC o (fun (r : Int) => κ (.int .i64 r) []) none) a k_ (fun d => some d) none).symm
noncomputable def L.heldIntS_s : D.Spec where
  keep := false
  pure := true
  add := true
  ds := [.int .i64, .invalid]
  sp := fun args h κ => match args, h with
    | [.ro false (.ints .i64 a), .int .i64 k_], [] => optC (L.heldIntS_t a k_) (fun (r : Int) => κ (.int .i64 r) []) none
    | _, _ => none
theorem L.heldIntS_ok : SpecOk Try.prog 31 L.heldIntS_s := by
  refine SpecOk.of TDok mixed (T := L.heldIntS_T) ?_ (ann := L.heldIntS_ann) Try.func31 rfl (by decide +kernel) ?_ ?_ ?_ ?_
  · intro p hp; cases hp
  · intro args h κ r hh
    simp only [L.heldIntS_s] at hh
    split at hh
    · exact (L.heldIntS_den _ _ κ).trans hh
    · cases hh
  · intro args h κ r hh
    simp only [L.heldIntS_s] at hh ⊢
    split at hh
    · exact optC_law2 (F := fun (r : Int) κ => κ (.int .i64 r) []) (fun b κ r hb => ⟨_, _, hb, fun _ => rfl⟩) hh
    · cases hh
  · intro _ args h κ r hh
    simp only [L.heldIntS_s] at hh
    split at hh
    · exact ⟨rfl, fun _ => rfl⟩
    · cases hh
  · intro _ args h κ r hh
    simp only [L.heldIntS_s] at hh
    split at hh
    · rfl
    · cases hh

-- loop.example/guardsonnets/laws.FnExactLogPlaces
noncomputable def L.FnExactLogPlaces_T : List (Nat × D.Spec) := [(30, L.toByteS_s), (29, S.LogPlaces_s), (22, I.LogPlaces_s), (18, L.eqIntS_s), (24, L.eqByteS_s), (26, L.markByteS_s), (25, L.markIntS_s), (31, L.heldIntS_s)]
def L.FnExactLogPlaces_ann : Nat → List Nat × List Nat
  | _ => ([], [])
noncomputable def L.FnExactLogPlaces_F (args : List V) (h : List E) (κ : V → List E → R) : R := funC TD (tableK L.FnExactLogPlaces_T) L.FnExactLogPlaces_ann (drawOk TD (tableP L.FnExactLogPlaces_T)) FUEL Try.f8 args h κ
noncomputable def L.FnExactLogPlaces_tree {α : Type} (aLog : List Int) (leaf0_ : Bool → α) (fail_ : α) : α :=
  (bif decide ((↑aLog.length : Int) > 1048576) then (leaf0_ true) else (optC (L.toByteS_t aLog) (fun c_1 => (optC (S.LogPlaces_t c_1) (fun c_2 => (optC (L.toByteS_t aLog) (fun c_3 => (optC (I.LogPlaces_t c_3) (fun c_4 => (optC (L.eqIntS_t c_4.snd c_2.snd) (fun c_5 => (bif !c_5 then (leaf0_ false) else (bif !c_4.fst == c_2.fst then (leaf0_ false) else (optC (L.toByteS_t aLog) (fun c_6 => (optC (L.eqByteS_t c_3 c_6) (fun c_7 => (bif !c_7 then (leaf0_ false) else (optC (L.markByteS_t c_3 1) (fun c_8 => (bif decide (c_8.fst < 0) then (leaf0_ false) else (optC (L.eqIntS_t c_4.snd c_2.snd) (fun c_9 => (bif !c_9 then (leaf0_ false) else (bif !c_4.fst == c_2.fst then (leaf0_ false) else (optC (L.markIntS_t c_4.snd 1) (fun c_10 => (optC (L.heldIntS_t c_10.snd 1) (fun c_11 => (bif decide (c_11 < 0) then (leaf0_ false) else (bif !c_11 == c_10.fst then (leaf0_ false) else (optC (L.toByteS_t aLog) (fun c_12 => (optC (I.LogPlaces_t c_12) (fun c_13 => (optC (L.eqIntS_t c_13.snd c_2.snd) (fun c_14 => (bif !c_14 then (leaf0_ false) else (bif !c_13.fst == c_2.fst then (leaf0_ false) else (optC (L.heldIntS_t c_10.snd 1) (fun c_15 => (bif decide (c_15 < 0) then (leaf0_ false) else (bif !c_15 == c_10.fst then (leaf0_ false) else (leaf0_ true)))) fail_)))) fail_)) fail_)) fail_)))) fail_)) fail_)))) fail_))) fail_))) fail_)) fail_)))) fail_)) fail_)) fail_)) fail_)) fail_))
theorem L.FnExactLogPlaces_tree_nat {α γ : Type} (g : α → γ) (aLog : List Int) (leaf0_ : Bool → α) (fail_ : α) : g (L.FnExactLogPlaces_tree aLog leaf0_ fail_) = L.FnExactLogPlaces_tree aLog (fun d => g (leaf0_ d)) (g fail_) := by
  unfold L.FnExactLogPlaces_tree; simp only [apply_cnd g, apply_optC g, apply_sumC g]
noncomputable def L.FnExactLogPlaces_t (aLog : List Int) : Option (Bool) := L.FnExactLogPlaces_tree aLog (fun d => some d) none
theorem L.FnExactLogPlaces_den (aLog : List Int) (κ : V → List E → R) : L.FnExactLogPlaces_F [.ro true (.ints .u8 aLog)] [] κ = optC (L.FnExactLogPlaces_t aLog) (fun (r : Bool) => κ (.bool r) []) none := by
  have hu : L.FnExactLogPlaces_F [.ro true (.ints .u8 aLog)] [] κ = L.FnExactLogPlaces_tree aLog (fun d => κ (.bool d) []) none := by
    kernel_rfl
  rw [hu]
  exact (L.FnExactLogPlaces_tree_nat (fun o => optC o (fun (r : Bool) => κ (.bool r) []) none) aLog (fun d => some d) none).symm
noncomputable def L.FnExactLogPlaces_s : D.Spec where
  keep := true
  pure := true
  add := true
  ds := [.int .u8]
  sp := fun args h κ => match args, h with
    | [.ro true (.ints .u8 aLog)], [] => optC (L.FnExactLogPlaces_t aLog) (fun (r : Bool) => κ (.bool r) []) none
    | _, _ => none
theorem L.FnExactLogPlaces_ok : SpecOk Try.prog 8 L.FnExactLogPlaces_s := by
  refine SpecOk.of TDok mixed (T := L.FnExactLogPlaces_T) ?_ (ann := L.FnExactLogPlaces_ann) Try.func8 rfl (by decide +kernel) ?_ ?_ ?_ ?_
  · intro p hp
    simp only [L.FnExactLogPlaces_T, List.mem_cons, List.not_mem_nil, or_false] at hp
    rcases hp with rfl | rfl | rfl | rfl | rfl | rfl | rfl | rfl
    · exact L.toByteS_ok
    · exact S.LogPlaces_ok
    · exact I.LogPlaces_ok
    · exact L.eqIntS_ok
    · exact L.eqByteS_ok
    · exact L.markByteS_ok
    · exact L.markIntS_ok
    · exact L.heldIntS_ok
  · intro args h κ r hh
    simp only [L.FnExactLogPlaces_s] at hh
    split at hh
    · exact (L.FnExactLogPlaces_den _ κ).trans hh
    · cases hh
  · intro args h κ r hh
    simp only [L.FnExactLogPlaces_s] at hh ⊢
    split at hh
    · exact optC_law2 (F := fun (r : Bool) κ => κ (.bool r) []) (fun b κ r hb => ⟨_, _, hb, fun _ => rfl⟩) hh
    · cases hh
  · intro _ args h κ r hh
    simp only [L.FnExactLogPlaces_s] at hh
    split at hh
    · exact ⟨rfl, fun _ => rfl⟩
    · cases hh
  · intro _ args h κ r hh
    simp only [L.FnExactLogPlaces_s] at hh
    split at hh
    · rfl
    · cases hh


end Go.Proofs.Ytbacbipopdokgaa
