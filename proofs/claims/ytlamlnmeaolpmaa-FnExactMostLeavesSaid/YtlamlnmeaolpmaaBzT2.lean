/- Twins of the translated functions, with their proofs. Conditions: none. -/
import Derived.Test.YtlamlnmeaolpmaaBzT1
set_option linter.unusedVariables false
set_option linter.unusedSimpArgs false
set_option linter.unusedSectionVars false
namespace Go.Proofs.Ytlamlnmeaolpmaa
open D Go.RowKit
-- loop.example/guardsonnets/spec.MostLeaves
noncomputable def S.MostLeaves_T : List (Nat × D.Spec) := [(18, S.NetOk_s), (19, S.l6Wires_s), (20, S.l1Size_s), (21, S.l6Tree_s), (22, S.l1Parts_s)]
def S.MostLeaves_ann : Nat → List Nat × List Nat
  | 12 => ([0, 3, 4, 5, 6, 7, 8], [0, 3, 4, 5, 6, 7])
  | 6 => ([0, 3, 4, 5], [3])
  | _ => ([], [])
noncomputable def S.MostLeaves_F (args : List V) (h : List E) (κ : V → List E → R) : R := funC TD (tableK S.MostLeaves_T) S.MostLeaves_ann (drawAny TD (tableP S.MostLeaves_T)) FUEL Try.f7 args h κ
noncomputable def S.MostLeaves_L12 (n : Nat) (σ : St) (k : X → St → R) : R := iterC 0 (fun σ k => denC TD (tableK S.MostLeaves_T) S.MostLeaves_ann (drawAny TD (tableP S.MostLeaves_T)) 0 FUEL ((findLoop 12 (Try.f7.body.getD .skip)).getD .skip) σ k) [0, 3, 4, 5, 6, 7, 8] [0, 3, 4, 5, 6, 7] n σ k
noncomputable def S.MostLeaves_L6 (n : Nat) (σ : St) (k : X → St → R) : R := iterC 0 (fun σ k => denC TD (tableK S.MostLeaves_T) S.MostLeaves_ann (drawAny TD (tableP S.MostLeaves_T)) 0 FUEL ((findLoop 6 (Try.f7.body.getD .skip)).getD .skip) σ k) [0, 3, 4, 5] [3] n σ k
noncomputable def S.MostLeaves_k12 (c : (St → R) × (X → St → R)) : X → St → R := (afterC TD (tableK S.MostLeaves_T) S.MostLeaves_ann (drawAny TD (tableP S.MostLeaves_T)) 0 FUEL 12 ((findLoop 6 (Try.f7.body.getD .skip)).getD .skip) (roundC 0 [0, 3, 4, 5] [3] c.1 c.2)).getD (fun _ _ => none)
noncomputable def S.MostLeaves_k6 (κ : V → List E → R) : X → St → R := (afterC TD (tableK S.MostLeaves_T) S.MostLeaves_ann (drawAny TD (tableP S.MostLeaves_T)) 0 FUEL 6 (Try.f7.body.getD .skip) (finC TD 0 Try.f7 κ)).getD (fun _ _ => none)
noncomputable def S.MostLeaves_step12 {α : Type} (x0 : List Int) (x3 : Int) (x5 : Int) (x7 : Int) (x8 : Int) (r0 : List (List Int)) (r1 : List Int) (next_ : Int × Int × (List (List Int)) × (List Int) → α) (out0_ : Int × (List (List Int)) × (List Int) → α) (fail_ : α) : α :=
  (bif decide (x8 < (↑r1.length : Int)) then (bif decide (0 ≤ x8) && decide (x8 < (↑r1.length : Int)) then (bif decide (x8.toNat < r1.length) then (optC (S.l1Size_t (eli r1 x8.toNat)) (fun c_5 => (bif c_5 == 1 then (next_ (IntKind.i64.wrap (x7 + 1), IntKind.i64.wrap (x8 + 1), r0, r1)) else (next_ (x7, IntKind.i64.wrap (x8 + 1), r0, r1)))) fail_) else fail_) else fail_) else (out0_ (x7, r0, r1)))
theorem S.MostLeaves_step12_nat {α γ : Type} (g : α → γ) (x0 : List Int) (x3 : Int) (x5 : Int) (x7 : Int) (x8 : Int) (r0 : List (List Int)) (r1 : List Int) (next_ : Int × Int × (List (List Int)) × (List Int) → α) (out0_ : Int × (List (List Int)) × (List Int) → α) (fail_ : α) : g (S.MostLeaves_step12 x0 x3 x5 x7 x8 r0 r1 next_ out0_ fail_) = S.MostLeaves_step12 x0 x3 x5 x7 x8 r0 r1 (fun s => g (next_ s)) (fun d => g (out0_ d)) (g fail_) := by
  unfold S.MostLeaves_step12; simp only [apply_cnd g, apply_optC g, apply_sumC g]
noncomputable def S.MostLeaves_run12 (x0 : List Int) (x3 : Int) (x5 : Int) : Nat → Int × Int × (List (List Int)) × (List Int) → Option (Int × (List (List Int)) × (List Int))
  | 0, _ => none
  | n + 1, s_ => S.MostLeaves_step12 x0 x3 x5 s_.1 s_.2.1 s_.2.2.1 s_.2.2.2 (S.MostLeaves_run12 x0 x3 x5 n) (fun d => some d) none
theorem S.MostLeaves_L12_run (x0 : List Int) (x3 : Int) (x5 : Int) (n : Nat) (s_ : Int × Int × (List (List Int)) × (List Int)) (k : X → St → R) : S.MostLeaves_L12 n { n := 58, t := [(0, (.ro false (.ints .i64 x0))), (3, (.int .i64 x3)), (4, (.own 0)), (5, (.int .i64 x5)), (6, (.own 1)), (7, (.int .i64 s_.1)), (8, (.int .i64 s_.2.1))], h := [.row (.rows s_.2.2.1), .row (.ints .i64 s_.2.2.2)] } k = optC (S.MostLeaves_run12 x0 x3 x5 n s_) (fun (r : Int × (List (List Int)) × (List Int)) => k (.exit 2) { n := 58, t := [(0, (.ro false (.ints .i64 x0))), (3, (.int .i64 x3)), (4, (.own 0)), (5, (.int .i64 x5)), (6, (.own 1)), (7, (.int .i64 r.1))], h := [.row (.rows r.2.1), .row (.ints .i64 r.2.2)] }) none := by
  induction n generalizing s_ with
  | zero => rfl
  | succ n ih =>
    have hu : S.MostLeaves_L12 (n + 1) { n := 58, t := [(0, (.ro false (.ints .i64 x0))), (3, (.int .i64 x3)), (4, (.own 0)), (5, (.int .i64 x5)), (6, (.own 1)), (7, (.int .i64 s_.1)), (8, (.int .i64 s_.2.1))], h := [.row (.rows s_.2.2.1), .row (.ints .i64 s_.2.2.2)] } k = S.MostLeaves_step12 x0 x3 x5 s_.1 s_.2.1 s_.2.2.1 s_.2.2.2 (fun s_ => S.MostLeaves_L12 n { n := 58, t := [(0, (.ro false (.ints .i64 x0))), (3, (.int .i64 x3)), (4, (.own 0)), (5, (.int .i64 x5)), (6, (.own 1)), (7, (.int .i64 s_.1)), (8, (.int .i64 s_.2.1))], h := [.row (.rows s_.2.2.1), .row (.ints .i64 s_.2.2.2)] } k) (fun d => k (.exit 2) { n := 58, t := [(0, (.ro false (.ints .i64 x0))), (3, (.int .i64 x3)), (4, (.own 0)), (5, (.int .i64 x5)), (6, (.own 1)), (7, (.int .i64 d.1))], h := [.row (.rows d.2.1), .row (.ints .i64 d.2.2)] }) none := by
      kernel_rfl
    have hs : (fun s_ : Int × Int × (List (List Int)) × (List Int) => S.MostLeaves_L12 n { n := 58, t := [(0, (.ro false (.ints .i64 x0))), (3, (.int .i64 x3)), (4, (.own 0)), (5, (.int .i64 x5)), (6, (.own 1)), (7, (.int .i64 s_.1)), (8, (.int .i64 s_.2.1))], h := [.row (.rows s_.2.2.1), .row (.ints .i64 s_.2.2.2)] } k) = fun s_ => optC (S.MostLeaves_run12 x0 x3 x5 n s_) (fun (r : Int × (List (List Int)) × (List Int)) => k (.exit 2) { n := 58, t := [(0, (.ro false (.ints .i64 x0))), (3, (.int .i64 x3)), (4, (.own 0)), (5, (.int .i64 x5)), (6, (.own 1)), (7, (.int .i64 r.1))], h := [.row (.rows r.2.1), .row (.ints .i64 r.2.2)] }) none := funext ih
    rw [hu, hs]
    exact (S.MostLeaves_step12_nat (fun o => optC o (fun (r : Int × (List (List Int)) × (List Int)) => k (.exit 2) { n := 58, t := [(0, (.ro false (.ints .i64 x0))), (3, (.int .i64 x3)), (4, (.own 0)), (5, (.int .i64 x5)), (6, (.own 1)), (7, (.int .i64 r.1))], h := [.row (.rows r.2.1), .row (.ints .i64 r.2.2)] }) none) x0 x3 x5 s_.1 s_.2.1 s_.2.2.1 s_.2.2.2 (S.MostLeaves_run12 x0 x3 x5 n) (fun d => some d) none).symm
noncomputable def S.MostLeaves_step6 {α : Type} (x0 : List Int) (x3 : Int) (x5 : Int) (r0 : List (List Int)) (next_ : Int × Int × (List (List Int)) → α) (out0_ : Int → α) (fail_ : α) : α :=
  (bif decide (x5 < IntKind.i64.wrap (1 * 2 ^ min (↑r0.length : Int).toNat IntKind.i64.bits)) then (optC (S.l1Size_t x5) (fun c_3 => (bif c_3 == IntKind.i64.wrap ((↑x0.length : Int) - 1) then (optC (S.l6Tree_t (↑x0.length : Int) r0 x5) (fun c_4 => (optC (S.MostLeaves_run12 x0 x3 x5 FUEL (0, 0, r0, c_4)) (fun qy_6 => (optC (S.l1Parts_t qy_6.2.2) (fun c_7 => (bif c_7 == 1 then (next_ (if qy_6.1 > x3 then qy_6.1 else x3, IntKind.i64.wrap (x5 + 1), qy_6.2.1)) else (next_ (x3, IntKind.i64.wrap (x5 + 1), qy_6.2.1)))) fail_)) fail_)) fail_) else (next_ (x3, IntKind.i64.wrap (x5 + 1), r0)))) fail_) else (out0_ x3))
theorem S.MostLeaves_step6_nat {α γ : Type} (g : α → γ) (x0 : List Int) (x3 : Int) (x5 : Int) (r0 : List (List Int)) (next_ : Int × Int × (List (List Int)) → α) (out0_ : Int → α) (fail_ : α) : g (S.MostLeaves_step6 x0 x3 x5 r0 next_ out0_ fail_) = S.MostLeaves_step6 x0 x3 x5 r0 (fun s => g (next_ s)) (fun d => g (out0_ d)) (g fail_) := by
  unfold S.MostLeaves_step6; simp only [apply_cnd g, apply_optC g, apply_sumC g]
noncomputable def S.MostLeaves_run6 (x0 : List Int) : Nat → Int × Int × (List (List Int)) → Option (Int)
  | 0, _ => none
  | n + 1, s_ => S.MostLeaves_step6 x0 s_.1 s_.2.1 s_.2.2 (S.MostLeaves_run6 x0 n) (fun d => some d) none
theorem S.MostLeaves_L6_run (x0 : List Int) (n : Nat) (s_ : Int × Int × (List (List Int))) (k : X → St → R) : S.MostLeaves_L6 n { n := 58, t := [(0, (.ro false (.ints .i64 x0))), (3, (.int .i64 s_.1)), (4, (.own 0)), (5, (.int .i64 s_.2.1))], h := [.row (.rows s_.2.2)] } k = optC (S.MostLeaves_run6 x0 n s_) (fun (r : Int) => k (.exit 0) { n := 58, t := [(3, (.int .i64 r))], h := [] }) none := by
  induction n generalizing s_ with
  | zero => rfl
  | succ n ih =>
    have hu : S.MostLeaves_L6 (n + 1) { n := 58, t := [(0, (.ro false (.ints .i64 x0))), (3, (.int .i64 s_.1)), (4, (.own 0)), (5, (.int .i64 s_.2.1))], h := [.row (.rows s_.2.2)] } k = S.MostLeaves_step6 x0 s_.1 s_.2.1 s_.2.2 (fun s_ => S.MostLeaves_L6 n { n := 58, t := [(0, (.ro false (.ints .i64 x0))), (3, (.int .i64 s_.1)), (4, (.own 0)), (5, (.int .i64 s_.2.1))], h := [.row (.rows s_.2.2)] } k) (fun d => k (.exit 0) { n := 58, t := [(3, (.int .i64 d))], h := [] }) none := by
      refine Eq.trans (show S.MostLeaves_L6 (n + 1) { n := 58, t := [(0, (.ro false (.ints .i64 x0))), (3, (.int .i64 s_.1)), (4, (.own 0)), (5, (.int .i64 s_.2.1))], h := [.row (.rows s_.2.2)] } k = (bif decide (s_.2.1 < IntKind.i64.wrap (1 * 2 ^ min (↑s_.2.2.length : Int).toNat IntKind.i64.bits)) then (optC (S.l1Size_t s_.2.1) (fun c_3 => (bif c_3 == IntKind.i64.wrap ((↑x0.length : Int) - 1) then (optC (S.l6Tree_t (↑x0.length : Int) s_.2.2 s_.2.1) (fun c_4 => (S.MostLeaves_L12 FUEL { n := 58, t := [(0, (.ro false (.ints .i64 x0))), (3, (.int .i64 s_.1)), (4, (.own 0)), (5, (.int .i64 s_.2.1)), (6, (.own 1)), (7, (.int .i64 0)), (8, (.int .i64 0))], h := [.row (.rows s_.2.2), .row (.ints .i64 c_4)] } (S.MostLeaves_k12 ((fun σ => S.MostLeaves_L6 n σ k), k)))) none) else (S.MostLeaves_L6 n { n := 58, t := [(0, (.ro false (.ints .i64 x0))), (3, (.int .i64 s_.1)), (4, (.own 0)), (5, (.int .i64 (IntKind.i64.wrap (s_.2.1 + 1))))], h := [.row (.rows s_.2.2)] } k))) none) else (k (.exit 0) { n := 58, t := [(3, (.int .i64 s_.1))], h := [] })) by kernel_rfl) ?_
      refine cnd_congr ?_ ?_
      · refine optC_congr (fun c_3 => ?_)
        refine cnd_congr ?_ ?_
        · refine optC_congr (fun c_4 => ?_)
          refine (S.MostLeaves_L12_run x0 s_.1 s_.2.1 FUEL (0, 0, s_.2.2, c_4) (S.MostLeaves_k12 ((fun σ => S.MostLeaves_L6 n σ k), k))).trans (optC_congr (fun qy_6 => ?_))
          kernel_rfl
        · kernel_rfl
      · kernel_rfl
    have hs : (fun s_ : Int × Int × (List (List Int)) => S.MostLeaves_L6 n { n := 58, t := [(0, (.ro false (.ints .i64 x0))), (3, (.int .i64 s_.1)), (4, (.own 0)), (5, (.int .i64 s_.2.1))], h := [.row (.rows s_.2.2)] } k) = fun s_ => optC (S.MostLeaves_run6 x0 n s_) (fun (r : Int) => k (.exit 0) { n := 58, t := [(3, (.int .i64 r))], h := [] }) none := funext ih
    rw [hu, hs]
    exact (S.MostLeaves_step6_nat (fun o => optC o (fun (r : Int) => k (.exit 0) { n := 58, t := [(3, (.int .i64 r))], h := [] }) none) x0 s_.1 s_.2.1 s_.2.2 (S.MostLeaves_run6 x0 n) (fun d => some d) none).symm
noncomputable def S.MostLeaves_tree {α : Type} (net : List Int) (leaf0_ : Int → α) (fail_ : α) : α :=
  (optC (S.NetOk_t net) (fun c_1 => (bif !c_1 then (leaf0_ (-1)) else (bif decide ((↑net.length : Int) < 2) then (leaf0_ (-1)) else (optC (S.l6Wires_t net) (fun c_2 => (optC (S.MostLeaves_run6 net FUEL (-1, 0, c_2)) (fun qy_8 => (leaf0_ qy_8)) fail_)) fail_)))) fail_)
theorem S.MostLeaves_tree_nat {α γ : Type} (g : α → γ) (net : List Int) (leaf0_ : Int → α) (fail_ : α) : g (S.MostLeaves_tree net leaf0_ fail_) = S.MostLeaves_tree net (fun d => g (leaf0_ d)) (g fail_) := by
  unfold S.MostLeaves_tree; simp only [apply_cnd g, apply_optC g, apply_sumC g]
noncomputable def S.MostLeaves_t (net : List Int) : Option (Int) := S.MostLeaves_tree net (fun d => some d) none
theorem S.MostLeaves_den (net : List Int) (κ : V → List E → R) : S.MostLeaves_F [.ro false (.ints .i64 net)] [] κ = optC (S.MostLeaves_t net) (fun (r : Int) => κ (.int .i64 r) []) none := by
  have hu : S.MostLeaves_F [.ro false (.ints .i64 net)] [] κ = S.MostLeaves_tree net (fun d => κ (.int .i64 d) []) none := by
    refine Eq.trans (show S.MostLeaves_F [.ro false (.ints .i64 net)] [] κ = (optC (S.NetOk_t net) (fun c_1 => (bif !c_1 then (κ (.int .i64 (-1)) []) else (bif decide ((↑net.length : Int) < 2) then (κ (.int .i64 (-1)) []) else (optC (S.l6Wires_t net) (fun c_2 => (S.MostLeaves_L6 FUEL { n := 58, t := [(0, (.ro false (.ints .i64 net))), (3, (.int .i64 (-1))), (4, (.own 0)), (5, (.int .i64 0))], h := [.row (.rows c_2)] } (S.MostLeaves_k6 κ))) none)))) none) by kernel_rfl) ?_
    refine optC_congr (fun c_1 => ?_)
    refine cnd_congr ?_ ?_
    · kernel_rfl
    · refine cnd_congr ?_ ?_
      · kernel_rfl
      · refine optC_congr (fun c_2 => ?_)
        refine (S.MostLeaves_L6_run net FUEL (-1, 0, c_2) (S.MostLeaves_k6 κ)).trans (optC_congr (fun qy_8 => ?_))
        kernel_rfl
  rw [hu]
  exact (S.MostLeaves_tree_nat (fun o => optC o (fun (r : Int) => κ (.int .i64 r) []) none) net (fun d => some d) none).symm
noncomputable def S.MostLeaves_s : D.Spec where
  keep := false
  pure := true
  add := true
  ds := [.int .i64]
  sp := fun args h κ => match args, h with
    | [.ro false (.ints .i64 net)], [] => optC (S.MostLeaves_t net) (fun (r : Int) => κ (.int .i64 r) []) none
    | _, _ => none
theorem S.MostLeaves_ok : SpecOk Try.prog 7 S.MostLeaves_s := by
  refine SpecOk.of TDok mixed (T := S.MostLeaves_T) ?_ (ann := S.MostLeaves_ann) Try.func7 rfl (by decide +kernel) ?_ ?_ ?_ ?_
  · intro p hp
    simp only [S.MostLeaves_T, List.mem_cons, List.not_mem_nil, or_false] at hp
    rcases hp with rfl | rfl | rfl | rfl | rfl
    · exact S.NetOk_ok
    · exact S.l6Wires_ok
    · exact S.l1Size_ok
    · exact S.l6Tree_ok
    · exact S.l1Parts_ok
  · intro args h κ r hh
    simp only [S.MostLeaves_s] at hh
    split at hh
    · exact (S.MostLeaves_den _ κ).trans hh
    · cases hh
  · intro args h κ r hh
    simp only [S.MostLeaves_s] at hh ⊢
    split at hh
    · exact optC_law2 (F := fun (r : Int) κ => κ (.int .i64 r) []) (fun b κ r hb => ⟨_, _, hb, fun _ => rfl⟩) hh
    · cases hh
  · intro _ args h κ r hh
    simp only [S.MostLeaves_s] at hh
    split at hh
    · exact ⟨rfl, fun _ => rfl⟩
    · cases hh
  · intro _ args h κ r hh
    simp only [S.MostLeaves_s] at hh
    split at hh
    · rfl
    · cases hh

-- loop.example/guardsonnets/laws.alive
noncomputable def L.alive_T : List (Nat × D.Spec) := [(8, I.NetOk_s)]
def L.alive_ann : Nat → List Nat × List Nat
  | _ => ([], [])
noncomputable def L.alive_F (args : List V) (h : List E) (κ : V → List E → R) : R := funC TD (tableK L.alive_T) L.alive_ann (drawAny TD (tableP L.alive_T)) FUEL Try.f9 args h κ
noncomputable def L.alive_tree {α : Type} (leaf0_ : Bool → α) (fail_ : α) : α :=
  (optC (I.NetOk_t [2, 1]) (fun c_1 => (bif c_1 then (optC (I.NetOk_t [1]) (fun c_2 => (leaf0_ (!c_2))) fail_) else (leaf0_ false))) fail_)
theorem L.alive_tree_nat {α γ : Type} (g : α → γ) (leaf0_ : Bool → α) (fail_ : α) : g (L.alive_tree leaf0_ fail_) = L.alive_tree (fun d => g (leaf0_ d)) (g fail_) := by
  unfold L.alive_tree; simp only [apply_cnd g, apply_optC g, apply_sumC g]
noncomputable def L.alive_t : Option (Bool) := L.alive_tree (fun d => some d) none
theorem L.alive_den (κ : V → List E → R) : L.alive_F [] [] κ = optC (L.alive_t) (fun (r : Bool) => κ (.bool r) []) none := by
  have hu : L.alive_F [] [] κ = L.alive_tree (fun d => κ (.bool d) []) none := by
    kernel_rfl
  rw [hu]
  exact (L.alive_tree_nat (fun o => optC o (fun (r : Bool) => κ (.bool r) []) none) (fun d => some d) none).symm
noncomputable def L.alive_s : D.Spec where
  keep := false
  pure := true
  add := true
  ds := []
  sp := fun args h κ => match args, h with
    | [], [] => optC (L.alive_t) (fun (r : Bool) => κ (.bool r) []) none
    | _, _ => none
theorem L.alive_ok : SpecOk Try.prog 9 L.alive_s := by
  refine SpecOk.of TDok mixed (T := L.alive_T) ?_ (ann := L.alive_ann) Try.func9 rfl (by decide +kernel) ?_ ?_ ?_ ?_
  · intro p hp
    simp only [L.alive_T, List.mem_cons, List.not_mem_nil, or_false] at hp
    rcases hp with rfl
    · exact I.NetOk_ok
  · intro args h κ r hh
    simp only [L.alive_s] at hh
    split at hh
    · exact (L.alive_den κ).trans hh
    · cases hh
  · intro args h κ r hh
    simp only [L.alive_s] at hh ⊢
    split at hh
    · exact optC_law2 (F := fun (r : Bool) κ => κ (.bool r) []) (fun b κ r hb => ⟨_, _, hb, fun _ => rfl⟩) hh
    · cases hh
  · intro _ args h κ r hh
    simp only [L.alive_s] at hh
    split at hh
    · exact ⟨rfl, fun _ => rfl⟩
    · cases hh
  · intro _ args h κ r hh
    simp only [L.alive_s] at hh
    split at hh
    · rfl
    · cases hh

-- loop.example/guardsonnets/impl.nextTo
noncomputable def I.nextTo_T : List (Nat × D.Spec) := [(24, I.hasPlace_s)]
def I.nextTo_ann : Nat → List Nat × List Nat
  | 3 => ([0, 1, 5, 6], [5])
  | _ => ([], [])
noncomputable def I.nextTo_F (args : List V) (h : List E) (κ : V → List E → R) : R := funC TD (tableK I.nextTo_T) I.nextTo_ann (drawAny TD (tableP I.nextTo_T)) FUEL Try.f44 args h κ
noncomputable def I.nextTo_L3 (n : Nat) (σ : St) (k : X → St → R) : R := iterC 0 (fun σ k => denC TD (tableK I.nextTo_T) I.nextTo_ann (drawAny TD (tableP I.nextTo_T)) 0 FUEL ((findLoop 3 (Try.f44.body.getD .skip)).getD .skip) σ k) [0, 1, 5, 6] [5] n σ k
noncomputable def I.nextTo_k3 (κ : V → List E → R) : X → St → R := (afterC TD (tableK I.nextTo_T) I.nextTo_ann (drawAny TD (tableP I.nextTo_T)) 0 FUEL 3 (Try.f44.body.getD .skip) (finC TD 0 Try.f44 κ)).getD (fun _ _ => none)
noncomputable def I.nextTo_step3 {α : Type} (x0 : List Int) (x1 : Int) (x5 : Int) (x6 : Int) (next_ : Int × Int → α) (out0_ : Int → α) (fail_ : α) : α :=
  (bif decide (x6 < (↑x0.length : Int)) then (optC (I.hasPlace_t x1 x6) (fun c_1 => (bif c_1 then (bif decide (0 ≤ x6) && decide (x6 < (↑x0.length : Int)) then (next_ (bits BinOp.or IntKind.i64 x5 (eli x0 x6.toNat), IntKind.i64.wrap (x6 + 1))) else fail_) else (next_ (x5, IntKind.i64.wrap (x6 + 1))))) fail_) else (out0_ x5))
theorem I.nextTo_step3_nat {α γ : Type} (g : α → γ) (x0 : List Int) (x1 : Int) (x5 : Int) (x6 : Int) (next_ : Int × Int → α) (out0_ : Int → α) (fail_ : α) : g (I.nextTo_step3 x0 x1 x5 x6 next_ out0_ fail_) = I.nextTo_step3 x0 x1 x5 x6 (fun s => g (next_ s)) (fun d => g (out0_ d)) (g fail_) := by
  unfold I.nextTo_step3; simp only [apply_cnd g, apply_optC g, apply_sumC g]
noncomputable def I.nextTo_run3 (x0 : List Int) (x1 : Int) : Nat → Int × Int → Option (Int)
  | 0, _ => none
  | n + 1, s_ => I.nextTo_step3 x0 x1 s_.1 s_.2 (I.nextTo_run3 x0 x1 n) (fun d => some d) none
theorem I.nextTo_L3_run (x0 : List Int) (x1 : Int) (n : Nat) (s_ : Int × Int) (k : X → St → R) : I.nextTo_L3 n { n := 23, t := [(0, (.ro false (.ints .i64 x0))), (1, (.int .i64 x1)), (5, (.int .i64 s_.1)), (6, (.int .i64 s_.2))], h := [] } k = optC (I.nextTo_run3 x0 x1 n s_) (fun (r : Int) => k (.exit 0) { n := 23, t := [(5, (.int .i64 r))], h := [] }) none := by
  induction n generalizing s_ with
  | zero => rfl
  | succ n ih =>
    have hu : I.nextTo_L3 (n + 1) { n := 23, t := [(0, (.ro false (.ints .i64 x0))), (1, (.int .i64 x1)), (5, (.int .i64 s_.1)), (6, (.int .i64 s_.2))], h := [] } k = I.nextTo_step3 x0 x1 s_.1 s_.2 (fun s_ => I.nextTo_L3 n { n := 23, t := [(0, (.ro false (.ints .i64 x0))), (1, (.int .i64 x1)), (5, (.int .i64 s_.1)), (6, (.int .i64 s_.2))], h := [] } k) (fun d => k (.exit 0) { n := 23, t := [(5, (.int .i64 d))], h := [] }) none := by
      kernel_rfl
    have hs : (fun s_ : Int × Int => I.nextTo_L3 n { n := 23, t := [(0, (.ro false (.ints .i64 x0))), (1, (.int .i64 x1)), (5, (.int .i64 s_.1)), (6, (.int .i64 s_.2))], h := [] } k) = fun s_ => optC (I.nextTo_run3 x0 x1 n s_) (fun (r : Int) => k (.exit 0) { n := 23, t := [(5, (.int .i64 r))], h := [] }) none := funext ih
    rw [hu, hs]
    exact (I.nextTo_step3_nat (fun o => optC o (fun (r : Int) => k (.exit 0) { n := 23, t := [(5, (.int .i64 r))], h := [] }) none) x0 x1 s_.1 s_.2 (I.nextTo_run3 x0 x1 n) (fun d => some d) none).symm
noncomputable def I.nextTo_tree {α : Type} (net : List Int) (set_ : Int) (leaf0_ : Int → α) (fail_ : α) : α :=
  (optC (I.nextTo_run3 net set_ FUEL (0, 0)) (fun qy_2 => (leaf0_ qy_2)) fail_)
theorem I.nextTo_tree_nat {α γ : Type} (g : α → γ) (net : List Int) (set_ : Int) (leaf0_ : Int → α) (fail_ : α) : g (I.nextTo_tree net set_ leaf0_ fail_) = I.nextTo_tree net set_ (fun d => g (leaf0_ d)) (g fail_) := by
  unfold I.nextTo_tree; simp only [apply_cnd g, apply_optC g, apply_sumC g]
noncomputable def I.nextTo_t (net : List Int) (set_ : Int) : Option (Int) := I.nextTo_tree net set_ (fun d => some d) none
theorem I.nextTo_den (net : List Int) (set_ : Int) (κ : V → List E → R) : I.nextTo_F [.ro false (.ints .i64 net), .int .i64 set_] [] κ = optC (I.nextTo_t net set_) (fun (r : Int) => κ (.int .i64 r) []) none := by
  have hu : I.nextTo_F [.ro false (.ints .i64 net), .int .i64 set_] [] κ = I.nextTo_tree net set_ (fun d => κ (.int .i64 d) []) none := by
    refine Eq.trans (show I.nextTo_F [.ro false (.ints .i64 net), .int .i64 set_] [] κ = (I.nextTo_L3 FUEL { n := 23, t := [(0, (.ro false (.ints .i64 net))), (1, (.int .i64 set_)), (5, (.int .i64 0)), (6, (.int .i64 0))], h := [] } (I.nextTo_k3 κ)) by kernel_rfl) ?_
    refine (I.nextTo_L3_run net set_ FUEL (0, 0) (I.nextTo_k3 κ)).trans (optC_congr (fun qy_2 => ?_))
    kernel_rfl
  rw [hu]
  exact (I.nextTo_tree_nat (fun o => optC o (fun (r : Int) => κ (.int .i64 r) []) none) net set_ (fun d => some d) none).symm
noncomputable def I.nextTo_s : D.Spec where
  keep := false
  pure := true
  add := true
  ds := [.int .i64, .invalid]
  sp := fun args h κ => match args, h with
    | [.ro false (.ints .i64 net), .int .i64 set_], [] => optC (I.nextTo_t net set_) (fun (r : Int) => κ (.int .i64 r) []) none
    | _, _ => none
theorem I.nextTo_ok : SpecOk Try.prog 44 I.nextTo_s := by
  refine SpecOk.of TDok mixed (T := I.nextTo_T) ?_ (ann := I.nextTo_ann) Try.func44 rfl (by decide +kernel) ?_ ?_ ?_ ?_
  · intro p hp
    simp only [I.nextTo_T, List.mem_cons, List.not_mem_nil, or_false] at hp
    rcases hp with rfl
    · exact I.hasPlace_ok
  · intro args h κ r hh
    simp only [I.nextTo_s] at hh
    split at hh
    · exact (I.nextTo_den _ _ κ).trans hh
    · cases hh
  · intro args h κ r hh
    simp only [I.nextTo_s] at hh ⊢
    split at hh
    · exact optC_law2 (F := fun (r : Int) κ => κ (.int .i64 r) []) (fun b κ r hb => ⟨_, _, hb, fun _ => rfl⟩) hh
    · cases hh
  · intro _ args h κ r hh
    simp only [I.nextTo_s] at hh
    split at hh
    · exact ⟨rfl, fun _ => rfl⟩
    · cases hh
  · intro _ args h κ r hh
    simp only [I.nextTo_s] at hh
    split at hh
    · rfl
    · cases hh

-- loop.example/guardsonnets/impl.reachedIn
noncomputable def I.reachedIn_T : List (Nat × D.Spec) := [(44, I.nextTo_s)]
def I.reachedIn_ann : Nat → List Nat × List Nat
  | 3 => ([0, 1, 5, 6], [5])
  | _ => ([], [])
noncomputable def I.reachedIn_F (args : List V) (h : List E) (κ : V → List E → R) : R := funC TD (tableK I.reachedIn_T) I.reachedIn_ann (drawAny TD (tableP I.reachedIn_T)) FUEL Try.f43 args h κ
noncomputable def I.reachedIn_L3 (n : Nat) (σ : St) (k : X → St → R) : R := iterC 0 (fun σ k => denC TD (tableK I.reachedIn_T) I.reachedIn_ann (drawAny TD (tableP I.reachedIn_T)) 0 FUEL ((findLoop 3 (Try.f43.body.getD .skip)).getD .skip) σ k) [0, 1, 5, 6] [5] n σ k
noncomputable def I.reachedIn_k3 (κ : V → List E → R) : X → St → R := (afterC TD (tableK I.reachedIn_T) I.reachedIn_ann (drawAny TD (tableP I.reachedIn_T)) 0 FUEL 3 (Try.f43.body.getD .skip) (finC TD 0 Try.f43 κ)).getD (fun _ _ => none)
noncomputable def I.reachedIn_step3 {α : Type} (x0 : List Int) (x1 : Int) (x5 : Int) (x6 : Int) (next_ : Int × Int → α) (out0_ : Int → α) (fail_ : α) : α :=
  (bif decide (x6 < (↑x0.length : Int)) then (optC (I.nextTo_t x0 x5) (fun c_1 => (next_ (bits BinOp.or IntKind.i64 x5 (bits BinOp.and IntKind.i64 x1 c_1), IntKind.i64.wrap (x6 + 1)))) fail_) else (out0_ x5))
theorem I.reachedIn_step3_nat {α γ : Type} (g : α → γ) (x0 : List Int) (x1 : Int) (x5 : Int) (x6 : Int) (next_ : Int × Int → α) (out0_ : Int → α) (fail_ : α) : g (I.reachedIn_step3 x0 x1 x5 x6 next_ out0_ fail_) = I.reachedIn_step3 x0 x1 x5 x6 (fun s => g (next_ s)) (fun d => g (out0_ d)) (g fail_) := by
  unfold I.reachedIn_step3; simp only [apply_cnd g, apply_optC g, apply_sumC g]
noncomputable def I.reachedIn_run3 (x0 : List Int) (x1 : Int) : Nat → Int × Int → Option (Int)
  | 0, _ => none
  | n + 1, s_ => I.reachedIn_step3 x0 x1 s_.1 s_.2 (I.reachedIn_run3 x0 x1 n) (fun d => some d) none
theorem I.reachedIn_L3_run (x0 : List Int) (x1 : Int) (n : Nat) (s_ : Int × Int) (k : X → St → R) : I.reachedIn_L3 n { n := 25, t := [(0, (.ro false (.ints .i64 x0))), (1, (.int .i64 x1)), (5, (.int .i64 s_.1)), (6, (.int .i64 s_.2))], h := [] } k = optC (I.reachedIn_run3 x0 x1 n s_) (fun (r : Int) => k (.exit 0) { n := 25, t := [(5, (.int .i64 r))], h := [] }) none := by
  induction n generalizing s_ with
  | zero => rfl
  | succ n ih =>
    have hu : I.reachedIn_L3 (n + 1) { n := 25, t := [(0, (.ro false (.ints .i64 x0))), (1, (.int .i64 x1)), (5, (.int .i64 s_.1)), (6, (.int .i64 s_.2))], h := [] } k = I.reachedIn_step3 x0 x1 s_.1 s_.2 (fun s_ => I.reachedIn_L3 n { n := 25, t := [(0, (.ro false (.ints .i64 x0))), (1, (.int .i64 x1)), (5, (.int .i64 s_.1)), (6, (.int .i64 s_.2))], h := [] } k) (fun d => k (.exit 0) { n := 25, t := [(5, (.int .i64 d))], h := [] }) none := by
      kernel_rfl
    have hs : (fun s_ : Int × Int => I.reachedIn_L3 n { n := 25, t := [(0, (.ro false (.ints .i64 x0))), (1, (.int .i64 x1)), (5, (.int .i64 s_.1)), (6, (.int .i64 s_.2))], h := [] } k) = fun s_ => optC (I.reachedIn_run3 x0 x1 n s_) (fun (r : Int) => k (.exit 0) { n := 25, t := [(5, (.int .i64 r))], h := [] }) none := funext ih
    rw [hu, hs]
    exact (I.reachedIn_step3_nat (fun o => optC o (fun (r : Int) => k (.exit 0) { n := 25, t := [(5, (.int .i64 r))], h := [] }) none) x0 x1 s_.1 s_.2 (I.reachedIn_run3 x0 x1 n) (fun d => some d) none).symm
noncomputable def I.reachedIn_tree {α : Type} (net : List Int) (set_ : Int) (leaf0_ : Int → α) (fail_ : α) : α :=
  (optC (I.reachedIn_run3 net set_ FUEL (bits BinOp.and IntKind.i64 set_ (IntKind.i64.wrap (0 - set_)), 1)) (fun qy_2 => (leaf0_ qy_2)) fail_)
theorem I.reachedIn_tree_nat {α γ : Type} (g : α → γ) (net : List Int) (set_ : Int) (leaf0_ : Int → α) (fail_ : α) : g (I.reachedIn_tree net set_ leaf0_ fail_) = I.reachedIn_tree net set_ (fun d => g (leaf0_ d)) (g fail_) := by
  unfold I.reachedIn_tree; simp only [apply_cnd g, apply_optC g, apply_sumC g]
noncomputable def I.reachedIn_t (net : List Int) (set_ : Int) : Option (Int) := I.reachedIn_tree net set_ (fun d => some d) none
theorem I.reachedIn_den (net : List Int) (set_ : Int) (κ : V → List E → R) : I.reachedIn_F [.ro false (.ints .i64 net), .int .i64 set_] [] κ = optC (I.reachedIn_t net set_) (fun (r : Int) => κ (.int .i64 r) []) none := by
  have hu : I.reachedIn_F [.ro false (.ints .i64 net), .int .i64 set_] [] κ = I.reachedIn_tree net set_ (fun d => κ (.int .i64 d) []) none := by
    refine Eq.trans (show I.reachedIn_F [.ro false (.ints .i64 net), .int .i64 set_] [] κ = (I.reachedIn_L3 FUEL { n := 25, t := [(0, (.ro false (.ints .i64 net))), (1, (.int .i64 set_)), (5, (.int .i64 (bits BinOp.and IntKind.i64 set_ (IntKind.i64.wrap (0 - set_))))), (6, (.int .i64 1))], h := [] } (I.reachedIn_k3 κ)) by kernel_rfl) ?_
    refine (I.reachedIn_L3_run net set_ FUEL (bits BinOp.and IntKind.i64 set_ (IntKind.i64.wrap (0 - set_)), 1) (I.reachedIn_k3 κ)).trans (optC_congr (fun qy_2 => ?_))
    kernel_rfl
  rw [hu]
  exact (I.reachedIn_tree_nat (fun o => optC o (fun (r : Int) => κ (.int .i64 r) []) none) net set_ (fun d => some d) none).symm
noncomputable def I.reachedIn_s : D.Spec where
  keep := false
  pure := true
  add := true
  ds := [.int .i64, .invalid]
  sp := fun args h κ => match args, h with
    | [.ro false (.ints .i64 net), .int .i64 set_], [] => optC (I.reachedIn_t net set_) (fun (r : Int) => κ (.int .i64 r) []) none
    | _, _ => none
theorem I.reachedIn_ok : SpecOk Try.prog 43 I.reachedIn_s := by
  refine SpecOk.of TDok mixed (T := I.reachedIn_T) ?_ (ann := I.reachedIn_ann) Try.func43 rfl (by decide +kernel) ?_ ?_ ?_ ?_
  · intro p hp
    simp only [I.reachedIn_T, List.mem_cons, List.not_mem_nil, or_false] at hp
    rcases hp with rfl
    · exact I.nextTo_ok
  · intro args h κ r hh
    simp only [I.reachedIn_s] at hh
    split at hh
    · exact (I.reachedIn_den _ _ κ).trans hh
    · cases hh
  · intro args h κ r hh
    simp only [I.reachedIn_s] at hh ⊢
    split at hh
    · exact optC_law2 (F := fun (r : Int) κ => κ (.int .i64 r) []) (fun b κ r hb => ⟨_, _, hb, fun _ => rfl⟩) hh
    · cases hh
  · intro _ args h κ r hh
    simp only [I.reachedIn_s] at hh
    split at hh
    · exact ⟨rfl, fun _ => rfl⟩
    · cases hh
  · intro _ args h κ r hh
    simp only [I.reachedIn_s] at hh
    split at hh
    · rfl
    · cases hh

-- loop.example/guardsonnets/impl.togetherIn
noncomputable def I.togetherIn_T : List (Nat × D.Spec) := [(43, I.reachedIn_s)]
def I.togetherIn_ann : Nat → List Nat × List Nat
  | _ => ([], [])
noncomputable def I.togetherIn_F (args : List V) (h : List E) (κ : V → List E → R) : R := funC TD (tableK I.togetherIn_T) I.togetherIn_ann (drawAny TD (tableP I.togetherIn_T)) FUEL Try.f38 args h κ
noncomputable def I.togetherIn_tree {α : Type} (net : List Int) (set_ : Int) (leaf0_ : Bool → α) (fail_ : α) : α :=
  (bif !set_ == 0 then (optC (I.reachedIn_t net set_) (fun c_1 => (leaf0_ (c_1 == set_))) fail_) else (leaf0_ false))
theorem I.togetherIn_tree_nat {α γ : Type} (g : α → γ) (net : List Int) (set_ : Int) (leaf0_ : Bool → α) (fail_ : α) : g (I.togetherIn_tree net set_ leaf0_ fail_) = I.togetherIn_tree net set_ (fun d => g (leaf0_ d)) (g fail_) := by
  unfold I.togetherIn_tree; simp only [apply_cnd g, apply_optC g, apply_sumC g]
noncomputable def I.togetherIn_t (net : List Int) (set_ : Int) : Option (Bool) := I.togetherIn_tree net set_ (fun d => some d) none
theorem I.togetherIn_den (net : List Int) (set_ : Int) (κ : V → List E → R) : I.togetherIn_F [.ro false (.ints .i64 net), .int .i64 set_] [] κ = optC (I.togetherIn_t net set_) (fun (r : Bool) => κ (.bool r) []) none := by
  have hu : I.togetherIn_F [.ro false (.ints .i64 net), .int .i64 set_] [] κ = I.togetherIn_tree net set_ (fun d => κ (.bool d) []) none := by
    kernel_rfl
  rw [hu]
  exact (I.togetherIn_tree_nat (fun o => optC o (fun (r : Bool) => κ (.bool r) []) none) net set_ (fun d => some d) none).symm
noncomputable def I.togetherIn_s : D.Spec where
  keep := false
  pure := true
  add := true
  ds := [.int .i64, .invalid]
  sp := fun args h κ => match args, h with
    | [.ro false (.ints .i64 net), .int .i64 set_], [] => optC (I.togetherIn_t net set_) (fun (r : Bool) => κ (.bool r) []) none
    | _, _ => none
theorem I.togetherIn_ok : SpecOk Try.prog 38 I.togetherIn_s := by
  refine SpecOk.of TDok mixed (T := I.togetherIn_T) ?_ (ann := I.togetherIn_ann) Try.func38 rfl (by decide +kernel) ?_ ?_ ?_ ?_
  · intro p hp
    simp only [I.togetherIn_T, List.mem_cons, List.not_mem_nil, or_false] at hp
    rcases hp with rfl
    · exact I.reachedIn_ok
  · intro args h κ r hh
    simp only [I.togetherIn_s] at hh
    split at hh
    · exact (I.togetherIn_den _ _ κ).trans hh
    · cases hh
  · intro args h κ r hh
    simp only [I.togetherIn_s] at hh ⊢
    split at hh
    · exact optC_law2 (F := fun (r : Bool) κ => κ (.bool r) []) (fun b κ r hb => ⟨_, _, hb, fun _ => rfl⟩) hh
    · cases hh
  · intro _ args h κ r hh
    simp only [I.togetherIn_s] at hh
    split at hh
    · exact ⟨rfl, fun _ => rfl⟩
    · cases hh
  · intro _ args h κ r hh
    simp only [I.togetherIn_s] at hh
    split at hh
    · rfl
    · cases hh

-- loop.example/guardsonnets/impl.watchIn
noncomputable def I.watchIn_T : List (Nat × D.Spec) := [(37, I.seenIn_s), (27, I.allOf_s)]
def I.watchIn_ann : Nat → List Nat × List Nat
  | _ => ([], [])
noncomputable def I.watchIn_F (args : List V) (h : List E) (κ : V → List E → R) : R := funC TD (tableK I.watchIn_T) I.watchIn_ann (drawAny TD (tableP I.watchIn_T)) FUEL Try.f39 args h κ
noncomputable def I.watchIn_tree {α : Type} (net : List Int) (set_ : Int) (leaf0_ : Bool → α) (fail_ : α) : α :=
  (optC (I.seenIn_t net set_) (fun c_1 => (optC (I.allOf_t net) (fun c_2 => (leaf0_ (c_1 == c_2))) fail_)) fail_)
theorem I.watchIn_tree_nat {α γ : Type} (g : α → γ) (net : List Int) (set_ : Int) (leaf0_ : Bool → α) (fail_ : α) : g (I.watchIn_tree net set_ leaf0_ fail_) = I.watchIn_tree net set_ (fun d => g (leaf0_ d)) (g fail_) := by
  unfold I.watchIn_tree; simp only [apply_cnd g, apply_optC g, apply_sumC g]
noncomputable def I.watchIn_t (net : List Int) (set_ : Int) : Option (Bool) := I.watchIn_tree net set_ (fun d => some d) none
theorem I.watchIn_den (net : List Int) (set_ : Int) (κ : V → List E → R) : I.watchIn_F [.ro false (.ints .i64 net), .int .i64 set_] [] κ = optC (I.watchIn_t net set_) (fun (r : Bool) => κ (.bool r) []) none := by
  have hu : I.watchIn_F [.ro false (.ints .i64 net), .int .i64 set_] [] κ = I.watchIn_tree net set_ (fun d => κ (.bool d) []) none := by
    kernel_rfl
  rw [hu]
  exact (I.watchIn_tree_nat (fun o => optC o (fun (r : Bool) => κ (.bool r) []) none) net set_ (fun d => some d) none).symm
noncomputable def I.watchIn_s : D.Spec where
  keep := false
  pure := true
  add := true
  ds := [.int .i64, .invalid]
  sp := fun args h κ => match args, h with
    | [.ro false (.ints .i64 net), .int .i64 set_], [] => optC (I.watchIn_t net set_) (fun (r : Bool) => κ (.bool r) []) none
    | _, _ => none
theorem I.watchIn_ok : SpecOk Try.prog 39 I.watchIn_s := by
  refine SpecOk.of TDok mixed (T := I.watchIn_T) ?_ (ann := I.watchIn_ann) Try.func39 rfl (by decide +kernel) ?_ ?_ ?_ ?_
  · intro p hp
    simp only [I.watchIn_T, List.mem_cons, List.not_mem_nil, or_false] at hp
    rcases hp with rfl | rfl
    · exact I.seenIn_ok
    · exact I.allOf_ok
  · intro args h κ r hh
    simp only [I.watchIn_s] at hh
    split at hh
    · exact (I.watchIn_den _ _ κ).trans hh
    · cases hh
  · intro args h κ r hh
    simp only [I.watchIn_s] at hh ⊢
    split at hh
    · exact optC_law2 (F := fun (r : Bool) κ => κ (.bool r) []) (fun b κ r hb => ⟨_, _, hb, fun _ => rfl⟩) hh
    · cases hh
  · intro _ args h κ r hh
    simp only [I.watchIn_s] at hh
    split at hh
    · exact ⟨rfl, fun _ => rfl⟩
    · cases hh
  · intro _ args h κ r hh
    simp only [I.watchIn_s] at hh
    split at hh
    · rfl
    · cases hh

-- loop.example/guardsonnets/impl.joinedWatchIn
noncomputable def I.joinedWatchIn_T : List (Nat × D.Spec) := [(38, I.togetherIn_s), (39, I.watchIn_s)]
def I.joinedWatchIn_ann : Nat → List Nat × List Nat
  | _ => ([], [])
noncomputable def I.joinedWatchIn_F (args : List V) (h : List E) (κ : V → List E → R) : R := funC TD (tableK I.joinedWatchIn_T) I.joinedWatchIn_ann (drawAny TD (tableP I.joinedWatchIn_T)) FUEL Try.f28 args h κ
noncomputable def I.joinedWatchIn_tree {α : Type} (net : List Int) (set_ : Int) (leaf0_ : Bool → α) (fail_ : α) : α :=
  (optC (I.togetherIn_t net set_) (fun c_1 => (bif c_1 then (optC (I.watchIn_t net set_) (fun c_2 => (leaf0_ c_2)) fail_) else (leaf0_ false))) fail_)
theorem I.joinedWatchIn_tree_nat {α γ : Type} (g : α → γ) (net : List Int) (set_ : Int) (leaf0_ : Bool → α) (fail_ : α) : g (I.joinedWatchIn_tree net set_ leaf0_ fail_) = I.joinedWatchIn_tree net set_ (fun d => g (leaf0_ d)) (g fail_) := by
  unfold I.joinedWatchIn_tree; simp only [apply_cnd g, apply_optC g, apply_sumC g]
noncomputable def I.joinedWatchIn_t (net : List Int) (set_ : Int) : Option (Bool) := I.joinedWatchIn_tree net set_ (fun d => some d) none
theorem I.joinedWatchIn_den (net : List Int) (set_ : Int) (κ : V → List E → R) : I.joinedWatchIn_F [.ro false (.ints .i64 net), .int .i64 set_] [] κ = optC (I.joinedWatchIn_t net set_) (fun (r : Bool) => κ (.bool r) []) none := by
  have hu : I.joinedWatchIn_F [.ro false (.ints .i64 net), .int .i64 set_] [] κ = I.joinedWatchIn_tree net set_ (fun d => κ (.bool d) []) none := by
    kernel_rfl
  rw [hu]
  exact (I.joinedWatchIn_tree_nat (fun o => optC o (fun (r : Bool) => κ (.bool r) []) none) net set_ (fun d => some d) none).symm
noncomputable def I.joinedWatchIn_s : D.Spec where
  keep := false
  pure := true
  add := true
  ds := [.int .i64, .invalid]
  sp := fun args h κ => match args, h with
    | [.ro false (.ints .i64 net), .int .i64 set_], [] => optC (I.joinedWatchIn_t net set_) (fun (r : Bool) => κ (.bool r) []) none
    | _, _ => none
theorem I.joinedWatchIn_ok : SpecOk Try.prog 28 I.joinedWatchIn_s := by
  refine SpecOk.of TDok mixed (T := I.joinedWatchIn_T) ?_ (ann := I.joinedWatchIn_ann) Try.func28 rfl (by decide +kernel) ?_ ?_ ?_ ?_
  · intro p hp
    simp only [I.joinedWatchIn_T, List.mem_cons, List.not_mem_nil, or_false] at hp
    rcases hp with rfl | rfl
    · exact I.togetherIn_ok
    · exact I.watchIn_ok
  · intro args h κ r hh
    simp only [I.joinedWatchIn_s] at hh
    split at hh
    · exact (I.joinedWatchIn_den _ _ κ).trans hh
    · cases hh
  · intro args h κ r hh
    simp only [I.joinedWatchIn_s] at hh ⊢
    split at hh
    · exact optC_law2 (F := fun (r : Bool) κ => κ (.bool r) []) (fun b κ r hb => ⟨_, _, hb, fun _ => rfl⟩) hh
    · cases hh
  · intro _ args h κ r hh
    simp only [I.joinedWatchIn_s] at hh
    split at hh
    · exact ⟨rfl, fun _ => rfl⟩
    · cases hh
  · intro _ args h κ r hh
    simp only [I.joinedWatchIn_s] at hh
    split at hh
    · rfl
    · cases hh

-- loop.example/guardsonnets/impl.fewerOf
noncomputable def I.fewerOf_T : List (Nat × D.Spec) := []
def I.fewerOf_ann : Nat → List Nat × List Nat
  | _ => ([], [])
noncomputable def I.fewerOf_F (args : List V) (h : List E) (κ : V → List E → R) : R := funC TD (tableK I.fewerOf_T) I.fewerOf_ann (drawAny TD (tableP I.fewerOf_T)) FUEL Try.f29 args h κ
noncomputable def I.fewerOf_tree {α : Type} (fewest : Int) (number : Int) (leaf0_ : Int → α) (fail_ : α) : α :=
  (bif decide (fewest < 0) then (leaf0_ number) else (bif decide (number < fewest) then (leaf0_ number) else (leaf0_ fewest)))
theorem I.fewerOf_tree_nat {α γ : Type} (g : α → γ) (fewest : Int) (number : Int) (leaf0_ : Int → α) (fail_ : α) : g (I.fewerOf_tree fewest number leaf0_ fail_) = I.fewerOf_tree fewest number (fun d => g (leaf0_ d)) (g fail_) := by
  unfold I.fewerOf_tree; simp only [apply_cnd g, apply_optC g, apply_sumC g]
noncomputable def I.fewerOf_t (fewest : Int) (number : Int) : Option (Int) := I.fewerOf_tree fewest number (fun d => some d) none
theorem I.fewerOf_den (fewest : Int) (number : Int) (κ : V → List E → R) : I.fewerOf_F [.int .i64 fewest, .int .i64 number] [] κ = optC (I.fewerOf_t fewest number) (fun (r : Int) => κ (.int .i64 r) []) none := by
  have hu : I.fewerOf_F [.int .i64 fewest, .int .i64 number] [] κ = I.fewerOf_tree fewest number (fun d => κ (.int .i64 d) []) none := by
    kernel_rfl
  rw [hu]
  exact (I.fewerOf_tree_nat (fun o => optC o (fun (r : Int) => κ (.int .i64 r) []) none) fewest number (fun d => some d) none).symm
noncomputable def I.fewerOf_s : D.Spec where
  keep := false
  pure := true
  add := true
  ds := [.invalid, .invalid]
  sp := fun args h κ => match args, h with
    | [.int .i64 fewest, .int .i64 number], [] => optC (I.fewerOf_t fewest number) (fun (r : Int) => κ (.int .i64 r) []) none
    | _, _ => none
theorem I.fewerOf_ok : SpecOk Try.prog 29 I.fewerOf_s := by
  refine SpecOk.of TDok mixed (T := I.fewerOf_T) ?_ (ann := I.fewerOf_ann) Try.func29 rfl (by decide +kernel) ?_ ?_ ?_ ?_
  · intro p hp; cases hp
  · intro args h κ r hh
    simp only [I.fewerOf_s] at hh
    split at hh
    · exact (I.fewerOf_den _ _ κ).trans hh
    · cases hh
  · intro args h κ r hh
    simp only [I.fewerOf_s] at hh ⊢
    split at hh
    · exact optC_law2 (F := fun (r : Int) κ => κ (.int .i64 r) []) (fun b κ r hb => ⟨_, _, hb, fun _ => rfl⟩) hh
    · cases hh
  · intro _ args h κ r hh
    simp only [I.fewerOf_s] at hh
    split at hh
    · exact ⟨rfl, fun _ => rfl⟩
    · cases hh
  · intro _ args h κ r hh
    simp only [I.fewerOf_s] at hh
    split at hh
    · rfl
    · cases hh

-- loop.example/guardsonnets/impl.FewestJoined
noncomputable def I.FewestJoined_T : List (Nat × D.Spec) := [(8, I.NetOk_s), (27, I.allOf_s), (28, I.joinedWatchIn_s), (30, I.sizeOf_s), (29, I.fewerOf_s)]
def I.FewestJoined_ann : Nat → List Nat × List Nat
  | 5 => ([0, 3, 4], [3])
  | _ => ([], [])
noncomputable def I.FewestJoined_F (args : List V) (h : List E) (κ : V → List E → R) : R := funC TD (tableK I.FewestJoined_T) I.FewestJoined_ann (drawAny TD (tableP I.FewestJoined_T)) FUEL Try.f11 args h κ
noncomputable def I.FewestJoined_L5 (n : Nat) (σ : St) (k : X → St → R) : R := iterC 0 (fun σ k => denC TD (tableK I.FewestJoined_T) I.FewestJoined_ann (drawAny TD (tableP I.FewestJoined_T)) 0 FUEL ((findLoop 5 (Try.f11.body.getD .skip)).getD .skip) σ k) [0, 3, 4] [3] n σ k
noncomputable def I.FewestJoined_k5 (κ : V → List E → R) : X → St → R := (afterC TD (tableK I.FewestJoined_T) I.FewestJoined_ann (drawAny TD (tableP I.FewestJoined_T)) 0 FUEL 5 (Try.f11.body.getD .skip) (finC TD 0 Try.f11 κ)).getD (fun _ _ => none)
noncomputable def I.FewestJoined_step5 {α : Type} (x0 : List Int) (x3 : Int) (x4 : Int) (next_ : Int × Int → α) (out0_ : Int → α) (fail_ : α) : α :=
  (optC (I.allOf_t x0) (fun c_2 => (bif decide (x4 ≤ c_2) then (optC (I.joinedWatchIn_t x0 x4) (fun c_3 => (bif c_3 then (optC (I.sizeOf_t x4) (fun c_4 => (optC (I.fewerOf_t x3 c_4) (fun c_5 => (next_ (c_5, IntKind.i64.wrap (x4 + 1)))) fail_)) fail_) else (next_ (x3, IntKind.i64.wrap (x4 + 1))))) fail_) else (out0_ x3))) fail_)
theorem I.FewestJoined_step5_nat {α γ : Type} (g : α → γ) (x0 : List Int) (x3 : Int) (x4 : Int) (next_ : Int × Int → α) (out0_ : Int → α) (fail_ : α) : g (I.FewestJoined_step5 x0 x3 x4 next_ out0_ fail_) = I.FewestJoined_step5 x0 x3 x4 (fun s => g (next_ s)) (fun d => g (out0_ d)) (g fail_) := by
  unfold I.FewestJoined_step5; simp only [apply_cnd g, apply_optC g, apply_sumC g]
noncomputable def I.FewestJoined_run5 (x0 : List Int) : Nat → Int × Int → Option (Int)
  | 0, _ => none
  | n + 1, s_ => I.FewestJoined_step5 x0 s_.1 s_.2 (I.FewestJoined_run5 x0 n) (fun d => some d) none
theorem I.FewestJoined_L5_run (x0 : List Int) (n : Nat) (s_ : Int × Int) (k : X → St → R) : I.FewestJoined_L5 n { n := 22, t := [(0, (.ro false (.ints .i64 x0))), (3, (.int .i64 s_.1)), (4, (.int .i64 s_.2))], h := [] } k = optC (I.FewestJoined_run5 x0 n s_) (fun (r : Int) => k (.exit 0) { n := 22, t := [(3, (.int .i64 r))], h := [] }) none := by
  induction n generalizing s_ with
  | zero => rfl
  | succ n ih =>
    have hu : I.FewestJoined_L5 (n + 1) { n := 22, t := [(0, (.ro false (.ints .i64 x0))), (3, (.int .i64 s_.1)), (4, (.int .i64 s_.2))], h := [] } k = I.FewestJoined_step5 x0 s_.1 s_.2 (fun s_ => I.FewestJoined_L5 n { n := 22, t := [(0, (.ro false (.ints .i64 x0))), (3, (.int .i64 s_.1)), (4, (.int .i64 s_.2))], h := [] } k) (fun d => k (.exit 0) { n := 22, t := [(3, (.int .i64 d))], h := [] }) none := by
      kernel_rfl
    have hs : (fun s_ : Int × Int => I.FewestJoined_L5 n { n := 22, t := [(0, (.ro false (.ints .i64 x0))), (3, (.int .i64 s_.1)), (4, (.int .i64 s_.2))], h := [] } k) = fun s_ => optC (I.FewestJoined_run5 x0 n s_) (fun (r : Int) => k (.exit 0) { n := 22, t := [(3, (.int .i64 r))], h := [] }) none := funext ih
    rw [hu, hs]
    exact (I.FewestJoined_step5_nat (fun o => optC o (fun (r : Int) => k (.exit 0) { n := 22, t := [(3, (.int .i64 r))], h := [] }) none) x0 s_.1 s_.2 (I.FewestJoined_run5 x0 n) (fun d => some d) none).symm
noncomputable def I.FewestJoined_tree {α : Type} (net : List Int) (leaf0_ : Int → α) (fail_ : α) : α :=
  (optC (I.NetOk_t net) (fun c_1 => (bif !c_1 then (leaf0_ (-1)) else (optC (I.FewestJoined_run5 net FUEL (-1, 0)) (fun qy_6 => (leaf0_ qy_6)) fail_))) fail_)
theorem I.FewestJoined_tree_nat {α γ : Type} (g : α → γ) (net : List Int) (leaf0_ : Int → α) (fail_ : α) : g (I.FewestJoined_tree net leaf0_ fail_) = I.FewestJoined_tree net (fun d => g (leaf0_ d)) (g fail_) := by
  unfold I.FewestJoined_tree; simp only [apply_cnd g, apply_optC g, apply_sumC g]
noncomputable def I.FewestJoined_t (net : List Int) : Option (Int) := I.FewestJoined_tree net (fun d => some d) none
theorem I.FewestJoined_den (net : List Int) (κ : V → List E → R) : I.FewestJoined_F [.ro false (.ints .i64 net)] [] κ = optC (I.FewestJoined_t net) (fun (r : Int) => κ (.int .i64 r) []) none := by
  have hu : I.FewestJoined_F [.ro false (.ints .i64 net)] [] κ = I.FewestJoined_tree net (fun d => κ (.int .i64 d) []) none := by
    refine Eq.trans (show I.FewestJoined_F [.ro false (.ints .i64 net)] [] κ = (optC (I.NetOk_t net) (fun c_1 => (bif !c_1 then (κ (.int .i64 (-1)) []) else (I.FewestJoined_L5 FUEL { n := 22, t := [(0, (.ro false (.ints .i64 net))), (3, (.int .i64 (-1))), (4, (.int .i64 0))], h := [] } (I.FewestJoined_k5 κ)))) none) by kernel_rfl) ?_
    refine optC_congr (fun c_1 => ?_)
    refine cnd_congr ?_ ?_
    · kernel_rfl
    · refine (I.FewestJoined_L5_run net FUEL (-1, 0) (I.FewestJoined_k5 κ)).trans (optC_congr (fun qy_6 => ?_))
      kernel_rfl
  rw [hu]
  exact (I.FewestJoined_tree_nat (fun o => optC o (fun (r : Int) => κ (.int .i64 r) []) none) net (fun d => some d) none).symm
noncomputable def I.FewestJoined_s : D.Spec where
  keep := false
  pure := true
  add := true
  ds := [.int .i64]
  sp := fun args h κ => match args, h with
    | [.ro false (.ints .i64 net)], [] => optC (I.FewestJoined_t net) (fun (r : Int) => κ (.int .i64 r) []) none
    | _, _ => none
theorem I.FewestJoined_ok : SpecOk Try.prog 11 I.FewestJoined_s := by
  refine SpecOk.of TDok mixed (T := I.FewestJoined_T) ?_ (ann := I.FewestJoined_ann) Try.func11 rfl (by decide +kernel) ?_ ?_ ?_ ?_
  · intro p hp
    simp only [I.FewestJoined_T, List.mem_cons, List.not_mem_nil, or_false] at hp
    rcases hp with rfl | rfl | rfl | rfl | rfl
    · exact I.NetOk_ok
    · exact I.allOf_ok
    · exact I.joinedWatchIn_ok
    · exact I.sizeOf_ok
    · exact I.fewerOf_ok
  · intro args h κ r hh
    simp only [I.FewestJoined_s] at hh
    split at hh
    · exact (I.FewestJoined_den _ κ).trans hh
    · cases hh
  · intro args h κ r hh
    simp only [I.FewestJoined_s] at hh ⊢
    split at hh
    · exact optC_law2 (F := fun (r : Int) κ => κ (.int .i64 r) []) (fun b κ r hb => ⟨_, _, hb, fun _ => rfl⟩) hh
    · cases hh
  · intro _ args h κ r hh
    simp only [I.FewestJoined_s] at hh
    split at hh
    · exact ⟨rfl, fun _ => rfl⟩
    · cases hh
  · intro _ args h κ r hh
    simp only [I.FewestJoined_s] at hh
    split at hh
    · rfl
    · cases hh

-- loop.example/guardsonnets/laws.FnMostLeaves
noncomputable def L.FnMostLeaves_T : List (Nat × D.Spec) := [(5, S.DrawMostLeaves_s), (6, I.MostLeaves_s), (7, S.MostLeaves_s), (8, I.NetOk_s), (9, L.alive_s), (10, I.PartMany_s), (11, I.FewestJoined_s)]
def L.FnMostLeaves_ann : Nat → List Nat × List Nat
  | _ => ([], [])
noncomputable def L.FnMostLeaves_F (args : List V) (h : List E) (κ : V → List E → R) : R := funC TD (tableK L.FnMostLeaves_T) L.FnMostLeaves_ann (drawAny TD (tableP L.FnMostLeaves_T)) FUEL Try.f3 args h κ
noncomputable def L.FnMostLeaves_tree {α : Type} (code : List Int) (leaf0_ : Bool → α) (fail_ : α) : α :=
  (bif decide ((↑code.length : Int) > 1048576) then (leaf0_ true) else (optC (S.DrawMostLeaves_t code) (fun c_1 => (optC (I.MostLeaves_t c_1) (fun c_2 => (optC (S.MostLeaves_t c_1) (fun c_3 => (bif !c_2 == c_3 then (leaf0_ false) else (optC (I.NetOk_t c_1) (fun c_4 => (bif !c_4 then (bif c_2 == -1 then (optC (L.alive_t) (fun c_5 => (leaf0_ c_5)) fail_) else (leaf0_ false)) else (optC (I.PartMany_t c_1) (fun c_6 => (bif !c_6 == 1 then (leaf0_ (c_2 == -1)) else (bif (↑c_1.length : Int) == 1 then (leaf0_ (c_2 == -1)) else (bif decide (c_2 ≥ 2) then (bif (↑c_1.length : Int) == 2 then (leaf0_ true) else (optC (I.FewestJoined_t c_1) (fun c_7 => (leaf0_ (c_2 == IntKind.i64.wrap ((↑c_1.length : Int) - c_7)))) fail_)) else (leaf0_ false))))) fail_))) fail_))) fail_)) fail_)) fail_))
theorem L.FnMostLeaves_tree_nat {α γ : Type} (g : α → γ) (code : List Int) (leaf0_ : Bool → α) (fail_ : α) : g (L.FnMostLeaves_tree code leaf0_ fail_) = L.FnMostLeaves_tree code (fun d => g (leaf0_ d)) (g fail_) := by
  unfold L.FnMostLeaves_tree; simp only [apply_cnd g, apply_optC g, apply_sumC g]
noncomputable def L.FnMostLeaves_t (code : List Int) : Option (Bool) := L.FnMostLeaves_tree code (fun d => some d) none
theorem L.FnMostLeaves_den (code : List Int) (κ : V → List E → R) : L.FnMostLeaves_F [.ro true (.ints .u8 code)] [] κ = optC (L.FnMostLeaves_t code) (fun (r : Bool) => κ (.bool r) []) none := by
  have hu : L.FnMostLeaves_F [.ro true (.ints .u8 code)] [] κ = L.FnMostLeaves_tree code (fun d => κ (.bool d) []) none := by
    kernel_rfl
  rw [hu]
  exact (L.FnMostLeaves_tree_nat (fun o => optC o (fun (r : Bool) => κ (.bool r) []) none) code (fun d => some d) none).symm
noncomputable def L.FnMostLeaves_s : D.Spec where
  keep := true
  pure := true
  add := true
  ds := [.int .u8]
  sp := fun args h κ => match args, h with
    | [.ro true (.ints .u8 code)], [] => optC (L.FnMostLeaves_t code) (fun (r : Bool) => κ (.bool r) []) none
    | _, _ => none
theorem L.FnMostLeaves_ok : SpecOk Try.prog 3 L.FnMostLeaves_s := by
  refine SpecOk.of TDok mixed (T := L.FnMostLeaves_T) ?_ (ann := L.FnMostLeaves_ann) Try.func3 rfl (by decide +kernel) ?_ ?_ ?_ ?_
  · intro p hp
    simp only [L.FnMostLeaves_T, List.mem_cons, List.not_mem_nil, or_false] at hp
    rcases hp with rfl | rfl | rfl | rfl | rfl | rfl | rfl
    · exact S.DrawMostLeaves_ok
    · exact I.MostLeaves_ok
    · exact S.MostLeaves_ok
    · exact I.NetOk_ok
    · exact L.alive_ok
    · exact I.PartMany_ok
    · exact I.FewestJoined_ok
  · intro args h κ r hh
    simp only [L.FnMostLeaves_s] at hh
    split at hh
    · exact (L.FnMostLeaves_den _ κ).trans hh
    · cases hh
  · intro args h κ r hh
    simp only [L.FnMostLeaves_s] at hh ⊢
    split at hh
    · exact optC_law2 (F := fun (r : Bool) κ => κ (.bool r) []) (fun b κ r hb => ⟨_, _, hb, fun _ => rfl⟩) hh
    · cases hh
  · intro _ args h κ r hh
    simp only [L.FnMostLeaves_s] at hh
    split at hh
    · exact ⟨rfl, fun _ => rfl⟩
    · cases hh
  · intro _ args h κ r hh
    simp only [L.FnMostLeaves_s] at hh
    split at hh
    · rfl
    · cases hh

-- loop.example/guardsonnets/laws.toIntS
noncomputable def L.toIntS_T : List (Nat × D.Spec) := []
def L.toIntS_ann : Nat → List Nat × List Nat
  | 3 => ([0, 3, 4], [3])
  | _ => ([], [])
noncomputable def L.toIntS_F (args : List V) (h : List E) (κ : V → List E → R) : R := funC TD (tableK L.toIntS_T) L.toIntS_ann (drawAny TD (tableP L.toIntS_T)) FUEL Try.f12 args h κ
noncomputable def L.toIntS_L3 (n : Nat) (σ : St) (k : X → St → R) : R := iterC 0 (fun σ k => denC TD (tableK L.toIntS_T) L.toIntS_ann (drawAny TD (tableP L.toIntS_T)) 0 FUEL ((findLoop 3 (Try.f12.body.getD .skip)).getD .skip) σ k) [0, 3, 4] [3] n σ k
noncomputable def L.toIntS_k3 (κ : V → List E → R) : X → St → R := (afterC TD (tableK L.toIntS_T) L.toIntS_ann (drawAny TD (tableP L.toIntS_T)) 0 FUEL 3 (Try.f12.body.getD .skip) (finC TD 0 Try.f12 κ)).getD (fun _ _ => none)
noncomputable def L.toIntS_step3 {α : Type} (x0 : List Int) (x4 : Int) (r0 : List Int) (next_ : Int × (List Int) → α) (out0_ : List Int → α) (fail_ : α) : α :=
  (bif decide (x4 < (↑x0.length : Int)) then (bif decide (0 ≤ x4) && decide (x4 < (↑x0.length : Int)) then (bif decide (0 ≤ x4) && decide (x4 < (↑r0.length : Int)) then (bif decide (x4.toNat < r0.length) then (next_ (IntKind.i64.wrap (x4 + 1), r0.set x4.toNat (eli x0 x4.toNat))) else fail_) else fail_) else fail_) else (out0_ r0))
theorem L.toIntS_step3_nat {α γ : Type} (g : α → γ) (x0 : List Int) (x4 : Int) (r0 : List Int) (next_ : Int × (List Int) → α) (out0_ : List Int → α) (fail_ : α) : g (L.toIntS_step3 x0 x4 r0 next_ out0_ fail_) = L.toIntS_step3 x0 x4 r0 (fun s => g (next_ s)) (fun d => g (out0_ d)) (g fail_) := by
  unfold L.toIntS_step3; simp only [apply_cnd g, apply_optC g, apply_sumC g]
noncomputable def L.toIntS_run3 (x0 : List Int) : Nat → Int × (List Int) → Option (List Int)
  | 0, _ => none
  | n + 1, s_ => L.toIntS_step3 x0 s_.1 s_.2 (L.toIntS_run3 x0 n) (fun d => some d) none
theorem L.toIntS_L3_run (x0 : List Int) (n : Nat) (s_ : Int × (List Int)) (k : X → St → R) : L.toIntS_L3 n { n := 22, t := [(0, (.ro false (.ints .i64 x0))), (3, (.own 0)), (4, (.int .i64 s_.1))], h := [.row (.ints .i64 s_.2)] } k = optC (L.toIntS_run3 x0 n s_) (fun (r : List Int) => k (.exit 0) { n := 22, t := [(3, (.own 0))], h := [.row (.ints .i64 r)] }) none := by
  induction n generalizing s_ with
  | zero => rfl
  | succ n ih =>
    have hu : L.toIntS_L3 (n + 1) { n := 22, t := [(0, (.ro false (.ints .i64 x0))), (3, (.own 0)), (4, (.int .i64 s_.1))], h := [.row (.ints .i64 s_.2)] } k = L.toIntS_step3 x0 s_.1 s_.2 (fun s_ => L.toIntS_L3 n { n := 22, t := [(0, (.ro false (.ints .i64 x0))), (3, (.own 0)), (4, (.int .i64 s_.1))], h := [.row (.ints .i64 s_.2)] } k) (fun d => k (.exit 0) { n := 22, t := [(3, (.own 0))], h := [.row (.ints .i64 d)] }) none := by
      kernel_rfl
    have hs : (fun s_ : Int × (List Int) => L.toIntS_L3 n { n := 22, t := [(0, (.ro false (.ints .i64 x0))), (3, (.own 0)), (4, (.int .i64 s_.1))], h := [.row (.ints .i64 s_.2)] } k) = fun s_ => optC (L.toIntS_run3 x0 n s_) (fun (r : List Int) => k (.exit 0) { n := 22, t := [(3, (.own 0))], h := [.row (.ints .i64 r)] }) none := funext ih
    rw [hu, hs]
    exact (L.toIntS_step3_nat (fun o => optC o (fun (r : List Int) => k (.exit 0) { n := 22, t := [(3, (.own 0))], h := [.row (.ints .i64 r)] }) none) x0 s_.1 s_.2 (L.toIntS_run3 x0 n) (fun d => some d) none).symm
noncomputable def L.toIntS_tree {α : Type} (a : List Int) (leaf0_ : List Int → α) (fail_ : α) : α :=
  (bif small (↑a.length : Int).toNat && true then (optC (L.toIntS_run3 a FUEL (0, List.replicate (↑a.length : Int).toNat 0)) (fun qy_1 => (leaf0_ qy_1)) fail_) else fail_)
theorem L.toIntS_tree_nat {α γ : Type} (g : α → γ) (a : List Int) (leaf0_ : List Int → α) (fail_ : α) : g (L.toIntS_tree a leaf0_ fail_) = L.toIntS_tree a (fun d => g (leaf0_ d)) (g fail_) := by
  unfold L.toIntS_tree; simp only [apply_cnd g, apply_optC g, apply_sumC g]
noncomputable def L.toIntS_t (a : List Int) : Option (List Int) := L.toIntS_tree a (fun d => some d) none
theorem L.toIntS_den (a : List Int) (κ : V → List E → R) : L.toIntS_F [.ro false (.ints .i64 a)] [] κ = optC (L.toIntS_t a) (fun (r : List Int) => κ (.own 0) [.row (.ints .i64 r)]) none := by
  have hu : L.toIntS_F [.ro false (.ints .i64 a)] [] κ = L.toIntS_tree a (fun d => κ (.own 0) [.row (.ints .i64 d)]) none := by
    refine Eq.trans (show L.toIntS_F [.ro false (.ints .i64 a)] [] κ = (bif small (↑a.length : Int).toNat && true then (L.toIntS_L3 FUEL { n := 22, t := [(0, (.ro false (.ints .i64 a))), (3, (.own 0)), (4, (.int .i64 0))], h := [.row (.ints .i64 (List.replicate (↑a.length : Int).toNat 0))] } (L.toIntS_k3 κ)) else none) by kernel_rfl) ?_
    refine cnd_congr ?_ ?_
    · refine (L.toIntS_L3_run a FUEL (0, List.replicate (↑a.length : Int).toNat 0) (L.toIntS_k3 κ)).trans (optC_congr (fun qy_1 => ?_))
      kernel_rfl
    · kernel_rfl
  rw [hu]
  exact (L.toIntS_tree_nat (fun o => optC o (fun (r : List Int) => κ (.own 0) [.row (.ints .i64 r)]) none) a (fun d => some d) none).symm
noncomputable def L.toIntS_s : D.Spec where
  keep := false
  pure := false
  add := true
  ds := [.int .i64]
  sp := fun args h κ => match args, h with
    | [.ro false (.ints .i64 a)], [] => optC (L.toIntS_t a) (fun (r : List Int) => κ (.own 0) [.row (.ints .i64 r)]) none
    | _, _ => none
theorem L.toIntS_ok : SpecOk Try.prog 12 L.toIntS_s := by
  refine SpecOk.of TDok mixed (T := L.toIntS_T) ?_ (ann := L.toIntS_ann) Try.func12 rfl (by decide +kernel) ?_ ?_ ?_ ?_
  · intro p hp; cases hp
  · intro args h κ r hh
    simp only [L.toIntS_s] at hh
    split at hh
    · exact (L.toIntS_den _ κ).trans hh
    · cases hh
  · intro args h κ r hh
    simp only [L.toIntS_s] at hh ⊢
    split at hh
    · exact optC_law2 (F := fun (r : List Int) κ => κ (.own 0) [.row (.ints .i64 r)]) (fun b κ r hb => ⟨_, _, hb, fun _ => rfl⟩) hh
    · cases hh
  · intro hh; cases hh
  · intro _ args h κ r hh
    simp only [L.toIntS_s] at hh
    split at hh
    · rfl
    · cases hh

-- loop.example/guardsonnets/laws.eqIntS
noncomputable def L.eqIntS_T : List (Nat × D.Spec) := []
def L.eqIntS_ann : Nat → List Nat × List Nat
  | 4 => ([0, 1, 5], [4])
  | _ => ([], [])
noncomputable def L.eqIntS_F (args : List V) (h : List E) (κ : V → List E → R) : R := funC TD (tableK L.eqIntS_T) L.eqIntS_ann (drawAny TD (tableP L.eqIntS_T)) FUEL Try.f13 args h κ
noncomputable def L.eqIntS_L4 (n : Nat) (σ : St) (k : X → St → R) : R := iterC 0 (fun σ k => denC TD (tableK L.eqIntS_T) L.eqIntS_ann (drawAny TD (tableP L.eqIntS_T)) 0 FUEL ((findLoop 4 (Try.f13.body.getD .skip)).getD .skip) σ k) [0, 1, 5] [4] n σ k
noncomputable def L.eqIntS_k4 (κ : V → List E → R) : X → St → R := (afterC TD (tableK L.eqIntS_T) L.eqIntS_ann (drawAny TD (tableP L.eqIntS_T)) 0 FUEL 4 (Try.f13.body.getD .skip) (finC TD 0 Try.f13 κ)).getD (fun _ _ => none)
noncomputable def L.eqIntS_step4 {α : Type} (x0 : List Int) (x1 : List Int) (x5 : Int) (next_ : Int → α) (out0_ : Bool → α) (out1_ : Unit → α) (fail_ : α) : α :=
  (bif decide (x5 < (↑x0.length : Int)) then (bif decide (0 ≤ x5) && decide (x5 < (↑x0.length : Int)) then (bif decide (0 ≤ x5) && decide (x5 < (↑x1.length : Int)) then (bif !eli x0 x5.toNat == eli x1 x5.toNat then (out0_ false) else (next_ (IntKind.i64.wrap (x5 + 1)))) else fail_) else fail_) else (out1_ ()))
theorem L.eqIntS_step4_nat {α γ : Type} (g : α → γ) (x0 : List Int) (x1 : List Int) (x5 : Int) (next_ : Int → α) (out0_ : Bool → α) (out1_ : Unit → α) (fail_ : α) : g (L.eqIntS_step4 x0 x1 x5 next_ out0_ out1_ fail_) = L.eqIntS_step4 x0 x1 x5 (fun s => g (next_ s)) (fun d => g (out0_ d)) (fun d => g (out1_ d)) (g fail_) := by
  unfold L.eqIntS_step4; simp only [apply_cnd g, apply_optC g, apply_sumC g]
noncomputable def L.eqIntS_run4 (x0 : List Int) (x1 : List Int) : Nat → Int → Option ((Bool) ⊕ (Unit))
  | 0, _ => none
  | n + 1, s_ => L.eqIntS_step4 x0 x1 s_ (L.eqIntS_run4 x0 x1 n) (fun d => some ((Sum.inl d))) (fun d => some ((Sum.inr d))) none
theorem L.eqIntS_L4_run (x0 : List Int) (x1 : List Int) (n : Nat) (s_ : Int) (k : X → St → R) : L.eqIntS_L4 n { n := 26, t := [(0, (.ro false (.ints .i64 x0))), (1, (.ro false (.ints .i64 x1))), (5, (.int .i64 s_))], h := [] } k = optC (L.eqIntS_run4 x0 x1 n s_) (fun (r : (Bool) ⊕ (Unit)) => (sumC r (fun (r : Bool) => k (.ret) { n := 26, t := [(4, (.bool r))], h := [] }) (fun (r : Unit) => k (.exit 0) { n := 26, t := [(4, .junk)], h := [] }))) none := by
  induction n generalizing s_ with
  | zero => rfl
  | succ n ih =>
    have hu : L.eqIntS_L4 (n + 1) { n := 26, t := [(0, (.ro false (.ints .i64 x0))), (1, (.ro false (.ints .i64 x1))), (5, (.int .i64 s_))], h := [] } k = L.eqIntS_step4 x0 x1 s_ (fun s_ => L.eqIntS_L4 n { n := 26, t := [(0, (.ro false (.ints .i64 x0))), (1, (.ro false (.ints .i64 x1))), (5, (.int .i64 s_))], h := [] } k) (fun d => k (.ret) { n := 26, t := [(4, (.bool d))], h := [] }) (fun d => k (.exit 0) { n := 26, t := [(4, .junk)], h := [] }) none := by
      kernel_rfl
    have hs : (fun s_ : Int => L.eqIntS_L4 n { n := 26, t := [(0, (.ro false (.ints .i64 x0))), (1, (.ro false (.ints .i64 x1))), (5, (.int .i64 s_))], h := [] } k) = fun s_ => optC (L.eqIntS_run4 x0 x1 n s_) (fun (r : (Bool) ⊕ (Unit)) => (sumC r (fun (r : Bool) => k (.ret) { n := 26, t := [(4, (.bool r))], h := [] }) (fun (r : Unit) => k (.exit 0) { n := 26, t := [(4, .junk)], h := [] }))) none := funext ih
    rw [hu, hs]
    exact (L.eqIntS_step4_nat (fun o => optC o (fun (r : (Bool) ⊕ (Unit)) => (sumC r (fun (r : Bool) => k (.ret) { n := 26, t := [(4, (.bool r))], h := [] }) (fun (r : Unit) => k (.exit 0) { n := 26, t := [(4, .junk)], h := [] }))) none) x0 x1 s_ (L.eqIntS_run4 x0 x1 n) (fun d => some ((Sum.inl d))) (fun d => some ((Sum.inr d))) none).symm
noncomputable def L.eqIntS_tree {α : Type} (a : List Int) (b_ : List Int) (leaf0_ : Bool → α) (fail_ : α) : α :=
  (bif !(↑a.length : Int) == (↑b_.length : Int) then (leaf0_ false) else (optC (L.eqIntS_run4 a b_ FUEL 0) (fun qy_1 => (sumC qy_1 (fun (qy_1 : Bool) => (leaf0_ qy_1)) (fun (qy_1 : Unit) => (leaf0_ true)))) fail_))
theorem L.eqIntS_tree_nat {α γ : Type} (g : α → γ) (a : List Int) (b_ : List Int) (leaf0_ : Bool → α) (fail_ : α) : g (L.eqIntS_tree a b_ leaf0_ fail_) = L.eqIntS_tree a b_ (fun d => g (leaf0_ d)) (g fail_) := by
  unfold L.eqIntS_tree; simp only [apply_cnd g, apply_optC g, apply_sumC g]
noncomputable def L.eqIntS_t (a : List Int) (b_ : List Int) : Option (Bool) := L.eqIntS_tree a b_ (fun d => some d) none
theorem L.eqIntS_den (a : List Int) (b_ : List Int) (κ : V → List E → R) : L.eqIntS_F [.ro false (.ints .i64 a), .ro false (.ints .i64 b_)] [] κ = optC (L.eqIntS_t a b_) (fun (r : Bool) => κ (.bool r) []) none := by
  have hu : L.eqIntS_F [.ro false (.ints .i64 a), .ro false (.ints .i64 b_)] [] κ = L.eqIntS_tree a b_ (fun d => κ (.bool d) []) none := by
    refine Eq.trans (show L.eqIntS_F [.ro false (.ints .i64 a), .ro false (.ints .i64 b_)] [] κ = (bif !(↑a.length : Int) == (↑b_.length : Int) then (κ (.bool false) []) else (L.eqIntS_L4 FUEL { n := 26, t := [(0, (.ro false (.ints .i64 a))), (1, (.ro false (.ints .i64 b_))), (5, (.int .i64 0))], h := [] } (L.eqIntS_k4 κ))) by kernel_rfl) ?_
    refine cnd_congr ?_ ?_
    · kernel_rfl
    · refine (L.eqIntS_L4_run a b_ FUEL 0 (L.eqIntS_k4 κ)).trans (optC_congr (fun qy_1 => ?_))
      rcases qy_1 with qy_1 | qy_1
      · kernel_rfl
      · kernel_rfl
  rw [hu]
  exact (L.eqIntS_tree_nat (fun o => optC o (fun (r : Bool) => κ (.bool r) []) none) a b_ (fun d => some d) none).symm
noncomputable def L.eqIntS_s : D.Spec where
  keep := false
  pure := true
  add := true
  ds := [.int .i64, .int .i64]
  sp := fun args h κ => match args, h with
    | [.ro false (.ints .i64 a), .ro false (.ints .i64 b_)], [] => optC (L.eqIntS_t a b_) (fun (r : Bool) => κ (.bool r) []) none
    | _, _ => none
theorem L.eqIntS_ok : SpecOk Try.prog 13 L.eqIntS_s := by
  refine SpecOk.of TDok mixed (T := L.eqIntS_T) ?_ (ann := L.eqIntS_ann) Try.func13 rfl (by decide +kernel) ?_ ?_ ?_ ?_
  · intro p hp; cases hp
  · intro args h κ r hh
    simp only [L.eqIntS_s] at hh
    split at hh
    · exact (L.eqIntS_den _ _ κ).trans hh
    · cases hh
  · intro args h κ r hh
    simp only [L.eqIntS_s] at hh ⊢
    split at hh
    · exact optC_law2 (F := fun (r : Bool) κ => κ (.bool r) []) (fun b κ r hb => ⟨_, _, hb, fun _ => rfl⟩) hh
    · cases hh
  · intro _ args h κ r hh
    simp only [L.eqIntS_s] at hh
    split at hh
    · exact ⟨rfl, fun _ => rfl⟩
    · cases hh
  · intro _ args h κ r hh
    simp only [L.eqIntS_s] at hh
    split at hh
    · rfl
    · cases hh

-- loop.example/guardsonnets/laws.FnExactMostLeaves
noncomputable def L.FnExactMostLeaves_T : List (Nat × D.Spec) := [(12, L.toIntS_s), (7, S.MostLeaves_s), (6, I.MostLeaves_s), (13, L.eqIntS_s)]
def L.FnExactMostLeaves_ann : Nat → List Nat × List Nat
  | _ => ([], [])
noncomputable def L.FnExactMostLeaves_F (args : List V) (h : List E) (κ : V → List E → R) : R := funC TD (tableK L.FnExactMostLeaves_T) L.FnExactMostLeaves_ann (drawAny TD (tableP L.FnExactMostLeaves_T)) FUEL Try.f4 args h κ
noncomputable def L.FnExactMostLeaves_tree {α : Type} (aNet : List Int) (leaf0_ : Bool → α) (fail_ : α) : α :=
  (bif decide ((↑aNet.length : Int) > 1048576) then (leaf0_ true) else (optC (L.toIntS_t aNet) (fun c_1 => (optC (S.MostLeaves_t c_1) (fun c_2 => (optC (L.toIntS_t aNet) (fun c_3 => (optC (I.MostLeaves_t c_3) (fun c_4 => (bif !c_4 == c_2 then (leaf0_ false) else (optC (L.toIntS_t aNet) (fun c_5 => (optC (L.eqIntS_t c_3 c_5) (fun c_6 => (bif !c_6 then (leaf0_ false) else (leaf0_ true))) fail_)) fail_))) fail_)) fail_)) fail_)) fail_))
theorem L.FnExactMostLeaves_tree_nat {α γ : Type} (g : α → γ) (aNet : List Int) (leaf0_ : Bool → α) (fail_ : α) : g (L.FnExactMostLeaves_tree aNet leaf0_ fail_) = L.FnExactMostLeaves_tree aNet (fun d => g (leaf0_ d)) (g fail_) := by
  unfold L.FnExactMostLeaves_tree; simp only [apply_cnd g, apply_optC g, apply_sumC g]
noncomputable def L.FnExactMostLeaves_t (aNet : List Int) : Option (Bool) := L.FnExactMostLeaves_tree aNet (fun d => some d) none
theorem L.FnExactMostLeaves_den (aNet : List Int) (κ : V → List E → R) : L.FnExactMostLeaves_F [.ro true (.ints .i64 aNet)] [] κ = optC (L.FnExactMostLeaves_t aNet) (fun (r : Bool) => κ (.bool r) []) none := by
  have hu : L.FnExactMostLeaves_F [.ro true (.ints .i64 aNet)] [] κ = L.FnExactMostLeaves_tree aNet (fun d => κ (.bool d) []) none := by
    kernel_rfl
  rw [hu]
  exact (L.FnExactMostLeaves_tree_nat (fun o => optC o (fun (r : Bool) => κ (.bool r) []) none) aNet (fun d => some d) none).symm
noncomputable def L.FnExactMostLeaves_s : D.Spec where
  keep := true
  pure := true
  add := true
  ds := [.int .i64]
  sp := fun args h κ => match args, h with
    | [.ro true (.ints .i64 aNet)], [] => optC (L.FnExactMostLeaves_t aNet) (fun (r : Bool) => κ (.bool r) []) none
    | _, _ => none
theorem L.FnExactMostLeaves_ok : SpecOk Try.prog 4 L.FnExactMostLeaves_s := by
  refine SpecOk.of TDok mixed (T := L.FnExactMostLeaves_T) ?_ (ann := L.FnExactMostLeaves_ann) Try.func4 rfl (by decide +kernel) ?_ ?_ ?_ ?_
  · intro p hp
    simp only [L.FnExactMostLeaves_T, List.mem_cons, List.not_mem_nil, or_false] at hp
    rcases hp with rfl | rfl | rfl | rfl
    · exact L.toIntS_ok
    · exact S.MostLeaves_ok
    · exact I.MostLeaves_ok
    · exact L.eqIntS_ok
  · intro args h κ r hh
    simp only [L.FnExactMostLeaves_s] at hh
    split at hh
    · exact (L.FnExactMostLeaves_den _ κ).trans hh
    · cases hh
  · intro args h κ r hh
    simp only [L.FnExactMostLeaves_s] at hh ⊢
    split at hh
    · exact optC_law2 (F := fun (r : Bool) κ => κ (.bool r) []) (fun b κ r hb => ⟨_, _, hb, fun _ => rfl⟩) hh
    · cases hh
  · intro _ args h κ r hh
    simp only [L.FnExactMostLeaves_s] at hh
    split at hh
    · exact ⟨rfl, fun _ => rfl⟩
    · cases hh
  · intro _ args h κ r hh
    simp only [L.FnExactMostLeaves_s] at hh
    split at hh
    · rfl
    · cases hh


end Go.Proofs.Ytlamlnmeaolpmaa
