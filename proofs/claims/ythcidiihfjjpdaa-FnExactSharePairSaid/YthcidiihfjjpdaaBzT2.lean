/- Twins of the translated functions, with their proofs. Conditions: none. -/
import Derived.Test.YthcidiihfjjpdaaBzT1
set_option linter.unusedVariables false
set_option linter.unusedSimpArgs false
set_option linter.unusedSectionVars false
namespace Go.Proofs.Ythcidiihfjjpdaa
open D Go.RowKit
-- loop.example/guardsonnets/spec.ShareRow
noncomputable def S.ShareRow_T : List (Nat × D.Spec) := [(49, S.NetOk_s), (64, S.l15Grow_s)]
def S.ShareRow_ann : Nat → List Nat × List Nat
  | 3 => ([0, 3, 4], [3])
  | _ => ([], [])
noncomputable def S.ShareRow_F (args : List V) (h : List E) (κ : V → List E → R) : R := funC TD (tableK S.ShareRow_T) S.ShareRow_ann (drawOk TD (tableP S.ShareRow_T)) FUEL Try.f32 args h κ
noncomputable def S.ShareRow_L3 (n : Nat) (σ : St) (k : X → St → R) : R := iterC 0 (fun σ k => denC TD (tableK S.ShareRow_T) S.ShareRow_ann (drawOk TD (tableP S.ShareRow_T)) 0 FUEL ((findLoop 3 (Try.f32.body.getD .skip)).getD .skip) σ k) [0, 3, 4] [3] n σ k
noncomputable def S.ShareRow_k3 (κ : V → List E → R) : X → St → R := (afterC TD (tableK S.ShareRow_T) S.ShareRow_ann (drawOk TD (tableP S.ShareRow_T)) 0 FUEL 3 (Try.f32.body.getD .skip) (finC TD 0 Try.f32 κ)).getD (fun _ _ => none)
noncomputable def S.ShareRow_step3 {α : Type} (x0 : List Int) (x4 : Int) (r0 : List Int) (next_ : Int × (List Int) → α) (out0_ : List Int → α) (fail_ : α) : α :=
  (optC (S.NetOk_t x0) (fun c_1 => (bif c_1 then (bif (↑r0.length : Int) == 0 then (optC (S.l15Grow_t x0 [] x4) (fun c_2 => (sumC c_2 (fun c_3 => (next_ (IntKind.i64.wrap (x4 - 1), c_3))) (fun c_3 => (next_ (IntKind.i64.wrap (x4 - 1), c_3.snd))))) fail_) else (out0_ r0)) else (out0_ r0))) fail_)
theorem S.ShareRow_step3_nat {α γ : Type} (g : α → γ) (x0 : List Int) (x4 : Int) (r0 : List Int) (next_ : Int × (List Int) → α) (out0_ : List Int → α) (fail_ : α) : g (S.ShareRow_step3 x0 x4 r0 next_ out0_ fail_) = S.ShareRow_step3 x0 x4 r0 (fun s => g (next_ s)) (fun d => g (out0_ d)) (g fail_) := by
  unfold S.ShareRow_step3; simp only [apply_cnd g, apply_optC g, apply_sumC g]
noncomputable def S.ShareRow_run3 (x0 : List Int) : Nat → Int × (List Int) → Option (List Int)
  | 0, _ => none
  | n + 1, s_ => S.ShareRow_step3 x0 s_.1 s_.2 (S.ShareRow_run3 x0 n) (fun d => some d) none
theorem S.ShareRow_L3_run (x0 : List Int) (n : Nat) (s_ : Int × (List Int)) (k : X → St → R) : S.ShareRow_L3 n { n := 22, t := [(0, (.ro false (.ints .i64 x0))), (3, (.own 0)), (4, (.int .i64 s_.1))], h := [.row (.ints .i64 s_.2)] } k = optC (S.ShareRow_run3 x0 n s_) (fun (r : List Int) => k (.exit 0) { n := 22, t := [(3, (.own 0))], h := [.row (.ints .i64 r)] }) none := by
  induction n generalizing s_ with
  | zero => rfl
  | succ n ih =>
    have hu : S.ShareRow_L3 (n + 1) { n := 22, t := [(0, (.ro false (.ints .i64 x0))), (3, (.own 0)), (4, (.int .i64 s_.1))], h := [.row (.ints .i64 s_.2)] } k = S.ShareRow_step3 x0 s_.1 s_.2 (fun s_ => S.ShareRow_L3 n { n := 22, t := [(0, (.ro false (.ints .i64 x0))), (3, (.own 0)), (4, (.int .i64 s_.1))], h := [.row (.ints .i64 s_.2)] } k) (fun d => k (.exit 0) { n := 22, t := [(3, (.own 0))], h := [.row (.ints .i64 d)] }) none := by
      kernel_rfl
    have hs : (fun s_ : Int × (List Int) => S.ShareRow_L3 n { n := 22, t := [(0, (.ro false (.ints .i64 x0))), (3, (.own 0)), (4, (.int .i64 s_.1))], h := [.row (.ints .i64 s_.2)] } k) = fun s_ => optC (S.ShareRow_run3 x0 n s_) (fun (r : List Int) => k (.exit 0) { n := 22, t := [(3, (.own 0))], h := [.row (.ints .i64 r)] }) none := funext ih
    rw [hu, hs]
    exact (S.ShareRow_step3_nat (fun o => optC o (fun (r : List Int) => k (.exit 0) { n := 22, t := [(3, (.own 0))], h := [.row (.ints .i64 r)] }) none) x0 s_.1 s_.2 (S.ShareRow_run3 x0 n) (fun d => some d) none).symm
noncomputable def S.ShareRow_tree {α : Type} (net : List Int) (leaf0_ : List Int → α) (fail_ : α) : α :=
  (optC (S.ShareRow_run3 net FUEL ((↑net.length : Int), [])) (fun qy_4 => (leaf0_ qy_4)) fail_)
theorem S.ShareRow_tree_nat {α γ : Type} (g : α → γ) (net : List Int) (leaf0_ : List Int → α) (fail_ : α) : g (S.ShareRow_tree net leaf0_ fail_) = S.ShareRow_tree net (fun d => g (leaf0_ d)) (g fail_) := by
  unfold S.ShareRow_tree; simp only [apply_cnd g, apply_optC g, apply_sumC g]
noncomputable def S.ShareRow_t (net : List Int) : Option (List Int) := S.ShareRow_tree net (fun d => some d) none
theorem S.ShareRow_den (net : List Int) (κ : V → List E → R) : S.ShareRow_F [.ro false (.ints .i64 net)] [] κ = optC (S.ShareRow_t net) (fun (r : List Int) => κ (.own 0) [.row (.ints .i64 r)]) none := by
  have hu : S.ShareRow_F [.ro false (.ints .i64 net)] [] κ = S.ShareRow_tree net (fun d => κ (.own 0) [.row (.ints .i64 d)]) none := by
    refine Eq.trans (show S.ShareRow_F [.ro false (.ints .i64 net)] [] κ = (S.ShareRow_L3 FUEL { n := 22, t := [(0, (.ro false (.ints .i64 net))), (3, (.own 0)), (4, (.int .i64 ((↑net.length : Int))))], h := [.row (.ints .i64 ([]))] } (S.ShareRow_k3 κ)) by kernel_rfl) ?_
    refine (S.ShareRow_L3_run net FUEL ((↑net.length : Int), []) (S.ShareRow_k3 κ)).trans (optC_congr (fun qy_4 => ?_))
    kernel_rfl
  rw [hu]
  exact (S.ShareRow_tree_nat (fun o => optC o (fun (r : List Int) => κ (.own 0) [.row (.ints .i64 r)]) none) net (fun d => some d) none).symm
noncomputable def S.ShareRow_s : D.Spec where
  keep := false
  pure := false
  ds := [.int .i64]
  sp := fun args h κ => match args, h with
    | [.ro false (.ints .i64 net)], [] => optC (S.ShareRow_t net) (fun (r : List Int) => κ (.own 0) [.row (.ints .i64 r)]) none
    | _, _ => none
theorem S.ShareRow_ok : SpecOk Try.prog 32 S.ShareRow_s := by
  refine SpecOk.of TDok mixed (T := S.ShareRow_T) ?_ (ann := S.ShareRow_ann) Try.func32 rfl (by decide +kernel) ?_ ?_ ?_
  · intro p hp
    simp only [S.ShareRow_T, List.mem_cons, List.not_mem_nil, or_false] at hp
    rcases hp with rfl | rfl
    · exact S.NetOk_ok
    · exact S.l15Grow_ok
  · intro args h κ r hh
    simp only [S.ShareRow_s] at hh
    split at hh
    · exact (S.ShareRow_den _ κ).trans hh
    · cases hh
  · intro args h κ r hh
    simp only [S.ShareRow_s] at hh ⊢
    split at hh
    · exact optC_law2 (F := fun (r : List Int) κ => κ (.own 0) [.row (.ints .i64 r)]) (fun b κ r hb => ⟨_, _, hb, fun _ => rfl⟩) hh
    · cases hh
  · intro hh; cases hh

-- loop.example/guardsonnets/spec.DrawShareRowOk
noncomputable def S.DrawShareRowOk_T : List (Nat × D.Spec) := [(47, S.l20Open_s), (46, S.l20Net_s), (49, S.NetOk_s), (55, S.l20Rd_pick_s), (32, S.ShareRow_s)]
def S.DrawShareRowOk_ann : Nat → List Nat × List Nat
  | 10 => ([4, 5, 6, 7], [5, 6])
  | _ => ([], [])
noncomputable def S.DrawShareRowOk_F (args : List V) (h : List E) (κ : V → List E → R) : R := funC TD (tableK S.DrawShareRowOk_T) S.DrawShareRowOk_ann (drawOk TD (tableP S.DrawShareRowOk_T)) FUEL Try.f24 args h κ
noncomputable def S.DrawShareRowOk_L10 (n : Nat) (σ : St) (k : X → St → R) : R := iterC 0 (fun σ k => denC TD (tableK S.DrawShareRowOk_T) S.DrawShareRowOk_ann (drawOk TD (tableP S.DrawShareRowOk_T)) 0 FUEL ((findLoop 10 (Try.f24.body.getD .skip)).getD .skip) σ k) [4, 5, 6, 7] [5, 6] n σ k
noncomputable def S.DrawShareRowOk_k10 (κ : V → List E → R) : X → St → R := (afterC TD (tableK S.DrawShareRowOk_T) S.DrawShareRowOk_ann (drawOk TD (tableP S.DrawShareRowOk_T)) 0 FUEL 10 (Try.f24.body.getD .skip) (finC TD 0 Try.f24 κ)).getD (fun _ _ => none)
noncomputable def S.DrawShareRowOk_step10 {α : Type} (x7 : Int) (r0_0 : List Int) (r0_1 : Int) (r1 : List Int) (r2 : List Int) (next_ : Int × (List Int) × Int × (List Int) × (List Int) → α) (out0_ : (List Int) × (List Int) → α) (fail_ : α) : α :=
  (optC (S.l20Rd_pick_t r0_0 r0_1 20) (fun c_9 => (bif decide (x7 < IntKind.i64.wrap ((↑r1.length : Int) + IntKind.i64.wrap (c_9.fst.tdiv 19))) then (optC (S.l20Rd_pick_t c_9.snd.fst c_9.snd.snd 2) (fun c_10 => (optC (S.l20Rd_pick_t c_10.snd.fst c_10.snd.snd (IntKind.i64.wrap (2 + c_10.fst))) (fun c_11 => (optC (S.l20Rd_pick_t c_11.snd.fst c_11.snd.snd (IntKind.i64.wrap ((if 1 < x7 then 1 else x7) + 1))) (fun c_12 => (bif small (r2 ++ [IntKind.i64.wrap (c_11.fst * c_12.fst)]).length then (next_ (IntKind.i64.wrap (x7 + 1), c_12.snd.fst, c_12.snd.snd, r1, r2 ++ [IntKind.i64.wrap (c_11.fst * c_12.fst)])) else fail_)) fail_)) fail_)) fail_) else (out0_ (r1, r2)))) fail_)
theorem S.DrawShareRowOk_step10_nat {α γ : Type} (g : α → γ) (x7 : Int) (r0_0 : List Int) (r0_1 : Int) (r1 : List Int) (r2 : List Int) (next_ : Int × (List Int) × Int × (List Int) × (List Int) → α) (out0_ : (List Int) × (List Int) → α) (fail_ : α) : g (S.DrawShareRowOk_step10 x7 r0_0 r0_1 r1 r2 next_ out0_ fail_) = S.DrawShareRowOk_step10 x7 r0_0 r0_1 r1 r2 (fun s => g (next_ s)) (fun d => g (out0_ d)) (g fail_) := by
  unfold S.DrawShareRowOk_step10; simp only [apply_cnd g, apply_optC g, apply_sumC g]
noncomputable def S.DrawShareRowOk_run10 : Nat → Int × (List Int) × Int × (List Int) × (List Int) → Option ((List Int) × (List Int))
  | 0, _ => none
  | n + 1, s_ => S.DrawShareRowOk_step10 s_.1 s_.2.1 s_.2.2.1 s_.2.2.2.1 s_.2.2.2.2 (S.DrawShareRowOk_run10 n) (fun d => some d) none
theorem S.DrawShareRowOk_L10_run (n : Nat) (s_ : Int × (List Int) × Int × (List Int) × (List Int)) (k : X → St → R) : S.DrawShareRowOk_L10 n { n := 62, t := [(4, (.ptr 0 0)), (5, (.own 1)), (6, (.own 2)), (7, (.int .i64 s_.1))], h := [.cells [(.ro true (.ints .u8 s_.2.1)), (.int .i64 s_.2.2.1)], .row (.ints .i64 s_.2.2.2.1), .row (.ints .i64 s_.2.2.2.2)] } k = optC (S.DrawShareRowOk_run10 n s_) (fun (r : (List Int) × (List Int)) => k (.exit 0) { n := 62, t := [(5, (.own 0)), (6, (.own 1))], h := [.row (.ints .i64 r.1), .row (.ints .i64 r.2)] }) none := by
  induction n generalizing s_ with
  | zero => rfl
  | succ n ih =>
    have hu : S.DrawShareRowOk_L10 (n + 1) { n := 62, t := [(4, (.ptr 0 0)), (5, (.own 1)), (6, (.own 2)), (7, (.int .i64 s_.1))], h := [.cells [(.ro true (.ints .u8 s_.2.1)), (.int .i64 s_.2.2.1)], .row (.ints .i64 s_.2.2.2.1), .row (.ints .i64 s_.2.2.2.2)] } k = S.DrawShareRowOk_step10 s_.1 s_.2.1 s_.2.2.1 s_.2.2.2.1 s_.2.2.2.2 (fun s_ => S.DrawShareRowOk_L10 n { n := 62, t := [(4, (.ptr 0 0)), (5, (.own 1)), (6, (.own 2)), (7, (.int .i64 s_.1))], h := [.cells [(.ro true (.ints .u8 s_.2.1)), (.int .i64 s_.2.2.1)], .row (.ints .i64 s_.2.2.2.1), .row (.ints .i64 s_.2.2.2.2)] } k) (fun d => k (.exit 0) { n := 62, t := [(5, (.own 0)), (6, (.own 1))], h := [.row (.ints .i64 d.1), .row (.ints .i64 d.2)] }) none := by
      kernel_rfl
    have hs : (fun s_ : Int × (List Int) × Int × (List Int) × (List Int) => S.DrawShareRowOk_L10 n { n := 62, t := [(4, (.ptr 0 0)), (5, (.own 1)), (6, (.own 2)), (7, (.int .i64 s_.1))], h := [.cells [(.ro true (.ints .u8 s_.2.1)), (.int .i64 s_.2.2.1)], .row (.ints .i64 s_.2.2.2.1), .row (.ints .i64 s_.2.2.2.2)] } k) = fun s_ => optC (S.DrawShareRowOk_run10 n s_) (fun (r : (List Int) × (List Int)) => k (.exit 0) { n := 62, t := [(5, (.own 0)), (6, (.own 1))], h := [.row (.ints .i64 r.1), .row (.ints .i64 r.2)] }) none := funext ih
    rw [hu, hs]
    exact (S.DrawShareRowOk_step10_nat (fun o => optC o (fun (r : (List Int) × (List Int)) => k (.exit 0) { n := 62, t := [(5, (.own 0)), (6, (.own 1))], h := [.row (.ints .i64 r.1), .row (.ints .i64 r.2)] }) none) s_.1 s_.2.1 s_.2.2.1 s_.2.2.2.1 s_.2.2.2.2 (S.DrawShareRowOk_run10 n) (fun d => some d) none).symm
noncomputable def S.DrawShareRowOk_tree {α : Type} (code : List Int) (leaf0_ : (List Int) × (List Int) → α) (fail_ : α) : α :=
  (optC (S.l20Open_t code) (fun c_1 => (optC (S.l20Net_t c_1.fst c_1.snd 12) (fun c_2 => (optC (S.NetOk_t c_2.snd.snd) (fun c_3 => (bif c_3 then (optC (S.l20Rd_pick_t c_2.fst c_2.snd.fst 3) (fun c_4 => (bif decide (c_4.fst > 0) then (optC (S.ShareRow_t c_2.snd.snd) (fun c_5 => (optC (S.l20Rd_pick_t c_4.snd.fst c_4.snd.snd 3) (fun c_6 => (bif c_6.fst == 0 then (optC (S.l20Rd_pick_t c_6.snd.fst c_6.snd.snd (↑c_5.length : Int)) (fun c_7 => (optC (S.l20Rd_pick_t c_7.snd.fst c_7.snd.snd 4) (fun c_8 => (bif decide (0 ≤ c_7.fst) && decide (c_7.fst < (↑c_5.length : Int)) then (bif decide (c_7.fst.toNat < c_5.length) then (leaf0_ (c_2.snd.snd, c_5.set c_7.fst.toNat (IntKind.i64.wrap (c_8.fst - 1)))) else fail_) else fail_)) fail_)) fail_) else (leaf0_ (c_2.snd.snd, c_5)))) fail_)) fail_) else (optC (S.DrawShareRowOk_run10 FUEL (0, c_4.snd.fst, c_4.snd.snd, c_2.snd.snd, [])) (fun qy_13 => (leaf0_ (qy_13.1, qy_13.2))) fail_))) fail_) else (optC (S.DrawShareRowOk_run10 FUEL (0, c_2.fst, c_2.snd.fst, c_2.snd.snd, [])) (fun qy_14 => (leaf0_ (qy_14.1, qy_14.2))) fail_))) fail_)) fail_)) fail_)
theorem S.DrawShareRowOk_tree_nat {α γ : Type} (g : α → γ) (code : List Int) (leaf0_ : (List Int) × (List Int) → α) (fail_ : α) : g (S.DrawShareRowOk_tree code leaf0_ fail_) = S.DrawShareRowOk_tree code (fun d => g (leaf0_ d)) (g fail_) := by
  unfold S.DrawShareRowOk_tree; simp only [apply_cnd g, apply_optC g, apply_sumC g]
noncomputable def S.DrawShareRowOk_t (code : List Int) : Option ((List Int) × (List Int)) := S.DrawShareRowOk_tree code (fun d => some d) none
theorem S.DrawShareRowOk_den (code : List Int) (κ : V → List E → R) : S.DrawShareRowOk_F [.ro true (.ints .u8 code)] [] κ = optC (S.DrawShareRowOk_t code) (fun (r : (List Int) × (List Int)) => κ (.tup [(.own 0), (.own 1)]) [.row (.ints .i64 r.1), .row (.ints .i64 r.2)]) none := by
  have hu : S.DrawShareRowOk_F [.ro true (.ints .u8 code)] [] κ = S.DrawShareRowOk_tree code (fun d => κ (.tup [(.own 0), (.own 1)]) [.row (.ints .i64 d.1), .row (.ints .i64 d.2)]) none := by
    refine Eq.trans (show S.DrawShareRowOk_F [.ro true (.ints .u8 code)] [] κ = (optC (S.l20Open_t code) (fun c_1 => (optC (S.l20Net_t c_1.fst c_1.snd 12) (fun c_2 => (optC (S.NetOk_t c_2.snd.snd) (fun c_3 => (bif c_3 then (optC (S.l20Rd_pick_t c_2.fst c_2.snd.fst 3) (fun c_4 => (bif decide (c_4.fst > 0) then (optC (S.ShareRow_t c_2.snd.snd) (fun c_5 => (optC (S.l20Rd_pick_t c_4.snd.fst c_4.snd.snd 3) (fun c_6 => (bif c_6.fst == 0 then (optC (S.l20Rd_pick_t c_6.snd.fst c_6.snd.snd (↑c_5.length : Int)) (fun c_7 => (optC (S.l20Rd_pick_t c_7.snd.fst c_7.snd.snd 4) (fun c_8 => (bif decide (0 ≤ c_7.fst) && decide (c_7.fst < (↑c_5.length : Int)) then (bif decide (c_7.fst.toNat < c_5.length) then (κ (.tup [(.own 0), (.own 1)]) [.row (.ints .i64 c_2.snd.snd), .row (.ints .i64 (c_5.set c_7.fst.toNat (IntKind.i64.wrap (c_8.fst - 1))))]) else none) else none)) none)) none) else (κ (.tup [(.own 0), (.own 1)]) [.row (.ints .i64 c_2.snd.snd), .row (.ints .i64 c_5)]))) none)) none) else (S.DrawShareRowOk_L10 FUEL { n := 62, t := [(4, (.ptr 0 0)), (5, (.own 1)), (6, (.own 2)), (7, (.int .i64 0))], h := [.cells [(.ro true (.ints .u8 c_4.snd.fst)), (.int .i64 c_4.snd.snd)], .row (.ints .i64 c_2.snd.snd), .row (.ints .i64 ([]))] } (S.DrawShareRowOk_k10 κ)))) none) else (S.DrawShareRowOk_L10 FUEL { n := 62, t := [(4, (.ptr 0 0)), (5, (.own 1)), (6, (.own 2)), (7, (.int .i64 0))], h := [.cells [(.ro true (.ints .u8 c_2.fst)), (.int .i64 c_2.snd.fst)], .row (.ints .i64 c_2.snd.snd), .row (.ints .i64 ([]))] } (S.DrawShareRowOk_k10 κ)))) none)) none)) none) by kernel_rfl) ?_
    refine optC_congr (fun c_1 => ?_)
    refine optC_congr (fun c_2 => ?_)
    refine optC_congr (fun c_3 => ?_)
    refine cnd_congr ?_ ?_
    · refine optC_congr (fun c_4 => ?_)
      refine cnd_congr ?_ ?_
      · kernel_rfl
      · refine (S.DrawShareRowOk_L10_run FUEL (0, c_4.snd.fst, c_4.snd.snd, c_2.snd.snd, []) (S.DrawShareRowOk_k10 κ)).trans (optC_congr (fun qy_13 => ?_))
        kernel_rfl
    · refine (S.DrawShareRowOk_L10_run FUEL (0, c_2.fst, c_2.snd.fst, c_2.snd.snd, []) (S.DrawShareRowOk_k10 κ)).trans (optC_congr (fun qy_14 => ?_))
      kernel_rfl
  rw [hu]
  exact (S.DrawShareRowOk_tree_nat (fun o => optC o (fun (r : (List Int) × (List Int)) => κ (.tup [(.own 0), (.own 1)]) [.row (.ints .i64 r.1), .row (.ints .i64 r.2)]) none) code (fun d => some d) none).symm
noncomputable def S.DrawShareRowOk_s : D.Spec where
  keep := true
  pure := false
  ds := [.int .u8]
  sp := fun args h κ => match args, h with
    | [.ro true (.ints .u8 code)], [] => optC (S.DrawShareRowOk_t code) (fun (r : (List Int) × (List Int)) => κ (.tup [(.own 0), (.own 1)]) [.row (.ints .i64 r.1), .row (.ints .i64 r.2)]) none
    | _, _ => none
theorem S.DrawShareRowOk_ok : SpecOk Try.prog 24 S.DrawShareRowOk_s := by
  refine SpecOk.of TDok mixed (T := S.DrawShareRowOk_T) ?_ (ann := S.DrawShareRowOk_ann) Try.func24 rfl (by decide +kernel) ?_ ?_ ?_
  · intro p hp
    simp only [S.DrawShareRowOk_T, List.mem_cons, List.not_mem_nil, or_false] at hp
    rcases hp with rfl | rfl | rfl | rfl | rfl
    · exact S.l20Open_ok
    · exact S.l20Net_ok
    · exact S.NetOk_ok
    · exact S.l20Rd_pick_ok
    · exact S.ShareRow_ok
  · intro args h κ r hh
    simp only [S.DrawShareRowOk_s] at hh
    split at hh
    · exact (S.DrawShareRowOk_den _ κ).trans hh
    · cases hh
  · intro args h κ r hh
    simp only [S.DrawShareRowOk_s] at hh ⊢
    split at hh
    · exact optC_law2 (F := fun (r : (List Int) × (List Int)) κ => κ (.tup [(.own 0), (.own 1)]) [.row (.ints .i64 r.1), .row (.ints .i64 r.2)]) (fun b κ r hb => ⟨_, _, hb, fun _ => rfl⟩) hh
    · cases hh
  · intro hh; cases hh

-- loop.example/guardsonnets/impl.countsUp
noncomputable def I.countsUp_T : List (Nat × D.Spec) := []
def I.countsUp_ann : Nat → List Nat × List Nat
  | 3 => ([0, 3, 4], [2])
  | _ => ([], [])
noncomputable def I.countsUp_F (args : List V) (h : List E) (κ : V → List E → R) : R := funC TD (tableK I.countsUp_T) I.countsUp_ann (drawOk TD (tableP I.countsUp_T)) FUEL Try.f56 args h κ
noncomputable def I.countsUp_L3 (n : Nat) (σ : St) (k : X → St → R) : R := iterC 0 (fun σ k => denC TD (tableK I.countsUp_T) I.countsUp_ann (drawOk TD (tableP I.countsUp_T)) 0 FUEL ((findLoop 3 (Try.f56.body.getD .skip)).getD .skip) σ k) [0, 3, 4] [2] n σ k
noncomputable def I.countsUp_k3 (κ : V → List E → R) : X → St → R := (afterC TD (tableK I.countsUp_T) I.countsUp_ann (drawOk TD (tableP I.countsUp_T)) 0 FUEL 3 (Try.f56.body.getD .skip) (finC TD 0 Try.f56 κ)).getD (fun _ _ => none)
noncomputable def I.countsUp_step3 {α : Type} (x0 : List Int) (x3 : Int) (x4 : Int) (next_ : Int × Int → α) (out0_ : Bool → α) (out1_ : Unit → α) (fail_ : α) : α :=
  (bif decide (x4 < (↑x0.length : Int)) then (bif decide (0 ≤ x4) && decide (x4 < (↑x0.length : Int)) then (bif decide (eli x0 x4.toNat < 0) then (out0_ false) else (bif decide (0 ≤ x4) && decide (x4 < (↑x0.length : Int)) then (bif decide (eli x0 x4.toNat > x3) then (out0_ false) else (bif decide (0 ≤ x4) && decide (x4 < (↑x0.length : Int)) then (bif eli x0 x4.toNat == x3 then (next_ (IntKind.i64.wrap (x3 + 1), IntKind.i64.wrap (x4 + 1))) else (next_ (x3, IntKind.i64.wrap (x4 + 1)))) else fail_)) else fail_)) else fail_) else (out1_ ()))
theorem I.countsUp_step3_nat {α γ : Type} (g : α → γ) (x0 : List Int) (x3 : Int) (x4 : Int) (next_ : Int × Int → α) (out0_ : Bool → α) (out1_ : Unit → α) (fail_ : α) : g (I.countsUp_step3 x0 x3 x4 next_ out0_ out1_ fail_) = I.countsUp_step3 x0 x3 x4 (fun s => g (next_ s)) (fun d => g (out0_ d)) (fun d => g (out1_ d)) (g fail_) := by
  unfold I.countsUp_step3; simp only [apply_cnd g, apply_optC g, apply_sumC g]
noncomputable def I.countsUp_run3 (x0 : List Int) : Nat → Int × Int → Option ((Bool) ⊕ (Unit))
  | 0, _ => none
  | n + 1, s_ => I.countsUp_step3 x0 s_.1 s_.2 (I.countsUp_run3 x0 n) (fun d => some ((Sum.inl d))) (fun d => some ((Sum.inr d))) none
theorem I.countsUp_L3_run (x0 : List Int) (n : Nat) (s_ : Int × Int) (k : X → St → R) : I.countsUp_L3 n { n := 32, t := [(0, (.ro false (.ints .i64 x0))), (3, (.int .i64 s_.1)), (4, (.int .i64 s_.2))], h := [] } k = optC (I.countsUp_run3 x0 n s_) (fun (r : (Bool) ⊕ (Unit)) => (sumC r (fun (r : Bool) => k (.ret) { n := 32, t := [(2, (.bool r))], h := [] }) (fun (r : Unit) => k (.exit 0) { n := 32, t := [(2, .junk)], h := [] }))) none := by
  induction n generalizing s_ with
  | zero => rfl
  | succ n ih =>
    have hu : I.countsUp_L3 (n + 1) { n := 32, t := [(0, (.ro false (.ints .i64 x0))), (3, (.int .i64 s_.1)), (4, (.int .i64 s_.2))], h := [] } k = I.countsUp_step3 x0 s_.1 s_.2 (fun s_ => I.countsUp_L3 n { n := 32, t := [(0, (.ro false (.ints .i64 x0))), (3, (.int .i64 s_.1)), (4, (.int .i64 s_.2))], h := [] } k) (fun d => k (.ret) { n := 32, t := [(2, (.bool d))], h := [] }) (fun d => k (.exit 0) { n := 32, t := [(2, .junk)], h := [] }) none := by
      kernel_rfl
    have hs : (fun s_ : Int × Int => I.countsUp_L3 n { n := 32, t := [(0, (.ro false (.ints .i64 x0))), (3, (.int .i64 s_.1)), (4, (.int .i64 s_.2))], h := [] } k) = fun s_ => optC (I.countsUp_run3 x0 n s_) (fun (r : (Bool) ⊕ (Unit)) => (sumC r (fun (r : Bool) => k (.ret) { n := 32, t := [(2, (.bool r))], h := [] }) (fun (r : Unit) => k (.exit 0) { n := 32, t := [(2, .junk)], h := [] }))) none := funext ih
    rw [hu, hs]
    exact (I.countsUp_step3_nat (fun o => optC o (fun (r : (Bool) ⊕ (Unit)) => (sumC r (fun (r : Bool) => k (.ret) { n := 32, t := [(2, (.bool r))], h := [] }) (fun (r : Unit) => k (.exit 0) { n := 32, t := [(2, .junk)], h := [] }))) none) x0 s_.1 s_.2 (I.countsUp_run3 x0 n) (fun d => some ((Sum.inl d))) (fun d => some ((Sum.inr d))) none).symm
noncomputable def I.countsUp_tree {α : Type} (row : List Int) (leaf0_ : Bool → α) (fail_ : α) : α :=
  (optC (I.countsUp_run3 row FUEL (0, 0)) (fun qy_1 => (sumC qy_1 (fun (qy_1 : Bool) => (leaf0_ qy_1)) (fun (qy_1 : Unit) => (leaf0_ true)))) fail_)
theorem I.countsUp_tree_nat {α γ : Type} (g : α → γ) (row : List Int) (leaf0_ : Bool → α) (fail_ : α) : g (I.countsUp_tree row leaf0_ fail_) = I.countsUp_tree row (fun d => g (leaf0_ d)) (g fail_) := by
  unfold I.countsUp_tree; simp only [apply_cnd g, apply_optC g, apply_sumC g]
noncomputable def I.countsUp_t (row : List Int) : Option (Bool) := I.countsUp_tree row (fun d => some d) none
theorem I.countsUp_den (row : List Int) (κ : V → List E → R) : I.countsUp_F [.ro false (.ints .i64 row)] [] κ = optC (I.countsUp_t row) (fun (r : Bool) => κ (.bool r) []) none := by
  have hu : I.countsUp_F [.ro false (.ints .i64 row)] [] κ = I.countsUp_tree row (fun d => κ (.bool d) []) none := by
    refine Eq.trans (show I.countsUp_F [.ro false (.ints .i64 row)] [] κ = (I.countsUp_L3 FUEL { n := 32, t := [(0, (.ro false (.ints .i64 row))), (3, (.int .i64 0)), (4, (.int .i64 0))], h := [] } (I.countsUp_k3 κ)) by kernel_rfl) ?_
    refine (I.countsUp_L3_run row FUEL (0, 0) (I.countsUp_k3 κ)).trans (optC_congr (fun qy_1 => ?_))
    rcases qy_1 with qy_1 | qy_1
    · kernel_rfl
    · kernel_rfl
  rw [hu]
  exact (I.countsUp_tree_nat (fun o => optC o (fun (r : Bool) => κ (.bool r) []) none) row (fun d => some d) none).symm
noncomputable def I.countsUp_s : D.Spec where
  keep := false
  pure := true
  ds := [.int .i64]
  sp := fun args h κ => match args, h with
    | [.ro false (.ints .i64 row)], [] => optC (I.countsUp_t row) (fun (r : Bool) => κ (.bool r) []) none
    | _, _ => none
theorem I.countsUp_ok : SpecOk Try.prog 56 I.countsUp_s := by
  refine SpecOk.of TDok mixed (T := I.countsUp_T) ?_ (ann := I.countsUp_ann) Try.func56 rfl (by decide +kernel) ?_ ?_ ?_
  · intro p hp; cases hp
  · intro args h κ r hh
    simp only [I.countsUp_s] at hh
    split at hh
    · exact (I.countsUp_den _ κ).trans hh
    · cases hh
  · intro args h κ r hh
    simp only [I.countsUp_s] at hh ⊢
    split at hh
    · exact optC_law2 (F := fun (r : Bool) κ => κ (.bool r) []) (fun b κ r hb => ⟨_, _, hb, fun _ => rfl⟩) hh
    · cases hh
  · intro _ args h κ r hh
    simp only [I.countsUp_s] at hh
    split at hh
    · exact ⟨rfl, fun _ => rfl⟩
    · cases hh

-- loop.example/guardsonnets/impl.numbersOf
noncomputable def I.numbersOf_T : List (Nat × D.Spec) := []
def I.numbersOf_ann : Nat → List Nat × List Nat
  | 3 => ([0, 3, 4], [3])
  | _ => ([], [])
noncomputable def I.numbersOf_F (args : List V) (h : List E) (κ : V → List E → R) : R := funC TD (tableK I.numbersOf_T) I.numbersOf_ann (drawOk TD (tableP I.numbersOf_T)) FUEL Try.f58 args h κ
noncomputable def I.numbersOf_L3 (n : Nat) (σ : St) (k : X → St → R) : R := iterC 0 (fun σ k => denC TD (tableK I.numbersOf_T) I.numbersOf_ann (drawOk TD (tableP I.numbersOf_T)) 0 FUEL ((findLoop 3 (Try.f58.body.getD .skip)).getD .skip) σ k) [0, 3, 4] [3] n σ k
noncomputable def I.numbersOf_k3 (κ : V → List E → R) : X → St → R := (afterC TD (tableK I.numbersOf_T) I.numbersOf_ann (drawOk TD (tableP I.numbersOf_T)) 0 FUEL 3 (Try.f58.body.getD .skip) (finC TD 0 Try.f58 κ)).getD (fun _ _ => none)
noncomputable def I.numbersOf_step3 {α : Type} (x0 : List Int) (x3 : Int) (x4 : Int) (next_ : Int × Int → α) (out0_ : Int → α) (fail_ : α) : α :=
  (bif decide (x4 < (↑x0.length : Int)) then (bif decide (0 ≤ x4) && decide (x4 < (↑x0.length : Int)) then (bif eli x0 x4.toNat == x3 then (next_ (IntKind.i64.wrap (x3 + 1), IntKind.i64.wrap (x4 + 1))) else (next_ (x3, IntKind.i64.wrap (x4 + 1)))) else fail_) else (out0_ x3))
theorem I.numbersOf_step3_nat {α γ : Type} (g : α → γ) (x0 : List Int) (x3 : Int) (x4 : Int) (next_ : Int × Int → α) (out0_ : Int → α) (fail_ : α) : g (I.numbersOf_step3 x0 x3 x4 next_ out0_ fail_) = I.numbersOf_step3 x0 x3 x4 (fun s => g (next_ s)) (fun d => g (out0_ d)) (g fail_) := by
  unfold I.numbersOf_step3; simp only [apply_cnd g, apply_optC g, apply_sumC g]
noncomputable def I.numbersOf_run3 (x0 : List Int) : Nat → Int × Int → Option (Int)
  | 0, _ => none
  | n + 1, s_ => I.numbersOf_step3 x0 s_.1 s_.2 (I.numbersOf_run3 x0 n) (fun d => some d) none
theorem I.numbersOf_L3_run (x0 : List Int) (n : Nat) (s_ : Int × Int) (k : X → St → R) : I.numbersOf_L3 n { n := 20, t := [(0, (.ro false (.ints .i64 x0))), (3, (.int .i64 s_.1)), (4, (.int .i64 s_.2))], h := [] } k = optC (I.numbersOf_run3 x0 n s_) (fun (r : Int) => k (.exit 0) { n := 20, t := [(3, (.int .i64 r))], h := [] }) none := by
  induction n generalizing s_ with
  | zero => rfl
  | succ n ih =>
    have hu : I.numbersOf_L3 (n + 1) { n := 20, t := [(0, (.ro false (.ints .i64 x0))), (3, (.int .i64 s_.1)), (4, (.int .i64 s_.2))], h := [] } k = I.numbersOf_step3 x0 s_.1 s_.2 (fun s_ => I.numbersOf_L3 n { n := 20, t := [(0, (.ro false (.ints .i64 x0))), (3, (.int .i64 s_.1)), (4, (.int .i64 s_.2))], h := [] } k) (fun d => k (.exit 0) { n := 20, t := [(3, (.int .i64 d))], h := [] }) none := by
      kernel_rfl
    have hs : (fun s_ : Int × Int => I.numbersOf_L3 n { n := 20, t := [(0, (.ro false (.ints .i64 x0))), (3, (.int .i64 s_.1)), (4, (.int .i64 s_.2))], h := [] } k) = fun s_ => optC (I.numbersOf_run3 x0 n s_) (fun (r : Int) => k (.exit 0) { n := 20, t := [(3, (.int .i64 r))], h := [] }) none := funext ih
    rw [hu, hs]
    exact (I.numbersOf_step3_nat (fun o => optC o (fun (r : Int) => k (.exit 0) { n := 20, t := [(3, (.int .i64 r))], h := [] }) none) x0 s_.1 s_.2 (I.numbersOf_run3 x0 n) (fun d => some d) none).symm
noncomputable def I.numbersOf_tree {α : Type} (row : List Int) (leaf0_ : Int → α) (fail_ : α) : α :=
  (optC (I.numbersOf_run3 row FUEL (0, 0)) (fun qy_1 => (leaf0_ qy_1)) fail_)
theorem I.numbersOf_tree_nat {α γ : Type} (g : α → γ) (row : List Int) (leaf0_ : Int → α) (fail_ : α) : g (I.numbersOf_tree row leaf0_ fail_) = I.numbersOf_tree row (fun d => g (leaf0_ d)) (g fail_) := by
  unfold I.numbersOf_tree; simp only [apply_cnd g, apply_optC g, apply_sumC g]
noncomputable def I.numbersOf_t (row : List Int) : Option (Int) := I.numbersOf_tree row (fun d => some d) none
theorem I.numbersOf_den (row : List Int) (κ : V → List E → R) : I.numbersOf_F [.ro false (.ints .i64 row)] [] κ = optC (I.numbersOf_t row) (fun (r : Int) => κ (.int .i64 r) []) none := by
  have hu : I.numbersOf_F [.ro false (.ints .i64 row)] [] κ = I.numbersOf_tree row (fun d => κ (.int .i64 d) []) none := by
    refine Eq.trans (show I.numbersOf_F [.ro false (.ints .i64 row)] [] κ = (I.numbersOf_L3 FUEL { n := 20, t := [(0, (.ro false (.ints .i64 row))), (3, (.int .i64 0)), (4, (.int .i64 0))], h := [] } (I.numbersOf_k3 κ)) by kernel_rfl) ?_
    refine (I.numbersOf_L3_run row FUEL (0, 0) (I.numbersOf_k3 κ)).trans (optC_congr (fun qy_1 => ?_))
    kernel_rfl
  rw [hu]
  exact (I.numbersOf_tree_nat (fun o => optC o (fun (r : Int) => κ (.int .i64 r) []) none) row (fun d => some d) none).symm
noncomputable def I.numbersOf_s : D.Spec where
  keep := false
  pure := true
  ds := [.int .i64]
  sp := fun args h κ => match args, h with
    | [.ro false (.ints .i64 row)], [] => optC (I.numbersOf_t row) (fun (r : Int) => κ (.int .i64 r) []) none
    | _, _ => none
theorem I.numbersOf_ok : SpecOk Try.prog 58 I.numbersOf_s := by
  refine SpecOk.of TDok mixed (T := I.numbersOf_T) ?_ (ann := I.numbersOf_ann) Try.func58 rfl (by decide +kernel) ?_ ?_ ?_
  · intro p hp; cases hp
  · intro args h κ r hh
    simp only [I.numbersOf_s] at hh
    split at hh
    · exact (I.numbersOf_den _ κ).trans hh
    · cases hh
  · intro args h κ r hh
    simp only [I.numbersOf_s] at hh ⊢
    split at hh
    · exact optC_law2 (F := fun (r : Int) κ => κ (.int .i64 r) []) (fun b κ r hb => ⟨_, _, hb, fun _ => rfl⟩) hh
    · cases hh
  · intro _ args h κ r hh
    simp only [I.numbersOf_s] at hh
    split at hh
    · exact ⟨rfl, fun _ => rfl⟩
    · cases hh

-- loop.example/guardsonnets/impl.with
noncomputable def I.with_T : List (Nat × D.Spec) := []
def I.with_ann : Nat → List Nat × List Nat
  | _ => ([], [])
noncomputable def I.with_F (args : List V) (h : List E) (κ : V → List E → R) : R := funC TD (tableK I.with_T) I.with_ann (drawOk TD (tableP I.with_T)) FUEL Try.f76 args h κ
noncomputable def I.with_tree {α : Type} (set_ : Int) (place : Int) (leaf0_ : Int → α) (fail_ : α) : α :=
  (bif decide (place < 0) then fail_ else (leaf0_ (bits BinOp.or IntKind.i64 set_ (IntKind.i64.wrap (1 * 2 ^ min place.toNat IntKind.i64.bits)))))
theorem I.with_tree_nat {α γ : Type} (g : α → γ) (set_ : Int) (place : Int) (leaf0_ : Int → α) (fail_ : α) : g (I.with_tree set_ place leaf0_ fail_) = I.with_tree set_ place (fun d => g (leaf0_ d)) (g fail_) := by
  unfold I.with_tree; simp only [apply_cnd g, apply_optC g, apply_sumC g]
noncomputable def I.with_t (set_ : Int) (place : Int) : Option (Int) := I.with_tree set_ place (fun d => some d) none
theorem I.with_den (set_ : Int) (place : Int) (κ : V → List E → R) : I.with_F [.int .i64 set_, .int .i64 place] [] κ = optC (I.with_t set_ place) (fun (r : Int) => κ (.int .i64 r) []) none := by
  have hu : I.with_F [.int .i64 set_, .int .i64 place] [] κ = I.with_tree set_ place (fun d => κ (.int .i64 d) []) none := by
    kernel_rfl
  rw [hu]
  exact (I.with_tree_nat (fun o => optC o (fun (r : Int) => κ (.int .i64 r) []) none) set_ place (fun d => some d) none).symm
noncomputable def I.with_s : D.Spec where
  keep := false
  pure := true
  ds := [.invalid, .invalid]
  sp := fun args h κ => match args, h with
    | [.int .i64 set_, .int .i64 place], [] => optC (I.with_t set_ place) (fun (r : Int) => κ (.int .i64 r) []) none
    | _, _ => none
theorem I.with_ok : SpecOk Try.prog 76 I.with_s := by
  refine SpecOk.of TDok mixed (T := I.with_T) ?_ (ann := I.with_ann) Try.func76 rfl (by decide +kernel) ?_ ?_ ?_
  · intro p hp; cases hp
  · intro args h κ r hh
    simp only [I.with_s] at hh
    split at hh
    · exact (I.with_den _ _ κ).trans hh
    · cases hh
  · intro args h κ r hh
    simp only [I.with_s] at hh ⊢
    split at hh
    · exact optC_law2 (F := fun (r : Int) κ => κ (.int .i64 r) []) (fun b κ r hb => ⟨_, _, hb, fun _ => rfl⟩) hh
    · cases hh
  · intro _ args h κ r hh
    simp only [I.with_s] at hh
    split at hh
    · exact ⟨rfl, fun _ => rfl⟩
    · cases hh

-- loop.example/guardsonnets/impl.placesWith
noncomputable def I.placesWith_T : List (Nat × D.Spec) := [(76, I.with_s)]
def I.placesWith_ann : Nat → List Nat × List Nat
  | 3 => ([0, 1, 5, 6], [5])
  | _ => ([], [])
noncomputable def I.placesWith_F (args : List V) (h : List E) (κ : V → List E → R) : R := funC TD (tableK I.placesWith_T) I.placesWith_ann (drawOk TD (tableP I.placesWith_T)) FUEL Try.f72 args h κ
noncomputable def I.placesWith_L3 (n : Nat) (σ : St) (k : X → St → R) : R := iterC 0 (fun σ k => denC TD (tableK I.placesWith_T) I.placesWith_ann (drawOk TD (tableP I.placesWith_T)) 0 FUEL ((findLoop 3 (Try.f72.body.getD .skip)).getD .skip) σ k) [0, 1, 5, 6] [5] n σ k
noncomputable def I.placesWith_k3 (κ : V → List E → R) : X → St → R := (afterC TD (tableK I.placesWith_T) I.placesWith_ann (drawOk TD (tableP I.placesWith_T)) 0 FUEL 3 (Try.f72.body.getD .skip) (finC TD 0 Try.f72 κ)).getD (fun _ _ => none)
noncomputable def I.placesWith_step3 {α : Type} (x0 : List Int) (x1 : Int) (x5 : Int) (x6 : Int) (next_ : Int × Int → α) (out0_ : Int → α) (fail_ : α) : α :=
  (bif decide (x6 < (↑x0.length : Int)) then (bif decide (0 ≤ x6) && decide (x6 < (↑x0.length : Int)) then (bif eli x0 x6.toNat == x1 then (optC (I.with_t x5 x6) (fun c_1 => (next_ (c_1, IntKind.i64.wrap (x6 + 1)))) fail_) else (next_ (x5, IntKind.i64.wrap (x6 + 1)))) else fail_) else (out0_ x5))
theorem I.placesWith_step3_nat {α γ : Type} (g : α → γ) (x0 : List Int) (x1 : Int) (x5 : Int) (x6 : Int) (next_ : Int × Int → α) (out0_ : Int → α) (fail_ : α) : g (I.placesWith_step3 x0 x1 x5 x6 next_ out0_ fail_) = I.placesWith_step3 x0 x1 x5 x6 (fun s => g (next_ s)) (fun d => g (out0_ d)) (g fail_) := by
  unfold I.placesWith_step3; simp only [apply_cnd g, apply_optC g, apply_sumC g]
noncomputable def I.placesWith_run3 (x0 : List Int) (x1 : Int) : Nat → Int × Int → Option (Int)
  | 0, _ => none
  | n + 1, s_ => I.placesWith_step3 x0 x1 s_.1 s_.2 (I.placesWith_run3 x0 x1 n) (fun d => some d) none
theorem I.placesWith_L3_run (x0 : List Int) (x1 : Int) (n : Nat) (s_ : Int × Int) (k : X → St → R) : I.placesWith_L3 n { n := 23, t := [(0, (.ro false (.ints .i64 x0))), (1, (.int .i64 x1)), (5, (.int .i64 s_.1)), (6, (.int .i64 s_.2))], h := [] } k = optC (I.placesWith_run3 x0 x1 n s_) (fun (r : Int) => k (.exit 0) { n := 23, t := [(5, (.int .i64 r))], h := [] }) none := by
  induction n generalizing s_ with
  | zero => rfl
  | succ n ih =>
    have hu : I.placesWith_L3 (n + 1) { n := 23, t := [(0, (.ro false (.ints .i64 x0))), (1, (.int .i64 x1)), (5, (.int .i64 s_.1)), (6, (.int .i64 s_.2))], h := [] } k = I.placesWith_step3 x0 x1 s_.1 s_.2 (fun s_ => I.placesWith_L3 n { n := 23, t := [(0, (.ro false (.ints .i64 x0))), (1, (.int .i64 x1)), (5, (.int .i64 s_.1)), (6, (.int .i64 s_.2))], h := [] } k) (fun d => k (.exit 0) { n := 23, t := [(5, (.int .i64 d))], h := [] }) none := by
      kernel_rfl
    have hs : (fun s_ : Int × Int => I.placesWith_L3 n { n := 23, t := [(0, (.ro false (.ints .i64 x0))), (1, (.int .i64 x1)), (5, (.int .i64 s_.1)), (6, (.int .i64 s_.2))], h := [] } k) = fun s_ => optC (I.placesWith_run3 x0 x1 n s_) (fun (r : Int) => k (.exit 0) { n := 23, t := [(5, (.int .i64 r))], h := [] }) none := funext ih
    rw [hu, hs]
    exact (I.placesWith_step3_nat (fun o => optC o (fun (r : Int) => k (.exit 0) { n := 23, t := [(5, (.int .i64 r))], h := [] }) none) x0 x1 s_.1 s_.2 (I.placesWith_run3 x0 x1 n) (fun d => some d) none).symm
noncomputable def I.placesWith_tree {α : Type} (row : List Int) (number : Int) (leaf0_ : Int → α) (fail_ : α) : α :=
  (optC (I.placesWith_run3 row number FUEL (0, 0)) (fun qy_2 => (leaf0_ qy_2)) fail_)
theorem I.placesWith_tree_nat {α γ : Type} (g : α → γ) (row : List Int) (number : Int) (leaf0_ : Int → α) (fail_ : α) : g (I.placesWith_tree row number leaf0_ fail_) = I.placesWith_tree row number (fun d => g (leaf0_ d)) (g fail_) := by
  unfold I.placesWith_tree; simp only [apply_cnd g, apply_optC g, apply_sumC g]
noncomputable def I.placesWith_t (row : List Int) (number : Int) : Option (Int) := I.placesWith_tree row number (fun d => some d) none
theorem I.placesWith_den (row : List Int) (number : Int) (κ : V → List E → R) : I.placesWith_F [.ro false (.ints .i64 row), .int .i64 number] [] κ = optC (I.placesWith_t row number) (fun (r : Int) => κ (.int .i64 r) []) none := by
  have hu : I.placesWith_F [.ro false (.ints .i64 row), .int .i64 number] [] κ = I.placesWith_tree row number (fun d => κ (.int .i64 d) []) none := by
    refine Eq.trans (show I.placesWith_F [.ro false (.ints .i64 row), .int .i64 number] [] κ = (I.placesWith_L3 FUEL { n := 23, t := [(0, (.ro false (.ints .i64 row))), (1, (.int .i64 number)), (5, (.int .i64 0)), (6, (.int .i64 0))], h := [] } (I.placesWith_k3 κ)) by kernel_rfl) ?_
    refine (I.placesWith_L3_run row number FUEL (0, 0) (I.placesWith_k3 κ)).trans (optC_congr (fun qy_2 => ?_))
    kernel_rfl
  rw [hu]
  exact (I.placesWith_tree_nat (fun o => optC o (fun (r : Int) => κ (.int .i64 r) []) none) row number (fun d => some d) none).symm
noncomputable def I.placesWith_s : D.Spec where
  keep := false
  pure := true
  ds := [.int .i64, .invalid]
  sp := fun args h κ => match args, h with
    | [.ro false (.ints .i64 row), .int .i64 number], [] => optC (I.placesWith_t row number) (fun (r : Int) => κ (.int .i64 r) []) none
    | _, _ => none
theorem I.placesWith_ok : SpecOk Try.prog 72 I.placesWith_s := by
  refine SpecOk.of TDok mixed (T := I.placesWith_T) ?_ (ann := I.placesWith_ann) Try.func72 rfl (by decide +kernel) ?_ ?_ ?_
  · intro p hp
    simp only [I.placesWith_T, List.mem_cons, List.not_mem_nil, or_false] at hp
    rcases hp with rfl
    · exact I.with_ok
  · intro args h κ r hh
    simp only [I.placesWith_s] at hh
    split at hh
    · exact (I.placesWith_den _ _ κ).trans hh
    · cases hh
  · intro args h κ r hh
    simp only [I.placesWith_s] at hh ⊢
    split at hh
    · exact optC_law2 (F := fun (r : Int) κ => κ (.int .i64 r) []) (fun b κ r hb => ⟨_, _, hb, fun _ => rfl⟩) hh
    · cases hh
  · intro _ args h κ r hh
    simp only [I.placesWith_s] at hh
    split at hh
    · exact ⟨rfl, fun _ => rfl⟩
    · cases hh

-- loop.example/guardsonnets/impl.ballIn
noncomputable def I.ballIn_T : List (Nat × D.Spec) := []
def I.ballIn_ann : Nat → List Nat × List Nat
  | _ => ([], [])
noncomputable def I.ballIn_F (args : List V) (h : List E) (κ : V → List E → R) : R := funC TD (tableK I.ballIn_T) I.ballIn_ann (drawOk TD (tableP I.ballIn_T)) FUEL Try.f69 args h κ
noncomputable def I.ballIn_tree {α : Type} (net : List Int) (place : Int) (leaf0_ : Int → α) (fail_ : α) : α :=
  (bif decide (0 ≤ place) && decide (place < (↑net.length : Int)) then (bif decide (place < 0) then fail_ else (leaf0_ (bits BinOp.or IntKind.i64 (eli net place.toNat) (IntKind.i64.wrap (1 * 2 ^ min place.toNat IntKind.i64.bits))))) else fail_)
theorem I.ballIn_tree_nat {α γ : Type} (g : α → γ) (net : List Int) (place : Int) (leaf0_ : Int → α) (fail_ : α) : g (I.ballIn_tree net place leaf0_ fail_) = I.ballIn_tree net place (fun d => g (leaf0_ d)) (g fail_) := by
  unfold I.ballIn_tree; simp only [apply_cnd g, apply_optC g, apply_sumC g]
noncomputable def I.ballIn_t (net : List Int) (place : Int) : Option (Int) := I.ballIn_tree net place (fun d => some d) none
theorem I.ballIn_den (net : List Int) (place : Int) (κ : V → List E → R) : I.ballIn_F [.ro false (.ints .i64 net), .int .i64 place] [] κ = optC (I.ballIn_t net place) (fun (r : Int) => κ (.int .i64 r) []) none := by
  have hu : I.ballIn_F [.ro false (.ints .i64 net), .int .i64 place] [] κ = I.ballIn_tree net place (fun d => κ (.int .i64 d) []) none := by
    kernel_rfl
  rw [hu]
  exact (I.ballIn_tree_nat (fun o => optC o (fun (r : Int) => κ (.int .i64 r) []) none) net place (fun d => some d) none).symm
noncomputable def I.ballIn_s : D.Spec where
  keep := false
  pure := true
  ds := [.int .i64, .invalid]
  sp := fun args h κ => match args, h with
    | [.ro false (.ints .i64 net), .int .i64 place], [] => optC (I.ballIn_t net place) (fun (r : Int) => κ (.int .i64 r) []) none
    | _, _ => none
theorem I.ballIn_ok : SpecOk Try.prog 69 I.ballIn_s := by
  refine SpecOk.of TDok mixed (T := I.ballIn_T) ?_ (ann := I.ballIn_ann) Try.func69 rfl (by decide +kernel) ?_ ?_ ?_
  · intro p hp; cases hp
  · intro args h κ r hh
    simp only [I.ballIn_s] at hh
    split at hh
    · exact (I.ballIn_den _ _ κ).trans hh
    · cases hh
  · intro args h κ r hh
    simp only [I.ballIn_s] at hh ⊢
    split at hh
    · exact optC_law2 (F := fun (r : Int) κ => κ (.int .i64 r) []) (fun b κ r hb => ⟨_, _, hb, fun _ => rfl⟩) hh
    · cases hh
  · intro _ args h κ r hh
    simp only [I.ballIn_s] at hh
    split at hh
    · exact ⟨rfl, fun _ => rfl⟩
    · cases hh

-- loop.example/guardsonnets/impl.seenIn
noncomputable def I.seenIn_T : List (Nat × D.Spec) := [(52, I.hasPlace_s), (69, I.ballIn_s)]
def I.seenIn_ann : Nat → List Nat × List Nat
  | 3 => ([0, 1, 5, 6], [5])
  | _ => ([], [])
noncomputable def I.seenIn_F (args : List V) (h : List E) (κ : V → List E → R) : R := funC TD (tableK I.seenIn_T) I.seenIn_ann (drawOk TD (tableP I.seenIn_T)) FUEL Try.f74 args h κ
noncomputable def I.seenIn_L3 (n : Nat) (σ : St) (k : X → St → R) : R := iterC 0 (fun σ k => denC TD (tableK I.seenIn_T) I.seenIn_ann (drawOk TD (tableP I.seenIn_T)) 0 FUEL ((findLoop 3 (Try.f74.body.getD .skip)).getD .skip) σ k) [0, 1, 5, 6] [5] n σ k
noncomputable def I.seenIn_k3 (κ : V → List E → R) : X → St → R := (afterC TD (tableK I.seenIn_T) I.seenIn_ann (drawOk TD (tableP I.seenIn_T)) 0 FUEL 3 (Try.f74.body.getD .skip) (finC TD 0 Try.f74 κ)).getD (fun _ _ => none)
noncomputable def I.seenIn_step3 {α : Type} (x0 : List Int) (x1 : Int) (x5 : Int) (x6 : Int) (next_ : Int × Int → α) (out0_ : Int → α) (fail_ : α) : α :=
  (bif decide (x6 < (↑x0.length : Int)) then (optC (I.hasPlace_t x1 x6) (fun c_1 => (bif c_1 then (optC (I.ballIn_t x0 x6) (fun c_2 => (next_ (bits BinOp.or IntKind.i64 x5 c_2, IntKind.i64.wrap (x6 + 1)))) fail_) else (next_ (x5, IntKind.i64.wrap (x6 + 1))))) fail_) else (out0_ x5))
theorem I.seenIn_step3_nat {α γ : Type} (g : α → γ) (x0 : List Int) (x1 : Int) (x5 : Int) (x6 : Int) (next_ : Int × Int → α) (out0_ : Int → α) (fail_ : α) : g (I.seenIn_step3 x0 x1 x5 x6 next_ out0_ fail_) = I.seenIn_step3 x0 x1 x5 x6 (fun s => g (next_ s)) (fun d => g (out0_ d)) (g fail_) := by
  unfold I.seenIn_step3; simp only [apply_cnd g, apply_optC g, apply_sumC g]
noncomputable def I.seenIn_run3 (x0 : List Int) (x1 : Int) : Nat → Int × Int → Option (Int)
  | 0, _ => none
  | n + 1, s_ => I.seenIn_step3 x0 x1 s_.1 s_.2 (I.seenIn_run3 x0 x1 n) (fun d => some d) none
theorem I.seenIn_L3_run (x0 : List Int) (x1 : Int) (n : Nat) (s_ : Int × Int) (k : X → St → R) : I.seenIn_L3 n { n := 22, t := [(0, (.ro false (.ints .i64 x0))), (1, (.int .i64 x1)), (5, (.int .i64 s_.1)), (6, (.int .i64 s_.2))], h := [] } k = optC (I.seenIn_run3 x0 x1 n s_) (fun (r : Int) => k (.exit 0) { n := 22, t := [(5, (.int .i64 r))], h := [] }) none := by
  induction n generalizing s_ with
  | zero => rfl
  | succ n ih =>
    have hu : I.seenIn_L3 (n + 1) { n := 22, t := [(0, (.ro false (.ints .i64 x0))), (1, (.int .i64 x1)), (5, (.int .i64 s_.1)), (6, (.int .i64 s_.2))], h := [] } k = I.seenIn_step3 x0 x1 s_.1 s_.2 (fun s_ => I.seenIn_L3 n { n := 22, t := [(0, (.ro false (.ints .i64 x0))), (1, (.int .i64 x1)), (5, (.int .i64 s_.1)), (6, (.int .i64 s_.2))], h := [] } k) (fun d => k (.exit 0) { n := 22, t := [(5, (.int .i64 d))], h := [] }) none := by
      kernel_rfl
    have hs : (fun s_ : Int × Int => I.seenIn_L3 n { n := 22, t := [(0, (.ro false (.ints .i64 x0))), (1, (.int .i64 x1)), (5, (.int .i64 s_.1)), (6, (.int .i64 s_.2))], h := [] } k) = fun s_ => optC (I.seenIn_run3 x0 x1 n s_) (fun (r : Int) => k (.exit 0) { n := 22, t := [(5, (.int .i64 r))], h := [] }) none := funext ih
    rw [hu, hs]
    exact (I.seenIn_step3_nat (fun o => optC o (fun (r : Int) => k (.exit 0) { n := 22, t := [(5, (.int .i64 r))], h := [] }) none) x0 x1 s_.1 s_.2 (I.seenIn_run3 x0 x1 n) (fun d => some d) none).symm
noncomputable def I.seenIn_tree {α : Type} (net : List Int) (set_ : Int) (leaf0_ : Int → α) (fail_ : α) : α :=
  (optC (I.seenIn_run3 net set_ FUEL (0, 0)) (fun qy_3 => (leaf0_ qy_3)) fail_)
theorem I.seenIn_tree_nat {α γ : Type} (g : α → γ) (net : List Int) (set_ : Int) (leaf0_ : Int → α) (fail_ : α) : g (I.seenIn_tree net set_ leaf0_ fail_) = I.seenIn_tree net set_ (fun d => g (leaf0_ d)) (g fail_) := by
  unfold I.seenIn_tree; simp only [apply_cnd g, apply_optC g, apply_sumC g]
noncomputable def I.seenIn_t (net : List Int) (set_ : Int) : Option (Int) := I.seenIn_tree net set_ (fun d => some d) none
theorem I.seenIn_den (net : List Int) (set_ : Int) (κ : V → List E → R) : I.seenIn_F [.ro false (.ints .i64 net), .int .i64 set_] [] κ = optC (I.seenIn_t net set_) (fun (r : Int) => κ (.int .i64 r) []) none := by
  have hu : I.seenIn_F [.ro false (.ints .i64 net), .int .i64 set_] [] κ = I.seenIn_tree net set_ (fun d => κ (.int .i64 d) []) none := by
    refine Eq.trans (show I.seenIn_F [.ro false (.ints .i64 net), .int .i64 set_] [] κ = (I.seenIn_L3 FUEL { n := 22, t := [(0, (.ro false (.ints .i64 net))), (1, (.int .i64 set_)), (5, (.int .i64 0)), (6, (.int .i64 0))], h := [] } (I.seenIn_k3 κ)) by kernel_rfl) ?_
    refine (I.seenIn_L3_run net set_ FUEL (0, 0) (I.seenIn_k3 κ)).trans (optC_congr (fun qy_3 => ?_))
    kernel_rfl
  rw [hu]
  exact (I.seenIn_tree_nat (fun o => optC o (fun (r : Int) => κ (.int .i64 r) []) none) net set_ (fun d => some d) none).symm
noncomputable def I.seenIn_s : D.Spec where
  keep := false
  pure := true
  ds := [.int .i64, .invalid]
  sp := fun args h κ => match args, h with
    | [.ro false (.ints .i64 net), .int .i64 set_], [] => optC (I.seenIn_t net set_) (fun (r : Int) => κ (.int .i64 r) []) none
    | _, _ => none
theorem I.seenIn_ok : SpecOk Try.prog 74 I.seenIn_s := by
  refine SpecOk.of TDok mixed (T := I.seenIn_T) ?_ (ann := I.seenIn_ann) Try.func74 rfl (by decide +kernel) ?_ ?_ ?_
  · intro p hp
    simp only [I.seenIn_T, List.mem_cons, List.not_mem_nil, or_false] at hp
    rcases hp with rfl | rfl
    · exact I.hasPlace_ok
    · exact I.ballIn_ok
  · intro args h κ r hh
    simp only [I.seenIn_s] at hh
    split at hh
    · exact (I.seenIn_den _ _ κ).trans hh
    · cases hh
  · intro args h κ r hh
    simp only [I.seenIn_s] at hh ⊢
    split at hh
    · exact optC_law2 (F := fun (r : Int) κ => κ (.int .i64 r) []) (fun b κ r hb => ⟨_, _, hb, fun _ => rfl⟩) hh
    · cases hh
  · intro _ args h κ r hh
    simp only [I.seenIn_s] at hh
    split at hh
    · exact ⟨rfl, fun _ => rfl⟩
    · cases hh

-- loop.example/guardsonnets/impl.allOf
noncomputable def I.allOf_T : List (Nat × D.Spec) := []
def I.allOf_ann : Nat → List Nat × List Nat
  | _ => ([], [])
noncomputable def I.allOf_F (args : List V) (h : List E) (κ : V → List E → R) : R := funC TD (tableK I.allOf_T) I.allOf_ann (drawOk TD (tableP I.allOf_T)) FUEL Try.f68 args h κ
noncomputable def I.allOf_tree {α : Type} (net : List Int) (leaf0_ : Int → α) (fail_ : α) : α :=
  (leaf0_ (IntKind.i64.wrap (IntKind.i64.wrap (1 * 2 ^ min (↑net.length : Int).toNat IntKind.i64.bits) - 1)))
theorem I.allOf_tree_nat {α γ : Type} (g : α → γ) (net : List Int) (leaf0_ : Int → α) (fail_ : α) : g (I.allOf_tree net leaf0_ fail_) = I.allOf_tree net (fun d => g (leaf0_ d)) (g fail_) := by
  unfold I.allOf_tree; simp only [apply_cnd g, apply_optC g, apply_sumC g]
noncomputable def I.allOf_t (net : List Int) : Option (Int) := I.allOf_tree net (fun d => some d) none
theorem I.allOf_den (net : List Int) (κ : V → List E → R) : I.allOf_F [.ro false (.ints .i64 net)] [] κ = optC (I.allOf_t net) (fun (r : Int) => κ (.int .i64 r) []) none := by
  have hu : I.allOf_F [.ro false (.ints .i64 net)] [] κ = I.allOf_tree net (fun d => κ (.int .i64 d) []) none := by
    kernel_rfl
  rw [hu]
  exact (I.allOf_tree_nat (fun o => optC o (fun (r : Int) => κ (.int .i64 r) []) none) net (fun d => some d) none).symm
noncomputable def I.allOf_s : D.Spec where
  keep := false
  pure := true
  ds := [.int .i64]
  sp := fun args h κ => match args, h with
    | [.ro false (.ints .i64 net)], [] => optC (I.allOf_t net) (fun (r : Int) => κ (.int .i64 r) []) none
    | _, _ => none
theorem I.allOf_ok : SpecOk Try.prog 68 I.allOf_s := by
  refine SpecOk.of TDok mixed (T := I.allOf_T) ?_ (ann := I.allOf_ann) Try.func68 rfl (by decide +kernel) ?_ ?_ ?_
  · intro p hp; cases hp
  · intro args h κ r hh
    simp only [I.allOf_s] at hh
    split at hh
    · exact (I.allOf_den _ κ).trans hh
    · cases hh
  · intro args h κ r hh
    simp only [I.allOf_s] at hh ⊢
    split at hh
    · exact optC_law2 (F := fun (r : Int) κ => κ (.int .i64 r) []) (fun b κ r hb => ⟨_, _, hb, fun _ => rfl⟩) hh
    · cases hh
  · intro _ args h κ r hh
    simp only [I.allOf_s] at hh
    split at hh
    · exact ⟨rfl, fun _ => rfl⟩
    · cases hh

-- loop.example/guardsonnets/impl.watchIn
noncomputable def I.watchIn_T : List (Nat × D.Spec) := [(74, I.seenIn_s), (68, I.allOf_s)]
def I.watchIn_ann : Nat → List Nat × List Nat
  | _ => ([], [])
noncomputable def I.watchIn_F (args : List V) (h : List E) (κ : V → List E → R) : R := funC TD (tableK I.watchIn_T) I.watchIn_ann (drawOk TD (tableP I.watchIn_T)) FUEL Try.f62 args h κ
noncomputable def I.watchIn_tree {α : Type} (net : List Int) (set_ : Int) (leaf0_ : Bool → α) (fail_ : α) : α :=
  (optC (I.seenIn_t net set_) (fun c_1 => (optC (I.allOf_t net) (fun c_2 => (leaf0_ (c_1 == c_2))) fail_)) fail_)
theorem I.watchIn_tree_nat {α γ : Type} (g : α → γ) (net : List Int) (set_ : Int) (leaf0_ : Bool → α) (fail_ : α) : g (I.watchIn_tree net set_ leaf0_ fail_) = I.watchIn_tree net set_ (fun d => g (leaf0_ d)) (g fail_) := by
  unfold I.watchIn_tree; simp only [apply_cnd g, apply_optC g, apply_sumC g]
noncomputable def I.watchIn_t (net : List Int) (set_ : Int) : Option (Bool) := I.watchIn_tree net set_ (fun d => some d) none
theorem I.watchIn_den (net : List Int) (set_ : Int) (κ : V → List E → R) : I.watchIn_F [.ro false (.ints .i64 net), .int .i64 set_] [] κ = optC (I.watchIn_t net set_) (fun (r : Bool) => κ (.bool r) []) none := by
  have hu : I.watchIn_F [.ro false (.ints .i64 net), .int .i64 set_] [] κ = I.watchIn_tree net set_ (fun d => κ (.bool d) []) none := by
    kernel_rfl
  rw [hu]
  exact (I.watchIn_tree_nat (fun o => optC o (fun (r : Bool) => κ (.bool r) []) none) net set_ (fun d => some d) none).symm
noncomputable def I.watchIn_s : D.Spec where
  keep := false
  pure := true
  ds := [.int .i64, .invalid]
  sp := fun args h κ => match args, h with
    | [.ro false (.ints .i64 net), .int .i64 set_], [] => optC (I.watchIn_t net set_) (fun (r : Bool) => κ (.bool r) []) none
    | _, _ => none
theorem I.watchIn_ok : SpecOk Try.prog 62 I.watchIn_s := by
  refine SpecOk.of TDok mixed (T := I.watchIn_T) ?_ (ann := I.watchIn_ann) Try.func62 rfl (by decide +kernel) ?_ ?_ ?_
  · intro p hp
    simp only [I.watchIn_T, List.mem_cons, List.not_mem_nil, or_false] at hp
    rcases hp with rfl | rfl
    · exact I.seenIn_ok
    · exact I.allOf_ok
  · intro args h κ r hh
    simp only [I.watchIn_s] at hh
    split at hh
    · exact (I.watchIn_den _ _ κ).trans hh
    · cases hh
  · intro args h κ r hh
    simp only [I.watchIn_s] at hh ⊢
    split at hh
    · exact optC_law2 (F := fun (r : Bool) κ => κ (.bool r) []) (fun b κ r hb => ⟨_, _, hb, fun _ => rfl⟩) hh
    · cases hh
  · intro _ args h κ r hh
    simp only [I.watchIn_s] at hh
    split at hh
    · exact ⟨rfl, fun _ => rfl⟩
    · cases hh

-- loop.example/guardsonnets/impl.fullShares
noncomputable def I.fullShares_T : List (Nat × D.Spec) := [(58, I.numbersOf_s), (72, I.placesWith_s), (62, I.watchIn_s)]
def I.fullShares_ann : Nat → List Nat × List Nat
  | 3 => ([0, 1, 5, 6], [5])
  | _ => ([], [])
noncomputable def I.fullShares_F (args : List V) (h : List E) (κ : V → List E → R) : R := funC TD (tableK I.fullShares_T) I.fullShares_ann (drawOk TD (tableP I.fullShares_T)) FUEL Try.f57 args h κ
noncomputable def I.fullShares_L3 (n : Nat) (σ : St) (k : X → St → R) : R := iterC 0 (fun σ k => denC TD (tableK I.fullShares_T) I.fullShares_ann (drawOk TD (tableP I.fullShares_T)) 0 FUEL ((findLoop 3 (Try.f57.body.getD .skip)).getD .skip) σ k) [0, 1, 5, 6] [5] n σ k
noncomputable def I.fullShares_k3 (κ : V → List E → R) : X → St → R := (afterC TD (tableK I.fullShares_T) I.fullShares_ann (drawOk TD (tableP I.fullShares_T)) 0 FUEL 3 (Try.f57.body.getD .skip) (finC TD 0 Try.f57 κ)).getD (fun _ _ => none)
noncomputable def I.fullShares_step3 {α : Type} (x0 : List Int) (x1 : List Int) (x5 : Int) (x6 : Int) (next_ : Int × Int → α) (out0_ : Int → α) (fail_ : α) : α :=
  (optC (I.numbersOf_t x1) (fun c_1 => (bif decide (x6 < c_1) then (optC (I.placesWith_t x1 x6) (fun c_2 => (optC (I.watchIn_t x0 c_2) (fun c_3 => (bif c_3 then (next_ (IntKind.i64.wrap (x5 + 1), IntKind.i64.wrap (x6 + 1))) else (next_ (x5, IntKind.i64.wrap (x6 + 1))))) fail_)) fail_) else (out0_ x5))) fail_)
theorem I.fullShares_step3_nat {α γ : Type} (g : α → γ) (x0 : List Int) (x1 : List Int) (x5 : Int) (x6 : Int) (next_ : Int × Int → α) (out0_ : Int → α) (fail_ : α) : g (I.fullShares_step3 x0 x1 x5 x6 next_ out0_ fail_) = I.fullShares_step3 x0 x1 x5 x6 (fun s => g (next_ s)) (fun d => g (out0_ d)) (g fail_) := by
  unfold I.fullShares_step3; simp only [apply_cnd g, apply_optC g, apply_sumC g]
noncomputable def I.fullShares_run3 (x0 : List Int) (x1 : List Int) : Nat → Int × Int → Option (Int)
  | 0, _ => none
  | n + 1, s_ => I.fullShares_step3 x0 x1 s_.1 s_.2 (I.fullShares_run3 x0 x1 n) (fun d => some d) none
theorem I.fullShares_L3_run (x0 : List Int) (x1 : List Int) (n : Nat) (s_ : Int × Int) (k : X → St → R) : I.fullShares_L3 n { n := 21, t := [(0, (.ro false (.ints .i64 x0))), (1, (.ro false (.ints .i64 x1))), (5, (.int .i64 s_.1)), (6, (.int .i64 s_.2))], h := [] } k = optC (I.fullShares_run3 x0 x1 n s_) (fun (r : Int) => k (.exit 0) { n := 21, t := [(5, (.int .i64 r))], h := [] }) none := by
  induction n generalizing s_ with
  | zero => rfl
  | succ n ih =>
    have hu : I.fullShares_L3 (n + 1) { n := 21, t := [(0, (.ro false (.ints .i64 x0))), (1, (.ro false (.ints .i64 x1))), (5, (.int .i64 s_.1)), (6, (.int .i64 s_.2))], h := [] } k = I.fullShares_step3 x0 x1 s_.1 s_.2 (fun s_ => I.fullShares_L3 n { n := 21, t := [(0, (.ro false (.ints .i64 x0))), (1, (.ro false (.ints .i64 x1))), (5, (.int .i64 s_.1)), (6, (.int .i64 s_.2))], h := [] } k) (fun d => k (.exit 0) { n := 21, t := [(5, (.int .i64 d))], h := [] }) none := by
      kernel_rfl
    have hs : (fun s_ : Int × Int => I.fullShares_L3 n { n := 21, t := [(0, (.ro false (.ints .i64 x0))), (1, (.ro false (.ints .i64 x1))), (5, (.int .i64 s_.1)), (6, (.int .i64 s_.2))], h := [] } k) = fun s_ => optC (I.fullShares_run3 x0 x1 n s_) (fun (r : Int) => k (.exit 0) { n := 21, t := [(5, (.int .i64 r))], h := [] }) none := funext ih
    rw [hu, hs]
    exact (I.fullShares_step3_nat (fun o => optC o (fun (r : Int) => k (.exit 0) { n := 21, t := [(5, (.int .i64 r))], h := [] }) none) x0 x1 s_.1 s_.2 (I.fullShares_run3 x0 x1 n) (fun d => some d) none).symm
noncomputable def I.fullShares_tree {α : Type} (net : List Int) (row : List Int) (leaf0_ : Int → α) (fail_ : α) : α :=
  (optC (I.fullShares_run3 net row FUEL (0, 0)) (fun qy_4 => (leaf0_ qy_4)) fail_)
theorem I.fullShares_tree_nat {α γ : Type} (g : α → γ) (net : List Int) (row : List Int) (leaf0_ : Int → α) (fail_ : α) : g (I.fullShares_tree net row leaf0_ fail_) = I.fullShares_tree net row (fun d => g (leaf0_ d)) (g fail_) := by
  unfold I.fullShares_tree; simp only [apply_cnd g, apply_optC g, apply_sumC g]
noncomputable def I.fullShares_t (net : List Int) (row : List Int) : Option (Int) := I.fullShares_tree net row (fun d => some d) none
theorem I.fullShares_den (net : List Int) (row : List Int) (κ : V → List E → R) : I.fullShares_F [.ro false (.ints .i64 net), .ro false (.ints .i64 row)] [] κ = optC (I.fullShares_t net row) (fun (r : Int) => κ (.int .i64 r) []) none := by
  have hu : I.fullShares_F [.ro false (.ints .i64 net), .ro false (.ints .i64 row)] [] κ = I.fullShares_tree net row (fun d => κ (.int .i64 d) []) none := by
    refine Eq.trans (show I.fullShares_F [.ro false (.ints .i64 net), .ro false (.ints .i64 row)] [] κ = (I.fullShares_L3 FUEL { n := 21, t := [(0, (.ro false (.ints .i64 net))), (1, (.ro false (.ints .i64 row))), (5, (.int .i64 0)), (6, (.int .i64 0))], h := [] } (I.fullShares_k3 κ)) by kernel_rfl) ?_
    refine (I.fullShares_L3_run net row FUEL (0, 0) (I.fullShares_k3 κ)).trans (optC_congr (fun qy_4 => ?_))
    kernel_rfl
  rw [hu]
  exact (I.fullShares_tree_nat (fun o => optC o (fun (r : Int) => κ (.int .i64 r) []) none) net row (fun d => some d) none).symm
noncomputable def I.fullShares_s : D.Spec where
  keep := false
  pure := true
  ds := [.int .i64, .int .i64]
  sp := fun args h κ => match args, h with
    | [.ro false (.ints .i64 net), .ro false (.ints .i64 row)], [] => optC (I.fullShares_t net row) (fun (r : Int) => κ (.int .i64 r) []) none
    | _, _ => none
theorem I.fullShares_ok : SpecOk Try.prog 57 I.fullShares_s := by
  refine SpecOk.of TDok mixed (T := I.fullShares_T) ?_ (ann := I.fullShares_ann) Try.func57 rfl (by decide +kernel) ?_ ?_ ?_
  · intro p hp
    simp only [I.fullShares_T, List.mem_cons, List.not_mem_nil, or_false] at hp
    rcases hp with rfl | rfl | rfl
    · exact I.numbersOf_ok
    · exact I.placesWith_ok
    · exact I.watchIn_ok
  · intro args h κ r hh
    simp only [I.fullShares_s] at hh
    split at hh
    · exact (I.fullShares_den _ _ κ).trans hh
    · cases hh
  · intro args h κ r hh
    simp only [I.fullShares_s] at hh ⊢
    split at hh
    · exact optC_law2 (F := fun (r : Int) κ => κ (.int .i64 r) []) (fun b κ r hb => ⟨_, _, hb, fun _ => rfl⟩) hh
    · cases hh
  · intro _ args h κ r hh
    simp only [I.fullShares_s] at hh
    split at hh
    · exact ⟨rfl, fun _ => rfl⟩
    · cases hh

-- loop.example/guardsonnets/impl.ShareRowOk
noncomputable def I.ShareRowOk_T : List (Nat × D.Spec) := [(18, I.NetOk_s), (56, I.countsUp_s), (57, I.fullShares_s), (58, I.numbersOf_s)]
def I.ShareRowOk_ann : Nat → List Nat × List Nat
  | _ => ([], [])
noncomputable def I.ShareRowOk_F (args : List V) (h : List E) (κ : V → List E → R) : R := funC TD (tableK I.ShareRowOk_T) I.ShareRowOk_ann (drawOk TD (tableP I.ShareRowOk_T)) FUEL Try.f25 args h κ
noncomputable def I.ShareRowOk_tree {α : Type} (net : List Int) (row : List Int) (leaf0_ : Bool → α) (fail_ : α) : α :=
  (optC (I.NetOk_t net) (fun c_1 => (bif c_1 then (bif (↑row.length : Int) == (↑net.length : Int) then (optC (I.countsUp_t row) (fun c_2 => (bif c_2 then (optC (I.fullShares_t net row) (fun c_3 => (optC (I.numbersOf_t row) (fun c_4 => (leaf0_ (c_3 == c_4))) fail_)) fail_) else (leaf0_ false))) fail_) else (leaf0_ false)) else (leaf0_ false))) fail_)
theorem I.ShareRowOk_tree_nat {α γ : Type} (g : α → γ) (net : List Int) (row : List Int) (leaf0_ : Bool → α) (fail_ : α) : g (I.ShareRowOk_tree net row leaf0_ fail_) = I.ShareRowOk_tree net row (fun d => g (leaf0_ d)) (g fail_) := by
  unfold I.ShareRowOk_tree; simp only [apply_cnd g, apply_optC g, apply_sumC g]
noncomputable def I.ShareRowOk_t (net : List Int) (row : List Int) : Option (Bool) := I.ShareRowOk_tree net row (fun d => some d) none
theorem I.ShareRowOk_den (net : List Int) (row : List Int) (κ : V → List E → R) : I.ShareRowOk_F [.ro false (.ints .i64 net), .ro false (.ints .i64 row)] [] κ = optC (I.ShareRowOk_t net row) (fun (r : Bool) => κ (.bool r) []) none := by
  have hu : I.ShareRowOk_F [.ro false (.ints .i64 net), .ro false (.ints .i64 row)] [] κ = I.ShareRowOk_tree net row (fun d => κ (.bool d) []) none := by
    kernel_rfl
  rw [hu]
  exact (I.ShareRowOk_tree_nat (fun o => optC o (fun (r : Bool) => κ (.bool r) []) none) net row (fun d => some d) none).symm
noncomputable def I.ShareRowOk_s : D.Spec where
  keep := false
  pure := true
  ds := [.int .i64, .int .i64]
  sp := fun args h κ => match args, h with
    | [.ro false (.ints .i64 net), .ro false (.ints .i64 row)], [] => optC (I.ShareRowOk_t net row) (fun (r : Bool) => κ (.bool r) []) none
    | _, _ => none
theorem I.ShareRowOk_ok : SpecOk Try.prog 25 I.ShareRowOk_s := by
  refine SpecOk.of TDok mixed (T := I.ShareRowOk_T) ?_ (ann := I.ShareRowOk_ann) Try.func25 rfl (by decide +kernel) ?_ ?_ ?_
  · intro p hp
    simp only [I.ShareRowOk_T, List.mem_cons, List.not_mem_nil, or_false] at hp
    rcases hp with rfl | rfl | rfl | rfl
    · exact I.NetOk_ok
    · exact I.countsUp_ok
    · exact I.fullShares_ok
    · exact I.numbersOf_ok
  · intro args h κ r hh
    simp only [I.ShareRowOk_s] at hh
    split at hh
    · exact (I.ShareRowOk_den _ _ κ).trans hh
    · cases hh
  · intro args h κ r hh
    simp only [I.ShareRowOk_s] at hh ⊢
    split at hh
    · exact optC_law2 (F := fun (r : Bool) κ => κ (.bool r) []) (fun b κ r hb => ⟨_, _, hb, fun _ => rfl⟩) hh
    · cases hh
  · intro _ args h κ r hh
    simp only [I.ShareRowOk_s] at hh
    split at hh
    · exact ⟨rfl, fun _ => rfl⟩
    · cases hh

-- loop.example/guardsonnets/laws.setOf
noncomputable def L.setOf_T : List (Nat × D.Spec) := []
def L.setOf_ann : Nat → List Nat × List Nat
  | 3 => ([0, 1, 5, 6], [5])
  | _ => ([], [])
noncomputable def L.setOf_F (args : List V) (h : List E) (κ : V → List E → R) : R := funC TD (tableK L.setOf_T) L.setOf_ann (drawOk TD (tableP L.setOf_T)) FUEL Try.f28 args h κ
noncomputable def L.setOf_L3 (n : Nat) (σ : St) (k : X → St → R) : R := iterC 0 (fun σ k => denC TD (tableK L.setOf_T) L.setOf_ann (drawOk TD (tableP L.setOf_T)) 0 FUEL ((findLoop 3 (Try.f28.body.getD .skip)).getD .skip) σ k) [0, 1, 5, 6] [5] n σ k
noncomputable def L.setOf_k3 (κ : V → List E → R) : X → St → R := (afterC TD (tableK L.setOf_T) L.setOf_ann (drawOk TD (tableP L.setOf_T)) 0 FUEL 3 (Try.f28.body.getD .skip) (finC TD 0 Try.f28 κ)).getD (fun _ _ => none)
noncomputable def L.setOf_step3 {α : Type} (x0 : List Int) (x1 : Int) (x5 : Int) (x6 : Int) (next_ : Int × Int → α) (out0_ : Int → α) (fail_ : α) : α :=
  (bif decide (x6 < (↑x0.length : Int)) then (bif decide (0 ≤ x6) && decide (x6 < (↑x0.length : Int)) then (bif eli x0 x6.toNat == x1 then (bif decide (x6 < 0) then fail_ else (next_ (bits BinOp.or IntKind.i64 x5 (IntKind.i64.wrap (1 * 2 ^ min x6.toNat IntKind.i64.bits)), IntKind.i64.wrap (x6 + 1)))) else (next_ (x5, IntKind.i64.wrap (x6 + 1)))) else fail_) else (out0_ x5))
theorem L.setOf_step3_nat {α γ : Type} (g : α → γ) (x0 : List Int) (x1 : Int) (x5 : Int) (x6 : Int) (next_ : Int × Int → α) (out0_ : Int → α) (fail_ : α) : g (L.setOf_step3 x0 x1 x5 x6 next_ out0_ fail_) = L.setOf_step3 x0 x1 x5 x6 (fun s => g (next_ s)) (fun d => g (out0_ d)) (g fail_) := by
  unfold L.setOf_step3; simp only [apply_cnd g, apply_optC g, apply_sumC g]
noncomputable def L.setOf_run3 (x0 : List Int) (x1 : Int) : Nat → Int × Int → Option (Int)
  | 0, _ => none
  | n + 1, s_ => L.setOf_step3 x0 x1 s_.1 s_.2 (L.setOf_run3 x0 x1 n) (fun d => some d) none
theorem L.setOf_L3_run (x0 : List Int) (x1 : Int) (n : Nat) (s_ : Int × Int) (k : X → St → R) : L.setOf_L3 n { n := 24, t := [(0, (.ro false (.ints .i64 x0))), (1, (.int .i64 x1)), (5, (.int .i64 s_.1)), (6, (.int .i64 s_.2))], h := [] } k = optC (L.setOf_run3 x0 x1 n s_) (fun (r : Int) => k (.exit 0) { n := 24, t := [(5, (.int .i64 r))], h := [] }) none := by
  induction n generalizing s_ with
  | zero => rfl
  | succ n ih =>
    have hu : L.setOf_L3 (n + 1) { n := 24, t := [(0, (.ro false (.ints .i64 x0))), (1, (.int .i64 x1)), (5, (.int .i64 s_.1)), (6, (.int .i64 s_.2))], h := [] } k = L.setOf_step3 x0 x1 s_.1 s_.2 (fun s_ => L.setOf_L3 n { n := 24, t := [(0, (.ro false (.ints .i64 x0))), (1, (.int .i64 x1)), (5, (.int .i64 s_.1)), (6, (.int .i64 s_.2))], h := [] } k) (fun d => k (.exit 0) { n := 24, t := [(5, (.int .i64 d))], h := [] }) none := by
      kernel_rfl
    have hs : (fun s_ : Int × Int => L.setOf_L3 n { n := 24, t := [(0, (.ro false (.ints .i64 x0))), (1, (.int .i64 x1)), (5, (.int .i64 s_.1)), (6, (.int .i64 s_.2))], h := [] } k) = fun s_ => optC (L.setOf_run3 x0 x1 n s_) (fun (r : Int) => k (.exit 0) { n := 24, t := [(5, (.int .i64 r))], h := [] }) none := funext ih
    rw [hu, hs]
    exact (L.setOf_step3_nat (fun o => optC o (fun (r : Int) => k (.exit 0) { n := 24, t := [(5, (.int .i64 r))], h := [] }) none) x0 x1 s_.1 s_.2 (L.setOf_run3 x0 x1 n) (fun d => some d) none).symm
noncomputable def L.setOf_tree {α : Type} (row : List Int) (n_ : Int) (leaf0_ : Int → α) (fail_ : α) : α :=
  (optC (L.setOf_run3 row n_ FUEL (0, 0)) (fun qy_1 => (leaf0_ qy_1)) fail_)
theorem L.setOf_tree_nat {α γ : Type} (g : α → γ) (row : List Int) (n_ : Int) (leaf0_ : Int → α) (fail_ : α) : g (L.setOf_tree row n_ leaf0_ fail_) = L.setOf_tree row n_ (fun d => g (leaf0_ d)) (g fail_) := by
  unfold L.setOf_tree; simp only [apply_cnd g, apply_optC g, apply_sumC g]
noncomputable def L.setOf_t (row : List Int) (n_ : Int) : Option (Int) := L.setOf_tree row n_ (fun d => some d) none
theorem L.setOf_den (row : List Int) (n_ : Int) (κ : V → List E → R) : L.setOf_F [.ro false (.ints .i64 row), .int .i64 n_] [] κ = optC (L.setOf_t row n_) (fun (r : Int) => κ (.int .i64 r) []) none := by
  have hu : L.setOf_F [.ro false (.ints .i64 row), .int .i64 n_] [] κ = L.setOf_tree row n_ (fun d => κ (.int .i64 d) []) none := by
    refine Eq.trans (show L.setOf_F [.ro false (.ints .i64 row), .int .i64 n_] [] κ = (L.setOf_L3 FUEL { n := 24, t := [(0, (.ro false (.ints .i64 row))), (1, (.int .i64 n_)), (5, (.int .i64 0)), (6, (.int .i64 0))], h := [] } (L.setOf_k3 κ)) by kernel_rfl) ?_
    refine (L.setOf_L3_run row n_ FUEL (0, 0) (L.setOf_k3 κ)).trans (optC_congr (fun qy_1 => ?_))
    kernel_rfl
  rw [hu]
  exact (L.setOf_tree_nat (fun o => optC o (fun (r : Int) => κ (.int .i64 r) []) none) row n_ (fun d => some d) none).symm
noncomputable def L.setOf_s : D.Spec where
  keep := false
  pure := true
  ds := [.int .i64, .invalid]
  sp := fun args h κ => match args, h with
    | [.ro false (.ints .i64 row), .int .i64 n_], [] => optC (L.setOf_t row n_) (fun (r : Int) => κ (.int .i64 r) []) none
    | _, _ => none
theorem L.setOf_ok : SpecOk Try.prog 28 L.setOf_s := by
  refine SpecOk.of TDok mixed (T := L.setOf_T) ?_ (ann := L.setOf_ann) Try.func28 rfl (by decide +kernel) ?_ ?_ ?_
  · intro p hp; cases hp
  · intro args h κ r hh
    simp only [L.setOf_s] at hh
    split at hh
    · exact (L.setOf_den _ _ κ).trans hh
    · cases hh
  · intro args h κ r hh
    simp only [L.setOf_s] at hh ⊢
    split at hh
    · exact optC_law2 (F := fun (r : Int) κ => κ (.int .i64 r) []) (fun b κ r hb => ⟨_, _, hb, fun _ => rfl⟩) hh
    · cases hh
  · intro _ args h κ r hh
    simp only [L.setOf_s] at hh
    split at hh
    · exact ⟨rfl, fun _ => rfl⟩
    · cases hh

-- loop.example/guardsonnets/impl.WatchOk
noncomputable def I.WatchOk_T : List (Nat × D.Spec) := [(18, I.NetOk_s), (51, I.setIn_s), (62, I.watchIn_s)]
def I.WatchOk_ann : Nat → List Nat × List Nat
  | _ => ([], [])
noncomputable def I.WatchOk_F (args : List V) (h : List E) (κ : V → List E → R) : R := funC TD (tableK I.WatchOk_T) I.WatchOk_ann (drawOk TD (tableP I.WatchOk_T)) FUEL Try.f27 args h κ
noncomputable def I.WatchOk_tree {α : Type} (net : List Int) (set_ : Int) (leaf0_ : Bool → α) (fail_ : α) : α :=
  (optC (I.NetOk_t net) (fun c_1 => (bif c_1 then (optC (I.setIn_t net set_) (fun c_2 => (bif c_2 then (optC (I.watchIn_t net set_) (fun c_3 => (leaf0_ c_3)) fail_) else (leaf0_ false))) fail_) else (leaf0_ false))) fail_)
theorem I.WatchOk_tree_nat {α γ : Type} (g : α → γ) (net : List Int) (set_ : Int) (leaf0_ : Bool → α) (fail_ : α) : g (I.WatchOk_tree net set_ leaf0_ fail_) = I.WatchOk_tree net set_ (fun d => g (leaf0_ d)) (g fail_) := by
  unfold I.WatchOk_tree; simp only [apply_cnd g, apply_optC g, apply_sumC g]
noncomputable def I.WatchOk_t (net : List Int) (set_ : Int) : Option (Bool) := I.WatchOk_tree net set_ (fun d => some d) none
theorem I.WatchOk_den (net : List Int) (set_ : Int) (κ : V → List E → R) : I.WatchOk_F [.ro false (.ints .i64 net), .int .i64 set_] [] κ = optC (I.WatchOk_t net set_) (fun (r : Bool) => κ (.bool r) []) none := by
  have hu : I.WatchOk_F [.ro false (.ints .i64 net), .int .i64 set_] [] κ = I.WatchOk_tree net set_ (fun d => κ (.bool d) []) none := by
    kernel_rfl
  rw [hu]
  exact (I.WatchOk_tree_nat (fun o => optC o (fun (r : Bool) => κ (.bool r) []) none) net set_ (fun d => some d) none).symm
noncomputable def I.WatchOk_s : D.Spec where
  keep := false
  pure := true
  ds := [.int .i64, .invalid]
  sp := fun args h κ => match args, h with
    | [.ro false (.ints .i64 net), .int .i64 set_], [] => optC (I.WatchOk_t net set_) (fun (r : Bool) => κ (.bool r) []) none
    | _, _ => none
theorem I.WatchOk_ok : SpecOk Try.prog 27 I.WatchOk_s := by
  refine SpecOk.of TDok mixed (T := I.WatchOk_T) ?_ (ann := I.WatchOk_ann) Try.func27 rfl (by decide +kernel) ?_ ?_ ?_
  · intro p hp
    simp only [I.WatchOk_T, List.mem_cons, List.not_mem_nil, or_false] at hp
    rcases hp with rfl | rfl | rfl
    · exact I.NetOk_ok
    · exact I.setIn_ok
    · exact I.watchIn_ok
  · intro args h κ r hh
    simp only [I.WatchOk_s] at hh
    split at hh
    · exact (I.WatchOk_den _ _ κ).trans hh
    · cases hh
  · intro args h κ r hh
    simp only [I.WatchOk_s] at hh ⊢
    split at hh
    · exact optC_law2 (F := fun (r : Bool) κ => κ (.bool r) []) (fun b κ r hb => ⟨_, _, hb, fun _ => rfl⟩) hh
    · cases hh
  · intro _ args h κ r hh
    simp only [I.WatchOk_s] at hh
    split at hh
    · exact ⟨rfl, fun _ => rfl⟩
    · cases hh

-- loop.example/guardsonnets/laws.FnShareRowOk
noncomputable def L.FnShareRowOk_T : List (Nat × D.Spec) := [(24, S.DrawShareRowOk_s), (25, I.ShareRowOk_s), (26, S.ShareRowOk_s), (18, I.NetOk_s), (19, L.alive_s), (28, L.setOf_s), (27, I.WatchOk_s)]
def L.FnShareRowOk_ann : Nat → List Nat × List Nat
  | 10 => ([3, 4, 5, 6], [2, 3])
  | _ => ([], [])
noncomputable def L.FnShareRowOk_F (args : List V) (h : List E) (κ : V → List E → R) : R := funC TD (tableK L.FnShareRowOk_T) L.FnShareRowOk_ann (drawOk TD (tableP L.FnShareRowOk_T)) FUEL Try.f5 args h κ
noncomputable def L.FnShareRowOk_L10 (n : Nat) (σ : St) (k : X → St → R) : R := iterC 0 (fun σ k => denC TD (tableK L.FnShareRowOk_T) L.FnShareRowOk_ann (drawOk TD (tableP L.FnShareRowOk_T)) 0 FUEL ((findLoop 10 (Try.f5.body.getD .skip)).getD .skip) σ k) [3, 4, 5, 6] [2, 3] n σ k
noncomputable def L.FnShareRowOk_k10 (κ : V → List E → R) : X → St → R := (afterC TD (tableK L.FnShareRowOk_T) L.FnShareRowOk_ann (drawOk TD (tableP L.FnShareRowOk_T)) 0 FUEL 10 (Try.f5.body.getD .skip) (finC TD 0 Try.f5 κ)).getD (fun _ _ => none)
noncomputable def L.FnShareRowOk_step10 {α : Type} (x5 : Bool) (x6 : Int) (r0 : List Int) (r1 : List Int) (next_ : Int × (List Int) × (List Int) → α) (out0_ : Bool × (List Int) → α) (out1_ : List Int → α) (fail_ : α) : α :=
  (bif decide (x6 < (↑r1.length : Int)) then (bif x5 then (bif decide (0 ≤ x6) && decide (x6 < (↑r1.length : Int)) then (bif decide (x6.toNat < r1.length) then (optC (L.setOf_t r1 (eli r1 x6.toNat)) (fun c_6 => (optC (I.WatchOk_t r0 c_6) (fun c_7 => (bif !c_7 then (out0_ (false, r0)) else (next_ (IntKind.i64.wrap (x6 + 1), r0, r1)))) fail_)) fail_) else fail_) else fail_) else (out1_ r0)) else (out1_ r0))
theorem L.FnShareRowOk_step10_nat {α γ : Type} (g : α → γ) (x5 : Bool) (x6 : Int) (r0 : List Int) (r1 : List Int) (next_ : Int × (List Int) × (List Int) → α) (out0_ : Bool × (List Int) → α) (out1_ : List Int → α) (fail_ : α) : g (L.FnShareRowOk_step10 x5 x6 r0 r1 next_ out0_ out1_ fail_) = L.FnShareRowOk_step10 x5 x6 r0 r1 (fun s => g (next_ s)) (fun d => g (out0_ d)) (fun d => g (out1_ d)) (g fail_) := by
  unfold L.FnShareRowOk_step10; simp only [apply_cnd g, apply_optC g, apply_sumC g]
noncomputable def L.FnShareRowOk_run10 (x5 : Bool) : Nat → Int × (List Int) × (List Int) → Option ((Bool × (List Int)) ⊕ (List Int))
  | 0, _ => none
  | n + 1, s_ => L.FnShareRowOk_step10 x5 s_.1 s_.2.1 s_.2.2 (L.FnShareRowOk_run10 x5 n) (fun d => some ((Sum.inl d))) (fun d => some ((Sum.inr d))) none
theorem L.FnShareRowOk_L10_run (x5 : Bool) (n : Nat) (s_ : Int × (List Int) × (List Int)) (k : X → St → R) : L.FnShareRowOk_L10 n { n := 57, t := [(3, (.own 0)), (4, (.own 1)), (5, (.bool x5)), (6, (.int .i64 s_.1))], h := [.row (.ints .i64 s_.2.1), .row (.ints .i64 s_.2.2)] } k = optC (L.FnShareRowOk_run10 x5 n s_) (fun (r : (Bool × (List Int)) ⊕ (List Int)) => (sumC r (fun (r : Bool × (List Int)) => k (.ret) { n := 57, t := [(2, (.bool r.1)), (3, (.own 0))], h := [.row (.ints .i64 r.2)] }) (fun (r : List Int) => k (.exit 0) { n := 57, t := [(2, .junk), (3, (.own 0))], h := [.row (.ints .i64 r)] }))) none := by
  induction n generalizing s_ with
  | zero => rfl
  | succ n ih =>
    have hu : L.FnShareRowOk_L10 (n + 1) { n := 57, t := [(3, (.own 0)), (4, (.own 1)), (5, (.bool x5)), (6, (.int .i64 s_.1))], h := [.row (.ints .i64 s_.2.1), .row (.ints .i64 s_.2.2)] } k = L.FnShareRowOk_step10 x5 s_.1 s_.2.1 s_.2.2 (fun s_ => L.FnShareRowOk_L10 n { n := 57, t := [(3, (.own 0)), (4, (.own 1)), (5, (.bool x5)), (6, (.int .i64 s_.1))], h := [.row (.ints .i64 s_.2.1), .row (.ints .i64 s_.2.2)] } k) (fun d => k (.ret) { n := 57, t := [(2, (.bool d.1)), (3, (.own 0))], h := [.row (.ints .i64 d.2)] }) (fun d => k (.exit 0) { n := 57, t := [(2, .junk), (3, (.own 0))], h := [.row (.ints .i64 d)] }) none := by
      kernel_rfl
    have hs : (fun s_ : Int × (List Int) × (List Int) => L.FnShareRowOk_L10 n { n := 57, t := [(3, (.own 0)), (4, (.own 1)), (5, (.bool x5)), (6, (.int .i64 s_.1))], h := [.row (.ints .i64 s_.2.1), .row (.ints .i64 s_.2.2)] } k) = fun s_ => optC (L.FnShareRowOk_run10 x5 n s_) (fun (r : (Bool × (List Int)) ⊕ (List Int)) => (sumC r (fun (r : Bool × (List Int)) => k (.ret) { n := 57, t := [(2, (.bool r.1)), (3, (.own 0))], h := [.row (.ints .i64 r.2)] }) (fun (r : List Int) => k (.exit 0) { n := 57, t := [(2, .junk), (3, (.own 0))], h := [.row (.ints .i64 r)] }))) none := funext ih
    rw [hu, hs]
    exact (L.FnShareRowOk_step10_nat (fun o => optC o (fun (r : (Bool × (List Int)) ⊕ (List Int)) => (sumC r (fun (r : Bool × (List Int)) => k (.ret) { n := 57, t := [(2, (.bool r.1)), (3, (.own 0))], h := [.row (.ints .i64 r.2)] }) (fun (r : List Int) => k (.exit 0) { n := 57, t := [(2, .junk), (3, (.own 0))], h := [.row (.ints .i64 r)] }))) none) x5 s_.1 s_.2.1 s_.2.2 (L.FnShareRowOk_run10 x5 n) (fun d => some ((Sum.inl d))) (fun d => some ((Sum.inr d))) none).symm
noncomputable def L.FnShareRowOk_tree {α : Type} (code : List Int) (leaf0_ : Bool → α) (fail_ : α) : α :=
  (bif decide ((↑code.length : Int) > 1048576) then (leaf0_ true) else (optC (S.DrawShareRowOk_t code) (fun c_1 => (optC (I.ShareRowOk_t c_1.fst c_1.snd) (fun c_2 => (optC (S.ShareRowOk_t c_1.fst c_1.snd) (fun c_3 => (bif !c_2 == c_3 then (leaf0_ false) else (optC (I.NetOk_t c_1.fst) (fun c_4 => (bif !c_4 then (bif !c_2 then (optC (L.alive_t) (fun c_5 => (leaf0_ c_5)) fail_) else (leaf0_ false)) else (optC (L.FnShareRowOk_run10 c_2 FUEL (0, c_1.fst, c_1.snd)) (fun qy_8 => (sumC qy_8 (fun (qy_8 : Bool × (List Int)) => (leaf0_ qy_8.1)) (fun (qy_8 : List Int) => (bif small (↑qy_8.length : Int).toNat && true then (optC (I.ShareRowOk_t qy_8 (List.replicate (↑qy_8.length : Int).toNat 0)) (fun c_9 => (bif c_9 then (optC (L.alive_t) (fun c_10 => (leaf0_ c_10)) fail_) else (leaf0_ false))) fail_) else fail_)))) fail_))) fail_))) fail_)) fail_)) fail_))
theorem L.FnShareRowOk_tree_nat {α γ : Type} (g : α → γ) (code : List Int) (leaf0_ : Bool → α) (fail_ : α) : g (L.FnShareRowOk_tree code leaf0_ fail_) = L.FnShareRowOk_tree code (fun d => g (leaf0_ d)) (g fail_) := by
  unfold L.FnShareRowOk_tree; simp only [apply_cnd g, apply_optC g, apply_sumC g]
noncomputable def L.FnShareRowOk_t (code : List Int) : Option (Bool) := L.FnShareRowOk_tree code (fun d => some d) none
theorem L.FnShareRowOk_den (code : List Int) (κ : V → List E → R) : L.FnShareRowOk_F [.ro true (.ints .u8 code)] [] κ = optC (L.FnShareRowOk_t code) (fun (r : Bool) => κ (.bool r) []) none := by
  have hu : L.FnShareRowOk_F [.ro true (.ints .u8 code)] [] κ = L.FnShareRowOk_tree code (fun d => κ (.bool d) []) none := by
    refine Eq.trans (show L.FnShareRowOk_F [.ro true (.ints .u8 code)] [] κ = (bif decide ((↑code.length : Int) > 1048576) then (κ (.bool true) []) else (optC (S.DrawShareRowOk_t code) (fun c_1 => (optC (I.ShareRowOk_t c_1.fst c_1.snd) (fun c_2 => (optC (S.ShareRowOk_t c_1.fst c_1.snd) (fun c_3 => (bif !c_2 == c_3 then (κ (.bool false) []) else (optC (I.NetOk_t c_1.fst) (fun c_4 => (bif !c_4 then (bif !c_2 then (optC (L.alive_t) (fun c_5 => (κ (.bool c_5) [])) none) else (κ (.bool false) [])) else (L.FnShareRowOk_L10 FUEL { n := 57, t := [(3, (.own 0)), (4, (.own 1)), (5, (.bool c_2)), (6, (.int .i64 0))], h := [.row (.ints .i64 c_1.fst), .row (.ints .i64 c_1.snd)] } (L.FnShareRowOk_k10 κ)))) none))) none)) none)) none)) by kernel_rfl) ?_
    refine cnd_congr ?_ ?_
    · kernel_rfl
    · refine optC_congr (fun c_1 => ?_)
      refine optC_congr (fun c_2 => ?_)
      refine optC_congr (fun c_3 => ?_)
      refine cnd_congr ?_ ?_
      · kernel_rfl
      · refine optC_congr (fun c_4 => ?_)
        refine cnd_congr ?_ ?_
        · kernel_rfl
        · refine (L.FnShareRowOk_L10_run c_2 FUEL (0, c_1.fst, c_1.snd) (L.FnShareRowOk_k10 κ)).trans (optC_congr (fun qy_8 => ?_))
          rcases qy_8 with qy_8 | qy_8
          · kernel_rfl
          · kernel_rfl
  rw [hu]
  exact (L.FnShareRowOk_tree_nat (fun o => optC o (fun (r : Bool) => κ (.bool r) []) none) code (fun d => some d) none).symm
noncomputable def L.FnShareRowOk_s : D.Spec where
  keep := true
  pure := true
  ds := [.int .u8]
  sp := fun args h κ => match args, h with
    | [.ro true (.ints .u8 code)], [] => optC (L.FnShareRowOk_t code) (fun (r : Bool) => κ (.bool r) []) none
    | _, _ => none
theorem L.FnShareRowOk_ok : SpecOk Try.prog 5 L.FnShareRowOk_s := by
  refine SpecOk.of TDok mixed (T := L.FnShareRowOk_T) ?_ (ann := L.FnShareRowOk_ann) Try.func5 rfl (by decide +kernel) ?_ ?_ ?_
  · intro p hp
    simp only [L.FnShareRowOk_T, List.mem_cons, List.not_mem_nil, or_false] at hp
    rcases hp with rfl | rfl | rfl | rfl | rfl | rfl | rfl
    · exact S.DrawShareRowOk_ok
    · exact I.ShareRowOk_ok
    · exact S.ShareRowOk_ok
    · exact I.NetOk_ok
    · exact L.alive_ok
    · exact L.setOf_ok
    · exact I.WatchOk_ok
  · intro args h κ r hh
    simp only [L.FnShareRowOk_s] at hh
    split at hh
    · exact (L.FnShareRowOk_den _ κ).trans hh
    · cases hh
  · intro args h κ r hh
    simp only [L.FnShareRowOk_s] at hh ⊢
    split at hh
    · exact optC_law2 (F := fun (r : Bool) κ => κ (.bool r) []) (fun b κ r hb => ⟨_, _, hb, fun _ => rfl⟩) hh
    · cases hh
  · intro _ args h κ r hh
    simp only [L.FnShareRowOk_s] at hh
    split at hh
    · exact ⟨rfl, fun _ => rfl⟩
    · cases hh

-- loop.example/guardsonnets/laws.FnExactShareRowOk
noncomputable def L.FnExactShareRowOk_T : List (Nat × D.Spec) := [(22, L.toIntS_s), (26, S.ShareRowOk_s), (25, I.ShareRowOk_s), (23, L.eqIntS_s)]
def L.FnExactShareRowOk_ann : Nat → List Nat × List Nat
  | _ => ([], [])
noncomputable def L.FnExactShareRowOk_F (args : List V) (h : List E) (κ : V → List E → R) : R := funC TD (tableK L.FnExactShareRowOk_T) L.FnExactShareRowOk_ann (drawOk TD (tableP L.FnExactShareRowOk_T)) FUEL Try.f6 args h κ
noncomputable def L.FnExactShareRowOk_tree {α : Type} (aNet : List Int) (aRow : List Int) (leaf0_ : Bool → α) (fail_ : α) : α :=
  (bif decide ((↑aNet.length : Int) > 1048576) then (leaf0_ true) else (bif decide ((↑aRow.length : Int) > 1048576) then (leaf0_ true) else (optC (L.toIntS_t aNet) (fun c_1 => (optC (L.toIntS_t aRow) (fun c_2 => (optC (S.ShareRowOk_t c_1 c_2) (fun c_3 => (optC (L.toIntS_t aNet) (fun c_4 => (optC (L.toIntS_t aRow) (fun c_5 => (optC (I.ShareRowOk_t c_4 c_5) (fun c_6 => (bif !c_6 == c_3 then (leaf0_ false) else (optC (L.toIntS_t aNet) (fun c_7 => (optC (L.eqIntS_t c_4 c_7) (fun c_8 => (bif !c_8 then (leaf0_ false) else (optC (L.toIntS_t aRow) (fun c_9 => (optC (L.eqIntS_t c_5 c_9) (fun c_10 => (bif !c_10 then (leaf0_ false) else (leaf0_ true))) fail_)) fail_))) fail_)) fail_))) fail_)) fail_)) fail_)) fail_)) fail_)) fail_)))
theorem L.FnExactShareRowOk_tree_nat {α γ : Type} (g : α → γ) (aNet : List Int) (aRow : List Int) (leaf0_ : Bool → α) (fail_ : α) : g (L.FnExactShareRowOk_tree aNet aRow leaf0_ fail_) = L.FnExactShareRowOk_tree aNet aRow (fun d => g (leaf0_ d)) (g fail_) := by
  unfold L.FnExactShareRowOk_tree; simp only [apply_cnd g, apply_optC g, apply_sumC g]
noncomputable def L.FnExactShareRowOk_t (aNet : List Int) (aRow : List Int) : Option (Bool) := L.FnExactShareRowOk_tree aNet aRow (fun d => some d) none
theorem L.FnExactShareRowOk_den (aNet : List Int) (aRow : List Int) (κ : V → List E → R) : L.FnExactShareRowOk_F [.ro true (.ints .i64 aNet), .ro true (.ints .i64 aRow)] [] κ = optC (L.FnExactShareRowOk_t aNet aRow) (fun (r : Bool) => κ (.bool r) []) none := by
  have hu : L.FnExactShareRowOk_F [.ro true (.ints .i64 aNet), .ro true (.ints .i64 aRow)] [] κ = L.FnExactShareRowOk_tree aNet aRow (fun d => κ (.bool d) []) none := by
    kernel_rfl
  rw [hu]
  exact (L.FnExactShareRowOk_tree_nat (fun o => optC o (fun (r : Bool) => κ (.bool r) []) none) aNet aRow (fun d => some d) none).symm
noncomputable def L.FnExactShareRowOk_s : D.Spec where
  keep := true
  pure := true
  ds := [.int .i64, .int .i64]
  sp := fun args h κ => match args, h with
    | [.ro true (.ints .i64 aNet), .ro true (.ints .i64 aRow)], [] => optC (L.FnExactShareRowOk_t aNet aRow) (fun (r : Bool) => κ (.bool r) []) none
    | _, _ => none
theorem L.FnExactShareRowOk_ok : SpecOk Try.prog 6 L.FnExactShareRowOk_s := by
  refine SpecOk.of TDok mixed (T := L.FnExactShareRowOk_T) ?_ (ann := L.FnExactShareRowOk_ann) Try.func6 rfl (by decide +kernel) ?_ ?_ ?_
  · intro p hp
    simp only [L.FnExactShareRowOk_T, List.mem_cons, List.not_mem_nil, or_false] at hp
    rcases hp with rfl | rfl | rfl | rfl
    · exact L.toIntS_ok
    · exact S.ShareRowOk_ok
    · exact I.ShareRowOk_ok
    · exact L.eqIntS_ok
  · intro args h κ r hh
    simp only [L.FnExactShareRowOk_s] at hh
    split at hh
    · exact (L.FnExactShareRowOk_den _ _ κ).trans hh
    · cases hh
  · intro args h κ r hh
    simp only [L.FnExactShareRowOk_s] at hh ⊢
    split at hh
    · exact optC_law2 (F := fun (r : Bool) κ => κ (.bool r) []) (fun b κ r hb => ⟨_, _, hb, fun _ => rfl⟩) hh
    · cases hh
  · intro _ args h κ r hh
    simp only [L.FnExactShareRowOk_s] at hh
    split at hh
    · exact ⟨rfl, fun _ => rfl⟩
    · cases hh

-- loop.example/guardsonnets/spec.DrawShareRow
noncomputable def S.DrawShareRow_T : List (Nat × D.Spec) := [(47, S.l20Open_s), (46, S.l20Net_s)]
def S.DrawShareRow_ann : Nat → List Nat × List Nat
  | _ => ([], [])
noncomputable def S.DrawShareRow_F (args : List V) (h : List E) (κ : V → List E → R) : R := funC TD (tableK S.DrawShareRow_T) S.DrawShareRow_ann (drawOk TD (tableP S.DrawShareRow_T)) FUEL Try.f29 args h κ
noncomputable def S.DrawShareRow_tree {α : Type} (code : List Int) (leaf0_ : List Int → α) (fail_ : α) : α :=
  (optC (S.l20Open_t code) (fun c_1 => (optC (S.l20Net_t c_1.fst c_1.snd 9) (fun c_2 => (leaf0_ c_2.snd.snd)) fail_)) fail_)
theorem S.DrawShareRow_tree_nat {α γ : Type} (g : α → γ) (code : List Int) (leaf0_ : List Int → α) (fail_ : α) : g (S.DrawShareRow_tree code leaf0_ fail_) = S.DrawShareRow_tree code (fun d => g (leaf0_ d)) (g fail_) := by
  unfold S.DrawShareRow_tree; simp only [apply_cnd g, apply_optC g, apply_sumC g]
noncomputable def S.DrawShareRow_t (code : List Int) : Option (List Int) := S.DrawShareRow_tree code (fun d => some d) none
theorem S.DrawShareRow_den (code : List Int) (κ : V → List E → R) : S.DrawShareRow_F [.ro true (.ints .u8 code)] [] κ = optC (S.DrawShareRow_t code) (fun (r : List Int) => κ (.own 0) [.row (.ints .i64 r)]) none := by
  have hu : S.DrawShareRow_F [.ro true (.ints .u8 code)] [] κ = S.DrawShareRow_tree code (fun d => κ (.own 0) [.row (.ints .i64 d)]) none := by
    kernel_rfl
  rw [hu]
  exact (S.DrawShareRow_tree_nat (fun o => optC o (fun (r : List Int) => κ (.own 0) [.row (.ints .i64 r)]) none) code (fun d => some d) none).symm
noncomputable def S.DrawShareRow_s : D.Spec where
  keep := true
  pure := false
  ds := [.int .u8]
  sp := fun args h κ => match args, h with
    | [.ro true (.ints .u8 code)], [] => optC (S.DrawShareRow_t code) (fun (r : List Int) => κ (.own 0) [.row (.ints .i64 r)]) none
    | _, _ => none
theorem S.DrawShareRow_ok : SpecOk Try.prog 29 S.DrawShareRow_s := by
  refine SpecOk.of TDok mixed (T := S.DrawShareRow_T) ?_ (ann := S.DrawShareRow_ann) Try.func29 rfl (by decide +kernel) ?_ ?_ ?_
  · intro p hp
    simp only [S.DrawShareRow_T, List.mem_cons, List.not_mem_nil, or_false] at hp
    rcases hp with rfl | rfl
    · exact S.l20Open_ok
    · exact S.l20Net_ok
  · intro args h κ r hh
    simp only [S.DrawShareRow_s] at hh
    split at hh
    · exact (S.DrawShareRow_den _ κ).trans hh
    · cases hh
  · intro args h κ r hh
    simp only [S.DrawShareRow_s] at hh ⊢
    split at hh
    · exact optC_law2 (F := fun (r : List Int) κ => κ (.own 0) [.row (.ints .i64 r)]) (fun b κ r hb => ⟨_, _, hb, fun _ => rfl⟩) hh
    · cases hh
  · intro hh; cases hh

-- loop.example/guardsonnets/impl.rowWith
noncomputable def I.rowWith_T : List (Nat × D.Spec) := []
def I.rowWith_ann : Nat → List Nat × List Nat
  | _ => ([], [])
noncomputable def I.rowWith_F (args : List V) (h : List E) (κ : V → List E → R) : R := funC TD (tableK I.rowWith_T) I.rowWith_ann (drawOk TD (tableP I.rowWith_T)) FUEL Try.f77 args h κ
noncomputable def I.rowWith_tree {α : Type} (row : List Int) (number : Int) (leaf0_ : List Int → α) (fail_ : α) : α :=
  (bif small ([] ++ row).length then (bif small ([] ++ row ++ [number]).length then (leaf0_ ([] ++ row ++ [number])) else fail_) else fail_)
theorem I.rowWith_tree_nat {α γ : Type} (g : α → γ) (row : List Int) (number : Int) (leaf0_ : List Int → α) (fail_ : α) : g (I.rowWith_tree row number leaf0_ fail_) = I.rowWith_tree row number (fun d => g (leaf0_ d)) (g fail_) := by
  unfold I.rowWith_tree; simp only [apply_cnd g, apply_optC g, apply_sumC g]
noncomputable def I.rowWith_t (row : List Int) (number : Int) : Option (List Int) := I.rowWith_tree row number (fun d => some d) none
theorem I.rowWith_den (row : List Int) (number : Int) (κ : V → List E → R) : I.rowWith_F [.ro false (.ints .i64 row), .int .i64 number] [] κ = optC (I.rowWith_t row number) (fun (r : List Int) => κ (.own 0) [.row (.ints .i64 r)]) none := by
  have hu : I.rowWith_F [.ro false (.ints .i64 row), .int .i64 number] [] κ = I.rowWith_tree row number (fun d => κ (.own 0) [.row (.ints .i64 d)]) none := by
    kernel_rfl
  rw [hu]
  exact (I.rowWith_tree_nat (fun o => optC o (fun (r : List Int) => κ (.own 0) [.row (.ints .i64 r)]) none) row number (fun d => some d) none).symm
noncomputable def I.rowWith_s : D.Spec where
  keep := false
  pure := false
  ds := [.int .i64, .invalid]
  sp := fun args h κ => match args, h with
    | [.ro false (.ints .i64 row), .int .i64 number], [] => optC (I.rowWith_t row number) (fun (r : List Int) => κ (.own 0) [.row (.ints .i64 r)]) none
    | _, _ => none
theorem I.rowWith_ok : SpecOk Try.prog 77 I.rowWith_s := by
  refine SpecOk.of TDok mixed (T := I.rowWith_T) ?_ (ann := I.rowWith_ann) Try.func77 rfl (by decide +kernel) ?_ ?_ ?_
  · intro p hp; cases hp
  · intro args h κ r hh
    simp only [I.rowWith_s] at hh
    split at hh
    · exact (I.rowWith_den _ _ κ).trans hh
    · cases hh
  · intro args h κ r hh
    simp only [I.rowWith_s] at hh ⊢
    split at hh
    · exact optC_law2 (F := fun (r : List Int) κ => κ (.own 0) [.row (.ints .i64 r)]) (fun b κ r hb => ⟨_, _, hb, fun _ => rfl⟩) hh
    · cases hh
  · intro hh; cases hh

-- loop.example/guardsonnets/impl.sharesFrom
class I.sharesFrom_r_R where
  r : (List Int) → (List Int) → Int → Option ((List Int) ⊕ ((List Int) × (List Int)))
section
variable [c_ : I.sharesFrom_r_R]
noncomputable def I.sharesFrom_r0_t (net : List Int) (row : List Int) (many : Int) : Option ((List Int) ⊕ ((List Int) × (List Int))) := I.sharesFrom_r_R.r net row many
noncomputable def I.sharesFrom_r0_s : D.Spec where
  keep := false
  pure := false
  ds := [.int .i64, .pointer 0, .invalid]
  sp := fun args h κ => match args, h with
    | [.ro false (.ints .i64 net), .own 0, .int .i64 many], [.row (.ints .i64 row)] => optC (I.sharesFrom_r0_t net row many) (fun (r : (List Int) ⊕ ((List Int) × (List Int))) => sumC r (fun (r : List Int) => κ (.own 0) [.row (.ints .i64 r)]) (fun (r : (List Int) × (List Int)) => κ (.own 1) [.row (.ints .i64 r.1), .row (.ints .i64 r.2)])) none
    | _, _ => none
end
section
variable [c_ : I.sharesFrom_r_R]
noncomputable def I.sharesFrom_r_T : List (Nat × D.Spec) := [(57, I.fullShares_s), (58, I.numbersOf_s), (77, I.rowWith_s), (75, I.sharesFrom_r0_s)]
def I.sharesFrom_r_ann : Nat → List Nat × List Nat
  | 6 => ([0, 1, 2, 7], [6])
  | _ => ([], [])
noncomputable def I.sharesFrom_r_F (args : List V) (h : List E) (κ : V → List E → R) : R := funC TD (tableK I.sharesFrom_r_T) I.sharesFrom_r_ann (drawOk TD (tableP I.sharesFrom_r_T)) FUEL Try.f75 args h κ
noncomputable def I.sharesFrom_r_L6 (n : Nat) (σ : St) (k : X → St → R) : R := iterC 1 (fun σ k => denC TD (tableK I.sharesFrom_r_T) I.sharesFrom_r_ann (drawOk TD (tableP I.sharesFrom_r_T)) 1 FUEL ((findLoop 6 (Try.f75.body.getD .skip)).getD .skip) σ k) [0, 1, 2, 7] [6] n σ k
end
section
variable [c_ : I.sharesFrom_r_R]
noncomputable def I.sharesFrom_r_k6 (κ : V → List E → R) : X → St → R := (afterC TD (tableK I.sharesFrom_r_T) I.sharesFrom_r_ann (drawOk TD (tableP I.sharesFrom_r_T)) 1 FUEL 6 (Try.f75.body.getD .skip) (finC TD 1 Try.f75 κ)).getD (fun _ _ => none)
noncomputable def I.sharesFrom_r_step6 {α : Type} (x0 : List Int) (x2 : Int) (x7 : Int) (r0 : List Int) (next_ : Int × (List Int) → α) (out0_ : (List Int) × (List Int) → α) (out1_ : List Int → α) (fail_ : α) : α :=
  (optC (I.numbersOf_t r0) (fun c_2 => (bif decide (x7 ≤ c_2) then (bif decide (x7 < x2) then (optC (I.rowWith_t r0 x7) (fun c_3 => (optC (I.sharesFrom_r0_t x0 c_3 x2) (fun c_4 => (sumC c_4 (fun c_5 => (bif decide ((↑c_5.length : Int) > 0) then (out0_ (r0, c_5)) else (next_ (IntKind.i64.wrap (x7 + 1), r0)))) (fun c_5 => (bif decide ((↑c_5.snd.length : Int) > 0) then (out0_ (r0, c_5.snd)) else (next_ (IntKind.i64.wrap (x7 + 1), r0)))))) fail_)) fail_) else (out1_ r0)) else (out1_ r0))) fail_)
theorem I.sharesFrom_r_step6_nat {α γ : Type} (g : α → γ) (x0 : List Int) (x2 : Int) (x7 : Int) (r0 : List Int) (next_ : Int × (List Int) → α) (out0_ : (List Int) × (List Int) → α) (out1_ : List Int → α) (fail_ : α) : g (I.sharesFrom_r_step6 x0 x2 x7 r0 next_ out0_ out1_ fail_) = I.sharesFrom_r_step6 x0 x2 x7 r0 (fun s => g (next_ s)) (fun d => g (out0_ d)) (fun d => g (out1_ d)) (g fail_) := by
  unfold I.sharesFrom_r_step6; simp only [apply_cnd g, apply_optC g, apply_sumC g]
noncomputable def I.sharesFrom_r_run6 (x0 : List Int) (x2 : Int) : Nat → Int × (List Int) → Option (((List Int) × (List Int)) ⊕ (List Int))
  | 0, _ => none
  | n + 1, s_ => I.sharesFrom_r_step6 x0 x2 s_.1 s_.2 (I.sharesFrom_r_run6 x0 x2 n) (fun d => some ((Sum.inl d))) (fun d => some ((Sum.inr d))) none
theorem I.sharesFrom_r_L6_run (x0 : List Int) (x2 : Int) (n : Nat) (s_ : Int × (List Int)) (k : X → St → R) : I.sharesFrom_r_L6 n { n := 41, t := [(0, (.ro false (.ints .i64 x0))), (1, (.own 0)), (2, (.int .i64 x2)), (7, (.int .i64 s_.1))], h := [.row (.ints .i64 s_.2)] } k = optC (I.sharesFrom_r_run6 x0 x2 n s_) (fun (r : ((List Int) × (List Int)) ⊕ (List Int)) => (sumC r (fun (r : (List Int) × (List Int)) => k (.ret) { n := 41, t := [(6, (.own 1))], h := [.row (.ints .i64 r.1), .row (.ints .i64 r.2)] }) (fun (r : List Int) => k (.exit 0) { n := 41, t := [(6, .junk)], h := [.row (.ints .i64 r)] }))) none := by
  induction n generalizing s_ with
  | zero => rfl
  | succ n ih =>
    have hu : I.sharesFrom_r_L6 (n + 1) { n := 41, t := [(0, (.ro false (.ints .i64 x0))), (1, (.own 0)), (2, (.int .i64 x2)), (7, (.int .i64 s_.1))], h := [.row (.ints .i64 s_.2)] } k = I.sharesFrom_r_step6 x0 x2 s_.1 s_.2 (fun s_ => I.sharesFrom_r_L6 n { n := 41, t := [(0, (.ro false (.ints .i64 x0))), (1, (.own 0)), (2, (.int .i64 x2)), (7, (.int .i64 s_.1))], h := [.row (.ints .i64 s_.2)] } k) (fun d => k (.ret) { n := 41, t := [(6, (.own 1))], h := [.row (.ints .i64 d.1), .row (.ints .i64 d.2)] }) (fun d => k (.exit 0) { n := 41, t := [(6, .junk)], h := [.row (.ints .i64 d)] }) none := by
      kernel_rfl
    have hs : (fun s_ : Int × (List Int) => I.sharesFrom_r_L6 n { n := 41, t := [(0, (.ro false (.ints .i64 x0))), (1, (.own 0)), (2, (.int .i64 x2)), (7, (.int .i64 s_.1))], h := [.row (.ints .i64 s_.2)] } k) = fun s_ => optC (I.sharesFrom_r_run6 x0 x2 n s_) (fun (r : ((List Int) × (List Int)) ⊕ (List Int)) => (sumC r (fun (r : (List Int) × (List Int)) => k (.ret) { n := 41, t := [(6, (.own 1))], h := [.row (.ints .i64 r.1), .row (.ints .i64 r.2)] }) (fun (r : List Int) => k (.exit 0) { n := 41, t := [(6, .junk)], h := [.row (.ints .i64 r)] }))) none := funext ih
    rw [hu, hs]
    exact (I.sharesFrom_r_step6_nat (fun o => optC o (fun (r : ((List Int) × (List Int)) ⊕ (List Int)) => (sumC r (fun (r : (List Int) × (List Int)) => k (.ret) { n := 41, t := [(6, (.own 1))], h := [.row (.ints .i64 r.1), .row (.ints .i64 r.2)] }) (fun (r : List Int) => k (.exit 0) { n := 41, t := [(6, .junk)], h := [.row (.ints .i64 r)] }))) none) x0 x2 s_.1 s_.2 (I.sharesFrom_r_run6 x0 x2 n) (fun d => some ((Sum.inl d))) (fun d => some ((Sum.inr d))) none).symm
noncomputable def I.sharesFrom_r_tree {α : Type} (net : List Int) (row : List Int) (many : Int) (leaf0_ : List Int → α) (leaf1_ : (List Int) × (List Int) → α) (fail_ : α) : α :=
  (bif (↑row.length : Int) == (↑net.length : Int) then (optC (I.fullShares_t net row) (fun c_1 => (bif c_1 == many then (leaf0_ row) else (leaf1_ (row, [])))) fail_) else (optC (I.sharesFrom_r_run6 net many FUEL (0, row)) (fun qy_6 => (sumC qy_6 (fun (qy_6 : (List Int) × (List Int)) => (leaf1_ (qy_6.1, qy_6.2))) (fun (qy_6 : List Int) => (leaf1_ (qy_6, []))))) fail_))
theorem I.sharesFrom_r_tree_nat {α γ : Type} (g : α → γ) (net : List Int) (row : List Int) (many : Int) (leaf0_ : List Int → α) (leaf1_ : (List Int) × (List Int) → α) (fail_ : α) : g (I.sharesFrom_r_tree net row many leaf0_ leaf1_ fail_) = I.sharesFrom_r_tree net row many (fun d => g (leaf0_ d)) (fun d => g (leaf1_ d)) (g fail_) := by
  unfold I.sharesFrom_r_tree; simp only [apply_cnd g, apply_optC g, apply_sumC g]
noncomputable def I.sharesFrom_r_t (net : List Int) (row : List Int) (many : Int) : Option ((List Int) ⊕ ((List Int) × (List Int))) := I.sharesFrom_r_tree net row many (fun d => some ((Sum.inl d))) (fun d => some ((Sum.inr d))) none
theorem I.sharesFrom_r_den (net : List Int) (row : List Int) (many : Int) (κ : V → List E → R) : I.sharesFrom_r_F [.ro false (.ints .i64 net), .own 0, .int .i64 many] [.row (.ints .i64 row)] κ = optC (I.sharesFrom_r_t net row many) (fun (r : (List Int) ⊕ ((List Int) × (List Int))) => (sumC r (fun (r : List Int) => κ (.own 0) [.row (.ints .i64 r)]) (fun (r : (List Int) × (List Int)) => κ (.own 1) [.row (.ints .i64 r.1), .row (.ints .i64 r.2)]))) none := by
  have hu : I.sharesFrom_r_F [.ro false (.ints .i64 net), .own 0, .int .i64 many] [.row (.ints .i64 row)] κ = I.sharesFrom_r_tree net row many (fun d => κ (.own 0) [.row (.ints .i64 d)]) (fun d => κ (.own 1) [.row (.ints .i64 d.1), .row (.ints .i64 d.2)]) none := by
    refine Eq.trans (show I.sharesFrom_r_F [.ro false (.ints .i64 net), .own 0, .int .i64 many] [.row (.ints .i64 row)] κ = (bif (↑row.length : Int) == (↑net.length : Int) then (optC (I.fullShares_t net row) (fun c_1 => (bif c_1 == many then (κ (.own 0) [.row (.ints .i64 row)]) else (κ (.own 1) [.row (.ints .i64 row), .row (.ints .i64 ([]))]))) none) else (I.sharesFrom_r_L6 FUEL { n := 41, t := [(0, (.ro false (.ints .i64 net))), (1, (.own 0)), (2, (.int .i64 many)), (7, (.int .i64 0))], h := [.row (.ints .i64 row)] } (I.sharesFrom_r_k6 κ))) by kernel_rfl) ?_
    refine cnd_congr ?_ ?_
    · kernel_rfl
    · refine (I.sharesFrom_r_L6_run net many FUEL (0, row) (I.sharesFrom_r_k6 κ)).trans (optC_congr (fun qy_6 => ?_))
      rcases qy_6 with qy_6 | qy_6
      · kernel_rfl
      · kernel_rfl
  rw [hu]
  exact (I.sharesFrom_r_tree_nat (fun o => optC o (fun (r : (List Int) ⊕ ((List Int) × (List Int))) => (sumC r (fun (r : List Int) => κ (.own 0) [.row (.ints .i64 r)]) (fun (r : (List Int) × (List Int)) => κ (.own 1) [.row (.ints .i64 r.1), .row (.ints .i64 r.2)]))) none) net row many (fun d => some ((Sum.inl d))) (fun d => some ((Sum.inr d))) none).symm
noncomputable def I.sharesFrom_r_s : D.Spec where
  keep := false
  pure := false
  ds := [.int .i64, .pointer 0, .invalid]
  sp := fun args h κ => match args, h with
    | [.ro false (.ints .i64 net), .own 0, .int .i64 many], [.row (.ints .i64 row)] => optC (I.sharesFrom_r_t net row many) (fun (r : (List Int) ⊕ ((List Int) × (List Int))) => (sumC r (fun (r : List Int) => κ (.own 0) [.row (.ints .i64 r)]) (fun (r : (List Int) × (List Int)) => κ (.own 1) [.row (.ints .i64 r.1), .row (.ints .i64 r.2)]))) none
    | _, _ => none
theorem I.sharesFrom_r_ok (hrec_ : SpecOk Try.prog 75 I.sharesFrom_r0_s) : SpecOk Try.prog 75 I.sharesFrom_r_s := by
  refine SpecOk.of TDok mixed (T := I.sharesFrom_r_T) ?_ (ann := I.sharesFrom_r_ann) Try.func75 rfl (by decide +kernel) ?_ ?_ ?_
  · intro p hp
    simp only [I.sharesFrom_r_T, List.mem_cons, List.not_mem_nil, or_false] at hp
    rcases hp with rfl | rfl | rfl | rfl
    · exact I.fullShares_ok
    · exact I.numbersOf_ok
    · exact I.rowWith_ok
    · exact hrec_
  · intro args h κ r hh
    simp only [I.sharesFrom_r_s] at hh
    split at hh
    · exact (I.sharesFrom_r_den _ _ _ κ).trans hh
    · cases hh
  · intro args h κ r hh
    simp only [I.sharesFrom_r_s] at hh ⊢
    split at hh
    · exact optC_law2 (F := fun (r : (List Int) ⊕ ((List Int) × (List Int))) κ => (sumC r (fun (r : List Int) => κ (.own 0) [.row (.ints .i64 r)]) (fun (r : (List Int) × (List Int)) => κ (.own 1) [.row (.ints .i64 r.1), .row (.ints .i64 r.2)]))) (fun b κ r hb => by rcases b with b | b <;> exact ⟨_, _, hb, fun _ => rfl⟩) hh
    · cases hh
  · intro hh; cases hh
end
noncomputable def I.sharesFrom_td : Nat → (List Int) → (List Int) → Int → Option ((List Int) ⊕ ((List Int) × (List Int)))
  | 0 => fun _ _ _ => none
  | d + 1 => @I.sharesFrom_r_t ⟨I.sharesFrom_td d⟩
noncomputable def I.sharesFrom_t (net : List Int) (row : List Int) (many : Int) : Option ((List Int) ⊕ ((List Int) × (List Int))) := I.sharesFrom_td FUEL net row many
noncomputable def I.sharesFrom_s : D.Spec where
  keep := false
  pure := false
  ds := [.int .i64, .pointer 0, .invalid]
  sp := fun args h κ => match args, h with
    | [.ro false (.ints .i64 net), .own 0, .int .i64 many], [.row (.ints .i64 row)] => optC (I.sharesFrom_t net row many) (fun (r : (List Int) ⊕ ((List Int) × (List Int))) => sumC r (fun (r : List Int) => κ (.own 0) [.row (.ints .i64 r)]) (fun (r : (List Int) × (List Int)) => κ (.own 1) [.row (.ints .i64 r.1), .row (.ints .i64 r.2)])) none
    | _, _ => none
theorem I.sharesFrom_okd : ∀ d : Nat, SpecOk Try.prog 75 (@I.sharesFrom_r0_s ⟨I.sharesFrom_td d⟩)
  | 0 => SpecOk.zero Try.func75 rfl (by decide +kernel) (fun args h κ => by
      simp only [I.sharesFrom_r0_s]
      split
      · rfl
      · rfl)
  | d + 1 => @I.sharesFrom_r_ok ⟨I.sharesFrom_td d⟩ (I.sharesFrom_okd d)
theorem I.sharesFrom_ok : SpecOk Try.prog 75 I.sharesFrom_s := I.sharesFrom_okd FUEL

-- loop.example/guardsonnets/impl.shareRowIn
noncomputable def I.shareRowIn_T : List (Nat × D.Spec) := [(48, I.leastNearIn_s), (75, I.sharesFrom_s)]
def I.shareRowIn_ann : Nat → List Nat × List Nat
  | 2 => ([0, 3], [0, 2])
  | _ => ([], [])
noncomputable def I.shareRowIn_F (args : List V) (h : List E) (κ : V → List E → R) : R := funC TD (tableK I.shareRowIn_T) I.shareRowIn_ann (drawOk TD (tableP I.shareRowIn_T)) FUEL Try.f63 args h κ
noncomputable def I.shareRowIn_L2 (n : Nat) (σ : St) (k : X → St → R) : R := iterC 0 (fun σ k => denC TD (tableK I.shareRowIn_T) I.shareRowIn_ann (drawOk TD (tableP I.shareRowIn_T)) 0 FUEL ((findLoop 2 (Try.f63.body.getD .skip)).getD .skip) σ k) [0, 3] [0, 2] n σ k
noncomputable def I.shareRowIn_k2 (κ : V → List E → R) : X → St → R := (afterC TD (tableK I.shareRowIn_T) I.shareRowIn_ann (drawOk TD (tableP I.shareRowIn_T)) 0 FUEL 2 (Try.f63.body.getD .skip) (finC TD 0 Try.f63 κ)).getD (fun _ _ => none)
noncomputable def I.shareRowIn_step2 {α : Type} (x0 : List Int) (x3 : Int) (next_ : Int → α) (out0_ : List Int → α) (out1_ : Unit → α) (fail_ : α) : α :=
  (bif decide (x3 > 1) then (optC (I.sharesFrom_t x0 [] x3) (fun c_2 => (sumC c_2 (fun c_3 => (bif decide ((↑c_3.length : Int) > 0) then (out0_ c_3) else (next_ (IntKind.i64.wrap (x3 - 1))))) (fun c_3 => (bif decide ((↑c_3.snd.length : Int) > 0) then (out0_ c_3.snd) else (next_ (IntKind.i64.wrap (x3 - 1))))))) fail_) else (out1_ ()))
theorem I.shareRowIn_step2_nat {α γ : Type} (g : α → γ) (x0 : List Int) (x3 : Int) (next_ : Int → α) (out0_ : List Int → α) (out1_ : Unit → α) (fail_ : α) : g (I.shareRowIn_step2 x0 x3 next_ out0_ out1_ fail_) = I.shareRowIn_step2 x0 x3 (fun s => g (next_ s)) (fun d => g (out0_ d)) (fun d => g (out1_ d)) (g fail_) := by
  unfold I.shareRowIn_step2; simp only [apply_cnd g, apply_optC g, apply_sumC g]
noncomputable def I.shareRowIn_run2 (x0 : List Int) : Nat → Int → Option ((List Int) ⊕ (Unit))
  | 0, _ => none
  | n + 1, s_ => I.shareRowIn_step2 x0 s_ (I.shareRowIn_run2 x0 n) (fun d => some ((Sum.inl d))) (fun d => some ((Sum.inr d))) none
theorem I.shareRowIn_L2_run (x0 : List Int) (n : Nat) (s_ : Int) (k : X → St → R) : I.shareRowIn_L2 n { n := 23, t := [(0, (.ro false (.ints .i64 x0))), (3, (.int .i64 s_))], h := [] } k = optC (I.shareRowIn_run2 x0 n s_) (fun (r : (List Int) ⊕ (Unit)) => (sumC r (fun (r : List Int) => k (.ret) { n := 23, t := [(0, (.ro false (.ints .i64 x0))), (2, (.own 0))], h := [.row (.ints .i64 r)] }) (fun (r : Unit) => k (.exit 0) { n := 23, t := [(0, (.ro false (.ints .i64 x0))), (2, .junk)], h := [] }))) none := by
  induction n generalizing s_ with
  | zero => rfl
  | succ n ih =>
    have hu : I.shareRowIn_L2 (n + 1) { n := 23, t := [(0, (.ro false (.ints .i64 x0))), (3, (.int .i64 s_))], h := [] } k = I.shareRowIn_step2 x0 s_ (fun s_ => I.shareRowIn_L2 n { n := 23, t := [(0, (.ro false (.ints .i64 x0))), (3, (.int .i64 s_))], h := [] } k) (fun d => k (.ret) { n := 23, t := [(0, (.ro false (.ints .i64 x0))), (2, (.own 0))], h := [.row (.ints .i64 d)] }) (fun d => k (.exit 0) { n := 23, t := [(0, (.ro false (.ints .i64 x0))), (2, .junk)], h := [] }) none := by
      kernel_rfl
    have hs : (fun s_ : Int => I.shareRowIn_L2 n { n := 23, t := [(0, (.ro false (.ints .i64 x0))), (3, (.int .i64 s_))], h := [] } k) = fun s_ => optC (I.shareRowIn_run2 x0 n s_) (fun (r : (List Int) ⊕ (Unit)) => (sumC r (fun (r : List Int) => k (.ret) { n := 23, t := [(0, (.ro false (.ints .i64 x0))), (2, (.own 0))], h := [.row (.ints .i64 r)] }) (fun (r : Unit) => k (.exit 0) { n := 23, t := [(0, (.ro false (.ints .i64 x0))), (2, .junk)], h := [] }))) none := funext ih
    rw [hu, hs]
    exact (I.shareRowIn_step2_nat (fun o => optC o (fun (r : (List Int) ⊕ (Unit)) => (sumC r (fun (r : List Int) => k (.ret) { n := 23, t := [(0, (.ro false (.ints .i64 x0))), (2, (.own 0))], h := [.row (.ints .i64 r)] }) (fun (r : Unit) => k (.exit 0) { n := 23, t := [(0, (.ro false (.ints .i64 x0))), (2, .junk)], h := [] }))) none) x0 s_ (I.shareRowIn_run2 x0 n) (fun d => some ((Sum.inl d))) (fun d => some ((Sum.inr d))) none).symm
noncomputable def I.shareRowIn_tree {α : Type} (net : List Int) (leaf0_ : List Int → α) (fail_ : α) : α :=
  (optC (I.leastNearIn_t net) (fun c_1 => (optC (I.shareRowIn_run2 net FUEL (IntKind.i64.wrap (c_1 + 1))) (fun qy_4 => (sumC qy_4 (fun (qy_4 : List Int) => (leaf0_ qy_4)) (fun (qy_4 : Unit) => (bif small (↑net.length : Int).toNat && true then (leaf0_ (List.replicate (↑net.length : Int).toNat 0)) else fail_)))) fail_)) fail_)
theorem I.shareRowIn_tree_nat {α γ : Type} (g : α → γ) (net : List Int) (leaf0_ : List Int → α) (fail_ : α) : g (I.shareRowIn_tree net leaf0_ fail_) = I.shareRowIn_tree net (fun d => g (leaf0_ d)) (g fail_) := by
  unfold I.shareRowIn_tree; simp only [apply_cnd g, apply_optC g, apply_sumC g]
noncomputable def I.shareRowIn_t (net : List Int) : Option (List Int) := I.shareRowIn_tree net (fun d => some d) none
theorem I.shareRowIn_den (net : List Int) (κ : V → List E → R) : I.shareRowIn_F [.ro false (.ints .i64 net)] [] κ = optC (I.shareRowIn_t net) (fun (r : List Int) => κ (.own 0) [.row (.ints .i64 r)]) none := by
  have hu : I.shareRowIn_F [.ro false (.ints .i64 net)] [] κ = I.shareRowIn_tree net (fun d => κ (.own 0) [.row (.ints .i64 d)]) none := by
    refine Eq.trans (show I.shareRowIn_F [.ro false (.ints .i64 net)] [] κ = (optC (I.leastNearIn_t net) (fun c_1 => (I.shareRowIn_L2 FUEL { n := 23, t := [(0, (.ro false (.ints .i64 net))), (3, (.int .i64 (IntKind.i64.wrap (c_1 + 1))))], h := [] } (I.shareRowIn_k2 κ))) none) by kernel_rfl) ?_
    refine optC_congr (fun c_1 => ?_)
    refine (I.shareRowIn_L2_run net FUEL (IntKind.i64.wrap (c_1 + 1)) (I.shareRowIn_k2 κ)).trans (optC_congr (fun qy_4 => ?_))
    rcases qy_4 with qy_4 | qy_4
    · kernel_rfl
    · kernel_rfl
  rw [hu]
  exact (I.shareRowIn_tree_nat (fun o => optC o (fun (r : List Int) => κ (.own 0) [.row (.ints .i64 r)]) none) net (fun d => some d) none).symm
noncomputable def I.shareRowIn_s : D.Spec where
  keep := false
  pure := false
  ds := [.int .i64]
  sp := fun args h κ => match args, h with
    | [.ro false (.ints .i64 net)], [] => optC (I.shareRowIn_t net) (fun (r : List Int) => κ (.own 0) [.row (.ints .i64 r)]) none
    | _, _ => none
theorem I.shareRowIn_ok : SpecOk Try.prog 63 I.shareRowIn_s := by
  refine SpecOk.of TDok mixed (T := I.shareRowIn_T) ?_ (ann := I.shareRowIn_ann) Try.func63 rfl (by decide +kernel) ?_ ?_ ?_
  · intro p hp
    simp only [I.shareRowIn_T, List.mem_cons, List.not_mem_nil, or_false] at hp
    rcases hp with rfl | rfl
    · exact I.leastNearIn_ok
    · exact I.sharesFrom_ok
  · intro args h κ r hh
    simp only [I.shareRowIn_s] at hh
    split at hh
    · exact (I.shareRowIn_den _ κ).trans hh
    · cases hh
  · intro args h κ r hh
    simp only [I.shareRowIn_s] at hh ⊢
    split at hh
    · exact optC_law2 (F := fun (r : List Int) κ => κ (.own 0) [.row (.ints .i64 r)]) (fun b κ r hb => ⟨_, _, hb, fun _ => rfl⟩) hh
    · cases hh
  · intro hh; cases hh

-- loop.example/guardsonnets/impl.ShareRow
noncomputable def I.ShareRow_T : List (Nat × D.Spec) := [(18, I.NetOk_s), (63, I.shareRowIn_s)]
def I.ShareRow_ann : Nat → List Nat × List Nat
  | _ => ([], [])
noncomputable def I.ShareRow_F (args : List V) (h : List E) (κ : V → List E → R) : R := funC TD (tableK I.ShareRow_T) I.ShareRow_ann (drawOk TD (tableP I.ShareRow_T)) FUEL Try.f30 args h κ
noncomputable def I.ShareRow_tree {α : Type} (net : List Int) (leaf0_ : List Int → α) (fail_ : α) : α :=
  (optC (I.NetOk_t net) (fun c_1 => (bif !c_1 then (leaf0_ ([])) else (optC (I.shareRowIn_t net) (fun c_2 => (leaf0_ c_2)) fail_))) fail_)
theorem I.ShareRow_tree_nat {α γ : Type} (g : α → γ) (net : List Int) (leaf0_ : List Int → α) (fail_ : α) : g (I.ShareRow_tree net leaf0_ fail_) = I.ShareRow_tree net (fun d => g (leaf0_ d)) (g fail_) := by
  unfold I.ShareRow_tree; simp only [apply_cnd g, apply_optC g, apply_sumC g]
noncomputable def I.ShareRow_t (net : List Int) : Option (List Int) := I.ShareRow_tree net (fun d => some d) none
theorem I.ShareRow_den (net : List Int) (κ : V → List E → R) : I.ShareRow_F [.ro false (.ints .i64 net)] [] κ = optC (I.ShareRow_t net) (fun (r : List Int) => κ (.own 0) [.row (.ints .i64 r)]) none := by
  have hu : I.ShareRow_F [.ro false (.ints .i64 net)] [] κ = I.ShareRow_tree net (fun d => κ (.own 0) [.row (.ints .i64 d)]) none := by
    kernel_rfl
  rw [hu]
  exact (I.ShareRow_tree_nat (fun o => optC o (fun (r : List Int) => κ (.own 0) [.row (.ints .i64 r)]) none) net (fun d => some d) none).symm
noncomputable def I.ShareRow_s : D.Spec where
  keep := false
  pure := false
  ds := [.int .i64]
  sp := fun args h κ => match args, h with
    | [.ro false (.ints .i64 net)], [] => optC (I.ShareRow_t net) (fun (r : List Int) => κ (.own 0) [.row (.ints .i64 r)]) none
    | _, _ => none
theorem I.ShareRow_ok : SpecOk Try.prog 30 I.ShareRow_s := by
  refine SpecOk.of TDok mixed (T := I.ShareRow_T) ?_ (ann := I.ShareRow_ann) Try.func30 rfl (by decide +kernel) ?_ ?_ ?_
  · intro p hp
    simp only [I.ShareRow_T, List.mem_cons, List.not_mem_nil, or_false] at hp
    rcases hp with rfl | rfl
    · exact I.NetOk_ok
    · exact I.shareRowIn_ok
  · intro args h κ r hh
    simp only [I.ShareRow_s] at hh
    split at hh
    · exact (I.ShareRow_den _ κ).trans hh
    · cases hh
  · intro args h κ r hh
    simp only [I.ShareRow_s] at hh ⊢
    split at hh
    · exact optC_law2 (F := fun (r : List Int) κ => κ (.own 0) [.row (.ints .i64 r)]) (fun b κ r hb => ⟨_, _, hb, fun _ => rfl⟩) hh
    · cases hh
  · intro hh; cases hh

-- loop.example/guardsonnets/laws.sameInts
noncomputable def L.sameInts_T : List (Nat × D.Spec) := []
def L.sameInts_ann : Nat → List Nat × List Nat
  | 4 => ([0, 1, 5], [4])
  | _ => ([], [])
noncomputable def L.sameInts_F (args : List V) (h : List E) (κ : V → List E → R) : R := funC TD (tableK L.sameInts_T) L.sameInts_ann (drawOk TD (tableP L.sameInts_T)) FUEL Try.f31 args h κ
noncomputable def L.sameInts_L4 (n : Nat) (σ : St) (k : X → St → R) : R := iterC 0 (fun σ k => denC TD (tableK L.sameInts_T) L.sameInts_ann (drawOk TD (tableP L.sameInts_T)) 0 FUEL ((findLoop 4 (Try.f31.body.getD .skip)).getD .skip) σ k) [0, 1, 5] [4] n σ k
noncomputable def L.sameInts_k4 (κ : V → List E → R) : X → St → R := (afterC TD (tableK L.sameInts_T) L.sameInts_ann (drawOk TD (tableP L.sameInts_T)) 0 FUEL 4 (Try.f31.body.getD .skip) (finC TD 0 Try.f31 κ)).getD (fun _ _ => none)
noncomputable def L.sameInts_step4 {α : Type} (x0 : List Int) (x1 : List Int) (x5 : Int) (next_ : Int → α) (out0_ : Bool → α) (out1_ : Unit → α) (fail_ : α) : α :=
  (bif decide (x5 < (↑x0.length : Int)) then (bif decide (0 ≤ x5) && decide (x5 < (↑x0.length : Int)) then (bif decide (0 ≤ x5) && decide (x5 < (↑x1.length : Int)) then (bif !eli x0 x5.toNat == eli x1 x5.toNat then (out0_ false) else (next_ (IntKind.i64.wrap (x5 + 1)))) else fail_) else fail_) else (out1_ ()))
theorem L.sameInts_step4_nat {α γ : Type} (g : α → γ) (x0 : List Int) (x1 : List Int) (x5 : Int) (next_ : Int → α) (out0_ : Bool → α) (out1_ : Unit → α) (fail_ : α) : g (L.sameInts_step4 x0 x1 x5 next_ out0_ out1_ fail_) = L.sameInts_step4 x0 x1 x5 (fun s => g (next_ s)) (fun d => g (out0_ d)) (fun d => g (out1_ d)) (g fail_) := by
  unfold L.sameInts_step4; simp only [apply_cnd g, apply_optC g, apply_sumC g]
noncomputable def L.sameInts_run4 (x0 : List Int) (x1 : List Int) : Nat → Int → Option ((Bool) ⊕ (Unit))
  | 0, _ => none
  | n + 1, s_ => L.sameInts_step4 x0 x1 s_ (L.sameInts_run4 x0 x1 n) (fun d => some ((Sum.inl d))) (fun d => some ((Sum.inr d))) none
theorem L.sameInts_L4_run (x0 : List Int) (x1 : List Int) (n : Nat) (s_ : Int) (k : X → St → R) : L.sameInts_L4 n { n := 26, t := [(0, (.ro false (.ints .i64 x0))), (1, (.ro false (.ints .i64 x1))), (5, (.int .i64 s_))], h := [] } k = optC (L.sameInts_run4 x0 x1 n s_) (fun (r : (Bool) ⊕ (Unit)) => (sumC r (fun (r : Bool) => k (.ret) { n := 26, t := [(4, (.bool r))], h := [] }) (fun (r : Unit) => k (.exit 0) { n := 26, t := [(4, .junk)], h := [] }))) none := by
  induction n generalizing s_ with
  | zero => rfl
  | succ n ih =>
    have hu : L.sameInts_L4 (n + 1) { n := 26, t := [(0, (.ro false (.ints .i64 x0))), (1, (.ro false (.ints .i64 x1))), (5, (.int .i64 s_))], h := [] } k = L.sameInts_step4 x0 x1 s_ (fun s_ => L.sameInts_L4 n { n := 26, t := [(0, (.ro false (.ints .i64 x0))), (1, (.ro false (.ints .i64 x1))), (5, (.int .i64 s_))], h := [] } k) (fun d => k (.ret) { n := 26, t := [(4, (.bool d))], h := [] }) (fun d => k (.exit 0) { n := 26, t := [(4, .junk)], h := [] }) none := by
      kernel_rfl
    have hs : (fun s_ : Int => L.sameInts_L4 n { n := 26, t := [(0, (.ro false (.ints .i64 x0))), (1, (.ro false (.ints .i64 x1))), (5, (.int .i64 s_))], h := [] } k) = fun s_ => optC (L.sameInts_run4 x0 x1 n s_) (fun (r : (Bool) ⊕ (Unit)) => (sumC r (fun (r : Bool) => k (.ret) { n := 26, t := [(4, (.bool r))], h := [] }) (fun (r : Unit) => k (.exit 0) { n := 26, t := [(4, .junk)], h := [] }))) none := funext ih
    rw [hu, hs]
    exact (L.sameInts_step4_nat (fun o => optC o (fun (r : (Bool) ⊕ (Unit)) => (sumC r (fun (r : Bool) => k (.ret) { n := 26, t := [(4, (.bool r))], h := [] }) (fun (r : Unit) => k (.exit 0) { n := 26, t := [(4, .junk)], h := [] }))) none) x0 x1 s_ (L.sameInts_run4 x0 x1 n) (fun d => some ((Sum.inl d))) (fun d => some ((Sum.inr d))) none).symm
noncomputable def L.sameInts_tree {α : Type} (a : List Int) (b_ : List Int) (leaf0_ : Bool → α) (fail_ : α) : α :=
  (bif !(↑a.length : Int) == (↑b_.length : Int) then (leaf0_ false) else (optC (L.sameInts_run4 a b_ FUEL 0) (fun qy_1 => (sumC qy_1 (fun (qy_1 : Bool) => (leaf0_ qy_1)) (fun (qy_1 : Unit) => (leaf0_ true)))) fail_))
theorem L.sameInts_tree_nat {α γ : Type} (g : α → γ) (a : List Int) (b_ : List Int) (leaf0_ : Bool → α) (fail_ : α) : g (L.sameInts_tree a b_ leaf0_ fail_) = L.sameInts_tree a b_ (fun d => g (leaf0_ d)) (g fail_) := by
  unfold L.sameInts_tree; simp only [apply_cnd g, apply_optC g, apply_sumC g]
noncomputable def L.sameInts_t (a : List Int) (b_ : List Int) : Option (Bool) := L.sameInts_tree a b_ (fun d => some d) none
theorem L.sameInts_den (a : List Int) (b_ : List Int) (κ : V → List E → R) : L.sameInts_F [.ro false (.ints .i64 a), .ro false (.ints .i64 b_)] [] κ = optC (L.sameInts_t a b_) (fun (r : Bool) => κ (.bool r) []) none := by
  have hu : L.sameInts_F [.ro false (.ints .i64 a), .ro false (.ints .i64 b_)] [] κ = L.sameInts_tree a b_ (fun d => κ (.bool d) []) none := by
    refine Eq.trans (show L.sameInts_F [.ro false (.ints .i64 a), .ro false (.ints .i64 b_)] [] κ = (bif !(↑a.length : Int) == (↑b_.length : Int) then (κ (.bool false) []) else (L.sameInts_L4 FUEL { n := 26, t := [(0, (.ro false (.ints .i64 a))), (1, (.ro false (.ints .i64 b_))), (5, (.int .i64 0))], h := [] } (L.sameInts_k4 κ))) by kernel_rfl) ?_
    refine cnd_congr ?_ ?_
    · kernel_rfl
    · refine (L.sameInts_L4_run a b_ FUEL 0 (L.sameInts_k4 κ)).trans (optC_congr (fun qy_1 => ?_))
      rcases qy_1 with qy_1 | qy_1
      · kernel_rfl
      · kernel_rfl
  rw [hu]
  exact (L.sameInts_tree_nat (fun o => optC o (fun (r : Bool) => κ (.bool r) []) none) a b_ (fun d => some d) none).symm
noncomputable def L.sameInts_s : D.Spec where
  keep := false
  pure := true
  ds := [.int .i64, .int .i64]
  sp := fun args h κ => match args, h with
    | [.ro false (.ints .i64 a), .ro false (.ints .i64 b_)], [] => optC (L.sameInts_t a b_) (fun (r : Bool) => κ (.bool r) []) none
    | _, _ => none
theorem L.sameInts_ok : SpecOk Try.prog 31 L.sameInts_s := by
  refine SpecOk.of TDok mixed (T := L.sameInts_T) ?_ (ann := L.sameInts_ann) Try.func31 rfl (by decide +kernel) ?_ ?_ ?_
  · intro p hp; cases hp
  · intro args h κ r hh
    simp only [L.sameInts_s] at hh
    split at hh
    · exact (L.sameInts_den _ _ κ).trans hh
    · cases hh
  · intro args h κ r hh
    simp only [L.sameInts_s] at hh ⊢
    split at hh
    · exact optC_law2 (F := fun (r : Bool) κ => κ (.bool r) []) (fun b κ r hb => ⟨_, _, hb, fun _ => rfl⟩) hh
    · cases hh
  · intro _ args h κ r hh
    simp only [L.sameInts_s] at hh
    split at hh
    · exact ⟨rfl, fun _ => rfl⟩
    · cases hh

-- loop.example/guardsonnets/impl.MostShares
noncomputable def I.MostShares_T : List (Nat × D.Spec) := [(18, I.NetOk_s), (63, I.shareRowIn_s), (58, I.numbersOf_s)]
def I.MostShares_ann : Nat → List Nat × List Nat
  | _ => ([], [])
noncomputable def I.MostShares_F (args : List V) (h : List E) (κ : V → List E → R) : R := funC TD (tableK I.MostShares_T) I.MostShares_ann (drawOk TD (tableP I.MostShares_T)) FUEL Try.f33 args h κ
noncomputable def I.MostShares_tree {α : Type} (net : List Int) (leaf0_ : Int → α) (fail_ : α) : α :=
  (optC (I.NetOk_t net) (fun c_1 => (bif !c_1 then (leaf0_ (-1)) else (optC (I.shareRowIn_t net) (fun c_2 => (optC (I.numbersOf_t c_2) (fun c_3 => (leaf0_ c_3)) fail_)) fail_))) fail_)
theorem I.MostShares_tree_nat {α γ : Type} (g : α → γ) (net : List Int) (leaf0_ : Int → α) (fail_ : α) : g (I.MostShares_tree net leaf0_ fail_) = I.MostShares_tree net (fun d => g (leaf0_ d)) (g fail_) := by
  unfold I.MostShares_tree; simp only [apply_cnd g, apply_optC g, apply_sumC g]
noncomputable def I.MostShares_t (net : List Int) : Option (Int) := I.MostShares_tree net (fun d => some d) none
theorem I.MostShares_den (net : List Int) (κ : V → List E → R) : I.MostShares_F [.ro false (.ints .i64 net)] [] κ = optC (I.MostShares_t net) (fun (r : Int) => κ (.int .i64 r) []) none := by
  have hu : I.MostShares_F [.ro false (.ints .i64 net)] [] κ = I.MostShares_tree net (fun d => κ (.int .i64 d) []) none := by
    kernel_rfl
  rw [hu]
  exact (I.MostShares_tree_nat (fun o => optC o (fun (r : Int) => κ (.int .i64 r) []) none) net (fun d => some d) none).symm
noncomputable def I.MostShares_s : D.Spec where
  keep := false
  pure := true
  ds := [.int .i64]
  sp := fun args h κ => match args, h with
    | [.ro false (.ints .i64 net)], [] => optC (I.MostShares_t net) (fun (r : Int) => κ (.int .i64 r) []) none
    | _, _ => none
theorem I.MostShares_ok : SpecOk Try.prog 33 I.MostShares_s := by
  refine SpecOk.of TDok mixed (T := I.MostShares_T) ?_ (ann := I.MostShares_ann) Try.func33 rfl (by decide +kernel) ?_ ?_ ?_
  · intro p hp
    simp only [I.MostShares_T, List.mem_cons, List.not_mem_nil, or_false] at hp
    rcases hp with rfl | rfl | rfl
    · exact I.NetOk_ok
    · exact I.shareRowIn_ok
    · exact I.numbersOf_ok
  · intro args h κ r hh
    simp only [I.MostShares_s] at hh
    split at hh
    · exact (I.MostShares_den _ κ).trans hh
    · cases hh
  · intro args h κ r hh
    simp only [I.MostShares_s] at hh ⊢
    split at hh
    · exact optC_law2 (F := fun (r : Int) κ => κ (.int .i64 r) []) (fun b κ r hb => ⟨_, _, hb, fun _ => rfl⟩) hh
    · cases hh
  · intro _ args h κ r hh
    simp only [I.MostShares_s] at hh
    split at hh
    · exact ⟨rfl, fun _ => rfl⟩
    · cases hh

-- loop.example/guardsonnets/laws.FnShareRow
noncomputable def L.FnShareRow_T : List (Nat × D.Spec) := [(29, S.DrawShareRow_s), (30, I.ShareRow_s), (32, S.ShareRow_s), (31, L.sameInts_s), (18, I.NetOk_s), (19, L.alive_s), (25, I.ShareRowOk_s), (33, I.MostShares_s)]
def L.FnShareRow_ann : Nat → List Nat × List Nat
  | 11 => ([3, 4, 5, 6], [3, 4, 5])
  | _ => ([], [])
noncomputable def L.FnShareRow_F (args : List V) (h : List E) (κ : V → List E → R) : R := funC TD (tableK L.FnShareRow_T) L.FnShareRow_ann (drawOk TD (tableP L.FnShareRow_T)) FUEL Try.f7 args h κ
noncomputable def L.FnShareRow_L11 (n : Nat) (σ : St) (k : X → St → R) : R := iterC 0 (fun σ k => denC TD (tableK L.FnShareRow_T) L.FnShareRow_ann (drawOk TD (tableP L.FnShareRow_T)) 0 FUEL ((findLoop 11 (Try.f7.body.getD .skip)).getD .skip) σ k) [3, 4, 5, 6] [3, 4, 5] n σ k
noncomputable def L.FnShareRow_k11 (κ : V → List E → R) : X → St → R := (afterC TD (tableK L.FnShareRow_T) L.FnShareRow_ann (drawOk TD (tableP L.FnShareRow_T)) 0 FUEL 11 (Try.f7.body.getD .skip) (finC TD 0 Try.f7 κ)).getD (fun _ _ => none)
noncomputable def L.FnShareRow_step11 {α : Type} (x5 : Int) (x6 : Int) (r0 : List Int) (r1 : List Int) (next_ : Int × Int × (List Int) × (List Int) → α) (out0_ : Int × (List Int) × (List Int) → α) (fail_ : α) : α :=
  (bif decide (x6 < (↑r1.length : Int)) then (bif decide (0 ≤ x6) && decide (x6 < (↑r1.length : Int)) then (bif decide (x6.toNat < r1.length) then (next_ (if IntKind.i64.wrap (eli r1 x6.toNat + 1) > x5 then IntKind.i64.wrap (eli r1 x6.toNat + 1) else x5, IntKind.i64.wrap (x6 + 1), r0, r1)) else fail_) else fail_) else (out0_ (x5, r0, r1)))
theorem L.FnShareRow_step11_nat {α γ : Type} (g : α → γ) (x5 : Int) (x6 : Int) (r0 : List Int) (r1 : List Int) (next_ : Int × Int × (List Int) × (List Int) → α) (out0_ : Int × (List Int) × (List Int) → α) (fail_ : α) : g (L.FnShareRow_step11 x5 x6 r0 r1 next_ out0_ fail_) = L.FnShareRow_step11 x5 x6 r0 r1 (fun s => g (next_ s)) (fun d => g (out0_ d)) (g fail_) := by
  unfold L.FnShareRow_step11; simp only [apply_cnd g, apply_optC g, apply_sumC g]
noncomputable def L.FnShareRow_run11 : Nat → Int × Int × (List Int) × (List Int) → Option (Int × (List Int) × (List Int))
  | 0, _ => none
  | n + 1, s_ => L.FnShareRow_step11 s_.1 s_.2.1 s_.2.2.1 s_.2.2.2 (L.FnShareRow_run11 n) (fun d => some d) none
theorem L.FnShareRow_L11_run (n : Nat) (s_ : Int × Int × (List Int) × (List Int)) (k : X → St → R) : L.FnShareRow_L11 n { n := 50, t := [(3, (.own 0)), (4, (.own 1)), (5, (.int .i64 s_.1)), (6, (.int .i64 s_.2.1))], h := [.row (.ints .i64 s_.2.2.1), .row (.ints .i64 s_.2.2.2)] } k = optC (L.FnShareRow_run11 n s_) (fun (r : Int × (List Int) × (List Int)) => k (.exit 0) { n := 50, t := [(3, (.own 0)), (4, (.own 1)), (5, (.int .i64 r.1))], h := [.row (.ints .i64 r.2.1), .row (.ints .i64 r.2.2)] }) none := by
  induction n generalizing s_ with
  | zero => rfl
  | succ n ih =>
    have hu : L.FnShareRow_L11 (n + 1) { n := 50, t := [(3, (.own 0)), (4, (.own 1)), (5, (.int .i64 s_.1)), (6, (.int .i64 s_.2.1))], h := [.row (.ints .i64 s_.2.2.1), .row (.ints .i64 s_.2.2.2)] } k = L.FnShareRow_step11 s_.1 s_.2.1 s_.2.2.1 s_.2.2.2 (fun s_ => L.FnShareRow_L11 n { n := 50, t := [(3, (.own 0)), (4, (.own 1)), (5, (.int .i64 s_.1)), (6, (.int .i64 s_.2.1))], h := [.row (.ints .i64 s_.2.2.1), .row (.ints .i64 s_.2.2.2)] } k) (fun d => k (.exit 0) { n := 50, t := [(3, (.own 0)), (4, (.own 1)), (5, (.int .i64 d.1))], h := [.row (.ints .i64 d.2.1), .row (.ints .i64 d.2.2)] }) none := by
      kernel_rfl
    have hs : (fun s_ : Int × Int × (List Int) × (List Int) => L.FnShareRow_L11 n { n := 50, t := [(3, (.own 0)), (4, (.own 1)), (5, (.int .i64 s_.1)), (6, (.int .i64 s_.2.1))], h := [.row (.ints .i64 s_.2.2.1), .row (.ints .i64 s_.2.2.2)] } k) = fun s_ => optC (L.FnShareRow_run11 n s_) (fun (r : Int × (List Int) × (List Int)) => k (.exit 0) { n := 50, t := [(3, (.own 0)), (4, (.own 1)), (5, (.int .i64 r.1))], h := [.row (.ints .i64 r.2.1), .row (.ints .i64 r.2.2)] }) none := funext ih
    rw [hu, hs]
    exact (L.FnShareRow_step11_nat (fun o => optC o (fun (r : Int × (List Int) × (List Int)) => k (.exit 0) { n := 50, t := [(3, (.own 0)), (4, (.own 1)), (5, (.int .i64 r.1))], h := [.row (.ints .i64 r.2.1), .row (.ints .i64 r.2.2)] }) none) s_.1 s_.2.1 s_.2.2.1 s_.2.2.2 (L.FnShareRow_run11 n) (fun d => some d) none).symm
noncomputable def L.FnShareRow_tree {α : Type} (code : List Int) (leaf0_ : Bool → α) (fail_ : α) : α :=
  (bif decide ((↑code.length : Int) > 1048576) then (leaf0_ true) else (optC (S.DrawShareRow_t code) (fun c_1 => (optC (I.ShareRow_t c_1) (fun c_2 => (optC (S.ShareRow_t c_1) (fun c_3 => (optC (L.sameInts_t c_2 c_3) (fun c_4 => (bif !c_4 then (leaf0_ false) else (bif (↑c_2.length : Int) == 0 then (optC (I.NetOk_t c_1) (fun c_5 => (bif !c_5 then (optC (L.alive_t) (fun c_6 => (leaf0_ c_6)) fail_) else (leaf0_ false))) fail_) else (optC (L.FnShareRow_run11 FUEL (0, 0, c_1, c_2)) (fun qy_7 => (optC (I.ShareRowOk_t qy_7.2.1 qy_7.2.2) (fun c_8 => (bif c_8 then (optC (I.MostShares_t qy_7.2.1) (fun c_9 => (leaf0_ (qy_7.1 == c_9))) fail_) else (leaf0_ false))) fail_)) fail_)))) fail_)) fail_)) fail_)) fail_))
theorem L.FnShareRow_tree_nat {α γ : Type} (g : α → γ) (code : List Int) (leaf0_ : Bool → α) (fail_ : α) : g (L.FnShareRow_tree code leaf0_ fail_) = L.FnShareRow_tree code (fun d => g (leaf0_ d)) (g fail_) := by
  unfold L.FnShareRow_tree; simp only [apply_cnd g, apply_optC g, apply_sumC g]
noncomputable def L.FnShareRow_t (code : List Int) : Option (Bool) := L.FnShareRow_tree code (fun d => some d) none
theorem L.FnShareRow_den (code : List Int) (κ : V → List E → R) : L.FnShareRow_F [.ro true (.ints .u8 code)] [] κ = optC (L.FnShareRow_t code) (fun (r : Bool) => κ (.bool r) []) none := by
  have hu : L.FnShareRow_F [.ro true (.ints .u8 code)] [] κ = L.FnShareRow_tree code (fun d => κ (.bool d) []) none := by
    refine Eq.trans (show L.FnShareRow_F [.ro true (.ints .u8 code)] [] κ = (bif decide ((↑code.length : Int) > 1048576) then (κ (.bool true) []) else (optC (S.DrawShareRow_t code) (fun c_1 => (optC (I.ShareRow_t c_1) (fun c_2 => (optC (S.ShareRow_t c_1) (fun c_3 => (optC (L.sameInts_t c_2 c_3) (fun c_4 => (bif !c_4 then (κ (.bool false) []) else (bif (↑c_2.length : Int) == 0 then (optC (I.NetOk_t c_1) (fun c_5 => (bif !c_5 then (optC (L.alive_t) (fun c_6 => (κ (.bool c_6) [])) none) else (κ (.bool false) []))) none) else (L.FnShareRow_L11 FUEL { n := 50, t := [(3, (.own 0)), (4, (.own 1)), (5, (.int .i64 0)), (6, (.int .i64 0))], h := [.row (.ints .i64 c_1), .row (.ints .i64 c_2)] } (L.FnShareRow_k11 κ))))) none)) none)) none)) none)) by kernel_rfl) ?_
    refine cnd_congr ?_ ?_
    · kernel_rfl
    · refine optC_congr (fun c_1 => ?_)
      refine optC_congr (fun c_2 => ?_)
      refine optC_congr (fun c_3 => ?_)
      refine optC_congr (fun c_4 => ?_)
      refine cnd_congr ?_ ?_
      · kernel_rfl
      · refine cnd_congr ?_ ?_
        · kernel_rfl
        · refine (L.FnShareRow_L11_run FUEL (0, 0, c_1, c_2) (L.FnShareRow_k11 κ)).trans (optC_congr (fun qy_7 => ?_))
          kernel_rfl
  rw [hu]
  exact (L.FnShareRow_tree_nat (fun o => optC o (fun (r : Bool) => κ (.bool r) []) none) code (fun d => some d) none).symm
noncomputable def L.FnShareRow_s : D.Spec where
  keep := true
  pure := true
  ds := [.int .u8]
  sp := fun args h κ => match args, h with
    | [.ro true (.ints .u8 code)], [] => optC (L.FnShareRow_t code) (fun (r : Bool) => κ (.bool r) []) none
    | _, _ => none
theorem L.FnShareRow_ok : SpecOk Try.prog 7 L.FnShareRow_s := by
  refine SpecOk.of TDok mixed (T := L.FnShareRow_T) ?_ (ann := L.FnShareRow_ann) Try.func7 rfl (by decide +kernel) ?_ ?_ ?_
  · intro p hp
    simp only [L.FnShareRow_T, List.mem_cons, List.not_mem_nil, or_false] at hp
    rcases hp with rfl | rfl | rfl | rfl | rfl | rfl | rfl | rfl
    · exact S.DrawShareRow_ok
    · exact I.ShareRow_ok
    · exact S.ShareRow_ok
    · exact L.sameInts_ok
    · exact I.NetOk_ok
    · exact L.alive_ok
    · exact I.ShareRowOk_ok
    · exact I.MostShares_ok
  · intro args h κ r hh
    simp only [L.FnShareRow_s] at hh
    split at hh
    · exact (L.FnShareRow_den _ κ).trans hh
    · cases hh
  · intro args h κ r hh
    simp only [L.FnShareRow_s] at hh ⊢
    split at hh
    · exact optC_law2 (F := fun (r : Bool) κ => κ (.bool r) []) (fun b κ r hb => ⟨_, _, hb, fun _ => rfl⟩) hh
    · cases hh
  · intro _ args h κ r hh
    simp only [L.FnShareRow_s] at hh
    split at hh
    · exact ⟨rfl, fun _ => rfl⟩
    · cases hh

-- loop.example/guardsonnets/laws.markIntS
noncomputable def L.markIntS_T : List (Nat × D.Spec) := []
def L.markIntS_ann : Nat → List Nat × List Nat
  | 2 => ([0, 1, 5], [1])
  | _ => ([], [])
noncomputable def L.markIntS_F (args : List V) (h : List E) (κ : V → List E → R) : R := funC TD (tableK L.markIntS_T) L.markIntS_ann (drawOk TD (tableP L.markIntS_T)) FUEL Try.f34 args h κ
noncomputable def L.markIntS_L2 (n : Nat) (σ : St) (k : X → St → R) : R := iterC 1 (fun σ k => denC TD (tableK L.markIntS_T) L.markIntS_ann (drawOk TD (tableP L.markIntS_T)) 1 FUEL ((findLoop 2 (Try.f34.body.getD .skip)).getD .skip) σ k) [0, 1, 5] [1] n σ k
noncomputable def L.markIntS_k2 (κ : V → List E → R) : X → St → R := (afterC TD (tableK L.markIntS_T) L.markIntS_ann (drawOk TD (tableP L.markIntS_T)) 1 FUEL 2 (Try.f34.body.getD .skip) (finC TD 1 Try.f34 κ)).getD (fun _ _ => none)
noncomputable def L.markIntS_step2 {α : Type} (x1 : Int) (x5 : Int) (r0 : List Int) (next_ : Int × Int × (List Int) → α) (out0_ : Int × (List Int) → α) (fail_ : α) : α :=
  (bif decide (x5 < (↑r0.length : Int)) then (bif decide (0 ≤ x5) && decide (x5 < (↑r0.length : Int)) then (bif decide (x5.toNat < r0.length) then (next_ (IntKind.i64.wrap (x1 + 1), IntKind.i64.wrap (x5 + 1), r0.set x5.toNat x1)) else fail_) else fail_) else (out0_ (x1, r0)))
theorem L.markIntS_step2_nat {α γ : Type} (g : α → γ) (x1 : Int) (x5 : Int) (r0 : List Int) (next_ : Int × Int × (List Int) → α) (out0_ : Int × (List Int) → α) (fail_ : α) : g (L.markIntS_step2 x1 x5 r0 next_ out0_ fail_) = L.markIntS_step2 x1 x5 r0 (fun s => g (next_ s)) (fun d => g (out0_ d)) (g fail_) := by
  unfold L.markIntS_step2; simp only [apply_cnd g, apply_optC g, apply_sumC g]
noncomputable def L.markIntS_run2 : Nat → Int × Int × (List Int) → Option (Int × (List Int))
  | 0, _ => none
  | n + 1, s_ => L.markIntS_step2 s_.1 s_.2.1 s_.2.2 (L.markIntS_run2 n) (fun d => some d) none
theorem L.markIntS_L2_run (n : Nat) (s_ : Int × Int × (List Int)) (k : X → St → R) : L.markIntS_L2 n { n := 19, t := [(0, (.own 0)), (1, (.int .i64 s_.1)), (5, (.int .i64 s_.2.1))], h := [.row (.ints .i64 s_.2.2)] } k = optC (L.markIntS_run2 n s_) (fun (r : Int × (List Int)) => k (.exit 0) { n := 19, t := [(1, (.int .i64 r.1))], h := [.row (.ints .i64 r.2)] }) none := by
  induction n generalizing s_ with
  | zero => rfl
  | succ n ih =>
    have hu : L.markIntS_L2 (n + 1) { n := 19, t := [(0, (.own 0)), (1, (.int .i64 s_.1)), (5, (.int .i64 s_.2.1))], h := [.row (.ints .i64 s_.2.2)] } k = L.markIntS_step2 s_.1 s_.2.1 s_.2.2 (fun s_ => L.markIntS_L2 n { n := 19, t := [(0, (.own 0)), (1, (.int .i64 s_.1)), (5, (.int .i64 s_.2.1))], h := [.row (.ints .i64 s_.2.2)] } k) (fun d => k (.exit 0) { n := 19, t := [(1, (.int .i64 d.1))], h := [.row (.ints .i64 d.2)] }) none := by
      kernel_rfl
    have hs : (fun s_ : Int × Int × (List Int) => L.markIntS_L2 n { n := 19, t := [(0, (.own 0)), (1, (.int .i64 s_.1)), (5, (.int .i64 s_.2.1))], h := [.row (.ints .i64 s_.2.2)] } k) = fun s_ => optC (L.markIntS_run2 n s_) (fun (r : Int × (List Int)) => k (.exit 0) { n := 19, t := [(1, (.int .i64 r.1))], h := [.row (.ints .i64 r.2)] }) none := funext ih
    rw [hu, hs]
    exact (L.markIntS_step2_nat (fun o => optC o (fun (r : Int × (List Int)) => k (.exit 0) { n := 19, t := [(1, (.int .i64 r.1))], h := [.row (.ints .i64 r.2)] }) none) s_.1 s_.2.1 s_.2.2 (L.markIntS_run2 n) (fun d => some d) none).symm
noncomputable def L.markIntS_tree {α : Type} (a : List Int) (k_ : Int) (leaf0_ : Int × (List Int) → α) (fail_ : α) : α :=
  (optC (L.markIntS_run2 FUEL (k_, 0, a)) (fun qy_1 => (leaf0_ (qy_1.1, qy_1.2))) fail_)
theorem L.markIntS_tree_nat {α γ : Type} (g : α → γ) (a : List Int) (k_ : Int) (leaf0_ : Int × (List Int) → α) (fail_ : α) : g (L.markIntS_tree a k_ leaf0_ fail_) = L.markIntS_tree a k_ (fun d => g (leaf0_ d)) (g fail_) := by
  unfold L.markIntS_tree; simp only [apply_cnd g, apply_optC g, apply_sumC g]
noncomputable def L.markIntS_t (a : List Int) (k_ : Int) : Option (Int × (List Int)) := L.markIntS_tree a k_ (fun d => some d) none
theorem L.markIntS_den (a : List Int) (k_ : Int) (κ : V → List E → R) : L.markIntS_F [.own 0, .int .i64 k_] [.row (.ints .i64 a)] κ = optC (L.markIntS_t a k_) (fun (r : Int × (List Int)) => κ (.int .i64 r.1) [.row (.ints .i64 r.2)]) none := by
  have hu : L.markIntS_F [.own 0, .int .i64 k_] [.row (.ints .i64 a)] κ = L.markIntS_tree a k_ (fun d => κ (.int .i64 d.1) [.row (.ints .i64 d.2)]) none := by
    refine Eq.trans (show L.markIntS_F [.own 0, .int .i64 k_] [.row (.ints .i64 a)] κ = (L.markIntS_L2 FUEL { n := 19, t := [(0, (.own 0)), (1, (.int .i64 k_)), (5, (.int .i64 0))], h := [.row (.ints .i64 a)] } (L.markIntS_k2 κ)) by kernel_rfl) ?_
    refine (L.markIntS_L2_run FUEL (k_, 0, a) (L.markIntS_k2 κ)).trans (optC_congr (fun qy_1 => ?_))
    kernel_rfl
  rw [hu]
  exact (L.markIntS_tree_nat (fun o => optC o (fun (r : Int × (List Int)) => κ (.int .i64 r.1) [.row (.ints .i64 r.2)]) none) a k_ (fun d => some d) none).symm
noncomputable def L.markIntS_s : D.Spec where
  keep := false
  pure := false
  ds := [.pointer 0, .invalid]
  sp := fun args h κ => match args, h with
    | [.own 0, .int .i64 k_], [.row (.ints .i64 a)] => optC (L.markIntS_t a k_) (fun (r : Int × (List Int)) => κ (.int .i64 r.1) [.row (.ints .i64 r.2)]) none
    | _, _ => none
theorem L.markIntS_ok : SpecOk Try.prog 34 L.markIntS_s := by
  refine SpecOk.of TDok mixed (T := L.markIntS_T) ?_ (ann := L.markIntS_ann) Try.func34 rfl (by decide +kernel) ?_ ?_ ?_
  · intro p hp; cases hp
  · intro args h κ r hh
    simp only [L.markIntS_s] at hh
    split at hh
    · exact (L.markIntS_den _ _ κ).trans hh
    · cases hh
  · intro args h κ r hh
    simp only [L.markIntS_s] at hh ⊢
    split at hh
    · exact optC_law2 (F := fun (r : Int × (List Int)) κ => κ (.int .i64 r.1) [.row (.ints .i64 r.2)]) (fun b κ r hb => ⟨_, _, hb, fun _ => rfl⟩) hh
    · cases hh
  · intro hh; cases hh

-- loop.example/guardsonnets/laws.heldIntS
noncomputable def L.heldIntS_T : List (Nat × D.Spec) := []
def L.heldIntS_ann : Nat → List Nat × List Nat
  | 2 => ([0, 1, 5], [1, 4])
  | _ => ([], [])
noncomputable def L.heldIntS_F (args : List V) (h : List E) (κ : V → List E → R) : R := funC TD (tableK L.heldIntS_T) L.heldIntS_ann (drawOk TD (tableP L.heldIntS_T)) FUEL Try.f35 args h κ
noncomputable def L.heldIntS_L2 (n : Nat) (σ : St) (k : X → St → R) : R := iterC 0 (fun σ k => denC TD (tableK L.heldIntS_T) L.heldIntS_ann (drawOk TD (tableP L.heldIntS_T)) 0 FUEL ((findLoop 2 (Try.f35.body.getD .skip)).getD .skip) σ k) [0, 1, 5] [1, 4] n σ k
noncomputable def L.heldIntS_k2 (κ : V → List E → R) : X → St → R := (afterC TD (tableK L.heldIntS_T) L.heldIntS_ann (drawOk TD (tableP L.heldIntS_T)) 0 FUEL 2 (Try.f35.body.getD .skip) (finC TD 0 Try.f35 κ)).getD (fun _ _ => none)
noncomputable def L.heldIntS_step2 {α : Type} (x0 : List Int) (x1 : Int) (x5 : Int) (next_ : Int × Int → α) (out0_ : Int × Int → α) (out1_ : Int → α) (fail_ : α) : α :=
  (bif decide (x5 < (↑x0.length : Int)) then (bif decide (0 ≤ x5) && decide (x5 < (↑x0.length : Int)) then (bif !eli x0 x5.toNat == x1 then (out0_ (x1, -1)) else (next_ (IntKind.i64.wrap (x1 + 1), IntKind.i64.wrap (x5 + 1)))) else fail_) else (out1_ x1))
theorem L.heldIntS_step2_nat {α γ : Type} (g : α → γ) (x0 : List Int) (x1 : Int) (x5 : Int) (next_ : Int × Int → α) (out0_ : Int × Int → α) (out1_ : Int → α) (fail_ : α) : g (L.heldIntS_step2 x0 x1 x5 next_ out0_ out1_ fail_) = L.heldIntS_step2 x0 x1 x5 (fun s => g (next_ s)) (fun d => g (out0_ d)) (fun d => g (out1_ d)) (g fail_) := by
  unfold L.heldIntS_step2; simp only [apply_cnd g, apply_optC g, apply_sumC g]
noncomputable def L.heldIntS_run2 (x0 : List Int) : Nat → Int × Int → Option ((Int × Int) ⊕ (Int))
  | 0, _ => none
  | n + 1, s_ => L.heldIntS_step2 x0 s_.1 s_.2 (L.heldIntS_run2 x0 n) (fun d => some ((Sum.inl d))) (fun d => some ((Sum.inr d))) none
theorem L.heldIntS_L2_run (x0 : List Int) (n : Nat) (s_ : Int × Int) (k : X → St → R) : L.heldIntS_L2 n { n := 21, t := [(0, (.ro false (.ints .i64 x0))), (1, (.int .i64 s_.1)), (5, (.int .i64 s_.2))], h := [] } k = optC (L.heldIntS_run2 x0 n s_) (fun (r : (Int × Int) ⊕ (Int)) => (sumC r (fun (r : Int × Int) => k (.ret) { n := 21, t := [(1, (.int .i64 r.1)), (4, (.int .i64 r.2))], h := [] }) (fun (r : Int) => k (.exit 0) { n := 21, t := [(1, (.int .i64 r)), (4, .junk)], h := [] }))) none := by
  induction n generalizing s_ with
  | zero => rfl
  | succ n ih =>
    have hu : L.heldIntS_L2 (n + 1) { n := 21, t := [(0, (.ro false (.ints .i64 x0))), (1, (.int .i64 s_.1)), (5, (.int .i64 s_.2))], h := [] } k = L.heldIntS_step2 x0 s_.1 s_.2 (fun s_ => L.heldIntS_L2 n { n := 21, t := [(0, (.ro false (.ints .i64 x0))), (1, (.int .i64 s_.1)), (5, (.int .i64 s_.2))], h := [] } k) (fun d => k (.ret) { n := 21, t := [(1, (.int .i64 d.1)), (4, (.int .i64 d.2))], h := [] }) (fun d => k (.exit 0) { n := 21, t := [(1, (.int .i64 d)), (4, .junk)], h := [] }) none := by
      kernel_rfl
    have hs : (fun s_ : Int × Int => L.heldIntS_L2 n { n := 21, t := [(0, (.ro false (.ints .i64 x0))), (1, (.int .i64 s_.1)), (5, (.int .i64 s_.2))], h := [] } k) = fun s_ => optC (L.heldIntS_run2 x0 n s_) (fun (r : (Int × Int) ⊕ (Int)) => (sumC r (fun (r : Int × Int) => k (.ret) { n := 21, t := [(1, (.int .i64 r.1)), (4, (.int .i64 r.2))], h := [] }) (fun (r : Int) => k (.exit 0) { n := 21, t := [(1, (.int .i64 r)), (4, .junk)], h := [] }))) none := funext ih
    rw [hu, hs]
    exact (L.heldIntS_step2_nat (fun o => optC o (fun (r : (Int × Int) ⊕ (Int)) => (sumC r (fun (r : Int × Int) => k (.ret) { n := 21, t := [(1, (.int .i64 r.1)), (4, (.int .i64 r.2))], h := [] }) (fun (r : Int) => k (.exit 0) { n := 21, t := [(1, (.int .i64 r)), (4, .junk)], h := [] }))) none) x0 s_.1 s_.2 (L.heldIntS_run2 x0 n) (fun d => some ((Sum.inl d))) (fun d => some ((Sum.inr d))) none).symm
noncomputable def L.heldIntS_tree {α : Type} (a : List Int) (k_ : Int) (leaf0_ : Int → α) (fail_ : α) : α :=
  (optC (L.heldIntS_run2 a FUEL (k_, 0)) (fun qy_1 => (sumC qy_1 (fun (qy_1 : Int × Int) => (leaf0_ qy_1.2)) (fun (qy_1 : Int) => (leaf0_ qy_1)))) fail_)
theorem L.heldIntS_tree_nat {α γ : Type} (g : α → γ) (a : List Int) (k_ : Int) (leaf0_ : Int → α) (fail_ : α) : g (L.heldIntS_tree a k_ leaf0_ fail_) = L.heldIntS_tree a k_ (fun d => g (leaf0_ d)) (g fail_) := by
  unfold L.heldIntS_tree; simp only [apply_cnd g, apply_optC g, apply_sumC g]
noncomputable def L.heldIntS_t (a : List Int) (k_ : Int) : Option (Int) := L.heldIntS_tree a k_ (fun d => some d) none
theorem L.heldIntS_den (a : List Int) (k_ : Int) (κ : V → List E → R) : L.heldIntS_F [.ro false (.ints .i64 a), .int .i64 k_] [] κ = optC (L.heldIntS_t a k_) (fun (r : Int) => κ (.int .i64 r) []) none := by
  have hu : L.heldIntS_F [.ro false (.ints .i64 a), .int .i64 k_] [] κ = L.heldIntS_tree a k_ (fun d => κ (.int .i64 d) []) none := by
    refine Eq.trans (show L.heldIntS_F [.ro false (.ints .i64 a), .int .i64 k_] [] κ = (L.heldIntS_L2 FUEL { n := 21, t := [(0, (.ro false (.ints .i64 a))), (1, (.int .i64 k_)), (5, (.int .i64 0))], h := [] } (L.heldIntS_k2 κ)) by kernel_rfl) ?_
    refine (L.heldIntS_L2_run a FUEL (k_, 0) (L.heldIntS_k2 κ)).trans (optC_congr (fun qy_1 => ?_))
    rcases qy_1 with qy_1 | qy_1
    · kernel_rfl
    · kernel_rfl
  rw [hu]
  exact (L.heldIntS_tree_nat (fun o => optC o (fun (r : Int) => κ (.int .i64 r) []) none) a k_ (fun d => some d) none).symm
noncomputable def L.heldIntS_s : D.Spec where
  keep := false
  pure := true
  ds := [.int .i64, .invalid]
  sp := fun args h κ => match args, h with
    | [.ro false (.ints .i64 a), .int .i64 k_], [] => optC (L.heldIntS_t a k_) (fun (r : Int) => κ (.int .i64 r) []) none
    | _, _ => none
theorem L.heldIntS_ok : SpecOk Try.prog 35 L.heldIntS_s := by
  refine SpecOk.of TDok mixed (T := L.heldIntS_T) ?_ (ann := L.heldIntS_ann) Try.func35 rfl (by decide +kernel) ?_ ?_ ?_
  · intro p hp; cases hp
  · intro args h κ r hh
    simp only [L.heldIntS_s] at hh
    split at hh
    · exact (L.heldIntS_den _ _ κ).trans hh
    · cases hh
  · intro args h κ r hh
    simp only [L.heldIntS_s] at hh ⊢
    split at hh
    · exact optC_law2 (F := fun (r : Int) κ => κ (.int .i64 r) []) (fun b κ r hb => ⟨_, _, hb, fun _ => rfl⟩) hh
    · cases hh
  · intro _ args h κ r hh
    simp only [L.heldIntS_s] at hh
    split at hh
    · exact ⟨rfl, fun _ => rfl⟩
    · cases hh

-- loop.example/guardsonnets/laws.FnExactShareRow
noncomputable def L.FnExactShareRow_T : List (Nat × D.Spec) := [(22, L.toIntS_s), (32, S.ShareRow_s), (30, I.ShareRow_s), (23, L.eqIntS_s), (34, L.markIntS_s), (35, L.heldIntS_s)]
def L.FnExactShareRow_ann : Nat → List Nat × List Nat
  | _ => ([], [])
noncomputable def L.FnExactShareRow_F (args : List V) (h : List E) (κ : V → List E → R) : R := funC TD (tableK L.FnExactShareRow_T) L.FnExactShareRow_ann (drawOk TD (tableP L.FnExactShareRow_T)) FUEL Try.f8 args h κ
noncomputable def L.FnExactShareRow_tree {α : Type} (aNet : List Int) (leaf0_ : Bool → α) (fail_ : α) : α :=
  (bif decide ((↑aNet.length : Int) > 1048576) then (leaf0_ true) else (optC (L.toIntS_t aNet) (fun c_1 => (optC (S.ShareRow_t c_1) (fun c_2 => (optC (L.toIntS_t aNet) (fun c_3 => (optC (I.ShareRow_t c_3) (fun c_4 => (optC (L.eqIntS_t c_4 c_2) (fun c_5 => (bif !c_5 then (leaf0_ false) else (optC (L.toIntS_t aNet) (fun c_6 => (optC (L.eqIntS_t c_3 c_6) (fun c_7 => (bif !c_7 then (leaf0_ false) else (optC (L.markIntS_t c_3 1) (fun c_8 => (bif decide (c_8.fst < 0) then (leaf0_ false) else (optC (L.eqIntS_t c_4 c_2) (fun c_9 => (bif !c_9 then (leaf0_ false) else (optC (L.markIntS_t c_4 1) (fun c_10 => (optC (L.heldIntS_t c_10.snd 1) (fun c_11 => (bif decide (c_11 < 0) then (leaf0_ false) else (bif !c_11 == c_10.fst then (leaf0_ false) else (optC (L.toIntS_t aNet) (fun c_12 => (optC (I.ShareRow_t c_12) (fun c_13 => (optC (L.eqIntS_t c_13 c_2) (fun c_14 => (bif !c_14 then (leaf0_ false) else (optC (L.heldIntS_t c_10.snd 1) (fun c_15 => (bif decide (c_15 < 0) then (leaf0_ false) else (bif !c_15 == c_10.fst then (leaf0_ false) else (leaf0_ true)))) fail_))) fail_)) fail_)) fail_)))) fail_)) fail_))) fail_))) fail_))) fail_)) fail_))) fail_)) fail_)) fail_)) fail_)) fail_))
theorem L.FnExactShareRow_tree_nat {α γ : Type} (g : α → γ) (aNet : List Int) (leaf0_ : Bool → α) (fail_ : α) : g (L.FnExactShareRow_tree aNet leaf0_ fail_) = L.FnExactShareRow_tree aNet (fun d => g (leaf0_ d)) (g fail_) := by
  unfold L.FnExactShareRow_tree; simp only [apply_cnd g, apply_optC g, apply_sumC g]
noncomputable def L.FnExactShareRow_t (aNet : List Int) : Option (Bool) := L.FnExactShareRow_tree aNet (fun d => some d) none
theorem L.FnExactShareRow_den (aNet : List Int) (κ : V → List E → R) : L.FnExactShareRow_F [.ro true (.ints .i64 aNet)] [] κ = optC (L.FnExactShareRow_t aNet) (fun (r : Bool) => κ (.bool r) []) none := by
  have hu : L.FnExactShareRow_F [.ro true (.ints .i64 aNet)] [] κ = L.FnExactShareRow_tree aNet (fun d => κ (.bool d) []) none := by
    kernel_rfl
  rw [hu]
  exact (L.FnExactShareRow_tree_nat (fun o => optC o (fun (r : Bool) => κ (.bool r) []) none) aNet (fun d => some d) none).symm
noncomputable def L.FnExactShareRow_s : D.Spec where
  keep := true
  pure := true
  ds := [.int .i64]
  sp := fun args h κ => match args, h with
    | [.ro true (.ints .i64 aNet)], [] => optC (L.FnExactShareRow_t aNet) (fun (r : Bool) => κ (.bool r) []) none
    | _, _ => none
theorem L.FnExactShareRow_ok : SpecOk Try.prog 8 L.FnExactShareRow_s := by
  refine SpecOk.of TDok mixed (T := L.FnExactShareRow_T) ?_ (ann := L.FnExactShareRow_ann) Try.func8 rfl (by decide +kernel) ?_ ?_ ?_
  · intro p hp
    simp only [L.FnExactShareRow_T, List.mem_cons, List.not_mem_nil, or_false] at hp
    rcases hp with rfl | rfl | rfl | rfl | rfl | rfl
    · exact L.toIntS_ok
    · exact S.ShareRow_ok
    · exact I.ShareRow_ok
    · exact L.eqIntS_ok
    · exact L.markIntS_ok
    · exact L.heldIntS_ok
  · intro args h κ r hh
    simp only [L.FnExactShareRow_s] at hh
    split at hh
    · exact (L.FnExactShareRow_den _ κ).trans hh
    · cases hh
  · intro args h κ r hh
    simp only [L.FnExactShareRow_s] at hh ⊢
    split at hh
    · exact optC_law2 (F := fun (r : Bool) κ => κ (.bool r) []) (fun b κ r hb => ⟨_, _, hb, fun _ => rfl⟩) hh
    · cases hh
  · intro _ args h κ r hh
    simp only [L.FnExactShareRow_s] at hh
    split at hh
    · exact ⟨rfl, fun _ => rfl⟩
    · cases hh

-- loop.example/guardsonnets/spec.DrawMostShares
noncomputable def S.DrawMostShares_T : List (Nat × D.Spec) := [(47, S.l20Open_s), (46, S.l20Net_s)]
def S.DrawMostShares_ann : Nat → List Nat × List Nat
  | _ => ([], [])
noncomputable def S.DrawMostShares_F (args : List V) (h : List E) (κ : V → List E → R) : R := funC TD (tableK S.DrawMostShares_T) S.DrawMostShares_ann (drawOk TD (tableP S.DrawMostShares_T)) FUEL Try.f36 args h κ
noncomputable def S.DrawMostShares_tree {α : Type} (code : List Int) (leaf0_ : List Int → α) (fail_ : α) : α :=
  (optC (S.l20Open_t code) (fun c_1 => (optC (S.l20Net_t c_1.fst c_1.snd 9) (fun c_2 => (leaf0_ c_2.snd.snd)) fail_)) fail_)
theorem S.DrawMostShares_tree_nat {α γ : Type} (g : α → γ) (code : List Int) (leaf0_ : List Int → α) (fail_ : α) : g (S.DrawMostShares_tree code leaf0_ fail_) = S.DrawMostShares_tree code (fun d => g (leaf0_ d)) (g fail_) := by
  unfold S.DrawMostShares_tree; simp only [apply_cnd g, apply_optC g, apply_sumC g]
noncomputable def S.DrawMostShares_t (code : List Int) : Option (List Int) := S.DrawMostShares_tree code (fun d => some d) none
theorem S.DrawMostShares_den (code : List Int) (κ : V → List E → R) : S.DrawMostShares_F [.ro true (.ints .u8 code)] [] κ = optC (S.DrawMostShares_t code) (fun (r : List Int) => κ (.own 0) [.row (.ints .i64 r)]) none := by
  have hu : S.DrawMostShares_F [.ro true (.ints .u8 code)] [] κ = S.DrawMostShares_tree code (fun d => κ (.own 0) [.row (.ints .i64 d)]) none := by
    kernel_rfl
  rw [hu]
  exact (S.DrawMostShares_tree_nat (fun o => optC o (fun (r : List Int) => κ (.own 0) [.row (.ints .i64 r)]) none) code (fun d => some d) none).symm
noncomputable def S.DrawMostShares_s : D.Spec where
  keep := true
  pure := false
  ds := [.int .u8]
  sp := fun args h κ => match args, h with
    | [.ro true (.ints .u8 code)], [] => optC (S.DrawMostShares_t code) (fun (r : List Int) => κ (.own 0) [.row (.ints .i64 r)]) none
    | _, _ => none
theorem S.DrawMostShares_ok : SpecOk Try.prog 36 S.DrawMostShares_s := by
  refine SpecOk.of TDok mixed (T := S.DrawMostShares_T) ?_ (ann := S.DrawMostShares_ann) Try.func36 rfl (by decide +kernel) ?_ ?_ ?_
  · intro p hp
    simp only [S.DrawMostShares_T, List.mem_cons, List.not_mem_nil, or_false] at hp
    rcases hp with rfl | rfl
    · exact S.l20Open_ok
    · exact S.l20Net_ok
  · intro args h κ r hh
    simp only [S.DrawMostShares_s] at hh
    split at hh
    · exact (S.DrawMostShares_den _ κ).trans hh
    · cases hh
  · intro args h κ r hh
    simp only [S.DrawMostShares_s] at hh ⊢
    split at hh
    · exact optC_law2 (F := fun (r : List Int) κ => κ (.own 0) [.row (.ints .i64 r)]) (fun b κ r hb => ⟨_, _, hb, fun _ => rfl⟩) hh
    · cases hh
  · intro hh; cases hh

-- loop.example/guardsonnets/spec.MostShares
noncomputable def S.MostShares_T : List (Nat × D.Spec) := [(49, S.NetOk_s), (32, S.ShareRow_s)]
def S.MostShares_ann : Nat → List Nat × List Nat
  | 6 => ([3, 4, 5], [4])
  | _ => ([], [])
noncomputable def S.MostShares_F (args : List V) (h : List E) (κ : V → List E → R) : R := funC TD (tableK S.MostShares_T) S.MostShares_ann (drawOk TD (tableP S.MostShares_T)) FUEL Try.f37 args h κ
noncomputable def S.MostShares_L6 (n : Nat) (σ : St) (k : X → St → R) : R := iterC 0 (fun σ k => denC TD (tableK S.MostShares_T) S.MostShares_ann (drawOk TD (tableP S.MostShares_T)) 0 FUEL ((findLoop 6 (Try.f37.body.getD .skip)).getD .skip) σ k) [3, 4, 5] [4] n σ k
noncomputable def S.MostShares_k6 (κ : V → List E → R) : X → St → R := (afterC TD (tableK S.MostShares_T) S.MostShares_ann (drawOk TD (tableP S.MostShares_T)) 0 FUEL 6 (Try.f37.body.getD .skip) (finC TD 0 Try.f37 κ)).getD (fun _ _ => none)
noncomputable def S.MostShares_step6 {α : Type} (x4 : Int) (x5 : Int) (r0 : List Int) (next_ : Int × Int × (List Int) → α) (out0_ : Int → α) (fail_ : α) : α :=
  (bif decide (x5 < (↑r0.length : Int)) then (bif decide (0 ≤ x5) && decide (x5 < (↑r0.length : Int)) then (bif decide (x5.toNat < r0.length) then (next_ (if IntKind.i64.wrap (eli r0 x5.toNat + 1) > x4 then IntKind.i64.wrap (eli r0 x5.toNat + 1) else x4, IntKind.i64.wrap (x5 + 1), r0)) else fail_) else fail_) else (out0_ x4))
theorem S.MostShares_step6_nat {α γ : Type} (g : α → γ) (x4 : Int) (x5 : Int) (r0 : List Int) (next_ : Int × Int × (List Int) → α) (out0_ : Int → α) (fail_ : α) : g (S.MostShares_step6 x4 x5 r0 next_ out0_ fail_) = S.MostShares_step6 x4 x5 r0 (fun s => g (next_ s)) (fun d => g (out0_ d)) (g fail_) := by
  unfold S.MostShares_step6; simp only [apply_cnd g, apply_optC g, apply_sumC g]
noncomputable def S.MostShares_run6 : Nat → Int × Int × (List Int) → Option (Int)
  | 0, _ => none
  | n + 1, s_ => S.MostShares_step6 s_.1 s_.2.1 s_.2.2 (S.MostShares_run6 n) (fun d => some d) none
theorem S.MostShares_L6_run (n : Nat) (s_ : Int × Int × (List Int)) (k : X → St → R) : S.MostShares_L6 n { n := 25, t := [(3, (.own 0)), (4, (.int .i64 s_.1)), (5, (.int .i64 s_.2.1))], h := [.row (.ints .i64 s_.2.2)] } k = optC (S.MostShares_run6 n s_) (fun (r : Int) => k (.exit 0) { n := 25, t := [(4, (.int .i64 r))], h := [] }) none := by
  induction n generalizing s_ with
  | zero => rfl
  | succ n ih =>
    have hu : S.MostShares_L6 (n + 1) { n := 25, t := [(3, (.own 0)), (4, (.int .i64 s_.1)), (5, (.int .i64 s_.2.1))], h := [.row (.ints .i64 s_.2.2)] } k = S.MostShares_step6 s_.1 s_.2.1 s_.2.2 (fun s_ => S.MostShares_L6 n { n := 25, t := [(3, (.own 0)), (4, (.int .i64 s_.1)), (5, (.int .i64 s_.2.1))], h := [.row (.ints .i64 s_.2.2)] } k) (fun d => k (.exit 0) { n := 25, t := [(4, (.int .i64 d))], h := [] }) none := by
      kernel_rfl
    have hs : (fun s_ : Int × Int × (List Int) => S.MostShares_L6 n { n := 25, t := [(3, (.own 0)), (4, (.int .i64 s_.1)), (5, (.int .i64 s_.2.1))], h := [.row (.ints .i64 s_.2.2)] } k) = fun s_ => optC (S.MostShares_run6 n s_) (fun (r : Int) => k (.exit 0) { n := 25, t := [(4, (.int .i64 r))], h := [] }) none := funext ih
    rw [hu, hs]
    exact (S.MostShares_step6_nat (fun o => optC o (fun (r : Int) => k (.exit 0) { n := 25, t := [(4, (.int .i64 r))], h := [] }) none) s_.1 s_.2.1 s_.2.2 (S.MostShares_run6 n) (fun d => some d) none).symm
noncomputable def S.MostShares_tree {α : Type} (net : List Int) (leaf0_ : Int → α) (fail_ : α) : α :=
  (optC (S.NetOk_t net) (fun c_1 => (bif !c_1 then (leaf0_ (-1)) else (optC (S.ShareRow_t net) (fun c_2 => (optC (S.MostShares_run6 FUEL (0, 0, c_2)) (fun qy_3 => (leaf0_ qy_3)) fail_)) fail_))) fail_)
theorem S.MostShares_tree_nat {α γ : Type} (g : α → γ) (net : List Int) (leaf0_ : Int → α) (fail_ : α) : g (S.MostShares_tree net leaf0_ fail_) = S.MostShares_tree net (fun d => g (leaf0_ d)) (g fail_) := by
  unfold S.MostShares_tree; simp only [apply_cnd g, apply_optC g, apply_sumC g]
noncomputable def S.MostShares_t (net : List Int) : Option (Int) := S.MostShares_tree net (fun d => some d) none
theorem S.MostShares_den (net : List Int) (κ : V → List E → R) : S.MostShares_F [.ro false (.ints .i64 net)] [] κ = optC (S.MostShares_t net) (fun (r : Int) => κ (.int .i64 r) []) none := by
  have hu : S.MostShares_F [.ro false (.ints .i64 net)] [] κ = S.MostShares_tree net (fun d => κ (.int .i64 d) []) none := by
    refine Eq.trans (show S.MostShares_F [.ro false (.ints .i64 net)] [] κ = (optC (S.NetOk_t net) (fun c_1 => (bif !c_1 then (κ (.int .i64 (-1)) []) else (optC (S.ShareRow_t net) (fun c_2 => (S.MostShares_L6 FUEL { n := 25, t := [(3, (.own 0)), (4, (.int .i64 0)), (5, (.int .i64 0))], h := [.row (.ints .i64 c_2)] } (S.MostShares_k6 κ))) none))) none) by kernel_rfl) ?_
    refine optC_congr (fun c_1 => ?_)
    refine cnd_congr ?_ ?_
    · kernel_rfl
    · refine optC_congr (fun c_2 => ?_)
      refine (S.MostShares_L6_run FUEL (0, 0, c_2) (S.MostShares_k6 κ)).trans (optC_congr (fun qy_3 => ?_))
      kernel_rfl
  rw [hu]
  exact (S.MostShares_tree_nat (fun o => optC o (fun (r : Int) => κ (.int .i64 r) []) none) net (fun d => some d) none).symm
noncomputable def S.MostShares_s : D.Spec where
  keep := false
  pure := true
  ds := [.int .i64]
  sp := fun args h κ => match args, h with
    | [.ro false (.ints .i64 net)], [] => optC (S.MostShares_t net) (fun (r : Int) => κ (.int .i64 r) []) none
    | _, _ => none
theorem S.MostShares_ok : SpecOk Try.prog 37 S.MostShares_s := by
  refine SpecOk.of TDok mixed (T := S.MostShares_T) ?_ (ann := S.MostShares_ann) Try.func37 rfl (by decide +kernel) ?_ ?_ ?_
  · intro p hp
    simp only [S.MostShares_T, List.mem_cons, List.not_mem_nil, or_false] at hp
    rcases hp with rfl | rfl
    · exact S.NetOk_ok
    · exact S.ShareRow_ok
  · intro args h κ r hh
    simp only [S.MostShares_s] at hh
    split at hh
    · exact (S.MostShares_den _ κ).trans hh
    · cases hh
  · intro args h κ r hh
    simp only [S.MostShares_s] at hh ⊢
    split at hh
    · exact optC_law2 (F := fun (r : Int) κ => κ (.int .i64 r) []) (fun b κ r hb => ⟨_, _, hb, fun _ => rfl⟩) hh
    · cases hh
  · intro _ args h κ r hh
    simp only [S.MostShares_s] at hh
    split at hh
    · exact ⟨rfl, fun _ => rfl⟩
    · cases hh

-- loop.example/guardsonnets/impl.smallWatchIn
noncomputable def I.smallWatchIn_T : List (Nat × D.Spec) := [(68, I.allOf_s), (54, I.sizeOf_s), (62, I.watchIn_s)]
def I.smallWatchIn_ann : Nat → List Nat × List Nat
  | 3 => ([0, 3, 4], [3])
  | _ => ([], [])
noncomputable def I.smallWatchIn_F (args : List V) (h : List E) (κ : V → List E → R) : R := funC TD (tableK I.smallWatchIn_T) I.smallWatchIn_ann (drawOk TD (tableP I.smallWatchIn_T)) FUEL Try.f65 args h κ
noncomputable def I.smallWatchIn_L3 (n : Nat) (σ : St) (k : X → St → R) : R := iterC 0 (fun σ k => denC TD (tableK I.smallWatchIn_T) I.smallWatchIn_ann (drawOk TD (tableP I.smallWatchIn_T)) 0 FUEL ((findLoop 3 (Try.f65.body.getD .skip)).getD .skip) σ k) [0, 3, 4] [3] n σ k
noncomputable def I.smallWatchIn_k3 (κ : V → List E → R) : X → St → R := (afterC TD (tableK I.smallWatchIn_T) I.smallWatchIn_ann (drawOk TD (tableP I.smallWatchIn_T)) 0 FUEL 3 (Try.f65.body.getD .skip) (finC TD 0 Try.f65 κ)).getD (fun _ _ => none)
noncomputable def I.smallWatchIn_step3 {α : Type} (x0 : List Int) (x3 : Int) (x4 : Int) (next_ : Int × Int → α) (out0_ : Int → α) (fail_ : α) : α :=
  (optC (I.allOf_t x0) (fun c_2 => (bif decide (x4 < c_2) then (optC (I.sizeOf_t x4) (fun c_3 => (optC (I.sizeOf_t x3) (fun c_4 => (bif decide (c_3 < c_4) then (optC (I.watchIn_t x0 x4) (fun c_5 => (bif c_5 then (next_ (x4, IntKind.i64.wrap (x4 + 1))) else (next_ (x3, IntKind.i64.wrap (x4 + 1))))) fail_) else (next_ (x3, IntKind.i64.wrap (x4 + 1))))) fail_)) fail_) else (out0_ x3))) fail_)
theorem I.smallWatchIn_step3_nat {α γ : Type} (g : α → γ) (x0 : List Int) (x3 : Int) (x4 : Int) (next_ : Int × Int → α) (out0_ : Int → α) (fail_ : α) : g (I.smallWatchIn_step3 x0 x3 x4 next_ out0_ fail_) = I.smallWatchIn_step3 x0 x3 x4 (fun s => g (next_ s)) (fun d => g (out0_ d)) (g fail_) := by
  unfold I.smallWatchIn_step3; simp only [apply_cnd g, apply_optC g, apply_sumC g]
noncomputable def I.smallWatchIn_run3 (x0 : List Int) : Nat → Int × Int → Option (Int)
  | 0, _ => none
  | n + 1, s_ => I.smallWatchIn_step3 x0 s_.1 s_.2 (I.smallWatchIn_run3 x0 n) (fun d => some d) none
theorem I.smallWatchIn_L3_run (x0 : List Int) (n : Nat) (s_ : Int × Int) (k : X → St → R) : I.smallWatchIn_L3 n { n := 25, t := [(0, (.ro false (.ints .i64 x0))), (3, (.int .i64 s_.1)), (4, (.int .i64 s_.2))], h := [] } k = optC (I.smallWatchIn_run3 x0 n s_) (fun (r : Int) => k (.exit 0) { n := 25, t := [(3, (.int .i64 r))], h := [] }) none := by
  induction n generalizing s_ with
  | zero => rfl
  | succ n ih =>
    have hu : I.smallWatchIn_L3 (n + 1) { n := 25, t := [(0, (.ro false (.ints .i64 x0))), (3, (.int .i64 s_.1)), (4, (.int .i64 s_.2))], h := [] } k = I.smallWatchIn_step3 x0 s_.1 s_.2 (fun s_ => I.smallWatchIn_L3 n { n := 25, t := [(0, (.ro false (.ints .i64 x0))), (3, (.int .i64 s_.1)), (4, (.int .i64 s_.2))], h := [] } k) (fun d => k (.exit 0) { n := 25, t := [(3, (.int .i64 d))], h := [] }) none := by
      kernel_rfl
    have hs : (fun s_ : Int × Int => I.smallWatchIn_L3 n { n := 25, t := [(0, (.ro false (.ints .i64 x0))), (3, (.int .i64 s_.1)), (4, (.int .i64 s_.2))], h := [] } k) = fun s_ => optC (I.smallWatchIn_run3 x0 n s_) (fun (r : Int) => k (.exit 0) { n := 25, t := [(3, (.int .i64 r))], h := [] }) none := funext ih
    rw [hu, hs]
    exact (I.smallWatchIn_step3_nat (fun o => optC o (fun (r : Int) => k (.exit 0) { n := 25, t := [(3, (.int .i64 r))], h := [] }) none) x0 s_.1 s_.2 (I.smallWatchIn_run3 x0 n) (fun d => some d) none).symm
noncomputable def I.smallWatchIn_tree {α : Type} (net : List Int) (leaf0_ : Int → α) (fail_ : α) : α :=
  (optC (I.allOf_t net) (fun c_1 => (optC (I.smallWatchIn_run3 net FUEL (c_1, 0)) (fun qy_6 => (leaf0_ qy_6)) fail_)) fail_)
theorem I.smallWatchIn_tree_nat {α γ : Type} (g : α → γ) (net : List Int) (leaf0_ : Int → α) (fail_ : α) : g (I.smallWatchIn_tree net leaf0_ fail_) = I.smallWatchIn_tree net (fun d => g (leaf0_ d)) (g fail_) := by
  unfold I.smallWatchIn_tree; simp only [apply_cnd g, apply_optC g, apply_sumC g]
noncomputable def I.smallWatchIn_t (net : List Int) : Option (Int) := I.smallWatchIn_tree net (fun d => some d) none
theorem I.smallWatchIn_den (net : List Int) (κ : V → List E → R) : I.smallWatchIn_F [.ro false (.ints .i64 net)] [] κ = optC (I.smallWatchIn_t net) (fun (r : Int) => κ (.int .i64 r) []) none := by
  have hu : I.smallWatchIn_F [.ro false (.ints .i64 net)] [] κ = I.smallWatchIn_tree net (fun d => κ (.int .i64 d) []) none := by
    refine Eq.trans (show I.smallWatchIn_F [.ro false (.ints .i64 net)] [] κ = (optC (I.allOf_t net) (fun c_1 => (I.smallWatchIn_L3 FUEL { n := 25, t := [(0, (.ro false (.ints .i64 net))), (3, (.int .i64 c_1)), (4, (.int .i64 0))], h := [] } (I.smallWatchIn_k3 κ))) none) by kernel_rfl) ?_
    refine optC_congr (fun c_1 => ?_)
    refine (I.smallWatchIn_L3_run net FUEL (c_1, 0) (I.smallWatchIn_k3 κ)).trans (optC_congr (fun qy_6 => ?_))
    kernel_rfl
  rw [hu]
  exact (I.smallWatchIn_tree_nat (fun o => optC o (fun (r : Int) => κ (.int .i64 r) []) none) net (fun d => some d) none).symm
noncomputable def I.smallWatchIn_s : D.Spec where
  keep := false
  pure := true
  ds := [.int .i64]
  sp := fun args h κ => match args, h with
    | [.ro false (.ints .i64 net)], [] => optC (I.smallWatchIn_t net) (fun (r : Int) => κ (.int .i64 r) []) none
    | _, _ => none
theorem I.smallWatchIn_ok : SpecOk Try.prog 65 I.smallWatchIn_s := by
  refine SpecOk.of TDok mixed (T := I.smallWatchIn_T) ?_ (ann := I.smallWatchIn_ann) Try.func65 rfl (by decide +kernel) ?_ ?_ ?_
  · intro p hp
    simp only [I.smallWatchIn_T, List.mem_cons, List.not_mem_nil, or_false] at hp
    rcases hp with rfl | rfl | rfl
    · exact I.allOf_ok
    · exact I.sizeOf_ok
    · exact I.watchIn_ok
  · intro args h κ r hh
    simp only [I.smallWatchIn_s] at hh
    split at hh
    · exact (I.smallWatchIn_den _ κ).trans hh
    · cases hh
  · intro args h κ r hh
    simp only [I.smallWatchIn_s] at hh ⊢
    split at hh
    · exact optC_law2 (F := fun (r : Int) κ => κ (.int .i64 r) []) (fun b κ r hb => ⟨_, _, hb, fun _ => rfl⟩) hh
    · cases hh
  · intro _ args h κ r hh
    simp only [I.smallWatchIn_s] at hh
    split at hh
    · exact ⟨rfl, fun _ => rfl⟩
    · cases hh

-- loop.example/guardsonnets/impl.FewestWatch
noncomputable def I.FewestWatch_T : List (Nat × D.Spec) := [(18, I.NetOk_s), (65, I.smallWatchIn_s), (54, I.sizeOf_s)]
def I.FewestWatch_ann : Nat → List Nat × List Nat
  | _ => ([], [])
noncomputable def I.FewestWatch_F (args : List V) (h : List E) (κ : V → List E → R) : R := funC TD (tableK I.FewestWatch_T) I.FewestWatch_ann (drawOk TD (tableP I.FewestWatch_T)) FUEL Try.f38 args h κ
noncomputable def I.FewestWatch_tree {α : Type} (net : List Int) (leaf0_ : Int → α) (fail_ : α) : α :=
  (optC (I.NetOk_t net) (fun c_1 => (bif !c_1 then (leaf0_ (-1)) else (optC (I.smallWatchIn_t net) (fun c_2 => (optC (I.sizeOf_t c_2) (fun c_3 => (leaf0_ c_3)) fail_)) fail_))) fail_)
theorem I.FewestWatch_tree_nat {α γ : Type} (g : α → γ) (net : List Int) (leaf0_ : Int → α) (fail_ : α) : g (I.FewestWatch_tree net leaf0_ fail_) = I.FewestWatch_tree net (fun d => g (leaf0_ d)) (g fail_) := by
  unfold I.FewestWatch_tree; simp only [apply_cnd g, apply_optC g, apply_sumC g]
noncomputable def I.FewestWatch_t (net : List Int) : Option (Int) := I.FewestWatch_tree net (fun d => some d) none
theorem I.FewestWatch_den (net : List Int) (κ : V → List E → R) : I.FewestWatch_F [.ro false (.ints .i64 net)] [] κ = optC (I.FewestWatch_t net) (fun (r : Int) => κ (.int .i64 r) []) none := by
  have hu : I.FewestWatch_F [.ro false (.ints .i64 net)] [] κ = I.FewestWatch_tree net (fun d => κ (.int .i64 d) []) none := by
    kernel_rfl
  rw [hu]
  exact (I.FewestWatch_tree_nat (fun o => optC o (fun (r : Int) => κ (.int .i64 r) []) none) net (fun d => some d) none).symm
noncomputable def I.FewestWatch_s : D.Spec where
  keep := false
  pure := true
  ds := [.int .i64]
  sp := fun args h κ => match args, h with
    | [.ro false (.ints .i64 net)], [] => optC (I.FewestWatch_t net) (fun (r : Int) => κ (.int .i64 r) []) none
    | _, _ => none
theorem I.FewestWatch_ok : SpecOk Try.prog 38 I.FewestWatch_s := by
  refine SpecOk.of TDok mixed (T := I.FewestWatch_T) ?_ (ann := I.FewestWatch_ann) Try.func38 rfl (by decide +kernel) ?_ ?_ ?_
  · intro p hp
    simp only [I.FewestWatch_T, List.mem_cons, List.not_mem_nil, or_false] at hp
    rcases hp with rfl | rfl | rfl
    · exact I.NetOk_ok
    · exact I.smallWatchIn_ok
    · exact I.sizeOf_ok
  · intro args h κ r hh
    simp only [I.FewestWatch_s] at hh
    split at hh
    · exact (I.FewestWatch_den _ κ).trans hh
    · cases hh
  · intro args h κ r hh
    simp only [I.FewestWatch_s] at hh ⊢
    split at hh
    · exact optC_law2 (F := fun (r : Int) κ => κ (.int .i64 r) []) (fun b κ r hb => ⟨_, _, hb, fun _ => rfl⟩) hh
    · cases hh
  · intro _ args h κ r hh
    simp only [I.FewestWatch_s] at hh
    split at hh
    · exact ⟨rfl, fun _ => rfl⟩
    · cases hh

-- loop.example/guardsonnets/laws.FnMostShares
noncomputable def L.FnMostShares_T : List (Nat × D.Spec) := [(36, S.DrawMostShares_s), (33, I.MostShares_s), (37, S.MostShares_s), (18, I.NetOk_s), (19, L.alive_s), (16, I.LeastNear_s), (38, I.FewestWatch_s), (20, I.LoneOf_s)]
def L.FnMostShares_ann : Nat → List Nat × List Nat
  | _ => ([], [])
noncomputable def L.FnMostShares_F (args : List V) (h : List E) (κ : V → List E → R) : R := funC TD (tableK L.FnMostShares_T) L.FnMostShares_ann (drawOk TD (tableP L.FnMostShares_T)) FUEL Try.f9 args h κ
noncomputable def L.FnMostShares_tree {α : Type} (code : List Int) (leaf0_ : Bool → α) (fail_ : α) : α :=
  (bif decide ((↑code.length : Int) > 1048576) then (leaf0_ true) else (optC (S.DrawMostShares_t code) (fun c_1 => (optC (I.MostShares_t c_1) (fun c_2 => (optC (S.MostShares_t c_1) (fun c_3 => (bif !c_2 == c_3 then (leaf0_ false) else (bif decide (c_2 < 0) then (bif c_2 == -1 then (optC (I.NetOk_t c_1) (fun c_4 => (bif !c_4 then (optC (L.alive_t) (fun c_5 => (leaf0_ c_5)) fail_) else (leaf0_ false))) fail_) else (leaf0_ false)) else (bif decide (c_2 ≥ 1) then (optC (I.LeastNear_t c_1) (fun c_6 => (bif decide (c_2 ≤ IntKind.i64.wrap (c_6 + 1)) then (optC (I.FewestWatch_t c_1) (fun c_7 => (bif decide (IntKind.i64.wrap (c_2 * c_7) ≤ (↑c_1.length : Int)) then (optC (I.LoneOf_t c_1) (fun c_8 => (leaf0_ (decide (c_2 ≥ 2) == (c_8 == 0)))) fail_) else (leaf0_ false))) fail_) else (leaf0_ false))) fail_) else (leaf0_ false))))) fail_)) fail_)) fail_))
theorem L.FnMostShares_tree_nat {α γ : Type} (g : α → γ) (code : List Int) (leaf0_ : Bool → α) (fail_ : α) : g (L.FnMostShares_tree code leaf0_ fail_) = L.FnMostShares_tree code (fun d => g (leaf0_ d)) (g fail_) := by
  unfold L.FnMostShares_tree; simp only [apply_cnd g, apply_optC g, apply_sumC g]
noncomputable def L.FnMostShares_t (code : List Int) : Option (Bool) := L.FnMostShares_tree code (fun d => some d) none
theorem L.FnMostShares_den (code : List Int) (κ : V → List E → R) : L.FnMostShares_F [.ro true (.ints .u8 code)] [] κ = optC (L.FnMostShares_t code) (fun (r : Bool) => κ (.bool r) []) none := by
  have hu : L.FnMostShares_F [.ro true (.ints .u8 code)] [] κ = L.FnMostShares_tree code (fun d => κ (.bool d) []) none := by
    kernel_rfl
  rw [hu]
  exact (L.FnMostShares_tree_nat (fun o => optC o (fun (r : Bool) => κ (.bool r) []) none) code (fun d => some d) none).symm
noncomputable def L.FnMostShares_s : D.Spec where
  keep := true
  pure := true
  ds := [.int .u8]
  sp := fun args h κ => match args, h with
    | [.ro true (.ints .u8 code)], [] => optC (L.FnMostShares_t code) (fun (r : Bool) => κ (.bool r) []) none
    | _, _ => none
theorem L.FnMostShares_ok : SpecOk Try.prog 9 L.FnMostShares_s := by
  refine SpecOk.of TDok mixed (T := L.FnMostShares_T) ?_ (ann := L.FnMostShares_ann) Try.func9 rfl (by decide +kernel) ?_ ?_ ?_
  · intro p hp
    simp only [L.FnMostShares_T, List.mem_cons, List.not_mem_nil, or_false] at hp
    rcases hp with rfl | rfl | rfl | rfl | rfl | rfl | rfl | rfl
    · exact S.DrawMostShares_ok
    · exact I.MostShares_ok
    · exact S.MostShares_ok
    · exact I.NetOk_ok
    · exact L.alive_ok
    · exact I.LeastNear_ok
    · exact I.FewestWatch_ok
    · exact I.LoneOf_ok
  · intro args h κ r hh
    simp only [L.FnMostShares_s] at hh
    split at hh
    · exact (L.FnMostShares_den _ κ).trans hh
    · cases hh
  · intro args h κ r hh
    simp only [L.FnMostShares_s] at hh ⊢
    split at hh
    · exact optC_law2 (F := fun (r : Bool) κ => κ (.bool r) []) (fun b κ r hb => ⟨_, _, hb, fun _ => rfl⟩) hh
    · cases hh
  · intro _ args h κ r hh
    simp only [L.FnMostShares_s] at hh
    split at hh
    · exact ⟨rfl, fun _ => rfl⟩
    · cases hh

-- loop.example/guardsonnets/laws.FnExactMostShares
noncomputable def L.FnExactMostShares_T : List (Nat × D.Spec) := [(22, L.toIntS_s), (37, S.MostShares_s), (33, I.MostShares_s), (23, L.eqIntS_s)]
def L.FnExactMostShares_ann : Nat → List Nat × List Nat
  | _ => ([], [])
noncomputable def L.FnExactMostShares_F (args : List V) (h : List E) (κ : V → List E → R) : R := funC TD (tableK L.FnExactMostShares_T) L.FnExactMostShares_ann (drawOk TD (tableP L.FnExactMostShares_T)) FUEL Try.f10 args h κ
noncomputable def L.FnExactMostShares_tree {α : Type} (aNet : List Int) (leaf0_ : Bool → α) (fail_ : α) : α :=
  (bif decide ((↑aNet.length : Int) > 1048576) then (leaf0_ true) else (optC (L.toIntS_t aNet) (fun c_1 => (optC (S.MostShares_t c_1) (fun c_2 => (optC (L.toIntS_t aNet) (fun c_3 => (optC (I.MostShares_t c_3) (fun c_4 => (bif !c_4 == c_2 then (leaf0_ false) else (optC (L.toIntS_t aNet) (fun c_5 => (optC (L.eqIntS_t c_3 c_5) (fun c_6 => (bif !c_6 then (leaf0_ false) else (leaf0_ true))) fail_)) fail_))) fail_)) fail_)) fail_)) fail_))
theorem L.FnExactMostShares_tree_nat {α γ : Type} (g : α → γ) (aNet : List Int) (leaf0_ : Bool → α) (fail_ : α) : g (L.FnExactMostShares_tree aNet leaf0_ fail_) = L.FnExactMostShares_tree aNet (fun d => g (leaf0_ d)) (g fail_) := by
  unfold L.FnExactMostShares_tree; simp only [apply_cnd g, apply_optC g, apply_sumC g]
noncomputable def L.FnExactMostShares_t (aNet : List Int) : Option (Bool) := L.FnExactMostShares_tree aNet (fun d => some d) none
theorem L.FnExactMostShares_den (aNet : List Int) (κ : V → List E → R) : L.FnExactMostShares_F [.ro true (.ints .i64 aNet)] [] κ = optC (L.FnExactMostShares_t aNet) (fun (r : Bool) => κ (.bool r) []) none := by
  have hu : L.FnExactMostShares_F [.ro true (.ints .i64 aNet)] [] κ = L.FnExactMostShares_tree aNet (fun d => κ (.bool d) []) none := by
    kernel_rfl
  rw [hu]
  exact (L.FnExactMostShares_tree_nat (fun o => optC o (fun (r : Bool) => κ (.bool r) []) none) aNet (fun d => some d) none).symm
noncomputable def L.FnExactMostShares_s : D.Spec where
  keep := true
  pure := true
  ds := [.int .i64]
  sp := fun args h κ => match args, h with
    | [.ro true (.ints .i64 aNet)], [] => optC (L.FnExactMostShares_t aNet) (fun (r : Bool) => κ (.bool r) []) none
    | _, _ => none
theorem L.FnExactMostShares_ok : SpecOk Try.prog 10 L.FnExactMostShares_s := by
  refine SpecOk.of TDok mixed (T := L.FnExactMostShares_T) ?_ (ann := L.FnExactMostShares_ann) Try.func10 rfl (by decide +kernel) ?_ ?_ ?_
  · intro p hp
    simp only [L.FnExactMostShares_T, List.mem_cons, List.not_mem_nil, or_false] at hp
    rcases hp with rfl | rfl | rfl | rfl
    · exact L.toIntS_ok
    · exact S.MostShares_ok
    · exact I.MostShares_ok
    · exact L.eqIntS_ok
  · intro args h κ r hh
    simp only [L.FnExactMostShares_s] at hh
    split at hh
    · exact (L.FnExactMostShares_den _ κ).trans hh
    · cases hh
  · intro args h κ r hh
    simp only [L.FnExactMostShares_s] at hh ⊢
    split at hh
    · exact optC_law2 (F := fun (r : Bool) κ => κ (.bool r) []) (fun b κ r hb => ⟨_, _, hb, fun _ => rfl⟩) hh
    · cases hh
  · intro _ args h κ r hh
    simp only [L.FnExactMostShares_s] at hh
    split at hh
    · exact ⟨rfl, fun _ => rfl⟩
    · cases hh

-- loop.example/guardsonnets/spec.DrawWatchPair
noncomputable def S.DrawWatchPair_T : List (Nat × D.Spec) := [(47, S.l20Open_s), (46, S.l20Net_s)]
def S.DrawWatchPair_ann : Nat → List Nat × List Nat
  | _ => ([], [])
noncomputable def S.DrawWatchPair_F (args : List V) (h : List E) (κ : V → List E → R) : R := funC TD (tableK S.DrawWatchPair_T) S.DrawWatchPair_ann (drawOk TD (tableP S.DrawWatchPair_T)) FUEL Try.f39 args h κ
noncomputable def S.DrawWatchPair_tree {α : Type} (code : List Int) (leaf0_ : List Int → α) (fail_ : α) : α :=
  (optC (S.l20Open_t code) (fun c_1 => (optC (S.l20Net_t c_1.fst c_1.snd 9) (fun c_2 => (leaf0_ c_2.snd.snd)) fail_)) fail_)
theorem S.DrawWatchPair_tree_nat {α γ : Type} (g : α → γ) (code : List Int) (leaf0_ : List Int → α) (fail_ : α) : g (S.DrawWatchPair_tree code leaf0_ fail_) = S.DrawWatchPair_tree code (fun d => g (leaf0_ d)) (g fail_) := by
  unfold S.DrawWatchPair_tree; simp only [apply_cnd g, apply_optC g, apply_sumC g]
noncomputable def S.DrawWatchPair_t (code : List Int) : Option (List Int) := S.DrawWatchPair_tree code (fun d => some d) none
theorem S.DrawWatchPair_den (code : List Int) (κ : V → List E → R) : S.DrawWatchPair_F [.ro true (.ints .u8 code)] [] κ = optC (S.DrawWatchPair_t code) (fun (r : List Int) => κ (.own 0) [.row (.ints .i64 r)]) none := by
  have hu : S.DrawWatchPair_F [.ro true (.ints .u8 code)] [] κ = S.DrawWatchPair_tree code (fun d => κ (.own 0) [.row (.ints .i64 d)]) none := by
    kernel_rfl
  rw [hu]
  exact (S.DrawWatchPair_tree_nat (fun o => optC o (fun (r : List Int) => κ (.own 0) [.row (.ints .i64 r)]) none) code (fun d => some d) none).symm
noncomputable def S.DrawWatchPair_s : D.Spec where
  keep := true
  pure := false
  ds := [.int .u8]
  sp := fun args h κ => match args, h with
    | [.ro true (.ints .u8 code)], [] => optC (S.DrawWatchPair_t code) (fun (r : List Int) => κ (.own 0) [.row (.ints .i64 r)]) none
    | _, _ => none
theorem S.DrawWatchPair_ok : SpecOk Try.prog 39 S.DrawWatchPair_s := by
  refine SpecOk.of TDok mixed (T := S.DrawWatchPair_T) ?_ (ann := S.DrawWatchPair_ann) Try.func39 rfl (by decide +kernel) ?_ ?_ ?_
  · intro p hp
    simp only [S.DrawWatchPair_T, List.mem_cons, List.not_mem_nil, or_false] at hp
    rcases hp with rfl | rfl
    · exact S.l20Open_ok
    · exact S.l20Net_ok
  · intro args h κ r hh
    simp only [S.DrawWatchPair_s] at hh
    split at hh
    · exact (S.DrawWatchPair_den _ κ).trans hh
    · cases hh
  · intro args h κ r hh
    simp only [S.DrawWatchPair_s] at hh ⊢
    split at hh
    · exact optC_law2 (F := fun (r : List Int) κ => κ (.own 0) [.row (.ints .i64 r)]) (fun b κ r hb => ⟨_, _, hb, fun _ => rfl⟩) hh
    · cases hh
  · intro hh; cases hh

-- loop.example/guardsonnets/impl.OtherNet
noncomputable def I.OtherNet_T : List (Nat × D.Spec) := [(18, I.NetOk_s), (68, I.allOf_s), (69, I.ballIn_s)]
def I.OtherNet_ann : Nat → List Nat × List Nat
  | 5 => ([0, 3, 4], [3])
  | _ => ([], [])
noncomputable def I.OtherNet_F (args : List V) (h : List E) (κ : V → List E → R) : R := funC TD (tableK I.OtherNet_T) I.OtherNet_ann (drawOk TD (tableP I.OtherNet_T)) FUEL Try.f45 args h κ
noncomputable def I.OtherNet_L5 (n : Nat) (σ : St) (k : X → St → R) : R := iterC 0 (fun σ k => denC TD (tableK I.OtherNet_T) I.OtherNet_ann (drawOk TD (tableP I.OtherNet_T)) 0 FUEL ((findLoop 5 (Try.f45.body.getD .skip)).getD .skip) σ k) [0, 3, 4] [3] n σ k
noncomputable def I.OtherNet_k5 (κ : V → List E → R) : X → St → R := (afterC TD (tableK I.OtherNet_T) I.OtherNet_ann (drawOk TD (tableP I.OtherNet_T)) 0 FUEL 5 (Try.f45.body.getD .skip) (finC TD 0 Try.f45 κ)).getD (fun _ _ => none)
noncomputable def I.OtherNet_step5 {α : Type} (x0 : List Int) (x4 : Int) (r0 : List Int) (next_ : Int × (List Int) → α) (out0_ : List Int → α) (fail_ : α) : α :=
  (bif decide (x4 < (↑x0.length : Int)) then (optC (I.allOf_t x0) (fun c_2 => (optC (I.ballIn_t x0 x4) (fun c_3 => (bif decide (0 ≤ x4) && decide (x4 < (↑r0.length : Int)) then (bif decide (x4.toNat < r0.length) then (next_ (IntKind.i64.wrap (x4 + 1), r0.set x4.toNat (bits BinOp.andNot IntKind.i64 c_2 c_3))) else fail_) else fail_)) fail_)) fail_) else (out0_ r0))
theorem I.OtherNet_step5_nat {α γ : Type} (g : α → γ) (x0 : List Int) (x4 : Int) (r0 : List Int) (next_ : Int × (List Int) → α) (out0_ : List Int → α) (fail_ : α) : g (I.OtherNet_step5 x0 x4 r0 next_ out0_ fail_) = I.OtherNet_step5 x0 x4 r0 (fun s => g (next_ s)) (fun d => g (out0_ d)) (g fail_) := by
  unfold I.OtherNet_step5; simp only [apply_cnd g, apply_optC g, apply_sumC g]
noncomputable def I.OtherNet_run5 (x0 : List Int) : Nat → Int × (List Int) → Option (List Int)
  | 0, _ => none
  | n + 1, s_ => I.OtherNet_step5 x0 s_.1 s_.2 (I.OtherNet_run5 x0 n) (fun d => some d) none
theorem I.OtherNet_L5_run (x0 : List Int) (n : Nat) (s_ : Int × (List Int)) (k : X → St → R) : I.OtherNet_L5 n { n := 27, t := [(0, (.ro false (.ints .i64 x0))), (3, (.own 0)), (4, (.int .i64 s_.1))], h := [.row (.ints .i64 s_.2)] } k = optC (I.OtherNet_run5 x0 n s_) (fun (r : List Int) => k (.exit 0) { n := 27, t := [(3, (.own 0))], h := [.row (.ints .i64 r)] }) none := by
  induction n generalizing s_ with
  | zero => rfl
  | succ n ih =>
    have hu : I.OtherNet_L5 (n + 1) { n := 27, t := [(0, (.ro false (.ints .i64 x0))), (3, (.own 0)), (4, (.int .i64 s_.1))], h := [.row (.ints .i64 s_.2)] } k = I.OtherNet_step5 x0 s_.1 s_.2 (fun s_ => I.OtherNet_L5 n { n := 27, t := [(0, (.ro false (.ints .i64 x0))), (3, (.own 0)), (4, (.int .i64 s_.1))], h := [.row (.ints .i64 s_.2)] } k) (fun d => k (.exit 0) { n := 27, t := [(3, (.own 0))], h := [.row (.ints .i64 d)] }) none := by
      kernel_rfl
    have hs : (fun s_ : Int × (List Int) => I.OtherNet_L5 n { n := 27, t := [(0, (.ro false (.ints .i64 x0))), (3, (.own 0)), (4, (.int .i64 s_.1))], h := [.row (.ints .i64 s_.2)] } k) = fun s_ => optC (I.OtherNet_run5 x0 n s_) (fun (r : List Int) => k (.exit 0) { n := 27, t := [(3, (.own 0))], h := [.row (.ints .i64 r)] }) none := funext ih
    rw [hu, hs]
    exact (I.OtherNet_step5_nat (fun o => optC o (fun (r : List Int) => k (.exit 0) { n := 27, t := [(3, (.own 0))], h := [.row (.ints .i64 r)] }) none) x0 s_.1 s_.2 (I.OtherNet_run5 x0 n) (fun d => some d) none).symm
noncomputable def I.OtherNet_tree {α : Type} (net : List Int) (leaf0_ : List Int → α) (fail_ : α) : α :=
  (optC (I.NetOk_t net) (fun c_1 => (bif !c_1 then (leaf0_ ([])) else (bif small (↑net.length : Int).toNat && true then (optC (I.OtherNet_run5 net FUEL (0, List.replicate (↑net.length : Int).toNat 0)) (fun qy_4 => (leaf0_ qy_4)) fail_) else fail_))) fail_)
theorem I.OtherNet_tree_nat {α γ : Type} (g : α → γ) (net : List Int) (leaf0_ : List Int → α) (fail_ : α) : g (I.OtherNet_tree net leaf0_ fail_) = I.OtherNet_tree net (fun d => g (leaf0_ d)) (g fail_) := by
  unfold I.OtherNet_tree; simp only [apply_cnd g, apply_optC g, apply_sumC g]
noncomputable def I.OtherNet_t (net : List Int) : Option (List Int) := I.OtherNet_tree net (fun d => some d) none
theorem I.OtherNet_den (net : List Int) (κ : V → List E → R) : I.OtherNet_F [.ro false (.ints .i64 net)] [] κ = optC (I.OtherNet_t net) (fun (r : List Int) => κ (.own 0) [.row (.ints .i64 r)]) none := by
  have hu : I.OtherNet_F [.ro false (.ints .i64 net)] [] κ = I.OtherNet_tree net (fun d => κ (.own 0) [.row (.ints .i64 d)]) none := by
    refine Eq.trans (show I.OtherNet_F [.ro false (.ints .i64 net)] [] κ = (optC (I.NetOk_t net) (fun c_1 => (bif !c_1 then (κ (.own 0) [.row (.ints .i64 ([]))]) else (bif small (↑net.length : Int).toNat && true then (I.OtherNet_L5 FUEL { n := 27, t := [(0, (.ro false (.ints .i64 net))), (3, (.own 0)), (4, (.int .i64 0))], h := [.row (.ints .i64 (List.replicate (↑net.length : Int).toNat 0))] } (I.OtherNet_k5 κ)) else none))) none) by kernel_rfl) ?_
    refine optC_congr (fun c_1 => ?_)
    refine cnd_congr ?_ ?_
    · kernel_rfl
    · refine cnd_congr ?_ ?_
      · refine (I.OtherNet_L5_run net FUEL (0, List.replicate (↑net.length : Int).toNat 0) (I.OtherNet_k5 κ)).trans (optC_congr (fun qy_4 => ?_))
        kernel_rfl
      · kernel_rfl
  rw [hu]
  exact (I.OtherNet_tree_nat (fun o => optC o (fun (r : List Int) => κ (.own 0) [.row (.ints .i64 r)]) none) net (fun d => some d) none).symm
noncomputable def I.OtherNet_s : D.Spec where
  keep := false
  pure := false
  ds := [.int .i64]
  sp := fun args h κ => match args, h with
    | [.ro false (.ints .i64 net)], [] => optC (I.OtherNet_t net) (fun (r : List Int) => κ (.own 0) [.row (.ints .i64 r)]) none
    | _, _ => none
theorem I.OtherNet_ok : SpecOk Try.prog 45 I.OtherNet_s := by
  refine SpecOk.of TDok mixed (T := I.OtherNet_T) ?_ (ann := I.OtherNet_ann) Try.func45 rfl (by decide +kernel) ?_ ?_ ?_
  · intro p hp
    simp only [I.OtherNet_T, List.mem_cons, List.not_mem_nil, or_false] at hp
    rcases hp with rfl | rfl | rfl
    · exact I.NetOk_ok
    · exact I.allOf_ok
    · exact I.ballIn_ok
  · intro args h κ r hh
    simp only [I.OtherNet_s] at hh
    split at hh
    · exact (I.OtherNet_den _ κ).trans hh
    · cases hh
  · intro args h κ r hh
    simp only [I.OtherNet_s] at hh ⊢
    split at hh
    · exact optC_law2 (F := fun (r : List Int) κ => κ (.own 0) [.row (.ints .i64 r)]) (fun b κ r hb => ⟨_, _, hb, fun _ => rfl⟩) hh
    · cases hh
  · intro hh; cases hh

-- loop.example/guardsonnets/impl.WatchPair
noncomputable def I.WatchPair_T : List (Nat × D.Spec) := [(38, I.FewestWatch_s), (45, I.OtherNet_s)]
def I.WatchPair_ann : Nat → List Nat × List Nat
  | _ => ([], [])
noncomputable def I.WatchPair_F (args : List V) (h : List E) (κ : V → List E → R) : R := funC TD (tableK I.WatchPair_T) I.WatchPair_ann (drawOk TD (tableP I.WatchPair_T)) FUEL Try.f40 args h κ
noncomputable def I.WatchPair_tree {α : Type} (net : List Int) (leaf0_ : Int × Int → α) (fail_ : α) : α :=
  (optC (I.FewestWatch_t net) (fun c_1 => (optC (I.OtherNet_t net) (fun c_2 => (optC (I.FewestWatch_t c_2) (fun c_3 => (leaf0_ (c_1, c_3))) fail_)) fail_)) fail_)
theorem I.WatchPair_tree_nat {α γ : Type} (g : α → γ) (net : List Int) (leaf0_ : Int × Int → α) (fail_ : α) : g (I.WatchPair_tree net leaf0_ fail_) = I.WatchPair_tree net (fun d => g (leaf0_ d)) (g fail_) := by
  unfold I.WatchPair_tree; simp only [apply_cnd g, apply_optC g, apply_sumC g]
noncomputable def I.WatchPair_t (net : List Int) : Option (Int × Int) := I.WatchPair_tree net (fun d => some d) none
theorem I.WatchPair_den (net : List Int) (κ : V → List E → R) : I.WatchPair_F [.ro false (.ints .i64 net)] [] κ = optC (I.WatchPair_t net) (fun (r : Int × Int) => κ (.tup [(.int .i64 r.1), (.int .i64 r.2)]) []) none := by
  have hu : I.WatchPair_F [.ro false (.ints .i64 net)] [] κ = I.WatchPair_tree net (fun d => κ (.tup [(.int .i64 d.1), (.int .i64 d.2)]) []) none := by
    kernel_rfl
  rw [hu]
  exact (I.WatchPair_tree_nat (fun o => optC o (fun (r : Int × Int) => κ (.tup [(.int .i64 r.1), (.int .i64 r.2)]) []) none) net (fun d => some d) none).symm
noncomputable def I.WatchPair_s : D.Spec where
  keep := false
  pure := true
  ds := [.int .i64]
  sp := fun args h κ => match args, h with
    | [.ro false (.ints .i64 net)], [] => optC (I.WatchPair_t net) (fun (r : Int × Int) => κ (.tup [(.int .i64 r.1), (.int .i64 r.2)]) []) none
    | _, _ => none
theorem I.WatchPair_ok : SpecOk Try.prog 40 I.WatchPair_s := by
  refine SpecOk.of TDok mixed (T := I.WatchPair_T) ?_ (ann := I.WatchPair_ann) Try.func40 rfl (by decide +kernel) ?_ ?_ ?_
  · intro p hp
    simp only [I.WatchPair_T, List.mem_cons, List.not_mem_nil, or_false] at hp
    rcases hp with rfl | rfl
    · exact I.FewestWatch_ok
    · exact I.OtherNet_ok
  · intro args h κ r hh
    simp only [I.WatchPair_s] at hh
    split at hh
    · exact (I.WatchPair_den _ κ).trans hh
    · cases hh
  · intro args h κ r hh
    simp only [I.WatchPair_s] at hh ⊢
    split at hh
    · exact optC_law2 (F := fun (r : Int × Int) κ => κ (.tup [(.int .i64 r.1), (.int .i64 r.2)]) []) (fun b κ r hb => ⟨_, _, hb, fun _ => rfl⟩) hh
    · cases hh
  · intro _ args h κ r hh
    simp only [I.WatchPair_s] at hh
    split at hh
    · exact ⟨rfl, fun _ => rfl⟩
    · cases hh


end Go.Proofs.Ythcidiihfjjpdaa
