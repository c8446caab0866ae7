/- Twins of the translated functions, with their proofs. Conditions: none. -/
import Derived.Test.YtlamfgocbekgpaaBzT2
set_option linter.unusedVariables false
set_option linter.unusedSimpArgs false
set_option linter.unusedSectionVars false
namespace Go.Proofs.Ytlamfgocbekgpaa
open D Go.RowKit
-- loop.example/guardsonnets/laws.FnFewestCuts
noncomputable def L.FnFewestCuts_T : List (Nat × D.Spec) := [(32, S.DrawFewestCuts_s), (33, I.FewestCuts_s), (34, S.FewestCuts_s), (19, I.NetOk_s), (17, L.alive_s), (20, I.WiresOf_s), (35, L.sizeOf_s), (36, I.ForestOk_s)]
def L.FnFewestCuts_ann : Nat → List Nat × List Nat
  | 15 => ([3, 4, 5, 6], [2, 3, 4, 5])
  | 12 => ([3, 4, 5], [2, 3, 4])
  | _ => ([], [])
noncomputable def L.FnFewestCuts_F (args : List V) (h : List E) (κ : V → List E → R) : R := funC TD (tableK L.FnFewestCuts_T) L.FnFewestCuts_ann (drawOk TD (tableP L.FnFewestCuts_T)) FUEL Try.f9 args h κ
noncomputable def L.FnFewestCuts_L15 (n : Nat) (σ : St) (k : X → St → R) : R := iterC 0 (fun σ k => denC TD (tableK L.FnFewestCuts_T) L.FnFewestCuts_ann (drawOk TD (tableP L.FnFewestCuts_T)) 0 FUEL ((findLoop 15 (Try.f9.body.getD .skip)).getD .skip) σ k) [3, 4, 5, 6] [2, 3, 4, 5] n σ k
noncomputable def L.FnFewestCuts_L12 (n : Nat) (σ : St) (k : X → St → R) : R := iterC 0 (fun σ k => denC TD (tableK L.FnFewestCuts_T) L.FnFewestCuts_ann (drawOk TD (tableP L.FnFewestCuts_T)) 0 FUEL ((findLoop 12 (Try.f9.body.getD .skip)).getD .skip) σ k) [3, 4, 5] [2, 3, 4] n σ k
noncomputable def L.FnFewestCuts_k15 (c : (St → R) × (X → St → R)) : X → St → R := (afterC TD (tableK L.FnFewestCuts_T) L.FnFewestCuts_ann (drawOk TD (tableP L.FnFewestCuts_T)) 0 FUEL 15 ((findLoop 12 (Try.f9.body.getD .skip)).getD .skip) (roundC 0 [3, 4, 5] [2, 3, 4] c.1 c.2)).getD (fun _ _ => none)
noncomputable def L.FnFewestCuts_k12 (κ : V → List E → R) : X → St → R := (afterC TD (tableK L.FnFewestCuts_T) L.FnFewestCuts_ann (drawOk TD (tableP L.FnFewestCuts_T)) 0 FUEL 12 (Try.f9.body.getD .skip) (finC TD 0 Try.f9 κ)).getD (fun _ _ => none)
noncomputable def L.FnFewestCuts_step15 {α : Type} (x4 : Int) (x5 : Int) (x6 : Int) (r0 : List Int) (next_ : Int × (List Int) → α) (out0_ : Bool × (List Int) → α) (out1_ : List Int → α) (fail_ : α) : α :=
  (bif decide (x6 < (↑r0.length : Int)) then (bif decide (0 ≤ x5) && decide (x5 < (↑r0.length : Int)) then (bif decide (x5.toNat < r0.length) then (bif decide (x6 < 0) then fail_ else (bif ((eli r0 x5.toNat).fdiv (2 ^ min x6.toNat IntKind.i64.bits)).tmod 2 == 1 then (bif decide (0 ≤ x5) && decide (x5 < (↑r0.length : Int)) then (bif decide (x5.toNat < r0.length) then (optC (L.sizeOf_t (eli r0 x5.toNat)) (fun c_7 => (bif decide (0 ≤ x6) && decide (x6 < (↑r0.length : Int)) then (bif decide (x6.toNat < r0.length) then (optC (L.sizeOf_t (eli r0 x6.toNat)) (fun c_8 => (bif decide (x4 > IntKind.i64.wrap (IntKind.i64.wrap (c_7 + c_8) - 1)) then (out0_ (false, r0)) else (next_ (IntKind.i64.wrap (x6 + 1), r0)))) fail_) else fail_) else fail_)) fail_) else fail_) else fail_) else (next_ (IntKind.i64.wrap (x6 + 1), r0)))) else fail_) else fail_) else (out1_ r0))
theorem L.FnFewestCuts_step15_nat {α γ : Type} (g : α → γ) (x4 : Int) (x5 : Int) (x6 : Int) (r0 : List Int) (next_ : Int × (List Int) → α) (out0_ : Bool × (List Int) → α) (out1_ : List Int → α) (fail_ : α) : g (L.FnFewestCuts_step15 x4 x5 x6 r0 next_ out0_ out1_ fail_) = L.FnFewestCuts_step15 x4 x5 x6 r0 (fun s => g (next_ s)) (fun d => g (out0_ d)) (fun d => g (out1_ d)) (g fail_) := by
  unfold L.FnFewestCuts_step15; simp only [apply_cnd g, apply_optC g, apply_sumC g]
noncomputable def L.FnFewestCuts_run15 (x4 : Int) (x5 : Int) : Nat → Int × (List Int) → Option ((Bool × (List Int)) ⊕ (List Int))
  | 0, _ => none
  | n + 1, s_ => L.FnFewestCuts_step15 x4 x5 s_.1 s_.2 (L.FnFewestCuts_run15 x4 x5 n) (fun d => some ((Sum.inl d))) (fun d => some ((Sum.inr d))) none
theorem L.FnFewestCuts_L15_run (x4 : Int) (x5 : Int) (n : Nat) (s_ : Int × (List Int)) (k : X → St → R) : L.FnFewestCuts_L15 n { n := 78, t := [(3, (.own 0)), (4, (.int .i64 x4)), (5, (.int .i64 x5)), (6, (.int .i64 s_.1))], h := [.row (.ints .i64 s_.2)] } k = optC (L.FnFewestCuts_run15 x4 x5 n s_) (fun (r : (Bool × (List Int)) ⊕ (List Int)) => (sumC r (fun (r : Bool × (List Int)) => k (.ret) { n := 78, t := [(2, (.bool r.1)), (3, (.own 0)), (4, (.int .i64 x4)), (5, (.int .i64 x5))], h := [.row (.ints .i64 r.2)] }) (fun (r : List Int) => k (.exit 2) { n := 78, t := [(2, .junk), (3, (.own 0)), (4, (.int .i64 x4)), (5, (.int .i64 x5))], h := [.row (.ints .i64 r)] }))) none := by
  induction n generalizing s_ with
  | zero => rfl
  | succ n ih =>
    have hu : L.FnFewestCuts_L15 (n + 1) { n := 78, t := [(3, (.own 0)), (4, (.int .i64 x4)), (5, (.int .i64 x5)), (6, (.int .i64 s_.1))], h := [.row (.ints .i64 s_.2)] } k = L.FnFewestCuts_step15 x4 x5 s_.1 s_.2 (fun s_ => L.FnFewestCuts_L15 n { n := 78, t := [(3, (.own 0)), (4, (.int .i64 x4)), (5, (.int .i64 x5)), (6, (.int .i64 s_.1))], h := [.row (.ints .i64 s_.2)] } k) (fun d => k (.ret) { n := 78, t := [(2, (.bool d.1)), (3, (.own 0)), (4, (.int .i64 x4)), (5, (.int .i64 x5))], h := [.row (.ints .i64 d.2)] }) (fun d => k (.exit 2) { n := 78, t := [(2, .junk), (3, (.own 0)), (4, (.int .i64 x4)), (5, (.int .i64 x5))], h := [.row (.ints .i64 d)] }) none := by
      kernel_rfl
    have hs : (fun s_ : Int × (List Int) => L.FnFewestCuts_L15 n { n := 78, t := [(3, (.own 0)), (4, (.int .i64 x4)), (5, (.int .i64 x5)), (6, (.int .i64 s_.1))], h := [.row (.ints .i64 s_.2)] } k) = fun s_ => optC (L.FnFewestCuts_run15 x4 x5 n s_) (fun (r : (Bool × (List Int)) ⊕ (List Int)) => (sumC r (fun (r : Bool × (List Int)) => k (.ret) { n := 78, t := [(2, (.bool r.1)), (3, (.own 0)), (4, (.int .i64 x4)), (5, (.int .i64 x5))], h := [.row (.ints .i64 r.2)] }) (fun (r : List Int) => k (.exit 2) { n := 78, t := [(2, .junk), (3, (.own 0)), (4, (.int .i64 x4)), (5, (.int .i64 x5))], h := [.row (.ints .i64 r)] }))) none := funext ih
    rw [hu, hs]
    exact (L.FnFewestCuts_step15_nat (fun o => optC o (fun (r : (Bool × (List Int)) ⊕ (List Int)) => (sumC r (fun (r : Bool × (List Int)) => k (.ret) { n := 78, t := [(2, (.bool r.1)), (3, (.own 0)), (4, (.int .i64 x4)), (5, (.int .i64 x5))], h := [.row (.ints .i64 r.2)] }) (fun (r : List Int) => k (.exit 2) { n := 78, t := [(2, .junk), (3, (.own 0)), (4, (.int .i64 x4)), (5, (.int .i64 x5))], h := [.row (.ints .i64 r)] }))) none) x4 x5 s_.1 s_.2 (L.FnFewestCuts_run15 x4 x5 n) (fun d => some ((Sum.inl d))) (fun d => some ((Sum.inr d))) none).symm
noncomputable def L.FnFewestCuts_step12 {α : Type} (x4 : Int) (x5 : Int) (r0 : List Int) (next_ : Int × (List Int) → α) (out0_ : Bool × (List Int) → α) (out1_ : List Int → α) (fail_ : α) : α :=
  (bif decide (x5 < (↑r0.length : Int)) then (optC (L.FnFewestCuts_run15 x4 x5 FUEL (0, r0)) (fun qy_9 => (sumC qy_9 (fun (qy_9 : Bool × (List Int)) => (out0_ (qy_9.1, qy_9.2))) (fun (qy_9 : List Int) => (next_ (IntKind.i64.wrap (x5 + 1), qy_9))))) fail_) else (out1_ r0))
theorem L.FnFewestCuts_step12_nat {α γ : Type} (g : α → γ) (x4 : Int) (x5 : Int) (r0 : List Int) (next_ : Int × (List Int) → α) (out0_ : Bool × (List Int) → α) (out1_ : List Int → α) (fail_ : α) : g (L.FnFewestCuts_step12 x4 x5 r0 next_ out0_ out1_ fail_) = L.FnFewestCuts_step12 x4 x5 r0 (fun s => g (next_ s)) (fun d => g (out0_ d)) (fun d => g (out1_ d)) (g fail_) := by
  unfold L.FnFewestCuts_step12; simp only [apply_cnd g, apply_optC g, apply_sumC g]
noncomputable def L.FnFewestCuts_run12 (x4 : Int) : Nat → Int × (List Int) → Option ((Bool × (List Int)) ⊕ (List Int))
  | 0, _ => none
  | n + 1, s_ => L.FnFewestCuts_step12 x4 s_.1 s_.2 (L.FnFewestCuts_run12 x4 n) (fun d => some ((Sum.inl d))) (fun d => some ((Sum.inr d))) none
theorem L.FnFewestCuts_L12_run (x4 : Int) (n : Nat) (s_ : Int × (List Int)) (k : X → St → R) : L.FnFewestCuts_L12 n { n := 78, t := [(3, (.own 0)), (4, (.int .i64 x4)), (5, (.int .i64 s_.1))], h := [.row (.ints .i64 s_.2)] } k = optC (L.FnFewestCuts_run12 x4 n s_) (fun (r : (Bool × (List Int)) ⊕ (List Int)) => (sumC r (fun (r : Bool × (List Int)) => k (.ret) { n := 78, t := [(2, (.bool r.1)), (3, (.own 0)), (4, (.int .i64 x4))], h := [.row (.ints .i64 r.2)] }) (fun (r : List Int) => k (.exit 0) { n := 78, t := [(2, .junk), (3, (.own 0)), (4, (.int .i64 x4))], h := [.row (.ints .i64 r)] }))) none := by
  induction n generalizing s_ with
  | zero => rfl
  | succ n ih =>
    have hu : L.FnFewestCuts_L12 (n + 1) { n := 78, t := [(3, (.own 0)), (4, (.int .i64 x4)), (5, (.int .i64 s_.1))], h := [.row (.ints .i64 s_.2)] } k = L.FnFewestCuts_step12 x4 s_.1 s_.2 (fun s_ => L.FnFewestCuts_L12 n { n := 78, t := [(3, (.own 0)), (4, (.int .i64 x4)), (5, (.int .i64 s_.1))], h := [.row (.ints .i64 s_.2)] } k) (fun d => k (.ret) { n := 78, t := [(2, (.bool d.1)), (3, (.own 0)), (4, (.int .i64 x4))], h := [.row (.ints .i64 d.2)] }) (fun d => k (.exit 0) { n := 78, t := [(2, .junk), (3, (.own 0)), (4, (.int .i64 x4))], h := [.row (.ints .i64 d)] }) none := by
      refine Eq.trans (show L.FnFewestCuts_L12 (n + 1) { n := 78, t := [(3, (.own 0)), (4, (.int .i64 x4)), (5, (.int .i64 s_.1))], h := [.row (.ints .i64 s_.2)] } k = (bif decide (s_.1 < (↑s_.2.length : Int)) then (L.FnFewestCuts_L15 FUEL { n := 78, t := [(3, (.own 0)), (4, (.int .i64 x4)), (5, (.int .i64 s_.1)), (6, (.int .i64 0))], h := [.row (.ints .i64 s_.2)] } (L.FnFewestCuts_k15 ((fun σ => L.FnFewestCuts_L12 n σ k), k))) else (k (.exit 0) { n := 78, t := [(2, .junk), (3, (.own 0)), (4, (.int .i64 x4))], h := [.row (.ints .i64 s_.2)] })) by kernel_rfl) ?_
      refine cnd_congr ?_ ?_
      · refine (L.FnFewestCuts_L15_run x4 s_.1 FUEL (0, s_.2) (L.FnFewestCuts_k15 ((fun σ => L.FnFewestCuts_L12 n σ k), k))).trans (optC_congr (fun qy_9 => ?_))
        rcases qy_9 with qy_9 | qy_9
        · kernel_rfl
        · kernel_rfl
      · kernel_rfl
    have hs : (fun s_ : Int × (List Int) => L.FnFewestCuts_L12 n { n := 78, t := [(3, (.own 0)), (4, (.int .i64 x4)), (5, (.int .i64 s_.1))], h := [.row (.ints .i64 s_.2)] } k) = fun s_ => optC (L.FnFewestCuts_run12 x4 n s_) (fun (r : (Bool × (List Int)) ⊕ (List Int)) => (sumC r (fun (r : Bool × (List Int)) => k (.ret) { n := 78, t := [(2, (.bool r.1)), (3, (.own 0)), (4, (.int .i64 x4))], h := [.row (.ints .i64 r.2)] }) (fun (r : List Int) => k (.exit 0) { n := 78, t := [(2, .junk), (3, (.own 0)), (4, (.int .i64 x4))], h := [.row (.ints .i64 r)] }))) none := funext ih
    rw [hu, hs]
    exact (L.FnFewestCuts_step12_nat (fun o => optC o (fun (r : (Bool × (List Int)) ⊕ (List Int)) => (sumC r (fun (r : Bool × (List Int)) => k (.ret) { n := 78, t := [(2, (.bool r.1)), (3, (.own 0)), (4, (.int .i64 x4))], h := [.row (.ints .i64 r.2)] }) (fun (r : List Int) => k (.exit 0) { n := 78, t := [(2, .junk), (3, (.own 0)), (4, (.int .i64 x4))], h := [.row (.ints .i64 r)] }))) none) x4 s_.1 s_.2 (L.FnFewestCuts_run12 x4 n) (fun d => some ((Sum.inl d))) (fun d => some ((Sum.inr d))) none).symm
noncomputable def L.FnFewestCuts_tree {α : Type} (code : List Int) (leaf0_ : Bool → α) (fail_ : α) : α :=
  (bif decide ((↑code.length : Int) > 1048576) then (leaf0_ true) else (optC (S.DrawFewestCuts_t code) (fun c_1 => (optC (I.FewestCuts_t c_1) (fun c_2 => (optC (S.FewestCuts_t c_1) (fun c_3 => (bif !c_2 == c_3 then (leaf0_ false) else (optC (I.NetOk_t c_1) (fun c_4 => (bif !c_4 then (bif c_2 == -1 then (optC (L.alive_t) (fun c_5 => (leaf0_ c_5)) fail_) else (leaf0_ false)) else (optC (I.WiresOf_t c_1) (fun c_6 => (bif c_6 == 0 then (leaf0_ (c_2 == -1)) else (optC (L.FnFewestCuts_run12 c_2 FUEL (0, c_1)) (fun qy_10 => (sumC qy_10 (fun (qy_10 : Bool × (List Int)) => (leaf0_ qy_10.1)) (fun (qy_10 : List Int) => (bif decide (c_2 ≥ 1) then (optC (I.ForestOk_t qy_10) (fun c_11 => (bif !c_11 then (leaf0_ true) else (leaf0_ (decide (c_2 ≤ 2))))) fail_) else (leaf0_ false))))) fail_))) fail_))) fail_))) fail_)) fail_)) fail_))
theorem L.FnFewestCuts_tree_nat {α γ : Type} (g : α → γ) (code : List Int) (leaf0_ : Bool → α) (fail_ : α) : g (L.FnFewestCuts_tree code leaf0_ fail_) = L.FnFewestCuts_tree code (fun d => g (leaf0_ d)) (g fail_) := by
  unfold L.FnFewestCuts_tree; simp only [apply_cnd g, apply_optC g, apply_sumC g]
noncomputable def L.FnFewestCuts_t (code : List Int) : Option (Bool) := L.FnFewestCuts_tree code (fun d => some d) none
theorem L.FnFewestCuts_den (code : List Int) (κ : V → List E → R) : L.FnFewestCuts_F [.ro true (.ints .u8 code)] [] κ = optC (L.FnFewestCuts_t code) (fun (r : Bool) => κ (.bool r) []) none := by
  have hu : L.FnFewestCuts_F [.ro true (.ints .u8 code)] [] κ = L.FnFewestCuts_tree code (fun d => κ (.bool d) []) none := by
    refine Eq.trans (show L.FnFewestCuts_F [.ro true (.ints .u8 code)] [] κ = (bif decide ((↑code.length : Int) > 1048576) then (κ (.bool true) []) else (optC (S.DrawFewestCuts_t code) (fun c_1 => (optC (I.FewestCuts_t c_1) (fun c_2 => (optC (S.FewestCuts_t c_1) (fun c_3 => (bif !c_2 == c_3 then (κ (.bool false) []) else (optC (I.NetOk_t c_1) (fun c_4 => (bif !c_4 then (bif c_2 == -1 then (optC (L.alive_t) (fun c_5 => (κ (.bool c_5) [])) none) else (κ (.bool false) [])) else (optC (I.WiresOf_t c_1) (fun c_6 => (bif c_6 == 0 then (κ (.bool (c_2 == -1)) []) else (L.FnFewestCuts_L12 FUEL { n := 78, t := [(3, (.own 0)), (4, (.int .i64 c_2)), (5, (.int .i64 0))], h := [.row (.ints .i64 c_1)] } (L.FnFewestCuts_k12 κ)))) none))) none))) none)) none)) none)) by kernel_rfl) ?_
    refine cnd_congr ?_ ?_
    · kernel_rfl
    · refine optC_congr (fun c_1 => ?_)
      refine optC_congr (fun c_2 => ?_)
      refine optC_congr (fun c_3 => ?_)
      refine cnd_congr ?_ ?_
      · kernel_rfl
      · refine optC_congr (fun c_4 => ?_)
        refine cnd_congr ?_ ?_
        · kernel_rfl
        · refine optC_congr (fun c_6 => ?_)
          refine cnd_congr ?_ ?_
          · kernel_rfl
          · refine (L.FnFewestCuts_L12_run c_2 FUEL (0, c_1) (L.FnFewestCuts_k12 κ)).trans (optC_congr (fun qy_10 => ?_))
            rcases qy_10 with qy_10 | qy_10
            · kernel_rfl
            · kernel_rfl
  rw [hu]
  exact (L.FnFewestCuts_tree_nat (fun o => optC o (fun (r : Bool) => κ (.bool r) []) none) code (fun d => some d) none).symm
noncomputable def L.FnFewestCuts_s : D.Spec where
  keep := true
  pure := true
  add := true
  ds := [.int .u8]
  sp := fun args h κ => match args, h with
    | [.ro true (.ints .u8 code)], [] => optC (L.FnFewestCuts_t code) (fun (r : Bool) => κ (.bool r) []) none
    | _, _ => none
theorem L.FnFewestCuts_ok : SpecOk Try.prog 9 L.FnFewestCuts_s := by
  refine SpecOk.of TDok mixed (T := L.FnFewestCuts_T) ?_ (ann := L.FnFewestCuts_ann) Try.func9 rfl (by decide +kernel) ?_ ?_ ?_ ?_
  · intro p hp
    simp only [L.FnFewestCuts_T, List.mem_cons, List.not_mem_nil, or_false] at hp
    rcases hp with rfl | rfl | rfl | rfl | rfl | rfl | rfl | rfl
    · exact S.DrawFewestCuts_ok
    · exact I.FewestCuts_ok
    · exact S.FewestCuts_ok
    · exact I.NetOk_ok
    · exact L.alive_ok
    · exact I.WiresOf_ok
    · exact L.sizeOf_ok
    · exact I.ForestOk_ok
  · intro args h κ r hh
    simp only [L.FnFewestCuts_s] at hh
    split at hh
    · exact (L.FnFewestCuts_den _ κ).trans hh
    · cases hh
  · intro args h κ r hh
    simp only [L.FnFewestCuts_s] at hh ⊢
    split at hh
    · exact optC_law2 (F := fun (r : Bool) κ => κ (.bool r) []) (fun b κ r hb => ⟨_, _, hb, fun _ => rfl⟩) hh
    · cases hh
  · intro _ args h κ r hh
    simp only [L.FnFewestCuts_s] at hh
    split at hh
    · exact ⟨rfl, fun _ => rfl⟩
    · cases hh
  · intro _ args h κ r hh
    simp only [L.FnFewestCuts_s] at hh
    split at hh
    · rfl
    · cases hh

-- loop.example/guardsonnets/laws.FnExactFewestCuts
noncomputable def L.FnExactFewestCuts_T : List (Nat × D.Spec) := [(22, L.toIntS_s), (34, S.FewestCuts_s), (33, I.FewestCuts_s), (23, L.eqIntS_s)]
def L.FnExactFewestCuts_ann : Nat → List Nat × List Nat
  | _ => ([], [])
noncomputable def L.FnExactFewestCuts_F (args : List V) (h : List E) (κ : V → List E → R) : R := funC TD (tableK L.FnExactFewestCuts_T) L.FnExactFewestCuts_ann (drawOk TD (tableP L.FnExactFewestCuts_T)) FUEL Try.f10 args h κ
noncomputable def L.FnExactFewestCuts_tree {α : Type} (aNet : List Int) (leaf0_ : Bool → α) (fail_ : α) : α :=
  (bif decide ((↑aNet.length : Int) > 1048576) then (leaf0_ true) else (optC (L.toIntS_t aNet) (fun c_1 => (optC (S.FewestCuts_t c_1) (fun c_2 => (optC (L.toIntS_t aNet) (fun c_3 => (optC (I.FewestCuts_t c_3) (fun c_4 => (bif !c_4 == c_2 then (leaf0_ false) else (optC (L.toIntS_t aNet) (fun c_5 => (optC (L.eqIntS_t c_3 c_5) (fun c_6 => (bif !c_6 then (leaf0_ false) else (leaf0_ true))) fail_)) fail_))) fail_)) fail_)) fail_)) fail_))
theorem L.FnExactFewestCuts_tree_nat {α γ : Type} (g : α → γ) (aNet : List Int) (leaf0_ : Bool → α) (fail_ : α) : g (L.FnExactFewestCuts_tree aNet leaf0_ fail_) = L.FnExactFewestCuts_tree aNet (fun d => g (leaf0_ d)) (g fail_) := by
  unfold L.FnExactFewestCuts_tree; simp only [apply_cnd g, apply_optC g, apply_sumC g]
noncomputable def L.FnExactFewestCuts_t (aNet : List Int) : Option (Bool) := L.FnExactFewestCuts_tree aNet (fun d => some d) none
theorem L.FnExactFewestCuts_den (aNet : List Int) (κ : V → List E → R) : L.FnExactFewestCuts_F [.ro true (.ints .i64 aNet)] [] κ = optC (L.FnExactFewestCuts_t aNet) (fun (r : Bool) => κ (.bool r) []) none := by
  have hu : L.FnExactFewestCuts_F [.ro true (.ints .i64 aNet)] [] κ = L.FnExactFewestCuts_tree aNet (fun d => κ (.bool d) []) none := by
    kernel_rfl
  rw [hu]
  exact (L.FnExactFewestCuts_tree_nat (fun o => optC o (fun (r : Bool) => κ (.bool r) []) none) aNet (fun d => some d) none).symm
noncomputable def L.FnExactFewestCuts_s : D.Spec where
  keep := true
  pure := true
  add := true
  ds := [.int .i64]
  sp := fun args h κ => match args, h with
    | [.ro true (.ints .i64 aNet)], [] => optC (L.FnExactFewestCuts_t aNet) (fun (r : Bool) => κ (.bool r) []) none
    | _, _ => none
theorem L.FnExactFewestCuts_ok : SpecOk Try.prog 10 L.FnExactFewestCuts_s := by
  refine SpecOk.of TDok mixed (T := L.FnExactFewestCuts_T) ?_ (ann := L.FnExactFewestCuts_ann) Try.func10 rfl (by decide +kernel) ?_ ?_ ?_ ?_
  · intro p hp
    simp only [L.FnExactFewestCuts_T, List.mem_cons, List.not_mem_nil, or_false] at hp
    rcases hp with rfl | rfl | rfl | rfl
    · exact L.toIntS_ok
    · exact S.FewestCuts_ok
    · exact I.FewestCuts_ok
    · exact L.eqIntS_ok
  · intro args h κ r hh
    simp only [L.FnExactFewestCuts_s] at hh
    split at hh
    · exact (L.FnExactFewestCuts_den _ κ).trans hh
    · cases hh
  · intro args h κ r hh
    simp only [L.FnExactFewestCuts_s] at hh ⊢
    split at hh
    · exact optC_law2 (F := fun (r : Bool) κ => κ (.bool r) []) (fun b κ r hb => ⟨_, _, hb, fun _ => rfl⟩) hh
    · cases hh
  · intro _ args h κ r hh
    simp only [L.FnExactFewestCuts_s] at hh
    split at hh
    · exact ⟨rfl, fun _ => rfl⟩
    · cases hh
  · intro _ args h κ r hh
    simp only [L.FnExactFewestCuts_s] at hh
    split at hh
    · rfl
    · cases hh

-- loop.example/guardsonnets/spec.DrawFewestJoins
noncomputable def S.DrawFewestJoins_T : List (Nat × D.Spec) := [(40, S.l20Open_s), (57, S.l20Net_s)]
def S.DrawFewestJoins_ann : Nat → List Nat × List Nat
  | _ => ([], [])
noncomputable def S.DrawFewestJoins_F (args : List V) (h : List E) (κ : V → List E → R) : R := funC TD (tableK S.DrawFewestJoins_T) S.DrawFewestJoins_ann (drawOk TD (tableP S.DrawFewestJoins_T)) FUEL Try.f37 args h κ
noncomputable def S.DrawFewestJoins_tree {α : Type} (code : List Int) (leaf0_ : List Int → α) (fail_ : α) : α :=
  (optC (S.l20Open_t code) (fun c_1 => (optC (S.l20Net_t c_1.fst c_1.snd 9) (fun c_2 => (leaf0_ c_2.snd.snd)) fail_)) fail_)
theorem S.DrawFewestJoins_tree_nat {α γ : Type} (g : α → γ) (code : List Int) (leaf0_ : List Int → α) (fail_ : α) : g (S.DrawFewestJoins_tree code leaf0_ fail_) = S.DrawFewestJoins_tree code (fun d => g (leaf0_ d)) (g fail_) := by
  unfold S.DrawFewestJoins_tree; simp only [apply_cnd g, apply_optC g, apply_sumC g]
noncomputable def S.DrawFewestJoins_t (code : List Int) : Option (List Int) := S.DrawFewestJoins_tree code (fun d => some d) none
theorem S.DrawFewestJoins_den (code : List Int) (κ : V → List E → R) : S.DrawFewestJoins_F [.ro true (.ints .u8 code)] [] κ = optC (S.DrawFewestJoins_t code) (fun (r : List Int) => κ (.own 0) [.row (.ints .i64 r)]) none := by
  have hu : S.DrawFewestJoins_F [.ro true (.ints .u8 code)] [] κ = S.DrawFewestJoins_tree code (fun d => κ (.own 0) [.row (.ints .i64 d)]) none := by
    kernel_rfl
  rw [hu]
  exact (S.DrawFewestJoins_tree_nat (fun o => optC o (fun (r : List Int) => κ (.own 0) [.row (.ints .i64 r)]) none) code (fun d => some d) none).symm
noncomputable def S.DrawFewestJoins_s : D.Spec where
  keep := true
  pure := false
  add := true
  ds := [.int .u8]
  sp := fun args h κ => match args, h with
    | [.ro true (.ints .u8 code)], [] => optC (S.DrawFewestJoins_t code) (fun (r : List Int) => κ (.own 0) [.row (.ints .i64 r)]) none
    | _, _ => none
theorem S.DrawFewestJoins_ok : SpecOk Try.prog 37 S.DrawFewestJoins_s := by
  refine SpecOk.of TDok mixed (T := S.DrawFewestJoins_T) ?_ (ann := S.DrawFewestJoins_ann) Try.func37 rfl (by decide +kernel) ?_ ?_ ?_ ?_
  · intro p hp
    simp only [S.DrawFewestJoins_T, List.mem_cons, List.not_mem_nil, or_false] at hp
    rcases hp with rfl | rfl
    · exact S.l20Open_ok
    · exact S.l20Net_ok
  · intro args h κ r hh
    simp only [S.DrawFewestJoins_s] at hh
    split at hh
    · exact (S.DrawFewestJoins_den _ κ).trans hh
    · cases hh
  · intro args h κ r hh
    simp only [S.DrawFewestJoins_s] at hh ⊢
    split at hh
    · exact optC_law2 (F := fun (r : List Int) κ => κ (.own 0) [.row (.ints .i64 r)]) (fun b κ r hb => ⟨_, _, hb, fun _ => rfl⟩) hh
    · cases hh
  · intro hh; cases hh
  · intro _ args h κ r hh
    simp only [S.DrawFewestJoins_s] at hh
    split at hh
    · rfl
    · cases hh

-- loop.example/guardsonnets/impl.OtherNet
noncomputable def I.OtherNet_T : List (Nat × D.Spec) := [(19, I.NetOk_s), (55, I.allOf_s), (54, I.ballIn_s)]
def I.OtherNet_ann : Nat → List Nat × List Nat
  | 5 => ([0, 3, 4], [3])
  | _ => ([], [])
noncomputable def I.OtherNet_F (args : List V) (h : List E) (κ : V → List E → R) : R := funC TD (tableK I.OtherNet_T) I.OtherNet_ann (drawOk TD (tableP I.OtherNet_T)) FUEL Try.f67 args h κ
noncomputable def I.OtherNet_L5 (n : Nat) (σ : St) (k : X → St → R) : R := iterC 0 (fun σ k => denC TD (tableK I.OtherNet_T) I.OtherNet_ann (drawOk TD (tableP I.OtherNet_T)) 0 FUEL ((findLoop 5 (Try.f67.body.getD .skip)).getD .skip) σ k) [0, 3, 4] [3] n σ k
noncomputable def I.OtherNet_k5 (κ : V → List E → R) : X → St → R := (afterC TD (tableK I.OtherNet_T) I.OtherNet_ann (drawOk TD (tableP I.OtherNet_T)) 0 FUEL 5 (Try.f67.body.getD .skip) (finC TD 0 Try.f67 κ)).getD (fun _ _ => none)
noncomputable def I.OtherNet_step5 {α : Type} (x0 : List Int) (x4 : Int) (r0 : List Int) (next_ : Int × (List Int) → α) (out0_ : List Int → α) (fail_ : α) : α :=
  (bif decide (x4 < (↑x0.length : Int)) then (optC (I.allOf_t x0) (fun c_2 => (optC (I.ballIn_t x0 x4) (fun c_3 => (bif decide (0 ≤ x4) && decide (x4 < (↑r0.length : Int)) then (bif decide (x4.toNat < r0.length) then (next_ (IntKind.i64.wrap (x4 + 1), r0.set x4.toNat (bits BinOp.andNot IntKind.i64 c_2 c_3))) else fail_) else fail_)) fail_)) fail_) else (out0_ r0))
theorem I.OtherNet_step5_nat {α γ : Type} (g : α → γ) (x0 : List Int) (x4 : Int) (r0 : List Int) (next_ : Int × (List Int) → α) (out0_ : List Int → α) (fail_ : α) : g (I.OtherNet_step5 x0 x4 r0 next_ out0_ fail_) = I.OtherNet_step5 x0 x4 r0 (fun s => g (next_ s)) (fun d => g (out0_ d)) (g fail_) := by
  unfold I.OtherNet_step5; simp only [apply_cnd g, apply_optC g, apply_sumC g]
noncomputable def I.OtherNet_run5 (x0 : List Int) : Nat → Int × (List Int) → Option (List Int)
  | 0, _ => none
  | n + 1, s_ => I.OtherNet_step5 x0 s_.1 s_.2 (I.OtherNet_run5 x0 n) (fun d => some d) none
theorem I.OtherNet_L5_run (x0 : List Int) (n : Nat) (s_ : Int × (List Int)) (k : X → St → R) : I.OtherNet_L5 n { n := 27, t := [(0, (.ro false (.ints .i64 x0))), (3, (.own 0)), (4, (.int .i64 s_.1))], h := [.row (.ints .i64 s_.2)] } k = optC (I.OtherNet_run5 x0 n s_) (fun (r : List Int) => k (.exit 0) { n := 27, t := [(3, (.own 0))], h := [.row (.ints .i64 r)] }) none := by
  induction n generalizing s_ with
  | zero => rfl
  | succ n ih =>
    have hu : I.OtherNet_L5 (n + 1) { n := 27, t := [(0, (.ro false (.ints .i64 x0))), (3, (.own 0)), (4, (.int .i64 s_.1))], h := [.row (.ints .i64 s_.2)] } k = I.OtherNet_step5 x0 s_.1 s_.2 (fun s_ => I.OtherNet_L5 n { n := 27, t := [(0, (.ro false (.ints .i64 x0))), (3, (.own 0)), (4, (.int .i64 s_.1))], h := [.row (.ints .i64 s_.2)] } k) (fun d => k (.exit 0) { n := 27, t := [(3, (.own 0))], h := [.row (.ints .i64 d)] }) none := by
      kernel_rfl
    have hs : (fun s_ : Int × (List Int) => I.OtherNet_L5 n { n := 27, t := [(0, (.ro false (.ints .i64 x0))), (3, (.own 0)), (4, (.int .i64 s_.1))], h := [.row (.ints .i64 s_.2)] } k) = fun s_ => optC (I.OtherNet_run5 x0 n s_) (fun (r : List Int) => k (.exit 0) { n := 27, t := [(3, (.own 0))], h := [.row (.ints .i64 r)] }) none := funext ih
    rw [hu, hs]
    exact (I.OtherNet_step5_nat (fun o => optC o (fun (r : List Int) => k (.exit 0) { n := 27, t := [(3, (.own 0))], h := [.row (.ints .i64 r)] }) none) x0 s_.1 s_.2 (I.OtherNet_run5 x0 n) (fun d => some d) none).symm
noncomputable def I.OtherNet_tree {α : Type} (net : List Int) (leaf0_ : List Int → α) (fail_ : α) : α :=
  (optC (I.NetOk_t net) (fun c_1 => (bif !c_1 then (leaf0_ ([])) else (bif small (↑net.length : Int).toNat && true then (optC (I.OtherNet_run5 net FUEL (0, List.replicate (↑net.length : Int).toNat 0)) (fun qy_4 => (leaf0_ qy_4)) fail_) else fail_))) fail_)
theorem I.OtherNet_tree_nat {α γ : Type} (g : α → γ) (net : List Int) (leaf0_ : List Int → α) (fail_ : α) : g (I.OtherNet_tree net leaf0_ fail_) = I.OtherNet_tree net (fun d => g (leaf0_ d)) (g fail_) := by
  unfold I.OtherNet_tree; simp only [apply_cnd g, apply_optC g, apply_sumC g]
noncomputable def I.OtherNet_t (net : List Int) : Option (List Int) := I.OtherNet_tree net (fun d => some d) none
theorem I.OtherNet_den (net : List Int) (κ : V → List E → R) : I.OtherNet_F [.ro false (.ints .i64 net)] [] κ = optC (I.OtherNet_t net) (fun (r : List Int) => κ (.own 0) [.row (.ints .i64 r)]) none := by
  have hu : I.OtherNet_F [.ro false (.ints .i64 net)] [] κ = I.OtherNet_tree net (fun d => κ (.own 0) [.row (.ints .i64 d)]) none := by
    refine Eq.trans (show I.OtherNet_F [.ro false (.ints .i64 net)] [] κ = (optC (I.NetOk_t net) (fun c_1 => (bif !c_1 then (κ (.own 0) [.row (.ints .i64 ([]))]) else (bif small (↑net.length : Int).toNat && true then (I.OtherNet_L5 FUEL { n := 27, t := [(0, (.ro false (.ints .i64 net))), (3, (.own 0)), (4, (.int .i64 0))], h := [.row (.ints .i64 (List.replicate (↑net.length : Int).toNat 0))] } (I.OtherNet_k5 κ)) else none))) none) by kernel_rfl) ?_
    refine optC_congr (fun c_1 => ?_)
    refine cnd_congr ?_ ?_
    · kernel_rfl
    · refine cnd_congr ?_ ?_
      · refine (I.OtherNet_L5_run net FUEL (0, List.replicate (↑net.length : Int).toNat 0) (I.OtherNet_k5 κ)).trans (optC_congr (fun qy_4 => ?_))
        kernel_rfl
      · kernel_rfl
  rw [hu]
  exact (I.OtherNet_tree_nat (fun o => optC o (fun (r : List Int) => κ (.own 0) [.row (.ints .i64 r)]) none) net (fun d => some d) none).symm
noncomputable def I.OtherNet_s : D.Spec where
  keep := false
  pure := false
  add := true
  ds := [.int .i64]
  sp := fun args h κ => match args, h with
    | [.ro false (.ints .i64 net)], [] => optC (I.OtherNet_t net) (fun (r : List Int) => κ (.own 0) [.row (.ints .i64 r)]) none
    | _, _ => none
theorem I.OtherNet_ok : SpecOk Try.prog 67 I.OtherNet_s := by
  refine SpecOk.of TDok mixed (T := I.OtherNet_T) ?_ (ann := I.OtherNet_ann) Try.func67 rfl (by decide +kernel) ?_ ?_ ?_ ?_
  · intro p hp
    simp only [I.OtherNet_T, List.mem_cons, List.not_mem_nil, or_false] at hp
    rcases hp with rfl | rfl | rfl
    · exact I.NetOk_ok
    · exact I.allOf_ok
    · exact I.ballIn_ok
  · intro args h κ r hh
    simp only [I.OtherNet_s] at hh
    split at hh
    · exact (I.OtherNet_den _ κ).trans hh
    · cases hh
  · intro args h κ r hh
    simp only [I.OtherNet_s] at hh ⊢
    split at hh
    · exact optC_law2 (F := fun (r : List Int) κ => κ (.own 0) [.row (.ints .i64 r)]) (fun b κ r hb => ⟨_, _, hb, fun _ => rfl⟩) hh
    · cases hh
  · intro hh; cases hh
  · intro _ args h κ r hh
    simp only [I.OtherNet_s] at hh
    split at hh
    · rfl
    · cases hh

-- loop.example/guardsonnets/impl.FewestJoins
noncomputable def I.FewestJoins_T : List (Nat × D.Spec) := [(18, I.FewestWatch_s), (67, I.OtherNet_s), (62, I.wiresIn_s), (61, I.fewestTurns_s)]
def I.FewestJoins_ann : Nat → List Nat × List Nat
  | _ => ([], [])
noncomputable def I.FewestJoins_F (args : List V) (h : List E) (κ : V → List E → R) : R := funC TD (tableK I.FewestJoins_T) I.FewestJoins_ann (drawOk TD (tableP I.FewestJoins_T)) FUEL Try.f38 args h κ
noncomputable def I.FewestJoins_tree {α : Type} (net : List Int) (leaf0_ : Int → α) (fail_ : α) : α :=
  (optC (I.FewestWatch_t net) (fun c_1 => (bif decide (c_1 ≤ 1) then (leaf0_ (-1)) else (optC (I.OtherNet_t net) (fun c_2 => (optC (I.wiresIn_t c_2) (fun c_3 => (optC (I.fewestTurns_t net c_3 (IntKind.i64.wrap (c_1 - 1)) true) (fun c_4 => (leaf0_ c_4)) fail_)) fail_)) fail_))) fail_)
theorem I.FewestJoins_tree_nat {α γ : Type} (g : α → γ) (net : List Int) (leaf0_ : Int → α) (fail_ : α) : g (I.FewestJoins_tree net leaf0_ fail_) = I.FewestJoins_tree net (fun d => g (leaf0_ d)) (g fail_) := by
  unfold I.FewestJoins_tree; simp only [apply_cnd g, apply_optC g, apply_sumC g]
noncomputable def I.FewestJoins_t (net : List Int) : Option (Int) := I.FewestJoins_tree net (fun d => some d) none
theorem I.FewestJoins_den (net : List Int) (κ : V → List E → R) : I.FewestJoins_F [.ro false (.ints .i64 net)] [] κ = optC (I.FewestJoins_t net) (fun (r : Int) => κ (.int .i64 r) []) none := by
  have hu : I.FewestJoins_F [.ro false (.ints .i64 net)] [] κ = I.FewestJoins_tree net (fun d => κ (.int .i64 d) []) none := by
    kernel_rfl
  rw [hu]
  exact (I.FewestJoins_tree_nat (fun o => optC o (fun (r : Int) => κ (.int .i64 r) []) none) net (fun d => some d) none).symm
noncomputable def I.FewestJoins_s : D.Spec where
  keep := false
  pure := true
  add := true
  ds := [.int .i64]
  sp := fun args h κ => match args, h with
    | [.ro false (.ints .i64 net)], [] => optC (I.FewestJoins_t net) (fun (r : Int) => κ (.int .i64 r) []) none
    | _, _ => none
theorem I.FewestJoins_ok : SpecOk Try.prog 38 I.FewestJoins_s := by
  refine SpecOk.of TDok mixed (T := I.FewestJoins_T) ?_ (ann := I.FewestJoins_ann) Try.func38 rfl (by decide +kernel) ?_ ?_ ?_ ?_
  · intro p hp
    simp only [I.FewestJoins_T, List.mem_cons, List.not_mem_nil, or_false] at hp
    rcases hp with rfl | rfl | rfl | rfl
    · exact I.FewestWatch_ok
    · exact I.OtherNet_ok
    · exact I.wiresIn_ok
    · exact I.fewestTurns_ok
  · intro args h κ r hh
    simp only [I.FewestJoins_s] at hh
    split at hh
    · exact (I.FewestJoins_den _ κ).trans hh
    · cases hh
  · intro args h κ r hh
    simp only [I.FewestJoins_s] at hh ⊢
    split at hh
    · exact optC_law2 (F := fun (r : Int) κ => κ (.int .i64 r) []) (fun b κ r hb => ⟨_, _, hb, fun _ => rfl⟩) hh
    · cases hh
  · intro _ args h κ r hh
    simp only [I.FewestJoins_s] at hh
    split at hh
    · exact ⟨rfl, fun _ => rfl⟩
    · cases hh
  · intro _ args h κ r hh
    simp only [I.FewestJoins_s] at hh
    split at hh
    · rfl
    · cases hh

-- loop.example/guardsonnets/spec.OtherNet
noncomputable def S.OtherNet_T : List (Nat × D.Spec) := [(42, S.NetOk_s)]
def S.OtherNet_ann : Nat → List Nat × List Nat
  | 3 => ([0, 3, 4], [3])
  | _ => ([], [])
noncomputable def S.OtherNet_F (args : List V) (h : List E) (κ : V → List E → R) : R := funC TD (tableK S.OtherNet_T) S.OtherNet_ann (drawOk TD (tableP S.OtherNet_T)) FUEL Try.f68 args h κ
noncomputable def S.OtherNet_L3 (n : Nat) (σ : St) (k : X → St → R) : R := iterC 0 (fun σ k => denC TD (tableK S.OtherNet_T) S.OtherNet_ann (drawOk TD (tableP S.OtherNet_T)) 0 FUEL ((findLoop 3 (Try.f68.body.getD .skip)).getD .skip) σ k) [0, 3, 4] [3] n σ k
noncomputable def S.OtherNet_k3 (κ : V → List E → R) : X → St → R := (afterC TD (tableK S.OtherNet_T) S.OtherNet_ann (drawOk TD (tableP S.OtherNet_T)) 0 FUEL 3 (Try.f68.body.getD .skip) (finC TD 0 Try.f68 κ)).getD (fun _ _ => none)
noncomputable def S.OtherNet_step3 {α : Type} (x0 : List Int) (x4 : Int) (r0 : List Int) (next_ : Int × (List Int) → α) (out0_ : List Int → α) (fail_ : α) : α :=
  (bif decide (x4 < (↑x0.length : Int)) then (optC (S.NetOk_t x0) (fun c_1 => (bif c_1 then (bif decide (0 ≤ x4) && decide (x4 < (↑x0.length : Int)) then (bif decide (x4 < 0) then fail_ else (bif small (r0 ++ [IntKind.i64.wrap (IntKind.i64.wrap (IntKind.i64.wrap (IntKind.i64.wrap (1 * 2 ^ min (↑x0.length : Int).toNat IntKind.i64.bits) - 1) - eli x0 x4.toNat) - IntKind.i64.wrap (1 * 2 ^ min x4.toNat IntKind.i64.bits))]).length then (next_ (IntKind.i64.wrap (x4 + 1), r0 ++ [IntKind.i64.wrap (IntKind.i64.wrap (IntKind.i64.wrap (IntKind.i64.wrap (1 * 2 ^ min (↑x0.length : Int).toNat IntKind.i64.bits) - 1) - eli x0 x4.toNat) - IntKind.i64.wrap (1 * 2 ^ min x4.toNat IntKind.i64.bits))])) else fail_)) else fail_) else (out0_ r0))) fail_) else (out0_ r0))
theorem S.OtherNet_step3_nat {α γ : Type} (g : α → γ) (x0 : List Int) (x4 : Int) (r0 : List Int) (next_ : Int × (List Int) → α) (out0_ : List Int → α) (fail_ : α) : g (S.OtherNet_step3 x0 x4 r0 next_ out0_ fail_) = S.OtherNet_step3 x0 x4 r0 (fun s => g (next_ s)) (fun d => g (out0_ d)) (g fail_) := by
  unfold S.OtherNet_step3; simp only [apply_cnd g, apply_optC g, apply_sumC g]
noncomputable def S.OtherNet_run3 (x0 : List Int) : Nat → Int × (List Int) → Option (List Int)
  | 0, _ => none
  | n + 1, s_ => S.OtherNet_step3 x0 s_.1 s_.2 (S.OtherNet_run3 x0 n) (fun d => some d) none
theorem S.OtherNet_L3_run (x0 : List Int) (n : Nat) (s_ : Int × (List Int)) (k : X → St → R) : S.OtherNet_L3 n { n := 32, t := [(0, (.ro false (.ints .i64 x0))), (3, (.own 0)), (4, (.int .i64 s_.1))], h := [.row (.ints .i64 s_.2)] } k = optC (S.OtherNet_run3 x0 n s_) (fun (r : List Int) => k (.exit 0) { n := 32, t := [(3, (.own 0))], h := [.row (.ints .i64 r)] }) none := by
  induction n generalizing s_ with
  | zero => rfl
  | succ n ih =>
    have hu : S.OtherNet_L3 (n + 1) { n := 32, t := [(0, (.ro false (.ints .i64 x0))), (3, (.own 0)), (4, (.int .i64 s_.1))], h := [.row (.ints .i64 s_.2)] } k = S.OtherNet_step3 x0 s_.1 s_.2 (fun s_ => S.OtherNet_L3 n { n := 32, t := [(0, (.ro false (.ints .i64 x0))), (3, (.own 0)), (4, (.int .i64 s_.1))], h := [.row (.ints .i64 s_.2)] } k) (fun d => k (.exit 0) { n := 32, t := [(3, (.own 0))], h := [.row (.ints .i64 d)] }) none := by
      kernel_rfl
    have hs : (fun s_ : Int × (List Int) => S.OtherNet_L3 n { n := 32, t := [(0, (.ro false (.ints .i64 x0))), (3, (.own 0)), (4, (.int .i64 s_.1))], h := [.row (.ints .i64 s_.2)] } k) = fun s_ => optC (S.OtherNet_run3 x0 n s_) (fun (r : List Int) => k (.exit 0) { n := 32, t := [(3, (.own 0))], h := [.row (.ints .i64 r)] }) none := funext ih
    rw [hu, hs]
    exact (S.OtherNet_step3_nat (fun o => optC o (fun (r : List Int) => k (.exit 0) { n := 32, t := [(3, (.own 0))], h := [.row (.ints .i64 r)] }) none) x0 s_.1 s_.2 (S.OtherNet_run3 x0 n) (fun d => some d) none).symm
noncomputable def S.OtherNet_tree {α : Type} (net : List Int) (leaf0_ : List Int → α) (fail_ : α) : α :=
  (optC (S.OtherNet_run3 net FUEL (0, [])) (fun qy_2 => (leaf0_ qy_2)) fail_)
theorem S.OtherNet_tree_nat {α γ : Type} (g : α → γ) (net : List Int) (leaf0_ : List Int → α) (fail_ : α) : g (S.OtherNet_tree net leaf0_ fail_) = S.OtherNet_tree net (fun d => g (leaf0_ d)) (g fail_) := by
  unfold S.OtherNet_tree; simp only [apply_cnd g, apply_optC g, apply_sumC g]
noncomputable def S.OtherNet_t (net : List Int) : Option (List Int) := S.OtherNet_tree net (fun d => some d) none
theorem S.OtherNet_den (net : List Int) (κ : V → List E → R) : S.OtherNet_F [.ro false (.ints .i64 net)] [] κ = optC (S.OtherNet_t net) (fun (r : List Int) => κ (.own 0) [.row (.ints .i64 r)]) none := by
  have hu : S.OtherNet_F [.ro false (.ints .i64 net)] [] κ = S.OtherNet_tree net (fun d => κ (.own 0) [.row (.ints .i64 d)]) none := by
    refine Eq.trans (show S.OtherNet_F [.ro false (.ints .i64 net)] [] κ = (S.OtherNet_L3 FUEL { n := 32, t := [(0, (.ro false (.ints .i64 net))), (3, (.own 0)), (4, (.int .i64 0))], h := [.row (.ints .i64 ([]))] } (S.OtherNet_k3 κ)) by kernel_rfl) ?_
    refine (S.OtherNet_L3_run net FUEL (0, []) (S.OtherNet_k3 κ)).trans (optC_congr (fun qy_2 => ?_))
    kernel_rfl
  rw [hu]
  exact (S.OtherNet_tree_nat (fun o => optC o (fun (r : List Int) => κ (.own 0) [.row (.ints .i64 r)]) none) net (fun d => some d) none).symm
noncomputable def S.OtherNet_s : D.Spec where
  keep := false
  pure := false
  add := true
  ds := [.int .i64]
  sp := fun args h κ => match args, h with
    | [.ro false (.ints .i64 net)], [] => optC (S.OtherNet_t net) (fun (r : List Int) => κ (.own 0) [.row (.ints .i64 r)]) none
    | _, _ => none
theorem S.OtherNet_ok : SpecOk Try.prog 68 S.OtherNet_s := by
  refine SpecOk.of TDok mixed (T := S.OtherNet_T) ?_ (ann := S.OtherNet_ann) Try.func68 rfl (by decide +kernel) ?_ ?_ ?_ ?_
  · intro p hp
    simp only [S.OtherNet_T, List.mem_cons, List.not_mem_nil, or_false] at hp
    rcases hp with rfl
    · exact S.NetOk_ok
  · intro args h κ r hh
    simp only [S.OtherNet_s] at hh
    split at hh
    · exact (S.OtherNet_den _ κ).trans hh
    · cases hh
  · intro args h κ r hh
    simp only [S.OtherNet_s] at hh ⊢
    split at hh
    · exact optC_law2 (F := fun (r : List Int) κ => κ (.own 0) [.row (.ints .i64 r)]) (fun b κ r hb => ⟨_, _, hb, fun _ => rfl⟩) hh
    · cases hh
  · intro hh; cases hh
  · intro _ args h κ r hh
    simp only [S.OtherNet_s] at hh
    split at hh
    · rfl
    · cases hh

-- loop.example/guardsonnets/spec.FewestJoins
noncomputable def S.FewestJoins_T : List (Nat × D.Spec) := [(42, S.NetOk_s), (68, S.OtherNet_s), (63, S.l6Wires_s), (64, S.FewestWatch_s), (59, S.l1Size_s), (65, S.l16Some_s)]
def S.FewestJoins_ann : Nat → List Nat × List Nat
  | 7 => ([0, 3, 4, 5, 6], [5])
  | _ => ([], [])
noncomputable def S.FewestJoins_F (args : List V) (h : List E) (κ : V → List E → R) : R := funC TD (tableK S.FewestJoins_T) S.FewestJoins_ann (drawOk TD (tableP S.FewestJoins_T)) FUEL Try.f39 args h κ
noncomputable def S.FewestJoins_L7 (n : Nat) (σ : St) (k : X → St → R) : R := iterC 0 (fun σ k => denC TD (tableK S.FewestJoins_T) S.FewestJoins_ann (drawOk TD (tableP S.FewestJoins_T)) 0 FUEL ((findLoop 7 (Try.f39.body.getD .skip)).getD .skip) σ k) [0, 3, 4, 5, 6] [5] n σ k
noncomputable def S.FewestJoins_k7 (κ : V → List E → R) : X → St → R := (afterC TD (tableK S.FewestJoins_T) S.FewestJoins_ann (drawOk TD (tableP S.FewestJoins_T)) 0 FUEL 7 (Try.f39.body.getD .skip) (finC TD 0 Try.f39 κ)).getD (fun _ _ => none)
noncomputable def S.FewestJoins_step7 {α : Type} (x0 : List Int) (x4 : Int) (x5 : Int) (x6 : Int) (r0 : List (List Int)) (next_ : Int × Int × (List (List Int)) → α) (out0_ : Int → α) (fail_ : α) : α :=
  (bif decide (x4 > 1) then (bif decide (x6 < IntKind.i64.wrap (1 * 2 ^ min (↑r0.length : Int).toNat IntKind.i64.bits)) then (bif decide (x5 < 0) then (optC (S.l16Some_t x0 r0 x6) (fun c_5 => (optC (S.FewestWatch_t c_5) (fun c_6 => (bif decide (c_6 < x4) then (optC (S.l1Size_t x6) (fun c_7 => (next_ (c_7, IntKind.i64.wrap (x6 + 1), r0))) fail_) else (next_ (x5, IntKind.i64.wrap (x6 + 1), r0)))) fail_)) fail_) else (optC (S.l1Size_t x6) (fun c_8 => (bif decide (c_8 < x5) then (optC (S.l16Some_t x0 r0 x6) (fun c_9 => (optC (S.FewestWatch_t c_9) (fun c_10 => (bif decide (c_10 < x4) then (optC (S.l1Size_t x6) (fun c_11 => (next_ (c_11, IntKind.i64.wrap (x6 + 1), r0))) fail_) else (next_ (x5, IntKind.i64.wrap (x6 + 1), r0)))) fail_)) fail_) else (next_ (x5, IntKind.i64.wrap (x6 + 1), r0)))) fail_)) else (out0_ x5)) else (out0_ x5))
theorem S.FewestJoins_step7_nat {α γ : Type} (g : α → γ) (x0 : List Int) (x4 : Int) (x5 : Int) (x6 : Int) (r0 : List (List Int)) (next_ : Int × Int × (List (List Int)) → α) (out0_ : Int → α) (fail_ : α) : g (S.FewestJoins_step7 x0 x4 x5 x6 r0 next_ out0_ fail_) = S.FewestJoins_step7 x0 x4 x5 x6 r0 (fun s => g (next_ s)) (fun d => g (out0_ d)) (g fail_) := by
  unfold S.FewestJoins_step7; simp only [apply_cnd g, apply_optC g, apply_sumC g]
noncomputable def S.FewestJoins_run7 (x0 : List Int) (x4 : Int) : Nat → Int × Int × (List (List Int)) → Option (Int)
  | 0, _ => none
  | n + 1, s_ => S.FewestJoins_step7 x0 x4 s_.1 s_.2.1 s_.2.2 (S.FewestJoins_run7 x0 x4 n) (fun d => some d) none
theorem S.FewestJoins_L7_run (x0 : List Int) (x4 : Int) (n : Nat) (s_ : Int × Int × (List (List Int))) (k : X → St → R) : S.FewestJoins_L7 n { n := 46, t := [(0, (.ro false (.ints .i64 x0))), (3, (.own 0)), (4, (.int .i64 x4)), (5, (.int .i64 s_.1)), (6, (.int .i64 s_.2.1))], h := [.row (.rows s_.2.2)] } k = optC (S.FewestJoins_run7 x0 x4 n s_) (fun (r : Int) => k (.exit 0) { n := 46, t := [(5, (.int .i64 r))], h := [] }) none := by
  induction n generalizing s_ with
  | zero => rfl
  | succ n ih =>
    have hu : S.FewestJoins_L7 (n + 1) { n := 46, t := [(0, (.ro false (.ints .i64 x0))), (3, (.own 0)), (4, (.int .i64 x4)), (5, (.int .i64 s_.1)), (6, (.int .i64 s_.2.1))], h := [.row (.rows s_.2.2)] } k = S.FewestJoins_step7 x0 x4 s_.1 s_.2.1 s_.2.2 (fun s_ => S.FewestJoins_L7 n { n := 46, t := [(0, (.ro false (.ints .i64 x0))), (3, (.own 0)), (4, (.int .i64 x4)), (5, (.int .i64 s_.1)), (6, (.int .i64 s_.2.1))], h := [.row (.rows s_.2.2)] } k) (fun d => k (.exit 0) { n := 46, t := [(5, (.int .i64 d))], h := [] }) none := by
      kernel_rfl
    have hs : (fun s_ : Int × Int × (List (List Int)) => S.FewestJoins_L7 n { n := 46, t := [(0, (.ro false (.ints .i64 x0))), (3, (.own 0)), (4, (.int .i64 x4)), (5, (.int .i64 s_.1)), (6, (.int .i64 s_.2.1))], h := [.row (.rows s_.2.2)] } k) = fun s_ => optC (S.FewestJoins_run7 x0 x4 n s_) (fun (r : Int) => k (.exit 0) { n := 46, t := [(5, (.int .i64 r))], h := [] }) none := funext ih
    rw [hu, hs]
    exact (S.FewestJoins_step7_nat (fun o => optC o (fun (r : Int) => k (.exit 0) { n := 46, t := [(5, (.int .i64 r))], h := [] }) none) x0 x4 s_.1 s_.2.1 s_.2.2 (S.FewestJoins_run7 x0 x4 n) (fun d => some d) none).symm
noncomputable def S.FewestJoins_tree {α : Type} (net : List Int) (leaf0_ : Int → α) (fail_ : α) : α :=
  (optC (S.NetOk_t net) (fun c_1 => (bif !c_1 then (leaf0_ (-1)) else (optC (S.OtherNet_t net) (fun c_2 => (optC (S.l6Wires_t c_2) (fun c_3 => (optC (S.FewestWatch_t net) (fun c_4 => (optC (S.FewestJoins_run7 net c_4 FUEL (-1, 0, c_3)) (fun qy_12 => (leaf0_ qy_12)) fail_)) fail_)) fail_)) fail_))) fail_)
theorem S.FewestJoins_tree_nat {α γ : Type} (g : α → γ) (net : List Int) (leaf0_ : Int → α) (fail_ : α) : g (S.FewestJoins_tree net leaf0_ fail_) = S.FewestJoins_tree net (fun d => g (leaf0_ d)) (g fail_) := by
  unfold S.FewestJoins_tree; simp only [apply_cnd g, apply_optC g, apply_sumC g]
noncomputable def S.FewestJoins_t (net : List Int) : Option (Int) := S.FewestJoins_tree net (fun d => some d) none
theorem S.FewestJoins_den (net : List Int) (κ : V → List E → R) : S.FewestJoins_F [.ro false (.ints .i64 net)] [] κ = optC (S.FewestJoins_t net) (fun (r : Int) => κ (.int .i64 r) []) none := by
  have hu : S.FewestJoins_F [.ro false (.ints .i64 net)] [] κ = S.FewestJoins_tree net (fun d => κ (.int .i64 d) []) none := by
    refine Eq.trans (show S.FewestJoins_F [.ro false (.ints .i64 net)] [] κ = (optC (S.NetOk_t net) (fun c_1 => (bif !c_1 then (κ (.int .i64 (-1)) []) else (optC (S.OtherNet_t net) (fun c_2 => (optC (S.l6Wires_t c_2) (fun c_3 => (optC (S.FewestWatch_t net) (fun c_4 => (S.FewestJoins_L7 FUEL { n := 46, t := [(0, (.ro false (.ints .i64 net))), (3, (.own 0)), (4, (.int .i64 c_4)), (5, (.int .i64 (-1))), (6, (.int .i64 0))], h := [.row (.rows c_3)] } (S.FewestJoins_k7 κ))) none)) none)) none))) none) by kernel_rfl) ?_
    refine optC_congr (fun c_1 => ?_)
    refine cnd_congr ?_ ?_
    · kernel_rfl
    · refine optC_congr (fun c_2 => ?_)
      refine optC_congr (fun c_3 => ?_)
      refine optC_congr (fun c_4 => ?_)
      refine (S.FewestJoins_L7_run net c_4 FUEL (-1, 0, c_3) (S.FewestJoins_k7 κ)).trans (optC_congr (fun qy_12 => ?_))
      kernel_rfl
  rw [hu]
  exact (S.FewestJoins_tree_nat (fun o => optC o (fun (r : Int) => κ (.int .i64 r) []) none) net (fun d => some d) none).symm
noncomputable def S.FewestJoins_s : D.Spec where
  keep := false
  pure := true
  add := true
  ds := [.int .i64]
  sp := fun args h κ => match args, h with
    | [.ro false (.ints .i64 net)], [] => optC (S.FewestJoins_t net) (fun (r : Int) => κ (.int .i64 r) []) none
    | _, _ => none
theorem S.FewestJoins_ok : SpecOk Try.prog 39 S.FewestJoins_s := by
  refine SpecOk.of TDok mixed (T := S.FewestJoins_T) ?_ (ann := S.FewestJoins_ann) Try.func39 rfl (by decide +kernel) ?_ ?_ ?_ ?_
  · intro p hp
    simp only [S.FewestJoins_T, List.mem_cons, List.not_mem_nil, or_false] at hp
    rcases hp with rfl | rfl | rfl | rfl | rfl | rfl
    · exact S.NetOk_ok
    · exact S.OtherNet_ok
    · exact S.l6Wires_ok
    · exact S.FewestWatch_ok
    · exact S.l1Size_ok
    · exact S.l16Some_ok
  · intro args h κ r hh
    simp only [S.FewestJoins_s] at hh
    split at hh
    · exact (S.FewestJoins_den _ κ).trans hh
    · cases hh
  · intro args h κ r hh
    simp only [S.FewestJoins_s] at hh ⊢
    split at hh
    · exact optC_law2 (F := fun (r : Int) κ => κ (.int .i64 r) []) (fun b κ r hb => ⟨_, _, hb, fun _ => rfl⟩) hh
    · cases hh
  · intro _ args h κ r hh
    simp only [S.FewestJoins_s] at hh
    split at hh
    · exact ⟨rfl, fun _ => rfl⟩
    · cases hh
  · intro _ args h κ r hh
    simp only [S.FewestJoins_s] at hh
    split at hh
    · rfl
    · cases hh

-- loop.example/guardsonnets/laws.FnFewestJoins
noncomputable def L.FnFewestJoins_T : List (Nat × D.Spec) := [(37, S.DrawFewestJoins_s), (38, I.FewestJoins_s), (39, S.FewestJoins_s), (19, I.NetOk_s), (17, L.alive_s), (18, I.FewestWatch_s), (30, I.SeenMost_s)]
def L.FnFewestJoins_ann : Nat → List Nat × List Nat
  | _ => ([], [])
noncomputable def L.FnFewestJoins_F (args : List V) (h : List E) (κ : V → List E → R) : R := funC TD (tableK L.FnFewestJoins_T) L.FnFewestJoins_ann (drawOk TD (tableP L.FnFewestJoins_T)) FUEL Try.f11 args h κ
noncomputable def L.FnFewestJoins_tree {α : Type} (code : List Int) (leaf0_ : Bool → α) (fail_ : α) : α :=
  (bif decide ((↑code.length : Int) > 1048576) then (leaf0_ true) else (optC (S.DrawFewestJoins_t code) (fun c_1 => (optC (I.FewestJoins_t c_1) (fun c_2 => (optC (S.FewestJoins_t c_1) (fun c_3 => (bif !c_2 == c_3 then (leaf0_ false) else (optC (I.NetOk_t c_1) (fun c_4 => (bif !c_4 then (bif c_2 == -1 then (optC (L.alive_t) (fun c_5 => (leaf0_ c_5)) fail_) else (leaf0_ false)) else (optC (I.FewestWatch_t c_1) (fun c_6 => (bif c_6 == 1 then (leaf0_ (c_2 == -1)) else (optC (I.SeenMost_t c_1 (IntKind.i64.wrap (c_6 - 1))) (fun c_7 => (leaf0_ (c_2 == IntKind.i64.wrap ((↑c_1.length : Int) - c_7)))) fail_))) fail_))) fail_))) fail_)) fail_)) fail_))
theorem L.FnFewestJoins_tree_nat {α γ : Type} (g : α → γ) (code : List Int) (leaf0_ : Bool → α) (fail_ : α) : g (L.FnFewestJoins_tree code leaf0_ fail_) = L.FnFewestJoins_tree code (fun d => g (leaf0_ d)) (g fail_) := by
  unfold L.FnFewestJoins_tree; simp only [apply_cnd g, apply_optC g, apply_sumC g]
noncomputable def L.FnFewestJoins_t (code : List Int) : Option (Bool) := L.FnFewestJoins_tree code (fun d => some d) none
theorem L.FnFewestJoins_den (code : List Int) (κ : V → List E → R) : L.FnFewestJoins_F [.ro true (.ints .u8 code)] [] κ = optC (L.FnFewestJoins_t code) (fun (r : Bool) => κ (.bool r) []) none := by
  have hu : L.FnFewestJoins_F [.ro true (.ints .u8 code)] [] κ = L.FnFewestJoins_tree code (fun d => κ (.bool d) []) none := by
    kernel_rfl
  rw [hu]
  exact (L.FnFewestJoins_tree_nat (fun o => optC o (fun (r : Bool) => κ (.bool r) []) none) code (fun d => some d) none).symm
noncomputable def L.FnFewestJoins_s : D.Spec where
  keep := true
  pure := true
  add := true
  ds := [.int .u8]
  sp := fun args h κ => match args, h with
    | [.ro true (.ints .u8 code)], [] => optC (L.FnFewestJoins_t code) (fun (r : Bool) => κ (.bool r) []) none
    | _, _ => none
theorem L.FnFewestJoins_ok : SpecOk Try.prog 11 L.FnFewestJoins_s := by
  refine SpecOk.of TDok mixed (T := L.FnFewestJoins_T) ?_ (ann := L.FnFewestJoins_ann) Try.func11 rfl (by decide +kernel) ?_ ?_ ?_ ?_
  · intro p hp
    simp only [L.FnFewestJoins_T, List.mem_cons, List.not_mem_nil, or_false] at hp
    rcases hp with rfl | rfl | rfl | rfl | rfl | rfl | rfl
    · exact S.DrawFewestJoins_ok
    · exact I.FewestJoins_ok
    · exact S.FewestJoins_ok
    · exact I.NetOk_ok
    · exact L.alive_ok
    · exact I.FewestWatch_ok
    · exact I.SeenMost_ok
  · intro args h κ r hh
    simp only [L.FnFewestJoins_s] at hh
    split at hh
    · exact (L.FnFewestJoins_den _ κ).trans hh
    · cases hh
  · intro args h κ r hh
    simp only [L.FnFewestJoins_s] at hh ⊢
    split at hh
    · exact optC_law2 (F := fun (r : Bool) κ => κ (.bool r) []) (fun b κ r hb => ⟨_, _, hb, fun _ => rfl⟩) hh
    · cases hh
  · intro _ args h κ r hh
    simp only [L.FnFewestJoins_s] at hh
    split at hh
    · exact ⟨rfl, fun _ => rfl⟩
    · cases hh
  · intro _ args h κ r hh
    simp only [L.FnFewestJoins_s] at hh
    split at hh
    · rfl
    · cases hh

-- loop.example/guardsonnets/laws.FnExactFewestJoins
noncomputable def L.FnExactFewestJoins_T : List (Nat × D.Spec) := [(22, L.toIntS_s), (39, S.FewestJoins_s), (38, I.FewestJoins_s), (23, L.eqIntS_s)]
def L.FnExactFewestJoins_ann : Nat → List Nat × List Nat
  | _ => ([], [])
noncomputable def L.FnExactFewestJoins_F (args : List V) (h : List E) (κ : V → List E → R) : R := funC TD (tableK L.FnExactFewestJoins_T) L.FnExactFewestJoins_ann (drawOk TD (tableP L.FnExactFewestJoins_T)) FUEL Try.f12 args h κ
noncomputable def L.FnExactFewestJoins_tree {α : Type} (aNet : List Int) (leaf0_ : Bool → α) (fail_ : α) : α :=
  (bif decide ((↑aNet.length : Int) > 1048576) then (leaf0_ true) else (optC (L.toIntS_t aNet) (fun c_1 => (optC (S.FewestJoins_t c_1) (fun c_2 => (optC (L.toIntS_t aNet) (fun c_3 => (optC (I.FewestJoins_t c_3) (fun c_4 => (bif !c_4 == c_2 then (leaf0_ false) else (optC (L.toIntS_t aNet) (fun c_5 => (optC (L.eqIntS_t c_3 c_5) (fun c_6 => (bif !c_6 then (leaf0_ false) else (leaf0_ true))) fail_)) fail_))) fail_)) fail_)) fail_)) fail_))
theorem L.FnExactFewestJoins_tree_nat {α γ : Type} (g : α → γ) (aNet : List Int) (leaf0_ : Bool → α) (fail_ : α) : g (L.FnExactFewestJoins_tree aNet leaf0_ fail_) = L.FnExactFewestJoins_tree aNet (fun d => g (leaf0_ d)) (g fail_) := by
  unfold L.FnExactFewestJoins_tree; simp only [apply_cnd g, apply_optC g, apply_sumC g]
noncomputable def L.FnExactFewestJoins_t (aNet : List Int) : Option (Bool) := L.FnExactFewestJoins_tree aNet (fun d => some d) none
theorem L.FnExactFewestJoins_den (aNet : List Int) (κ : V → List E → R) : L.FnExactFewestJoins_F [.ro true (.ints .i64 aNet)] [] κ = optC (L.FnExactFewestJoins_t aNet) (fun (r : Bool) => κ (.bool r) []) none := by
  have hu : L.FnExactFewestJoins_F [.ro true (.ints .i64 aNet)] [] κ = L.FnExactFewestJoins_tree aNet (fun d => κ (.bool d) []) none := by
    kernel_rfl
  rw [hu]
  exact (L.FnExactFewestJoins_tree_nat (fun o => optC o (fun (r : Bool) => κ (.bool r) []) none) aNet (fun d => some d) none).symm
noncomputable def L.FnExactFewestJoins_s : D.Spec where
  keep := true
  pure := true
  add := true
  ds := [.int .i64]
  sp := fun args h κ => match args, h with
    | [.ro true (.ints .i64 aNet)], [] => optC (L.FnExactFewestJoins_t aNet) (fun (r : Bool) => κ (.bool r) []) none
    | _, _ => none
theorem L.FnExactFewestJoins_ok : SpecOk Try.prog 12 L.FnExactFewestJoins_s := by
  refine SpecOk.of TDok mixed (T := L.FnExactFewestJoins_T) ?_ (ann := L.FnExactFewestJoins_ann) Try.func12 rfl (by decide +kernel) ?_ ?_ ?_ ?_
  · intro p hp
    simp only [L.FnExactFewestJoins_T, List.mem_cons, List.not_mem_nil, or_false] at hp
    rcases hp with rfl | rfl | rfl | rfl
    · exact L.toIntS_ok
    · exact S.FewestJoins_ok
    · exact I.FewestJoins_ok
    · exact L.eqIntS_ok
  · intro args h κ r hh
    simp only [L.FnExactFewestJoins_s] at hh
    split at hh
    · exact (L.FnExactFewestJoins_den _ κ).trans hh
    · cases hh
  · intro args h κ r hh
    simp only [L.FnExactFewestJoins_s] at hh ⊢
    split at hh
    · exact optC_law2 (F := fun (r : Bool) κ => κ (.bool r) []) (fun b κ r hb => ⟨_, _, hb, fun _ => rfl⟩) hh
    · cases hh
  · intro _ args h κ r hh
    simp only [L.FnExactFewestJoins_s] at hh
    split at hh
    · exact ⟨rfl, fun _ => rfl⟩
    · cases hh
  · intro _ args h κ r hh
    simp only [L.FnExactFewestJoins_s] at hh
    split at hh
    · rfl
    · cases hh


end Go.Proofs.Ytlamfgocbekgpaa
