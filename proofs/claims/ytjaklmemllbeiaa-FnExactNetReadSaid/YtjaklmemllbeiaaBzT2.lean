/- Twins of the translated functions, with their proofs. Conditions: none. -/
import Derived.Test.YtjaklmemllbeiaaBzT1
set_option linter.unusedVariables false
set_option linter.unusedSimpArgs false
set_option linter.unusedSectionVars false
namespace Go.Proofs.Ytjaklmemllbeiaa
open D Go.RowKit
-- loop.example/guardsonnets/spec.l1Digits
noncomputable def S.l1Digits_T : List (Nat × D.Spec) := [(35, S.l1In_s)]
def S.l1Digits_ann : Nat → List Nat × List Nat
  | 5 => ([0, 3, 4], [2, 3])
  | _ => ([], [])
noncomputable def S.l1Digits_F (args : List V) (h : List E) (κ : V → List E → R) : R := funC TD (tableK S.l1Digits_T) S.l1Digits_ann (drawAny TD (tableP S.l1Digits_T)) FUEL Try.f34 args h κ
noncomputable def S.l1Digits_L5 (n : Nat) (σ : St) (k : X → St → R) : R := iterC 0 (fun σ k => denC TD (tableK S.l1Digits_T) S.l1Digits_ann (drawAny TD (tableP S.l1Digits_T)) 0 FUEL ((findLoop 5 (Try.f34.body.getD .skip)).getD .skip) σ k) [0, 3, 4] [2, 3] n σ k
noncomputable def S.l1Digits_k5 (κ : V → List E → R) : X → St → R := (afterC TD (tableK S.l1Digits_T) S.l1Digits_ann (drawAny TD (tableP S.l1Digits_T)) 0 FUEL 5 (Try.f34.body.getD .skip) (finC TD 0 Try.f34 κ)).getD (fun _ _ => none)
noncomputable def S.l1Digits_step5 {α : Type} (x0 : ByteArray) (x3 : Int) (x4 : Int) (next_ : Int × Int → α) (out0_ : Int × Int → α) (out1_ : Int → α) (fail_ : α) : α :=
  (bif decide (x4 < (↑x0.size : Int)) then (bif decide (0 ≤ x4) && decide (x4 < (↑x0.size : Int)) then (bif decide (strAt x0 x4.toNat < 48) then (out0_ (-1, x3)) else (bif decide (0 ≤ x4) && decide (x4 < (↑x0.size : Int)) then (bif decide (strAt x0 x4.toNat > 57) then (out0_ (-1, x3)) else (bif decide (0 ≤ x4) && decide (x4 < (↑x0.size : Int)) then (next_ (IntKind.i64.wrap (IntKind.i64.wrap (10 * x3) + IntKind.i64.wrap (IntKind.u8.wrap (strAt x0 x4.toNat - 48))), IntKind.i64.wrap (x4 + 1))) else fail_)) else fail_)) else fail_) else (out1_ x3))
theorem S.l1Digits_step5_nat {α γ : Type} (g : α → γ) (x0 : ByteArray) (x3 : Int) (x4 : Int) (next_ : Int × Int → α) (out0_ : Int × Int → α) (out1_ : Int → α) (fail_ : α) : g (S.l1Digits_step5 x0 x3 x4 next_ out0_ out1_ fail_) = S.l1Digits_step5 x0 x3 x4 (fun s => g (next_ s)) (fun d => g (out0_ d)) (fun d => g (out1_ d)) (g fail_) := by
  unfold S.l1Digits_step5; simp only [apply_cnd g, apply_optC g, apply_sumC g]
noncomputable def S.l1Digits_run5 (x0 : ByteArray) : Nat → Int × Int → Option ((Int × Int) ⊕ (Int))
  | 0, _ => none
  | n + 1, s_ => S.l1Digits_step5 x0 s_.1 s_.2 (S.l1Digits_run5 x0 n) (fun d => some ((Sum.inl d))) (fun d => some ((Sum.inr d))) none
theorem S.l1Digits_L5_run (x0 : ByteArray) (n : Nat) (s_ : Int × Int) (k : X → St → R) : S.l1Digits_L5 n { n := 44, t := [(0, (.str x0)), (3, (.int .i64 s_.1)), (4, (.int .i64 s_.2))], h := [] } k = optC (S.l1Digits_run5 x0 n s_) (fun (r : (Int × Int) ⊕ (Int)) => (sumC r (fun (r : Int × Int) => k (.ret) { n := 44, t := [(2, (.int .i64 r.1)), (3, (.int .i64 r.2))], h := [] }) (fun (r : Int) => k (.exit 0) { n := 44, t := [(2, .junk), (3, (.int .i64 r))], h := [] }))) none := by
  induction n generalizing s_ with
  | zero => rfl
  | succ n ih =>
    have hu : S.l1Digits_L5 (n + 1) { n := 44, t := [(0, (.str x0)), (3, (.int .i64 s_.1)), (4, (.int .i64 s_.2))], h := [] } k = S.l1Digits_step5 x0 s_.1 s_.2 (fun s_ => S.l1Digits_L5 n { n := 44, t := [(0, (.str x0)), (3, (.int .i64 s_.1)), (4, (.int .i64 s_.2))], h := [] } k) (fun d => k (.ret) { n := 44, t := [(2, (.int .i64 d.1)), (3, (.int .i64 d.2))], h := [] }) (fun d => k (.exit 0) { n := 44, t := [(2, .junk), (3, (.int .i64 d))], h := [] }) none := by
      kernel_rfl
    have hs : (fun s_ : Int × Int => S.l1Digits_L5 n { n := 44, t := [(0, (.str x0)), (3, (.int .i64 s_.1)), (4, (.int .i64 s_.2))], h := [] } k) = fun s_ => optC (S.l1Digits_run5 x0 n s_) (fun (r : (Int × Int) ⊕ (Int)) => (sumC r (fun (r : Int × Int) => k (.ret) { n := 44, t := [(2, (.int .i64 r.1)), (3, (.int .i64 r.2))], h := [] }) (fun (r : Int) => k (.exit 0) { n := 44, t := [(2, .junk), (3, (.int .i64 r))], h := [] }))) none := funext ih
    rw [hu, hs]
    exact (S.l1Digits_step5_nat (fun o => optC o (fun (r : (Int × Int) ⊕ (Int)) => (sumC r (fun (r : Int × Int) => k (.ret) { n := 44, t := [(2, (.int .i64 r.1)), (3, (.int .i64 r.2))], h := [] }) (fun (r : Int) => k (.exit 0) { n := 44, t := [(2, .junk), (3, (.int .i64 r))], h := [] }))) none) x0 s_.1 s_.2 (S.l1Digits_run5 x0 n) (fun d => some ((Sum.inl d))) (fun d => some ((Sum.inr d))) none).symm
noncomputable def S.l1Digits_tree {α : Type} (s_ : ByteArray) (leaf0_ : Int → α) (fail_ : α) : α :=
  (optC (S.l1In_t (↑s_.size : Int) 1 6) (fun c_1 => (bif !c_1 then (leaf0_ (-1)) else (bif decide ((↑s_.size : Int) > 1) then (bif decide (0 < (↑s_.size : Int)) then (bif strAt s_ (Int.toNat 0) == 48 then (leaf0_ (-1)) else (optC (S.l1Digits_run5 s_ FUEL (0, 0)) (fun qy_2 => (sumC qy_2 (fun (qy_2 : Int × Int) => (leaf0_ qy_2.1)) (fun (qy_2 : Int) => (leaf0_ qy_2)))) fail_)) else fail_) else (optC (S.l1Digits_run5 s_ FUEL (0, 0)) (fun qy_3 => (sumC qy_3 (fun (qy_3 : Int × Int) => (leaf0_ qy_3.1)) (fun (qy_3 : Int) => (leaf0_ qy_3)))) fail_)))) fail_)
theorem S.l1Digits_tree_nat {α γ : Type} (g : α → γ) (s_ : ByteArray) (leaf0_ : Int → α) (fail_ : α) : g (S.l1Digits_tree s_ leaf0_ fail_) = S.l1Digits_tree s_ (fun d => g (leaf0_ d)) (g fail_) := by
  unfold S.l1Digits_tree; simp only [apply_cnd g, apply_optC g, apply_sumC g]
noncomputable def S.l1Digits_t (s_ : ByteArray) : Option (Int) := S.l1Digits_tree s_ (fun d => some d) none
theorem S.l1Digits_den (s_ : ByteArray) (κ : V → List E → R) : S.l1Digits_F [.str s_] [] κ = optC (S.l1Digits_t s_) (fun (r : Int) => κ (.int .i64 r) []) none := by
  have hu : S.l1Digits_F [.str s_] [] κ = S.l1Digits_tree s_ (fun d => κ (.int .i64 d) []) none := by
    refine Eq.trans (show S.l1Digits_F [.str s_] [] κ = (optC (S.l1In_t (↑s_.size : Int) 1 6) (fun c_1 => (bif !c_1 then (κ (.int .i64 (-1)) []) else (bif decide ((↑s_.size : Int) > 1) then (bif decide (0 < (↑s_.size : Int)) then (bif strAt s_ (Int.toNat 0) == 48 then (κ (.int .i64 (-1)) []) else (S.l1Digits_L5 FUEL { n := 44, t := [(0, (.str s_)), (3, (.int .i64 0)), (4, (.int .i64 0))], h := [] } (S.l1Digits_k5 κ))) else none) else (S.l1Digits_L5 FUEL { n := 44, t := [(0, (.str s_)), (3, (.int .i64 0)), (4, (.int .i64 0))], h := [] } (S.l1Digits_k5 κ))))) none) by kernel_rfl) ?_
    refine optC_congr (fun c_1 => ?_)
    refine cnd_congr ?_ ?_
    · kernel_rfl
    · refine cnd_congr ?_ ?_
      · refine cnd_congr ?_ ?_
        · refine cnd_congr ?_ ?_
          · kernel_rfl
          · refine (S.l1Digits_L5_run s_ FUEL (0, 0) (S.l1Digits_k5 κ)).trans (optC_congr (fun qy_2 => ?_))
            rcases qy_2 with qy_2 | qy_2
            · kernel_rfl
            · kernel_rfl
        · kernel_rfl
      · refine (S.l1Digits_L5_run s_ FUEL (0, 0) (S.l1Digits_k5 κ)).trans (optC_congr (fun qy_3 => ?_))
        rcases qy_3 with qy_3 | qy_3
        · kernel_rfl
        · kernel_rfl
  rw [hu]
  exact (S.l1Digits_tree_nat (fun o => optC o (fun (r : Int) => κ (.int .i64 r) []) none) s_ (fun d => some d) none).symm
noncomputable def S.l1Digits_s : D.Spec where
  keep := false
  pure := true
  add := true
  ds := [.invalid]
  sp := fun args h κ => match args, h with
    | [.str s_], [] => optC (S.l1Digits_t s_) (fun (r : Int) => κ (.int .i64 r) []) none
    | _, _ => none
theorem S.l1Digits_ok : SpecOk Try.prog 34 S.l1Digits_s := by
  refine SpecOk.of TDok mixed (T := S.l1Digits_T) ?_ (ann := S.l1Digits_ann) Try.func34 rfl (by decide +kernel) ?_ ?_ ?_ ?_
  · intro p hp
    simp only [S.l1Digits_T, List.mem_cons, List.not_mem_nil, or_false] at hp
    rcases hp with rfl
    · exact S.l1In_ok
  · intro args h κ r hh
    simp only [S.l1Digits_s] at hh
    split at hh
    · exact (S.l1Digits_den _ κ).trans hh
    · cases hh
  · intro args h κ r hh
    simp only [S.l1Digits_s] at hh ⊢
    split at hh
    · exact optC_law2 (F := fun (r : Int) κ => κ (.int .i64 r) []) (fun b κ r hb => ⟨_, _, hb, fun _ => rfl⟩) hh
    · cases hh
  · intro _ args h κ r hh
    simp only [S.l1Digits_s] at hh
    split at hh
    · exact ⟨rfl, fun _ => rfl⟩
    · cases hh
  · intro _ args h κ r hh
    simp only [S.l1Digits_s] at hh
    split at hh
    · rfl
    · cases hh

-- loop.example/guardsonnets/spec.NetRead
noncomputable def S.NetRead_T : List (Nat × D.Spec) := [(33, S.l1Cut_s), (34, S.l1Digits_s), (35, S.l1In_s), (9, S.NetText_s)]
def S.NetRead_ann : Nat → List Nat × List Nat
  | 9 => ([0, 4, 5, 6, 7], [0, 2, 3, 6])
  | _ => ([], [])
noncomputable def S.NetRead_F (args : List V) (h : List E) (κ : V → List E → R) : R := funC TD (tableK S.NetRead_T) S.NetRead_ann (drawAny TD (tableP S.NetRead_T)) FUEL Try.f15 args h κ
noncomputable def S.NetRead_L9 (n : Nat) (σ : St) (k : X → St → R) : R := iterC 0 (fun σ k => denC TD (tableK S.NetRead_T) S.NetRead_ann (drawAny TD (tableP S.NetRead_T)) 0 FUEL ((findLoop 9 (Try.f15.body.getD .skip)).getD .skip) σ k) [0, 4, 5, 6, 7] [0, 2, 3, 6] n σ k
noncomputable def S.NetRead_k9 (κ : V → List E → R) : X → St → R := (afterC TD (tableK S.NetRead_T) S.NetRead_ann (drawAny TD (tableP S.NetRead_T)) 0 FUEL 9 (Try.f15.body.getD .skip) (finC TD 0 Try.f15 κ)).getD (fun _ _ => none)
noncomputable def S.NetRead_step9 {α : Type} (x0 : ByteArray) (x5 : Int) (x7 : Int) (r0 : List ByteArray) (r1 : List Int) (next_ : Int × (List ByteArray) × (List Int) → α) (out0_ : Bool × (List Int) × (List Int) → α) (out1_ : List Int → α) (fail_ : α) : α :=
  (bif decide (x7 < (↑r0.length : Int)) then (bif decide (0 ≤ x7) && decide (x7 < (↑r0.length : Int)) then (bif decide (x7.toNat < r0.length) then (optC (S.l1Cut_t (els r0 x7.toNat) 45) (fun c_4 => (bif decide (0 < (↑c_4.length : Int)) then (bif decide (0 < c_4.length) then (optC (S.l1Digits_t (els c_4 0)) (fun c_5 => (bif decide (0 ≤ IntKind.i64.wrap ((↑c_4.length : Int) - 1)) && decide (IntKind.i64.wrap ((↑c_4.length : Int) - 1) < (↑c_4.length : Int)) then (bif decide ((IntKind.i64.wrap ((↑c_4.length : Int) - 1)).toNat < c_4.length) then (optC (S.l1Digits_t (els c_4 (IntKind.i64.wrap ((↑c_4.length : Int) - 1)).toNat)) (fun c_6 => (optC (S.l1In_t c_5 0 (IntKind.i64.wrap (x5 - 1))) (fun c_7 => (bif !c_7 then (out0_ (false, [], r1)) else (optC (S.l1In_t c_6 0 (IntKind.i64.wrap (x5 - 1))) (fun c_8 => (bif !c_8 then (out0_ (false, [], r1)) else (bif decide (0 ≤ c_5) && decide (c_5 < (↑r1.length : Int)) then (bif decide (c_5.toNat < r1.length) then (bif decide (c_6 < 0) then fail_ else (bif decide (0 ≤ c_5) && decide (c_5 < (↑r1.length : Int)) then (bif decide (c_5.toNat < r1.length) then (bif decide (0 ≤ c_6) && decide (c_6 < (↑(r1.set c_5.toNat (bits BinOp.or IntKind.i64 (eli r1 c_5.toNat) (IntKind.i64.wrap (1 * 2 ^ min c_6.toNat IntKind.i64.bits)))).length : Int)) then (bif decide (c_6.toNat < (r1.set c_5.toNat (bits BinOp.or IntKind.i64 (eli r1 c_5.toNat) (IntKind.i64.wrap (1 * 2 ^ min c_6.toNat IntKind.i64.bits)))).length) then (bif decide (c_5 < 0) then fail_ else (bif decide (0 ≤ c_6) && decide (c_6 < (↑(r1.set c_5.toNat (bits BinOp.or IntKind.i64 (eli r1 c_5.toNat) (IntKind.i64.wrap (1 * 2 ^ min c_6.toNat IntKind.i64.bits)))).length : Int)) then (bif decide (c_6.toNat < (r1.set c_5.toNat (bits BinOp.or IntKind.i64 (eli r1 c_5.toNat) (IntKind.i64.wrap (1 * 2 ^ min c_6.toNat IntKind.i64.bits)))).length) then (next_ (IntKind.i64.wrap (x7 + 1), r0, (r1.set c_5.toNat (bits BinOp.or IntKind.i64 (eli r1 c_5.toNat) (IntKind.i64.wrap (1 * 2 ^ min c_6.toNat IntKind.i64.bits)))).set c_6.toNat (bits BinOp.or IntKind.i64 (eli (r1.set c_5.toNat (bits BinOp.or IntKind.i64 (eli r1 c_5.toNat) (IntKind.i64.wrap (1 * 2 ^ min c_6.toNat IntKind.i64.bits)))) c_6.toNat) (IntKind.i64.wrap (1 * 2 ^ min c_5.toNat IntKind.i64.bits))))) else fail_) else fail_)) else fail_) else fail_) else fail_) else fail_)) else fail_) else fail_))) fail_))) fail_)) fail_) else fail_) else fail_)) fail_) else fail_) else fail_)) fail_) else fail_) else fail_) else (out1_ r1))
theorem S.NetRead_step9_nat {α γ : Type} (g : α → γ) (x0 : ByteArray) (x5 : Int) (x7 : Int) (r0 : List ByteArray) (r1 : List Int) (next_ : Int × (List ByteArray) × (List Int) → α) (out0_ : Bool × (List Int) × (List Int) → α) (out1_ : List Int → α) (fail_ : α) : g (S.NetRead_step9 x0 x5 x7 r0 r1 next_ out0_ out1_ fail_) = S.NetRead_step9 x0 x5 x7 r0 r1 (fun s => g (next_ s)) (fun d => g (out0_ d)) (fun d => g (out1_ d)) (g fail_) := by
  unfold S.NetRead_step9; simp only [apply_cnd g, apply_optC g, apply_sumC g]
noncomputable def S.NetRead_run9 (x0 : ByteArray) (x5 : Int) : Nat → Int × (List ByteArray) × (List Int) → Option ((Bool × (List Int) × (List Int)) ⊕ (List Int))
  | 0, _ => none
  | n + 1, s_ => S.NetRead_step9 x0 x5 s_.1 s_.2.1 s_.2.2 (S.NetRead_run9 x0 x5 n) (fun d => some ((Sum.inl d))) (fun d => some ((Sum.inr d))) none
theorem S.NetRead_L9_run (x0 : ByteArray) (x5 : Int) (n : Nat) (s_ : Int × (List ByteArray) × (List Int)) (k : X → St → R) : S.NetRead_L9 n { n := 88, t := [(0, (.str x0)), (4, (.own 0)), (5, (.int .i64 x5)), (6, (.own 1)), (7, (.int .i64 s_.1))], h := [.row (.strs s_.2.1), .row (.ints .i64 s_.2.2)] } k = optC (S.NetRead_run9 x0 x5 n s_) (fun (r : (Bool × (List Int) × (List Int)) ⊕ (List Int)) => (sumC r (fun (r : Bool × (List Int) × (List Int)) => k (.ret) { n := 88, t := [(0, (.str x0)), (2, (.own 0)), (3, (.bool r.1)), (6, (.own 1))], h := [.row (.ints .i64 r.2.1), .row (.ints .i64 r.2.2)] }) (fun (r : List Int) => k (.exit 0) { n := 88, t := [(0, (.str x0)), (2, .junk), (3, .junk), (6, (.own 0))], h := [.row (.ints .i64 r)] }))) none := by
  induction n generalizing s_ with
  | zero => rfl
  | succ n ih =>
    have hu : S.NetRead_L9 (n + 1) { n := 88, t := [(0, (.str x0)), (4, (.own 0)), (5, (.int .i64 x5)), (6, (.own 1)), (7, (.int .i64 s_.1))], h := [.row (.strs s_.2.1), .row (.ints .i64 s_.2.2)] } k = S.NetRead_step9 x0 x5 s_.1 s_.2.1 s_.2.2 (fun s_ => S.NetRead_L9 n { n := 88, t := [(0, (.str x0)), (4, (.own 0)), (5, (.int .i64 x5)), (6, (.own 1)), (7, (.int .i64 s_.1))], h := [.row (.strs s_.2.1), .row (.ints .i64 s_.2.2)] } k) (fun d => k (.ret) { n := 88, t := [(0, (.str x0)), (2, (.own 0)), (3, (.bool d.1)), (6, (.own 1))], h := [.row (.ints .i64 d.2.1), .row (.ints .i64 d.2.2)] }) (fun d => k (.exit 0) { n := 88, t := [(0, (.str x0)), (2, .junk), (3, .junk), (6, (.own 0))], h := [.row (.ints .i64 d)] }) none := by
      kernel_rfl
    have hs : (fun s_ : Int × (List ByteArray) × (List Int) => S.NetRead_L9 n { n := 88, t := [(0, (.str x0)), (4, (.own 0)), (5, (.int .i64 x5)), (6, (.own 1)), (7, (.int .i64 s_.1))], h := [.row (.strs s_.2.1), .row (.ints .i64 s_.2.2)] } k) = fun s_ => optC (S.NetRead_run9 x0 x5 n s_) (fun (r : (Bool × (List Int) × (List Int)) ⊕ (List Int)) => (sumC r (fun (r : Bool × (List Int) × (List Int)) => k (.ret) { n := 88, t := [(0, (.str x0)), (2, (.own 0)), (3, (.bool r.1)), (6, (.own 1))], h := [.row (.ints .i64 r.2.1), .row (.ints .i64 r.2.2)] }) (fun (r : List Int) => k (.exit 0) { n := 88, t := [(0, (.str x0)), (2, .junk), (3, .junk), (6, (.own 0))], h := [.row (.ints .i64 r)] }))) none := funext ih
    rw [hu, hs]
    exact (S.NetRead_step9_nat (fun o => optC o (fun (r : (Bool × (List Int) × (List Int)) ⊕ (List Int)) => (sumC r (fun (r : Bool × (List Int) × (List Int)) => k (.ret) { n := 88, t := [(0, (.str x0)), (2, (.own 0)), (3, (.bool r.1)), (6, (.own 1))], h := [.row (.ints .i64 r.2.1), .row (.ints .i64 r.2.2)] }) (fun (r : List Int) => k (.exit 0) { n := 88, t := [(0, (.str x0)), (2, .junk), (3, .junk), (6, (.own 0))], h := [.row (.ints .i64 r)] }))) none) x0 x5 s_.1 s_.2.1 s_.2.2 (S.NetRead_run9 x0 x5 n) (fun d => some ((Sum.inl d))) (fun d => some ((Sum.inr d))) none).symm
noncomputable def S.NetRead_tree {α : Type} (s_ : ByteArray) (leaf0_ : Bool × (List Int) → α) (fail_ : α) : α :=
  (bif decide ((↑s_.size : Int) > 100) then (leaf0_ (false, [])) else (optC (S.l1Cut_t s_ 32) (fun c_1 => (bif decide (0 < (↑c_1.length : Int)) then (bif decide (0 < c_1.length) then (optC (S.l1Digits_t (els c_1 0)) (fun c_2 => (optC (S.l1In_t c_2 1 6) (fun c_3 => (bif !c_3 then (leaf0_ (false, [])) else (bif decide (0 ≤ c_2) && small c_2.toNat && true then (optC (S.NetRead_run9 s_ c_2 FUEL (1, c_1, List.replicate c_2.toNat 0)) (fun qy_9 => (sumC qy_9 (fun (qy_9 : Bool × (List Int) × (List Int)) => (leaf0_ (qy_9.1, qy_9.2.1))) (fun (qy_9 : List Int) => (optC (S.NetText_t qy_9) (fun c_10 => (bif !strEq c_10 s_ then (leaf0_ (false, [])) else (leaf0_ (true, qy_9)))) fail_)))) fail_) else fail_))) fail_)) fail_) else fail_) else fail_)) fail_))
theorem S.NetRead_tree_nat {α γ : Type} (g : α → γ) (s_ : ByteArray) (leaf0_ : Bool × (List Int) → α) (fail_ : α) : g (S.NetRead_tree s_ leaf0_ fail_) = S.NetRead_tree s_ (fun d => g (leaf0_ d)) (g fail_) := by
  unfold S.NetRead_tree; simp only [apply_cnd g, apply_optC g, apply_sumC g]
noncomputable def S.NetRead_t (s_ : ByteArray) : Option (Bool × (List Int)) := S.NetRead_tree s_ (fun d => some d) none
theorem S.NetRead_den (s_ : ByteArray) (κ : V → List E → R) : S.NetRead_F [.str s_] [] κ = optC (S.NetRead_t s_) (fun (r : Bool × (List Int)) => κ (.tup [(.own 0), (.bool r.1)]) [.row (.ints .i64 r.2)]) none := by
  have hu : S.NetRead_F [.str s_] [] κ = S.NetRead_tree s_ (fun d => κ (.tup [(.own 0), (.bool d.1)]) [.row (.ints .i64 d.2)]) none := by
    refine Eq.trans (show S.NetRead_F [.str s_] [] κ = (bif decide ((↑s_.size : Int) > 100) then (κ (.tup [(.own 0), (.bool false)]) [.row (.ints .i64 ([]))]) else (optC (S.l1Cut_t s_ 32) (fun c_1 => (bif decide (0 < (↑c_1.length : Int)) then (bif decide (0 < c_1.length) then (optC (S.l1Digits_t (els c_1 0)) (fun c_2 => (optC (S.l1In_t c_2 1 6) (fun c_3 => (bif !c_3 then (κ (.tup [(.own 0), (.bool false)]) [.row (.ints .i64 ([]))]) else (bif decide (0 ≤ c_2) && small c_2.toNat && true then (S.NetRead_L9 FUEL { n := 88, t := [(0, (.str s_)), (4, (.own 0)), (5, (.int .i64 c_2)), (6, (.own 1)), (7, (.int .i64 1))], h := [.row (.strs c_1), .row (.ints .i64 (List.replicate c_2.toNat 0))] } (S.NetRead_k9 κ)) else none))) none)) none) else none) else none)) none)) by kernel_rfl) ?_
    refine cnd_congr ?_ ?_
    · kernel_rfl
    · refine optC_congr (fun c_1 => ?_)
      refine cnd_congr ?_ ?_
      · refine cnd_congr ?_ ?_
        · refine optC_congr (fun c_2 => ?_)
          refine optC_congr (fun c_3 => ?_)
          refine cnd_congr ?_ ?_
          · kernel_rfl
          · refine cnd_congr ?_ ?_
            · refine (S.NetRead_L9_run s_ c_2 FUEL (1, c_1, List.replicate c_2.toNat 0) (S.NetRead_k9 κ)).trans (optC_congr (fun qy_9 => ?_))
              rcases qy_9 with qy_9 | qy_9
              · kernel_rfl
              · kernel_rfl
            · kernel_rfl
        · kernel_rfl
      · kernel_rfl
  rw [hu]
  exact (S.NetRead_tree_nat (fun o => optC o (fun (r : Bool × (List Int)) => κ (.tup [(.own 0), (.bool r.1)]) [.row (.ints .i64 r.2)]) none) s_ (fun d => some d) none).symm
noncomputable def S.NetRead_s : D.Spec where
  keep := false
  pure := false
  add := true
  ds := [.invalid]
  sp := fun args h κ => match args, h with
    | [.str s_], [] => optC (S.NetRead_t s_) (fun (r : Bool × (List Int)) => κ (.tup [(.own 0), (.bool r.1)]) [.row (.ints .i64 r.2)]) none
    | _, _ => none
theorem S.NetRead_ok : SpecOk Try.prog 15 S.NetRead_s := by
  refine SpecOk.of TDok mixed (T := S.NetRead_T) ?_ (ann := S.NetRead_ann) Try.func15 rfl (by decide +kernel) ?_ ?_ ?_ ?_
  · intro p hp
    simp only [S.NetRead_T, List.mem_cons, List.not_mem_nil, or_false] at hp
    rcases hp with rfl | rfl | rfl | rfl
    · exact S.l1Cut_ok
    · exact S.l1Digits_ok
    · exact S.l1In_ok
    · exact S.NetText_ok
  · intro args h κ r hh
    simp only [S.NetRead_s] at hh
    split at hh
    · exact (S.NetRead_den _ κ).trans hh
    · cases hh
  · intro args h κ r hh
    simp only [S.NetRead_s] at hh ⊢
    split at hh
    · exact optC_law2 (F := fun (r : Bool × (List Int)) κ => κ (.tup [(.own 0), (.bool r.1)]) [.row (.ints .i64 r.2)]) (fun b κ r hb => ⟨_, _, hb, fun _ => rfl⟩) hh
    · cases hh
  · intro hh; cases hh
  · intro _ args h κ r hh
    simp only [S.NetRead_s] at hh
    split at hh
    · rfl
    · cases hh

-- loop.example/guardsonnets/laws.FnNetRead
noncomputable def L.FnNetRead_T : List (Nat × D.Spec) := [(14, S.DrawNetRead_s), (12, I.NetRead_s), (15, S.NetRead_s), (13, L.sameInts_s), (8, I.NetText_s), (11, L.alive_s)]
def L.FnNetRead_ann : Nat → List Nat × List Nat
  | _ => ([], [])
noncomputable def L.FnNetRead_F (args : List V) (h : List E) (κ : V → List E → R) : R := funC TD (tableK L.FnNetRead_T) L.FnNetRead_ann (drawAny TD (tableP L.FnNetRead_T)) FUEL Try.f4 args h κ
noncomputable def L.FnNetRead_tree {α : Type} (code : List Int) (leaf0_ : Bool → α) (fail_ : α) : α :=
  (bif decide ((↑code.length : Int) > 1048576) then (leaf0_ true) else (optC (S.DrawNetRead_t code) (fun c_1 => (optC (I.NetRead_t c_1) (fun c_2 => (optC (S.NetRead_t c_1) (fun c_3 => (bif !c_2.fst == c_3.fst then (leaf0_ false) else (optC (L.sameInts_t c_2.snd c_3.snd) (fun c_4 => (bif !c_4 then (leaf0_ false) else (bif !c_2.fst then (optC (L.alive_t) (fun c_5 => (leaf0_ c_5)) fail_) else (optC (I.NetText_t c_2.snd) (fun c_6 => (bif strEq c_6 c_1 then (optC (L.alive_t) (fun c_7 => (leaf0_ c_7)) fail_) else (leaf0_ false))) fail_)))) fail_))) fail_)) fail_)) fail_))
theorem L.FnNetRead_tree_nat {α γ : Type} (g : α → γ) (code : List Int) (leaf0_ : Bool → α) (fail_ : α) : g (L.FnNetRead_tree code leaf0_ fail_) = L.FnNetRead_tree code (fun d => g (leaf0_ d)) (g fail_) := by
  unfold L.FnNetRead_tree; simp only [apply_cnd g, apply_optC g, apply_sumC g]
noncomputable def L.FnNetRead_t (code : List Int) : Option (Bool) := L.FnNetRead_tree code (fun d => some d) none
theorem L.FnNetRead_den (code : List Int) (κ : V → List E → R) : L.FnNetRead_F [.ro true (.ints .u8 code)] [] κ = optC (L.FnNetRead_t code) (fun (r : Bool) => κ (.bool r) []) none := by
  have hu : L.FnNetRead_F [.ro true (.ints .u8 code)] [] κ = L.FnNetRead_tree code (fun d => κ (.bool d) []) none := by
    kernel_rfl
  rw [hu]
  exact (L.FnNetRead_tree_nat (fun o => optC o (fun (r : Bool) => κ (.bool r) []) none) code (fun d => some d) none).symm
noncomputable def L.FnNetRead_s : D.Spec where
  keep := true
  pure := true
  add := true
  ds := [.int .u8]
  sp := fun args h κ => match args, h with
    | [.ro true (.ints .u8 code)], [] => optC (L.FnNetRead_t code) (fun (r : Bool) => κ (.bool r) []) none
    | _, _ => none
theorem L.FnNetRead_ok : SpecOk Try.prog 4 L.FnNetRead_s := by
  refine SpecOk.of TDok mixed (T := L.FnNetRead_T) ?_ (ann := L.FnNetRead_ann) Try.func4 rfl (by decide +kernel) ?_ ?_ ?_ ?_
  · intro p hp
    simp only [L.FnNetRead_T, List.mem_cons, List.not_mem_nil, or_false] at hp
    rcases hp with rfl | rfl | rfl | rfl | rfl | rfl
    · exact S.DrawNetRead_ok
    · exact I.NetRead_ok
    · exact S.NetRead_ok
    · exact L.sameInts_ok
    · exact I.NetText_ok
    · exact L.alive_ok
  · intro args h κ r hh
    simp only [L.FnNetRead_s] at hh
    split at hh
    · exact (L.FnNetRead_den _ κ).trans hh
    · cases hh
  · intro args h κ r hh
    simp only [L.FnNetRead_s] at hh ⊢
    split at hh
    · exact optC_law2 (F := fun (r : Bool) κ => κ (.bool r) []) (fun b κ r hb => ⟨_, _, hb, fun _ => rfl⟩) hh
    · cases hh
  · intro _ args h κ r hh
    simp only [L.FnNetRead_s] at hh
    split at hh
    · exact ⟨rfl, fun _ => rfl⟩
    · cases hh
  · intro _ args h κ r hh
    simp only [L.FnNetRead_s] at hh
    split at hh
    · rfl
    · cases hh

-- loop.example/guardsonnets/laws.toIntS
noncomputable def L.toIntS_T : List (Nat × D.Spec) := []
def L.toIntS_ann : Nat → List Nat × List Nat
  | 3 => ([0, 3, 4], [3])
  | _ => ([], [])
noncomputable def L.toIntS_F (args : List V) (h : List E) (κ : V → List E → R) : R := funC TD (tableK L.toIntS_T) L.toIntS_ann (drawAny TD (tableP L.toIntS_T)) FUEL Try.f16 args h κ
noncomputable def L.toIntS_L3 (n : Nat) (σ : St) (k : X → St → R) : R := iterC 0 (fun σ k => denC TD (tableK L.toIntS_T) L.toIntS_ann (drawAny TD (tableP L.toIntS_T)) 0 FUEL ((findLoop 3 (Try.f16.body.getD .skip)).getD .skip) σ k) [0, 3, 4] [3] n σ k
noncomputable def L.toIntS_k3 (κ : V → List E → R) : X → St → R := (afterC TD (tableK L.toIntS_T) L.toIntS_ann (drawAny TD (tableP L.toIntS_T)) 0 FUEL 3 (Try.f16.body.getD .skip) (finC TD 0 Try.f16 κ)).getD (fun _ _ => none)
noncomputable def L.toIntS_step3 {α : Type} (x0 : List Int) (x4 : Int) (r0 : List Int) (next_ : Int × (List Int) → α) (out0_ : List Int → α) (fail_ : α) : α :=
  (bif decide (x4 < (↑x0.length : Int)) then (bif decide (0 ≤ x4) && decide (x4 < (↑x0.length : Int)) then (bif decide (0 ≤ x4) && decide (x4 < (↑r0.length : Int)) then (bif decide (x4.toNat < r0.length) then (next_ (IntKind.i64.wrap (x4 + 1), r0.set x4.toNat (eli x0 x4.toNat))) else fail_) else fail_) else fail_) else (out0_ r0))
theorem L.toIntS_step3_nat {α γ : Type} (g : α → γ) (x0 : List Int) (x4 : Int) (r0 : List Int) (next_ : Int × (List Int) → α) (out0_ : List Int → α) (fail_ : α) : g (L.toIntS_step3 x0 x4 r0 next_ out0_ fail_) = L.toIntS_step3 x0 x4 r0 (fun s => g (next_ s)) (fun d => g (out0_ d)) (g fail_) := by
  unfold L.toIntS_step3; simp only [apply_cnd g, apply_optC g, apply_sumC g]
noncomputable def L.toIntS_run3 (x0 : List Int) : Nat → Int × (List Int) → Option (List Int)
  | 0, _ => none
  | n + 1, s_ => L.toIntS_step3 x0 s_.1 s_.2 (L.toIntS_run3 x0 n) (fun d => some d) none
theorem L.toIntS_L3_run (x0 : List Int) (n : Nat) (s_ : Int × (List Int)) (k : X → St → R) : L.toIntS_L3 n { n := 22, t := [(0, (.ro false (.ints .i64 x0))), (3, (.own 0)), (4, (.int .i64 s_.1))], h := [.row (.ints .i64 s_.2)] } k = optC (L.toIntS_run3 x0 n s_) (fun (r : List Int) => k (.exit 0) { n := 22, t := [(3, (.own 0))], h := [.row (.ints .i64 r)] }) none := by
  induction n generalizing s_ with
  | zero => rfl
  | succ n ih =>
    have hu : L.toIntS_L3 (n + 1) { n := 22, t := [(0, (.ro false (.ints .i64 x0))), (3, (.own 0)), (4, (.int .i64 s_.1))], h := [.row (.ints .i64 s_.2)] } k = L.toIntS_step3 x0 s_.1 s_.2 (fun s_ => L.toIntS_L3 n { n := 22, t := [(0, (.ro false (.ints .i64 x0))), (3, (.own 0)), (4, (.int .i64 s_.1))], h := [.row (.ints .i64 s_.2)] } k) (fun d => k (.exit 0) { n := 22, t := [(3, (.own 0))], h := [.row (.ints .i64 d)] }) none := by
      kernel_rfl
    have hs : (fun s_ : Int × (List Int) => L.toIntS_L3 n { n := 22, t := [(0, (.ro false (.ints .i64 x0))), (3, (.own 0)), (4, (.int .i64 s_.1))], h := [.row (.ints .i64 s_.2)] } k) = fun s_ => optC (L.toIntS_run3 x0 n s_) (fun (r : List Int) => k (.exit 0) { n := 22, t := [(3, (.own 0))], h := [.row (.ints .i64 r)] }) none := funext ih
    rw [hu, hs]
    exact (L.toIntS_step3_nat (fun o => optC o (fun (r : List Int) => k (.exit 0) { n := 22, t := [(3, (.own 0))], h := [.row (.ints .i64 r)] }) none) x0 s_.1 s_.2 (L.toIntS_run3 x0 n) (fun d => some d) none).symm
noncomputable def L.toIntS_tree {α : Type} (a : List Int) (leaf0_ : List Int → α) (fail_ : α) : α :=
  (bif small (↑a.length : Int).toNat && true then (optC (L.toIntS_run3 a FUEL (0, List.replicate (↑a.length : Int).toNat 0)) (fun qy_1 => (leaf0_ qy_1)) fail_) else fail_)
theorem L.toIntS_tree_nat {α γ : Type} (g : α → γ) (a : List Int) (leaf0_ : List Int → α) (fail_ : α) : g (L.toIntS_tree a leaf0_ fail_) = L.toIntS_tree a (fun d => g (leaf0_ d)) (g fail_) := by
  unfold L.toIntS_tree; simp only [apply_cnd g, apply_optC g, apply_sumC g]
noncomputable def L.toIntS_t (a : List Int) : Option (List Int) := L.toIntS_tree a (fun d => some d) none
theorem L.toIntS_den (a : List Int) (κ : V → List E → R) : L.toIntS_F [.ro false (.ints .i64 a)] [] κ = optC (L.toIntS_t a) (fun (r : List Int) => κ (.own 0) [.row (.ints .i64 r)]) none := by
  have hu : L.toIntS_F [.ro false (.ints .i64 a)] [] κ = L.toIntS_tree a (fun d => κ (.own 0) [.row (.ints .i64 d)]) none := by
    refine Eq.trans (show L.toIntS_F [.ro false (.ints .i64 a)] [] κ = (bif small (↑a.length : Int).toNat && true then (L.toIntS_L3 FUEL { n := 22, t := [(0, (.ro false (.ints .i64 a))), (3, (.own 0)), (4, (.int .i64 0))], h := [.row (.ints .i64 (List.replicate (↑a.length : Int).toNat 0))] } (L.toIntS_k3 κ)) else none) by kernel_rfl) ?_
    refine cnd_congr ?_ ?_
    · refine (L.toIntS_L3_run a FUEL (0, List.replicate (↑a.length : Int).toNat 0) (L.toIntS_k3 κ)).trans (optC_congr (fun qy_1 => ?_))
      kernel_rfl
    · kernel_rfl
  rw [hu]
  exact (L.toIntS_tree_nat (fun o => optC o (fun (r : List Int) => κ (.own 0) [.row (.ints .i64 r)]) none) a (fun d => some d) none).symm
noncomputable def L.toIntS_s : D.Spec where
  keep := false
  pure := false
  add := true
  ds := [.int .i64]
  sp := fun args h κ => match args, h with
    | [.ro false (.ints .i64 a)], [] => optC (L.toIntS_t a) (fun (r : List Int) => κ (.own 0) [.row (.ints .i64 r)]) none
    | _, _ => none
theorem L.toIntS_ok : SpecOk Try.prog 16 L.toIntS_s := by
  refine SpecOk.of TDok mixed (T := L.toIntS_T) ?_ (ann := L.toIntS_ann) Try.func16 rfl (by decide +kernel) ?_ ?_ ?_ ?_
  · intro p hp; cases hp
  · intro args h κ r hh
    simp only [L.toIntS_s] at hh
    split at hh
    · exact (L.toIntS_den _ κ).trans hh
    · cases hh
  · intro args h κ r hh
    simp only [L.toIntS_s] at hh ⊢
    split at hh
    · exact optC_law2 (F := fun (r : List Int) κ => κ (.own 0) [.row (.ints .i64 r)]) (fun b κ r hb => ⟨_, _, hb, fun _ => rfl⟩) hh
    · cases hh
  · intro hh; cases hh
  · intro _ args h κ r hh
    simp only [L.toIntS_s] at hh
    split at hh
    · rfl
    · cases hh

-- loop.example/guardsonnets/laws.eqIntS
noncomputable def L.eqIntS_T : List (Nat × D.Spec) := []
def L.eqIntS_ann : Nat → List Nat × List Nat
  | 4 => ([0, 1, 5], [4])
  | _ => ([], [])
noncomputable def L.eqIntS_F (args : List V) (h : List E) (κ : V → List E → R) : R := funC TD (tableK L.eqIntS_T) L.eqIntS_ann (drawAny TD (tableP L.eqIntS_T)) FUEL Try.f17 args h κ
noncomputable def L.eqIntS_L4 (n : Nat) (σ : St) (k : X → St → R) : R := iterC 0 (fun σ k => denC TD (tableK L.eqIntS_T) L.eqIntS_ann (drawAny TD (tableP L.eqIntS_T)) 0 FUEL ((findLoop 4 (Try.f17.body.getD .skip)).getD .skip) σ k) [0, 1, 5] [4] n σ k
noncomputable def L.eqIntS_k4 (κ : V → List E → R) : X → St → R := (afterC TD (tableK L.eqIntS_T) L.eqIntS_ann (drawAny TD (tableP L.eqIntS_T)) 0 FUEL 4 (Try.f17.body.getD .skip) (finC TD 0 Try.f17 κ)).getD (fun _ _ => none)
noncomputable def L.eqIntS_step4 {α : Type} (x0 : List Int) (x1 : List Int) (x5 : Int) (next_ : Int → α) (out0_ : Bool → α) (out1_ : Unit → α) (fail_ : α) : α :=
  (bif decide (x5 < (↑x0.length : Int)) then (bif decide (0 ≤ x5) && decide (x5 < (↑x0.length : Int)) then (bif decide (0 ≤ x5) && decide (x5 < (↑x1.length : Int)) then (bif !eli x0 x5.toNat == eli x1 x5.toNat then (out0_ false) else (next_ (IntKind.i64.wrap (x5 + 1)))) else fail_) else fail_) else (out1_ ()))
theorem L.eqIntS_step4_nat {α γ : Type} (g : α → γ) (x0 : List Int) (x1 : List Int) (x5 : Int) (next_ : Int → α) (out0_ : Bool → α) (out1_ : Unit → α) (fail_ : α) : g (L.eqIntS_step4 x0 x1 x5 next_ out0_ out1_ fail_) = L.eqIntS_step4 x0 x1 x5 (fun s => g (next_ s)) (fun d => g (out0_ d)) (fun d => g (out1_ d)) (g fail_) := by
  unfold L.eqIntS_step4; simp only [apply_cnd g, apply_optC g, apply_sumC g]
noncomputable def L.eqIntS_run4 (x0 : List Int) (x1 : List Int) : Nat → Int → Option ((Bool) ⊕ (Unit))
  | 0, _ => none
  | n + 1, s_ => L.eqIntS_step4 x0 x1 s_ (L.eqIntS_run4 x0 x1 n) (fun d => some ((Sum.inl d))) (fun d => some ((Sum.inr d))) none
theorem L.eqIntS_L4_run (x0 : List Int) (x1 : List Int) (n : Nat) (s_ : Int) (k : X → St → R) : L.eqIntS_L4 n { n := 26, t := [(0, (.ro false (.ints .i64 x0))), (1, (.ro false (.ints .i64 x1))), (5, (.int .i64 s_))], h := [] } k = optC (L.eqIntS_run4 x0 x1 n s_) (fun (r : (Bool) ⊕ (Unit)) => (sumC r (fun (r : Bool) => k (.ret) { n := 26, t := [(4, (.bool r))], h := [] }) (fun (r : Unit) => k (.exit 0) { n := 26, t := [(4, .junk)], h := [] }))) none := by
  induction n generalizing s_ with
  | zero => rfl
  | succ n ih =>
    have hu : L.eqIntS_L4 (n + 1) { n := 26, t := [(0, (.ro false (.ints .i64 x0))), (1, (.ro false (.ints .i64 x1))), (5, (.int .i64 s_))], h := [] } k = L.eqIntS_step4 x0 x1 s_ (fun s_ => L.eqIntS_L4 n { n := 26, t := [(0, (.ro false (.ints .i64 x0))), (1, (.ro false (.ints .i64 x1))), (5, (.int .i64 s_))], h := [] } k) (fun d => k (.ret) { n := 26, t := [(4, (.bool d))], h := [] }) (fun d => k (.exit 0) { n := 26, t := [(4, .junk)], h := [] }) none := by
      kernel_rfl
    have hs : (fun s_ : Int => L.eqIntS_L4 n { n := 26, t := [(0, (.ro false (.ints .i64 x0))), (1, (.ro false (.ints .i64 x1))), (5, (.int .i64 s_))], h := [] } k) = fun s_ => optC (L.eqIntS_run4 x0 x1 n s_) (fun (r : (Bool) ⊕ (Unit)) => (sumC r (fun (r : Bool) => k (.ret) { n := 26, t := [(4, (.bool r))], h := [] }) (fun (r : Unit) => k (.exit 0) { n := 26, t := [(4, .junk)], h := [] }))) none := funext ih
    rw [hu, hs]
    exact (L.eqIntS_step4_nat (fun o => optC o (fun (r : (Bool) ⊕ (Unit)) => (sumC r (fun (r : Bool) => k (.ret) { n := 26, t := [(4, (.bool r))], h := [] }) (fun (r : Unit) => k (.exit 0) { n := 26, t := [(4, .junk)], h := [] }))) none) x0 x1 s_ (L.eqIntS_run4 x0 x1 n) (fun d => some ((Sum.inl d))) (fun d => some ((Sum.inr d))) none).symm
noncomputable def L.eqIntS_tree {α : Type} (a : List Int) (b_ : List Int) (leaf0_ : Bool → α) (fail_ : α) : α :=
  (bif !(↑a.length : Int) == (↑b_.length : Int) then (leaf0_ false) else (optC (L.eqIntS_run4 a b_ FUEL 0) (fun qy_1 => (sumC qy_1 (fun (qy_1 : Bool) => (leaf0_ qy_1)) (fun (qy_1 : Unit) => (leaf0_ true)))) fail_))
theorem L.eqIntS_tree_nat {α γ : Type} (g : α → γ) (a : List Int) (b_ : List Int) (leaf0_ : Bool → α) (fail_ : α) : g (L.eqIntS_tree a b_ leaf0_ fail_) = L.eqIntS_tree a b_ (fun d => g (leaf0_ d)) (g fail_) := by
  unfold L.eqIntS_tree; simp only [apply_cnd g, apply_optC g, apply_sumC g]
noncomputable def L.eqIntS_t (a : List Int) (b_ : List Int) : Option (Bool) := L.eqIntS_tree a b_ (fun d => some d) none
theorem L.eqIntS_den (a : List Int) (b_ : List Int) (κ : V → List E → R) : L.eqIntS_F [.ro false (.ints .i64 a), .ro false (.ints .i64 b_)] [] κ = optC (L.eqIntS_t a b_) (fun (r : Bool) => κ (.bool r) []) none := by
  have hu : L.eqIntS_F [.ro false (.ints .i64 a), .ro false (.ints .i64 b_)] [] κ = L.eqIntS_tree a b_ (fun d => κ (.bool d) []) none := by
    refine Eq.trans (show L.eqIntS_F [.ro false (.ints .i64 a), .ro false (.ints .i64 b_)] [] κ = (bif !(↑a.length : Int) == (↑b_.length : Int) then (κ (.bool false) []) else (L.eqIntS_L4 FUEL { n := 26, t := [(0, (.ro false (.ints .i64 a))), (1, (.ro false (.ints .i64 b_))), (5, (.int .i64 0))], h := [] } (L.eqIntS_k4 κ))) by kernel_rfl) ?_
    refine cnd_congr ?_ ?_
    · kernel_rfl
    · refine (L.eqIntS_L4_run a b_ FUEL 0 (L.eqIntS_k4 κ)).trans (optC_congr (fun qy_1 => ?_))
      rcases qy_1 with qy_1 | qy_1
      · kernel_rfl
      · kernel_rfl
  rw [hu]
  exact (L.eqIntS_tree_nat (fun o => optC o (fun (r : Bool) => κ (.bool r) []) none) a b_ (fun d => some d) none).symm
noncomputable def L.eqIntS_s : D.Spec where
  keep := false
  pure := true
  add := true
  ds := [.int .i64, .int .i64]
  sp := fun args h κ => match args, h with
    | [.ro false (.ints .i64 a), .ro false (.ints .i64 b_)], [] => optC (L.eqIntS_t a b_) (fun (r : Bool) => κ (.bool r) []) none
    | _, _ => none
theorem L.eqIntS_ok : SpecOk Try.prog 17 L.eqIntS_s := by
  refine SpecOk.of TDok mixed (T := L.eqIntS_T) ?_ (ann := L.eqIntS_ann) Try.func17 rfl (by decide +kernel) ?_ ?_ ?_ ?_
  · intro p hp; cases hp
  · intro args h κ r hh
    simp only [L.eqIntS_s] at hh
    split at hh
    · exact (L.eqIntS_den _ _ κ).trans hh
    · cases hh
  · intro args h κ r hh
    simp only [L.eqIntS_s] at hh ⊢
    split at hh
    · exact optC_law2 (F := fun (r : Bool) κ => κ (.bool r) []) (fun b κ r hb => ⟨_, _, hb, fun _ => rfl⟩) hh
    · cases hh
  · intro _ args h κ r hh
    simp only [L.eqIntS_s] at hh
    split at hh
    · exact ⟨rfl, fun _ => rfl⟩
    · cases hh
  · intro _ args h κ r hh
    simp only [L.eqIntS_s] at hh
    split at hh
    · rfl
    · cases hh

-- loop.example/guardsonnets/laws.FnExactNetText
noncomputable def L.FnExactNetText_T : List (Nat × D.Spec) := [(16, L.toIntS_s), (9, S.NetText_s), (8, I.NetText_s), (17, L.eqIntS_s)]
def L.FnExactNetText_ann : Nat → List Nat × List Nat
  | _ => ([], [])
noncomputable def L.FnExactNetText_F (args : List V) (h : List E) (κ : V → List E → R) : R := funC TD (tableK L.FnExactNetText_T) L.FnExactNetText_ann (drawAny TD (tableP L.FnExactNetText_T)) FUEL Try.f5 args h κ
noncomputable def L.FnExactNetText_tree {α : Type} (aNet : List Int) (leaf0_ : Bool → α) (fail_ : α) : α :=
  (bif decide ((↑aNet.length : Int) > 1048576) then (leaf0_ true) else (optC (L.toIntS_t aNet) (fun c_1 => (optC (S.NetText_t c_1) (fun c_2 => (optC (L.toIntS_t aNet) (fun c_3 => (optC (I.NetText_t c_3) (fun c_4 => (bif !strEq c_4 c_2 then (leaf0_ false) else (optC (L.toIntS_t aNet) (fun c_5 => (optC (L.eqIntS_t c_3 c_5) (fun c_6 => (bif !c_6 then (leaf0_ false) else (leaf0_ true))) fail_)) fail_))) fail_)) fail_)) fail_)) fail_))
theorem L.FnExactNetText_tree_nat {α γ : Type} (g : α → γ) (aNet : List Int) (leaf0_ : Bool → α) (fail_ : α) : g (L.FnExactNetText_tree aNet leaf0_ fail_) = L.FnExactNetText_tree aNet (fun d => g (leaf0_ d)) (g fail_) := by
  unfold L.FnExactNetText_tree; simp only [apply_cnd g, apply_optC g, apply_sumC g]
noncomputable def L.FnExactNetText_t (aNet : List Int) : Option (Bool) := L.FnExactNetText_tree aNet (fun d => some d) none
theorem L.FnExactNetText_den (aNet : List Int) (κ : V → List E → R) : L.FnExactNetText_F [.ro true (.ints .i64 aNet)] [] κ = optC (L.FnExactNetText_t aNet) (fun (r : Bool) => κ (.bool r) []) none := by
  have hu : L.FnExactNetText_F [.ro true (.ints .i64 aNet)] [] κ = L.FnExactNetText_tree aNet (fun d => κ (.bool d) []) none := by
    kernel_rfl
  rw [hu]
  exact (L.FnExactNetText_tree_nat (fun o => optC o (fun (r : Bool) => κ (.bool r) []) none) aNet (fun d => some d) none).symm
noncomputable def L.FnExactNetText_s : D.Spec where
  keep := true
  pure := true
  add := true
  ds := [.int .i64]
  sp := fun args h κ => match args, h with
    | [.ro true (.ints .i64 aNet)], [] => optC (L.FnExactNetText_t aNet) (fun (r : Bool) => κ (.bool r) []) none
    | _, _ => none
theorem L.FnExactNetText_ok : SpecOk Try.prog 5 L.FnExactNetText_s := by
  refine SpecOk.of TDok mixed (T := L.FnExactNetText_T) ?_ (ann := L.FnExactNetText_ann) Try.func5 rfl (by decide +kernel) ?_ ?_ ?_ ?_
  · intro p hp
    simp only [L.FnExactNetText_T, List.mem_cons, List.not_mem_nil, or_false] at hp
    rcases hp with rfl | rfl | rfl | rfl
    · exact L.toIntS_ok
    · exact S.NetText_ok
    · exact I.NetText_ok
    · exact L.eqIntS_ok
  · intro args h κ r hh
    simp only [L.FnExactNetText_s] at hh
    split at hh
    · exact (L.FnExactNetText_den _ κ).trans hh
    · cases hh
  · intro args h κ r hh
    simp only [L.FnExactNetText_s] at hh ⊢
    split at hh
    · exact optC_law2 (F := fun (r : Bool) κ => κ (.bool r) []) (fun b κ r hb => ⟨_, _, hb, fun _ => rfl⟩) hh
    · cases hh
  · intro _ args h κ r hh
    simp only [L.FnExactNetText_s] at hh
    split at hh
    · exact ⟨rfl, fun _ => rfl⟩
    · cases hh
  · intro _ args h κ r hh
    simp only [L.FnExactNetText_s] at hh
    split at hh
    · rfl
    · cases hh

-- loop.example/guardsonnets/laws.markIntS
noncomputable def L.markIntS_T : List (Nat × D.Spec) := []
def L.markIntS_ann : Nat → List Nat × List Nat
  | 2 => ([0, 1, 5], [1])
  | _ => ([], [])
noncomputable def L.markIntS_F (args : List V) (h : List E) (κ : V → List E → R) : R := funC TD (tableK L.markIntS_T) L.markIntS_ann (drawAny TD (tableP L.markIntS_T)) FUEL Try.f18 args h κ
noncomputable def L.markIntS_L2 (n : Nat) (σ : St) (k : X → St → R) : R := iterC 1 (fun σ k => denC TD (tableK L.markIntS_T) L.markIntS_ann (drawAny TD (tableP L.markIntS_T)) 1 FUEL ((findLoop 2 (Try.f18.body.getD .skip)).getD .skip) σ k) [0, 1, 5] [1] n σ k
noncomputable def L.markIntS_k2 (κ : V → List E → R) : X → St → R := (afterC TD (tableK L.markIntS_T) L.markIntS_ann (drawAny TD (tableP L.markIntS_T)) 1 FUEL 2 (Try.f18.body.getD .skip) (finC TD 1 Try.f18 κ)).getD (fun _ _ => none)
noncomputable def L.markIntS_step2 {α : Type} (x1 : Int) (x5 : Int) (r0 : List Int) (next_ : Int × Int × (List Int) → α) (out0_ : Int × (List Int) → α) (fail_ : α) : α :=
  (bif decide (x5 < (↑r0.length : Int)) then (bif decide (0 ≤ x5) && decide (x5 < (↑r0.length : Int)) then (bif decide (x5.toNat < r0.length) then (next_ (IntKind.i64.wrap (x1 + 1), IntKind.i64.wrap (x5 + 1), r0.set x5.toNat x1)) else fail_) else fail_) else (out0_ (x1, r0)))
theorem L.markIntS_step2_nat {α γ : Type} (g : α → γ) (x1 : Int) (x5 : Int) (r0 : List Int) (next_ : Int × Int × (List Int) → α) (out0_ : Int × (List Int) → α) (fail_ : α) : g (L.markIntS_step2 x1 x5 r0 next_ out0_ fail_) = L.markIntS_step2 x1 x5 r0 (fun s => g (next_ s)) (fun d => g (out0_ d)) (g fail_) := by
  unfold L.markIntS_step2; simp only [apply_cnd g, apply_optC g, apply_sumC g]
noncomputable def L.markIntS_run2 : Nat → Int × Int × (List Int) → Option (Int × (List Int))
  | 0, _ => none
  | n + 1, s_ => L.markIntS_step2 s_.1 s_.2.1 s_.2.2 (L.markIntS_run2 n) (fun d => some d) none
theorem L.markIntS_L2_run (n : Nat) (s_ : Int × Int × (List Int)) (k : X → St → R) : L.markIntS_L2 n { n := 19, t := [(0, (.own 0)), (1, (.int .i64 s_.1)), (5, (.int .i64 s_.2.1))], h := [.row (.ints .i64 s_.2.2)] } k = optC (L.markIntS_run2 n s_) (fun (r : Int × (List Int)) => k (.exit 0) { n := 19, t := [(1, (.int .i64 r.1))], h := [.row (.ints .i64 r.2)] }) none := by
  induction n generalizing s_ with
  | zero => rfl
  | succ n ih =>
    have hu : L.markIntS_L2 (n + 1) { n := 19, t := [(0, (.own 0)), (1, (.int .i64 s_.1)), (5, (.int .i64 s_.2.1))], h := [.row (.ints .i64 s_.2.2)] } k = L.markIntS_step2 s_.1 s_.2.1 s_.2.2 (fun s_ => L.markIntS_L2 n { n := 19, t := [(0, (.own 0)), (1, (.int .i64 s_.1)), (5, (.int .i64 s_.2.1))], h := [.row (.ints .i64 s_.2.2)] } k) (fun d => k (.exit 0) { n := 19, t := [(1, (.int .i64 d.1))], h := [.row (.ints .i64 d.2)] }) none := by
      kernel_rfl
    have hs : (fun s_ : Int × Int × (List Int) => L.markIntS_L2 n { n := 19, t := [(0, (.own 0)), (1, (.int .i64 s_.1)), (5, (.int .i64 s_.2.1))], h := [.row (.ints .i64 s_.2.2)] } k) = fun s_ => optC (L.markIntS_run2 n s_) (fun (r : Int × (List Int)) => k (.exit 0) { n := 19, t := [(1, (.int .i64 r.1))], h := [.row (.ints .i64 r.2)] }) none := funext ih
    rw [hu, hs]
    exact (L.markIntS_step2_nat (fun o => optC o (fun (r : Int × (List Int)) => k (.exit 0) { n := 19, t := [(1, (.int .i64 r.1))], h := [.row (.ints .i64 r.2)] }) none) s_.1 s_.2.1 s_.2.2 (L.markIntS_run2 n) (fun d => some d) none).symm
noncomputable def L.markIntS_tree {α : Type} (a : List Int) (k_ : Int) (leaf0_ : Int × (List Int) → α) (fail_ : α) : α :=
  (optC (L.markIntS_run2 FUEL (k_, 0, a)) (fun qy_1 => (leaf0_ (qy_1.1, qy_1.2))) fail_)
theorem L.markIntS_tree_nat {α γ : Type} (g : α → γ) (a : List Int) (k_ : Int) (leaf0_ : Int × (List Int) → α) (fail_ : α) : g (L.markIntS_tree a k_ leaf0_ fail_) = L.markIntS_tree a k_ (fun d => g (leaf0_ d)) (g fail_) := by
  unfold L.markIntS_tree; simp only [apply_cnd g, apply_optC g, apply_sumC g]
noncomputable def L.markIntS_t (a : List Int) (k_ : Int) : Option (Int × (List Int)) := L.markIntS_tree a k_ (fun d => some d) none
theorem L.markIntS_den (a : List Int) (k_ : Int) (κ : V → List E → R) : L.markIntS_F [.own 0, .int .i64 k_] [.row (.ints .i64 a)] κ = optC (L.markIntS_t a k_) (fun (r : Int × (List Int)) => κ (.int .i64 r.1) [.row (.ints .i64 r.2)]) none := by
  have hu : L.markIntS_F [.own 0, .int .i64 k_] [.row (.ints .i64 a)] κ = L.markIntS_tree a k_ (fun d => κ (.int .i64 d.1) [.row (.ints .i64 d.2)]) none := by
    refine Eq.trans (show L.markIntS_F [.own 0, .int .i64 k_] [.row (.ints .i64 a)] κ = (L.markIntS_L2 FUEL { n := 19, t := [(0, (.own 0)), (1, (.int .i64 k_)), (5, (.int .i64 0))], h := [.row (.ints .i64 a)] } (L.markIntS_k2 κ)) by kernel_rfl) ?_
    refine (L.markIntS_L2_run FUEL (k_, 0, a) (L.markIntS_k2 κ)).trans (optC_congr (fun qy_1 => ?_))
    kernel_rfl
  rw [hu]
  exact (L.markIntS_tree_nat (fun o => optC o (fun (r : Int × (List Int)) => κ (.int .i64 r.1) [.row (.ints .i64 r.2)]) none) a k_ (fun d => some d) none).symm
noncomputable def L.markIntS_s : D.Spec where
  keep := false
  pure := false
  add := false
  ds := [.pointer 0, .invalid]
  sp := fun args h κ => match args, h with
    | [.own 0, .int .i64 k_], [.row (.ints .i64 a)] => optC (L.markIntS_t a k_) (fun (r : Int × (List Int)) => κ (.int .i64 r.1) [.row (.ints .i64 r.2)]) none
    | _, _ => none
theorem L.markIntS_ok : SpecOk Try.prog 18 L.markIntS_s := by
  refine SpecOk.of TDok mixed (T := L.markIntS_T) ?_ (ann := L.markIntS_ann) Try.func18 rfl (by decide +kernel) ?_ ?_ ?_ ?_
  · intro p hp; cases hp
  · intro args h κ r hh
    simp only [L.markIntS_s] at hh
    split at hh
    · exact (L.markIntS_den _ _ κ).trans hh
    · cases hh
  · intro args h κ r hh
    simp only [L.markIntS_s] at hh ⊢
    split at hh
    · exact optC_law2 (F := fun (r : Int × (List Int)) κ => κ (.int .i64 r.1) [.row (.ints .i64 r.2)]) (fun b κ r hb => ⟨_, _, hb, fun _ => rfl⟩) hh
    · cases hh
  · intro hh; cases hh
  · intro hh; cases hh

-- loop.example/guardsonnets/laws.heldIntS
noncomputable def L.heldIntS_T : List (Nat × D.Spec) := []
def L.heldIntS_ann : Nat → List Nat × List Nat
  | 2 => ([0, 1, 5], [1, 4])
  | _ => ([], [])
noncomputable def L.heldIntS_F (args : List V) (h : List E) (κ : V → List E → R) : R := funC TD (tableK L.heldIntS_T) L.heldIntS_ann (drawAny TD (tableP L.heldIntS_T)) FUEL Try.f19 args h κ
noncomputable def L.heldIntS_L2 (n : Nat) (σ : St) (k : X → St → R) : R := iterC 0 (fun σ k => denC TD (tableK L.heldIntS_T) L.heldIntS_ann (drawAny TD (tableP L.heldIntS_T)) 0 FUEL ((findLoop 2 (Try.f19.body.getD .skip)).getD .skip) σ k) [0, 1, 5] [1, 4] n σ k
noncomputable def L.heldIntS_k2 (κ : V → List E → R) : X → St → R := (afterC TD (tableK L.heldIntS_T) L.heldIntS_ann (drawAny TD (tableP L.heldIntS_T)) 0 FUEL 2 (Try.f19.body.getD .skip) (finC TD 0 Try.f19 κ)).getD (fun _ _ => none)
noncomputable def L.heldIntS_step2 {α : Type} (x0 : List Int) (x1 : Int) (x5 : Int) (next_ : Int × Int → α) (out0_ : Int × Int → α) (out1_ : Int → α) (fail_ : α) : α :=
  (bif decide (x5 < (↑x0.length : Int)) then (bif decide (0 ≤ x5) && decide (x5 < (↑x0.length : Int)) then (bif !eli x0 x5.toNat == x1 then (out0_ (x1, -1)) else (next_ (IntKind.i64.wrap (x1 + 1), IntKind.i64.wrap (x5 + 1)))) else fail_) else (out1_ x1))
theorem L.heldIntS_step2_nat {α γ : Type} (g : α → γ) (x0 : List Int) (x1 : Int) (x5 : Int) (next_ : Int × Int → α) (out0_ : Int × Int → α) (out1_ : Int → α) (fail_ : α) : g (L.heldIntS_step2 x0 x1 x5 next_ out0_ out1_ fail_) = L.heldIntS_step2 x0 x1 x5 (fun s => g (next_ s)) (fun d => g (out0_ d)) (fun d => g (out1_ d)) (g fail_) := by
  unfold L.heldIntS_step2; simp only [apply_cnd g, apply_optC g, apply_sumC g]
noncomputable def L.heldIntS_run2 (x0 : List Int) : Nat → Int × Int → Option ((Int × Int) ⊕ (Int))
  | 0, _ => none
  | n + 1, s_ => L.heldIntS_step2 x0 s_.1 s_.2 (L.heldIntS_run2 x0 n) (fun d => some ((Sum.inl d))) (fun d => some ((Sum.inr d))) none
theorem L.heldIntS_L2_run (x0 : List Int) (n : Nat) (s_ : Int × Int) (k : X → St → R) : L.heldIntS_L2 n { n := 21, t := [(0, (.ro false (.ints .i64 x0))), (1, (.int .i64 s_.1)), (5, (.int .i64 s_.2))], h := [] } k = optC (L.heldIntS_run2 x0 n s_) (fun (r : (Int × Int) ⊕ (Int)) => (sumC r (fun (r : Int × Int) => k (.ret) { n := 21, t := [(1, (.int .i64 r.1)), (4, (.int .i64 r.2))], h := [] }) (fun (r : Int) => k (.exit 0) { n := 21, t := [(1, (.int .i64 r)), (4, .junk)], h := [] }))) none := by
  induction n generalizing s_ with
  | zero => rfl
  | succ n ih =>
    have hu : L.heldIntS_L2 (n + 1) { n := 21, t := [(0, (.ro false (.ints .i64 x0))), (1, (.int .i64 s_.1)), (5, (.int .i64 s_.2))], h := [] } k = L.heldIntS_step2 x0 s_.1 s_.2 (fun s_ => L.heldIntS_L2 n { n := 21, t := [(0, (.ro false (.ints .i64 x0))), (1, (.int .i64 s_.1)), (5, (.int .i64 s_.2))], h := [] } k) (fun d => k (.ret) { n := 21, t := [(1, (.int .i64 d.1)), (4, (.int .i64 d.2))], h := [] }) (fun d => k (.exit 0) { n := 21, t := [(1, (.int .i64 d)), (4, .junk)], h := [] }) none := by
      kernel_rfl
    have hs : (fun s_ : Int × Int => L.heldIntS_L2 n { n := 21, t := [(0, (.ro false (.ints .i64 x0))), (1, (.int .i64 s_.1)), (5, (.int .i64 s_.2))], h := [] } k) = fun s_ => optC (L.heldIntS_run2 x0 n s_) (fun (r : (Int × Int) ⊕ (Int)) => (sumC r (fun (r : Int × Int) => k (.ret) { n := 21, t := [(1, (.int .i64 r.1)), (4, (.int .i64 r.2))], h := [] }) (fun (r : Int) => k (.exit 0) { n := 21, t := [(1, (.int .i64 r)), (4, .junk)], h := [] }))) none := funext ih
    rw [hu, hs]
    exact (L.heldIntS_step2_nat (fun o => optC o (fun (r : (Int × Int) ⊕ (Int)) => (sumC r (fun (r : Int × Int) => k (.ret) { n := 21, t := [(1, (.int .i64 r.1)), (4, (.int .i64 r.2))], h := [] }) (fun (r : Int) => k (.exit 0) { n := 21, t := [(1, (.int .i64 r)), (4, .junk)], h := [] }))) none) x0 s_.1 s_.2 (L.heldIntS_run2 x0 n) (fun d => some ((Sum.inl d))) (fun d => some ((Sum.inr d))) none).symm
noncomputable def L.heldIntS_tree {α : Type} (a : List Int) (k_ : Int) (leaf0_ : Int → α) (fail_ : α) : α :=
  (optC (L.heldIntS_run2 a FUEL (k_, 0)) (fun qy_1 => (sumC qy_1 (fun (qy_1 : Int × Int) => (leaf0_ qy_1.2)) (fun (qy_1 : Int) => (leaf0_ qy_1)))) fail_)
theorem L.heldIntS_tree_nat {α γ : Type} (g : α → γ) (a : List Int) (k_ : Int) (leaf0_ : Int → α) (fail_ : α) : g (L.heldIntS_tree a k_ leaf0_ fail_) = L.heldIntS_tree a k_ (fun d => g (leaf0_ d)) (g fail_) := by
  unfold L.heldIntS_tree; simp only [apply_cnd g, apply_optC g, apply_sumC g]
noncomputable def L.heldIntS_t (a : List Int) (k_ : Int) : Option (Int) := L.heldIntS_tree a k_ (fun d => some d) none
theorem L.heldIntS_den (a : List Int) (k_ : Int) (κ : V → List E → R) : L.heldIntS_F [.ro false (.ints .i64 a), .int .i64 k_] [] κ = optC (L.heldIntS_t a k_) (fun (r : Int) => κ (.int .i64 r) []) none := by
  have hu : L.heldIntS_F [.ro false (.ints .i64 a), .int .i64 k_] [] κ = L.heldIntS_tree a k_ (fun d => κ (.int .i64 d) []) none := by
    refine Eq.trans (show L.heldIntS_F [.ro false (.ints .i64 a), .int .i64 k_] [] κ = (L.heldIntS_L2 FUEL { n := 21, t := [(0, (.ro false (.ints .i64 a))), (1, (.int .i64 k_)), (5, (.int .i64 0))], h := [] } (L.heldIntS_k2 κ)) by kernel_rfl) ?_
    refine (L.heldIntS_L2_run a FUEL (k_, 0) (L.heldIntS_k2 κ)).trans (optC_congr (fun qy_1 => ?_))
    rcases qy_1 with qy_1 | qy_1
    · kernel_rfl
    · kernel_rfl
  rw [hu]
  exact (L.heldIntS_tree_nat (fun o => optC o (fun (r : Int) => κ (.int .i64 r) []) none) a k_ (fun d => some d) none).symm
noncomputable def L.heldIntS_s : D.Spec where
  keep := false
  pure := true
  add := true
  ds := [.int .i64, .invalid]
  sp := fun args h κ => match args, h with
    | [.ro false (.ints .i64 a), .int .i64 k_], [] => optC (L.heldIntS_t a k_) (fun (r : Int) => κ (.int .i64 r) []) none
    | _, _ => none
theorem L.heldIntS_ok : SpecOk Try.prog 19 L.heldIntS_s := by
  refine SpecOk.of TDok mixed (T := L.heldIntS_T) ?_ (ann := L.heldIntS_ann) Try.func19 rfl (by decide +kernel) ?_ ?_ ?_ ?_
  · intro p hp; cases hp
  · intro args h κ r hh
    simp only [L.heldIntS_s] at hh
    split at hh
    · exact (L.heldIntS_den _ _ κ).trans hh
    · cases hh
  · intro args h κ r hh
    simp only [L.heldIntS_s] at hh ⊢
    split at hh
    · exact optC_law2 (F := fun (r : Int) κ => κ (.int .i64 r) []) (fun b κ r hb => ⟨_, _, hb, fun _ => rfl⟩) hh
    · cases hh
  · intro _ args h κ r hh
    simp only [L.heldIntS_s] at hh
    split at hh
    · exact ⟨rfl, fun _ => rfl⟩
    · cases hh
  · intro _ args h κ r hh
    simp only [L.heldIntS_s] at hh
    split at hh
    · rfl
    · cases hh

-- loop.example/guardsonnets/laws.FnExactNetRead
noncomputable def L.FnExactNetRead_T : List (Nat × D.Spec) := [(15, S.NetRead_s), (12, I.NetRead_s), (17, L.eqIntS_s), (18, L.markIntS_s), (19, L.heldIntS_s)]
def L.FnExactNetRead_ann : Nat → List Nat × List Nat
  | _ => ([], [])
noncomputable def L.FnExactNetRead_F (args : List V) (h : List E) (κ : V → List E → R) : R := funC TD (tableK L.FnExactNetRead_T) L.FnExactNetRead_ann (drawAny TD (tableP L.FnExactNetRead_T)) FUEL Try.f6 args h κ
noncomputable def L.FnExactNetRead_tree {α : Type} (aS : ByteArray) (leaf0_ : Bool → α) (fail_ : α) : α :=
  (bif decide ((↑aS.size : Int) > 1048576) then (leaf0_ true) else (optC (S.NetRead_t aS) (fun c_1 => (optC (I.NetRead_t aS) (fun c_2 => (optC (L.eqIntS_t c_2.snd c_1.snd) (fun c_3 => (bif !c_3 then (leaf0_ false) else (bif !c_2.fst == c_1.fst then (leaf0_ false) else (optC (L.markIntS_t c_2.snd 1) (fun c_4 => (optC (L.heldIntS_t c_4.snd 1) (fun c_5 => (bif decide (c_5 < 0) then (leaf0_ false) else (bif !c_5 == c_4.fst then (leaf0_ false) else (optC (I.NetRead_t aS) (fun c_6 => (optC (L.eqIntS_t c_6.snd c_1.snd) (fun c_7 => (bif !c_7 then (leaf0_ false) else (bif !c_6.fst == c_1.fst then (leaf0_ false) else (optC (L.heldIntS_t c_4.snd 1) (fun c_8 => (bif decide (c_8 < 0) then (leaf0_ false) else (bif !c_8 == c_4.fst then (leaf0_ false) else (leaf0_ true)))) fail_)))) fail_)) fail_)))) fail_)) fail_)))) fail_)) fail_)) fail_))
theorem L.FnExactNetRead_tree_nat {α γ : Type} (g : α → γ) (aS : ByteArray) (leaf0_ : Bool → α) (fail_ : α) : g (L.FnExactNetRead_tree aS leaf0_ fail_) = L.FnExactNetRead_tree aS (fun d => g (leaf0_ d)) (g fail_) := by
  unfold L.FnExactNetRead_tree; simp only [apply_cnd g, apply_optC g, apply_sumC g]
noncomputable def L.FnExactNetRead_t (aS : ByteArray) : Option (Bool) := L.FnExactNetRead_tree aS (fun d => some d) none
theorem L.FnExactNetRead_den (aS : ByteArray) (κ : V → List E → R) : L.FnExactNetRead_F [.str aS] [] κ = optC (L.FnExactNetRead_t aS) (fun (r : Bool) => κ (.bool r) []) none := by
  have hu : L.FnExactNetRead_F [.str aS] [] κ = L.FnExactNetRead_tree aS (fun d => κ (.bool d) []) none := by
    kernel_rfl
  rw [hu]
  exact (L.FnExactNetRead_tree_nat (fun o => optC o (fun (r : Bool) => κ (.bool r) []) none) aS (fun d => some d) none).symm
noncomputable def L.FnExactNetRead_s : D.Spec where
  keep := true
  pure := true
  add := true
  ds := [.invalid]
  sp := fun args h κ => match args, h with
    | [.str aS], [] => optC (L.FnExactNetRead_t aS) (fun (r : Bool) => κ (.bool r) []) none
    | _, _ => none
theorem L.FnExactNetRead_ok : SpecOk Try.prog 6 L.FnExactNetRead_s := by
  refine SpecOk.of TDok mixed (T := L.FnExactNetRead_T) ?_ (ann := L.FnExactNetRead_ann) Try.func6 rfl (by decide +kernel) ?_ ?_ ?_ ?_
  · intro p hp
    simp only [L.FnExactNetRead_T, List.mem_cons, List.not_mem_nil, or_false] at hp
    rcases hp with rfl | rfl | rfl | rfl | rfl
    · exact S.NetRead_ok
    · exact I.NetRead_ok
    · exact L.eqIntS_ok
    · exact L.markIntS_ok
    · exact L.heldIntS_ok
  · intro args h κ r hh
    simp only [L.FnExactNetRead_s] at hh
    split at hh
    · exact (L.FnExactNetRead_den _ κ).trans hh
    · cases hh
  · intro args h κ r hh
    simp only [L.FnExactNetRead_s] at hh ⊢
    split at hh
    · exact optC_law2 (F := fun (r : Bool) κ => κ (.bool r) []) (fun b κ r hb => ⟨_, _, hb, fun _ => rfl⟩) hh
    · cases hh
  · intro _ args h κ r hh
    simp only [L.FnExactNetRead_s] at hh
    split at hh
    · exact ⟨rfl, fun _ => rfl⟩
    · cases hh
  · intro _ args h κ r hh
    simp only [L.FnExactNetRead_s] at hh
    split at hh
    · rfl
    · cases hh


end Go.Proofs.Ytjaklmemllbeiaa
