/- Twins of the translated functions, written by program. Conditions: none. -/
import Derived.Test.YtcpdnljldlpnjaaT2
set_option linter.unusedVariables false
set_option linter.unusedSimpArgs false
namespace Go.Proofs.Ytcpdnljldlpnjaa
open D Go.RowKit
-- loop.example/guardsonnets/laws.markIntS
noncomputable def L.markIntS_T : List (Nat × D.Spec) := []
def L.markIntS_ann : Nat → List Nat × List Nat
  | 2 => ([0, 1, 5], [1])
  | _ => ([], [])
noncomputable def L.markIntS_F (args : List V) (h : List E) (κ : V → List E → R) : R := funC TD (tableK L.markIntS_T) L.markIntS_ann (drawOk (tableP L.markIntS_T)) FUEL Try.f49 args h κ
noncomputable def L.markIntS_L2 (n : Nat) (σ : St) (k : X → St → R) : R := iterC 0 (fun σ k => denC TD (tableK L.markIntS_T) L.markIntS_ann (drawOk (tableP L.markIntS_T)) 0 FUEL ((findLoop 2 (Try.f49.body.getD .skip)).getD .skip) σ k) [0, 1, 5] [1] n σ k
noncomputable def L.markIntS_k2 (κ : V → List E → R) : X → St → R := (afterC TD (tableK L.markIntS_T) L.markIntS_ann (drawOk (tableP L.markIntS_T)) 0 FUEL 2 (Try.f49.body.getD .skip) (finC 0 Try.f49 κ)).getD (fun _ _ => none)
noncomputable def L.markIntS_step2 {α : Type} (x0 : List Int) (x1 : Int) (x5 : Int) (next_ : Int × Int → α) (out0_ : Int → α) (fail_ : α) : α :=
  (bif decide (x5 < (↑x0.length : Int)) then (bif decide (0 ≤ x5) && decide (x5 < (↑x0.length : Int)) then fail_ else fail_) else (out0_ x1))
theorem L.markIntS_step2_nat {α γ : Type} (g : α → γ) (x0 : List Int) (x1 : Int) (x5 : Int) (next_ : Int × Int → α) (out0_ : Int → α) (fail_ : α) : g (L.markIntS_step2 x0 x1 x5 next_ out0_ fail_) = L.markIntS_step2 x0 x1 x5 (fun s => g (next_ s)) (fun d => g (out0_ d)) (g fail_) := by
  unfold L.markIntS_step2; simp only [apply_cnd g, apply_optC g, apply_sumC g]
noncomputable def L.markIntS_run2 (x0 : List Int) : Nat → Int × Int → Option (Int)
  | 0, _ => none
  | n + 1, s_ => L.markIntS_step2 x0 s_.1 s_.2 (L.markIntS_run2 x0 n) (fun d => some d) none
theorem L.markIntS_L2_run (x0 : List Int) (n : Nat) (s_ : Int × Int) (k : X → St → R) : L.markIntS_L2 n { n := 19, t := [(0, (.ro false (.ints .i64 x0))), (1, (.int .i64 s_.1)), (5, (.int .i64 s_.2))], h := [] } k = optC (L.markIntS_run2 x0 n s_) (fun (r : Int) => k (.exit 0) { n := 19, t := [(1, (.int .i64 r))], h := [] }) none := by
  induction n generalizing s_ with
  | zero => rfl
  | succ n ih =>
    have hu : L.markIntS_L2 (n + 1) { n := 19, t := [(0, (.ro false (.ints .i64 x0))), (1, (.int .i64 s_.1)), (5, (.int .i64 s_.2))], h := [] } k = L.markIntS_step2 x0 s_.1 s_.2 (fun s_ => L.markIntS_L2 n { n := 19, t := [(0, (.ro false (.ints .i64 x0))), (1, (.int .i64 s_.1)), (5, (.int .i64 s_.2))], h := [] } k) (fun d => k (.exit 0) { n := 19, t := [(1, (.int .i64 d))], h := [] }) none := by
      kernel_rfl
    have hs : (fun s_ : Int × Int => L.markIntS_L2 n { n := 19, t := [(0, (.ro false (.ints .i64 x0))), (1, (.int .i64 s_.1)), (5, (.int .i64 s_.2))], h := [] } k) = fun s_ => optC (L.markIntS_run2 x0 n s_) (fun (r : Int) => k (.exit 0) { n := 19, t := [(1, (.int .i64 r))], h := [] }) none := funext ih
    rw [hu, hs]
    exact (L.markIntS_step2_nat (fun o => optC o (fun (r : Int) => k (.exit 0) { n := 19, t := [(1, (.int .i64 r))], h := [] }) none) x0 s_.1 s_.2 (L.markIntS_run2 x0 n) (fun d => some d) none).symm
noncomputable def L.markIntS_tree {α : Type} (a : List Int) (k_ : Int) (leaf0_ : Int → α) (fail_ : α) : α :=
  (optC (L.markIntS_run2 a FUEL (k_, 0)) (fun qy_1 => (leaf0_ qy_1)) fail_)
theorem L.markIntS_tree_nat {α γ : Type} (g : α → γ) (a : List Int) (k_ : Int) (leaf0_ : Int → α) (fail_ : α) : g (L.markIntS_tree a k_ leaf0_ fail_) = L.markIntS_tree a k_ (fun d => g (leaf0_ d)) (g fail_) := by
  unfold L.markIntS_tree; simp only [apply_cnd g, apply_optC g, apply_sumC g]
noncomputable def L.markIntS_t (a : List Int) (k_ : Int) : Option (Int) := L.markIntS_tree a k_ (fun d => some d) none
theorem L.markIntS_den (a : List Int) (k_ : Int) (κ : V → List E → R) : L.markIntS_F [.ro false (.ints .i64 a), .int .i64 k_] [] κ = optC (L.markIntS_t a k_) (fun (r : Int) => κ (.int .i64 r) []) none := by
  have hu : L.markIntS_F [.ro false (.ints .i64 a), .int .i64 k_] [] κ = L.markIntS_tree a k_ (fun d => κ (.int .i64 d) []) none := by
    refine Eq.trans (show L.markIntS_F [.ro false (.ints .i64 a), .int .i64 k_] [] κ = (L.markIntS_L2 FUEL { n := 19, t := [(0, (.ro false (.ints .i64 a))), (1, (.int .i64 k_)), (5, (.int .i64 0))], h := [] } (L.markIntS_k2 κ)) by kernel_rfl) ?_
    refine (L.markIntS_L2_run a FUEL (k_, 0) (L.markIntS_k2 κ)).trans (optC_congr (fun qy_1 => ?_))
    kernel_rfl
  rw [hu]
  exact (L.markIntS_tree_nat (fun o => optC o (fun (r : Int) => κ (.int .i64 r) []) none) a k_ (fun d => some d) none).symm
noncomputable def L.markIntS_s : D.Spec where
  keep := false
  pure := true
  ds := [.int .i64, .invalid]
  sp := fun args h κ => match args, h with
    | [.ro false (.ints .i64 a), .int .i64 k_], [] => optC (L.markIntS_t a k_) (fun (r : Int) => κ (.int .i64 r) []) none
    | _, _ => none
theorem L.markIntS_ok : SpecOk Try.prog 49 L.markIntS_s := by
  refine SpecOk.of TDok mixed (T := L.markIntS_T) ?_ (ann := L.markIntS_ann) Try.func49 rfl (by decide +kernel) ?_ ?_ ?_
  · intro p hp; cases hp
  · intro args h κ r hh
    simp only [L.markIntS_s] at hh
    split at hh
    · exact (L.markIntS_den _ _ κ).trans hh
    · cases hh
  · intro args h κ r hh
    simp only [L.markIntS_s] at hh ⊢
    split at hh
    · exact optC_law2 (F := fun (r : Int) κ => κ (.int .i64 r) []) (fun b κ r hb => ⟨_, _, hb, fun _ => rfl⟩) hh
    · cases hh
  · intro _ args h κ r hh
    simp only [L.markIntS_s] at hh
    split at hh
    · exact ⟨rfl, fun _ => rfl⟩
    · cases hh

-- loop.example/guardsonnets/laws.heldIntS
noncomputable def L.heldIntS_T : List (Nat × D.Spec) := []
def L.heldIntS_ann : Nat → List Nat × List Nat
  | 2 => ([0, 1, 5], [1, 4])
  | _ => ([], [])
noncomputable def L.heldIntS_F (args : List V) (h : List E) (κ : V → List E → R) : R := funC TD (tableK L.heldIntS_T) L.heldIntS_ann (drawOk (tableP L.heldIntS_T)) FUEL Try.f50 args h κ
noncomputable def L.heldIntS_L2 (n : Nat) (σ : St) (k : X → St → R) : R := iterC 0 (fun σ k => denC TD (tableK L.heldIntS_T) L.heldIntS_ann (drawOk (tableP L.heldIntS_T)) 0 FUEL ((findLoop 2 (Try.f50.body.getD .skip)).getD .skip) σ k) [0, 1, 5] [1, 4] n σ k
noncomputable def L.heldIntS_k2 (κ : V → List E → R) : X → St → R := (afterC TD (tableK L.heldIntS_T) L.heldIntS_ann (drawOk (tableP L.heldIntS_T)) 0 FUEL 2 (Try.f50.body.getD .skip) (finC 0 Try.f50 κ)).getD (fun _ _ => none)
noncomputable def L.heldIntS_step2 {α : Type} (x0 : List Int) (x1 : Int) (x5 : Int) (next_ : Int × Int → α) (out0_ : Int × Int → α) (out1_ : Int → α) (fail_ : α) : α :=
  (bif decide (x5 < (↑x0.length : Int)) then (bif decide (0 ≤ x5) && decide (x5 < (↑x0.length : Int)) then (bif !eli x0 x5.toNat == x1 then (out0_ (x1, -1)) else (next_ (IntKind.i64.wrap (x1 + 1), IntKind.i64.wrap (x5 + 1)))) else fail_) else (out1_ x1))
theorem L.heldIntS_step2_nat {α γ : Type} (g : α → γ) (x0 : List Int) (x1 : Int) (x5 : Int) (next_ : Int × Int → α) (out0_ : Int × Int → α) (out1_ : Int → α) (fail_ : α) : g (L.heldIntS_step2 x0 x1 x5 next_ out0_ out1_ fail_) = L.heldIntS_step2 x0 x1 x5 (fun s => g (next_ s)) (fun d => g (out0_ d)) (fun d => g (out1_ d)) (g fail_) := by
  unfold L.heldIntS_step2; simp only [apply_cnd g, apply_optC g, apply_sumC g]
noncomputable def L.heldIntS_run2 (x0 : List Int) : Nat → Int × Int → Option ((Int × Int) ⊕ (Int))
  | 0, _ => none
  | n + 1, s_ => L.heldIntS_step2 x0 s_.1 s_.2 (L.heldIntS_run2 x0 n) (fun d => some ((Sum.inl d))) (fun d => some ((Sum.inr d))) none
theorem L.heldIntS_L2_run (x0 : List Int) (n : Nat) (s_ : Int × Int) (k : X → St → R) : L.heldIntS_L2 n { n := 21, t := [(0, (.ro false (.ints .i64 x0))), (1, (.int .i64 s_.1)), (5, (.int .i64 s_.2))], h := [] } k = optC (L.heldIntS_run2 x0 n s_) (fun (r : (Int × Int) ⊕ (Int)) => (sumC r (fun (r : Int × Int) => k (.ret) { n := 21, t := [(1, (.int .i64 r.1)), (4, (.int .i64 r.2))], h := [] }) (fun (r : Int) => k (.exit 0) { n := 21, t := [(1, (.int .i64 r)), (4, .junk)], h := [] }))) none := by
  induction n generalizing s_ with
  | zero => rfl
  | succ n ih =>
    have hu : L.heldIntS_L2 (n + 1) { n := 21, t := [(0, (.ro false (.ints .i64 x0))), (1, (.int .i64 s_.1)), (5, (.int .i64 s_.2))], h := [] } k = L.heldIntS_step2 x0 s_.1 s_.2 (fun s_ => L.heldIntS_L2 n { n := 21, t := [(0, (.ro false (.ints .i64 x0))), (1, (.int .i64 s_.1)), (5, (.int .i64 s_.2))], h := [] } k) (fun d => k (.ret) { n := 21, t := [(1, (.int .i64 d.1)), (4, (.int .i64 d.2))], h := [] }) (fun d => k (.exit 0) { n := 21, t := [(1, (.int .i64 d)), (4, .junk)], h := [] }) none := by
      kernel_rfl
    have hs : (fun s_ : Int × Int => L.heldIntS_L2 n { n := 21, t := [(0, (.ro false (.ints .i64 x0))), (1, (.int .i64 s_.1)), (5, (.int .i64 s_.2))], h := [] } k) = fun s_ => optC (L.heldIntS_run2 x0 n s_) (fun (r : (Int × Int) ⊕ (Int)) => (sumC r (fun (r : Int × Int) => k (.ret) { n := 21, t := [(1, (.int .i64 r.1)), (4, (.int .i64 r.2))], h := [] }) (fun (r : Int) => k (.exit 0) { n := 21, t := [(1, (.int .i64 r)), (4, .junk)], h := [] }))) none := funext ih
    rw [hu, hs]
    exact (L.heldIntS_step2_nat (fun o => optC o (fun (r : (Int × Int) ⊕ (Int)) => (sumC r (fun (r : Int × Int) => k (.ret) { n := 21, t := [(1, (.int .i64 r.1)), (4, (.int .i64 r.2))], h := [] }) (fun (r : Int) => k (.exit 0) { n := 21, t := [(1, (.int .i64 r)), (4, .junk)], h := [] }))) none) x0 s_.1 s_.2 (L.heldIntS_run2 x0 n) (fun d => some ((Sum.inl d))) (fun d => some ((Sum.inr d))) none).symm
noncomputable def L.heldIntS_tree {α : Type} (a : List Int) (k_ : Int) (leaf0_ : Int → α) (fail_ : α) : α :=
  (optC (L.heldIntS_run2 a FUEL (k_, 0)) (fun qy_1 => (sumC qy_1 (fun (qy_1 : Int × Int) => (leaf0_ qy_1.2)) (fun (qy_1 : Int) => (leaf0_ qy_1)))) fail_)
theorem L.heldIntS_tree_nat {α γ : Type} (g : α → γ) (a : List Int) (k_ : Int) (leaf0_ : Int → α) (fail_ : α) : g (L.heldIntS_tree a k_ leaf0_ fail_) = L.heldIntS_tree a k_ (fun d => g (leaf0_ d)) (g fail_) := by
  unfold L.heldIntS_tree; simp only [apply_cnd g, apply_optC g, apply_sumC g]
noncomputable def L.heldIntS_t (a : List Int) (k_ : Int) : Option (Int) := L.heldIntS_tree a k_ (fun d => some d) none
theorem L.heldIntS_den (a : List Int) (k_ : Int) (κ : V → List E → R) : L.heldIntS_F [.ro false (.ints .i64 a), .int .i64 k_] [] κ = optC (L.heldIntS_t a k_) (fun (r : Int) => κ (.int .i64 r) []) none := by
  have hu : L.heldIntS_F [.ro false (.ints .i64 a), .int .i64 k_] [] κ = L.heldIntS_tree a k_ (fun d => κ (.int .i64 d) []) none := by
    refine Eq.trans (show L.heldIntS_F [.ro false (.ints .i64 a), .int .i64 k_] [] κ = (L.heldIntS_L2 FUEL { n := 21, t := [(0, (.ro false (.ints .i64 a))), (1, (.int .i64 k_)), (5, (.int .i64 0))], h := [] } (L.heldIntS_k2 κ)) by kernel_rfl) ?_
    refine (L.heldIntS_L2_run a FUEL (k_, 0) (L.heldIntS_k2 κ)).trans (optC_congr (fun qy_1 => ?_))
    rcases qy_1 with qy_1 | qy_1
    · kernel_rfl
    · kernel_rfl
  rw [hu]
  exact (L.heldIntS_tree_nat (fun o => optC o (fun (r : Int) => κ (.int .i64 r) []) none) a k_ (fun d => some d) none).symm
noncomputable def L.heldIntS_s : D.Spec where
  keep := false
  pure := true
  ds := [.int .i64, .invalid]
  sp := fun args h κ => match args, h with
    | [.ro false (.ints .i64 a), .int .i64 k_], [] => optC (L.heldIntS_t a k_) (fun (r : Int) => κ (.int .i64 r) []) none
    | _, _ => none
theorem L.heldIntS_ok : SpecOk Try.prog 50 L.heldIntS_s := by
  refine SpecOk.of TDok mixed (T := L.heldIntS_T) ?_ (ann := L.heldIntS_ann) Try.func50 rfl (by decide +kernel) ?_ ?_ ?_
  · intro p hp; cases hp
  · intro args h κ r hh
    simp only [L.heldIntS_s] at hh
    split at hh
    · exact (L.heldIntS_den _ _ κ).trans hh
    · cases hh
  · intro args h κ r hh
    simp only [L.heldIntS_s] at hh ⊢
    split at hh
    · exact optC_law2 (F := fun (r : Int) κ => κ (.int .i64 r) []) (fun b κ r hb => ⟨_, _, hb, fun _ => rfl⟩) hh
    · cases hh
  · intro _ args h κ r hh
    simp only [L.heldIntS_s] at hh
    split at hh
    · exact ⟨rfl, fun _ => rfl⟩
    · cases hh

-- loop.example/guardsonnets/laws.FnExactNamedNet
noncomputable def L.FnExactNamedNet_T : List (Nat × D.Spec) := [(22, L.toIntS_s), (46, S.NamedNet_s), (45, I.NamedNet_s), (23, L.eqIntS_s), (49, L.markIntS_s), (50, L.heldIntS_s)]
def L.FnExactNamedNet_ann : Nat → List Nat × List Nat
  | _ => ([], [])
noncomputable def L.FnExactNamedNet_F (args : List V) (h : List E) (κ : V → List E → R) : R := funC TD (tableK L.FnExactNamedNet_T) L.FnExactNamedNet_ann (drawOk (tableP L.FnExactNamedNet_T)) FUEL Try.f18 args h κ
noncomputable def L.FnExactNamedNet_tree {α : Type} (aNet : List Int) (aOrder : List Int) (leaf0_ : Bool → α) (fail_ : α) : α :=
  (bif decide ((↑aNet.length : Int) > 1048576) then (leaf0_ true) else (bif decide ((↑aOrder.length : Int) > 1048576) then (leaf0_ true) else (optC (L.toIntS_t aNet) (fun c_1 => (optC (L.toIntS_t aOrder) (fun c_2 => (optC (S.NamedNet_t c_1 c_2) (fun c_3 => (optC (L.toIntS_t aNet) (fun c_4 => (optC (L.toIntS_t aOrder) (fun c_5 => (optC (I.NamedNet_t c_4 c_5) (fun c_6 => (optC (L.eqIntS_t c_6.snd c_3.snd) (fun c_7 => (bif !c_7 then (leaf0_ false) else (bif !c_6.fst == c_3.fst then (leaf0_ false) else (optC (L.toIntS_t aNet) (fun c_8 => (optC (L.eqIntS_t c_4 c_8) (fun c_9 => (bif !c_9 then (leaf0_ false) else (optC (L.toIntS_t aOrder) (fun c_10 => (optC (L.eqIntS_t c_5 c_10) (fun c_11 => (bif !c_11 then (leaf0_ false) else (optC (L.markIntS_t c_4 1) (fun c_12 => (optC (L.markIntS_t c_5 c_12) (fun c_13 => (bif decide (c_13 < 0) then (leaf0_ false) else (optC (L.eqIntS_t c_6.snd c_3.snd) (fun c_14 => (bif !c_14 then (leaf0_ false) else (bif !c_6.fst == c_3.fst then (leaf0_ false) else (optC (L.markIntS_t c_6.snd 1) (fun c_15 => (optC (L.heldIntS_t c_6.snd 1) (fun c_16 => (bif decide (c_16 < 0) then (leaf0_ false) else (bif !c_16 == c_15 then (leaf0_ false) else (optC (L.toIntS_t aNet) (fun c_17 => (optC (L.toIntS_t aOrder) (fun c_18 => (optC (I.NamedNet_t c_17 c_18) (fun c_19 => (optC (L.eqIntS_t c_19.snd c_3.snd) (fun c_20 => (bif !c_20 then (leaf0_ false) else (bif !c_19.fst == c_3.fst then (leaf0_ false) else (optC (L.heldIntS_t c_6.snd 1) (fun c_21 => (bif decide (c_21 < 0) then (leaf0_ false) else (bif !c_21 == c_15 then (leaf0_ false) else (leaf0_ true)))) fail_)))) fail_)) fail_)) fail_)) fail_)))) fail_)) fail_)))) fail_))) fail_)) fail_))) fail_)) fail_))) fail_)) fail_)))) fail_)) fail_)) fail_)) fail_)) fail_)) fail_)) fail_)))
theorem L.FnExactNamedNet_tree_nat {α γ : Type} (g : α → γ) (aNet : List Int) (aOrder : List Int) (leaf0_ : Bool → α) (fail_ : α) : g (L.FnExactNamedNet_tree aNet aOrder leaf0_ fail_) = L.FnExactNamedNet_tree aNet aOrder (fun d => g (leaf0_ d)) (g fail_) := by
  unfold L.FnExactNamedNet_tree; simp only [apply_cnd g, apply_optC g, apply_sumC g]
noncomputable def L.FnExactNamedNet_t (aNet : List Int) (aOrder : List Int) : Option (Bool) := L.FnExactNamedNet_tree aNet aOrder (fun d => some d) none
theorem L.FnExactNamedNet_den (aNet : List Int) (aOrder : List Int) (κ : V → List E → R) : L.FnExactNamedNet_F [.ro true (.ints .i64 aNet), .ro true (.ints .i64 aOrder)] [] κ = optC (L.FnExactNamedNet_t aNet aOrder) (fun (r : Bool) => κ (.bool r) []) none := by
  have hu : L.FnExactNamedNet_F [.ro true (.ints .i64 aNet), .ro true (.ints .i64 aOrder)] [] κ = L.FnExactNamedNet_tree aNet aOrder (fun d => κ (.bool d) []) none := by
    kernel_rfl
  rw [hu]
  exact (L.FnExactNamedNet_tree_nat (fun o => optC o (fun (r : Bool) => κ (.bool r) []) none) aNet aOrder (fun d => some d) none).symm
noncomputable def L.FnExactNamedNet_s : D.Spec where
  keep := true
  pure := true
  ds := [.int .i64, .int .i64]
  sp := fun args h κ => match args, h with
    | [.ro true (.ints .i64 aNet), .ro true (.ints .i64 aOrder)], [] => optC (L.FnExactNamedNet_t aNet aOrder) (fun (r : Bool) => κ (.bool r) []) none
    | _, _ => none
theorem L.FnExactNamedNet_ok : SpecOk Try.prog 18 L.FnExactNamedNet_s := by
  refine SpecOk.of TDok mixed (T := L.FnExactNamedNet_T) ?_ (ann := L.FnExactNamedNet_ann) Try.func18 rfl (by decide +kernel) ?_ ?_ ?_
  · intro p hp
    simp only [L.FnExactNamedNet_T, List.mem_cons, List.not_mem_nil, or_false] at hp
    rcases hp with rfl | rfl | rfl | rfl | rfl | rfl
    · exact L.toIntS_ok
    · exact S.NamedNet_ok
    · exact I.NamedNet_ok
    · exact L.eqIntS_ok
    · exact L.markIntS_ok
    · exact L.heldIntS_ok
  · intro args h κ r hh
    simp only [L.FnExactNamedNet_s] at hh
    split at hh
    · exact (L.FnExactNamedNet_den _ _ κ).trans hh
    · cases hh
  · intro args h κ r hh
    simp only [L.FnExactNamedNet_s] at hh ⊢
    split at hh
    · exact optC_law2 (F := fun (r : Bool) κ => κ (.bool r) []) (fun b κ r hb => ⟨_, _, hb, fun _ => rfl⟩) hh
    · cases hh
  · intro _ args h κ r hh
    simp only [L.FnExactNamedNet_s] at hh
    split at hh
    · exact ⟨rfl, fun _ => rfl⟩
    · cases hh


end Go.Proofs.Ytcpdnljldlpnjaa
