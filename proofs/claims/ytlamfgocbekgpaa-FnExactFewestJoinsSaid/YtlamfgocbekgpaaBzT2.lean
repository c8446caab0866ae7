/- Twins of the translated functions, with their proofs. Conditions: none. -/
import Derived.Test.YtlamfgocbekgpaaBzT1
set_option linter.unusedVariables false
set_option linter.unusedSimpArgs false
set_option linter.unusedSectionVars false
namespace Go.Proofs.Ytlamfgocbekgpaa
open D Go.RowKit
-- loop.example/guardsonnets/laws.heldIntS
noncomputable def L.heldIntS_T : List (Nat × D.Spec) := []
def L.heldIntS_ann : Nat → List Nat × List Nat
  | 2 => ([0, 1, 5], [1, 4])
  | _ => ([], [])
noncomputable def L.heldIntS_F (args : List V) (h : List E) (κ : V → List E → R) : R := funC TD (tableK L.heldIntS_T) L.heldIntS_ann (drawOk TD (tableP L.heldIntS_T)) FUEL Try.f25 args h κ
noncomputable def L.heldIntS_L2 (n : Nat) (σ : St) (k : X → St → R) : R := iterC 0 (fun σ k => denC TD (tableK L.heldIntS_T) L.heldIntS_ann (drawOk TD (tableP L.heldIntS_T)) 0 FUEL ((findLoop 2 (Try.f25.body.getD .skip)).getD .skip) σ k) [0, 1, 5] [1, 4] n σ k
noncomputable def L.heldIntS_k2 (κ : V → List E → R) : X → St → R := (afterC TD (tableK L.heldIntS_T) L.heldIntS_ann (drawOk TD (tableP L.heldIntS_T)) 0 FUEL 2 (Try.f25.body.getD .skip) (finC TD 0 Try.f25 κ)).getD (fun _ _ => none)
noncomputable def L.heldIntS_step2 {α : Type} (x0 : List Int) (x1 : Int) (x5 : Int) (next_ : Int × Int → α) (out0_ : Int × Int → α) (out1_ : Int → α) (fail_ : α) : α :=
  (bif decide (x5 < (↑x0.length : Int)) then (bif decide (0 ≤ x5) && decide (x5 < (↑x0.length : Int)) then (bif !eli x0 x5.toNat == x1 then (out0_ (x1, -1)) else (next_ (IntKind.i64.wrap (x1 + 1), IntKind.i64.wrap (x5 + 1)))) else fail_) else (out1_ x1))
theorem L.heldIntS_step2_nat {α γ : Type} (g : α → γ) (x0 : List Int) (x1 : Int) (x5 : Int) (next_ : Int × Int → α) (out0_ : Int × Int → α) (out1_ : Int → α) (fail_ : α) : g (L.heldIntS_step2 x0 x1 x5 next_ out0_ out1_ fail_) = L.heldIntS_step2 x0 x1 x5 (fun s => g (next_ s)) (fun d => g (out0_ d)) (fun d => g (out1_ d)) (g fail_) := by
  unfold L.heldIntS_step2; simp only [apply_cnd g, apply_optC g, apply_sumC g]
noncomputable def L.heldIntS_run2 (x0 : List Int) : Nat → Int × Int → Option ((Int × Int) ⊕ (Int))
  | 0, _ => none
  | n + 1, s_ => L.heldIntS_step2 x0 s_.1 s_.2 (L.heldIntS_run2 x0 n) (fun d => some ((Sum.inl d))) (fun d => some ((Sum.inr d))) none
theorem L.heldIntS_L2_run (x0 : List Int) (n : Nat) (s_ : Int × Int) (k : X → St → R) : L.heldIntS_L2 n { n := 21, t := [(0, (.ro false (.ints .i64 x0))), (1, (.int .i64 s_.1)), (5, (.int .i64 s_.2))], h := [] } k = optC (L.heldIntS_run2 x0 n s_) (fun (r : (Int × Int) ⊕ (Int)) => (sumC r (fun (r : Int × Int) => k (.ret) { n := 21, t := [(1, (.int .i64 r.1)), (4, (.int .i64 r.2))], h := [] }) (fun (r : Int) => k (.exit 0) { n := 21, t := [(1, (.int .i64 r)), (4, .junk)], h := [] }))) none := by
  induction n generalizing s_ with
  | zero => rfl
  | succ n ih =>
    have hu : L.heldIntS_L2 (n + 1) { n := 21, t := [(0, (.ro false (.ints .i64 x0))), (1, (.int .i64 s_.1)), (5, (.int .i64 s_.2))], h := [] } k = L.heldIntS_step2 x0 s_.1 s_.2 (fun s_ => L.heldIntS_L2 n { n := 21, t := [(0, (.ro false (.ints .i64 x0))), (1, (.int .i64 s_.1)), (5, (.int .i64 s_.2))], h := [] } k) (fun d => k (.ret) { n := 21, t := [(1, (.int .i64 d.1)), (4, (.int .i64 d.2))], h := [] }) (fun d => k (.exit 0) { n := 21, t := [(1, (.int .i64 d)), (4, .junk)], h := [] }) none := by
      kernel_rfl
    have hs : (fun s_ : Int × Int => L.heldIntS_L2 n { n := 21, t := [(0, (.ro false (.ints .i64 x0))), (1, (.int .i64 s_.1)), (5, (.int .i64 s_.2))], h := [] } k) = fun s_ => optC (L.heldIntS_run2 x0 n s_) (fun (r : (Int × Int) ⊕ (Int)) => (sumC r (fun (r : Int × Int) => k (.ret) { n := 21, t := [(1, (.int .i64 r.1)), (4, (.int .i64 r.2))], h := [] }) (fun (r : Int) => k (.exit 0) { n := 21, t := [(1, (.int .i64 r)), (4, .junk)], h := [] }))) none := funext ih
    rw [hu, hs]
    exact (L.heldIntS_step2_nat (fun o => optC o (fun (r : (Int × Int) ⊕ (Int)) => (sumC r (fun (r : Int × Int) => k (.ret) { n := 21, t := [(1, (.int .i64 r.1)), (4, (.int .i64 r.2))], h := [] }) (fun (r : Int) => k (.exit 0) { n := 21, t := [(1, (.int .i64 r)), (4, .junk)], h := [] }))) none) x0 s_.1 s_.2 (L.heldIntS_run2 x0 n) (fun d => some ((Sum.inl d))) (fun d => some ((Sum.inr d))) none).symm
noncomputable def L.heldIntS_tree {α : Type} (a : List Int) (k_ : Int) (leaf0_ : Int → α) (fail_ : α) : α :=
  (optC (L.heldIntS_run2 a FUEL (k_, 0)) (fun qy_1 => (sumC qy_1 (fun (qy_1 : Int × Int) => (leaf0_ qy_1.2)) (fun (qy_1 : Int) => (leaf0_ qy_1)))) fail_)
theorem L.heldIntS_tree_nat {α γ : Type} (g : α → γ) (a : List Int) (k_ : Int) (leaf0_ : Int → α) (fail_ : α) : g (L.heldIntS_tree a k_ leaf0_ fail_) = L.heldIntS_tree a k_ (fun d => g (leaf0_ d)) (g fail_) := by
  unfold L.heldIntS_tree; simp only [apply_cnd g, apply_optC g, apply_sumC g]
noncomputable def L.heldIntS_t (a : List Int) (k_ : Int) : Option (Int) := L.heldIntS_tree a k_ (fun d => some d) none
theorem L.heldIntS_den (a : List Int) (k_ : Int) (κ : V → List E → R) : L.heldIntS_F [.ro false (.ints .i64 a), .int .i64 k_] [] κ = optC (L.heldIntS_t a k_) (fun (r : Int) => κ (.int .i64 r) []) none := by
  have hu : L.heldIntS_F [.ro false (.ints .i64 a), .int .i64 k_] [] κ = L.heldIntS_tree a k_ (fun d => κ (.int .i64 d) []) none := by
    refine Eq.trans (show L.heldIntS_F [.ro false (.ints .i64 a), .int .i64 k_] [] κ = (L.heldIntS_L2 FUEL { n := 21, t := [(0, (.ro false (.ints .i64 a))), (1, (.int .i64 k_)), (5, (.int .i64 0))], h := [] } (L.heldIntS_k2 κ)) by kernel_rfl) ?_
    refine (L.heldIntS_L2_run a FUEL (k_, 0) (L.heldIntS_k2 κ)).trans (optC_congr (fun qy_1 => ?_))
    rcases qy_1 with qy_1 | qy_1
    · kernel_rfl
    · kernel_rfl
  rw [hu]
  exact (L.heldIntS_tree_nat (fun o => optC o (fun (r : Int) => κ (.int .i64 r) []) none) a k_ (fun d => some d) none).symm
noncomputable def L.heldIntS_s : D.Spec where
  keep := false
  pure := true
  add := true
  ds := [.int .i64, .invalid]
  sp := fun args h κ => match args, h with
    | [.ro false (.ints .i64 a), .int .i64 k_], [] => optC (L.heldIntS_t a k_) (fun (r : Int) => κ (.int .i64 r) []) none
    | _, _ => none
theorem L.heldIntS_ok : SpecOk Try.prog 25 L.heldIntS_s := by
  refine SpecOk.of TDok mixed (T := L.heldIntS_T) ?_ (ann := L.heldIntS_ann) Try.func25 rfl (by decide +kernel) ?_ ?_ ?_ ?_
  · intro p hp; cases hp
  · intro args h κ r hh
    simp only [L.heldIntS_s] at hh
    split at hh
    · exact (L.heldIntS_den _ _ κ).trans hh
    · cases hh
  · intro args h κ r hh
    simp only [L.heldIntS_s] at hh ⊢
    split at hh
    · exact optC_law2 (F := fun (r : Int) κ => κ (.int .i64 r) []) (fun b κ r hb => ⟨_, _, hb, fun _ => rfl⟩) hh
    · cases hh
  · intro _ args h κ r hh
    simp only [L.heldIntS_s] at hh
    split at hh
    · exact ⟨rfl, fun _ => rfl⟩
    · cases hh
  · intro _ args h κ r hh
    simp only [L.heldIntS_s] at hh
    split at hh
    · rfl
    · cases hh

-- loop.example/guardsonnets/laws.FnExactWireCut
noncomputable def L.FnExactWireCut_T : List (Nat × D.Spec) := [(22, L.toIntS_s), (16, S.WireCut_s), (14, I.WireCut_s), (23, L.eqIntS_s), (24, L.markIntS_s), (25, L.heldIntS_s)]
def L.FnExactWireCut_ann : Nat → List Nat × List Nat
  | _ => ([], [])
noncomputable def L.FnExactWireCut_F (args : List V) (h : List E) (κ : V → List E → R) : R := funC TD (tableK L.FnExactWireCut_T) L.FnExactWireCut_ann (drawOk TD (tableP L.FnExactWireCut_T)) FUEL Try.f4 args h κ
noncomputable def L.FnExactWireCut_tree {α : Type} (aNet : List Int) (aA : Int) (aB : Int) (leaf0_ : Bool → α) (fail_ : α) : α :=
  (bif decide ((↑aNet.length : Int) > 1048576) then (leaf0_ true) else (optC (L.toIntS_t aNet) (fun c_1 => (optC (S.WireCut_t c_1 aA aB) (fun c_2 => (optC (L.toIntS_t aNet) (fun c_3 => (optC (I.WireCut_t c_3 aA aB) (fun c_4 => (optC (L.eqIntS_t c_4 c_2) (fun c_5 => (bif !c_5 then (leaf0_ false) else (optC (L.toIntS_t aNet) (fun c_6 => (optC (L.eqIntS_t c_3 c_6) (fun c_7 => (bif !c_7 then (leaf0_ false) else (optC (L.markIntS_t c_3 1) (fun c_8 => (bif decide (c_8.fst < 0) then (leaf0_ false) else (optC (L.eqIntS_t c_4 c_2) (fun c_9 => (bif !c_9 then (leaf0_ false) else (optC (L.markIntS_t c_4 1) (fun c_10 => (optC (L.heldIntS_t c_10.snd 1) (fun c_11 => (bif decide (c_11 < 0) then (leaf0_ false) else (bif !c_11 == c_10.fst then (leaf0_ false) else (optC (L.toIntS_t aNet) (fun c_12 => (optC (I.WireCut_t c_12 aA aB) (fun c_13 => (optC (L.eqIntS_t c_13 c_2) (fun c_14 => (bif !c_14 then (leaf0_ false) else (optC (L.heldIntS_t c_10.snd 1) (fun c_15 => (bif decide (c_15 < 0) then (leaf0_ false) else (bif !c_15 == c_10.fst then (leaf0_ false) else (leaf0_ true)))) fail_))) fail_)) fail_)) fail_)))) fail_)) fail_))) fail_))) fail_))) fail_)) fail_))) fail_)) fail_)) fail_)) fail_)) fail_))
theorem L.FnExactWireCut_tree_nat {α γ : Type} (g : α → γ) (aNet : List Int) (aA : Int) (aB : Int) (leaf0_ : Bool → α) (fail_ : α) : g (L.FnExactWireCut_tree aNet aA aB leaf0_ fail_) = L.FnExactWireCut_tree aNet aA aB (fun d => g (leaf0_ d)) (g fail_) := by
  unfold L.FnExactWireCut_tree; simp only [apply_cnd g, apply_optC g, apply_sumC g]
noncomputable def L.FnExactWireCut_t (aNet : List Int) (aA : Int) (aB : Int) : Option (Bool) := L.FnExactWireCut_tree aNet aA aB (fun d => some d) none
theorem L.FnExactWireCut_den (aNet : List Int) (aA : Int) (aB : Int) (κ : V → List E → R) : L.FnExactWireCut_F [.ro true (.ints .i64 aNet), .int .i64 aA, .int .i64 aB] [] κ = optC (L.FnExactWireCut_t aNet aA aB) (fun (r : Bool) => κ (.bool r) []) none := by
  have hu : L.FnExactWireCut_F [.ro true (.ints .i64 aNet), .int .i64 aA, .int .i64 aB] [] κ = L.FnExactWireCut_tree aNet aA aB (fun d => κ (.bool d) []) none := by
    kernel_rfl
  rw [hu]
  exact (L.FnExactWireCut_tree_nat (fun o => optC o (fun (r : Bool) => κ (.bool r) []) none) aNet aA aB (fun d => some d) none).symm
noncomputable def L.FnExactWireCut_s : D.Spec where
  keep := true
  pure := true
  add := true
  ds := [.int .i64, .invalid, .invalid]
  sp := fun args h κ => match args, h with
    | [.ro true (.ints .i64 aNet), .int .i64 aA, .int .i64 aB], [] => optC (L.FnExactWireCut_t aNet aA aB) (fun (r : Bool) => κ (.bool r) []) none
    | _, _ => none
theorem L.FnExactWireCut_ok : SpecOk Try.prog 4 L.FnExactWireCut_s := by
  refine SpecOk.of TDok mixed (T := L.FnExactWireCut_T) ?_ (ann := L.FnExactWireCut_ann) Try.func4 rfl (by decide +kernel) ?_ ?_ ?_ ?_
  · intro p hp
    simp only [L.FnExactWireCut_T, List.mem_cons, List.not_mem_nil, or_false] at hp
    rcases hp with rfl | rfl | rfl | rfl | rfl | rfl
    · exact L.toIntS_ok
    · exact S.WireCut_ok
    · exact I.WireCut_ok
    · exact L.eqIntS_ok
    · exact L.markIntS_ok
    · exact L.heldIntS_ok
  · intro args h κ r hh
    simp only [L.FnExactWireCut_s] at hh
    split at hh
    · exact (L.FnExactWireCut_den _ _ _ κ).trans hh
    · cases hh
  · intro args h κ r hh
    simp only [L.FnExactWireCut_s] at hh ⊢
    split at hh
    · exact optC_law2 (F := fun (r : Bool) κ => κ (.bool r) []) (fun b κ r hb => ⟨_, _, hb, fun _ => rfl⟩) hh
    · cases hh
  · intro _ args h κ r hh
    simp only [L.FnExactWireCut_s] at hh
    split at hh
    · exact ⟨rfl, fun _ => rfl⟩
    · cases hh
  · intro _ args h κ r hh
    simp only [L.FnExactWireCut_s] at hh
    split at hh
    · rfl
    · cases hh

-- loop.example/guardsonnets/spec.DrawWireJoined
noncomputable def S.DrawWireJoined_T : List (Nat × D.Spec) := [(40, S.l20Open_s), (41, S.l20Pair_s)]
def S.DrawWireJoined_ann : Nat → List Nat × List Nat
  | _ => ([], [])
noncomputable def S.DrawWireJoined_F (args : List V) (h : List E) (κ : V → List E → R) : R := funC TD (tableK S.DrawWireJoined_T) S.DrawWireJoined_ann (drawOk TD (tableP S.DrawWireJoined_T)) FUEL Try.f26 args h κ
noncomputable def S.DrawWireJoined_tree {α : Type} (code : List Int) (leaf0_ : Int × Int × (List Int) → α) (fail_ : α) : α :=
  (optC (S.l20Open_t code) (fun c_1 => (optC (S.l20Pair_t c_1.fst c_1.snd 12) (fun c_2 => (leaf0_ (c_2.fst, c_2.snd.fst, c_2.snd.snd.snd.snd))) fail_)) fail_)
theorem S.DrawWireJoined_tree_nat {α γ : Type} (g : α → γ) (code : List Int) (leaf0_ : Int × Int × (List Int) → α) (fail_ : α) : g (S.DrawWireJoined_tree code leaf0_ fail_) = S.DrawWireJoined_tree code (fun d => g (leaf0_ d)) (g fail_) := by
  unfold S.DrawWireJoined_tree; simp only [apply_cnd g, apply_optC g, apply_sumC g]
noncomputable def S.DrawWireJoined_t (code : List Int) : Option (Int × Int × (List Int)) := S.DrawWireJoined_tree code (fun d => some d) none
theorem S.DrawWireJoined_den (code : List Int) (κ : V → List E → R) : S.DrawWireJoined_F [.ro true (.ints .u8 code)] [] κ = optC (S.DrawWireJoined_t code) (fun (r : Int × Int × (List Int)) => κ (.tup [(.own 0), (.int .i64 r.1), (.int .i64 r.2.1)]) [.row (.ints .i64 r.2.2)]) none := by
  have hu : S.DrawWireJoined_F [.ro true (.ints .u8 code)] [] κ = S.DrawWireJoined_tree code (fun d => κ (.tup [(.own 0), (.int .i64 d.1), (.int .i64 d.2.1)]) [.row (.ints .i64 d.2.2)]) none := by
    kernel_rfl
  rw [hu]
  exact (S.DrawWireJoined_tree_nat (fun o => optC o (fun (r : Int × Int × (List Int)) => κ (.tup [(.own 0), (.int .i64 r.1), (.int .i64 r.2.1)]) [.row (.ints .i64 r.2.2)]) none) code (fun d => some d) none).symm
noncomputable def S.DrawWireJoined_s : D.Spec where
  keep := true
  pure := false
  add := true
  ds := [.int .u8]
  sp := fun args h κ => match args, h with
    | [.ro true (.ints .u8 code)], [] => optC (S.DrawWireJoined_t code) (fun (r : Int × Int × (List Int)) => κ (.tup [(.own 0), (.int .i64 r.1), (.int .i64 r.2.1)]) [.row (.ints .i64 r.2.2)]) none
    | _, _ => none
theorem S.DrawWireJoined_ok : SpecOk Try.prog 26 S.DrawWireJoined_s := by
  refine SpecOk.of TDok mixed (T := S.DrawWireJoined_T) ?_ (ann := S.DrawWireJoined_ann) Try.func26 rfl (by decide +kernel) ?_ ?_ ?_ ?_
  · intro p hp
    simp only [S.DrawWireJoined_T, List.mem_cons, List.not_mem_nil, or_false] at hp
    rcases hp with rfl | rfl
    · exact S.l20Open_ok
    · exact S.l20Pair_ok
  · intro args h κ r hh
    simp only [S.DrawWireJoined_s] at hh
    split at hh
    · exact (S.DrawWireJoined_den _ κ).trans hh
    · cases hh
  · intro args h κ r hh
    simp only [S.DrawWireJoined_s] at hh ⊢
    split at hh
    · exact optC_law2 (F := fun (r : Int × Int × (List Int)) κ => κ (.tup [(.own 0), (.int .i64 r.1), (.int .i64 r.2.1)]) [.row (.ints .i64 r.2.2)]) (fun b κ r hb => ⟨_, _, hb, fun _ => rfl⟩) hh
    · cases hh
  · intro hh; cases hh
  · intro _ args h κ r hh
    simp only [S.DrawWireJoined_s] at hh
    split at hh
    · rfl
    · cases hh

-- loop.example/guardsonnets/spec.WireJoined
noncomputable def S.WireJoined_T : List (Nat × D.Spec) := [(48, S.l16Pair_s), (49, S.l16Turned_s)]
def S.WireJoined_ann : Nat → List Nat × List Nat
  | _ => ([], [])
noncomputable def S.WireJoined_F (args : List V) (h : List E) (κ : V → List E → R) : R := funC TD (tableK S.WireJoined_T) S.WireJoined_ann (drawOk TD (tableP S.WireJoined_T)) FUEL Try.f27 args h κ
noncomputable def S.WireJoined_tree {α : Type} (net : List Int) (a : Int) (b_ : Int) (leaf0_ : List Int → α) (fail_ : α) : α :=
  (optC (S.l16Pair_t net a b_) (fun c_1 => (bif !c_1 then (leaf0_ ([])) else (bif decide (0 ≤ a) && decide (a < (↑net.length : Int)) then (bif decide (b_ < 0) then fail_ else (bif ((eli net a.toNat).fdiv (2 ^ min b_.toNat IntKind.i64.bits)).tmod 2 == 1 then (leaf0_ ([])) else (optC (S.l16Turned_t net a b_) (fun c_2 => (leaf0_ c_2)) fail_))) else fail_))) fail_)
theorem S.WireJoined_tree_nat {α γ : Type} (g : α → γ) (net : List Int) (a : Int) (b_ : Int) (leaf0_ : List Int → α) (fail_ : α) : g (S.WireJoined_tree net a b_ leaf0_ fail_) = S.WireJoined_tree net a b_ (fun d => g (leaf0_ d)) (g fail_) := by
  unfold S.WireJoined_tree; simp only [apply_cnd g, apply_optC g, apply_sumC g]
noncomputable def S.WireJoined_t (net : List Int) (a : Int) (b_ : Int) : Option (List Int) := S.WireJoined_tree net a b_ (fun d => some d) none
theorem S.WireJoined_den (net : List Int) (a : Int) (b_ : Int) (κ : V → List E → R) : S.WireJoined_F [.ro false (.ints .i64 net), .int .i64 a, .int .i64 b_] [] κ = optC (S.WireJoined_t net a b_) (fun (r : List Int) => κ (.own 0) [.row (.ints .i64 r)]) none := by
  have hu : S.WireJoined_F [.ro false (.ints .i64 net), .int .i64 a, .int .i64 b_] [] κ = S.WireJoined_tree net a b_ (fun d => κ (.own 0) [.row (.ints .i64 d)]) none := by
    kernel_rfl
  rw [hu]
  exact (S.WireJoined_tree_nat (fun o => optC o (fun (r : List Int) => κ (.own 0) [.row (.ints .i64 r)]) none) net a b_ (fun d => some d) none).symm
noncomputable def S.WireJoined_s : D.Spec where
  keep := false
  pure := false
  add := true
  ds := [.int .i64, .invalid, .invalid]
  sp := fun args h κ => match args, h with
    | [.ro false (.ints .i64 net), .int .i64 a, .int .i64 b_], [] => optC (S.WireJoined_t net a b_) (fun (r : List Int) => κ (.own 0) [.row (.ints .i64 r)]) none
    | _, _ => none
theorem S.WireJoined_ok : SpecOk Try.prog 27 S.WireJoined_s := by
  refine SpecOk.of TDok mixed (T := S.WireJoined_T) ?_ (ann := S.WireJoined_ann) Try.func27 rfl (by decide +kernel) ?_ ?_ ?_ ?_
  · intro p hp
    simp only [S.WireJoined_T, List.mem_cons, List.not_mem_nil, or_false] at hp
    rcases hp with rfl | rfl
    · exact S.l16Pair_ok
    · exact S.l16Turned_ok
  · intro args h κ r hh
    simp only [S.WireJoined_s] at hh
    split at hh
    · exact (S.WireJoined_den _ _ _ κ).trans hh
    · cases hh
  · intro args h κ r hh
    simp only [S.WireJoined_s] at hh ⊢
    split at hh
    · exact optC_law2 (F := fun (r : List Int) κ => κ (.own 0) [.row (.ints .i64 r)]) (fun b κ r hb => ⟨_, _, hb, fun _ => rfl⟩) hh
    · cases hh
  · intro hh; cases hh
  · intro _ args h κ r hh
    simp only [S.WireJoined_s] at hh
    split at hh
    · rfl
    · cases hh

-- loop.example/guardsonnets/impl.nextTo
noncomputable def I.nextTo_T : List (Nat × D.Spec) := [(46, I.hasPlace_s)]
def I.nextTo_ann : Nat → List Nat × List Nat
  | 3 => ([0, 1, 5, 6], [5])
  | _ => ([], [])
noncomputable def I.nextTo_F (args : List V) (h : List E) (κ : V → List E → R) : R := funC TD (tableK I.nextTo_T) I.nextTo_ann (drawOk TD (tableP I.nextTo_T)) FUEL Try.f71 args h κ
noncomputable def I.nextTo_L3 (n : Nat) (σ : St) (k : X → St → R) : R := iterC 0 (fun σ k => denC TD (tableK I.nextTo_T) I.nextTo_ann (drawOk TD (tableP I.nextTo_T)) 0 FUEL ((findLoop 3 (Try.f71.body.getD .skip)).getD .skip) σ k) [0, 1, 5, 6] [5] n σ k
noncomputable def I.nextTo_k3 (κ : V → List E → R) : X → St → R := (afterC TD (tableK I.nextTo_T) I.nextTo_ann (drawOk TD (tableP I.nextTo_T)) 0 FUEL 3 (Try.f71.body.getD .skip) (finC TD 0 Try.f71 κ)).getD (fun _ _ => none)
noncomputable def I.nextTo_step3 {α : Type} (x0 : List Int) (x1 : Int) (x5 : Int) (x6 : Int) (next_ : Int × Int → α) (out0_ : Int → α) (fail_ : α) : α :=
  (bif decide (x6 < (↑x0.length : Int)) then (optC (I.hasPlace_t x1 x6) (fun c_1 => (bif c_1 then (bif decide (0 ≤ x6) && decide (x6 < (↑x0.length : Int)) then (next_ (bits BinOp.or IntKind.i64 x5 (eli x0 x6.toNat), IntKind.i64.wrap (x6 + 1))) else fail_) else (next_ (x5, IntKind.i64.wrap (x6 + 1))))) fail_) else (out0_ x5))
theorem I.nextTo_step3_nat {α γ : Type} (g : α → γ) (x0 : List Int) (x1 : Int) (x5 : Int) (x6 : Int) (next_ : Int × Int → α) (out0_ : Int → α) (fail_ : α) : g (I.nextTo_step3 x0 x1 x5 x6 next_ out0_ fail_) = I.nextTo_step3 x0 x1 x5 x6 (fun s => g (next_ s)) (fun d => g (out0_ d)) (g fail_) := by
  unfold I.nextTo_step3; simp only [apply_cnd g, apply_optC g, apply_sumC g]
noncomputable def I.nextTo_run3 (x0 : List Int) (x1 : Int) : Nat → Int × Int → Option (Int)
  | 0, _ => none
  | n + 1, s_ => I.nextTo_step3 x0 x1 s_.1 s_.2 (I.nextTo_run3 x0 x1 n) (fun d => some d) none
theorem I.nextTo_L3_run (x0 : List Int) (x1 : Int) (n : Nat) (s_ : Int × Int) (k : X → St → R) : I.nextTo_L3 n { n := 23, t := [(0, (.ro false (.ints .i64 x0))), (1, (.int .i64 x1)), (5, (.int .i64 s_.1)), (6, (.int .i64 s_.2))], h := [] } k = optC (I.nextTo_run3 x0 x1 n s_) (fun (r : Int) => k (.exit 0) { n := 23, t := [(5, (.int .i64 r))], h := [] }) none := by
  induction n generalizing s_ with
  | zero => rfl
  | succ n ih =>
    have hu : I.nextTo_L3 (n + 1) { n := 23, t := [(0, (.ro false (.ints .i64 x0))), (1, (.int .i64 x1)), (5, (.int .i64 s_.1)), (6, (.int .i64 s_.2))], h := [] } k = I.nextTo_step3 x0 x1 s_.1 s_.2 (fun s_ => I.nextTo_L3 n { n := 23, t := [(0, (.ro false (.ints .i64 x0))), (1, (.int .i64 x1)), (5, (.int .i64 s_.1)), (6, (.int .i64 s_.2))], h := [] } k) (fun d => k (.exit 0) { n := 23, t := [(5, (.int .i64 d))], h := [] }) none := by
      kernel_rfl
    have hs : (fun s_ : Int × Int => I.nextTo_L3 n { n := 23, t := [(0, (.ro false (.ints .i64 x0))), (1, (.int .i64 x1)), (5, (.int .i64 s_.1)), (6, (.int .i64 s_.2))], h := [] } k) = fun s_ => optC (I.nextTo_run3 x0 x1 n s_) (fun (r : Int) => k (.exit 0) { n := 23, t := [(5, (.int .i64 r))], h := [] }) none := funext ih
    rw [hu, hs]
    exact (I.nextTo_step3_nat (fun o => optC o (fun (r : Int) => k (.exit 0) { n := 23, t := [(5, (.int .i64 r))], h := [] }) none) x0 x1 s_.1 s_.2 (I.nextTo_run3 x0 x1 n) (fun d => some d) none).symm
noncomputable def I.nextTo_tree {α : Type} (net : List Int) (set_ : Int) (leaf0_ : Int → α) (fail_ : α) : α :=
  (optC (I.nextTo_run3 net set_ FUEL (0, 0)) (fun qy_2 => (leaf0_ qy_2)) fail_)
theorem I.nextTo_tree_nat {α γ : Type} (g : α → γ) (net : List Int) (set_ : Int) (leaf0_ : Int → α) (fail_ : α) : g (I.nextTo_tree net set_ leaf0_ fail_) = I.nextTo_tree net set_ (fun d => g (leaf0_ d)) (g fail_) := by
  unfold I.nextTo_tree; simp only [apply_cnd g, apply_optC g, apply_sumC g]
noncomputable def I.nextTo_t (net : List Int) (set_ : Int) : Option (Int) := I.nextTo_tree net set_ (fun d => some d) none
theorem I.nextTo_den (net : List Int) (set_ : Int) (κ : V → List E → R) : I.nextTo_F [.ro false (.ints .i64 net), .int .i64 set_] [] κ = optC (I.nextTo_t net set_) (fun (r : Int) => κ (.int .i64 r) []) none := by
  have hu : I.nextTo_F [.ro false (.ints .i64 net), .int .i64 set_] [] κ = I.nextTo_tree net set_ (fun d => κ (.int .i64 d) []) none := by
    refine Eq.trans (show I.nextTo_F [.ro false (.ints .i64 net), .int .i64 set_] [] κ = (I.nextTo_L3 FUEL { n := 23, t := [(0, (.ro false (.ints .i64 net))), (1, (.int .i64 set_)), (5, (.int .i64 0)), (6, (.int .i64 0))], h := [] } (I.nextTo_k3 κ)) by kernel_rfl) ?_
    refine (I.nextTo_L3_run net set_ FUEL (0, 0) (I.nextTo_k3 κ)).trans (optC_congr (fun qy_2 => ?_))
    kernel_rfl
  rw [hu]
  exact (I.nextTo_tree_nat (fun o => optC o (fun (r : Int) => κ (.int .i64 r) []) none) net set_ (fun d => some d) none).symm
noncomputable def I.nextTo_s : D.Spec where
  keep := false
  pure := true
  add := true
  ds := [.int .i64, .invalid]
  sp := fun args h κ => match args, h with
    | [.ro false (.ints .i64 net), .int .i64 set_], [] => optC (I.nextTo_t net set_) (fun (r : Int) => κ (.int .i64 r) []) none
    | _, _ => none
theorem I.nextTo_ok : SpecOk Try.prog 71 I.nextTo_s := by
  refine SpecOk.of TDok mixed (T := I.nextTo_T) ?_ (ann := I.nextTo_ann) Try.func71 rfl (by decide +kernel) ?_ ?_ ?_ ?_
  · intro p hp
    simp only [I.nextTo_T, List.mem_cons, List.not_mem_nil, or_false] at hp
    rcases hp with rfl
    · exact I.hasPlace_ok
  · intro args h κ r hh
    simp only [I.nextTo_s] at hh
    split at hh
    · exact (I.nextTo_den _ _ κ).trans hh
    · cases hh
  · intro args h κ r hh
    simp only [I.nextTo_s] at hh ⊢
    split at hh
    · exact optC_law2 (F := fun (r : Int) κ => κ (.int .i64 r) []) (fun b κ r hb => ⟨_, _, hb, fun _ => rfl⟩) hh
    · cases hh
  · intro _ args h κ r hh
    simp only [I.nextTo_s] at hh
    split at hh
    · exact ⟨rfl, fun _ => rfl⟩
    · cases hh
  · intro _ args h κ r hh
    simp only [I.nextTo_s] at hh
    split at hh
    · rfl
    · cases hh

-- loop.example/guardsonnets/impl.apartIn
noncomputable def I.apartIn_T : List (Nat × D.Spec) := [(71, I.nextTo_s)]
def I.apartIn_ann : Nat → List Nat × List Nat
  | _ => ([], [])
noncomputable def I.apartIn_F (args : List V) (h : List E) (κ : V → List E → R) : R := funC TD (tableK I.apartIn_T) I.apartIn_ann (drawOk TD (tableP I.apartIn_T)) FUEL Try.f56 args h κ
noncomputable def I.apartIn_tree {α : Type} (net : List Int) (set_ : Int) (leaf0_ : Bool → α) (fail_ : α) : α :=
  (optC (I.nextTo_t net set_) (fun c_1 => (leaf0_ (bits BinOp.and IntKind.i64 set_ c_1 == 0))) fail_)
theorem I.apartIn_tree_nat {α γ : Type} (g : α → γ) (net : List Int) (set_ : Int) (leaf0_ : Bool → α) (fail_ : α) : g (I.apartIn_tree net set_ leaf0_ fail_) = I.apartIn_tree net set_ (fun d => g (leaf0_ d)) (g fail_) := by
  unfold I.apartIn_tree; simp only [apply_cnd g, apply_optC g, apply_sumC g]
noncomputable def I.apartIn_t (net : List Int) (set_ : Int) : Option (Bool) := I.apartIn_tree net set_ (fun d => some d) none
theorem I.apartIn_den (net : List Int) (set_ : Int) (κ : V → List E → R) : I.apartIn_F [.ro false (.ints .i64 net), .int .i64 set_] [] κ = optC (I.apartIn_t net set_) (fun (r : Bool) => κ (.bool r) []) none := by
  have hu : I.apartIn_F [.ro false (.ints .i64 net), .int .i64 set_] [] κ = I.apartIn_tree net set_ (fun d => κ (.bool d) []) none := by
    kernel_rfl
  rw [hu]
  exact (I.apartIn_tree_nat (fun o => optC o (fun (r : Bool) => κ (.bool r) []) none) net set_ (fun d => some d) none).symm
noncomputable def I.apartIn_s : D.Spec where
  keep := false
  pure := true
  add := true
  ds := [.int .i64, .invalid]
  sp := fun args h κ => match args, h with
    | [.ro false (.ints .i64 net), .int .i64 set_], [] => optC (I.apartIn_t net set_) (fun (r : Bool) => κ (.bool r) []) none
    | _, _ => none
theorem I.apartIn_ok : SpecOk Try.prog 56 I.apartIn_s := by
  refine SpecOk.of TDok mixed (T := I.apartIn_T) ?_ (ann := I.apartIn_ann) Try.func56 rfl (by decide +kernel) ?_ ?_ ?_ ?_
  · intro p hp
    simp only [I.apartIn_T, List.mem_cons, List.not_mem_nil, or_false] at hp
    rcases hp with rfl
    · exact I.nextTo_ok
  · intro args h κ r hh
    simp only [I.apartIn_s] at hh
    split at hh
    · exact (I.apartIn_den _ _ κ).trans hh
    · cases hh
  · intro args h κ r hh
    simp only [I.apartIn_s] at hh ⊢
    split at hh
    · exact optC_law2 (F := fun (r : Bool) κ => κ (.bool r) []) (fun b κ r hb => ⟨_, _, hb, fun _ => rfl⟩) hh
    · cases hh
  · intro _ args h κ r hh
    simp only [I.apartIn_s] at hh
    split at hh
    · exact ⟨rfl, fun _ => rfl⟩
    · cases hh
  · intro _ args h κ r hh
    simp only [I.apartIn_s] at hh
    split at hh
    · rfl
    · cases hh

-- loop.example/guardsonnets/impl.MostApart
noncomputable def I.MostApart_T : List (Nat × D.Spec) := [(19, I.NetOk_s), (55, I.allOf_s), (50, I.sizeOf_s), (56, I.apartIn_s)]
def I.MostApart_ann : Nat → List Nat × List Nat
  | 5 => ([0, 3, 4], [3])
  | _ => ([], [])
noncomputable def I.MostApart_F (args : List V) (h : List E) (κ : V → List E → R) : R := funC TD (tableK I.MostApart_T) I.MostApart_ann (drawOk TD (tableP I.MostApart_T)) FUEL Try.f28 args h κ
noncomputable def I.MostApart_L5 (n : Nat) (σ : St) (k : X → St → R) : R := iterC 0 (fun σ k => denC TD (tableK I.MostApart_T) I.MostApart_ann (drawOk TD (tableP I.MostApart_T)) 0 FUEL ((findLoop 5 (Try.f28.body.getD .skip)).getD .skip) σ k) [0, 3, 4] [3] n σ k
noncomputable def I.MostApart_k5 (κ : V → List E → R) : X → St → R := (afterC TD (tableK I.MostApart_T) I.MostApart_ann (drawOk TD (tableP I.MostApart_T)) 0 FUEL 5 (Try.f28.body.getD .skip) (finC TD 0 Try.f28 κ)).getD (fun _ _ => none)
noncomputable def I.MostApart_step5 {α : Type} (x0 : List Int) (x3 : Int) (x4 : Int) (next_ : Int × Int → α) (out0_ : Int → α) (fail_ : α) : α :=
  (optC (I.allOf_t x0) (fun c_2 => (bif decide (x4 ≤ c_2) then (optC (I.sizeOf_t x4) (fun c_3 => (bif decide (c_3 > x3) then (optC (I.apartIn_t x0 x4) (fun c_4 => (bif c_4 then (optC (I.sizeOf_t x4) (fun c_5 => (next_ (c_5, IntKind.i64.wrap (x4 + 1)))) fail_) else (next_ (x3, IntKind.i64.wrap (x4 + 1))))) fail_) else (next_ (x3, IntKind.i64.wrap (x4 + 1))))) fail_) else (out0_ x3))) fail_)
theorem I.MostApart_step5_nat {α γ : Type} (g : α → γ) (x0 : List Int) (x3 : Int) (x4 : Int) (next_ : Int × Int → α) (out0_ : Int → α) (fail_ : α) : g (I.MostApart_step5 x0 x3 x4 next_ out0_ fail_) = I.MostApart_step5 x0 x3 x4 (fun s => g (next_ s)) (fun d => g (out0_ d)) (g fail_) := by
  unfold I.MostApart_step5; simp only [apply_cnd g, apply_optC g, apply_sumC g]
noncomputable def I.MostApart_run5 (x0 : List Int) : Nat → Int × Int → Option (Int)
  | 0, _ => none
  | n + 1, s_ => I.MostApart_step5 x0 s_.1 s_.2 (I.MostApart_run5 x0 n) (fun d => some d) none
theorem I.MostApart_L5_run (x0 : List Int) (n : Nat) (s_ : Int × Int) (k : X → St → R) : I.MostApart_L5 n { n := 26, t := [(0, (.ro false (.ints .i64 x0))), (3, (.int .i64 s_.1)), (4, (.int .i64 s_.2))], h := [] } k = optC (I.MostApart_run5 x0 n s_) (fun (r : Int) => k (.exit 0) { n := 26, t := [(3, (.int .i64 r))], h := [] }) none := by
  induction n generalizing s_ with
  | zero => rfl
  | succ n ih =>
    have hu : I.MostApart_L5 (n + 1) { n := 26, t := [(0, (.ro false (.ints .i64 x0))), (3, (.int .i64 s_.1)), (4, (.int .i64 s_.2))], h := [] } k = I.MostApart_step5 x0 s_.1 s_.2 (fun s_ => I.MostApart_L5 n { n := 26, t := [(0, (.ro false (.ints .i64 x0))), (3, (.int .i64 s_.1)), (4, (.int .i64 s_.2))], h := [] } k) (fun d => k (.exit 0) { n := 26, t := [(3, (.int .i64 d))], h := [] }) none := by
      kernel_rfl
    have hs : (fun s_ : Int × Int => I.MostApart_L5 n { n := 26, t := [(0, (.ro false (.ints .i64 x0))), (3, (.int .i64 s_.1)), (4, (.int .i64 s_.2))], h := [] } k) = fun s_ => optC (I.MostApart_run5 x0 n s_) (fun (r : Int) => k (.exit 0) { n := 26, t := [(3, (.int .i64 r))], h := [] }) none := funext ih
    rw [hu, hs]
    exact (I.MostApart_step5_nat (fun o => optC o (fun (r : Int) => k (.exit 0) { n := 26, t := [(3, (.int .i64 r))], h := [] }) none) x0 s_.1 s_.2 (I.MostApart_run5 x0 n) (fun d => some d) none).symm
noncomputable def I.MostApart_tree {α : Type} (net : List Int) (leaf0_ : Int → α) (fail_ : α) : α :=
  (optC (I.NetOk_t net) (fun c_1 => (bif !c_1 then (leaf0_ (-1)) else (optC (I.MostApart_run5 net FUEL (0, 0)) (fun qy_6 => (leaf0_ qy_6)) fail_))) fail_)
theorem I.MostApart_tree_nat {α γ : Type} (g : α → γ) (net : List Int) (leaf0_ : Int → α) (fail_ : α) : g (I.MostApart_tree net leaf0_ fail_) = I.MostApart_tree net (fun d => g (leaf0_ d)) (g fail_) := by
  unfold I.MostApart_tree; simp only [apply_cnd g, apply_optC g, apply_sumC g]
noncomputable def I.MostApart_t (net : List Int) : Option (Int) := I.MostApart_tree net (fun d => some d) none
theorem I.MostApart_den (net : List Int) (κ : V → List E → R) : I.MostApart_F [.ro false (.ints .i64 net)] [] κ = optC (I.MostApart_t net) (fun (r : Int) => κ (.int .i64 r) []) none := by
  have hu : I.MostApart_F [.ro false (.ints .i64 net)] [] κ = I.MostApart_tree net (fun d => κ (.int .i64 d) []) none := by
    refine Eq.trans (show I.MostApart_F [.ro false (.ints .i64 net)] [] κ = (optC (I.NetOk_t net) (fun c_1 => (bif !c_1 then (κ (.int .i64 (-1)) []) else (I.MostApart_L5 FUEL { n := 26, t := [(0, (.ro false (.ints .i64 net))), (3, (.int .i64 0)), (4, (.int .i64 0))], h := [] } (I.MostApart_k5 κ)))) none) by kernel_rfl) ?_
    refine optC_congr (fun c_1 => ?_)
    refine cnd_congr ?_ ?_
    · kernel_rfl
    · refine (I.MostApart_L5_run net FUEL (0, 0) (I.MostApart_k5 κ)).trans (optC_congr (fun qy_6 => ?_))
      kernel_rfl
  rw [hu]
  exact (I.MostApart_tree_nat (fun o => optC o (fun (r : Int) => κ (.int .i64 r) []) none) net (fun d => some d) none).symm
noncomputable def I.MostApart_s : D.Spec where
  keep := false
  pure := true
  add := true
  ds := [.int .i64]
  sp := fun args h κ => match args, h with
    | [.ro false (.ints .i64 net)], [] => optC (I.MostApart_t net) (fun (r : Int) => κ (.int .i64 r) []) none
    | _, _ => none
theorem I.MostApart_ok : SpecOk Try.prog 28 I.MostApart_s := by
  refine SpecOk.of TDok mixed (T := I.MostApart_T) ?_ (ann := I.MostApart_ann) Try.func28 rfl (by decide +kernel) ?_ ?_ ?_ ?_
  · intro p hp
    simp only [I.MostApart_T, List.mem_cons, List.not_mem_nil, or_false] at hp
    rcases hp with rfl | rfl | rfl | rfl
    · exact I.NetOk_ok
    · exact I.allOf_ok
    · exact I.sizeOf_ok
    · exact I.apartIn_ok
  · intro args h κ r hh
    simp only [I.MostApart_s] at hh
    split at hh
    · exact (I.MostApart_den _ κ).trans hh
    · cases hh
  · intro args h κ r hh
    simp only [I.MostApart_s] at hh ⊢
    split at hh
    · exact optC_law2 (F := fun (r : Int) κ => κ (.int .i64 r) []) (fun b κ r hb => ⟨_, _, hb, fun _ => rfl⟩) hh
    · cases hh
  · intro _ args h κ r hh
    simp only [I.MostApart_s] at hh
    split at hh
    · exact ⟨rfl, fun _ => rfl⟩
    · cases hh
  · intro _ args h κ r hh
    simp only [I.MostApart_s] at hh
    split at hh
    · rfl
    · cases hh

-- loop.example/guardsonnets/laws.FnWireJoined
noncomputable def L.FnWireJoined_T : List (Nat × D.Spec) := [(26, S.DrawWireJoined_s), (21, I.WireJoined_s), (27, S.WireJoined_s), (15, L.sameInts_s), (17, L.alive_s), (18, I.FewestWatch_s), (28, I.MostApart_s), (19, I.NetOk_s), (20, I.WiresOf_s), (14, I.WireCut_s)]
def L.FnWireJoined_ann : Nat → List Nat × List Nat
  | _ => ([], [])
noncomputable def L.FnWireJoined_F (args : List V) (h : List E) (κ : V → List E → R) : R := funC TD (tableK L.FnWireJoined_T) L.FnWireJoined_ann (drawOk TD (tableP L.FnWireJoined_T)) FUEL Try.f5 args h κ
noncomputable def L.FnWireJoined_tree {α : Type} (code : List Int) (leaf0_ : Bool → α) (fail_ : α) : α :=
  (bif decide ((↑code.length : Int) > 1048576) then (leaf0_ true) else (optC (S.DrawWireJoined_t code) (fun c_1 => (optC (I.WireJoined_t c_1.snd.snd c_1.fst c_1.snd.fst) (fun c_2 => (optC (S.WireJoined_t c_1.snd.snd c_1.fst c_1.snd.fst) (fun c_3 => (optC (L.sameInts_t c_2 c_3) (fun c_4 => (bif !c_4 then (leaf0_ false) else (bif (↑c_2.length : Int) == 0 then (optC (L.alive_t) (fun c_5 => (leaf0_ c_5)) fail_) else (optC (I.FewestWatch_t c_1.snd.snd) (fun c_6 => (optC (I.FewestWatch_t c_2) (fun c_7 => (optC (I.MostApart_t c_1.snd.snd) (fun c_8 => (optC (I.MostApart_t c_2) (fun c_9 => (optC (I.NetOk_t c_2) (fun c_10 => (bif c_10 then (optC (I.WiresOf_t c_2) (fun c_11 => (optC (I.WiresOf_t c_1.snd.snd) (fun c_12 => (bif c_11 == IntKind.i64.wrap (c_12 + 1) then (optC (I.WireCut_t c_2 c_1.snd.fst c_1.fst) (fun c_13 => (optC (L.sameInts_t c_13 c_1.snd.snd) (fun c_14 => (bif c_14 then (bif decide (IntKind.i64.wrap (c_6 - c_7) ≥ 0) then (bif decide (IntKind.i64.wrap (c_6 - c_7) ≤ 1) then (bif decide (IntKind.i64.wrap (c_8 - c_9) ≥ 0) then (leaf0_ (decide (IntKind.i64.wrap (c_8 - c_9) ≤ 1))) else (leaf0_ false)) else (leaf0_ false)) else (leaf0_ false)) else (leaf0_ false))) fail_)) fail_) else (leaf0_ false))) fail_)) fail_) else (leaf0_ false))) fail_)) fail_)) fail_)) fail_)) fail_)))) fail_)) fail_)) fail_)) fail_))
theorem L.FnWireJoined_tree_nat {α γ : Type} (g : α → γ) (code : List Int) (leaf0_ : Bool → α) (fail_ : α) : g (L.FnWireJoined_tree code leaf0_ fail_) = L.FnWireJoined_tree code (fun d => g (leaf0_ d)) (g fail_) := by
  unfold L.FnWireJoined_tree; simp only [apply_cnd g, apply_optC g, apply_sumC g]
noncomputable def L.FnWireJoined_t (code : List Int) : Option (Bool) := L.FnWireJoined_tree code (fun d => some d) none
theorem L.FnWireJoined_den (code : List Int) (κ : V → List E → R) : L.FnWireJoined_F [.ro true (.ints .u8 code)] [] κ = optC (L.FnWireJoined_t code) (fun (r : Bool) => κ (.bool r) []) none := by
  have hu : L.FnWireJoined_F [.ro true (.ints .u8 code)] [] κ = L.FnWireJoined_tree code (fun d => κ (.bool d) []) none := by
    kernel_rfl
  rw [hu]
  exact (L.FnWireJoined_tree_nat (fun o => optC o (fun (r : Bool) => κ (.bool r) []) none) code (fun d => some d) none).symm
noncomputable def L.FnWireJoined_s : D.Spec where
  keep := true
  pure := true
  add := true
  ds := [.int .u8]
  sp := fun args h κ => match args, h with
    | [.ro true (.ints .u8 code)], [] => optC (L.FnWireJoined_t code) (fun (r : Bool) => κ (.bool r) []) none
    | _, _ => none
theorem L.FnWireJoined_ok : SpecOk Try.prog 5 L.FnWireJoined_s := by
  refine SpecOk.of TDok mixed (T := L.FnWireJoined_T) ?_ (ann := L.FnWireJoined_ann) Try.func5 rfl (by decide +kernel) ?_ ?_ ?_ ?_
  · intro p hp
    simp only [L.FnWireJoined_T, List.mem_cons, List.not_mem_nil, or_false] at hp
    rcases hp with rfl | rfl | rfl | rfl | rfl | rfl | rfl | rfl | rfl | rfl
    · exact S.DrawWireJoined_ok
    · exact I.WireJoined_ok
    · exact S.WireJoined_ok
    · exact L.sameInts_ok
    · exact L.alive_ok
    · exact I.FewestWatch_ok
    · exact I.MostApart_ok
    · exact I.NetOk_ok
    · exact I.WiresOf_ok
    · exact I.WireCut_ok
  · intro args h κ r hh
    simp only [L.FnWireJoined_s] at hh
    split at hh
    · exact (L.FnWireJoined_den _ κ).trans hh
    · cases hh
  · intro args h κ r hh
    simp only [L.FnWireJoined_s] at hh ⊢
    split at hh
    · exact optC_law2 (F := fun (r : Bool) κ => κ (.bool r) []) (fun b κ r hb => ⟨_, _, hb, fun _ => rfl⟩) hh
    · cases hh
  · intro _ args h κ r hh
    simp only [L.FnWireJoined_s] at hh
    split at hh
    · exact ⟨rfl, fun _ => rfl⟩
    · cases hh
  · intro _ args h κ r hh
    simp only [L.FnWireJoined_s] at hh
    split at hh
    · rfl
    · cases hh

-- loop.example/guardsonnets/laws.FnExactWireJoined
noncomputable def L.FnExactWireJoined_T : List (Nat × D.Spec) := [(22, L.toIntS_s), (27, S.WireJoined_s), (21, I.WireJoined_s), (23, L.eqIntS_s), (24, L.markIntS_s), (25, L.heldIntS_s)]
def L.FnExactWireJoined_ann : Nat → List Nat × List Nat
  | _ => ([], [])
noncomputable def L.FnExactWireJoined_F (args : List V) (h : List E) (κ : V → List E → R) : R := funC TD (tableK L.FnExactWireJoined_T) L.FnExactWireJoined_ann (drawOk TD (tableP L.FnExactWireJoined_T)) FUEL Try.f6 args h κ
noncomputable def L.FnExactWireJoined_tree {α : Type} (aNet : List Int) (aA : Int) (aB : Int) (leaf0_ : Bool → α) (fail_ : α) : α :=
  (bif decide ((↑aNet.length : Int) > 1048576) then (leaf0_ true) else (optC (L.toIntS_t aNet) (fun c_1 => (optC (S.WireJoined_t c_1 aA aB) (fun c_2 => (optC (L.toIntS_t aNet) (fun c_3 => (optC (I.WireJoined_t c_3 aA aB) (fun c_4 => (optC (L.eqIntS_t c_4 c_2) (fun c_5 => (bif !c_5 then (leaf0_ false) else (optC (L.toIntS_t aNet) (fun c_6 => (optC (L.eqIntS_t c_3 c_6) (fun c_7 => (bif !c_7 then (leaf0_ false) else (optC (L.markIntS_t c_3 1) (fun c_8 => (bif decide (c_8.fst < 0) then (leaf0_ false) else (optC (L.eqIntS_t c_4 c_2) (fun c_9 => (bif !c_9 then (leaf0_ false) else (optC (L.markIntS_t c_4 1) (fun c_10 => (optC (L.heldIntS_t c_10.snd 1) (fun c_11 => (bif decide (c_11 < 0) then (leaf0_ false) else (bif !c_11 == c_10.fst then (leaf0_ false) else (optC (L.toIntS_t aNet) (fun c_12 => (optC (I.WireJoined_t c_12 aA aB) (fun c_13 => (optC (L.eqIntS_t c_13 c_2) (fun c_14 => (bif !c_14 then (leaf0_ false) else (optC (L.heldIntS_t c_10.snd 1) (fun c_15 => (bif decide (c_15 < 0) then (leaf0_ false) else (bif !c_15 == c_10.fst then (leaf0_ false) else (leaf0_ true)))) fail_))) fail_)) fail_)) fail_)))) fail_)) fail_))) fail_))) fail_))) fail_)) fail_))) fail_)) fail_)) fail_)) fail_)) fail_))
theorem L.FnExactWireJoined_tree_nat {α γ : Type} (g : α → γ) (aNet : List Int) (aA : Int) (aB : Int) (leaf0_ : Bool → α) (fail_ : α) : g (L.FnExactWireJoined_tree aNet aA aB leaf0_ fail_) = L.FnExactWireJoined_tree aNet aA aB (fun d => g (leaf0_ d)) (g fail_) := by
  unfold L.FnExactWireJoined_tree; simp only [apply_cnd g, apply_optC g, apply_sumC g]
noncomputable def L.FnExactWireJoined_t (aNet : List Int) (aA : Int) (aB : Int) : Option (Bool) := L.FnExactWireJoined_tree aNet aA aB (fun d => some d) none
theorem L.FnExactWireJoined_den (aNet : List Int) (aA : Int) (aB : Int) (κ : V → List E → R) : L.FnExactWireJoined_F [.ro true (.ints .i64 aNet), .int .i64 aA, .int .i64 aB] [] κ = optC (L.FnExactWireJoined_t aNet aA aB) (fun (r : Bool) => κ (.bool r) []) none := by
  have hu : L.FnExactWireJoined_F [.ro true (.ints .i64 aNet), .int .i64 aA, .int .i64 aB] [] κ = L.FnExactWireJoined_tree aNet aA aB (fun d => κ (.bool d) []) none := by
    kernel_rfl
  rw [hu]
  exact (L.FnExactWireJoined_tree_nat (fun o => optC o (fun (r : Bool) => κ (.bool r) []) none) aNet aA aB (fun d => some d) none).symm
noncomputable def L.FnExactWireJoined_s : D.Spec where
  keep := true
  pure := true
  add := true
  ds := [.int .i64, .invalid, .invalid]
  sp := fun args h κ => match args, h with
    | [.ro true (.ints .i64 aNet), .int .i64 aA, .int .i64 aB], [] => optC (L.FnExactWireJoined_t aNet aA aB) (fun (r : Bool) => κ (.bool r) []) none
    | _, _ => none
theorem L.FnExactWireJoined_ok : SpecOk Try.prog 6 L.FnExactWireJoined_s := by
  refine SpecOk.of TDok mixed (T := L.FnExactWireJoined_T) ?_ (ann := L.FnExactWireJoined_ann) Try.func6 rfl (by decide +kernel) ?_ ?_ ?_ ?_
  · intro p hp
    simp only [L.FnExactWireJoined_T, List.mem_cons, List.not_mem_nil, or_false] at hp
    rcases hp with rfl | rfl | rfl | rfl | rfl | rfl
    · exact L.toIntS_ok
    · exact S.WireJoined_ok
    · exact I.WireJoined_ok
    · exact L.eqIntS_ok
    · exact L.markIntS_ok
    · exact L.heldIntS_ok
  · intro args h κ r hh
    simp only [L.FnExactWireJoined_s] at hh
    split at hh
    · exact (L.FnExactWireJoined_den _ _ _ κ).trans hh
    · cases hh
  · intro args h κ r hh
    simp only [L.FnExactWireJoined_s] at hh ⊢
    split at hh
    · exact optC_law2 (F := fun (r : Bool) κ => κ (.bool r) []) (fun b κ r hb => ⟨_, _, hb, fun _ => rfl⟩) hh
    · cases hh
  · intro _ args h κ r hh
    simp only [L.FnExactWireJoined_s] at hh
    split at hh
    · exact ⟨rfl, fun _ => rfl⟩
    · cases hh
  · intro _ args h κ r hh
    simp only [L.FnExactWireJoined_s] at hh
    split at hh
    · rfl
    · cases hh

-- loop.example/guardsonnets/spec.DrawSeenMost
noncomputable def S.DrawSeenMost_T : List (Nat × D.Spec) := [(40, S.l20Open_s), (57, S.l20Net_s), (43, S.l20Rd_pick_s)]
def S.DrawSeenMost_ann : Nat → List Nat × List Nat
  | _ => ([], [])
noncomputable def S.DrawSeenMost_F (args : List V) (h : List E) (κ : V → List E → R) : R := funC TD (tableK S.DrawSeenMost_T) S.DrawSeenMost_ann (drawOk TD (tableP S.DrawSeenMost_T)) FUEL Try.f29 args h κ
noncomputable def S.DrawSeenMost_tree {α : Type} (code : List Int) (leaf0_ : Int × (List Int) → α) (fail_ : α) : α :=
  (optC (S.l20Open_t code) (fun c_1 => (optC (S.l20Net_t c_1.fst c_1.snd 9) (fun c_2 => (optC (S.l20Rd_pick_t c_2.fst c_2.snd.fst 8) (fun c_3 => (optC (S.l20Rd_pick_t c_3.snd.fst c_3.snd.snd 15) (fun c_4 => (leaf0_ (IntKind.i64.wrap (c_3.fst - IntKind.i64.wrap (IntKind.i64.wrap (c_4.fst.tdiv 14) * 9)), c_2.snd.snd))) fail_)) fail_)) fail_)) fail_)
theorem S.DrawSeenMost_tree_nat {α γ : Type} (g : α → γ) (code : List Int) (leaf0_ : Int × (List Int) → α) (fail_ : α) : g (S.DrawSeenMost_tree code leaf0_ fail_) = S.DrawSeenMost_tree code (fun d => g (leaf0_ d)) (g fail_) := by
  unfold S.DrawSeenMost_tree; simp only [apply_cnd g, apply_optC g, apply_sumC g]
noncomputable def S.DrawSeenMost_t (code : List Int) : Option (Int × (List Int)) := S.DrawSeenMost_tree code (fun d => some d) none
theorem S.DrawSeenMost_den (code : List Int) (κ : V → List E → R) : S.DrawSeenMost_F [.ro true (.ints .u8 code)] [] κ = optC (S.DrawSeenMost_t code) (fun (r : Int × (List Int)) => κ (.tup [(.own 0), (.int .i64 r.1)]) [.row (.ints .i64 r.2)]) none := by
  have hu : S.DrawSeenMost_F [.ro true (.ints .u8 code)] [] κ = S.DrawSeenMost_tree code (fun d => κ (.tup [(.own 0), (.int .i64 d.1)]) [.row (.ints .i64 d.2)]) none := by
    kernel_rfl
  rw [hu]
  exact (S.DrawSeenMost_tree_nat (fun o => optC o (fun (r : Int × (List Int)) => κ (.tup [(.own 0), (.int .i64 r.1)]) [.row (.ints .i64 r.2)]) none) code (fun d => some d) none).symm
noncomputable def S.DrawSeenMost_s : D.Spec where
  keep := true
  pure := false
  add := true
  ds := [.int .u8]
  sp := fun args h κ => match args, h with
    | [.ro true (.ints .u8 code)], [] => optC (S.DrawSeenMost_t code) (fun (r : Int × (List Int)) => κ (.tup [(.own 0), (.int .i64 r.1)]) [.row (.ints .i64 r.2)]) none
    | _, _ => none
theorem S.DrawSeenMost_ok : SpecOk Try.prog 29 S.DrawSeenMost_s := by
  refine SpecOk.of TDok mixed (T := S.DrawSeenMost_T) ?_ (ann := S.DrawSeenMost_ann) Try.func29 rfl (by decide +kernel) ?_ ?_ ?_ ?_
  · intro p hp
    simp only [S.DrawSeenMost_T, List.mem_cons, List.not_mem_nil, or_false] at hp
    rcases hp with rfl | rfl | rfl
    · exact S.l20Open_ok
    · exact S.l20Net_ok
    · exact S.l20Rd_pick_ok
  · intro args h κ r hh
    simp only [S.DrawSeenMost_s] at hh
    split at hh
    · exact (S.DrawSeenMost_den _ κ).trans hh
    · cases hh
  · intro args h κ r hh
    simp only [S.DrawSeenMost_s] at hh ⊢
    split at hh
    · exact optC_law2 (F := fun (r : Int × (List Int)) κ => κ (.tup [(.own 0), (.int .i64 r.1)]) [.row (.ints .i64 r.2)]) (fun b κ r hb => ⟨_, _, hb, fun _ => rfl⟩) hh
    · cases hh
  · intro hh; cases hh
  · intro _ args h κ r hh
    simp only [S.DrawSeenMost_s] at hh
    split at hh
    · rfl
    · cases hh

-- loop.example/guardsonnets/impl.seenMostIn
noncomputable def I.seenMostIn_T : List (Nat × D.Spec) := [(55, I.allOf_s), (50, I.sizeOf_s), (73, I.seenIn_s)]
def I.seenMostIn_ann : Nat → List Nat × List Nat
  | 3 => ([0, 1, 5, 6], [5])
  | _ => ([], [])
noncomputable def I.seenMostIn_F (args : List V) (h : List E) (κ : V → List E → R) : R := funC TD (tableK I.seenMostIn_T) I.seenMostIn_ann (drawOk TD (tableP I.seenMostIn_T)) FUEL Try.f58 args h κ
noncomputable def I.seenMostIn_L3 (n : Nat) (σ : St) (k : X → St → R) : R := iterC 0 (fun σ k => denC TD (tableK I.seenMostIn_T) I.seenMostIn_ann (drawOk TD (tableP I.seenMostIn_T)) 0 FUEL ((findLoop 3 (Try.f58.body.getD .skip)).getD .skip) σ k) [0, 1, 5, 6] [5] n σ k
noncomputable def I.seenMostIn_k3 (κ : V → List E → R) : X → St → R := (afterC TD (tableK I.seenMostIn_T) I.seenMostIn_ann (drawOk TD (tableP I.seenMostIn_T)) 0 FUEL 3 (Try.f58.body.getD .skip) (finC TD 0 Try.f58 κ)).getD (fun _ _ => none)
noncomputable def I.seenMostIn_step3 {α : Type} (x0 : List Int) (x1 : Int) (x5 : Int) (x6 : Int) (next_ : Int × Int → α) (out0_ : Int → α) (fail_ : α) : α :=
  (optC (I.allOf_t x0) (fun c_1 => (bif decide (x6 ≤ c_1) then (optC (I.sizeOf_t x6) (fun c_2 => (bif decide (c_2 ≤ x1) then (optC (I.seenIn_t x0 x6) (fun c_3 => (optC (I.sizeOf_t c_3) (fun c_4 => (bif decide (c_4 > x5) then (optC (I.seenIn_t x0 x6) (fun c_5 => (optC (I.sizeOf_t c_5) (fun c_6 => (next_ (c_6, IntKind.i64.wrap (x6 + 1)))) fail_)) fail_) else (next_ (x5, IntKind.i64.wrap (x6 + 1))))) fail_)) fail_) else (next_ (x5, IntKind.i64.wrap (x6 + 1))))) fail_) else (out0_ x5))) fail_)
theorem I.seenMostIn_step3_nat {α γ : Type} (g : α → γ) (x0 : List Int) (x1 : Int) (x5 : Int) (x6 : Int) (next_ : Int × Int → α) (out0_ : Int → α) (fail_ : α) : g (I.seenMostIn_step3 x0 x1 x5 x6 next_ out0_ fail_) = I.seenMostIn_step3 x0 x1 x5 x6 (fun s => g (next_ s)) (fun d => g (out0_ d)) (g fail_) := by
  unfold I.seenMostIn_step3; simp only [apply_cnd g, apply_optC g, apply_sumC g]
noncomputable def I.seenMostIn_run3 (x0 : List Int) (x1 : Int) : Nat → Int × Int → Option (Int)
  | 0, _ => none
  | n + 1, s_ => I.seenMostIn_step3 x0 x1 s_.1 s_.2 (I.seenMostIn_run3 x0 x1 n) (fun d => some d) none
theorem I.seenMostIn_L3_run (x0 : List Int) (x1 : Int) (n : Nat) (s_ : Int × Int) (k : X → St → R) : I.seenMostIn_L3 n { n := 30, t := [(0, (.ro false (.ints .i64 x0))), (1, (.int .i64 x1)), (5, (.int .i64 s_.1)), (6, (.int .i64 s_.2))], h := [] } k = optC (I.seenMostIn_run3 x0 x1 n s_) (fun (r : Int) => k (.exit 0) { n := 30, t := [(5, (.int .i64 r))], h := [] }) none := by
  induction n generalizing s_ with
  | zero => rfl
  | succ n ih =>
    have hu : I.seenMostIn_L3 (n + 1) { n := 30, t := [(0, (.ro false (.ints .i64 x0))), (1, (.int .i64 x1)), (5, (.int .i64 s_.1)), (6, (.int .i64 s_.2))], h := [] } k = I.seenMostIn_step3 x0 x1 s_.1 s_.2 (fun s_ => I.seenMostIn_L3 n { n := 30, t := [(0, (.ro false (.ints .i64 x0))), (1, (.int .i64 x1)), (5, (.int .i64 s_.1)), (6, (.int .i64 s_.2))], h := [] } k) (fun d => k (.exit 0) { n := 30, t := [(5, (.int .i64 d))], h := [] }) none := by
      kernel_rfl
    have hs : (fun s_ : Int × Int => I.seenMostIn_L3 n { n := 30, t := [(0, (.ro false (.ints .i64 x0))), (1, (.int .i64 x1)), (5, (.int .i64 s_.1)), (6, (.int .i64 s_.2))], h := [] } k) = fun s_ => optC (I.seenMostIn_run3 x0 x1 n s_) (fun (r : Int) => k (.exit 0) { n := 30, t := [(5, (.int .i64 r))], h := [] }) none := funext ih
    rw [hu, hs]
    exact (I.seenMostIn_step3_nat (fun o => optC o (fun (r : Int) => k (.exit 0) { n := 30, t := [(5, (.int .i64 r))], h := [] }) none) x0 x1 s_.1 s_.2 (I.seenMostIn_run3 x0 x1 n) (fun d => some d) none).symm
noncomputable def I.seenMostIn_tree {α : Type} (net : List Int) (guards : Int) (leaf0_ : Int → α) (fail_ : α) : α :=
  (optC (I.seenMostIn_run3 net guards FUEL (0, 0)) (fun qy_7 => (leaf0_ qy_7)) fail_)
theorem I.seenMostIn_tree_nat {α γ : Type} (g : α → γ) (net : List Int) (guards : Int) (leaf0_ : Int → α) (fail_ : α) : g (I.seenMostIn_tree net guards leaf0_ fail_) = I.seenMostIn_tree net guards (fun d => g (leaf0_ d)) (g fail_) := by
  unfold I.seenMostIn_tree; simp only [apply_cnd g, apply_optC g, apply_sumC g]
noncomputable def I.seenMostIn_t (net : List Int) (guards : Int) : Option (Int) := I.seenMostIn_tree net guards (fun d => some d) none
theorem I.seenMostIn_den (net : List Int) (guards : Int) (κ : V → List E → R) : I.seenMostIn_F [.ro false (.ints .i64 net), .int .i64 guards] [] κ = optC (I.seenMostIn_t net guards) (fun (r : Int) => κ (.int .i64 r) []) none := by
  have hu : I.seenMostIn_F [.ro false (.ints .i64 net), .int .i64 guards] [] κ = I.seenMostIn_tree net guards (fun d => κ (.int .i64 d) []) none := by
    refine Eq.trans (show I.seenMostIn_F [.ro false (.ints .i64 net), .int .i64 guards] [] κ = (I.seenMostIn_L3 FUEL { n := 30, t := [(0, (.ro false (.ints .i64 net))), (1, (.int .i64 guards)), (5, (.int .i64 0)), (6, (.int .i64 0))], h := [] } (I.seenMostIn_k3 κ)) by kernel_rfl) ?_
    refine (I.seenMostIn_L3_run net guards FUEL (0, 0) (I.seenMostIn_k3 κ)).trans (optC_congr (fun qy_7 => ?_))
    kernel_rfl
  rw [hu]
  exact (I.seenMostIn_tree_nat (fun o => optC o (fun (r : Int) => κ (.int .i64 r) []) none) net guards (fun d => some d) none).symm
noncomputable def I.seenMostIn_s : D.Spec where
  keep := false
  pure := true
  add := true
  ds := [.int .i64, .invalid]
  sp := fun args h κ => match args, h with
    | [.ro false (.ints .i64 net), .int .i64 guards], [] => optC (I.seenMostIn_t net guards) (fun (r : Int) => κ (.int .i64 r) []) none
    | _, _ => none
theorem I.seenMostIn_ok : SpecOk Try.prog 58 I.seenMostIn_s := by
  refine SpecOk.of TDok mixed (T := I.seenMostIn_T) ?_ (ann := I.seenMostIn_ann) Try.func58 rfl (by decide +kernel) ?_ ?_ ?_ ?_
  · intro p hp
    simp only [I.seenMostIn_T, List.mem_cons, List.not_mem_nil, or_false] at hp
    rcases hp with rfl | rfl | rfl
    · exact I.allOf_ok
    · exact I.sizeOf_ok
    · exact I.seenIn_ok
  · intro args h κ r hh
    simp only [I.seenMostIn_s] at hh
    split at hh
    · exact (I.seenMostIn_den _ _ κ).trans hh
    · cases hh
  · intro args h κ r hh
    simp only [I.seenMostIn_s] at hh ⊢
    split at hh
    · exact optC_law2 (F := fun (r : Int) κ => κ (.int .i64 r) []) (fun b κ r hb => ⟨_, _, hb, fun _ => rfl⟩) hh
    · cases hh
  · intro _ args h κ r hh
    simp only [I.seenMostIn_s] at hh
    split at hh
    · exact ⟨rfl, fun _ => rfl⟩
    · cases hh
  · intro _ args h κ r hh
    simp only [I.seenMostIn_s] at hh
    split at hh
    · rfl
    · cases hh

-- loop.example/guardsonnets/impl.SeenMost
noncomputable def I.SeenMost_T : List (Nat × D.Spec) := [(19, I.NetOk_s), (58, I.seenMostIn_s)]
def I.SeenMost_ann : Nat → List Nat × List Nat
  | _ => ([], [])
noncomputable def I.SeenMost_F (args : List V) (h : List E) (κ : V → List E → R) : R := funC TD (tableK I.SeenMost_T) I.SeenMost_ann (drawOk TD (tableP I.SeenMost_T)) FUEL Try.f30 args h κ
noncomputable def I.SeenMost_tree {α : Type} (net : List Int) (guards : Int) (leaf0_ : Int → α) (fail_ : α) : α :=
  (optC (I.NetOk_t net) (fun c_1 => (bif !c_1 then (leaf0_ (-1)) else (bif decide (guards < 0) then (leaf0_ (-1)) else (optC (I.seenMostIn_t net guards) (fun c_2 => (leaf0_ c_2)) fail_)))) fail_)
theorem I.SeenMost_tree_nat {α γ : Type} (g : α → γ) (net : List Int) (guards : Int) (leaf0_ : Int → α) (fail_ : α) : g (I.SeenMost_tree net guards leaf0_ fail_) = I.SeenMost_tree net guards (fun d => g (leaf0_ d)) (g fail_) := by
  unfold I.SeenMost_tree; simp only [apply_cnd g, apply_optC g, apply_sumC g]
noncomputable def I.SeenMost_t (net : List Int) (guards : Int) : Option (Int) := I.SeenMost_tree net guards (fun d => some d) none
theorem I.SeenMost_den (net : List Int) (guards : Int) (κ : V → List E → R) : I.SeenMost_F [.ro false (.ints .i64 net), .int .i64 guards] [] κ = optC (I.SeenMost_t net guards) (fun (r : Int) => κ (.int .i64 r) []) none := by
  have hu : I.SeenMost_F [.ro false (.ints .i64 net), .int .i64 guards] [] κ = I.SeenMost_tree net guards (fun d => κ (.int .i64 d) []) none := by
    kernel_rfl
  rw [hu]
  exact (I.SeenMost_tree_nat (fun o => optC o (fun (r : Int) => κ (.int .i64 r) []) none) net guards (fun d => some d) none).symm
noncomputable def I.SeenMost_s : D.Spec where
  keep := false
  pure := true
  add := true
  ds := [.int .i64, .invalid]
  sp := fun args h κ => match args, h with
    | [.ro false (.ints .i64 net), .int .i64 guards], [] => optC (I.SeenMost_t net guards) (fun (r : Int) => κ (.int .i64 r) []) none
    | _, _ => none
theorem I.SeenMost_ok : SpecOk Try.prog 30 I.SeenMost_s := by
  refine SpecOk.of TDok mixed (T := I.SeenMost_T) ?_ (ann := I.SeenMost_ann) Try.func30 rfl (by decide +kernel) ?_ ?_ ?_ ?_
  · intro p hp
    simp only [I.SeenMost_T, List.mem_cons, List.not_mem_nil, or_false] at hp
    rcases hp with rfl | rfl
    · exact I.NetOk_ok
    · exact I.seenMostIn_ok
  · intro args h κ r hh
    simp only [I.SeenMost_s] at hh
    split at hh
    · exact (I.SeenMost_den _ _ κ).trans hh
    · cases hh
  · intro args h κ r hh
    simp only [I.SeenMost_s] at hh ⊢
    split at hh
    · exact optC_law2 (F := fun (r : Int) κ => κ (.int .i64 r) []) (fun b κ r hb => ⟨_, _, hb, fun _ => rfl⟩) hh
    · cases hh
  · intro _ args h κ r hh
    simp only [I.SeenMost_s] at hh
    split at hh
    · exact ⟨rfl, fun _ => rfl⟩
    · cases hh
  · intro _ args h κ r hh
    simp only [I.SeenMost_s] at hh
    split at hh
    · rfl
    · cases hh

-- loop.example/guardsonnets/spec.l1Size
noncomputable def S.l1Size_T : List (Nat × D.Spec) := []
def S.l1Size_ann : Nat → List Nat × List Nat
  | 2 => ([0, 3], [3])
  | _ => ([], [])
noncomputable def S.l1Size_F (args : List V) (h : List E) (κ : V → List E → R) : R := funC TD (tableK S.l1Size_T) S.l1Size_ann (drawOk TD (tableP S.l1Size_T)) FUEL Try.f59 args h κ
noncomputable def S.l1Size_L2 (n : Nat) (σ : St) (k : X → St → R) : R := iterC 0 (fun σ k => denC TD (tableK S.l1Size_T) S.l1Size_ann (drawOk TD (tableP S.l1Size_T)) 0 FUEL ((findLoop 2 (Try.f59.body.getD .skip)).getD .skip) σ k) [0, 3] [3] n σ k
noncomputable def S.l1Size_k2 (κ : V → List E → R) : X → St → R := (afterC TD (tableK S.l1Size_T) S.l1Size_ann (drawOk TD (tableP S.l1Size_T)) 0 FUEL 2 (Try.f59.body.getD .skip) (finC TD 0 Try.f59 κ)).getD (fun _ _ => none)
noncomputable def S.l1Size_step2 {α : Type} (x0 : Int) (x3 : Int) (next_ : Int × Int → α) (out0_ : Int → α) (fail_ : α) : α :=
  (bif decide (x0 > 0) then (next_ (IntKind.i64.wrap (x0.tdiv 2), IntKind.i64.wrap (x3 + x0.tmod 2))) else (out0_ x3))
theorem S.l1Size_step2_nat {α γ : Type} (g : α → γ) (x0 : Int) (x3 : Int) (next_ : Int × Int → α) (out0_ : Int → α) (fail_ : α) : g (S.l1Size_step2 x0 x3 next_ out0_ fail_) = S.l1Size_step2 x0 x3 (fun s => g (next_ s)) (fun d => g (out0_ d)) (g fail_) := by
  unfold S.l1Size_step2; simp only [apply_cnd g, apply_optC g, apply_sumC g]
noncomputable def S.l1Size_run2 : Nat → Int × Int → Option (Int)
  | 0, _ => none
  | n + 1, s_ => S.l1Size_step2 s_.1 s_.2 (S.l1Size_run2 n) (fun d => some d) none
theorem S.l1Size_L2_run (n : Nat) (s_ : Int × Int) (k : X → St → R) : S.l1Size_L2 n { n := 13, t := [(0, (.int .i64 s_.1)), (3, (.int .i64 s_.2))], h := [] } k = optC (S.l1Size_run2 n s_) (fun (r : Int) => k (.exit 0) { n := 13, t := [(3, (.int .i64 r))], h := [] }) none := by
  induction n generalizing s_ with
  | zero => rfl
  | succ n ih =>
    have hu : S.l1Size_L2 (n + 1) { n := 13, t := [(0, (.int .i64 s_.1)), (3, (.int .i64 s_.2))], h := [] } k = S.l1Size_step2 s_.1 s_.2 (fun s_ => S.l1Size_L2 n { n := 13, t := [(0, (.int .i64 s_.1)), (3, (.int .i64 s_.2))], h := [] } k) (fun d => k (.exit 0) { n := 13, t := [(3, (.int .i64 d))], h := [] }) none := by
      kernel_rfl
    have hs : (fun s_ : Int × Int => S.l1Size_L2 n { n := 13, t := [(0, (.int .i64 s_.1)), (3, (.int .i64 s_.2))], h := [] } k) = fun s_ => optC (S.l1Size_run2 n s_) (fun (r : Int) => k (.exit 0) { n := 13, t := [(3, (.int .i64 r))], h := [] }) none := funext ih
    rw [hu, hs]
    exact (S.l1Size_step2_nat (fun o => optC o (fun (r : Int) => k (.exit 0) { n := 13, t := [(3, (.int .i64 r))], h := [] }) none) s_.1 s_.2 (S.l1Size_run2 n) (fun d => some d) none).symm
noncomputable def S.l1Size_tree {α : Type} (set_ : Int) (leaf0_ : Int → α) (fail_ : α) : α :=
  (optC (S.l1Size_run2 FUEL (set_, 0)) (fun qy_1 => (leaf0_ qy_1)) fail_)
theorem S.l1Size_tree_nat {α γ : Type} (g : α → γ) (set_ : Int) (leaf0_ : Int → α) (fail_ : α) : g (S.l1Size_tree set_ leaf0_ fail_) = S.l1Size_tree set_ (fun d => g (leaf0_ d)) (g fail_) := by
  unfold S.l1Size_tree; simp only [apply_cnd g, apply_optC g, apply_sumC g]
noncomputable def S.l1Size_t (set_ : Int) : Option (Int) := S.l1Size_tree set_ (fun d => some d) none
theorem S.l1Size_den (set_ : Int) (κ : V → List E → R) : S.l1Size_F [.int .i64 set_] [] κ = optC (S.l1Size_t set_) (fun (r : Int) => κ (.int .i64 r) []) none := by
  have hu : S.l1Size_F [.int .i64 set_] [] κ = S.l1Size_tree set_ (fun d => κ (.int .i64 d) []) none := by
    refine Eq.trans (show S.l1Size_F [.int .i64 set_] [] κ = (S.l1Size_L2 FUEL { n := 13, t := [(0, (.int .i64 set_)), (3, (.int .i64 0))], h := [] } (S.l1Size_k2 κ)) by kernel_rfl) ?_
    refine (S.l1Size_L2_run FUEL (set_, 0) (S.l1Size_k2 κ)).trans (optC_congr (fun qy_1 => ?_))
    kernel_rfl
  rw [hu]
  exact (S.l1Size_tree_nat (fun o => optC o (fun (r : Int) => κ (.int .i64 r) []) none) set_ (fun d => some d) none).symm
noncomputable def S.l1Size_s : D.Spec where
  keep := false
  pure := true
  add := true
  ds := [.invalid]
  sp := fun args h κ => match args, h with
    | [.int .i64 set_], [] => optC (S.l1Size_t set_) (fun (r : Int) => κ (.int .i64 r) []) none
    | _, _ => none
theorem S.l1Size_ok : SpecOk Try.prog 59 S.l1Size_s := by
  refine SpecOk.of TDok mixed (T := S.l1Size_T) ?_ (ann := S.l1Size_ann) Try.func59 rfl (by decide +kernel) ?_ ?_ ?_ ?_
  · intro p hp; cases hp
  · intro args h κ r hh
    simp only [S.l1Size_s] at hh
    split at hh
    · exact (S.l1Size_den _ κ).trans hh
    · cases hh
  · intro args h κ r hh
    simp only [S.l1Size_s] at hh ⊢
    split at hh
    · exact optC_law2 (F := fun (r : Int) κ => κ (.int .i64 r) []) (fun b κ r hb => ⟨_, _, hb, fun _ => rfl⟩) hh
    · cases hh
  · intro _ args h κ r hh
    simp only [S.l1Size_s] at hh
    split at hh
    · exact ⟨rfl, fun _ => rfl⟩
    · cases hh
  · intro _ args h κ r hh
    simp only [S.l1Size_s] at hh
    split at hh
    · rfl
    · cases hh

-- loop.example/guardsonnets/spec.l1SetOk
noncomputable def S.l1SetOk_T : List (Nat × D.Spec) := [(42, S.NetOk_s), (69, S.l1In_s)]
def S.l1SetOk_ann : Nat → List Nat × List Nat
  | _ => ([], [])
noncomputable def S.l1SetOk_F (args : List V) (h : List E) (κ : V → List E → R) : R := funC TD (tableK S.l1SetOk_T) S.l1SetOk_ann (drawOk TD (tableP S.l1SetOk_T)) FUEL Try.f74 args h κ
noncomputable def S.l1SetOk_tree {α : Type} (net : List Int) (set_ : Int) (leaf0_ : Bool → α) (fail_ : α) : α :=
  (optC (S.NetOk_t net) (fun c_1 => (bif c_1 then (optC (S.l1In_t set_ 0 (IntKind.i64.wrap (IntKind.i64.wrap (1 * 2 ^ min (↑net.length : Int).toNat IntKind.i64.bits) - 1))) (fun c_2 => (leaf0_ c_2)) fail_) else (leaf0_ false))) fail_)
theorem S.l1SetOk_tree_nat {α γ : Type} (g : α → γ) (net : List Int) (set_ : Int) (leaf0_ : Bool → α) (fail_ : α) : g (S.l1SetOk_tree net set_ leaf0_ fail_) = S.l1SetOk_tree net set_ (fun d => g (leaf0_ d)) (g fail_) := by
  unfold S.l1SetOk_tree; simp only [apply_cnd g, apply_optC g, apply_sumC g]
noncomputable def S.l1SetOk_t (net : List Int) (set_ : Int) : Option (Bool) := S.l1SetOk_tree net set_ (fun d => some d) none
theorem S.l1SetOk_den (net : List Int) (set_ : Int) (κ : V → List E → R) : S.l1SetOk_F [.ro false (.ints .i64 net), .int .i64 set_] [] κ = optC (S.l1SetOk_t net set_) (fun (r : Bool) => κ (.bool r) []) none := by
  have hu : S.l1SetOk_F [.ro false (.ints .i64 net), .int .i64 set_] [] κ = S.l1SetOk_tree net set_ (fun d => κ (.bool d) []) none := by
    kernel_rfl
  rw [hu]
  exact (S.l1SetOk_tree_nat (fun o => optC o (fun (r : Bool) => κ (.bool r) []) none) net set_ (fun d => some d) none).symm
noncomputable def S.l1SetOk_s : D.Spec where
  keep := false
  pure := true
  add := true
  ds := [.int .i64, .invalid]
  sp := fun args h κ => match args, h with
    | [.ro false (.ints .i64 net), .int .i64 set_], [] => optC (S.l1SetOk_t net set_) (fun (r : Bool) => κ (.bool r) []) none
    | _, _ => none
theorem S.l1SetOk_ok : SpecOk Try.prog 74 S.l1SetOk_s := by
  refine SpecOk.of TDok mixed (T := S.l1SetOk_T) ?_ (ann := S.l1SetOk_ann) Try.func74 rfl (by decide +kernel) ?_ ?_ ?_ ?_
  · intro p hp
    simp only [S.l1SetOk_T, List.mem_cons, List.not_mem_nil, or_false] at hp
    rcases hp with rfl | rfl
    · exact S.NetOk_ok
    · exact S.l1In_ok
  · intro args h κ r hh
    simp only [S.l1SetOk_s] at hh
    split at hh
    · exact (S.l1SetOk_den _ _ κ).trans hh
    · cases hh
  · intro args h κ r hh
    simp only [S.l1SetOk_s] at hh ⊢
    split at hh
    · exact optC_law2 (F := fun (r : Bool) κ => κ (.bool r) []) (fun b κ r hb => ⟨_, _, hb, fun _ => rfl⟩) hh
    · cases hh
  · intro _ args h κ r hh
    simp only [S.l1SetOk_s] at hh
    split at hh
    · exact ⟨rfl, fun _ => rfl⟩
    · cases hh
  · intro _ args h κ r hh
    simp only [S.l1SetOk_s] at hh
    split at hh
    · rfl
    · cases hh

-- loop.example/guardsonnets/spec.l1Near
noncomputable def S.l1Near_T : List (Nat × D.Spec) := []
def S.l1Near_ann : Nat → List Nat × List Nat
  | 3 => ([0, 1, 5, 6], [5])
  | _ => ([], [])
noncomputable def S.l1Near_F (args : List V) (h : List E) (κ : V → List E → R) : R := funC TD (tableK S.l1Near_T) S.l1Near_ann (drawOk TD (tableP S.l1Near_T)) FUEL Try.f75 args h κ
noncomputable def S.l1Near_L3 (n : Nat) (σ : St) (k : X → St → R) : R := iterC 0 (fun σ k => denC TD (tableK S.l1Near_T) S.l1Near_ann (drawOk TD (tableP S.l1Near_T)) 0 FUEL ((findLoop 3 (Try.f75.body.getD .skip)).getD .skip) σ k) [0, 1, 5, 6] [5] n σ k
noncomputable def S.l1Near_k3 (κ : V → List E → R) : X → St → R := (afterC TD (tableK S.l1Near_T) S.l1Near_ann (drawOk TD (tableP S.l1Near_T)) 0 FUEL 3 (Try.f75.body.getD .skip) (finC TD 0 Try.f75 κ)).getD (fun _ _ => none)
noncomputable def S.l1Near_step3 {α : Type} (x0 : List Int) (x1 : Int) (x5 : Int) (x6 : Int) (next_ : Int × Int → α) (out0_ : Int → α) (fail_ : α) : α :=
  (bif decide (x6 < (↑x0.length : Int)) then (bif decide (x6 < 0) then fail_ else (bif (x1.fdiv (2 ^ min x6.toNat IntKind.i64.bits)).tmod 2 == 1 then (bif decide (0 ≤ x6) && decide (x6 < (↑x0.length : Int)) then (next_ (bits BinOp.or IntKind.i64 x5 (eli x0 x6.toNat), IntKind.i64.wrap (x6 + 1))) else fail_) else (next_ (x5, IntKind.i64.wrap (x6 + 1))))) else (out0_ x5))
theorem S.l1Near_step3_nat {α γ : Type} (g : α → γ) (x0 : List Int) (x1 : Int) (x5 : Int) (x6 : Int) (next_ : Int × Int → α) (out0_ : Int → α) (fail_ : α) : g (S.l1Near_step3 x0 x1 x5 x6 next_ out0_ fail_) = S.l1Near_step3 x0 x1 x5 x6 (fun s => g (next_ s)) (fun d => g (out0_ d)) (g fail_) := by
  unfold S.l1Near_step3; simp only [apply_cnd g, apply_optC g, apply_sumC g]
noncomputable def S.l1Near_run3 (x0 : List Int) (x1 : Int) : Nat → Int × Int → Option (Int)
  | 0, _ => none
  | n + 1, s_ => S.l1Near_step3 x0 x1 s_.1 s_.2 (S.l1Near_run3 x0 x1 n) (fun d => some d) none
theorem S.l1Near_L3_run (x0 : List Int) (x1 : Int) (n : Nat) (s_ : Int × Int) (k : X → St → R) : S.l1Near_L3 n { n := 25, t := [(0, (.ro false (.ints .i64 x0))), (1, (.int .i64 x1)), (5, (.int .i64 s_.1)), (6, (.int .i64 s_.2))], h := [] } k = optC (S.l1Near_run3 x0 x1 n s_) (fun (r : Int) => k (.exit 0) { n := 25, t := [(5, (.int .i64 r))], h := [] }) none := by
  induction n generalizing s_ with
  | zero => rfl
  | succ n ih =>
    have hu : S.l1Near_L3 (n + 1) { n := 25, t := [(0, (.ro false (.ints .i64 x0))), (1, (.int .i64 x1)), (5, (.int .i64 s_.1)), (6, (.int .i64 s_.2))], h := [] } k = S.l1Near_step3 x0 x1 s_.1 s_.2 (fun s_ => S.l1Near_L3 n { n := 25, t := [(0, (.ro false (.ints .i64 x0))), (1, (.int .i64 x1)), (5, (.int .i64 s_.1)), (6, (.int .i64 s_.2))], h := [] } k) (fun d => k (.exit 0) { n := 25, t := [(5, (.int .i64 d))], h := [] }) none := by
      kernel_rfl
    have hs : (fun s_ : Int × Int => S.l1Near_L3 n { n := 25, t := [(0, (.ro false (.ints .i64 x0))), (1, (.int .i64 x1)), (5, (.int .i64 s_.1)), (6, (.int .i64 s_.2))], h := [] } k) = fun s_ => optC (S.l1Near_run3 x0 x1 n s_) (fun (r : Int) => k (.exit 0) { n := 25, t := [(5, (.int .i64 r))], h := [] }) none := funext ih
    rw [hu, hs]
    exact (S.l1Near_step3_nat (fun o => optC o (fun (r : Int) => k (.exit 0) { n := 25, t := [(5, (.int .i64 r))], h := [] }) none) x0 x1 s_.1 s_.2 (S.l1Near_run3 x0 x1 n) (fun d => some d) none).symm
noncomputable def S.l1Near_tree {α : Type} (net : List Int) (set_ : Int) (leaf0_ : Int → α) (fail_ : α) : α :=
  (optC (S.l1Near_run3 net set_ FUEL (0, 0)) (fun qy_1 => (leaf0_ qy_1)) fail_)
theorem S.l1Near_tree_nat {α γ : Type} (g : α → γ) (net : List Int) (set_ : Int) (leaf0_ : Int → α) (fail_ : α) : g (S.l1Near_tree net set_ leaf0_ fail_) = S.l1Near_tree net set_ (fun d => g (leaf0_ d)) (g fail_) := by
  unfold S.l1Near_tree; simp only [apply_cnd g, apply_optC g, apply_sumC g]
noncomputable def S.l1Near_t (net : List Int) (set_ : Int) : Option (Int) := S.l1Near_tree net set_ (fun d => some d) none
theorem S.l1Near_den (net : List Int) (set_ : Int) (κ : V → List E → R) : S.l1Near_F [.ro false (.ints .i64 net), .int .i64 set_] [] κ = optC (S.l1Near_t net set_) (fun (r : Int) => κ (.int .i64 r) []) none := by
  have hu : S.l1Near_F [.ro false (.ints .i64 net), .int .i64 set_] [] κ = S.l1Near_tree net set_ (fun d => κ (.int .i64 d) []) none := by
    refine Eq.trans (show S.l1Near_F [.ro false (.ints .i64 net), .int .i64 set_] [] κ = (S.l1Near_L3 FUEL { n := 25, t := [(0, (.ro false (.ints .i64 net))), (1, (.int .i64 set_)), (5, (.int .i64 0)), (6, (.int .i64 0))], h := [] } (S.l1Near_k3 κ)) by kernel_rfl) ?_
    refine (S.l1Near_L3_run net set_ FUEL (0, 0) (S.l1Near_k3 κ)).trans (optC_congr (fun qy_1 => ?_))
    kernel_rfl
  rw [hu]
  exact (S.l1Near_tree_nat (fun o => optC o (fun (r : Int) => κ (.int .i64 r) []) none) net set_ (fun d => some d) none).symm
noncomputable def S.l1Near_s : D.Spec where
  keep := false
  pure := true
  add := true
  ds := [.int .i64, .invalid]
  sp := fun args h κ => match args, h with
    | [.ro false (.ints .i64 net), .int .i64 set_], [] => optC (S.l1Near_t net set_) (fun (r : Int) => κ (.int .i64 r) []) none
    | _, _ => none
theorem S.l1Near_ok : SpecOk Try.prog 75 S.l1Near_s := by
  refine SpecOk.of TDok mixed (T := S.l1Near_T) ?_ (ann := S.l1Near_ann) Try.func75 rfl (by decide +kernel) ?_ ?_ ?_ ?_
  · intro p hp; cases hp
  · intro args h κ r hh
    simp only [S.l1Near_s] at hh
    split at hh
    · exact (S.l1Near_den _ _ κ).trans hh
    · cases hh
  · intro args h κ r hh
    simp only [S.l1Near_s] at hh ⊢
    split at hh
    · exact optC_law2 (F := fun (r : Int) κ => κ (.int .i64 r) []) (fun b κ r hb => ⟨_, _, hb, fun _ => rfl⟩) hh
    · cases hh
  · intro _ args h κ r hh
    simp only [S.l1Near_s] at hh
    split at hh
    · exact ⟨rfl, fun _ => rfl⟩
    · cases hh
  · intro _ args h κ r hh
    simp only [S.l1Near_s] at hh
    split at hh
    · rfl
    · cases hh

-- loop.example/guardsonnets/spec.SeenBy
noncomputable def S.SeenBy_T : List (Nat × D.Spec) := [(74, S.l1SetOk_s), (75, S.l1Near_s)]
def S.SeenBy_ann : Nat → List Nat × List Nat
  | _ => ([], [])
noncomputable def S.SeenBy_F (args : List V) (h : List E) (κ : V → List E → R) : R := funC TD (tableK S.SeenBy_T) S.SeenBy_ann (drawOk TD (tableP S.SeenBy_T)) FUEL Try.f60 args h κ
noncomputable def S.SeenBy_tree {α : Type} (net : List Int) (set_ : Int) (leaf0_ : Int → α) (fail_ : α) : α :=
  (optC (S.l1SetOk_t net set_) (fun c_1 => (bif !c_1 then (leaf0_ (-1)) else (optC (S.l1Near_t net set_) (fun c_2 => (leaf0_ (bits BinOp.or IntKind.i64 set_ c_2))) fail_))) fail_)
theorem S.SeenBy_tree_nat {α γ : Type} (g : α → γ) (net : List Int) (set_ : Int) (leaf0_ : Int → α) (fail_ : α) : g (S.SeenBy_tree net set_ leaf0_ fail_) = S.SeenBy_tree net set_ (fun d => g (leaf0_ d)) (g fail_) := by
  unfold S.SeenBy_tree; simp only [apply_cnd g, apply_optC g, apply_sumC g]
noncomputable def S.SeenBy_t (net : List Int) (set_ : Int) : Option (Int) := S.SeenBy_tree net set_ (fun d => some d) none
theorem S.SeenBy_den (net : List Int) (set_ : Int) (κ : V → List E → R) : S.SeenBy_F [.ro false (.ints .i64 net), .int .i64 set_] [] κ = optC (S.SeenBy_t net set_) (fun (r : Int) => κ (.int .i64 r) []) none := by
  have hu : S.SeenBy_F [.ro false (.ints .i64 net), .int .i64 set_] [] κ = S.SeenBy_tree net set_ (fun d => κ (.int .i64 d) []) none := by
    kernel_rfl
  rw [hu]
  exact (S.SeenBy_tree_nat (fun o => optC o (fun (r : Int) => κ (.int .i64 r) []) none) net set_ (fun d => some d) none).symm
noncomputable def S.SeenBy_s : D.Spec where
  keep := false
  pure := true
  add := true
  ds := [.int .i64, .invalid]
  sp := fun args h κ => match args, h with
    | [.ro false (.ints .i64 net), .int .i64 set_], [] => optC (S.SeenBy_t net set_) (fun (r : Int) => κ (.int .i64 r) []) none
    | _, _ => none
theorem S.SeenBy_ok : SpecOk Try.prog 60 S.SeenBy_s := by
  refine SpecOk.of TDok mixed (T := S.SeenBy_T) ?_ (ann := S.SeenBy_ann) Try.func60 rfl (by decide +kernel) ?_ ?_ ?_ ?_
  · intro p hp
    simp only [S.SeenBy_T, List.mem_cons, List.not_mem_nil, or_false] at hp
    rcases hp with rfl | rfl
    · exact S.l1SetOk_ok
    · exact S.l1Near_ok
  · intro args h κ r hh
    simp only [S.SeenBy_s] at hh
    split at hh
    · exact (S.SeenBy_den _ _ κ).trans hh
    · cases hh
  · intro args h κ r hh
    simp only [S.SeenBy_s] at hh ⊢
    split at hh
    · exact optC_law2 (F := fun (r : Int) κ => κ (.int .i64 r) []) (fun b κ r hb => ⟨_, _, hb, fun _ => rfl⟩) hh
    · cases hh
  · intro _ args h κ r hh
    simp only [S.SeenBy_s] at hh
    split at hh
    · exact ⟨rfl, fun _ => rfl⟩
    · cases hh
  · intro _ args h κ r hh
    simp only [S.SeenBy_s] at hh
    split at hh
    · rfl
    · cases hh

-- loop.example/guardsonnets/spec.SeenMost
noncomputable def S.SeenMost_T : List (Nat × D.Spec) := [(42, S.NetOk_s), (59, S.l1Size_s), (60, S.SeenBy_s)]
def S.SeenMost_ann : Nat → List Nat × List Nat
  | 5 => ([0, 1, 5, 6], [5])
  | _ => ([], [])
noncomputable def S.SeenMost_F (args : List V) (h : List E) (κ : V → List E → R) : R := funC TD (tableK S.SeenMost_T) S.SeenMost_ann (drawOk TD (tableP S.SeenMost_T)) FUEL Try.f31 args h κ
noncomputable def S.SeenMost_L5 (n : Nat) (σ : St) (k : X → St → R) : R := iterC 0 (fun σ k => denC TD (tableK S.SeenMost_T) S.SeenMost_ann (drawOk TD (tableP S.SeenMost_T)) 0 FUEL ((findLoop 5 (Try.f31.body.getD .skip)).getD .skip) σ k) [0, 1, 5, 6] [5] n σ k
noncomputable def S.SeenMost_k5 (κ : V → List E → R) : X → St → R := (afterC TD (tableK S.SeenMost_T) S.SeenMost_ann (drawOk TD (tableP S.SeenMost_T)) 0 FUEL 5 (Try.f31.body.getD .skip) (finC TD 0 Try.f31 κ)).getD (fun _ _ => none)
noncomputable def S.SeenMost_step5 {α : Type} (x0 : List Int) (x1 : Int) (x5 : Int) (x6 : Int) (next_ : Int × Int → α) (out0_ : Int → α) (fail_ : α) : α :=
  (bif decide (x6 < IntKind.i64.wrap (1 * 2 ^ min (↑x0.length : Int).toNat IntKind.i64.bits)) then (optC (S.l1Size_t x6) (fun c_2 => (bif decide (c_2 ≤ x1) then (optC (S.SeenBy_t x0 x6) (fun c_3 => (optC (S.l1Size_t c_3) (fun c_4 => (next_ (if c_4 > x5 then c_4 else x5, IntKind.i64.wrap (x6 + 1)))) fail_)) fail_) else (next_ (x5, IntKind.i64.wrap (x6 + 1))))) fail_) else (out0_ x5))
theorem S.SeenMost_step5_nat {α γ : Type} (g : α → γ) (x0 : List Int) (x1 : Int) (x5 : Int) (x6 : Int) (next_ : Int × Int → α) (out0_ : Int → α) (fail_ : α) : g (S.SeenMost_step5 x0 x1 x5 x6 next_ out0_ fail_) = S.SeenMost_step5 x0 x1 x5 x6 (fun s => g (next_ s)) (fun d => g (out0_ d)) (g fail_) := by
  unfold S.SeenMost_step5; simp only [apply_cnd g, apply_optC g, apply_sumC g]
noncomputable def S.SeenMost_run5 (x0 : List Int) (x1 : Int) : Nat → Int × Int → Option (Int)
  | 0, _ => none
  | n + 1, s_ => S.SeenMost_step5 x0 x1 s_.1 s_.2 (S.SeenMost_run5 x0 x1 n) (fun d => some d) none
theorem S.SeenMost_L5_run (x0 : List Int) (x1 : Int) (n : Nat) (s_ : Int × Int) (k : X → St → R) : S.SeenMost_L5 n { n := 32, t := [(0, (.ro false (.ints .i64 x0))), (1, (.int .i64 x1)), (5, (.int .i64 s_.1)), (6, (.int .i64 s_.2))], h := [] } k = optC (S.SeenMost_run5 x0 x1 n s_) (fun (r : Int) => k (.exit 0) { n := 32, t := [(5, (.int .i64 r))], h := [] }) none := by
  induction n generalizing s_ with
  | zero => rfl
  | succ n ih =>
    have hu : S.SeenMost_L5 (n + 1) { n := 32, t := [(0, (.ro false (.ints .i64 x0))), (1, (.int .i64 x1)), (5, (.int .i64 s_.1)), (6, (.int .i64 s_.2))], h := [] } k = S.SeenMost_step5 x0 x1 s_.1 s_.2 (fun s_ => S.SeenMost_L5 n { n := 32, t := [(0, (.ro false (.ints .i64 x0))), (1, (.int .i64 x1)), (5, (.int .i64 s_.1)), (6, (.int .i64 s_.2))], h := [] } k) (fun d => k (.exit 0) { n := 32, t := [(5, (.int .i64 d))], h := [] }) none := by
      kernel_rfl
    have hs : (fun s_ : Int × Int => S.SeenMost_L5 n { n := 32, t := [(0, (.ro false (.ints .i64 x0))), (1, (.int .i64 x1)), (5, (.int .i64 s_.1)), (6, (.int .i64 s_.2))], h := [] } k) = fun s_ => optC (S.SeenMost_run5 x0 x1 n s_) (fun (r : Int) => k (.exit 0) { n := 32, t := [(5, (.int .i64 r))], h := [] }) none := funext ih
    rw [hu, hs]
    exact (S.SeenMost_step5_nat (fun o => optC o (fun (r : Int) => k (.exit 0) { n := 32, t := [(5, (.int .i64 r))], h := [] }) none) x0 x1 s_.1 s_.2 (S.SeenMost_run5 x0 x1 n) (fun d => some d) none).symm
noncomputable def S.SeenMost_tree {α : Type} (net : List Int) (guards : Int) (leaf0_ : Int → α) (fail_ : α) : α :=
  (optC (S.NetOk_t net) (fun c_1 => (bif !c_1 then (leaf0_ (-1)) else (bif decide (guards < 0) then (leaf0_ (-1)) else (optC (S.SeenMost_run5 net guards FUEL (0, 0)) (fun qy_5 => (leaf0_ qy_5)) fail_)))) fail_)
theorem S.SeenMost_tree_nat {α γ : Type} (g : α → γ) (net : List Int) (guards : Int) (leaf0_ : Int → α) (fail_ : α) : g (S.SeenMost_tree net guards leaf0_ fail_) = S.SeenMost_tree net guards (fun d => g (leaf0_ d)) (g fail_) := by
  unfold S.SeenMost_tree; simp only [apply_cnd g, apply_optC g, apply_sumC g]
noncomputable def S.SeenMost_t (net : List Int) (guards : Int) : Option (Int) := S.SeenMost_tree net guards (fun d => some d) none
theorem S.SeenMost_den (net : List Int) (guards : Int) (κ : V → List E → R) : S.SeenMost_F [.ro false (.ints .i64 net), .int .i64 guards] [] κ = optC (S.SeenMost_t net guards) (fun (r : Int) => κ (.int .i64 r) []) none := by
  have hu : S.SeenMost_F [.ro false (.ints .i64 net), .int .i64 guards] [] κ = S.SeenMost_tree net guards (fun d => κ (.int .i64 d) []) none := by
    refine Eq.trans (show S.SeenMost_F [.ro false (.ints .i64 net), .int .i64 guards] [] κ = (optC (S.NetOk_t net) (fun c_1 => (bif !c_1 then (κ (.int .i64 (-1)) []) else (bif decide (guards < 0) then (κ (.int .i64 (-1)) []) else (S.SeenMost_L5 FUEL { n := 32, t := [(0, (.ro false (.ints .i64 net))), (1, (.int .i64 guards)), (5, (.int .i64 0)), (6, (.int .i64 0))], h := [] } (S.SeenMost_k5 κ))))) none) by kernel_rfl) ?_
    refine optC_congr (fun c_1 => ?_)
    refine cnd_congr ?_ ?_
    · kernel_rfl
    · refine cnd_congr ?_ ?_
      · kernel_rfl
      · refine (S.SeenMost_L5_run net guards FUEL (0, 0) (S.SeenMost_k5 κ)).trans (optC_congr (fun qy_5 => ?_))
        kernel_rfl
  rw [hu]
  exact (S.SeenMost_tree_nat (fun o => optC o (fun (r : Int) => κ (.int .i64 r) []) none) net guards (fun d => some d) none).symm
noncomputable def S.SeenMost_s : D.Spec where
  keep := false
  pure := true
  add := true
  ds := [.int .i64, .invalid]
  sp := fun args h κ => match args, h with
    | [.ro false (.ints .i64 net), .int .i64 guards], [] => optC (S.SeenMost_t net guards) (fun (r : Int) => κ (.int .i64 r) []) none
    | _, _ => none
theorem S.SeenMost_ok : SpecOk Try.prog 31 S.SeenMost_s := by
  refine SpecOk.of TDok mixed (T := S.SeenMost_T) ?_ (ann := S.SeenMost_ann) Try.func31 rfl (by decide +kernel) ?_ ?_ ?_ ?_
  · intro p hp
    simp only [S.SeenMost_T, List.mem_cons, List.not_mem_nil, or_false] at hp
    rcases hp with rfl | rfl | rfl
    · exact S.NetOk_ok
    · exact S.l1Size_ok
    · exact S.SeenBy_ok
  · intro args h κ r hh
    simp only [S.SeenMost_s] at hh
    split at hh
    · exact (S.SeenMost_den _ _ κ).trans hh
    · cases hh
  · intro args h κ r hh
    simp only [S.SeenMost_s] at hh ⊢
    split at hh
    · exact optC_law2 (F := fun (r : Int) κ => κ (.int .i64 r) []) (fun b κ r hb => ⟨_, _, hb, fun _ => rfl⟩) hh
    · cases hh
  · intro _ args h κ r hh
    simp only [S.SeenMost_s] at hh
    split at hh
    · exact ⟨rfl, fun _ => rfl⟩
    · cases hh
  · intro _ args h κ r hh
    simp only [S.SeenMost_s] at hh
    split at hh
    · rfl
    · cases hh

-- loop.example/guardsonnets/laws.FnSeenMost
noncomputable def L.FnSeenMost_T : List (Nat × D.Spec) := [(29, S.DrawSeenMost_s), (30, I.SeenMost_s), (31, S.SeenMost_s), (17, L.alive_s), (18, I.FewestWatch_s)]
def L.FnSeenMost_ann : Nat → List Nat × List Nat
  | _ => ([], [])
noncomputable def L.FnSeenMost_F (args : List V) (h : List E) (κ : V → List E → R) : R := funC TD (tableK L.FnSeenMost_T) L.FnSeenMost_ann (drawOk TD (tableP L.FnSeenMost_T)) FUEL Try.f7 args h κ
noncomputable def L.FnSeenMost_tree {α : Type} (code : List Int) (leaf0_ : Bool → α) (fail_ : α) : α :=
  (bif decide ((↑code.length : Int) > 1048576) then (leaf0_ true) else (optC (S.DrawSeenMost_t code) (fun c_1 => (optC (I.SeenMost_t c_1.snd c_1.fst) (fun c_2 => (optC (S.SeenMost_t c_1.snd c_1.fst) (fun c_3 => (bif !c_2 == c_3 then (leaf0_ false) else (bif decide (c_2 < 0) then (bif c_2 == -1 then (optC (L.alive_t) (fun c_4 => (leaf0_ c_4)) fail_) else (leaf0_ false)) else (optC (I.SeenMost_t c_1.snd (IntKind.i64.wrap (c_1.fst + 1))) (fun c_5 => (bif decide (c_2 ≤ c_5) then (optC (I.FewestWatch_t c_1.snd) (fun c_6 => (bif (c_2 == (↑c_1.snd.length : Int)) == decide (c_1.fst ≥ c_6) then (leaf0_ (decide (c_2 ≥ if (↑c_1.snd.length : Int) < c_1.fst then (↑c_1.snd.length : Int) else c_1.fst))) else (leaf0_ false))) fail_) else (leaf0_ false))) fail_)))) fail_)) fail_)) fail_))
theorem L.FnSeenMost_tree_nat {α γ : Type} (g : α → γ) (code : List Int) (leaf0_ : Bool → α) (fail_ : α) : g (L.FnSeenMost_tree code leaf0_ fail_) = L.FnSeenMost_tree code (fun d => g (leaf0_ d)) (g fail_) := by
  unfold L.FnSeenMost_tree; simp only [apply_cnd g, apply_optC g, apply_sumC g]
noncomputable def L.FnSeenMost_t (code : List Int) : Option (Bool) := L.FnSeenMost_tree code (fun d => some d) none
theorem L.FnSeenMost_den (code : List Int) (κ : V → List E → R) : L.FnSeenMost_F [.ro true (.ints .u8 code)] [] κ = optC (L.FnSeenMost_t code) (fun (r : Bool) => κ (.bool r) []) none := by
  have hu : L.FnSeenMost_F [.ro true (.ints .u8 code)] [] κ = L.FnSeenMost_tree code (fun d => κ (.bool d) []) none := by
    kernel_rfl
  rw [hu]
  exact (L.FnSeenMost_tree_nat (fun o => optC o (fun (r : Bool) => κ (.bool r) []) none) code (fun d => some d) none).symm
noncomputable def L.FnSeenMost_s : D.Spec where
  keep := true
  pure := true
  add := true
  ds := [.int .u8]
  sp := fun args h κ => match args, h with
    | [.ro true (.ints .u8 code)], [] => optC (L.FnSeenMost_t code) (fun (r : Bool) => κ (.bool r) []) none
    | _, _ => none
theorem L.FnSeenMost_ok : SpecOk Try.prog 7 L.FnSeenMost_s := by
  refine SpecOk.of TDok mixed (T := L.FnSeenMost_T) ?_ (ann := L.FnSeenMost_ann) Try.func7 rfl (by decide +kernel) ?_ ?_ ?_ ?_
  · intro p hp
    simp only [L.FnSeenMost_T, List.mem_cons, List.not_mem_nil, or_false] at hp
    rcases hp with rfl | rfl | rfl | rfl | rfl
    · exact S.DrawSeenMost_ok
    · exact I.SeenMost_ok
    · exact S.SeenMost_ok
    · exact L.alive_ok
    · exact I.FewestWatch_ok
  · intro args h κ r hh
    simp only [L.FnSeenMost_s] at hh
    split at hh
    · exact (L.FnSeenMost_den _ κ).trans hh
    · cases hh
  · intro args h κ r hh
    simp only [L.FnSeenMost_s] at hh ⊢
    split at hh
    · exact optC_law2 (F := fun (r : Bool) κ => κ (.bool r) []) (fun b κ r hb => ⟨_, _, hb, fun _ => rfl⟩) hh
    · cases hh
  · intro _ args h κ r hh
    simp only [L.FnSeenMost_s] at hh
    split at hh
    · exact ⟨rfl, fun _ => rfl⟩
    · cases hh
  · intro _ args h κ r hh
    simp only [L.FnSeenMost_s] at hh
    split at hh
    · rfl
    · cases hh

-- loop.example/guardsonnets/laws.FnExactSeenMost
noncomputable def L.FnExactSeenMost_T : List (Nat × D.Spec) := [(22, L.toIntS_s), (31, S.SeenMost_s), (30, I.SeenMost_s), (23, L.eqIntS_s)]
def L.FnExactSeenMost_ann : Nat → List Nat × List Nat
  | _ => ([], [])
noncomputable def L.FnExactSeenMost_F (args : List V) (h : List E) (κ : V → List E → R) : R := funC TD (tableK L.FnExactSeenMost_T) L.FnExactSeenMost_ann (drawOk TD (tableP L.FnExactSeenMost_T)) FUEL Try.f8 args h κ
noncomputable def L.FnExactSeenMost_tree {α : Type} (aNet : List Int) (aGuards : Int) (leaf0_ : Bool → α) (fail_ : α) : α :=
  (bif decide ((↑aNet.length : Int) > 1048576) then (leaf0_ true) else (optC (L.toIntS_t aNet) (fun c_1 => (optC (S.SeenMost_t c_1 aGuards) (fun c_2 => (optC (L.toIntS_t aNet) (fun c_3 => (optC (I.SeenMost_t c_3 aGuards) (fun c_4 => (bif !c_4 == c_2 then (leaf0_ false) else (optC (L.toIntS_t aNet) (fun c_5 => (optC (L.eqIntS_t c_3 c_5) (fun c_6 => (bif !c_6 then (leaf0_ false) else (leaf0_ true))) fail_)) fail_))) fail_)) fail_)) fail_)) fail_))
theorem L.FnExactSeenMost_tree_nat {α γ : Type} (g : α → γ) (aNet : List Int) (aGuards : Int) (leaf0_ : Bool → α) (fail_ : α) : g (L.FnExactSeenMost_tree aNet aGuards leaf0_ fail_) = L.FnExactSeenMost_tree aNet aGuards (fun d => g (leaf0_ d)) (g fail_) := by
  unfold L.FnExactSeenMost_tree; simp only [apply_cnd g, apply_optC g, apply_sumC g]
noncomputable def L.FnExactSeenMost_t (aNet : List Int) (aGuards : Int) : Option (Bool) := L.FnExactSeenMost_tree aNet aGuards (fun d => some d) none
theorem L.FnExactSeenMost_den (aNet : List Int) (aGuards : Int) (κ : V → List E → R) : L.FnExactSeenMost_F [.ro true (.ints .i64 aNet), .int .i64 aGuards] [] κ = optC (L.FnExactSeenMost_t aNet aGuards) (fun (r : Bool) => κ (.bool r) []) none := by
  have hu : L.FnExactSeenMost_F [.ro true (.ints .i64 aNet), .int .i64 aGuards] [] κ = L.FnExactSeenMost_tree aNet aGuards (fun d => κ (.bool d) []) none := by
    kernel_rfl
  rw [hu]
  exact (L.FnExactSeenMost_tree_nat (fun o => optC o (fun (r : Bool) => κ (.bool r) []) none) aNet aGuards (fun d => some d) none).symm
noncomputable def L.FnExactSeenMost_s : D.Spec where
  keep := true
  pure := true
  add := true
  ds := [.int .i64, .invalid]
  sp := fun args h κ => match args, h with
    | [.ro true (.ints .i64 aNet), .int .i64 aGuards], [] => optC (L.FnExactSeenMost_t aNet aGuards) (fun (r : Bool) => κ (.bool r) []) none
    | _, _ => none
theorem L.FnExactSeenMost_ok : SpecOk Try.prog 8 L.FnExactSeenMost_s := by
  refine SpecOk.of TDok mixed (T := L.FnExactSeenMost_T) ?_ (ann := L.FnExactSeenMost_ann) Try.func8 rfl (by decide +kernel) ?_ ?_ ?_ ?_
  · intro p hp
    simp only [L.FnExactSeenMost_T, List.mem_cons, List.not_mem_nil, or_false] at hp
    rcases hp with rfl | rfl | rfl | rfl
    · exact L.toIntS_ok
    · exact S.SeenMost_ok
    · exact I.SeenMost_ok
    · exact L.eqIntS_ok
  · intro args h κ r hh
    simp only [L.FnExactSeenMost_s] at hh
    split at hh
    · exact (L.FnExactSeenMost_den _ _ κ).trans hh
    · cases hh
  · intro args h κ r hh
    simp only [L.FnExactSeenMost_s] at hh ⊢
    split at hh
    · exact optC_law2 (F := fun (r : Bool) κ => κ (.bool r) []) (fun b κ r hb => ⟨_, _, hb, fun _ => rfl⟩) hh
    · cases hh
  · intro _ args h κ r hh
    simp only [L.FnExactSeenMost_s] at hh
    split at hh
    · exact ⟨rfl, fun _ => rfl⟩
    · cases hh
  · intro _ args h κ r hh
    simp only [L.FnExactSeenMost_s] at hh
    split at hh
    · rfl
    · cases hh

-- loop.example/guardsonnets/spec.DrawFewestCuts
noncomputable def S.DrawFewestCuts_T : List (Nat × D.Spec) := [(40, S.l20Open_s), (57, S.l20Net_s)]
def S.DrawFewestCuts_ann : Nat → List Nat × List Nat
  | _ => ([], [])
noncomputable def S.DrawFewestCuts_F (args : List V) (h : List E) (κ : V → List E → R) : R := funC TD (tableK S.DrawFewestCuts_T) S.DrawFewestCuts_ann (drawOk TD (tableP S.DrawFewestCuts_T)) FUEL Try.f32 args h κ
noncomputable def S.DrawFewestCuts_tree {α : Type} (code : List Int) (leaf0_ : List Int → α) (fail_ : α) : α :=
  (optC (S.l20Open_t code) (fun c_1 => (optC (S.l20Net_t c_1.fst c_1.snd 9) (fun c_2 => (leaf0_ c_2.snd.snd)) fail_)) fail_)
theorem S.DrawFewestCuts_tree_nat {α γ : Type} (g : α → γ) (code : List Int) (leaf0_ : List Int → α) (fail_ : α) : g (S.DrawFewestCuts_tree code leaf0_ fail_) = S.DrawFewestCuts_tree code (fun d => g (leaf0_ d)) (g fail_) := by
  unfold S.DrawFewestCuts_tree; simp only [apply_cnd g, apply_optC g, apply_sumC g]
noncomputable def S.DrawFewestCuts_t (code : List Int) : Option (List Int) := S.DrawFewestCuts_tree code (fun d => some d) none
theorem S.DrawFewestCuts_den (code : List Int) (κ : V → List E → R) : S.DrawFewestCuts_F [.ro true (.ints .u8 code)] [] κ = optC (S.DrawFewestCuts_t code) (fun (r : List Int) => κ (.own 0) [.row (.ints .i64 r)]) none := by
  have hu : S.DrawFewestCuts_F [.ro true (.ints .u8 code)] [] κ = S.DrawFewestCuts_tree code (fun d => κ (.own 0) [.row (.ints .i64 d)]) none := by
    kernel_rfl
  rw [hu]
  exact (S.DrawFewestCuts_tree_nat (fun o => optC o (fun (r : List Int) => κ (.own 0) [.row (.ints .i64 r)]) none) code (fun d => some d) none).symm
noncomputable def S.DrawFewestCuts_s : D.Spec where
  keep := true
  pure := false
  add := true
  ds := [.int .u8]
  sp := fun args h κ => match args, h with
    | [.ro true (.ints .u8 code)], [] => optC (S.DrawFewestCuts_t code) (fun (r : List Int) => κ (.own 0) [.row (.ints .i64 r)]) none
    | _, _ => none
theorem S.DrawFewestCuts_ok : SpecOk Try.prog 32 S.DrawFewestCuts_s := by
  refine SpecOk.of TDok mixed (T := S.DrawFewestCuts_T) ?_ (ann := S.DrawFewestCuts_ann) Try.func32 rfl (by decide +kernel) ?_ ?_ ?_ ?_
  · intro p hp
    simp only [S.DrawFewestCuts_T, List.mem_cons, List.not_mem_nil, or_false] at hp
    rcases hp with rfl | rfl
    · exact S.l20Open_ok
    · exact S.l20Net_ok
  · intro args h κ r hh
    simp only [S.DrawFewestCuts_s] at hh
    split at hh
    · exact (S.DrawFewestCuts_den _ κ).trans hh
    · cases hh
  · intro args h κ r hh
    simp only [S.DrawFewestCuts_s] at hh ⊢
    split at hh
    · exact optC_law2 (F := fun (r : List Int) κ => κ (.own 0) [.row (.ints .i64 r)]) (fun b κ r hb => ⟨_, _, hb, fun _ => rfl⟩) hh
    · cases hh
  · intro hh; cases hh
  · intro _ args h κ r hh
    simp only [S.DrawFewestCuts_s] at hh
    split at hh
    · rfl
    · cases hh

-- loop.example/guardsonnets/impl.wiresIn
noncomputable def I.wiresIn_T : List (Nat × D.Spec) := [(46, I.hasPlace_s)]
def I.wiresIn_ann : Nat → List Nat × List Nat
  | 6 => ([0, 3, 4, 5], [0, 3, 4])
  | 3 => ([0, 3, 4], [3])
  | _ => ([], [])
noncomputable def I.wiresIn_F (args : List V) (h : List E) (κ : V → List E → R) : R := funC TD (tableK I.wiresIn_T) I.wiresIn_ann (drawOk TD (tableP I.wiresIn_T)) FUEL Try.f62 args h κ
noncomputable def I.wiresIn_L6 (n : Nat) (σ : St) (k : X → St → R) : R := iterC 0 (fun σ k => denC TD (tableK I.wiresIn_T) I.wiresIn_ann (drawOk TD (tableP I.wiresIn_T)) 0 FUEL ((findLoop 6 (Try.f62.body.getD .skip)).getD .skip) σ k) [0, 3, 4, 5] [0, 3, 4] n σ k
noncomputable def I.wiresIn_L3 (n : Nat) (σ : St) (k : X → St → R) : R := iterC 0 (fun σ k => denC TD (tableK I.wiresIn_T) I.wiresIn_ann (drawOk TD (tableP I.wiresIn_T)) 0 FUEL ((findLoop 3 (Try.f62.body.getD .skip)).getD .skip) σ k) [0, 3, 4] [3] n σ k
noncomputable def I.wiresIn_k6 (c : (St → R) × (X → St → R)) : X → St → R := (afterC TD (tableK I.wiresIn_T) I.wiresIn_ann (drawOk TD (tableP I.wiresIn_T)) 0 FUEL 6 ((findLoop 3 (Try.f62.body.getD .skip)).getD .skip) (roundC 0 [0, 3, 4] [3] c.1 c.2)).getD (fun _ _ => none)
noncomputable def I.wiresIn_k3 (κ : V → List E → R) : X → St → R := (afterC TD (tableK I.wiresIn_T) I.wiresIn_ann (drawOk TD (tableP I.wiresIn_T)) 0 FUEL 3 (Try.f62.body.getD .skip) (finC TD 0 Try.f62 κ)).getD (fun _ _ => none)
noncomputable def I.wiresIn_step6 {α : Type} (x0 : List Int) (x4 : Int) (x5 : Int) (r0 : List Int) (next_ : Int × (List Int) → α) (out0_ : List Int → α) (fail_ : α) : α :=
  (bif decide (x5 < (↑x0.length : Int)) then (bif decide (0 ≤ x4) && decide (x4 < (↑x0.length : Int)) then (optC (I.hasPlace_t (eli x0 x4.toNat) x5) (fun c_1 => (bif c_1 then (bif small (r0.length + [x4, x5].length) then (next_ (IntKind.i64.wrap (x5 + 1), r0 ++ [x4, x5])) else fail_) else (next_ (IntKind.i64.wrap (x5 + 1), r0)))) fail_) else fail_) else (out0_ r0))
theorem I.wiresIn_step6_nat {α γ : Type} (g : α → γ) (x0 : List Int) (x4 : Int) (x5 : Int) (r0 : List Int) (next_ : Int × (List Int) → α) (out0_ : List Int → α) (fail_ : α) : g (I.wiresIn_step6 x0 x4 x5 r0 next_ out0_ fail_) = I.wiresIn_step6 x0 x4 x5 r0 (fun s => g (next_ s)) (fun d => g (out0_ d)) (g fail_) := by
  unfold I.wiresIn_step6; simp only [apply_cnd g, apply_optC g, apply_sumC g]
noncomputable def I.wiresIn_run6 (x0 : List Int) (x4 : Int) : Nat → Int × (List Int) → Option (List Int)
  | 0, _ => none
  | n + 1, s_ => I.wiresIn_step6 x0 x4 s_.1 s_.2 (I.wiresIn_run6 x0 x4 n) (fun d => some d) none
theorem I.wiresIn_L6_run (x0 : List Int) (x4 : Int) (n : Nat) (s_ : Int × (List Int)) (k : X → St → R) : I.wiresIn_L6 n { n := 34, t := [(0, (.ro false (.ints .i64 x0))), (3, (.own 0)), (4, (.int .i64 x4)), (5, (.int .i64 s_.1))], h := [.recs 2 s_.2] } k = optC (I.wiresIn_run6 x0 x4 n s_) (fun (r : List Int) => k (.exit 2) { n := 34, t := [(0, (.ro false (.ints .i64 x0))), (3, (.own 0)), (4, (.int .i64 x4))], h := [.recs 2 r] }) none := by
  induction n generalizing s_ with
  | zero => rfl
  | succ n ih =>
    have hu : I.wiresIn_L6 (n + 1) { n := 34, t := [(0, (.ro false (.ints .i64 x0))), (3, (.own 0)), (4, (.int .i64 x4)), (5, (.int .i64 s_.1))], h := [.recs 2 s_.2] } k = I.wiresIn_step6 x0 x4 s_.1 s_.2 (fun s_ => I.wiresIn_L6 n { n := 34, t := [(0, (.ro false (.ints .i64 x0))), (3, (.own 0)), (4, (.int .i64 x4)), (5, (.int .i64 s_.1))], h := [.recs 2 s_.2] } k) (fun d => k (.exit 2) { n := 34, t := [(0, (.ro false (.ints .i64 x0))), (3, (.own 0)), (4, (.int .i64 x4))], h := [.recs 2 d] }) none := by
      kernel_rfl
    have hs : (fun s_ : Int × (List Int) => I.wiresIn_L6 n { n := 34, t := [(0, (.ro false (.ints .i64 x0))), (3, (.own 0)), (4, (.int .i64 x4)), (5, (.int .i64 s_.1))], h := [.recs 2 s_.2] } k) = fun s_ => optC (I.wiresIn_run6 x0 x4 n s_) (fun (r : List Int) => k (.exit 2) { n := 34, t := [(0, (.ro false (.ints .i64 x0))), (3, (.own 0)), (4, (.int .i64 x4))], h := [.recs 2 r] }) none := funext ih
    rw [hu, hs]
    exact (I.wiresIn_step6_nat (fun o => optC o (fun (r : List Int) => k (.exit 2) { n := 34, t := [(0, (.ro false (.ints .i64 x0))), (3, (.own 0)), (4, (.int .i64 x4))], h := [.recs 2 r] }) none) x0 x4 s_.1 s_.2 (I.wiresIn_run6 x0 x4 n) (fun d => some d) none).symm
noncomputable def I.wiresIn_step3 {α : Type} (x0 : List Int) (x4 : Int) (r0 : List Int) (next_ : Int × (List Int) → α) (out0_ : List Int → α) (fail_ : α) : α :=
  (bif decide (x4 < (↑x0.length : Int)) then (optC (I.wiresIn_run6 x0 x4 FUEL (IntKind.i64.wrap (x4 + 1), r0)) (fun qy_2 => (next_ (IntKind.i64.wrap (x4 + 1), qy_2))) fail_) else (out0_ r0))
theorem I.wiresIn_step3_nat {α γ : Type} (g : α → γ) (x0 : List Int) (x4 : Int) (r0 : List Int) (next_ : Int × (List Int) → α) (out0_ : List Int → α) (fail_ : α) : g (I.wiresIn_step3 x0 x4 r0 next_ out0_ fail_) = I.wiresIn_step3 x0 x4 r0 (fun s => g (next_ s)) (fun d => g (out0_ d)) (g fail_) := by
  unfold I.wiresIn_step3; simp only [apply_cnd g, apply_optC g, apply_sumC g]
noncomputable def I.wiresIn_run3 (x0 : List Int) : Nat → Int × (List Int) → Option (List Int)
  | 0, _ => none
  | n + 1, s_ => I.wiresIn_step3 x0 s_.1 s_.2 (I.wiresIn_run3 x0 n) (fun d => some d) none
theorem I.wiresIn_L3_run (x0 : List Int) (n : Nat) (s_ : Int × (List Int)) (k : X → St → R) : I.wiresIn_L3 n { n := 34, t := [(0, (.ro false (.ints .i64 x0))), (3, (.own 0)), (4, (.int .i64 s_.1))], h := [.recs 2 s_.2] } k = optC (I.wiresIn_run3 x0 n s_) (fun (r : List Int) => k (.exit 0) { n := 34, t := [(3, (.own 0))], h := [.recs 2 r] }) none := by
  induction n generalizing s_ with
  | zero => rfl
  | succ n ih =>
    have hu : I.wiresIn_L3 (n + 1) { n := 34, t := [(0, (.ro false (.ints .i64 x0))), (3, (.own 0)), (4, (.int .i64 s_.1))], h := [.recs 2 s_.2] } k = I.wiresIn_step3 x0 s_.1 s_.2 (fun s_ => I.wiresIn_L3 n { n := 34, t := [(0, (.ro false (.ints .i64 x0))), (3, (.own 0)), (4, (.int .i64 s_.1))], h := [.recs 2 s_.2] } k) (fun d => k (.exit 0) { n := 34, t := [(3, (.own 0))], h := [.recs 2 d] }) none := by
      refine Eq.trans (show I.wiresIn_L3 (n + 1) { n := 34, t := [(0, (.ro false (.ints .i64 x0))), (3, (.own 0)), (4, (.int .i64 s_.1))], h := [.recs 2 s_.2] } k = (bif decide (s_.1 < (↑x0.length : Int)) then (I.wiresIn_L6 FUEL { n := 34, t := [(0, (.ro false (.ints .i64 x0))), (3, (.own 0)), (4, (.int .i64 s_.1)), (5, (.int .i64 (IntKind.i64.wrap (s_.1 + 1))))], h := [.recs 2 s_.2] } (I.wiresIn_k6 ((fun σ => I.wiresIn_L3 n σ k), k))) else (k (.exit 0) { n := 34, t := [(3, (.own 0))], h := [.recs 2 s_.2] })) by kernel_rfl) ?_
      refine cnd_congr ?_ ?_
      · refine (I.wiresIn_L6_run x0 s_.1 FUEL (IntKind.i64.wrap (s_.1 + 1), s_.2) (I.wiresIn_k6 ((fun σ => I.wiresIn_L3 n σ k), k))).trans (optC_congr (fun qy_2 => ?_))
        kernel_rfl
      · kernel_rfl
    have hs : (fun s_ : Int × (List Int) => I.wiresIn_L3 n { n := 34, t := [(0, (.ro false (.ints .i64 x0))), (3, (.own 0)), (4, (.int .i64 s_.1))], h := [.recs 2 s_.2] } k) = fun s_ => optC (I.wiresIn_run3 x0 n s_) (fun (r : List Int) => k (.exit 0) { n := 34, t := [(3, (.own 0))], h := [.recs 2 r] }) none := funext ih
    rw [hu, hs]
    exact (I.wiresIn_step3_nat (fun o => optC o (fun (r : List Int) => k (.exit 0) { n := 34, t := [(3, (.own 0))], h := [.recs 2 r] }) none) x0 s_.1 s_.2 (I.wiresIn_run3 x0 n) (fun d => some d) none).symm
noncomputable def I.wiresIn_tree {α : Type} (net : List Int) (leaf0_ : List Int → α) (fail_ : α) : α :=
  (optC (I.wiresIn_run3 net FUEL (0, [])) (fun qy_3 => (leaf0_ qy_3)) fail_)
theorem I.wiresIn_tree_nat {α γ : Type} (g : α → γ) (net : List Int) (leaf0_ : List Int → α) (fail_ : α) : g (I.wiresIn_tree net leaf0_ fail_) = I.wiresIn_tree net (fun d => g (leaf0_ d)) (g fail_) := by
  unfold I.wiresIn_tree; simp only [apply_cnd g, apply_optC g, apply_sumC g]
noncomputable def I.wiresIn_t (net : List Int) : Option (List Int) := I.wiresIn_tree net (fun d => some d) none
theorem I.wiresIn_den (net : List Int) (κ : V → List E → R) : I.wiresIn_F [.ro false (.ints .i64 net)] [] κ = optC (I.wiresIn_t net) (fun (r : List Int) => κ (.own 0) [.recs 2 r]) none := by
  have hu : I.wiresIn_F [.ro false (.ints .i64 net)] [] κ = I.wiresIn_tree net (fun d => κ (.own 0) [.recs 2 d]) none := by
    refine Eq.trans (show I.wiresIn_F [.ro false (.ints .i64 net)] [] κ = (I.wiresIn_L3 FUEL { n := 34, t := [(0, (.ro false (.ints .i64 net))), (3, (.own 0)), (4, (.int .i64 0))], h := [.recs 2 ([])] } (I.wiresIn_k3 κ)) by kernel_rfl) ?_
    refine (I.wiresIn_L3_run net FUEL (0, []) (I.wiresIn_k3 κ)).trans (optC_congr (fun qy_3 => ?_))
    kernel_rfl
  rw [hu]
  exact (I.wiresIn_tree_nat (fun o => optC o (fun (r : List Int) => κ (.own 0) [.recs 2 r]) none) net (fun d => some d) none).symm
noncomputable def I.wiresIn_s : D.Spec where
  keep := false
  pure := false
  add := true
  ds := [.int .i64]
  sp := fun args h κ => match args, h with
    | [.ro false (.ints .i64 net)], [] => optC (I.wiresIn_t net) (fun (r : List Int) => κ (.own 0) [.recs 2 r]) none
    | _, _ => none
theorem I.wiresIn_ok : SpecOk Try.prog 62 I.wiresIn_s := by
  refine SpecOk.of TDok mixed (T := I.wiresIn_T) ?_ (ann := I.wiresIn_ann) Try.func62 rfl (by decide +kernel) ?_ ?_ ?_ ?_
  · intro p hp
    simp only [I.wiresIn_T, List.mem_cons, List.not_mem_nil, or_false] at hp
    rcases hp with rfl
    · exact I.hasPlace_ok
  · intro args h κ r hh
    simp only [I.wiresIn_s] at hh
    split at hh
    · exact (I.wiresIn_den _ κ).trans hh
    · cases hh
  · intro args h κ r hh
    simp only [I.wiresIn_s] at hh ⊢
    split at hh
    · exact optC_law2 (F := fun (r : List Int) κ => κ (.own 0) [.recs 2 r]) (fun b κ r hb => ⟨_, _, hb, fun _ => rfl⟩) hh
    · cases hh
  · intro hh; cases hh
  · intro _ args h κ r hh
    simp only [I.wiresIn_s] at hh
    split at hh
    · rfl
    · cases hh

-- loop.example/guardsonnets/impl.watchedBy
noncomputable def I.watchedBy_T : List (Nat × D.Spec) := [(58, I.seenMostIn_s)]
def I.watchedBy_ann : Nat → List Nat × List Nat
  | _ => ([], [])
noncomputable def I.watchedBy_F (args : List V) (h : List E) (κ : V → List E → R) : R := funC TD (tableK I.watchedBy_T) I.watchedBy_ann (drawOk TD (tableP I.watchedBy_T)) FUEL Try.f80 args h κ
noncomputable def I.watchedBy_tree {α : Type} (net : List Int) (guards : Int) (leaf0_ : Bool → α) (fail_ : α) : α :=
  (optC (I.seenMostIn_t net guards) (fun c_1 => (leaf0_ (c_1 == (↑net.length : Int)))) fail_)
theorem I.watchedBy_tree_nat {α γ : Type} (g : α → γ) (net : List Int) (guards : Int) (leaf0_ : Bool → α) (fail_ : α) : g (I.watchedBy_tree net guards leaf0_ fail_) = I.watchedBy_tree net guards (fun d => g (leaf0_ d)) (g fail_) := by
  unfold I.watchedBy_tree; simp only [apply_cnd g, apply_optC g, apply_sumC g]
noncomputable def I.watchedBy_t (net : List Int) (guards : Int) : Option (Bool) := I.watchedBy_tree net guards (fun d => some d) none
theorem I.watchedBy_den (net : List Int) (guards : Int) (κ : V → List E → R) : I.watchedBy_F [.ro false (.ints .i64 net), .int .i64 guards] [] κ = optC (I.watchedBy_t net guards) (fun (r : Bool) => κ (.bool r) []) none := by
  have hu : I.watchedBy_F [.ro false (.ints .i64 net), .int .i64 guards] [] κ = I.watchedBy_tree net guards (fun d => κ (.bool d) []) none := by
    kernel_rfl
  rw [hu]
  exact (I.watchedBy_tree_nat (fun o => optC o (fun (r : Bool) => κ (.bool r) []) none) net guards (fun d => some d) none).symm
noncomputable def I.watchedBy_s : D.Spec where
  keep := false
  pure := true
  add := true
  ds := [.int .i64, .invalid]
  sp := fun args h κ => match args, h with
    | [.ro false (.ints .i64 net), .int .i64 guards], [] => optC (I.watchedBy_t net guards) (fun (r : Bool) => κ (.bool r) []) none
    | _, _ => none
theorem I.watchedBy_ok : SpecOk Try.prog 80 I.watchedBy_s := by
  refine SpecOk.of TDok mixed (T := I.watchedBy_T) ?_ (ann := I.watchedBy_ann) Try.func80 rfl (by decide +kernel) ?_ ?_ ?_ ?_
  · intro p hp
    simp only [I.watchedBy_T, List.mem_cons, List.not_mem_nil, or_false] at hp
    rcases hp with rfl
    · exact I.seenMostIn_ok
  · intro args h κ r hh
    simp only [I.watchedBy_s] at hh
    split at hh
    · exact (I.watchedBy_den _ _ κ).trans hh
    · cases hh
  · intro args h κ r hh
    simp only [I.watchedBy_s] at hh ⊢
    split at hh
    · exact optC_law2 (F := fun (r : Bool) κ => κ (.bool r) []) (fun b κ r hb => ⟨_, _, hb, fun _ => rfl⟩) hh
    · cases hh
  · intro _ args h κ r hh
    simp only [I.watchedBy_s] at hh
    split at hh
    · exact ⟨rfl, fun _ => rfl⟩
    · cases hh
  · intro _ args h κ r hh
    simp only [I.watchedBy_s] at hh
    split at hh
    · rfl
    · cases hh

-- loop.example/guardsonnets/impl.turnsTill
class I.turnsTill_r_R where
  r : (List Int) → (List Int) → Int → Int → Bool → Option (Bool)
section
variable [c_ : I.turnsTill_r_R]
noncomputable def I.turnsTill_r0_t (net : List Int) (row : List Int) (missing : Int) (guards : Int) (watched : Bool) : Option (Bool) := I.turnsTill_r_R.r net row missing guards watched
noncomputable def I.turnsTill_r0_s : D.Spec where
  keep := false
  pure := true
  add := true
  ds := [.int .i64, .invalid, .invalid, .invalid, .invalid]
  sp := fun args h κ => match args, h with
    | [.ro false (.ints .i64 net), .recs false 2 row, .int .i64 missing, .int .i64 guards, .bool watched], [] => optC (I.turnsTill_r0_t net row missing guards watched) (fun (r : Bool) => κ (.bool r) []) none
    | _, _ => none
end
section
variable [c_ : I.turnsTill_r_R]
noncomputable def I.turnsTill_r_T : List (Nat × D.Spec) := [(80, I.watchedBy_s), (47, I.turnedBy_s), (76, I.turnsTill_r0_s)]
def I.turnsTill_r_ann : Nat → List Nat × List Nat
  | _ => ([], [])
noncomputable def I.turnsTill_r_F (args : List V) (h : List E) (κ : V → List E → R) : R := funC TD (tableK I.turnsTill_r_T) I.turnsTill_r_ann (drawOk TD (tableP I.turnsTill_r_T)) FUEL Try.f76 args h κ
end
section
variable [c_ : I.turnsTill_r_R]
noncomputable def I.turnsTill_r_tree {α : Type} (net : List Int) (row : List Int) (missing : Int) (guards : Int) (watched : Bool) (leaf0_ : Bool → α) (fail_ : α) : α :=
  (bif missing == 0 then (optC (I.watchedBy_t net guards) (fun c_1 => (leaf0_ (c_1 == watched))) fail_) else (bif decide ((↑(row.length / 2) : Int) < missing) then (leaf0_ false) else (bif decide (0 < (↑(row.length / 2) : Int)) then (optC (I.turnedBy_t net (eli row (Int.toNat 0 * 2 + 0)) (eli row (Int.toNat 0 * 2 + 1))) (fun c_2 => (bif decide (1 ≤ (↑(row.length / 2) : Int)) && decide ((↑(row.length / 2) : Int) ≤ (↑(row.length / 2) : Int)) then (optC (I.turnsTill_r0_t c_2 (List.take ((row.length / 2 - Int.toNat 1) * 2) (List.drop (Int.toNat 1 * 2) row)) (IntKind.i64.wrap (missing - 1)) guards watched) (fun c_3 => (bif c_3 then (leaf0_ true) else (bif decide (1 ≤ (↑(row.length / 2) : Int)) && decide ((↑(row.length / 2) : Int) ≤ (↑(row.length / 2) : Int)) then (optC (I.turnsTill_r0_t net (List.take ((row.length / 2 - Int.toNat 1) * 2) (List.drop (Int.toNat 1 * 2) row)) missing guards watched) (fun c_4 => (leaf0_ c_4)) fail_) else fail_))) fail_) else fail_)) fail_) else fail_)))
theorem I.turnsTill_r_tree_nat {α γ : Type} (g : α → γ) (net : List Int) (row : List Int) (missing : Int) (guards : Int) (watched : Bool) (leaf0_ : Bool → α) (fail_ : α) : g (I.turnsTill_r_tree net row missing guards watched leaf0_ fail_) = I.turnsTill_r_tree net row missing guards watched (fun d => g (leaf0_ d)) (g fail_) := by
  unfold I.turnsTill_r_tree; simp only [apply_cnd g, apply_optC g, apply_sumC g]
noncomputable def I.turnsTill_r_t (net : List Int) (row : List Int) (missing : Int) (guards : Int) (watched : Bool) : Option (Bool) := I.turnsTill_r_tree net row missing guards watched (fun d => some d) none
theorem I.turnsTill_r_den (net : List Int) (row : List Int) (missing : Int) (guards : Int) (watched : Bool) (κ : V → List E → R) : I.turnsTill_r_F [.ro false (.ints .i64 net), .recs false 2 row, .int .i64 missing, .int .i64 guards, .bool watched] [] κ = optC (I.turnsTill_r_t net row missing guards watched) (fun (r : Bool) => κ (.bool r) []) none := by
  have hu : I.turnsTill_r_F [.ro false (.ints .i64 net), .recs false 2 row, .int .i64 missing, .int .i64 guards, .bool watched] [] κ = I.turnsTill_r_tree net row missing guards watched (fun d => κ (.bool d) []) none := by
    kernel_rfl
  rw [hu]
  exact (I.turnsTill_r_tree_nat (fun o => optC o (fun (r : Bool) => κ (.bool r) []) none) net row missing guards watched (fun d => some d) none).symm
noncomputable def I.turnsTill_r_s : D.Spec where
  keep := false
  pure := true
  add := true
  ds := [.int .i64, .invalid, .invalid, .invalid, .invalid]
  sp := fun args h κ => match args, h with
    | [.ro false (.ints .i64 net), .recs false 2 row, .int .i64 missing, .int .i64 guards, .bool watched], [] => optC (I.turnsTill_r_t net row missing guards watched) (fun (r : Bool) => κ (.bool r) []) none
    | _, _ => none
theorem I.turnsTill_r_ok (hrec_ : SpecOk Try.prog 76 I.turnsTill_r0_s) : SpecOk Try.prog 76 I.turnsTill_r_s := by
  refine SpecOk.of TDok mixed (T := I.turnsTill_r_T) ?_ (ann := I.turnsTill_r_ann) Try.func76 rfl (by decide +kernel) ?_ ?_ ?_ ?_
  · intro p hp
    simp only [I.turnsTill_r_T, List.mem_cons, List.not_mem_nil, or_false] at hp
    rcases hp with rfl | rfl | rfl
    · exact I.watchedBy_ok
    · exact I.turnedBy_ok
    · exact hrec_
  · intro args h κ r hh
    simp only [I.turnsTill_r_s] at hh
    split at hh
    · exact (I.turnsTill_r_den _ _ _ _ _ κ).trans hh
    · cases hh
  · intro args h κ r hh
    simp only [I.turnsTill_r_s] at hh ⊢
    split at hh
    · exact optC_law2 (F := fun (r : Bool) κ => κ (.bool r) []) (fun b κ r hb => ⟨_, _, hb, fun _ => rfl⟩) hh
    · cases hh
  · intro _ args h κ r hh
    simp only [I.turnsTill_r_s] at hh
    split at hh
    · exact ⟨rfl, fun _ => rfl⟩
    · cases hh
  · intro _ args h κ r hh
    simp only [I.turnsTill_r_s] at hh
    split at hh
    · rfl
    · cases hh
end
noncomputable def I.turnsTill_td : Nat → (List Int) → (List Int) → Int → Int → Bool → Option (Bool)
  | 0 => fun _ _ _ _ _ => none
  | d + 1 => @I.turnsTill_r_t ⟨I.turnsTill_td d⟩
noncomputable def I.turnsTill_t (net : List Int) (row : List Int) (missing : Int) (guards : Int) (watched : Bool) : Option (Bool) := I.turnsTill_td FUEL net row missing guards watched
noncomputable def I.turnsTill_s : D.Spec where
  keep := false
  pure := true
  add := true
  ds := [.int .i64, .invalid, .invalid, .invalid, .invalid]
  sp := fun args h κ => match args, h with
    | [.ro false (.ints .i64 net), .recs false 2 row, .int .i64 missing, .int .i64 guards, .bool watched], [] => optC (I.turnsTill_t net row missing guards watched) (fun (r : Bool) => κ (.bool r) []) none
    | _, _ => none
theorem I.turnsTill_okd : ∀ d : Nat, SpecOk Try.prog 76 (@I.turnsTill_r0_s ⟨I.turnsTill_td d⟩)
  | 0 => SpecOk.zero Try.func76 rfl (by decide +kernel) (fun args h κ => by
      simp only [I.turnsTill_r0_s]
      split
      · rfl
      · rfl)
  | d + 1 => @I.turnsTill_r_ok ⟨I.turnsTill_td d⟩ (I.turnsTill_okd d)
theorem I.turnsTill_ok : SpecOk Try.prog 76 I.turnsTill_s := I.turnsTill_okd FUEL

-- loop.example/guardsonnets/impl.fewestTurns
noncomputable def I.fewestTurns_T : List (Nat × D.Spec) := [(76, I.turnsTill_s)]
def I.fewestTurns_ann : Nat → List Nat × List Nat
  | 2 => ([0, 1, 2, 3, 9], [8])
  | _ => ([], [])
noncomputable def I.fewestTurns_F (args : List V) (h : List E) (κ : V → List E → R) : R := funC TD (tableK I.fewestTurns_T) I.fewestTurns_ann (drawOk TD (tableP I.fewestTurns_T)) FUEL Try.f61 args h κ
noncomputable def I.fewestTurns_L2 (n : Nat) (σ : St) (k : X → St → R) : R := iterC 0 (fun σ k => denC TD (tableK I.fewestTurns_T) I.fewestTurns_ann (drawOk TD (tableP I.fewestTurns_T)) 0 FUEL ((findLoop 2 (Try.f61.body.getD .skip)).getD .skip) σ k) [0, 1, 2, 3, 9] [8] n σ k
noncomputable def I.fewestTurns_k2 (κ : V → List E → R) : X → St → R := (afterC TD (tableK I.fewestTurns_T) I.fewestTurns_ann (drawOk TD (tableP I.fewestTurns_T)) 0 FUEL 2 (Try.f61.body.getD .skip) (finC TD 0 Try.f61 κ)).getD (fun _ _ => none)
noncomputable def I.fewestTurns_step2 {α : Type} (x0 : List Int) (x1 : List Int) (x2 : Int) (x3 : Bool) (x9 : Int) (next_ : Int → α) (out0_ : Int → α) (out1_ : Unit → α) (fail_ : α) : α :=
  (bif decide (x9 ≤ (↑(x1.length / 2) : Int)) then (optC (I.turnsTill_t x0 x1 x9 x2 x3) (fun c_1 => (bif c_1 then (out0_ x9) else (next_ (IntKind.i64.wrap (x9 + 1))))) fail_) else (out1_ ()))
theorem I.fewestTurns_step2_nat {α γ : Type} (g : α → γ) (x0 : List Int) (x1 : List Int) (x2 : Int) (x3 : Bool) (x9 : Int) (next_ : Int → α) (out0_ : Int → α) (out1_ : Unit → α) (fail_ : α) : g (I.fewestTurns_step2 x0 x1 x2 x3 x9 next_ out0_ out1_ fail_) = I.fewestTurns_step2 x0 x1 x2 x3 x9 (fun s => g (next_ s)) (fun d => g (out0_ d)) (fun d => g (out1_ d)) (g fail_) := by
  unfold I.fewestTurns_step2; simp only [apply_cnd g, apply_optC g, apply_sumC g]
noncomputable def I.fewestTurns_run2 (x0 : List Int) (x1 : List Int) (x2 : Int) (x3 : Bool) : Nat → Int → Option ((Int) ⊕ (Unit))
  | 0, _ => none
  | n + 1, s_ => I.fewestTurns_step2 x0 x1 x2 x3 s_ (I.fewestTurns_run2 x0 x1 x2 x3 n) (fun d => some ((Sum.inl d))) (fun d => some ((Sum.inr d))) none
theorem I.fewestTurns_L2_run (x0 : List Int) (x1 : List Int) (x2 : Int) (x3 : Bool) (n : Nat) (s_ : Int) (k : X → St → R) : I.fewestTurns_L2 n { n := 23, t := [(0, (.ro false (.ints .i64 x0))), (1, (.recs false 2 x1)), (2, (.int .i64 x2)), (3, (.bool x3)), (9, (.int .i64 s_))], h := [] } k = optC (I.fewestTurns_run2 x0 x1 x2 x3 n s_) (fun (r : (Int) ⊕ (Unit)) => (sumC r (fun (r : Int) => k (.ret) { n := 23, t := [(8, (.int .i64 r))], h := [] }) (fun (r : Unit) => k (.exit 0) { n := 23, t := [(8, .junk)], h := [] }))) none := by
  induction n generalizing s_ with
  | zero => rfl
  | succ n ih =>
    have hu : I.fewestTurns_L2 (n + 1) { n := 23, t := [(0, (.ro false (.ints .i64 x0))), (1, (.recs false 2 x1)), (2, (.int .i64 x2)), (3, (.bool x3)), (9, (.int .i64 s_))], h := [] } k = I.fewestTurns_step2 x0 x1 x2 x3 s_ (fun s_ => I.fewestTurns_L2 n { n := 23, t := [(0, (.ro false (.ints .i64 x0))), (1, (.recs false 2 x1)), (2, (.int .i64 x2)), (3, (.bool x3)), (9, (.int .i64 s_))], h := [] } k) (fun d => k (.ret) { n := 23, t := [(8, (.int .i64 d))], h := [] }) (fun d => k (.exit 0) { n := 23, t := [(8, .junk)], h := [] }) none := by
      kernel_rfl
    have hs : (fun s_ : Int => I.fewestTurns_L2 n { n := 23, t := [(0, (.ro false (.ints .i64 x0))), (1, (.recs false 2 x1)), (2, (.int .i64 x2)), (3, (.bool x3)), (9, (.int .i64 s_))], h := [] } k) = fun s_ => optC (I.fewestTurns_run2 x0 x1 x2 x3 n s_) (fun (r : (Int) ⊕ (Unit)) => (sumC r (fun (r : Int) => k (.ret) { n := 23, t := [(8, (.int .i64 r))], h := [] }) (fun (r : Unit) => k (.exit 0) { n := 23, t := [(8, .junk)], h := [] }))) none := funext ih
    rw [hu, hs]
    exact (I.fewestTurns_step2_nat (fun o => optC o (fun (r : (Int) ⊕ (Unit)) => (sumC r (fun (r : Int) => k (.ret) { n := 23, t := [(8, (.int .i64 r))], h := [] }) (fun (r : Unit) => k (.exit 0) { n := 23, t := [(8, .junk)], h := [] }))) none) x0 x1 x2 x3 s_ (I.fewestTurns_run2 x0 x1 x2 x3 n) (fun d => some ((Sum.inl d))) (fun d => some ((Sum.inr d))) none).symm
noncomputable def I.fewestTurns_tree {α : Type} (net : List Int) (row : List Int) (guards : Int) (watched : Bool) (leaf0_ : Int → α) (fail_ : α) : α :=
  (optC (I.fewestTurns_run2 net row guards watched FUEL 1) (fun qy_2 => (sumC qy_2 (fun (qy_2 : Int) => (leaf0_ qy_2)) (fun (qy_2 : Unit) => (leaf0_ (-1))))) fail_)
theorem I.fewestTurns_tree_nat {α γ : Type} (g : α → γ) (net : List Int) (row : List Int) (guards : Int) (watched : Bool) (leaf0_ : Int → α) (fail_ : α) : g (I.fewestTurns_tree net row guards watched leaf0_ fail_) = I.fewestTurns_tree net row guards watched (fun d => g (leaf0_ d)) (g fail_) := by
  unfold I.fewestTurns_tree; simp only [apply_cnd g, apply_optC g, apply_sumC g]
noncomputable def I.fewestTurns_t (net : List Int) (row : List Int) (guards : Int) (watched : Bool) : Option (Int) := I.fewestTurns_tree net row guards watched (fun d => some d) none
theorem I.fewestTurns_den (net : List Int) (row : List Int) (guards : Int) (watched : Bool) (κ : V → List E → R) : I.fewestTurns_F [.ro false (.ints .i64 net), .recs false 2 row, .int .i64 guards, .bool watched] [] κ = optC (I.fewestTurns_t net row guards watched) (fun (r : Int) => κ (.int .i64 r) []) none := by
  have hu : I.fewestTurns_F [.ro false (.ints .i64 net), .recs false 2 row, .int .i64 guards, .bool watched] [] κ = I.fewestTurns_tree net row guards watched (fun d => κ (.int .i64 d) []) none := by
    refine Eq.trans (show I.fewestTurns_F [.ro false (.ints .i64 net), .recs false 2 row, .int .i64 guards, .bool watched] [] κ = (I.fewestTurns_L2 FUEL { n := 23, t := [(0, (.ro false (.ints .i64 net))), (1, (.recs false 2 row)), (2, (.int .i64 guards)), (3, (.bool watched)), (9, (.int .i64 1))], h := [] } (I.fewestTurns_k2 κ)) by kernel_rfl) ?_
    refine (I.fewestTurns_L2_run net row guards watched FUEL 1 (I.fewestTurns_k2 κ)).trans (optC_congr (fun qy_2 => ?_))
    rcases qy_2 with qy_2 | qy_2
    · kernel_rfl
    · kernel_rfl
  rw [hu]
  exact (I.fewestTurns_tree_nat (fun o => optC o (fun (r : Int) => κ (.int .i64 r) []) none) net row guards watched (fun d => some d) none).symm
noncomputable def I.fewestTurns_s : D.Spec where
  keep := false
  pure := true
  add := true
  ds := [.int .i64, .invalid, .invalid, .invalid]
  sp := fun args h κ => match args, h with
    | [.ro false (.ints .i64 net), .recs false 2 row, .int .i64 guards, .bool watched], [] => optC (I.fewestTurns_t net row guards watched) (fun (r : Int) => κ (.int .i64 r) []) none
    | _, _ => none
theorem I.fewestTurns_ok : SpecOk Try.prog 61 I.fewestTurns_s := by
  refine SpecOk.of TDok mixed (T := I.fewestTurns_T) ?_ (ann := I.fewestTurns_ann) Try.func61 rfl (by decide +kernel) ?_ ?_ ?_ ?_
  · intro p hp
    simp only [I.fewestTurns_T, List.mem_cons, List.not_mem_nil, or_false] at hp
    rcases hp with rfl
    · exact I.turnsTill_ok
  · intro args h κ r hh
    simp only [I.fewestTurns_s] at hh
    split at hh
    · exact (I.fewestTurns_den _ _ _ _ κ).trans hh
    · cases hh
  · intro args h κ r hh
    simp only [I.fewestTurns_s] at hh ⊢
    split at hh
    · exact optC_law2 (F := fun (r : Int) κ => κ (.int .i64 r) []) (fun b κ r hb => ⟨_, _, hb, fun _ => rfl⟩) hh
    · cases hh
  · intro _ args h κ r hh
    simp only [I.fewestTurns_s] at hh
    split at hh
    · exact ⟨rfl, fun _ => rfl⟩
    · cases hh
  · intro _ args h κ r hh
    simp only [I.fewestTurns_s] at hh
    split at hh
    · rfl
    · cases hh

-- loop.example/guardsonnets/impl.FewestCuts
noncomputable def I.FewestCuts_T : List (Nat × D.Spec) := [(19, I.NetOk_s), (62, I.wiresIn_s), (18, I.FewestWatch_s), (61, I.fewestTurns_s)]
def I.FewestCuts_ann : Nat → List Nat × List Nat
  | _ => ([], [])
noncomputable def I.FewestCuts_F (args : List V) (h : List E) (κ : V → List E → R) : R := funC TD (tableK I.FewestCuts_T) I.FewestCuts_ann (drawOk TD (tableP I.FewestCuts_T)) FUEL Try.f33 args h κ
noncomputable def I.FewestCuts_tree {α : Type} (net : List Int) (leaf0_ : Int → α) (fail_ : α) : α :=
  (optC (I.NetOk_t net) (fun c_1 => (bif !c_1 then (leaf0_ (-1)) else (optC (I.wiresIn_t net) (fun c_2 => (optC (I.FewestWatch_t net) (fun c_3 => (optC (I.fewestTurns_t net c_2 c_3 false) (fun c_4 => (leaf0_ c_4)) fail_)) fail_)) fail_))) fail_)
theorem I.FewestCuts_tree_nat {α γ : Type} (g : α → γ) (net : List Int) (leaf0_ : Int → α) (fail_ : α) : g (I.FewestCuts_tree net leaf0_ fail_) = I.FewestCuts_tree net (fun d => g (leaf0_ d)) (g fail_) := by
  unfold I.FewestCuts_tree; simp only [apply_cnd g, apply_optC g, apply_sumC g]
noncomputable def I.FewestCuts_t (net : List Int) : Option (Int) := I.FewestCuts_tree net (fun d => some d) none
theorem I.FewestCuts_den (net : List Int) (κ : V → List E → R) : I.FewestCuts_F [.ro false (.ints .i64 net)] [] κ = optC (I.FewestCuts_t net) (fun (r : Int) => κ (.int .i64 r) []) none := by
  have hu : I.FewestCuts_F [.ro false (.ints .i64 net)] [] κ = I.FewestCuts_tree net (fun d => κ (.int .i64 d) []) none := by
    kernel_rfl
  rw [hu]
  exact (I.FewestCuts_tree_nat (fun o => optC o (fun (r : Int) => κ (.int .i64 r) []) none) net (fun d => some d) none).symm
noncomputable def I.FewestCuts_s : D.Spec where
  keep := false
  pure := true
  add := true
  ds := [.int .i64]
  sp := fun args h κ => match args, h with
    | [.ro false (.ints .i64 net)], [] => optC (I.FewestCuts_t net) (fun (r : Int) => κ (.int .i64 r) []) none
    | _, _ => none
theorem I.FewestCuts_ok : SpecOk Try.prog 33 I.FewestCuts_s := by
  refine SpecOk.of TDok mixed (T := I.FewestCuts_T) ?_ (ann := I.FewestCuts_ann) Try.func33 rfl (by decide +kernel) ?_ ?_ ?_ ?_
  · intro p hp
    simp only [I.FewestCuts_T, List.mem_cons, List.not_mem_nil, or_false] at hp
    rcases hp with rfl | rfl | rfl | rfl
    · exact I.NetOk_ok
    · exact I.wiresIn_ok
    · exact I.FewestWatch_ok
    · exact I.fewestTurns_ok
  · intro args h κ r hh
    simp only [I.FewestCuts_s] at hh
    split at hh
    · exact (I.FewestCuts_den _ κ).trans hh
    · cases hh
  · intro args h κ r hh
    simp only [I.FewestCuts_s] at hh ⊢
    split at hh
    · exact optC_law2 (F := fun (r : Int) κ => κ (.int .i64 r) []) (fun b κ r hb => ⟨_, _, hb, fun _ => rfl⟩) hh
    · cases hh
  · intro _ args h κ r hh
    simp only [I.FewestCuts_s] at hh
    split at hh
    · exact ⟨rfl, fun _ => rfl⟩
    · cases hh
  · intro _ args h κ r hh
    simp only [I.FewestCuts_s] at hh
    split at hh
    · rfl
    · cases hh

-- loop.example/guardsonnets/spec.l6Wires
noncomputable def S.l6Wires_T : List (Nat × D.Spec) := []
def S.l6Wires_ann : Nat → List Nat × List Nat
  | 6 => ([0, 3, 4, 5], [0, 3, 4])
  | 3 => ([0, 3, 4], [3])
  | _ => ([], [])
noncomputable def S.l6Wires_F (args : List V) (h : List E) (κ : V → List E → R) : R := funC TD (tableK S.l6Wires_T) S.l6Wires_ann (drawOk TD (tableP S.l6Wires_T)) FUEL Try.f63 args h κ
noncomputable def S.l6Wires_L6 (n : Nat) (σ : St) (k : X → St → R) : R := iterC 0 (fun σ k => denC TD (tableK S.l6Wires_T) S.l6Wires_ann (drawOk TD (tableP S.l6Wires_T)) 0 FUEL ((findLoop 6 (Try.f63.body.getD .skip)).getD .skip) σ k) [0, 3, 4, 5] [0, 3, 4] n σ k
noncomputable def S.l6Wires_L3 (n : Nat) (σ : St) (k : X → St → R) : R := iterC 0 (fun σ k => denC TD (tableK S.l6Wires_T) S.l6Wires_ann (drawOk TD (tableP S.l6Wires_T)) 0 FUEL ((findLoop 3 (Try.f63.body.getD .skip)).getD .skip) σ k) [0, 3, 4] [3] n σ k
noncomputable def S.l6Wires_k6 (c : (St → R) × (X → St → R)) : X → St → R := (afterC TD (tableK S.l6Wires_T) S.l6Wires_ann (drawOk TD (tableP S.l6Wires_T)) 0 FUEL 6 ((findLoop 3 (Try.f63.body.getD .skip)).getD .skip) (roundC 0 [0, 3, 4] [3] c.1 c.2)).getD (fun _ _ => none)
noncomputable def S.l6Wires_k3 (κ : V → List E → R) : X → St → R := (afterC TD (tableK S.l6Wires_T) S.l6Wires_ann (drawOk TD (tableP S.l6Wires_T)) 0 FUEL 3 (Try.f63.body.getD .skip) (finC TD 0 Try.f63 κ)).getD (fun _ _ => none)
noncomputable def S.l6Wires_step6 {α : Type} (x0 : List Int) (x4 : Int) (x5 : Int) (r0 : List (List Int)) (next_ : Int × (List (List Int)) → α) (out0_ : List (List Int) → α) (fail_ : α) : α :=
  (bif decide (x5 < (↑x0.length : Int)) then (bif decide (0 ≤ x4) && decide (x4 < (↑x0.length : Int)) then (bif decide (x5 < 0) then fail_ else (bif ((eli x0 x4.toNat).fdiv (2 ^ min x5.toNat IntKind.i64.bits)).tmod 2 == 1 then (bif small (r0 ++ [[x4, x5]]).length then (next_ (IntKind.i64.wrap (x5 + 1), r0 ++ [[x4, x5]])) else fail_) else (next_ (IntKind.i64.wrap (x5 + 1), r0)))) else fail_) else (out0_ r0))
theorem S.l6Wires_step6_nat {α γ : Type} (g : α → γ) (x0 : List Int) (x4 : Int) (x5 : Int) (r0 : List (List Int)) (next_ : Int × (List (List Int)) → α) (out0_ : List (List Int) → α) (fail_ : α) : g (S.l6Wires_step6 x0 x4 x5 r0 next_ out0_ fail_) = S.l6Wires_step6 x0 x4 x5 r0 (fun s => g (next_ s)) (fun d => g (out0_ d)) (g fail_) := by
  unfold S.l6Wires_step6; simp only [apply_cnd g, apply_optC g, apply_sumC g]
noncomputable def S.l6Wires_run6 (x0 : List Int) (x4 : Int) : Nat → Int × (List (List Int)) → Option (List (List Int))
  | 0, _ => none
  | n + 1, s_ => S.l6Wires_step6 x0 x4 s_.1 s_.2 (S.l6Wires_run6 x0 x4 n) (fun d => some d) none
theorem S.l6Wires_L6_run (x0 : List Int) (x4 : Int) (n : Nat) (s_ : Int × (List (List Int))) (k : X → St → R) : S.l6Wires_L6 n { n := 36, t := [(0, (.ro false (.ints .i64 x0))), (3, (.own 0)), (4, (.int .i64 x4)), (5, (.int .i64 s_.1))], h := [.row (.rows s_.2)] } k = optC (S.l6Wires_run6 x0 x4 n s_) (fun (r : List (List Int)) => k (.exit 2) { n := 36, t := [(0, (.ro false (.ints .i64 x0))), (3, (.own 0)), (4, (.int .i64 x4))], h := [.row (.rows r)] }) none := by
  induction n generalizing s_ with
  | zero => rfl
  | succ n ih =>
    have hu : S.l6Wires_L6 (n + 1) { n := 36, t := [(0, (.ro false (.ints .i64 x0))), (3, (.own 0)), (4, (.int .i64 x4)), (5, (.int .i64 s_.1))], h := [.row (.rows s_.2)] } k = S.l6Wires_step6 x0 x4 s_.1 s_.2 (fun s_ => S.l6Wires_L6 n { n := 36, t := [(0, (.ro false (.ints .i64 x0))), (3, (.own 0)), (4, (.int .i64 x4)), (5, (.int .i64 s_.1))], h := [.row (.rows s_.2)] } k) (fun d => k (.exit 2) { n := 36, t := [(0, (.ro false (.ints .i64 x0))), (3, (.own 0)), (4, (.int .i64 x4))], h := [.row (.rows d)] }) none := by
      kernel_rfl
    have hs : (fun s_ : Int × (List (List Int)) => S.l6Wires_L6 n { n := 36, t := [(0, (.ro false (.ints .i64 x0))), (3, (.own 0)), (4, (.int .i64 x4)), (5, (.int .i64 s_.1))], h := [.row (.rows s_.2)] } k) = fun s_ => optC (S.l6Wires_run6 x0 x4 n s_) (fun (r : List (List Int)) => k (.exit 2) { n := 36, t := [(0, (.ro false (.ints .i64 x0))), (3, (.own 0)), (4, (.int .i64 x4))], h := [.row (.rows r)] }) none := funext ih
    rw [hu, hs]
    exact (S.l6Wires_step6_nat (fun o => optC o (fun (r : List (List Int)) => k (.exit 2) { n := 36, t := [(0, (.ro false (.ints .i64 x0))), (3, (.own 0)), (4, (.int .i64 x4))], h := [.row (.rows r)] }) none) x0 x4 s_.1 s_.2 (S.l6Wires_run6 x0 x4 n) (fun d => some d) none).symm
noncomputable def S.l6Wires_step3 {α : Type} (x0 : List Int) (x4 : Int) (r0 : List (List Int)) (next_ : Int × (List (List Int)) → α) (out0_ : List (List Int) → α) (fail_ : α) : α :=
  (bif decide (x4 < (↑x0.length : Int)) then (optC (S.l6Wires_run6 x0 x4 FUEL (IntKind.i64.wrap (x4 + 1), r0)) (fun qy_1 => (next_ (IntKind.i64.wrap (x4 + 1), qy_1))) fail_) else (out0_ r0))
theorem S.l6Wires_step3_nat {α γ : Type} (g : α → γ) (x0 : List Int) (x4 : Int) (r0 : List (List Int)) (next_ : Int × (List (List Int)) → α) (out0_ : List (List Int) → α) (fail_ : α) : g (S.l6Wires_step3 x0 x4 r0 next_ out0_ fail_) = S.l6Wires_step3 x0 x4 r0 (fun s => g (next_ s)) (fun d => g (out0_ d)) (g fail_) := by
  unfold S.l6Wires_step3; simp only [apply_cnd g, apply_optC g, apply_sumC g]
noncomputable def S.l6Wires_run3 (x0 : List Int) : Nat → Int × (List (List Int)) → Option (List (List Int))
  | 0, _ => none
  | n + 1, s_ => S.l6Wires_step3 x0 s_.1 s_.2 (S.l6Wires_run3 x0 n) (fun d => some d) none
theorem S.l6Wires_L3_run (x0 : List Int) (n : Nat) (s_ : Int × (List (List Int))) (k : X → St → R) : S.l6Wires_L3 n { n := 36, t := [(0, (.ro false (.ints .i64 x0))), (3, (.own 0)), (4, (.int .i64 s_.1))], h := [.row (.rows s_.2)] } k = optC (S.l6Wires_run3 x0 n s_) (fun (r : List (List Int)) => k (.exit 0) { n := 36, t := [(3, (.own 0))], h := [.row (.rows r)] }) none := by
  induction n generalizing s_ with
  | zero => rfl
  | succ n ih =>
    have hu : S.l6Wires_L3 (n + 1) { n := 36, t := [(0, (.ro false (.ints .i64 x0))), (3, (.own 0)), (4, (.int .i64 s_.1))], h := [.row (.rows s_.2)] } k = S.l6Wires_step3 x0 s_.1 s_.2 (fun s_ => S.l6Wires_L3 n { n := 36, t := [(0, (.ro false (.ints .i64 x0))), (3, (.own 0)), (4, (.int .i64 s_.1))], h := [.row (.rows s_.2)] } k) (fun d => k (.exit 0) { n := 36, t := [(3, (.own 0))], h := [.row (.rows d)] }) none := by
      refine Eq.trans (show S.l6Wires_L3 (n + 1) { n := 36, t := [(0, (.ro false (.ints .i64 x0))), (3, (.own 0)), (4, (.int .i64 s_.1))], h := [.row (.rows s_.2)] } k = (bif decide (s_.1 < (↑x0.length : Int)) then (S.l6Wires_L6 FUEL { n := 36, t := [(0, (.ro false (.ints .i64 x0))), (3, (.own 0)), (4, (.int .i64 s_.1)), (5, (.int .i64 (IntKind.i64.wrap (s_.1 + 1))))], h := [.row (.rows s_.2)] } (S.l6Wires_k6 ((fun σ => S.l6Wires_L3 n σ k), k))) else (k (.exit 0) { n := 36, t := [(3, (.own 0))], h := [.row (.rows s_.2)] })) by kernel_rfl) ?_
      refine cnd_congr ?_ ?_
      · refine (S.l6Wires_L6_run x0 s_.1 FUEL (IntKind.i64.wrap (s_.1 + 1), s_.2) (S.l6Wires_k6 ((fun σ => S.l6Wires_L3 n σ k), k))).trans (optC_congr (fun qy_1 => ?_))
        kernel_rfl
      · kernel_rfl
    have hs : (fun s_ : Int × (List (List Int)) => S.l6Wires_L3 n { n := 36, t := [(0, (.ro false (.ints .i64 x0))), (3, (.own 0)), (4, (.int .i64 s_.1))], h := [.row (.rows s_.2)] } k) = fun s_ => optC (S.l6Wires_run3 x0 n s_) (fun (r : List (List Int)) => k (.exit 0) { n := 36, t := [(3, (.own 0))], h := [.row (.rows r)] }) none := funext ih
    rw [hu, hs]
    exact (S.l6Wires_step3_nat (fun o => optC o (fun (r : List (List Int)) => k (.exit 0) { n := 36, t := [(3, (.own 0))], h := [.row (.rows r)] }) none) x0 s_.1 s_.2 (S.l6Wires_run3 x0 n) (fun d => some d) none).symm
noncomputable def S.l6Wires_tree {α : Type} (net : List Int) (leaf0_ : List (List Int) → α) (fail_ : α) : α :=
  (optC (S.l6Wires_run3 net FUEL (0, [])) (fun qy_2 => (leaf0_ qy_2)) fail_)
theorem S.l6Wires_tree_nat {α γ : Type} (g : α → γ) (net : List Int) (leaf0_ : List (List Int) → α) (fail_ : α) : g (S.l6Wires_tree net leaf0_ fail_) = S.l6Wires_tree net (fun d => g (leaf0_ d)) (g fail_) := by
  unfold S.l6Wires_tree; simp only [apply_cnd g, apply_optC g, apply_sumC g]
noncomputable def S.l6Wires_t (net : List Int) : Option (List (List Int)) := S.l6Wires_tree net (fun d => some d) none
theorem S.l6Wires_den (net : List Int) (κ : V → List E → R) : S.l6Wires_F [.ro false (.ints .i64 net)] [] κ = optC (S.l6Wires_t net) (fun (r : List (List Int)) => κ (.own 0) [.row (.rows r)]) none := by
  have hu : S.l6Wires_F [.ro false (.ints .i64 net)] [] κ = S.l6Wires_tree net (fun d => κ (.own 0) [.row (.rows d)]) none := by
    refine Eq.trans (show S.l6Wires_F [.ro false (.ints .i64 net)] [] κ = (S.l6Wires_L3 FUEL { n := 36, t := [(0, (.ro false (.ints .i64 net))), (3, (.own 0)), (4, (.int .i64 0))], h := [.row (.rows ([]))] } (S.l6Wires_k3 κ)) by kernel_rfl) ?_
    refine (S.l6Wires_L3_run net FUEL (0, []) (S.l6Wires_k3 κ)).trans (optC_congr (fun qy_2 => ?_))
    kernel_rfl
  rw [hu]
  exact (S.l6Wires_tree_nat (fun o => optC o (fun (r : List (List Int)) => κ (.own 0) [.row (.rows r)]) none) net (fun d => some d) none).symm
noncomputable def S.l6Wires_s : D.Spec where
  keep := false
  pure := false
  add := true
  ds := [.int .i64]
  sp := fun args h κ => match args, h with
    | [.ro false (.ints .i64 net)], [] => optC (S.l6Wires_t net) (fun (r : List (List Int)) => κ (.own 0) [.row (.rows r)]) none
    | _, _ => none
theorem S.l6Wires_ok : SpecOk Try.prog 63 S.l6Wires_s := by
  refine SpecOk.of TDok mixed (T := S.l6Wires_T) ?_ (ann := S.l6Wires_ann) Try.func63 rfl (by decide +kernel) ?_ ?_ ?_ ?_
  · intro p hp; cases hp
  · intro args h κ r hh
    simp only [S.l6Wires_s] at hh
    split at hh
    · exact (S.l6Wires_den _ κ).trans hh
    · cases hh
  · intro args h κ r hh
    simp only [S.l6Wires_s] at hh ⊢
    split at hh
    · exact optC_law2 (F := fun (r : List (List Int)) κ => κ (.own 0) [.row (.rows r)]) (fun b κ r hb => ⟨_, _, hb, fun _ => rfl⟩) hh
    · cases hh
  · intro hh; cases hh
  · intro _ args h κ r hh
    simp only [S.l6Wires_s] at hh
    split at hh
    · rfl
    · cases hh

-- loop.example/guardsonnets/spec.l2Watch
noncomputable def S.l2Watch_T : List (Nat × D.Spec) := [(75, S.l1Near_s)]
def S.l2Watch_ann : Nat → List Nat × List Nat
  | _ => ([], [])
noncomputable def S.l2Watch_F (args : List V) (h : List E) (κ : V → List E → R) : R := funC TD (tableK S.l2Watch_T) S.l2Watch_ann (drawOk TD (tableP S.l2Watch_T)) FUEL Try.f77 args h κ
noncomputable def S.l2Watch_tree {α : Type} (net : List Int) (set_ : Int) (leaf0_ : Bool → α) (fail_ : α) : α :=
  (optC (S.l1Near_t net set_) (fun c_1 => (leaf0_ (bits BinOp.or IntKind.i64 set_ c_1 == IntKind.i64.wrap (IntKind.i64.wrap (1 * 2 ^ min (↑net.length : Int).toNat IntKind.i64.bits) - 1)))) fail_)
theorem S.l2Watch_tree_nat {α γ : Type} (g : α → γ) (net : List Int) (set_ : Int) (leaf0_ : Bool → α) (fail_ : α) : g (S.l2Watch_tree net set_ leaf0_ fail_) = S.l2Watch_tree net set_ (fun d => g (leaf0_ d)) (g fail_) := by
  unfold S.l2Watch_tree; simp only [apply_cnd g, apply_optC g, apply_sumC g]
noncomputable def S.l2Watch_t (net : List Int) (set_ : Int) : Option (Bool) := S.l2Watch_tree net set_ (fun d => some d) none
theorem S.l2Watch_den (net : List Int) (set_ : Int) (κ : V → List E → R) : S.l2Watch_F [.ro false (.ints .i64 net), .int .i64 set_] [] κ = optC (S.l2Watch_t net set_) (fun (r : Bool) => κ (.bool r) []) none := by
  have hu : S.l2Watch_F [.ro false (.ints .i64 net), .int .i64 set_] [] κ = S.l2Watch_tree net set_ (fun d => κ (.bool d) []) none := by
    kernel_rfl
  rw [hu]
  exact (S.l2Watch_tree_nat (fun o => optC o (fun (r : Bool) => κ (.bool r) []) none) net set_ (fun d => some d) none).symm
noncomputable def S.l2Watch_s : D.Spec where
  keep := false
  pure := true
  add := true
  ds := [.int .i64, .invalid]
  sp := fun args h κ => match args, h with
    | [.ro false (.ints .i64 net), .int .i64 set_], [] => optC (S.l2Watch_t net set_) (fun (r : Bool) => κ (.bool r) []) none
    | _, _ => none
theorem S.l2Watch_ok : SpecOk Try.prog 77 S.l2Watch_s := by
  refine SpecOk.of TDok mixed (T := S.l2Watch_T) ?_ (ann := S.l2Watch_ann) Try.func77 rfl (by decide +kernel) ?_ ?_ ?_ ?_
  · intro p hp
    simp only [S.l2Watch_T, List.mem_cons, List.not_mem_nil, or_false] at hp
    rcases hp with rfl
    · exact S.l1Near_ok
  · intro args h κ r hh
    simp only [S.l2Watch_s] at hh
    split at hh
    · exact (S.l2Watch_den _ _ κ).trans hh
    · cases hh
  · intro args h κ r hh
    simp only [S.l2Watch_s] at hh ⊢
    split at hh
    · exact optC_law2 (F := fun (r : Bool) κ => κ (.bool r) []) (fun b κ r hb => ⟨_, _, hb, fun _ => rfl⟩) hh
    · cases hh
  · intro _ args h κ r hh
    simp only [S.l2Watch_s] at hh
    split at hh
    · exact ⟨rfl, fun _ => rfl⟩
    · cases hh
  · intro _ args h κ r hh
    simp only [S.l2Watch_s] at hh
    split at hh
    · rfl
    · cases hh

-- loop.example/guardsonnets/spec.FewestWatch
noncomputable def S.FewestWatch_T : List (Nat × D.Spec) := [(42, S.NetOk_s), (77, S.l2Watch_s), (59, S.l1Size_s)]
def S.FewestWatch_ann : Nat → List Nat × List Nat
  | 5 => ([0, 3, 4], [3])
  | _ => ([], [])
noncomputable def S.FewestWatch_F (args : List V) (h : List E) (κ : V → List E → R) : R := funC TD (tableK S.FewestWatch_T) S.FewestWatch_ann (drawOk TD (tableP S.FewestWatch_T)) FUEL Try.f64 args h κ
noncomputable def S.FewestWatch_L5 (n : Nat) (σ : St) (k : X → St → R) : R := iterC 0 (fun σ k => denC TD (tableK S.FewestWatch_T) S.FewestWatch_ann (drawOk TD (tableP S.FewestWatch_T)) 0 FUEL ((findLoop 5 (Try.f64.body.getD .skip)).getD .skip) σ k) [0, 3, 4] [3] n σ k
noncomputable def S.FewestWatch_k5 (κ : V → List E → R) : X → St → R := (afterC TD (tableK S.FewestWatch_T) S.FewestWatch_ann (drawOk TD (tableP S.FewestWatch_T)) 0 FUEL 5 (Try.f64.body.getD .skip) (finC TD 0 Try.f64 κ)).getD (fun _ _ => none)
noncomputable def S.FewestWatch_step5 {α : Type} (x0 : List Int) (x3 : Int) (x4 : Int) (next_ : Int × Int → α) (out0_ : Int → α) (fail_ : α) : α :=
  (bif decide (x4 < IntKind.i64.wrap (1 * 2 ^ min (↑x0.length : Int).toNat IntKind.i64.bits)) then (optC (S.l2Watch_t x0 x4) (fun c_2 => (bif c_2 then (optC (S.l1Size_t x4) (fun c_3 => (next_ (if c_3 < x3 then c_3 else x3, IntKind.i64.wrap (x4 + 1)))) fail_) else (next_ (x3, IntKind.i64.wrap (x4 + 1))))) fail_) else (out0_ x3))
theorem S.FewestWatch_step5_nat {α γ : Type} (g : α → γ) (x0 : List Int) (x3 : Int) (x4 : Int) (next_ : Int × Int → α) (out0_ : Int → α) (fail_ : α) : g (S.FewestWatch_step5 x0 x3 x4 next_ out0_ fail_) = S.FewestWatch_step5 x0 x3 x4 (fun s => g (next_ s)) (fun d => g (out0_ d)) (g fail_) := by
  unfold S.FewestWatch_step5; simp only [apply_cnd g, apply_optC g, apply_sumC g]
noncomputable def S.FewestWatch_run5 (x0 : List Int) : Nat → Int × Int → Option (Int)
  | 0, _ => none
  | n + 1, s_ => S.FewestWatch_step5 x0 s_.1 s_.2 (S.FewestWatch_run5 x0 n) (fun d => some d) none
theorem S.FewestWatch_L5_run (x0 : List Int) (n : Nat) (s_ : Int × Int) (k : X → St → R) : S.FewestWatch_L5 n { n := 25, t := [(0, (.ro false (.ints .i64 x0))), (3, (.int .i64 s_.1)), (4, (.int .i64 s_.2))], h := [] } k = optC (S.FewestWatch_run5 x0 n s_) (fun (r : Int) => k (.exit 0) { n := 25, t := [(3, (.int .i64 r))], h := [] }) none := by
  induction n generalizing s_ with
  | zero => rfl
  | succ n ih =>
    have hu : S.FewestWatch_L5 (n + 1) { n := 25, t := [(0, (.ro false (.ints .i64 x0))), (3, (.int .i64 s_.1)), (4, (.int .i64 s_.2))], h := [] } k = S.FewestWatch_step5 x0 s_.1 s_.2 (fun s_ => S.FewestWatch_L5 n { n := 25, t := [(0, (.ro false (.ints .i64 x0))), (3, (.int .i64 s_.1)), (4, (.int .i64 s_.2))], h := [] } k) (fun d => k (.exit 0) { n := 25, t := [(3, (.int .i64 d))], h := [] }) none := by
      kernel_rfl
    have hs : (fun s_ : Int × Int => S.FewestWatch_L5 n { n := 25, t := [(0, (.ro false (.ints .i64 x0))), (3, (.int .i64 s_.1)), (4, (.int .i64 s_.2))], h := [] } k) = fun s_ => optC (S.FewestWatch_run5 x0 n s_) (fun (r : Int) => k (.exit 0) { n := 25, t := [(3, (.int .i64 r))], h := [] }) none := funext ih
    rw [hu, hs]
    exact (S.FewestWatch_step5_nat (fun o => optC o (fun (r : Int) => k (.exit 0) { n := 25, t := [(3, (.int .i64 r))], h := [] }) none) x0 s_.1 s_.2 (S.FewestWatch_run5 x0 n) (fun d => some d) none).symm
noncomputable def S.FewestWatch_tree {α : Type} (net : List Int) (leaf0_ : Int → α) (fail_ : α) : α :=
  (optC (S.NetOk_t net) (fun c_1 => (bif !c_1 then (leaf0_ (-1)) else (optC (S.FewestWatch_run5 net FUEL ((↑net.length : Int), 0)) (fun qy_4 => (leaf0_ qy_4)) fail_))) fail_)
theorem S.FewestWatch_tree_nat {α γ : Type} (g : α → γ) (net : List Int) (leaf0_ : Int → α) (fail_ : α) : g (S.FewestWatch_tree net leaf0_ fail_) = S.FewestWatch_tree net (fun d => g (leaf0_ d)) (g fail_) := by
  unfold S.FewestWatch_tree; simp only [apply_cnd g, apply_optC g, apply_sumC g]
noncomputable def S.FewestWatch_t (net : List Int) : Option (Int) := S.FewestWatch_tree net (fun d => some d) none
theorem S.FewestWatch_den (net : List Int) (κ : V → List E → R) : S.FewestWatch_F [.ro false (.ints .i64 net)] [] κ = optC (S.FewestWatch_t net) (fun (r : Int) => κ (.int .i64 r) []) none := by
  have hu : S.FewestWatch_F [.ro false (.ints .i64 net)] [] κ = S.FewestWatch_tree net (fun d => κ (.int .i64 d) []) none := by
    refine Eq.trans (show S.FewestWatch_F [.ro false (.ints .i64 net)] [] κ = (optC (S.NetOk_t net) (fun c_1 => (bif !c_1 then (κ (.int .i64 (-1)) []) else (S.FewestWatch_L5 FUEL { n := 25, t := [(0, (.ro false (.ints .i64 net))), (3, (.int .i64 ((↑net.length : Int)))), (4, (.int .i64 0))], h := [] } (S.FewestWatch_k5 κ)))) none) by kernel_rfl) ?_
    refine optC_congr (fun c_1 => ?_)
    refine cnd_congr ?_ ?_
    · kernel_rfl
    · refine (S.FewestWatch_L5_run net FUEL ((↑net.length : Int), 0) (S.FewestWatch_k5 κ)).trans (optC_congr (fun qy_4 => ?_))
      kernel_rfl
  rw [hu]
  exact (S.FewestWatch_tree_nat (fun o => optC o (fun (r : Int) => κ (.int .i64 r) []) none) net (fun d => some d) none).symm
noncomputable def S.FewestWatch_s : D.Spec where
  keep := false
  pure := true
  add := true
  ds := [.int .i64]
  sp := fun args h κ => match args, h with
    | [.ro false (.ints .i64 net)], [] => optC (S.FewestWatch_t net) (fun (r : Int) => κ (.int .i64 r) []) none
    | _, _ => none
theorem S.FewestWatch_ok : SpecOk Try.prog 64 S.FewestWatch_s := by
  refine SpecOk.of TDok mixed (T := S.FewestWatch_T) ?_ (ann := S.FewestWatch_ann) Try.func64 rfl (by decide +kernel) ?_ ?_ ?_ ?_
  · intro p hp
    simp only [S.FewestWatch_T, List.mem_cons, List.not_mem_nil, or_false] at hp
    rcases hp with rfl | rfl | rfl
    · exact S.NetOk_ok
    · exact S.l2Watch_ok
    · exact S.l1Size_ok
  · intro args h κ r hh
    simp only [S.FewestWatch_s] at hh
    split at hh
    · exact (S.FewestWatch_den _ κ).trans hh
    · cases hh
  · intro args h κ r hh
    simp only [S.FewestWatch_s] at hh ⊢
    split at hh
    · exact optC_law2 (F := fun (r : Int) κ => κ (.int .i64 r) []) (fun b κ r hb => ⟨_, _, hb, fun _ => rfl⟩) hh
    · cases hh
  · intro _ args h κ r hh
    simp only [S.FewestWatch_s] at hh
    split at hh
    · exact ⟨rfl, fun _ => rfl⟩
    · cases hh
  · intro _ args h κ r hh
    simp only [S.FewestWatch_s] at hh
    split at hh
    · rfl
    · cases hh

-- loop.example/guardsonnets/spec.l16Some
noncomputable def S.l16Some_T : List (Nat × D.Spec) := [(49, S.l16Turned_s)]
def S.l16Some_ann : Nat → List Nat × List Nat
  | 3 => ([1, 2, 7, 8], [7])
  | _ => ([], [])
noncomputable def S.l16Some_F (args : List V) (h : List E) (κ : V → List E → R) : R := funC TD (tableK S.l16Some_T) S.l16Some_ann (drawOk TD (tableP S.l16Some_T)) FUEL Try.f65 args h κ
noncomputable def S.l16Some_L3 (n : Nat) (σ : St) (k : X → St → R) : R := iterC 0 (fun σ k => denC TD (tableK S.l16Some_T) S.l16Some_ann (drawOk TD (tableP S.l16Some_T)) 0 FUEL ((findLoop 3 (Try.f65.body.getD .skip)).getD .skip) σ k) [1, 2, 7, 8] [7] n σ k
noncomputable def S.l16Some_k3 (κ : V → List E → R) : X → St → R := (afterC TD (tableK S.l16Some_T) S.l16Some_ann (drawOk TD (tableP S.l16Some_T)) 0 FUEL 3 (Try.f65.body.getD .skip) (finC TD 0 Try.f65 κ)).getD (fun _ _ => none)
noncomputable def S.l16Some_step3 {α : Type} (x1 : List (List Int)) (x2 : Int) (x8 : Int) (r0 : List Int) (next_ : Int × (List Int) → α) (out0_ : List Int → α) (fail_ : α) : α :=
  (bif decide (x8 < (↑x1.length : Int)) then (bif decide (x8 < 0) then fail_ else (bif (x2.fdiv (2 ^ min x8.toNat IntKind.i64.bits)).tmod 2 == 1 then (bif decide (0 ≤ x8) && decide (x8 < (↑x1.length : Int)) then (bif decide (0 < (↑(elr x1 x8.toNat).length : Int)) then (bif decide (0 ≤ x8) && decide (x8 < (↑x1.length : Int)) then (bif decide (1 < (↑(elr x1 x8.toNat).length : Int)) then (optC (S.l16Turned_t r0 (eli (elr x1 x8.toNat) (Int.toNat 0)) (eli (elr x1 x8.toNat) (Int.toNat 1))) (fun c_1 => (next_ (IntKind.i64.wrap (x8 + 1), c_1))) fail_) else fail_) else fail_) else fail_) else fail_) else (next_ (IntKind.i64.wrap (x8 + 1), r0)))) else (out0_ r0))
theorem S.l16Some_step3_nat {α γ : Type} (g : α → γ) (x1 : List (List Int)) (x2 : Int) (x8 : Int) (r0 : List Int) (next_ : Int × (List Int) → α) (out0_ : List Int → α) (fail_ : α) : g (S.l16Some_step3 x1 x2 x8 r0 next_ out0_ fail_) = S.l16Some_step3 x1 x2 x8 r0 (fun s => g (next_ s)) (fun d => g (out0_ d)) (g fail_) := by
  unfold S.l16Some_step3; simp only [apply_cnd g, apply_optC g, apply_sumC g]
noncomputable def S.l16Some_run3 (x1 : List (List Int)) (x2 : Int) : Nat → Int × (List Int) → Option (List Int)
  | 0, _ => none
  | n + 1, s_ => S.l16Some_step3 x1 x2 s_.1 s_.2 (S.l16Some_run3 x1 x2 n) (fun d => some d) none
theorem S.l16Some_L3_run (x1 : List (List Int)) (x2 : Int) (n : Nat) (s_ : Int × (List Int)) (k : X → St → R) : S.l16Some_L3 n { n := 38, t := [(1, (.ro false (.rows x1))), (2, (.int .i64 x2)), (7, (.own 0)), (8, (.int .i64 s_.1))], h := [.row (.ints .i64 s_.2)] } k = optC (S.l16Some_run3 x1 x2 n s_) (fun (r : List Int) => k (.exit 0) { n := 38, t := [(7, (.own 0))], h := [.row (.ints .i64 r)] }) none := by
  induction n generalizing s_ with
  | zero => rfl
  | succ n ih =>
    have hu : S.l16Some_L3 (n + 1) { n := 38, t := [(1, (.ro false (.rows x1))), (2, (.int .i64 x2)), (7, (.own 0)), (8, (.int .i64 s_.1))], h := [.row (.ints .i64 s_.2)] } k = S.l16Some_step3 x1 x2 s_.1 s_.2 (fun s_ => S.l16Some_L3 n { n := 38, t := [(1, (.ro false (.rows x1))), (2, (.int .i64 x2)), (7, (.own 0)), (8, (.int .i64 s_.1))], h := [.row (.ints .i64 s_.2)] } k) (fun d => k (.exit 0) { n := 38, t := [(7, (.own 0))], h := [.row (.ints .i64 d)] }) none := by
      kernel_rfl
    have hs : (fun s_ : Int × (List Int) => S.l16Some_L3 n { n := 38, t := [(1, (.ro false (.rows x1))), (2, (.int .i64 x2)), (7, (.own 0)), (8, (.int .i64 s_.1))], h := [.row (.ints .i64 s_.2)] } k) = fun s_ => optC (S.l16Some_run3 x1 x2 n s_) (fun (r : List Int) => k (.exit 0) { n := 38, t := [(7, (.own 0))], h := [.row (.ints .i64 r)] }) none := funext ih
    rw [hu, hs]
    exact (S.l16Some_step3_nat (fun o => optC o (fun (r : List Int) => k (.exit 0) { n := 38, t := [(7, (.own 0))], h := [.row (.ints .i64 r)] }) none) x1 x2 s_.1 s_.2 (S.l16Some_run3 x1 x2 n) (fun d => some d) none).symm
noncomputable def S.l16Some_tree {α : Type} (net : List Int) (wires : List (List Int)) (some_ : Int) (leaf0_ : List Int → α) (fail_ : α) : α :=
  (bif small ([] ++ net).length then (optC (S.l16Some_run3 wires some_ FUEL (0, [] ++ net)) (fun qy_2 => (leaf0_ qy_2)) fail_) else fail_)
theorem S.l16Some_tree_nat {α γ : Type} (g : α → γ) (net : List Int) (wires : List (List Int)) (some_ : Int) (leaf0_ : List Int → α) (fail_ : α) : g (S.l16Some_tree net wires some_ leaf0_ fail_) = S.l16Some_tree net wires some_ (fun d => g (leaf0_ d)) (g fail_) := by
  unfold S.l16Some_tree; simp only [apply_cnd g, apply_optC g, apply_sumC g]
noncomputable def S.l16Some_t (net : List Int) (wires : List (List Int)) (some_ : Int) : Option (List Int) := S.l16Some_tree net wires some_ (fun d => some d) none
theorem S.l16Some_den (net : List Int) (wires : List (List Int)) (some_ : Int) (κ : V → List E → R) : S.l16Some_F [.ro false (.ints .i64 net), .ro false (.rows wires), .int .i64 some_] [] κ = optC (S.l16Some_t net wires some_) (fun (r : List Int) => κ (.own 0) [.row (.ints .i64 r)]) none := by
  have hu : S.l16Some_F [.ro false (.ints .i64 net), .ro false (.rows wires), .int .i64 some_] [] κ = S.l16Some_tree net wires some_ (fun d => κ (.own 0) [.row (.ints .i64 d)]) none := by
    refine Eq.trans (show S.l16Some_F [.ro false (.ints .i64 net), .ro false (.rows wires), .int .i64 some_] [] κ = (bif small ([] ++ net).length then (S.l16Some_L3 FUEL { n := 38, t := [(1, (.ro false (.rows wires))), (2, (.int .i64 some_)), (7, (.own 0)), (8, (.int .i64 0))], h := [.row (.ints .i64 ([] ++ net))] } (S.l16Some_k3 κ)) else none) by kernel_rfl) ?_
    refine cnd_congr ?_ ?_
    · refine (S.l16Some_L3_run wires some_ FUEL (0, [] ++ net) (S.l16Some_k3 κ)).trans (optC_congr (fun qy_2 => ?_))
      kernel_rfl
    · kernel_rfl
  rw [hu]
  exact (S.l16Some_tree_nat (fun o => optC o (fun (r : List Int) => κ (.own 0) [.row (.ints .i64 r)]) none) net wires some_ (fun d => some d) none).symm
noncomputable def S.l16Some_s : D.Spec where
  keep := false
  pure := false
  add := true
  ds := [.int .i64, .slice 3, .invalid]
  sp := fun args h κ => match args, h with
    | [.ro false (.ints .i64 net), .ro false (.rows wires), .int .i64 some_], [] => optC (S.l16Some_t net wires some_) (fun (r : List Int) => κ (.own 0) [.row (.ints .i64 r)]) none
    | _, _ => none
theorem S.l16Some_ok : SpecOk Try.prog 65 S.l16Some_s := by
  refine SpecOk.of TDok mixed (T := S.l16Some_T) ?_ (ann := S.l16Some_ann) Try.func65 rfl (by decide +kernel) ?_ ?_ ?_ ?_
  · intro p hp
    simp only [S.l16Some_T, List.mem_cons, List.not_mem_nil, or_false] at hp
    rcases hp with rfl
    · exact S.l16Turned_ok
  · intro args h κ r hh
    simp only [S.l16Some_s] at hh
    split at hh
    · exact (S.l16Some_den _ _ _ κ).trans hh
    · cases hh
  · intro args h κ r hh
    simp only [S.l16Some_s] at hh ⊢
    split at hh
    · exact optC_law2 (F := fun (r : List Int) κ => κ (.own 0) [.row (.ints .i64 r)]) (fun b κ r hb => ⟨_, _, hb, fun _ => rfl⟩) hh
    · cases hh
  · intro hh; cases hh
  · intro _ args h κ r hh
    simp only [S.l16Some_s] at hh
    split at hh
    · rfl
    · cases hh

-- loop.example/guardsonnets/spec.FewestCuts
noncomputable def S.FewestCuts_T : List (Nat × D.Spec) := [(42, S.NetOk_s), (63, S.l6Wires_s), (64, S.FewestWatch_s), (59, S.l1Size_s), (65, S.l16Some_s)]
def S.FewestCuts_ann : Nat → List Nat × List Nat
  | 7 => ([0, 3, 4, 5, 6], [5])
  | _ => ([], [])
noncomputable def S.FewestCuts_F (args : List V) (h : List E) (κ : V → List E → R) : R := funC TD (tableK S.FewestCuts_T) S.FewestCuts_ann (drawOk TD (tableP S.FewestCuts_T)) FUEL Try.f34 args h κ
noncomputable def S.FewestCuts_L7 (n : Nat) (σ : St) (k : X → St → R) : R := iterC 0 (fun σ k => denC TD (tableK S.FewestCuts_T) S.FewestCuts_ann (drawOk TD (tableP S.FewestCuts_T)) 0 FUEL ((findLoop 7 (Try.f34.body.getD .skip)).getD .skip) σ k) [0, 3, 4, 5, 6] [5] n σ k
noncomputable def S.FewestCuts_k7 (κ : V → List E → R) : X → St → R := (afterC TD (tableK S.FewestCuts_T) S.FewestCuts_ann (drawOk TD (tableP S.FewestCuts_T)) 0 FUEL 7 (Try.f34.body.getD .skip) (finC TD 0 Try.f34 κ)).getD (fun _ _ => none)
noncomputable def S.FewestCuts_step7 {α : Type} (x0 : List Int) (x4 : Int) (x5 : Int) (x6 : Int) (r0 : List (List Int)) (next_ : Int × Int × (List (List Int)) → α) (out0_ : Int → α) (fail_ : α) : α :=
  (bif decide (x6 < IntKind.i64.wrap (1 * 2 ^ min (↑r0.length : Int).toNat IntKind.i64.bits)) then (bif decide (x5 < 0) then (optC (S.l16Some_t x0 r0 x6) (fun c_4 => (optC (S.FewestWatch_t c_4) (fun c_5 => (bif decide (c_5 > x4) then (optC (S.l1Size_t x6) (fun c_6 => (next_ (c_6, IntKind.i64.wrap (x6 + 1), r0))) fail_) else (next_ (x5, IntKind.i64.wrap (x6 + 1), r0)))) fail_)) fail_) else (optC (S.l1Size_t x6) (fun c_7 => (bif decide (c_7 < x5) then (optC (S.l16Some_t x0 r0 x6) (fun c_8 => (optC (S.FewestWatch_t c_8) (fun c_9 => (bif decide (c_9 > x4) then (optC (S.l1Size_t x6) (fun c_10 => (next_ (c_10, IntKind.i64.wrap (x6 + 1), r0))) fail_) else (next_ (x5, IntKind.i64.wrap (x6 + 1), r0)))) fail_)) fail_) else (next_ (x5, IntKind.i64.wrap (x6 + 1), r0)))) fail_)) else (out0_ x5))
theorem S.FewestCuts_step7_nat {α γ : Type} (g : α → γ) (x0 : List Int) (x4 : Int) (x5 : Int) (x6 : Int) (r0 : List (List Int)) (next_ : Int × Int × (List (List Int)) → α) (out0_ : Int → α) (fail_ : α) : g (S.FewestCuts_step7 x0 x4 x5 x6 r0 next_ out0_ fail_) = S.FewestCuts_step7 x0 x4 x5 x6 r0 (fun s => g (next_ s)) (fun d => g (out0_ d)) (g fail_) := by
  unfold S.FewestCuts_step7; simp only [apply_cnd g, apply_optC g, apply_sumC g]
noncomputable def S.FewestCuts_run7 (x0 : List Int) (x4 : Int) : Nat → Int × Int × (List (List Int)) → Option (Int)
  | 0, _ => none
  | n + 1, s_ => S.FewestCuts_step7 x0 x4 s_.1 s_.2.1 s_.2.2 (S.FewestCuts_run7 x0 x4 n) (fun d => some d) none
theorem S.FewestCuts_L7_run (x0 : List Int) (x4 : Int) (n : Nat) (s_ : Int × Int × (List (List Int))) (k : X → St → R) : S.FewestCuts_L7 n { n := 41, t := [(0, (.ro false (.ints .i64 x0))), (3, (.own 0)), (4, (.int .i64 x4)), (5, (.int .i64 s_.1)), (6, (.int .i64 s_.2.1))], h := [.row (.rows s_.2.2)] } k = optC (S.FewestCuts_run7 x0 x4 n s_) (fun (r : Int) => k (.exit 0) { n := 41, t := [(5, (.int .i64 r))], h := [] }) none := by
  induction n generalizing s_ with
  | zero => rfl
  | succ n ih =>
    have hu : S.FewestCuts_L7 (n + 1) { n := 41, t := [(0, (.ro false (.ints .i64 x0))), (3, (.own 0)), (4, (.int .i64 x4)), (5, (.int .i64 s_.1)), (6, (.int .i64 s_.2.1))], h := [.row (.rows s_.2.2)] } k = S.FewestCuts_step7 x0 x4 s_.1 s_.2.1 s_.2.2 (fun s_ => S.FewestCuts_L7 n { n := 41, t := [(0, (.ro false (.ints .i64 x0))), (3, (.own 0)), (4, (.int .i64 x4)), (5, (.int .i64 s_.1)), (6, (.int .i64 s_.2.1))], h := [.row (.rows s_.2.2)] } k) (fun d => k (.exit 0) { n := 41, t := [(5, (.int .i64 d))], h := [] }) none := by
      kernel_rfl
    have hs : (fun s_ : Int × Int × (List (List Int)) => S.FewestCuts_L7 n { n := 41, t := [(0, (.ro false (.ints .i64 x0))), (3, (.own 0)), (4, (.int .i64 x4)), (5, (.int .i64 s_.1)), (6, (.int .i64 s_.2.1))], h := [.row (.rows s_.2.2)] } k) = fun s_ => optC (S.FewestCuts_run7 x0 x4 n s_) (fun (r : Int) => k (.exit 0) { n := 41, t := [(5, (.int .i64 r))], h := [] }) none := funext ih
    rw [hu, hs]
    exact (S.FewestCuts_step7_nat (fun o => optC o (fun (r : Int) => k (.exit 0) { n := 41, t := [(5, (.int .i64 r))], h := [] }) none) x0 x4 s_.1 s_.2.1 s_.2.2 (S.FewestCuts_run7 x0 x4 n) (fun d => some d) none).symm
noncomputable def S.FewestCuts_tree {α : Type} (net : List Int) (leaf0_ : Int → α) (fail_ : α) : α :=
  (optC (S.NetOk_t net) (fun c_1 => (bif !c_1 then (leaf0_ (-1)) else (optC (S.l6Wires_t net) (fun c_2 => (optC (S.FewestWatch_t net) (fun c_3 => (optC (S.FewestCuts_run7 net c_3 FUEL (-1, 0, c_2)) (fun qy_11 => (leaf0_ qy_11)) fail_)) fail_)) fail_))) fail_)
theorem S.FewestCuts_tree_nat {α γ : Type} (g : α → γ) (net : List Int) (leaf0_ : Int → α) (fail_ : α) : g (S.FewestCuts_tree net leaf0_ fail_) = S.FewestCuts_tree net (fun d => g (leaf0_ d)) (g fail_) := by
  unfold S.FewestCuts_tree; simp only [apply_cnd g, apply_optC g, apply_sumC g]
noncomputable def S.FewestCuts_t (net : List Int) : Option (Int) := S.FewestCuts_tree net (fun d => some d) none
theorem S.FewestCuts_den (net : List Int) (κ : V → List E → R) : S.FewestCuts_F [.ro false (.ints .i64 net)] [] κ = optC (S.FewestCuts_t net) (fun (r : Int) => κ (.int .i64 r) []) none := by
  have hu : S.FewestCuts_F [.ro false (.ints .i64 net)] [] κ = S.FewestCuts_tree net (fun d => κ (.int .i64 d) []) none := by
    refine Eq.trans (show S.FewestCuts_F [.ro false (.ints .i64 net)] [] κ = (optC (S.NetOk_t net) (fun c_1 => (bif !c_1 then (κ (.int .i64 (-1)) []) else (optC (S.l6Wires_t net) (fun c_2 => (optC (S.FewestWatch_t net) (fun c_3 => (S.FewestCuts_L7 FUEL { n := 41, t := [(0, (.ro false (.ints .i64 net))), (3, (.own 0)), (4, (.int .i64 c_3)), (5, (.int .i64 (-1))), (6, (.int .i64 0))], h := [.row (.rows c_2)] } (S.FewestCuts_k7 κ))) none)) none))) none) by kernel_rfl) ?_
    refine optC_congr (fun c_1 => ?_)
    refine cnd_congr ?_ ?_
    · kernel_rfl
    · refine optC_congr (fun c_2 => ?_)
      refine optC_congr (fun c_3 => ?_)
      refine (S.FewestCuts_L7_run net c_3 FUEL (-1, 0, c_2) (S.FewestCuts_k7 κ)).trans (optC_congr (fun qy_11 => ?_))
      kernel_rfl
  rw [hu]
  exact (S.FewestCuts_tree_nat (fun o => optC o (fun (r : Int) => κ (.int .i64 r) []) none) net (fun d => some d) none).symm
noncomputable def S.FewestCuts_s : D.Spec where
  keep := false
  pure := true
  add := true
  ds := [.int .i64]
  sp := fun args h κ => match args, h with
    | [.ro false (.ints .i64 net)], [] => optC (S.FewestCuts_t net) (fun (r : Int) => κ (.int .i64 r) []) none
    | _, _ => none
theorem S.FewestCuts_ok : SpecOk Try.prog 34 S.FewestCuts_s := by
  refine SpecOk.of TDok mixed (T := S.FewestCuts_T) ?_ (ann := S.FewestCuts_ann) Try.func34 rfl (by decide +kernel) ?_ ?_ ?_ ?_
  · intro p hp
    simp only [S.FewestCuts_T, List.mem_cons, List.not_mem_nil, or_false] at hp
    rcases hp with rfl | rfl | rfl | rfl | rfl
    · exact S.NetOk_ok
    · exact S.l6Wires_ok
    · exact S.FewestWatch_ok
    · exact S.l1Size_ok
    · exact S.l16Some_ok
  · intro args h κ r hh
    simp only [S.FewestCuts_s] at hh
    split at hh
    · exact (S.FewestCuts_den _ κ).trans hh
    · cases hh
  · intro args h κ r hh
    simp only [S.FewestCuts_s] at hh ⊢
    split at hh
    · exact optC_law2 (F := fun (r : Int) κ => κ (.int .i64 r) []) (fun b κ r hb => ⟨_, _, hb, fun _ => rfl⟩) hh
    · cases hh
  · intro _ args h κ r hh
    simp only [S.FewestCuts_s] at hh
    split at hh
    · exact ⟨rfl, fun _ => rfl⟩
    · cases hh
  · intro _ args h κ r hh
    simp only [S.FewestCuts_s] at hh
    split at hh
    · rfl
    · cases hh

-- loop.example/guardsonnets/laws.sizeOf
noncomputable def L.sizeOf_T : List (Nat × D.Spec) := []
def L.sizeOf_ann : Nat → List Nat × List Nat
  | 2 => ([0, 3], [3])
  | _ => ([], [])
noncomputable def L.sizeOf_F (args : List V) (h : List E) (κ : V → List E → R) : R := funC TD (tableK L.sizeOf_T) L.sizeOf_ann (drawOk TD (tableP L.sizeOf_T)) FUEL Try.f35 args h κ
noncomputable def L.sizeOf_L2 (n : Nat) (σ : St) (k : X → St → R) : R := iterC 0 (fun σ k => denC TD (tableK L.sizeOf_T) L.sizeOf_ann (drawOk TD (tableP L.sizeOf_T)) 0 FUEL ((findLoop 2 (Try.f35.body.getD .skip)).getD .skip) σ k) [0, 3] [3] n σ k
noncomputable def L.sizeOf_k2 (κ : V → List E → R) : X → St → R := (afterC TD (tableK L.sizeOf_T) L.sizeOf_ann (drawOk TD (tableP L.sizeOf_T)) 0 FUEL 2 (Try.f35.body.getD .skip) (finC TD 0 Try.f35 κ)).getD (fun _ _ => none)
noncomputable def L.sizeOf_step2 {α : Type} (x0 : Int) (x3 : Int) (next_ : Int × Int → α) (out0_ : Int → α) (fail_ : α) : α :=
  (bif decide (x0 > 0) then (next_ (IntKind.i64.wrap (x0.tdiv 2), IntKind.i64.wrap (x3 + x0.tmod 2))) else (out0_ x3))
theorem L.sizeOf_step2_nat {α γ : Type} (g : α → γ) (x0 : Int) (x3 : Int) (next_ : Int × Int → α) (out0_ : Int → α) (fail_ : α) : g (L.sizeOf_step2 x0 x3 next_ out0_ fail_) = L.sizeOf_step2 x0 x3 (fun s => g (next_ s)) (fun d => g (out0_ d)) (g fail_) := by
  unfold L.sizeOf_step2; simp only [apply_cnd g, apply_optC g, apply_sumC g]
noncomputable def L.sizeOf_run2 : Nat → Int × Int → Option (Int)
  | 0, _ => none
  | n + 1, s_ => L.sizeOf_step2 s_.1 s_.2 (L.sizeOf_run2 n) (fun d => some d) none
theorem L.sizeOf_L2_run (n : Nat) (s_ : Int × Int) (k : X → St → R) : L.sizeOf_L2 n { n := 13, t := [(0, (.int .i64 s_.1)), (3, (.int .i64 s_.2))], h := [] } k = optC (L.sizeOf_run2 n s_) (fun (r : Int) => k (.exit 0) { n := 13, t := [(3, (.int .i64 r))], h := [] }) none := by
  induction n generalizing s_ with
  | zero => rfl
  | succ n ih =>
    have hu : L.sizeOf_L2 (n + 1) { n := 13, t := [(0, (.int .i64 s_.1)), (3, (.int .i64 s_.2))], h := [] } k = L.sizeOf_step2 s_.1 s_.2 (fun s_ => L.sizeOf_L2 n { n := 13, t := [(0, (.int .i64 s_.1)), (3, (.int .i64 s_.2))], h := [] } k) (fun d => k (.exit 0) { n := 13, t := [(3, (.int .i64 d))], h := [] }) none := by
      kernel_rfl
    have hs : (fun s_ : Int × Int => L.sizeOf_L2 n { n := 13, t := [(0, (.int .i64 s_.1)), (3, (.int .i64 s_.2))], h := [] } k) = fun s_ => optC (L.sizeOf_run2 n s_) (fun (r : Int) => k (.exit 0) { n := 13, t := [(3, (.int .i64 r))], h := [] }) none := funext ih
    rw [hu, hs]
    exact (L.sizeOf_step2_nat (fun o => optC o (fun (r : Int) => k (.exit 0) { n := 13, t := [(3, (.int .i64 r))], h := [] }) none) s_.1 s_.2 (L.sizeOf_run2 n) (fun d => some d) none).symm
noncomputable def L.sizeOf_tree {α : Type} (n_ : Int) (leaf0_ : Int → α) (fail_ : α) : α :=
  (optC (L.sizeOf_run2 FUEL (n_, 0)) (fun qy_1 => (leaf0_ qy_1)) fail_)
theorem L.sizeOf_tree_nat {α γ : Type} (g : α → γ) (n_ : Int) (leaf0_ : Int → α) (fail_ : α) : g (L.sizeOf_tree n_ leaf0_ fail_) = L.sizeOf_tree n_ (fun d => g (leaf0_ d)) (g fail_) := by
  unfold L.sizeOf_tree; simp only [apply_cnd g, apply_optC g, apply_sumC g]
noncomputable def L.sizeOf_t (n_ : Int) : Option (Int) := L.sizeOf_tree n_ (fun d => some d) none
theorem L.sizeOf_den (n_ : Int) (κ : V → List E → R) : L.sizeOf_F [.int .i64 n_] [] κ = optC (L.sizeOf_t n_) (fun (r : Int) => κ (.int .i64 r) []) none := by
  have hu : L.sizeOf_F [.int .i64 n_] [] κ = L.sizeOf_tree n_ (fun d => κ (.int .i64 d) []) none := by
    refine Eq.trans (show L.sizeOf_F [.int .i64 n_] [] κ = (L.sizeOf_L2 FUEL { n := 13, t := [(0, (.int .i64 n_)), (3, (.int .i64 0))], h := [] } (L.sizeOf_k2 κ)) by kernel_rfl) ?_
    refine (L.sizeOf_L2_run FUEL (n_, 0) (L.sizeOf_k2 κ)).trans (optC_congr (fun qy_1 => ?_))
    kernel_rfl
  rw [hu]
  exact (L.sizeOf_tree_nat (fun o => optC o (fun (r : Int) => κ (.int .i64 r) []) none) n_ (fun d => some d) none).symm
noncomputable def L.sizeOf_s : D.Spec where
  keep := false
  pure := true
  add := true
  ds := [.invalid]
  sp := fun args h κ => match args, h with
    | [.int .i64 n_], [] => optC (L.sizeOf_t n_) (fun (r : Int) => κ (.int .i64 r) []) none
    | _, _ => none
theorem L.sizeOf_ok : SpecOk Try.prog 35 L.sizeOf_s := by
  refine SpecOk.of TDok mixed (T := L.sizeOf_T) ?_ (ann := L.sizeOf_ann) Try.func35 rfl (by decide +kernel) ?_ ?_ ?_ ?_
  · intro p hp; cases hp
  · intro args h κ r hh
    simp only [L.sizeOf_s] at hh
    split at hh
    · exact (L.sizeOf_den _ κ).trans hh
    · cases hh
  · intro args h κ r hh
    simp only [L.sizeOf_s] at hh ⊢
    split at hh
    · exact optC_law2 (F := fun (r : Int) κ => κ (.int .i64 r) []) (fun b κ r hb => ⟨_, _, hb, fun _ => rfl⟩) hh
    · cases hh
  · intro _ args h κ r hh
    simp only [L.sizeOf_s] at hh
    split at hh
    · exact ⟨rfl, fun _ => rfl⟩
    · cases hh
  · intro _ args h κ r hh
    simp only [L.sizeOf_s] at hh
    split at hh
    · rfl
    · cases hh

-- loop.example/guardsonnets/impl.leafIn
noncomputable def I.leafIn_T : List (Nat × D.Spec) := [(46, I.hasPlace_s), (50, I.sizeOf_s)]
def I.leafIn_ann : Nat → List Nat × List Nat
  | 2 => ([0, 1, 5], [4])
  | _ => ([], [])
noncomputable def I.leafIn_F (args : List V) (h : List E) (κ : V → List E → R) : R := funC TD (tableK I.leafIn_T) I.leafIn_ann (drawOk TD (tableP I.leafIn_T)) FUEL Try.f78 args h κ
noncomputable def I.leafIn_L2 (n : Nat) (σ : St) (k : X → St → R) : R := iterC 0 (fun σ k => denC TD (tableK I.leafIn_T) I.leafIn_ann (drawOk TD (tableP I.leafIn_T)) 0 FUEL ((findLoop 2 (Try.f78.body.getD .skip)).getD .skip) σ k) [0, 1, 5] [4] n σ k
noncomputable def I.leafIn_k2 (κ : V → List E → R) : X → St → R := (afterC TD (tableK I.leafIn_T) I.leafIn_ann (drawOk TD (tableP I.leafIn_T)) 0 FUEL 2 (Try.f78.body.getD .skip) (finC TD 0 Try.f78 κ)).getD (fun _ _ => none)
noncomputable def I.leafIn_step2 {α : Type} (x0 : List Int) (x1 : Int) (x5 : Int) (next_ : Int → α) (out0_ : Int → α) (out1_ : Unit → α) (fail_ : α) : α :=
  (bif decide (x5 < (↑x0.length : Int)) then (optC (I.hasPlace_t x1 x5) (fun c_1 => (bif c_1 then (bif decide (0 ≤ x5) && decide (x5 < (↑x0.length : Int)) then (optC (I.sizeOf_t (bits BinOp.and IntKind.i64 (eli x0 x5.toNat) x1)) (fun c_2 => (bif decide (c_2 ≤ 1) then (out0_ x5) else (next_ (IntKind.i64.wrap (x5 + 1))))) fail_) else fail_) else (next_ (IntKind.i64.wrap (x5 + 1))))) fail_) else (out1_ ()))
theorem I.leafIn_step2_nat {α γ : Type} (g : α → γ) (x0 : List Int) (x1 : Int) (x5 : Int) (next_ : Int → α) (out0_ : Int → α) (out1_ : Unit → α) (fail_ : α) : g (I.leafIn_step2 x0 x1 x5 next_ out0_ out1_ fail_) = I.leafIn_step2 x0 x1 x5 (fun s => g (next_ s)) (fun d => g (out0_ d)) (fun d => g (out1_ d)) (g fail_) := by
  unfold I.leafIn_step2; simp only [apply_cnd g, apply_optC g, apply_sumC g]
noncomputable def I.leafIn_run2 (x0 : List Int) (x1 : Int) : Nat → Int → Option ((Int) ⊕ (Unit))
  | 0, _ => none
  | n + 1, s_ => I.leafIn_step2 x0 x1 s_ (I.leafIn_run2 x0 x1 n) (fun d => some ((Sum.inl d))) (fun d => some ((Sum.inr d))) none
theorem I.leafIn_L2_run (x0 : List Int) (x1 : Int) (n : Nat) (s_ : Int) (k : X → St → R) : I.leafIn_L2 n { n := 26, t := [(0, (.ro false (.ints .i64 x0))), (1, (.int .i64 x1)), (5, (.int .i64 s_))], h := [] } k = optC (I.leafIn_run2 x0 x1 n s_) (fun (r : (Int) ⊕ (Unit)) => (sumC r (fun (r : Int) => k (.ret) { n := 26, t := [(4, (.int .i64 r))], h := [] }) (fun (r : Unit) => k (.exit 0) { n := 26, t := [(4, .junk)], h := [] }))) none := by
  induction n generalizing s_ with
  | zero => rfl
  | succ n ih =>
    have hu : I.leafIn_L2 (n + 1) { n := 26, t := [(0, (.ro false (.ints .i64 x0))), (1, (.int .i64 x1)), (5, (.int .i64 s_))], h := [] } k = I.leafIn_step2 x0 x1 s_ (fun s_ => I.leafIn_L2 n { n := 26, t := [(0, (.ro false (.ints .i64 x0))), (1, (.int .i64 x1)), (5, (.int .i64 s_))], h := [] } k) (fun d => k (.ret) { n := 26, t := [(4, (.int .i64 d))], h := [] }) (fun d => k (.exit 0) { n := 26, t := [(4, .junk)], h := [] }) none := by
      kernel_rfl
    have hs : (fun s_ : Int => I.leafIn_L2 n { n := 26, t := [(0, (.ro false (.ints .i64 x0))), (1, (.int .i64 x1)), (5, (.int .i64 s_))], h := [] } k) = fun s_ => optC (I.leafIn_run2 x0 x1 n s_) (fun (r : (Int) ⊕ (Unit)) => (sumC r (fun (r : Int) => k (.ret) { n := 26, t := [(4, (.int .i64 r))], h := [] }) (fun (r : Unit) => k (.exit 0) { n := 26, t := [(4, .junk)], h := [] }))) none := funext ih
    rw [hu, hs]
    exact (I.leafIn_step2_nat (fun o => optC o (fun (r : (Int) ⊕ (Unit)) => (sumC r (fun (r : Int) => k (.ret) { n := 26, t := [(4, (.int .i64 r))], h := [] }) (fun (r : Unit) => k (.exit 0) { n := 26, t := [(4, .junk)], h := [] }))) none) x0 x1 s_ (I.leafIn_run2 x0 x1 n) (fun d => some ((Sum.inl d))) (fun d => some ((Sum.inr d))) none).symm
noncomputable def I.leafIn_tree {α : Type} (net : List Int) (set_ : Int) (leaf0_ : Int → α) (fail_ : α) : α :=
  (optC (I.leafIn_run2 net set_ FUEL 0) (fun qy_3 => (sumC qy_3 (fun (qy_3 : Int) => (leaf0_ qy_3)) (fun (qy_3 : Unit) => (leaf0_ (-1))))) fail_)
theorem I.leafIn_tree_nat {α γ : Type} (g : α → γ) (net : List Int) (set_ : Int) (leaf0_ : Int → α) (fail_ : α) : g (I.leafIn_tree net set_ leaf0_ fail_) = I.leafIn_tree net set_ (fun d => g (leaf0_ d)) (g fail_) := by
  unfold I.leafIn_tree; simp only [apply_cnd g, apply_optC g, apply_sumC g]
noncomputable def I.leafIn_t (net : List Int) (set_ : Int) : Option (Int) := I.leafIn_tree net set_ (fun d => some d) none
theorem I.leafIn_den (net : List Int) (set_ : Int) (κ : V → List E → R) : I.leafIn_F [.ro false (.ints .i64 net), .int .i64 set_] [] κ = optC (I.leafIn_t net set_) (fun (r : Int) => κ (.int .i64 r) []) none := by
  have hu : I.leafIn_F [.ro false (.ints .i64 net), .int .i64 set_] [] κ = I.leafIn_tree net set_ (fun d => κ (.int .i64 d) []) none := by
    refine Eq.trans (show I.leafIn_F [.ro false (.ints .i64 net), .int .i64 set_] [] κ = (I.leafIn_L2 FUEL { n := 26, t := [(0, (.ro false (.ints .i64 net))), (1, (.int .i64 set_)), (5, (.int .i64 0))], h := [] } (I.leafIn_k2 κ)) by kernel_rfl) ?_
    refine (I.leafIn_L2_run net set_ FUEL 0 (I.leafIn_k2 κ)).trans (optC_congr (fun qy_3 => ?_))
    rcases qy_3 with qy_3 | qy_3
    · kernel_rfl
    · kernel_rfl
  rw [hu]
  exact (I.leafIn_tree_nat (fun o => optC o (fun (r : Int) => κ (.int .i64 r) []) none) net set_ (fun d => some d) none).symm
noncomputable def I.leafIn_s : D.Spec where
  keep := false
  pure := true
  add := true
  ds := [.int .i64, .invalid]
  sp := fun args h κ => match args, h with
    | [.ro false (.ints .i64 net), .int .i64 set_], [] => optC (I.leafIn_t net set_) (fun (r : Int) => κ (.int .i64 r) []) none
    | _, _ => none
theorem I.leafIn_ok : SpecOk Try.prog 78 I.leafIn_s := by
  refine SpecOk.of TDok mixed (T := I.leafIn_T) ?_ (ann := I.leafIn_ann) Try.func78 rfl (by decide +kernel) ?_ ?_ ?_ ?_
  · intro p hp
    simp only [I.leafIn_T, List.mem_cons, List.not_mem_nil, or_false] at hp
    rcases hp with rfl | rfl
    · exact I.hasPlace_ok
    · exact I.sizeOf_ok
  · intro args h κ r hh
    simp only [I.leafIn_s] at hh
    split at hh
    · exact (I.leafIn_den _ _ κ).trans hh
    · cases hh
  · intro args h κ r hh
    simp only [I.leafIn_s] at hh ⊢
    split at hh
    · exact optC_law2 (F := fun (r : Int) κ => κ (.int .i64 r) []) (fun b κ r hb => ⟨_, _, hb, fun _ => rfl⟩) hh
    · cases hh
  · intro _ args h κ r hh
    simp only [I.leafIn_s] at hh
    split at hh
    · exact ⟨rfl, fun _ => rfl⟩
    · cases hh
  · intro _ args h κ r hh
    simp only [I.leafIn_s] at hh
    split at hh
    · rfl
    · cases hh

-- loop.example/guardsonnets/impl.without
noncomputable def I.without_T : List (Nat × D.Spec) := []
def I.without_ann : Nat → List Nat × List Nat
  | _ => ([], [])
noncomputable def I.without_F (args : List V) (h : List E) (κ : V → List E → R) : R := funC TD (tableK I.without_T) I.without_ann (drawOk TD (tableP I.without_T)) FUEL Try.f79 args h κ
noncomputable def I.without_tree {α : Type} (set_ : Int) (place : Int) (leaf0_ : Int → α) (fail_ : α) : α :=
  (bif decide (place < 0) then fail_ else (leaf0_ (bits BinOp.andNot IntKind.i64 set_ (IntKind.i64.wrap (1 * 2 ^ min place.toNat IntKind.i64.bits)))))
theorem I.without_tree_nat {α γ : Type} (g : α → γ) (set_ : Int) (place : Int) (leaf0_ : Int → α) (fail_ : α) : g (I.without_tree set_ place leaf0_ fail_) = I.without_tree set_ place (fun d => g (leaf0_ d)) (g fail_) := by
  unfold I.without_tree; simp only [apply_cnd g, apply_optC g, apply_sumC g]
noncomputable def I.without_t (set_ : Int) (place : Int) : Option (Int) := I.without_tree set_ place (fun d => some d) none
theorem I.without_den (set_ : Int) (place : Int) (κ : V → List E → R) : I.without_F [.int .i64 set_, .int .i64 place] [] κ = optC (I.without_t set_ place) (fun (r : Int) => κ (.int .i64 r) []) none := by
  have hu : I.without_F [.int .i64 set_, .int .i64 place] [] κ = I.without_tree set_ place (fun d => κ (.int .i64 d) []) none := by
    kernel_rfl
  rw [hu]
  exact (I.without_tree_nat (fun o => optC o (fun (r : Int) => κ (.int .i64 r) []) none) set_ place (fun d => some d) none).symm
noncomputable def I.without_s : D.Spec where
  keep := false
  pure := true
  add := true
  ds := [.invalid, .invalid]
  sp := fun args h κ => match args, h with
    | [.int .i64 set_, .int .i64 place], [] => optC (I.without_t set_ place) (fun (r : Int) => κ (.int .i64 r) []) none
    | _, _ => none
theorem I.without_ok : SpecOk Try.prog 79 I.without_s := by
  refine SpecOk.of TDok mixed (T := I.without_T) ?_ (ann := I.without_ann) Try.func79 rfl (by decide +kernel) ?_ ?_ ?_ ?_
  · intro p hp; cases hp
  · intro args h κ r hh
    simp only [I.without_s] at hh
    split at hh
    · exact (I.without_den _ _ κ).trans hh
    · cases hh
  · intro args h κ r hh
    simp only [I.without_s] at hh ⊢
    split at hh
    · exact optC_law2 (F := fun (r : Int) κ => κ (.int .i64 r) []) (fun b κ r hb => ⟨_, _, hb, fun _ => rfl⟩) hh
    · cases hh
  · intro _ args h κ r hh
    simp only [I.without_s] at hh
    split at hh
    · exact ⟨rfl, fun _ => rfl⟩
    · cases hh
  · intro _ args h κ r hh
    simp only [I.without_s] at hh
    split at hh
    · rfl
    · cases hh

-- loop.example/guardsonnets/impl.prunedIn
noncomputable def I.prunedIn_T : List (Nat × D.Spec) := [(55, I.allOf_s), (78, I.leafIn_s), (79, I.without_s)]
def I.prunedIn_ann : Nat → List Nat × List Nat
  | 3 => ([0, 3, 4], [3])
  | _ => ([], [])
noncomputable def I.prunedIn_F (args : List V) (h : List E) (κ : V → List E → R) : R := funC TD (tableK I.prunedIn_T) I.prunedIn_ann (drawOk TD (tableP I.prunedIn_T)) FUEL Try.f66 args h κ
noncomputable def I.prunedIn_L3 (n : Nat) (σ : St) (k : X → St → R) : R := iterC 0 (fun σ k => denC TD (tableK I.prunedIn_T) I.prunedIn_ann (drawOk TD (tableP I.prunedIn_T)) 0 FUEL ((findLoop 3 (Try.f66.body.getD .skip)).getD .skip) σ k) [0, 3, 4] [3] n σ k
noncomputable def I.prunedIn_k3 (κ : V → List E → R) : X → St → R := (afterC TD (tableK I.prunedIn_T) I.prunedIn_ann (drawOk TD (tableP I.prunedIn_T)) 0 FUEL 3 (Try.f66.body.getD .skip) (finC TD 0 Try.f66 κ)).getD (fun _ _ => none)
noncomputable def I.prunedIn_step3 {α : Type} (x0 : List Int) (x3 : Int) (x4 : Int) (next_ : Int × Int → α) (out0_ : Int → α) (fail_ : α) : α :=
  (bif decide (x4 ≥ 0) then (optC (I.without_t x3 x4) (fun c_3 => (optC (I.leafIn_t x0 c_3) (fun c_4 => (next_ (c_3, c_4))) fail_)) fail_) else (out0_ x3))
theorem I.prunedIn_step3_nat {α γ : Type} (g : α → γ) (x0 : List Int) (x3 : Int) (x4 : Int) (next_ : Int × Int → α) (out0_ : Int → α) (fail_ : α) : g (I.prunedIn_step3 x0 x3 x4 next_ out0_ fail_) = I.prunedIn_step3 x0 x3 x4 (fun s => g (next_ s)) (fun d => g (out0_ d)) (g fail_) := by
  unfold I.prunedIn_step3; simp only [apply_cnd g, apply_optC g, apply_sumC g]
noncomputable def I.prunedIn_run3 (x0 : List Int) : Nat → Int × Int → Option (Int)
  | 0, _ => none
  | n + 1, s_ => I.prunedIn_step3 x0 s_.1 s_.2 (I.prunedIn_run3 x0 n) (fun d => some d) none
theorem I.prunedIn_L3_run (x0 : List Int) (n : Nat) (s_ : Int × Int) (k : X → St → R) : I.prunedIn_L3 n { n := 19, t := [(0, (.ro false (.ints .i64 x0))), (3, (.int .i64 s_.1)), (4, (.int .i64 s_.2))], h := [] } k = optC (I.prunedIn_run3 x0 n s_) (fun (r : Int) => k (.exit 0) { n := 19, t := [(3, (.int .i64 r))], h := [] }) none := by
  induction n generalizing s_ with
  | zero => rfl
  | succ n ih =>
    have hu : I.prunedIn_L3 (n + 1) { n := 19, t := [(0, (.ro false (.ints .i64 x0))), (3, (.int .i64 s_.1)), (4, (.int .i64 s_.2))], h := [] } k = I.prunedIn_step3 x0 s_.1 s_.2 (fun s_ => I.prunedIn_L3 n { n := 19, t := [(0, (.ro false (.ints .i64 x0))), (3, (.int .i64 s_.1)), (4, (.int .i64 s_.2))], h := [] } k) (fun d => k (.exit 0) { n := 19, t := [(3, (.int .i64 d))], h := [] }) none := by
      kernel_rfl
    have hs : (fun s_ : Int × Int => I.prunedIn_L3 n { n := 19, t := [(0, (.ro false (.ints .i64 x0))), (3, (.int .i64 s_.1)), (4, (.int .i64 s_.2))], h := [] } k) = fun s_ => optC (I.prunedIn_run3 x0 n s_) (fun (r : Int) => k (.exit 0) { n := 19, t := [(3, (.int .i64 r))], h := [] }) none := funext ih
    rw [hu, hs]
    exact (I.prunedIn_step3_nat (fun o => optC o (fun (r : Int) => k (.exit 0) { n := 19, t := [(3, (.int .i64 r))], h := [] }) none) x0 s_.1 s_.2 (I.prunedIn_run3 x0 n) (fun d => some d) none).symm
noncomputable def I.prunedIn_tree {α : Type} (net : List Int) (leaf0_ : Int → α) (fail_ : α) : α :=
  (optC (I.allOf_t net) (fun c_1 => (optC (I.leafIn_t net c_1) (fun c_2 => (optC (I.prunedIn_run3 net FUEL (c_1, c_2)) (fun qy_5 => (leaf0_ qy_5)) fail_)) fail_)) fail_)
theorem I.prunedIn_tree_nat {α γ : Type} (g : α → γ) (net : List Int) (leaf0_ : Int → α) (fail_ : α) : g (I.prunedIn_tree net leaf0_ fail_) = I.prunedIn_tree net (fun d => g (leaf0_ d)) (g fail_) := by
  unfold I.prunedIn_tree; simp only [apply_cnd g, apply_optC g, apply_sumC g]
noncomputable def I.prunedIn_t (net : List Int) : Option (Int) := I.prunedIn_tree net (fun d => some d) none
theorem I.prunedIn_den (net : List Int) (κ : V → List E → R) : I.prunedIn_F [.ro false (.ints .i64 net)] [] κ = optC (I.prunedIn_t net) (fun (r : Int) => κ (.int .i64 r) []) none := by
  have hu : I.prunedIn_F [.ro false (.ints .i64 net)] [] κ = I.prunedIn_tree net (fun d => κ (.int .i64 d) []) none := by
    refine Eq.trans (show I.prunedIn_F [.ro false (.ints .i64 net)] [] κ = (optC (I.allOf_t net) (fun c_1 => (optC (I.leafIn_t net c_1) (fun c_2 => (I.prunedIn_L3 FUEL { n := 19, t := [(0, (.ro false (.ints .i64 net))), (3, (.int .i64 c_1)), (4, (.int .i64 c_2))], h := [] } (I.prunedIn_k3 κ))) none)) none) by kernel_rfl) ?_
    refine optC_congr (fun c_1 => ?_)
    refine optC_congr (fun c_2 => ?_)
    refine (I.prunedIn_L3_run net FUEL (c_1, c_2) (I.prunedIn_k3 κ)).trans (optC_congr (fun qy_5 => ?_))
    kernel_rfl
  rw [hu]
  exact (I.prunedIn_tree_nat (fun o => optC o (fun (r : Int) => κ (.int .i64 r) []) none) net (fun d => some d) none).symm
noncomputable def I.prunedIn_s : D.Spec where
  keep := false
  pure := true
  add := true
  ds := [.int .i64]
  sp := fun args h κ => match args, h with
    | [.ro false (.ints .i64 net)], [] => optC (I.prunedIn_t net) (fun (r : Int) => κ (.int .i64 r) []) none
    | _, _ => none
theorem I.prunedIn_ok : SpecOk Try.prog 66 I.prunedIn_s := by
  refine SpecOk.of TDok mixed (T := I.prunedIn_T) ?_ (ann := I.prunedIn_ann) Try.func66 rfl (by decide +kernel) ?_ ?_ ?_ ?_
  · intro p hp
    simp only [I.prunedIn_T, List.mem_cons, List.not_mem_nil, or_false] at hp
    rcases hp with rfl | rfl | rfl
    · exact I.allOf_ok
    · exact I.leafIn_ok
    · exact I.without_ok
  · intro args h κ r hh
    simp only [I.prunedIn_s] at hh
    split at hh
    · exact (I.prunedIn_den _ κ).trans hh
    · cases hh
  · intro args h κ r hh
    simp only [I.prunedIn_s] at hh ⊢
    split at hh
    · exact optC_law2 (F := fun (r : Int) κ => κ (.int .i64 r) []) (fun b κ r hb => ⟨_, _, hb, fun _ => rfl⟩) hh
    · cases hh
  · intro _ args h κ r hh
    simp only [I.prunedIn_s] at hh
    split at hh
    · exact ⟨rfl, fun _ => rfl⟩
    · cases hh
  · intro _ args h κ r hh
    simp only [I.prunedIn_s] at hh
    split at hh
    · rfl
    · cases hh

-- loop.example/guardsonnets/impl.ForestOk
noncomputable def I.ForestOk_T : List (Nat × D.Spec) := [(19, I.NetOk_s), (66, I.prunedIn_s)]
def I.ForestOk_ann : Nat → List Nat × List Nat
  | _ => ([], [])
noncomputable def I.ForestOk_F (args : List V) (h : List E) (κ : V → List E → R) : R := funC TD (tableK I.ForestOk_T) I.ForestOk_ann (drawOk TD (tableP I.ForestOk_T)) FUEL Try.f36 args h κ
noncomputable def I.ForestOk_tree {α : Type} (net : List Int) (leaf0_ : Bool → α) (fail_ : α) : α :=
  (optC (I.NetOk_t net) (fun c_1 => (bif c_1 then (optC (I.prunedIn_t net) (fun c_2 => (leaf0_ (c_2 == 0))) fail_) else (leaf0_ false))) fail_)
theorem I.ForestOk_tree_nat {α γ : Type} (g : α → γ) (net : List Int) (leaf0_ : Bool → α) (fail_ : α) : g (I.ForestOk_tree net leaf0_ fail_) = I.ForestOk_tree net (fun d => g (leaf0_ d)) (g fail_) := by
  unfold I.ForestOk_tree; simp only [apply_cnd g, apply_optC g, apply_sumC g]
noncomputable def I.ForestOk_t (net : List Int) : Option (Bool) := I.ForestOk_tree net (fun d => some d) none
theorem I.ForestOk_den (net : List Int) (κ : V → List E → R) : I.ForestOk_F [.ro false (.ints .i64 net)] [] κ = optC (I.ForestOk_t net) (fun (r : Bool) => κ (.bool r) []) none := by
  have hu : I.ForestOk_F [.ro false (.ints .i64 net)] [] κ = I.ForestOk_tree net (fun d => κ (.bool d) []) none := by
    kernel_rfl
  rw [hu]
  exact (I.ForestOk_tree_nat (fun o => optC o (fun (r : Bool) => κ (.bool r) []) none) net (fun d => some d) none).symm
noncomputable def I.ForestOk_s : D.Spec where
  keep := false
  pure := true
  add := true
  ds := [.int .i64]
  sp := fun args h κ => match args, h with
    | [.ro false (.ints .i64 net)], [] => optC (I.ForestOk_t net) (fun (r : Bool) => κ (.bool r) []) none
    | _, _ => none
theorem I.ForestOk_ok : SpecOk Try.prog 36 I.ForestOk_s := by
  refine SpecOk.of TDok mixed (T := I.ForestOk_T) ?_ (ann := I.ForestOk_ann) Try.func36 rfl (by decide +kernel) ?_ ?_ ?_ ?_
  · intro p hp
    simp only [I.ForestOk_T, List.mem_cons, List.not_mem_nil, or_false] at hp
    rcases hp with rfl | rfl
    · exact I.NetOk_ok
    · exact I.prunedIn_ok
  · intro args h κ r hh
    simp only [I.ForestOk_s] at hh
    split at hh
    · exact (I.ForestOk_den _ κ).trans hh
    · cases hh
  · intro args h κ r hh
    simp only [I.ForestOk_s] at hh ⊢
    split at hh
    · exact optC_law2 (F := fun (r : Bool) κ => κ (.bool r) []) (fun b κ r hb => ⟨_, _, hb, fun _ => rfl⟩) hh
    · cases hh
  · intro _ args h κ r hh
    simp only [I.ForestOk_s] at hh
    split at hh
    · exact ⟨rfl, fun _ => rfl⟩
    · cases hh
  · intro _ args h κ r hh
    simp only [I.ForestOk_s] at hh
    split at hh
    · rfl
    · cases hh


end Go.Proofs.Ytlamfgocbekgpaa
