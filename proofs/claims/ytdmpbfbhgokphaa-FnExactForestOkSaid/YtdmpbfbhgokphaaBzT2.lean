/- Twins of the translated functions, with their proofs. Conditions: none. -/
import Derived.Test.YtdmpbfbhgokphaaBzT1
set_option linter.unusedVariables false
set_option linter.unusedSimpArgs false
namespace Go.Proofs.Ytdmpbfbhgokphaa
open D Go.RowKit
-- loop.example/guardsonnets/laws.FnExactPackedOk
noncomputable def L.FnExactPackedOk_T : List (Nat × D.Spec) := [(22, L.toIntS_s), (17, S.PackedOk_s), (16, I.PackedOk_s), (23, L.eqIntS_s)]
def L.FnExactPackedOk_ann : Nat → List Nat × List Nat
  | _ => ([], [])
noncomputable def L.FnExactPackedOk_F (args : List V) (h : List E) (κ : V → List E → R) : R := funC TD (tableK L.FnExactPackedOk_T) L.FnExactPackedOk_ann (drawOk (tableP L.FnExactPackedOk_T)) FUEL Try.f4 args h κ
noncomputable def L.FnExactPackedOk_tree {α : Type} (aNet : List Int) (aSet : Int) (leaf0_ : Bool → α) (fail_ : α) : α :=
  (bif decide ((↑aNet.length : Int) > 1048576) then (leaf0_ true) else (optC (L.toIntS_t aNet) (fun c_1 => (optC (S.PackedOk_t c_1 aSet) (fun c_2 => (optC (L.toIntS_t aNet) (fun c_3 => (optC (I.PackedOk_t c_3 aSet) (fun c_4 => (bif !c_4 == c_2 then (leaf0_ false) else (optC (L.toIntS_t aNet) (fun c_5 => (optC (L.eqIntS_t c_3 c_5) (fun c_6 => (bif !c_6 then (leaf0_ false) else (leaf0_ true))) fail_)) fail_))) fail_)) fail_)) fail_)) fail_))
theorem L.FnExactPackedOk_tree_nat {α γ : Type} (g : α → γ) (aNet : List Int) (aSet : Int) (leaf0_ : Bool → α) (fail_ : α) : g (L.FnExactPackedOk_tree aNet aSet leaf0_ fail_) = L.FnExactPackedOk_tree aNet aSet (fun d => g (leaf0_ d)) (g fail_) := by
  unfold L.FnExactPackedOk_tree; simp only [apply_cnd g, apply_optC g, apply_sumC g]
noncomputable def L.FnExactPackedOk_t (aNet : List Int) (aSet : Int) : Option (Bool) := L.FnExactPackedOk_tree aNet aSet (fun d => some d) none
theorem L.FnExactPackedOk_den (aNet : List Int) (aSet : Int) (κ : V → List E → R) : L.FnExactPackedOk_F [.ro true (.ints .i64 aNet), .int .i64 aSet] [] κ = optC (L.FnExactPackedOk_t aNet aSet) (fun (r : Bool) => κ (.bool r) []) none := by
  have hu : L.FnExactPackedOk_F [.ro true (.ints .i64 aNet), .int .i64 aSet] [] κ = L.FnExactPackedOk_tree aNet aSet (fun d => κ (.bool d) []) none := by
    kernel_rfl
  rw [hu]
  exact (L.FnExactPackedOk_tree_nat (fun o => optC o (fun (r : Bool) => κ (.bool r) []) none) aNet aSet (fun d => some d) none).symm
noncomputable def L.FnExactPackedOk_s : D.Spec where
  keep := true
  pure := true
  ds := [.int .i64, .invalid]
  sp := fun args h κ => match args, h with
    | [.ro true (.ints .i64 aNet), .int .i64 aSet], [] => optC (L.FnExactPackedOk_t aNet aSet) (fun (r : Bool) => κ (.bool r) []) none
    | _, _ => none
theorem L.FnExactPackedOk_ok : SpecOk Try.prog 4 L.FnExactPackedOk_s := by
  refine SpecOk.of TDok mixed (T := L.FnExactPackedOk_T) ?_ (ann := L.FnExactPackedOk_ann) Try.func4 rfl (by decide +kernel) ?_ ?_ ?_
  · intro p hp
    simp only [L.FnExactPackedOk_T, List.mem_cons, List.not_mem_nil, or_false] at hp
    rcases hp with rfl | rfl | rfl | rfl
    · exact L.toIntS_ok
    · exact S.PackedOk_ok
    · exact I.PackedOk_ok
    · exact L.eqIntS_ok
  · intro args h κ r hh
    simp only [L.FnExactPackedOk_s] at hh
    split at hh
    · exact (L.FnExactPackedOk_den _ _ κ).trans hh
    · cases hh
  · intro args h κ r hh
    simp only [L.FnExactPackedOk_s] at hh ⊢
    split at hh
    · exact optC_law2 (F := fun (r : Bool) κ => κ (.bool r) []) (fun b κ r hb => ⟨_, _, hb, fun _ => rfl⟩) hh
    · cases hh
  · intro _ args h κ r hh
    simp only [L.FnExactPackedOk_s] at hh
    split at hh
    · exact ⟨rfl, fun _ => rfl⟩
    · cases hh

-- loop.example/guardsonnets/spec.DrawMostPacked
noncomputable def S.DrawMostPacked_T : List (Nat × D.Spec) := [(46, S.l20Open_s), (54, S.l20Net_s)]
def S.DrawMostPacked_ann : Nat → List Nat × List Nat
  | _ => ([], [])
noncomputable def S.DrawMostPacked_F (args : List V) (h : List E) (κ : V → List E → R) : R := funC TD (tableK S.DrawMostPacked_T) S.DrawMostPacked_ann (drawOk (tableP S.DrawMostPacked_T)) FUEL Try.f24 args h κ
noncomputable def S.DrawMostPacked_tree {α : Type} (code : List Int) (leaf0_ : List Int → α) (fail_ : α) : α :=
  (optC (S.l20Open_t code) (fun c_1 => (optC (S.l20Net_t c_1.fst c_1.snd 9) (fun c_2 => (leaf0_ c_2.snd.snd)) fail_)) fail_)
theorem S.DrawMostPacked_tree_nat {α γ : Type} (g : α → γ) (code : List Int) (leaf0_ : List Int → α) (fail_ : α) : g (S.DrawMostPacked_tree code leaf0_ fail_) = S.DrawMostPacked_tree code (fun d => g (leaf0_ d)) (g fail_) := by
  unfold S.DrawMostPacked_tree; simp only [apply_cnd g, apply_optC g, apply_sumC g]
noncomputable def S.DrawMostPacked_t (code : List Int) : Option (List Int) := S.DrawMostPacked_tree code (fun d => some d) none
theorem S.DrawMostPacked_den (code : List Int) (κ : V → List E → R) : S.DrawMostPacked_F [.ro true (.ints .u8 code)] [] κ = optC (S.DrawMostPacked_t code) (fun (r : List Int) => κ (.own 0) [.row (.ints .i64 r)]) none := by
  have hu : S.DrawMostPacked_F [.ro true (.ints .u8 code)] [] κ = S.DrawMostPacked_tree code (fun d => κ (.own 0) [.row (.ints .i64 d)]) none := by
    kernel_rfl
  rw [hu]
  exact (S.DrawMostPacked_tree_nat (fun o => optC o (fun (r : List Int) => κ (.own 0) [.row (.ints .i64 r)]) none) code (fun d => some d) none).symm
noncomputable def S.DrawMostPacked_s : D.Spec where
  keep := true
  pure := false
  ds := [.int .u8]
  sp := fun args h κ => match args, h with
    | [.ro true (.ints .u8 code)], [] => optC (S.DrawMostPacked_t code) (fun (r : List Int) => κ (.own 0) [.row (.ints .i64 r)]) none
    | _, _ => none
theorem S.DrawMostPacked_ok : SpecOk Try.prog 24 S.DrawMostPacked_s := by
  refine SpecOk.of TDok mixed (T := S.DrawMostPacked_T) ?_ (ann := S.DrawMostPacked_ann) Try.func24 rfl (by decide +kernel) ?_ ?_ ?_
  · intro p hp
    simp only [S.DrawMostPacked_T, List.mem_cons, List.not_mem_nil, or_false] at hp
    rcases hp with rfl | rfl
    · exact S.l20Open_ok
    · exact S.l20Net_ok
  · intro args h κ r hh
    simp only [S.DrawMostPacked_s] at hh
    split at hh
    · exact (S.DrawMostPacked_den _ κ).trans hh
    · cases hh
  · intro args h κ r hh
    simp only [S.DrawMostPacked_s] at hh ⊢
    split at hh
    · exact optC_law2 (F := fun (r : List Int) κ => κ (.own 0) [.row (.ints .i64 r)]) (fun b κ r hb => ⟨_, _, hb, fun _ => rfl⟩) hh
    · cases hh
  · intro hh; cases hh

-- loop.example/guardsonnets/impl.allOf
noncomputable def I.allOf_T : List (Nat × D.Spec) := []
def I.allOf_ann : Nat → List Nat × List Nat
  | _ => ([], [])
noncomputable def I.allOf_F (args : List V) (h : List E) (κ : V → List E → R) : R := funC TD (tableK I.allOf_T) I.allOf_ann (drawOk (tableP I.allOf_T)) FUEL Try.f55 args h κ
noncomputable def I.allOf_tree {α : Type} (net : List Int) (leaf0_ : Int → α) (fail_ : α) : α :=
  (leaf0_ (IntKind.i64.wrap (IntKind.i64.wrap (1 * 2 ^ min (↑net.length : Int).toNat IntKind.i64.bits) - 1)))
theorem I.allOf_tree_nat {α γ : Type} (g : α → γ) (net : List Int) (leaf0_ : Int → α) (fail_ : α) : g (I.allOf_tree net leaf0_ fail_) = I.allOf_tree net (fun d => g (leaf0_ d)) (g fail_) := by
  unfold I.allOf_tree; simp only [apply_cnd g, apply_optC g, apply_sumC g]
noncomputable def I.allOf_t (net : List Int) : Option (Int) := I.allOf_tree net (fun d => some d) none
theorem I.allOf_den (net : List Int) (κ : V → List E → R) : I.allOf_F [.ro false (.ints .i64 net)] [] κ = optC (I.allOf_t net) (fun (r : Int) => κ (.int .i64 r) []) none := by
  have hu : I.allOf_F [.ro false (.ints .i64 net)] [] κ = I.allOf_tree net (fun d => κ (.int .i64 d) []) none := by
    kernel_rfl
  rw [hu]
  exact (I.allOf_tree_nat (fun o => optC o (fun (r : Int) => κ (.int .i64 r) []) none) net (fun d => some d) none).symm
noncomputable def I.allOf_s : D.Spec where
  keep := false
  pure := true
  ds := [.int .i64]
  sp := fun args h κ => match args, h with
    | [.ro false (.ints .i64 net)], [] => optC (I.allOf_t net) (fun (r : Int) => κ (.int .i64 r) []) none
    | _, _ => none
theorem I.allOf_ok : SpecOk Try.prog 55 I.allOf_s := by
  refine SpecOk.of TDok mixed (T := I.allOf_T) ?_ (ann := I.allOf_ann) Try.func55 rfl (by decide +kernel) ?_ ?_ ?_
  · intro p hp; cases hp
  · intro args h κ r hh
    simp only [I.allOf_s] at hh
    split at hh
    · exact (I.allOf_den _ κ).trans hh
    · cases hh
  · intro args h κ r hh
    simp only [I.allOf_s] at hh ⊢
    split at hh
    · exact optC_law2 (F := fun (r : Int) κ => κ (.int .i64 r) []) (fun b κ r hb => ⟨_, _, hb, fun _ => rfl⟩) hh
    · cases hh
  · intro _ args h κ r hh
    simp only [I.allOf_s] at hh
    split at hh
    · exact ⟨rfl, fun _ => rfl⟩
    · cases hh

-- loop.example/guardsonnets/impl.sizeOf
noncomputable def I.sizeOf_T : List (Nat × D.Spec) := []
def I.sizeOf_ann : Nat → List Nat × List Nat
  | 3 => ([0, 3, 4], [3])
  | _ => ([], [])
noncomputable def I.sizeOf_F (args : List V) (h : List E) (κ : V → List E → R) : R := funC TD (tableK I.sizeOf_T) I.sizeOf_ann (drawOk (tableP I.sizeOf_T)) FUEL Try.f56 args h κ
noncomputable def I.sizeOf_L3 (n : Nat) (σ : St) (k : X → St → R) : R := iterC 0 (fun σ k => denC TD (tableK I.sizeOf_T) I.sizeOf_ann (drawOk (tableP I.sizeOf_T)) 0 FUEL ((findLoop 3 (Try.f56.body.getD .skip)).getD .skip) σ k) [0, 3, 4] [3] n σ k
noncomputable def I.sizeOf_k3 (κ : V → List E → R) : X → St → R := (afterC TD (tableK I.sizeOf_T) I.sizeOf_ann (drawOk (tableP I.sizeOf_T)) 0 FUEL 3 (Try.f56.body.getD .skip) (finC TD 0 Try.f56 κ)).getD (fun _ _ => none)
noncomputable def I.sizeOf_step3 {α : Type} (x0 : Int) (x3 : Int) (x4 : Int) (next_ : Int × Int → α) (out0_ : Int → α) (fail_ : α) : α :=
  (bif decide (x4 < 6) then (bif decide (x4 < 0) then fail_ else (next_ (IntKind.i64.wrap (x3 + bits BinOp.and IntKind.i64 (x0.fdiv (2 ^ min x4.toNat IntKind.i64.bits)) 1), IntKind.i64.wrap (x4 + 1)))) else (out0_ x3))
theorem I.sizeOf_step3_nat {α γ : Type} (g : α → γ) (x0 : Int) (x3 : Int) (x4 : Int) (next_ : Int × Int → α) (out0_ : Int → α) (fail_ : α) : g (I.sizeOf_step3 x0 x3 x4 next_ out0_ fail_) = I.sizeOf_step3 x0 x3 x4 (fun s => g (next_ s)) (fun d => g (out0_ d)) (g fail_) := by
  unfold I.sizeOf_step3; simp only [apply_cnd g, apply_optC g, apply_sumC g]
noncomputable def I.sizeOf_run3 (x0 : Int) : Nat → Int × Int → Option (Int)
  | 0, _ => none
  | n + 1, s_ => I.sizeOf_step3 x0 s_.1 s_.2 (I.sizeOf_run3 x0 n) (fun d => some d) none
theorem I.sizeOf_L3_run (x0 : Int) (n : Nat) (s_ : Int × Int) (k : X → St → R) : I.sizeOf_L3 n { n := 16, t := [(0, (.int .i64 x0)), (3, (.int .i64 s_.1)), (4, (.int .i64 s_.2))], h := [] } k = optC (I.sizeOf_run3 x0 n s_) (fun (r : Int) => k (.exit 0) { n := 16, t := [(3, (.int .i64 r))], h := [] }) none := by
  induction n generalizing s_ with
  | zero => rfl
  | succ n ih =>
    have hu : I.sizeOf_L3 (n + 1) { n := 16, t := [(0, (.int .i64 x0)), (3, (.int .i64 s_.1)), (4, (.int .i64 s_.2))], h := [] } k = I.sizeOf_step3 x0 s_.1 s_.2 (fun s_ => I.sizeOf_L3 n { n := 16, t := [(0, (.int .i64 x0)), (3, (.int .i64 s_.1)), (4, (.int .i64 s_.2))], h := [] } k) (fun d => k (.exit 0) { n := 16, t := [(3, (.int .i64 d))], h := [] }) none := by
      kernel_rfl
    have hs : (fun s_ : Int × Int => I.sizeOf_L3 n { n := 16, t := [(0, (.int .i64 x0)), (3, (.int .i64 s_.1)), (4, (.int .i64 s_.2))], h := [] } k) = fun s_ => optC (I.sizeOf_run3 x0 n s_) (fun (r : Int) => k (.exit 0) { n := 16, t := [(3, (.int .i64 r))], h := [] }) none := funext ih
    rw [hu, hs]
    exact (I.sizeOf_step3_nat (fun o => optC o (fun (r : Int) => k (.exit 0) { n := 16, t := [(3, (.int .i64 r))], h := [] }) none) x0 s_.1 s_.2 (I.sizeOf_run3 x0 n) (fun d => some d) none).symm
noncomputable def I.sizeOf_tree {α : Type} (set_ : Int) (leaf0_ : Int → α) (fail_ : α) : α :=
  (optC (I.sizeOf_run3 set_ FUEL (0, 0)) (fun qy_1 => (leaf0_ qy_1)) fail_)
theorem I.sizeOf_tree_nat {α γ : Type} (g : α → γ) (set_ : Int) (leaf0_ : Int → α) (fail_ : α) : g (I.sizeOf_tree set_ leaf0_ fail_) = I.sizeOf_tree set_ (fun d => g (leaf0_ d)) (g fail_) := by
  unfold I.sizeOf_tree; simp only [apply_cnd g, apply_optC g, apply_sumC g]
noncomputable def I.sizeOf_t (set_ : Int) : Option (Int) := I.sizeOf_tree set_ (fun d => some d) none
theorem I.sizeOf_den (set_ : Int) (κ : V → List E → R) : I.sizeOf_F [.int .i64 set_] [] κ = optC (I.sizeOf_t set_) (fun (r : Int) => κ (.int .i64 r) []) none := by
  have hu : I.sizeOf_F [.int .i64 set_] [] κ = I.sizeOf_tree set_ (fun d => κ (.int .i64 d) []) none := by
    refine Eq.trans (show I.sizeOf_F [.int .i64 set_] [] κ = (I.sizeOf_L3 FUEL { n := 16, t := [(0, (.int .i64 set_)), (3, (.int .i64 0)), (4, (.int .i64 0))], h := [] } (I.sizeOf_k3 κ)) by kernel_rfl) ?_
    refine (I.sizeOf_L3_run set_ FUEL (0, 0) (I.sizeOf_k3 κ)).trans (optC_congr (fun qy_1 => ?_))
    kernel_rfl
  rw [hu]
  exact (I.sizeOf_tree_nat (fun o => optC o (fun (r : Int) => κ (.int .i64 r) []) none) set_ (fun d => some d) none).symm
noncomputable def I.sizeOf_s : D.Spec where
  keep := false
  pure := true
  ds := [.invalid]
  sp := fun args h κ => match args, h with
    | [.int .i64 set_], [] => optC (I.sizeOf_t set_) (fun (r : Int) => κ (.int .i64 r) []) none
    | _, _ => none
theorem I.sizeOf_ok : SpecOk Try.prog 56 I.sizeOf_s := by
  refine SpecOk.of TDok mixed (T := I.sizeOf_T) ?_ (ann := I.sizeOf_ann) Try.func56 rfl (by decide +kernel) ?_ ?_ ?_
  · intro p hp; cases hp
  · intro args h κ r hh
    simp only [I.sizeOf_s] at hh
    split at hh
    · exact (I.sizeOf_den _ κ).trans hh
    · cases hh
  · intro args h κ r hh
    simp only [I.sizeOf_s] at hh ⊢
    split at hh
    · exact optC_law2 (F := fun (r : Int) κ => κ (.int .i64 r) []) (fun b κ r hb => ⟨_, _, hb, fun _ => rfl⟩) hh
    · cases hh
  · intro _ args h κ r hh
    simp only [I.sizeOf_s] at hh
    split at hh
    · exact ⟨rfl, fun _ => rfl⟩
    · cases hh

-- loop.example/guardsonnets/impl.MostPacked
noncomputable def I.MostPacked_T : List (Nat × D.Spec) := [(27, I.NetOk_s), (55, I.allOf_s), (56, I.sizeOf_s), (48, I.packedIn_s)]
def I.MostPacked_ann : Nat → List Nat × List Nat
  | 5 => ([0, 3, 4], [3])
  | _ => ([], [])
noncomputable def I.MostPacked_F (args : List V) (h : List E) (κ : V → List E → R) : R := funC TD (tableK I.MostPacked_T) I.MostPacked_ann (drawOk (tableP I.MostPacked_T)) FUEL Try.f25 args h κ
noncomputable def I.MostPacked_L5 (n : Nat) (σ : St) (k : X → St → R) : R := iterC 0 (fun σ k => denC TD (tableK I.MostPacked_T) I.MostPacked_ann (drawOk (tableP I.MostPacked_T)) 0 FUEL ((findLoop 5 (Try.f25.body.getD .skip)).getD .skip) σ k) [0, 3, 4] [3] n σ k
noncomputable def I.MostPacked_k5 (κ : V → List E → R) : X → St → R := (afterC TD (tableK I.MostPacked_T) I.MostPacked_ann (drawOk (tableP I.MostPacked_T)) 0 FUEL 5 (Try.f25.body.getD .skip) (finC TD 0 Try.f25 κ)).getD (fun _ _ => none)
noncomputable def I.MostPacked_step5 {α : Type} (x0 : List Int) (x3 : Int) (x4 : Int) (next_ : Int × Int → α) (out0_ : Int → α) (fail_ : α) : α :=
  (optC (I.allOf_t x0) (fun c_2 => (bif decide (x4 ≤ c_2) then (optC (I.sizeOf_t x4) (fun c_3 => (bif decide (c_3 > x3) then (optC (I.packedIn_t x0 x4) (fun c_4 => (bif c_4 then (optC (I.sizeOf_t x4) (fun c_5 => (next_ (c_5, IntKind.i64.wrap (x4 + 1)))) fail_) else (next_ (x3, IntKind.i64.wrap (x4 + 1))))) fail_) else (next_ (x3, IntKind.i64.wrap (x4 + 1))))) fail_) else (out0_ x3))) fail_)
theorem I.MostPacked_step5_nat {α γ : Type} (g : α → γ) (x0 : List Int) (x3 : Int) (x4 : Int) (next_ : Int × Int → α) (out0_ : Int → α) (fail_ : α) : g (I.MostPacked_step5 x0 x3 x4 next_ out0_ fail_) = I.MostPacked_step5 x0 x3 x4 (fun s => g (next_ s)) (fun d => g (out0_ d)) (g fail_) := by
  unfold I.MostPacked_step5; simp only [apply_cnd g, apply_optC g, apply_sumC g]
noncomputable def I.MostPacked_run5 (x0 : List Int) : Nat → Int × Int → Option (Int)
  | 0, _ => none
  | n + 1, s_ => I.MostPacked_step5 x0 s_.1 s_.2 (I.MostPacked_run5 x0 n) (fun d => some d) none
theorem I.MostPacked_L5_run (x0 : List Int) (n : Nat) (s_ : Int × Int) (k : X → St → R) : I.MostPacked_L5 n { n := 26, t := [(0, (.ro false (.ints .i64 x0))), (3, (.int .i64 s_.1)), (4, (.int .i64 s_.2))], h := [] } k = optC (I.MostPacked_run5 x0 n s_) (fun (r : Int) => k (.exit 0) { n := 26, t := [(3, (.int .i64 r))], h := [] }) none := by
  induction n generalizing s_ with
  | zero => rfl
  | succ n ih =>
    have hu : I.MostPacked_L5 (n + 1) { n := 26, t := [(0, (.ro false (.ints .i64 x0))), (3, (.int .i64 s_.1)), (4, (.int .i64 s_.2))], h := [] } k = I.MostPacked_step5 x0 s_.1 s_.2 (fun s_ => I.MostPacked_L5 n { n := 26, t := [(0, (.ro false (.ints .i64 x0))), (3, (.int .i64 s_.1)), (4, (.int .i64 s_.2))], h := [] } k) (fun d => k (.exit 0) { n := 26, t := [(3, (.int .i64 d))], h := [] }) none := by
      kernel_rfl
    have hs : (fun s_ : Int × Int => I.MostPacked_L5 n { n := 26, t := [(0, (.ro false (.ints .i64 x0))), (3, (.int .i64 s_.1)), (4, (.int .i64 s_.2))], h := [] } k) = fun s_ => optC (I.MostPacked_run5 x0 n s_) (fun (r : Int) => k (.exit 0) { n := 26, t := [(3, (.int .i64 r))], h := [] }) none := funext ih
    rw [hu, hs]
    exact (I.MostPacked_step5_nat (fun o => optC o (fun (r : Int) => k (.exit 0) { n := 26, t := [(3, (.int .i64 r))], h := [] }) none) x0 s_.1 s_.2 (I.MostPacked_run5 x0 n) (fun d => some d) none).symm
noncomputable def I.MostPacked_tree {α : Type} (net : List Int) (leaf0_ : Int → α) (fail_ : α) : α :=
  (optC (I.NetOk_t net) (fun c_1 => (bif !c_1 then (leaf0_ (-1)) else (optC (I.MostPacked_run5 net FUEL (0, 0)) (fun qy_6 => (leaf0_ qy_6)) fail_))) fail_)
theorem I.MostPacked_tree_nat {α γ : Type} (g : α → γ) (net : List Int) (leaf0_ : Int → α) (fail_ : α) : g (I.MostPacked_tree net leaf0_ fail_) = I.MostPacked_tree net (fun d => g (leaf0_ d)) (g fail_) := by
  unfold I.MostPacked_tree; simp only [apply_cnd g, apply_optC g, apply_sumC g]
noncomputable def I.MostPacked_t (net : List Int) : Option (Int) := I.MostPacked_tree net (fun d => some d) none
theorem I.MostPacked_den (net : List Int) (κ : V → List E → R) : I.MostPacked_F [.ro false (.ints .i64 net)] [] κ = optC (I.MostPacked_t net) (fun (r : Int) => κ (.int .i64 r) []) none := by
  have hu : I.MostPacked_F [.ro false (.ints .i64 net)] [] κ = I.MostPacked_tree net (fun d => κ (.int .i64 d) []) none := by
    refine Eq.trans (show I.MostPacked_F [.ro false (.ints .i64 net)] [] κ = (optC (I.NetOk_t net) (fun c_1 => (bif !c_1 then (κ (.int .i64 (-1)) []) else (I.MostPacked_L5 FUEL { n := 26, t := [(0, (.ro false (.ints .i64 net))), (3, (.int .i64 0)), (4, (.int .i64 0))], h := [] } (I.MostPacked_k5 κ)))) none) by kernel_rfl) ?_
    refine optC_congr (fun c_1 => ?_)
    refine cnd_congr ?_ ?_
    · kernel_rfl
    · refine (I.MostPacked_L5_run net FUEL (0, 0) (I.MostPacked_k5 κ)).trans (optC_congr (fun qy_6 => ?_))
      kernel_rfl
  rw [hu]
  exact (I.MostPacked_tree_nat (fun o => optC o (fun (r : Int) => κ (.int .i64 r) []) none) net (fun d => some d) none).symm
noncomputable def I.MostPacked_s : D.Spec where
  keep := false
  pure := true
  ds := [.int .i64]
  sp := fun args h κ => match args, h with
    | [.ro false (.ints .i64 net)], [] => optC (I.MostPacked_t net) (fun (r : Int) => κ (.int .i64 r) []) none
    | _, _ => none
theorem I.MostPacked_ok : SpecOk Try.prog 25 I.MostPacked_s := by
  refine SpecOk.of TDok mixed (T := I.MostPacked_T) ?_ (ann := I.MostPacked_ann) Try.func25 rfl (by decide +kernel) ?_ ?_ ?_
  · intro p hp
    simp only [I.MostPacked_T, List.mem_cons, List.not_mem_nil, or_false] at hp
    rcases hp with rfl | rfl | rfl | rfl
    · exact I.NetOk_ok
    · exact I.allOf_ok
    · exact I.sizeOf_ok
    · exact I.packedIn_ok
  · intro args h κ r hh
    simp only [I.MostPacked_s] at hh
    split at hh
    · exact (I.MostPacked_den _ κ).trans hh
    · cases hh
  · intro args h κ r hh
    simp only [I.MostPacked_s] at hh ⊢
    split at hh
    · exact optC_law2 (F := fun (r : Int) κ => κ (.int .i64 r) []) (fun b κ r hb => ⟨_, _, hb, fun _ => rfl⟩) hh
    · cases hh
  · intro _ args h κ r hh
    simp only [I.MostPacked_s] at hh
    split at hh
    · exact ⟨rfl, fun _ => rfl⟩
    · cases hh

-- loop.example/guardsonnets/spec.MostPacked
noncomputable def S.MostPacked_T : List (Nat × D.Spec) := [(57, S.NetOk_s), (50, S.l11Packed_s), (58, S.l1Size_s)]
def S.MostPacked_ann : Nat → List Nat × List Nat
  | 5 => ([0, 3, 4], [3])
  | _ => ([], [])
noncomputable def S.MostPacked_F (args : List V) (h : List E) (κ : V → List E → R) : R := funC TD (tableK S.MostPacked_T) S.MostPacked_ann (drawOk (tableP S.MostPacked_T)) FUEL Try.f26 args h κ
noncomputable def S.MostPacked_L5 (n : Nat) (σ : St) (k : X → St → R) : R := iterC 0 (fun σ k => denC TD (tableK S.MostPacked_T) S.MostPacked_ann (drawOk (tableP S.MostPacked_T)) 0 FUEL ((findLoop 5 (Try.f26.body.getD .skip)).getD .skip) σ k) [0, 3, 4] [3] n σ k
noncomputable def S.MostPacked_k5 (κ : V → List E → R) : X → St → R := (afterC TD (tableK S.MostPacked_T) S.MostPacked_ann (drawOk (tableP S.MostPacked_T)) 0 FUEL 5 (Try.f26.body.getD .skip) (finC TD 0 Try.f26 κ)).getD (fun _ _ => none)
noncomputable def S.MostPacked_step5 {α : Type} (x0 : List Int) (x3 : Int) (x4 : Int) (next_ : Int × Int → α) (out0_ : Int → α) (fail_ : α) : α :=
  (bif decide (x4 < IntKind.i64.wrap (1 * 2 ^ min (↑x0.length : Int).toNat IntKind.i64.bits)) then (optC (S.l11Packed_t x0 x4) (fun c_2 => (bif c_2 then (optC (S.l1Size_t x4) (fun c_3 => (next_ (if c_3 > x3 then c_3 else x3, IntKind.i64.wrap (x4 + 1)))) fail_) else (next_ (x3, IntKind.i64.wrap (x4 + 1))))) fail_) else (out0_ x3))
theorem S.MostPacked_step5_nat {α γ : Type} (g : α → γ) (x0 : List Int) (x3 : Int) (x4 : Int) (next_ : Int × Int → α) (out0_ : Int → α) (fail_ : α) : g (S.MostPacked_step5 x0 x3 x4 next_ out0_ fail_) = S.MostPacked_step5 x0 x3 x4 (fun s => g (next_ s)) (fun d => g (out0_ d)) (g fail_) := by
  unfold S.MostPacked_step5; simp only [apply_cnd g, apply_optC g, apply_sumC g]
noncomputable def S.MostPacked_run5 (x0 : List Int) : Nat → Int × Int → Option (Int)
  | 0, _ => none
  | n + 1, s_ => S.MostPacked_step5 x0 s_.1 s_.2 (S.MostPacked_run5 x0 n) (fun d => some d) none
theorem S.MostPacked_L5_run (x0 : List Int) (n : Nat) (s_ : Int × Int) (k : X → St → R) : S.MostPacked_L5 n { n := 23, t := [(0, (.ro false (.ints .i64 x0))), (3, (.int .i64 s_.1)), (4, (.int .i64 s_.2))], h := [] } k = optC (S.MostPacked_run5 x0 n s_) (fun (r : Int) => k (.exit 0) { n := 23, t := [(3, (.int .i64 r))], h := [] }) none := by
  induction n generalizing s_ with
  | zero => rfl
  | succ n ih =>
    have hu : S.MostPacked_L5 (n + 1) { n := 23, t := [(0, (.ro false (.ints .i64 x0))), (3, (.int .i64 s_.1)), (4, (.int .i64 s_.2))], h := [] } k = S.MostPacked_step5 x0 s_.1 s_.2 (fun s_ => S.MostPacked_L5 n { n := 23, t := [(0, (.ro false (.ints .i64 x0))), (3, (.int .i64 s_.1)), (4, (.int .i64 s_.2))], h := [] } k) (fun d => k (.exit 0) { n := 23, t := [(3, (.int .i64 d))], h := [] }) none := by
      kernel_rfl
    have hs : (fun s_ : Int × Int => S.MostPacked_L5 n { n := 23, t := [(0, (.ro false (.ints .i64 x0))), (3, (.int .i64 s_.1)), (4, (.int .i64 s_.2))], h := [] } k) = fun s_ => optC (S.MostPacked_run5 x0 n s_) (fun (r : Int) => k (.exit 0) { n := 23, t := [(3, (.int .i64 r))], h := [] }) none := funext ih
    rw [hu, hs]
    exact (S.MostPacked_step5_nat (fun o => optC o (fun (r : Int) => k (.exit 0) { n := 23, t := [(3, (.int .i64 r))], h := [] }) none) x0 s_.1 s_.2 (S.MostPacked_run5 x0 n) (fun d => some d) none).symm
noncomputable def S.MostPacked_tree {α : Type} (net : List Int) (leaf0_ : Int → α) (fail_ : α) : α :=
  (optC (S.NetOk_t net) (fun c_1 => (bif !c_1 then (leaf0_ (-1)) else (optC (S.MostPacked_run5 net FUEL (0, 0)) (fun qy_4 => (leaf0_ qy_4)) fail_))) fail_)
theorem S.MostPacked_tree_nat {α γ : Type} (g : α → γ) (net : List Int) (leaf0_ : Int → α) (fail_ : α) : g (S.MostPacked_tree net leaf0_ fail_) = S.MostPacked_tree net (fun d => g (leaf0_ d)) (g fail_) := by
  unfold S.MostPacked_tree; simp only [apply_cnd g, apply_optC g, apply_sumC g]
noncomputable def S.MostPacked_t (net : List Int) : Option (Int) := S.MostPacked_tree net (fun d => some d) none
theorem S.MostPacked_den (net : List Int) (κ : V → List E → R) : S.MostPacked_F [.ro false (.ints .i64 net)] [] κ = optC (S.MostPacked_t net) (fun (r : Int) => κ (.int .i64 r) []) none := by
  have hu : S.MostPacked_F [.ro false (.ints .i64 net)] [] κ = S.MostPacked_tree net (fun d => κ (.int .i64 d) []) none := by
    refine Eq.trans (show S.MostPacked_F [.ro false (.ints .i64 net)] [] κ = (optC (S.NetOk_t net) (fun c_1 => (bif !c_1 then (κ (.int .i64 (-1)) []) else (S.MostPacked_L5 FUEL { n := 23, t := [(0, (.ro false (.ints .i64 net))), (3, (.int .i64 0)), (4, (.int .i64 0))], h := [] } (S.MostPacked_k5 κ)))) none) by kernel_rfl) ?_
    refine optC_congr (fun c_1 => ?_)
    refine cnd_congr ?_ ?_
    · kernel_rfl
    · refine (S.MostPacked_L5_run net FUEL (0, 0) (S.MostPacked_k5 κ)).trans (optC_congr (fun qy_4 => ?_))
      kernel_rfl
  rw [hu]
  exact (S.MostPacked_tree_nat (fun o => optC o (fun (r : Int) => κ (.int .i64 r) []) none) net (fun d => some d) none).symm
noncomputable def S.MostPacked_s : D.Spec where
  keep := false
  pure := true
  ds := [.int .i64]
  sp := fun args h κ => match args, h with
    | [.ro false (.ints .i64 net)], [] => optC (S.MostPacked_t net) (fun (r : Int) => κ (.int .i64 r) []) none
    | _, _ => none
theorem S.MostPacked_ok : SpecOk Try.prog 26 S.MostPacked_s := by
  refine SpecOk.of TDok mixed (T := S.MostPacked_T) ?_ (ann := S.MostPacked_ann) Try.func26 rfl (by decide +kernel) ?_ ?_ ?_
  · intro p hp
    simp only [S.MostPacked_T, List.mem_cons, List.not_mem_nil, or_false] at hp
    rcases hp with rfl | rfl | rfl
    · exact S.NetOk_ok
    · exact S.l11Packed_ok
    · exact S.l1Size_ok
  · intro args h κ r hh
    simp only [S.MostPacked_s] at hh
    split at hh
    · exact (S.MostPacked_den _ κ).trans hh
    · cases hh
  · intro args h κ r hh
    simp only [S.MostPacked_s] at hh ⊢
    split at hh
    · exact optC_law2 (F := fun (r : Int) κ => κ (.int .i64 r) []) (fun b κ r hb => ⟨_, _, hb, fun _ => rfl⟩) hh
    · cases hh
  · intro _ args h κ r hh
    simp only [S.MostPacked_s] at hh
    split at hh
    · exact ⟨rfl, fun _ => rfl⟩
    · cases hh

-- loop.example/guardsonnets/impl.seenIn
noncomputable def I.seenIn_T : List (Nat × D.Spec) := [(59, I.hasPlace_s), (72, I.ballIn_s)]
def I.seenIn_ann : Nat → List Nat × List Nat
  | 3 => ([0, 1, 5, 6], [5])
  | _ => ([], [])
noncomputable def I.seenIn_F (args : List V) (h : List E) (κ : V → List E → R) : R := funC TD (tableK I.seenIn_T) I.seenIn_ann (drawOk (tableP I.seenIn_T)) FUEL Try.f75 args h κ
noncomputable def I.seenIn_L3 (n : Nat) (σ : St) (k : X → St → R) : R := iterC 0 (fun σ k => denC TD (tableK I.seenIn_T) I.seenIn_ann (drawOk (tableP I.seenIn_T)) 0 FUEL ((findLoop 3 (Try.f75.body.getD .skip)).getD .skip) σ k) [0, 1, 5, 6] [5] n σ k
noncomputable def I.seenIn_k3 (κ : V → List E → R) : X → St → R := (afterC TD (tableK I.seenIn_T) I.seenIn_ann (drawOk (tableP I.seenIn_T)) 0 FUEL 3 (Try.f75.body.getD .skip) (finC TD 0 Try.f75 κ)).getD (fun _ _ => none)
noncomputable def I.seenIn_step3 {α : Type} (x0 : List Int) (x1 : Int) (x5 : Int) (x6 : Int) (next_ : Int × Int → α) (out0_ : Int → α) (fail_ : α) : α :=
  (bif decide (x6 < (↑x0.length : Int)) then (optC (I.hasPlace_t x1 x6) (fun c_1 => (bif c_1 then (optC (I.ballIn_t x0 x6) (fun c_2 => (next_ (bits BinOp.or IntKind.i64 x5 c_2, IntKind.i64.wrap (x6 + 1)))) fail_) else (next_ (x5, IntKind.i64.wrap (x6 + 1))))) fail_) else (out0_ x5))
theorem I.seenIn_step3_nat {α γ : Type} (g : α → γ) (x0 : List Int) (x1 : Int) (x5 : Int) (x6 : Int) (next_ : Int × Int → α) (out0_ : Int → α) (fail_ : α) : g (I.seenIn_step3 x0 x1 x5 x6 next_ out0_ fail_) = I.seenIn_step3 x0 x1 x5 x6 (fun s => g (next_ s)) (fun d => g (out0_ d)) (g fail_) := by
  unfold I.seenIn_step3; simp only [apply_cnd g, apply_optC g, apply_sumC g]
noncomputable def I.seenIn_run3 (x0 : List Int) (x1 : Int) : Nat → Int × Int → Option (Int)
  | 0, _ => none
  | n + 1, s_ => I.seenIn_step3 x0 x1 s_.1 s_.2 (I.seenIn_run3 x0 x1 n) (fun d => some d) none
theorem I.seenIn_L3_run (x0 : List Int) (x1 : Int) (n : Nat) (s_ : Int × Int) (k : X → St → R) : I.seenIn_L3 n { n := 22, t := [(0, (.ro false (.ints .i64 x0))), (1, (.int .i64 x1)), (5, (.int .i64 s_.1)), (6, (.int .i64 s_.2))], h := [] } k = optC (I.seenIn_run3 x0 x1 n s_) (fun (r : Int) => k (.exit 0) { n := 22, t := [(5, (.int .i64 r))], h := [] }) none := by
  induction n generalizing s_ with
  | zero => rfl
  | succ n ih =>
    have hu : I.seenIn_L3 (n + 1) { n := 22, t := [(0, (.ro false (.ints .i64 x0))), (1, (.int .i64 x1)), (5, (.int .i64 s_.1)), (6, (.int .i64 s_.2))], h := [] } k = I.seenIn_step3 x0 x1 s_.1 s_.2 (fun s_ => I.seenIn_L3 n { n := 22, t := [(0, (.ro false (.ints .i64 x0))), (1, (.int .i64 x1)), (5, (.int .i64 s_.1)), (6, (.int .i64 s_.2))], h := [] } k) (fun d => k (.exit 0) { n := 22, t := [(5, (.int .i64 d))], h := [] }) none := by
      kernel_rfl
    have hs : (fun s_ : Int × Int => I.seenIn_L3 n { n := 22, t := [(0, (.ro false (.ints .i64 x0))), (1, (.int .i64 x1)), (5, (.int .i64 s_.1)), (6, (.int .i64 s_.2))], h := [] } k) = fun s_ => optC (I.seenIn_run3 x0 x1 n s_) (fun (r : Int) => k (.exit 0) { n := 22, t := [(5, (.int .i64 r))], h := [] }) none := funext ih
    rw [hu, hs]
    exact (I.seenIn_step3_nat (fun o => optC o (fun (r : Int) => k (.exit 0) { n := 22, t := [(5, (.int .i64 r))], h := [] }) none) x0 x1 s_.1 s_.2 (I.seenIn_run3 x0 x1 n) (fun d => some d) none).symm
noncomputable def I.seenIn_tree {α : Type} (net : List Int) (set_ : Int) (leaf0_ : Int → α) (fail_ : α) : α :=
  (optC (I.seenIn_run3 net set_ FUEL (0, 0)) (fun qy_3 => (leaf0_ qy_3)) fail_)
theorem I.seenIn_tree_nat {α γ : Type} (g : α → γ) (net : List Int) (set_ : Int) (leaf0_ : Int → α) (fail_ : α) : g (I.seenIn_tree net set_ leaf0_ fail_) = I.seenIn_tree net set_ (fun d => g (leaf0_ d)) (g fail_) := by
  unfold I.seenIn_tree; simp only [apply_cnd g, apply_optC g, apply_sumC g]
noncomputable def I.seenIn_t (net : List Int) (set_ : Int) : Option (Int) := I.seenIn_tree net set_ (fun d => some d) none
theorem I.seenIn_den (net : List Int) (set_ : Int) (κ : V → List E → R) : I.seenIn_F [.ro false (.ints .i64 net), .int .i64 set_] [] κ = optC (I.seenIn_t net set_) (fun (r : Int) => κ (.int .i64 r) []) none := by
  have hu : I.seenIn_F [.ro false (.ints .i64 net), .int .i64 set_] [] κ = I.seenIn_tree net set_ (fun d => κ (.int .i64 d) []) none := by
    refine Eq.trans (show I.seenIn_F [.ro false (.ints .i64 net), .int .i64 set_] [] κ = (I.seenIn_L3 FUEL { n := 22, t := [(0, (.ro false (.ints .i64 net))), (1, (.int .i64 set_)), (5, (.int .i64 0)), (6, (.int .i64 0))], h := [] } (I.seenIn_k3 κ)) by kernel_rfl) ?_
    refine (I.seenIn_L3_run net set_ FUEL (0, 0) (I.seenIn_k3 κ)).trans (optC_congr (fun qy_3 => ?_))
    kernel_rfl
  rw [hu]
  exact (I.seenIn_tree_nat (fun o => optC o (fun (r : Int) => κ (.int .i64 r) []) none) net set_ (fun d => some d) none).symm
noncomputable def I.seenIn_s : D.Spec where
  keep := false
  pure := true
  ds := [.int .i64, .invalid]
  sp := fun args h κ => match args, h with
    | [.ro false (.ints .i64 net), .int .i64 set_], [] => optC (I.seenIn_t net set_) (fun (r : Int) => κ (.int .i64 r) []) none
    | _, _ => none
theorem I.seenIn_ok : SpecOk Try.prog 75 I.seenIn_s := by
  refine SpecOk.of TDok mixed (T := I.seenIn_T) ?_ (ann := I.seenIn_ann) Try.func75 rfl (by decide +kernel) ?_ ?_ ?_
  · intro p hp
    simp only [I.seenIn_T, List.mem_cons, List.not_mem_nil, or_false] at hp
    rcases hp with rfl | rfl
    · exact I.hasPlace_ok
    · exact I.ballIn_ok
  · intro args h κ r hh
    simp only [I.seenIn_s] at hh
    split at hh
    · exact (I.seenIn_den _ _ κ).trans hh
    · cases hh
  · intro args h κ r hh
    simp only [I.seenIn_s] at hh ⊢
    split at hh
    · exact optC_law2 (F := fun (r : Int) κ => κ (.int .i64 r) []) (fun b κ r hb => ⟨_, _, hb, fun _ => rfl⟩) hh
    · cases hh
  · intro _ args h κ r hh
    simp only [I.seenIn_s] at hh
    split at hh
    · exact ⟨rfl, fun _ => rfl⟩
    · cases hh

-- loop.example/guardsonnets/impl.watchIn
noncomputable def I.watchIn_T : List (Nat × D.Spec) := [(75, I.seenIn_s), (55, I.allOf_s)]
def I.watchIn_ann : Nat → List Nat × List Nat
  | _ => ([], [])
noncomputable def I.watchIn_F (args : List V) (h : List E) (κ : V → List E → R) : R := funC TD (tableK I.watchIn_T) I.watchIn_ann (drawOk (tableP I.watchIn_T)) FUEL Try.f66 args h κ
noncomputable def I.watchIn_tree {α : Type} (net : List Int) (set_ : Int) (leaf0_ : Bool → α) (fail_ : α) : α :=
  (optC (I.seenIn_t net set_) (fun c_1 => (optC (I.allOf_t net) (fun c_2 => (leaf0_ (c_1 == c_2))) fail_)) fail_)
theorem I.watchIn_tree_nat {α γ : Type} (g : α → γ) (net : List Int) (set_ : Int) (leaf0_ : Bool → α) (fail_ : α) : g (I.watchIn_tree net set_ leaf0_ fail_) = I.watchIn_tree net set_ (fun d => g (leaf0_ d)) (g fail_) := by
  unfold I.watchIn_tree; simp only [apply_cnd g, apply_optC g, apply_sumC g]
noncomputable def I.watchIn_t (net : List Int) (set_ : Int) : Option (Bool) := I.watchIn_tree net set_ (fun d => some d) none
theorem I.watchIn_den (net : List Int) (set_ : Int) (κ : V → List E → R) : I.watchIn_F [.ro false (.ints .i64 net), .int .i64 set_] [] κ = optC (I.watchIn_t net set_) (fun (r : Bool) => κ (.bool r) []) none := by
  have hu : I.watchIn_F [.ro false (.ints .i64 net), .int .i64 set_] [] κ = I.watchIn_tree net set_ (fun d => κ (.bool d) []) none := by
    kernel_rfl
  rw [hu]
  exact (I.watchIn_tree_nat (fun o => optC o (fun (r : Bool) => κ (.bool r) []) none) net set_ (fun d => some d) none).symm
noncomputable def I.watchIn_s : D.Spec where
  keep := false
  pure := true
  ds := [.int .i64, .invalid]
  sp := fun args h κ => match args, h with
    | [.ro false (.ints .i64 net), .int .i64 set_], [] => optC (I.watchIn_t net set_) (fun (r : Bool) => κ (.bool r) []) none
    | _, _ => none
theorem I.watchIn_ok : SpecOk Try.prog 66 I.watchIn_s := by
  refine SpecOk.of TDok mixed (T := I.watchIn_T) ?_ (ann := I.watchIn_ann) Try.func66 rfl (by decide +kernel) ?_ ?_ ?_
  · intro p hp
    simp only [I.watchIn_T, List.mem_cons, List.not_mem_nil, or_false] at hp
    rcases hp with rfl | rfl
    · exact I.seenIn_ok
    · exact I.allOf_ok
  · intro args h κ r hh
    simp only [I.watchIn_s] at hh
    split at hh
    · exact (I.watchIn_den _ _ κ).trans hh
    · cases hh
  · intro args h κ r hh
    simp only [I.watchIn_s] at hh ⊢
    split at hh
    · exact optC_law2 (F := fun (r : Bool) κ => κ (.bool r) []) (fun b κ r hb => ⟨_, _, hb, fun _ => rfl⟩) hh
    · cases hh
  · intro _ args h κ r hh
    simp only [I.watchIn_s] at hh
    split at hh
    · exact ⟨rfl, fun _ => rfl⟩
    · cases hh

-- loop.example/guardsonnets/impl.smallWatchIn
noncomputable def I.smallWatchIn_T : List (Nat × D.Spec) := [(55, I.allOf_s), (56, I.sizeOf_s), (66, I.watchIn_s)]
def I.smallWatchIn_ann : Nat → List Nat × List Nat
  | 3 => ([0, 3, 4], [3])
  | _ => ([], [])
noncomputable def I.smallWatchIn_F (args : List V) (h : List E) (κ : V → List E → R) : R := funC TD (tableK I.smallWatchIn_T) I.smallWatchIn_ann (drawOk (tableP I.smallWatchIn_T)) FUEL Try.f61 args h κ
noncomputable def I.smallWatchIn_L3 (n : Nat) (σ : St) (k : X → St → R) : R := iterC 0 (fun σ k => denC TD (tableK I.smallWatchIn_T) I.smallWatchIn_ann (drawOk (tableP I.smallWatchIn_T)) 0 FUEL ((findLoop 3 (Try.f61.body.getD .skip)).getD .skip) σ k) [0, 3, 4] [3] n σ k
noncomputable def I.smallWatchIn_k3 (κ : V → List E → R) : X → St → R := (afterC TD (tableK I.smallWatchIn_T) I.smallWatchIn_ann (drawOk (tableP I.smallWatchIn_T)) 0 FUEL 3 (Try.f61.body.getD .skip) (finC TD 0 Try.f61 κ)).getD (fun _ _ => none)
noncomputable def I.smallWatchIn_step3 {α : Type} (x0 : List Int) (x3 : Int) (x4 : Int) (next_ : Int × Int → α) (out0_ : Int → α) (fail_ : α) : α :=
  (optC (I.allOf_t x0) (fun c_2 => (bif decide (x4 < c_2) then (optC (I.sizeOf_t x4) (fun c_3 => (optC (I.sizeOf_t x3) (fun c_4 => (bif decide (c_3 < c_4) then (optC (I.watchIn_t x0 x4) (fun c_5 => (bif c_5 then (next_ (x4, IntKind.i64.wrap (x4 + 1))) else (next_ (x3, IntKind.i64.wrap (x4 + 1))))) fail_) else (next_ (x3, IntKind.i64.wrap (x4 + 1))))) fail_)) fail_) else (out0_ x3))) fail_)
theorem I.smallWatchIn_step3_nat {α γ : Type} (g : α → γ) (x0 : List Int) (x3 : Int) (x4 : Int) (next_ : Int × Int → α) (out0_ : Int → α) (fail_ : α) : g (I.smallWatchIn_step3 x0 x3 x4 next_ out0_ fail_) = I.smallWatchIn_step3 x0 x3 x4 (fun s => g (next_ s)) (fun d => g (out0_ d)) (g fail_) := by
  unfold I.smallWatchIn_step3; simp only [apply_cnd g, apply_optC g, apply_sumC g]
noncomputable def I.smallWatchIn_run3 (x0 : List Int) : Nat → Int × Int → Option (Int)
  | 0, _ => none
  | n + 1, s_ => I.smallWatchIn_step3 x0 s_.1 s_.2 (I.smallWatchIn_run3 x0 n) (fun d => some d) none
theorem I.smallWatchIn_L3_run (x0 : List Int) (n : Nat) (s_ : Int × Int) (k : X → St → R) : I.smallWatchIn_L3 n { n := 25, t := [(0, (.ro false (.ints .i64 x0))), (3, (.int .i64 s_.1)), (4, (.int .i64 s_.2))], h := [] } k = optC (I.smallWatchIn_run3 x0 n s_) (fun (r : Int) => k (.exit 0) { n := 25, t := [(3, (.int .i64 r))], h := [] }) none := by
  induction n generalizing s_ with
  | zero => rfl
  | succ n ih =>
    have hu : I.smallWatchIn_L3 (n + 1) { n := 25, t := [(0, (.ro false (.ints .i64 x0))), (3, (.int .i64 s_.1)), (4, (.int .i64 s_.2))], h := [] } k = I.smallWatchIn_step3 x0 s_.1 s_.2 (fun s_ => I.smallWatchIn_L3 n { n := 25, t := [(0, (.ro false (.ints .i64 x0))), (3, (.int .i64 s_.1)), (4, (.int .i64 s_.2))], h := [] } k) (fun d => k (.exit 0) { n := 25, t := [(3, (.int .i64 d))], h := [] }) none := by
      kernel_rfl
    have hs : (fun s_ : Int × Int => I.smallWatchIn_L3 n { n := 25, t := [(0, (.ro false (.ints .i64 x0))), (3, (.int .i64 s_.1)), (4, (.int .i64 s_.2))], h := [] } k) = fun s_ => optC (I.smallWatchIn_run3 x0 n s_) (fun (r : Int) => k (.exit 0) { n := 25, t := [(3, (.int .i64 r))], h := [] }) none := funext ih
    rw [hu, hs]
    exact (I.smallWatchIn_step3_nat (fun o => optC o (fun (r : Int) => k (.exit 0) { n := 25, t := [(3, (.int .i64 r))], h := [] }) none) x0 s_.1 s_.2 (I.smallWatchIn_run3 x0 n) (fun d => some d) none).symm
noncomputable def I.smallWatchIn_tree {α : Type} (net : List Int) (leaf0_ : Int → α) (fail_ : α) : α :=
  (optC (I.allOf_t net) (fun c_1 => (optC (I.smallWatchIn_run3 net FUEL (c_1, 0)) (fun qy_6 => (leaf0_ qy_6)) fail_)) fail_)
theorem I.smallWatchIn_tree_nat {α γ : Type} (g : α → γ) (net : List Int) (leaf0_ : Int → α) (fail_ : α) : g (I.smallWatchIn_tree net leaf0_ fail_) = I.smallWatchIn_tree net (fun d => g (leaf0_ d)) (g fail_) := by
  unfold I.smallWatchIn_tree; simp only [apply_cnd g, apply_optC g, apply_sumC g]
noncomputable def I.smallWatchIn_t (net : List Int) : Option (Int) := I.smallWatchIn_tree net (fun d => some d) none
theorem I.smallWatchIn_den (net : List Int) (κ : V → List E → R) : I.smallWatchIn_F [.ro false (.ints .i64 net)] [] κ = optC (I.smallWatchIn_t net) (fun (r : Int) => κ (.int .i64 r) []) none := by
  have hu : I.smallWatchIn_F [.ro false (.ints .i64 net)] [] κ = I.smallWatchIn_tree net (fun d => κ (.int .i64 d) []) none := by
    refine Eq.trans (show I.smallWatchIn_F [.ro false (.ints .i64 net)] [] κ = (optC (I.allOf_t net) (fun c_1 => (I.smallWatchIn_L3 FUEL { n := 25, t := [(0, (.ro false (.ints .i64 net))), (3, (.int .i64 c_1)), (4, (.int .i64 0))], h := [] } (I.smallWatchIn_k3 κ))) none) by kernel_rfl) ?_
    refine optC_congr (fun c_1 => ?_)
    refine (I.smallWatchIn_L3_run net FUEL (c_1, 0) (I.smallWatchIn_k3 κ)).trans (optC_congr (fun qy_6 => ?_))
    kernel_rfl
  rw [hu]
  exact (I.smallWatchIn_tree_nat (fun o => optC o (fun (r : Int) => κ (.int .i64 r) []) none) net (fun d => some d) none).symm
noncomputable def I.smallWatchIn_s : D.Spec where
  keep := false
  pure := true
  ds := [.int .i64]
  sp := fun args h κ => match args, h with
    | [.ro false (.ints .i64 net)], [] => optC (I.smallWatchIn_t net) (fun (r : Int) => κ (.int .i64 r) []) none
    | _, _ => none
theorem I.smallWatchIn_ok : SpecOk Try.prog 61 I.smallWatchIn_s := by
  refine SpecOk.of TDok mixed (T := I.smallWatchIn_T) ?_ (ann := I.smallWatchIn_ann) Try.func61 rfl (by decide +kernel) ?_ ?_ ?_
  · intro p hp
    simp only [I.smallWatchIn_T, List.mem_cons, List.not_mem_nil, or_false] at hp
    rcases hp with rfl | rfl | rfl
    · exact I.allOf_ok
    · exact I.sizeOf_ok
    · exact I.watchIn_ok
  · intro args h κ r hh
    simp only [I.smallWatchIn_s] at hh
    split at hh
    · exact (I.smallWatchIn_den _ κ).trans hh
    · cases hh
  · intro args h κ r hh
    simp only [I.smallWatchIn_s] at hh ⊢
    split at hh
    · exact optC_law2 (F := fun (r : Int) κ => κ (.int .i64 r) []) (fun b κ r hb => ⟨_, _, hb, fun _ => rfl⟩) hh
    · cases hh
  · intro _ args h κ r hh
    simp only [I.smallWatchIn_s] at hh
    split at hh
    · exact ⟨rfl, fun _ => rfl⟩
    · cases hh

-- loop.example/guardsonnets/impl.FewestWatch
noncomputable def I.FewestWatch_T : List (Nat × D.Spec) := [(27, I.NetOk_s), (61, I.smallWatchIn_s), (56, I.sizeOf_s)]
def I.FewestWatch_ann : Nat → List Nat × List Nat
  | _ => ([], [])
noncomputable def I.FewestWatch_F (args : List V) (h : List E) (κ : V → List E → R) : R := funC TD (tableK I.FewestWatch_T) I.FewestWatch_ann (drawOk (tableP I.FewestWatch_T)) FUEL Try.f28 args h κ
noncomputable def I.FewestWatch_tree {α : Type} (net : List Int) (leaf0_ : Int → α) (fail_ : α) : α :=
  (optC (I.NetOk_t net) (fun c_1 => (bif !c_1 then (leaf0_ (-1)) else (optC (I.smallWatchIn_t net) (fun c_2 => (optC (I.sizeOf_t c_2) (fun c_3 => (leaf0_ c_3)) fail_)) fail_))) fail_)
theorem I.FewestWatch_tree_nat {α γ : Type} (g : α → γ) (net : List Int) (leaf0_ : Int → α) (fail_ : α) : g (I.FewestWatch_tree net leaf0_ fail_) = I.FewestWatch_tree net (fun d => g (leaf0_ d)) (g fail_) := by
  unfold I.FewestWatch_tree; simp only [apply_cnd g, apply_optC g, apply_sumC g]
noncomputable def I.FewestWatch_t (net : List Int) : Option (Int) := I.FewestWatch_tree net (fun d => some d) none
theorem I.FewestWatch_den (net : List Int) (κ : V → List E → R) : I.FewestWatch_F [.ro false (.ints .i64 net)] [] κ = optC (I.FewestWatch_t net) (fun (r : Int) => κ (.int .i64 r) []) none := by
  have hu : I.FewestWatch_F [.ro false (.ints .i64 net)] [] κ = I.FewestWatch_tree net (fun d => κ (.int .i64 d) []) none := by
    kernel_rfl
  rw [hu]
  exact (I.FewestWatch_tree_nat (fun o => optC o (fun (r : Int) => κ (.int .i64 r) []) none) net (fun d => some d) none).symm
noncomputable def I.FewestWatch_s : D.Spec where
  keep := false
  pure := true
  ds := [.int .i64]
  sp := fun args h κ => match args, h with
    | [.ro false (.ints .i64 net)], [] => optC (I.FewestWatch_t net) (fun (r : Int) => κ (.int .i64 r) []) none
    | _, _ => none
theorem I.FewestWatch_ok : SpecOk Try.prog 28 I.FewestWatch_s := by
  refine SpecOk.of TDok mixed (T := I.FewestWatch_T) ?_ (ann := I.FewestWatch_ann) Try.func28 rfl (by decide +kernel) ?_ ?_ ?_
  · intro p hp
    simp only [I.FewestWatch_T, List.mem_cons, List.not_mem_nil, or_false] at hp
    rcases hp with rfl | rfl | rfl
    · exact I.NetOk_ok
    · exact I.smallWatchIn_ok
    · exact I.sizeOf_ok
  · intro args h κ r hh
    simp only [I.FewestWatch_s] at hh
    split at hh
    · exact (I.FewestWatch_den _ κ).trans hh
    · cases hh
  · intro args h κ r hh
    simp only [I.FewestWatch_s] at hh ⊢
    split at hh
    · exact optC_law2 (F := fun (r : Int) κ => κ (.int .i64 r) []) (fun b κ r hb => ⟨_, _, hb, fun _ => rfl⟩) hh
    · cases hh
  · intro _ args h κ r hh
    simp only [I.FewestWatch_s] at hh
    split at hh
    · exact ⟨rfl, fun _ => rfl⟩
    · cases hh

-- loop.example/guardsonnets/impl.partIn
noncomputable def I.partIn_T : List (Nat × D.Spec) := [(75, I.seenIn_s)]
def I.partIn_ann : Nat → List Nat × List Nat
  | 3 => ([0, 5, 6], [5])
  | _ => ([], [])
noncomputable def I.partIn_F (args : List V) (h : List E) (κ : V → List E → R) : R := funC TD (tableK I.partIn_T) I.partIn_ann (drawOk (tableP I.partIn_T)) FUEL Try.f62 args h κ
noncomputable def I.partIn_L3 (n : Nat) (σ : St) (k : X → St → R) : R := iterC 0 (fun σ k => denC TD (tableK I.partIn_T) I.partIn_ann (drawOk (tableP I.partIn_T)) 0 FUEL ((findLoop 3 (Try.f62.body.getD .skip)).getD .skip) σ k) [0, 5, 6] [5] n σ k
noncomputable def I.partIn_k3 (κ : V → List E → R) : X → St → R := (afterC TD (tableK I.partIn_T) I.partIn_ann (drawOk (tableP I.partIn_T)) 0 FUEL 3 (Try.f62.body.getD .skip) (finC TD 0 Try.f62 κ)).getD (fun _ _ => none)
noncomputable def I.partIn_step3 {α : Type} (x0 : List Int) (x5 : Int) (x6 : Int) (next_ : Int × Int → α) (out0_ : Int → α) (fail_ : α) : α :=
  (bif decide (x6 < (↑x0.length : Int)) then (optC (I.seenIn_t x0 x5) (fun c_1 => (next_ (c_1, IntKind.i64.wrap (x6 + 1)))) fail_) else (out0_ x5))
theorem I.partIn_step3_nat {α γ : Type} (g : α → γ) (x0 : List Int) (x5 : Int) (x6 : Int) (next_ : Int × Int → α) (out0_ : Int → α) (fail_ : α) : g (I.partIn_step3 x0 x5 x6 next_ out0_ fail_) = I.partIn_step3 x0 x5 x6 (fun s => g (next_ s)) (fun d => g (out0_ d)) (g fail_) := by
  unfold I.partIn_step3; simp only [apply_cnd g, apply_optC g, apply_sumC g]
noncomputable def I.partIn_run3 (x0 : List Int) : Nat → Int × Int → Option (Int)
  | 0, _ => none
  | n + 1, s_ => I.partIn_step3 x0 s_.1 s_.2 (I.partIn_run3 x0 n) (fun d => some d) none
theorem I.partIn_L3_run (x0 : List Int) (n : Nat) (s_ : Int × Int) (k : X → St → R) : I.partIn_L3 n { n := 19, t := [(0, (.ro false (.ints .i64 x0))), (5, (.int .i64 s_.1)), (6, (.int .i64 s_.2))], h := [] } k = optC (I.partIn_run3 x0 n s_) (fun (r : Int) => k (.exit 0) { n := 19, t := [(5, (.int .i64 r))], h := [] }) none := by
  induction n generalizing s_ with
  | zero => rfl
  | succ n ih =>
    have hu : I.partIn_L3 (n + 1) { n := 19, t := [(0, (.ro false (.ints .i64 x0))), (5, (.int .i64 s_.1)), (6, (.int .i64 s_.2))], h := [] } k = I.partIn_step3 x0 s_.1 s_.2 (fun s_ => I.partIn_L3 n { n := 19, t := [(0, (.ro false (.ints .i64 x0))), (5, (.int .i64 s_.1)), (6, (.int .i64 s_.2))], h := [] } k) (fun d => k (.exit 0) { n := 19, t := [(5, (.int .i64 d))], h := [] }) none := by
      kernel_rfl
    have hs : (fun s_ : Int × Int => I.partIn_L3 n { n := 19, t := [(0, (.ro false (.ints .i64 x0))), (5, (.int .i64 s_.1)), (6, (.int .i64 s_.2))], h := [] } k) = fun s_ => optC (I.partIn_run3 x0 n s_) (fun (r : Int) => k (.exit 0) { n := 19, t := [(5, (.int .i64 r))], h := [] }) none := funext ih
    rw [hu, hs]
    exact (I.partIn_step3_nat (fun o => optC o (fun (r : Int) => k (.exit 0) { n := 19, t := [(5, (.int .i64 r))], h := [] }) none) x0 s_.1 s_.2 (I.partIn_run3 x0 n) (fun d => some d) none).symm
noncomputable def I.partIn_tree {α : Type} (net : List Int) (place : Int) (leaf0_ : Int → α) (fail_ : α) : α :=
  (bif decide (place < 0) then fail_ else (optC (I.partIn_run3 net FUEL (IntKind.i64.wrap (1 * 2 ^ min place.toNat IntKind.i64.bits), 1)) (fun qy_2 => (leaf0_ qy_2)) fail_))
theorem I.partIn_tree_nat {α γ : Type} (g : α → γ) (net : List Int) (place : Int) (leaf0_ : Int → α) (fail_ : α) : g (I.partIn_tree net place leaf0_ fail_) = I.partIn_tree net place (fun d => g (leaf0_ d)) (g fail_) := by
  unfold I.partIn_tree; simp only [apply_cnd g, apply_optC g, apply_sumC g]
noncomputable def I.partIn_t (net : List Int) (place : Int) : Option (Int) := I.partIn_tree net place (fun d => some d) none
theorem I.partIn_den (net : List Int) (place : Int) (κ : V → List E → R) : I.partIn_F [.ro false (.ints .i64 net), .int .i64 place] [] κ = optC (I.partIn_t net place) (fun (r : Int) => κ (.int .i64 r) []) none := by
  have hu : I.partIn_F [.ro false (.ints .i64 net), .int .i64 place] [] κ = I.partIn_tree net place (fun d => κ (.int .i64 d) []) none := by
    refine Eq.trans (show I.partIn_F [.ro false (.ints .i64 net), .int .i64 place] [] κ = (bif decide (place < 0) then none else (I.partIn_L3 FUEL { n := 19, t := [(0, (.ro false (.ints .i64 net))), (5, (.int .i64 (IntKind.i64.wrap (1 * 2 ^ min place.toNat IntKind.i64.bits)))), (6, (.int .i64 1))], h := [] } (I.partIn_k3 κ))) by kernel_rfl) ?_
    refine cnd_congr ?_ ?_
    · kernel_rfl
    · refine (I.partIn_L3_run net FUEL (IntKind.i64.wrap (1 * 2 ^ min place.toNat IntKind.i64.bits), 1) (I.partIn_k3 κ)).trans (optC_congr (fun qy_2 => ?_))
      kernel_rfl
  rw [hu]
  exact (I.partIn_tree_nat (fun o => optC o (fun (r : Int) => κ (.int .i64 r) []) none) net place (fun d => some d) none).symm
noncomputable def I.partIn_s : D.Spec where
  keep := false
  pure := true
  ds := [.int .i64, .invalid]
  sp := fun args h κ => match args, h with
    | [.ro false (.ints .i64 net), .int .i64 place], [] => optC (I.partIn_t net place) (fun (r : Int) => κ (.int .i64 r) []) none
    | _, _ => none
theorem I.partIn_ok : SpecOk Try.prog 62 I.partIn_s := by
  refine SpecOk.of TDok mixed (T := I.partIn_T) ?_ (ann := I.partIn_ann) Try.func62 rfl (by decide +kernel) ?_ ?_ ?_
  · intro p hp
    simp only [I.partIn_T, List.mem_cons, List.not_mem_nil, or_false] at hp
    rcases hp with rfl
    · exact I.seenIn_ok
  · intro args h κ r hh
    simp only [I.partIn_s] at hh
    split at hh
    · exact (I.partIn_den _ _ κ).trans hh
    · cases hh
  · intro args h κ r hh
    simp only [I.partIn_s] at hh ⊢
    split at hh
    · exact optC_law2 (F := fun (r : Int) κ => κ (.int .i64 r) []) (fun b κ r hb => ⟨_, _, hb, fun _ => rfl⟩) hh
    · cases hh
  · intro _ args h κ r hh
    simp only [I.partIn_s] at hh
    split at hh
    · exact ⟨rfl, fun _ => rfl⟩
    · cases hh

-- loop.example/guardsonnets/impl.PartMany
noncomputable def I.PartMany_T : List (Nat × D.Spec) := [(27, I.NetOk_s), (59, I.hasPlace_s), (62, I.partIn_s)]
def I.PartMany_ann : Nat → List Nat × List Nat
  | 6 => ([0, 3, 4, 5], [3])
  | _ => ([], [])
noncomputable def I.PartMany_F (args : List V) (h : List E) (κ : V → List E → R) : R := funC TD (tableK I.PartMany_T) I.PartMany_ann (drawOk (tableP I.PartMany_T)) FUEL Try.f29 args h κ
noncomputable def I.PartMany_L6 (n : Nat) (σ : St) (k : X → St → R) : R := iterC 0 (fun σ k => denC TD (tableK I.PartMany_T) I.PartMany_ann (drawOk (tableP I.PartMany_T)) 0 FUEL ((findLoop 6 (Try.f29.body.getD .skip)).getD .skip) σ k) [0, 3, 4, 5] [3] n σ k
noncomputable def I.PartMany_k6 (κ : V → List E → R) : X → St → R := (afterC TD (tableK I.PartMany_T) I.PartMany_ann (drawOk (tableP I.PartMany_T)) 0 FUEL 6 (Try.f29.body.getD .skip) (finC TD 0 Try.f29 κ)).getD (fun _ _ => none)
noncomputable def I.PartMany_step6 {α : Type} (x0 : List Int) (x3 : Int) (x4 : Int) (x5 : Int) (next_ : Int × Int × Int → α) (out0_ : Int → α) (fail_ : α) : α :=
  (bif decide (x5 < (↑x0.length : Int)) then (optC (I.hasPlace_t x4 x5) (fun c_2 => (bif !c_2 then (optC (I.partIn_t x0 x5) (fun c_3 => (next_ (IntKind.i64.wrap (x3 + 1), bits BinOp.or IntKind.i64 x4 c_3, IntKind.i64.wrap (x5 + 1)))) fail_) else (next_ (x3, x4, IntKind.i64.wrap (x5 + 1))))) fail_) else (out0_ x3))
theorem I.PartMany_step6_nat {α γ : Type} (g : α → γ) (x0 : List Int) (x3 : Int) (x4 : Int) (x5 : Int) (next_ : Int × Int × Int → α) (out0_ : Int → α) (fail_ : α) : g (I.PartMany_step6 x0 x3 x4 x5 next_ out0_ fail_) = I.PartMany_step6 x0 x3 x4 x5 (fun s => g (next_ s)) (fun d => g (out0_ d)) (g fail_) := by
  unfold I.PartMany_step6; simp only [apply_cnd g, apply_optC g, apply_sumC g]
noncomputable def I.PartMany_run6 (x0 : List Int) : Nat → Int × Int × Int → Option (Int)
  | 0, _ => none
  | n + 1, s_ => I.PartMany_step6 x0 s_.1 s_.2.1 s_.2.2 (I.PartMany_run6 x0 n) (fun d => some d) none
theorem I.PartMany_L6_run (x0 : List Int) (n : Nat) (s_ : Int × Int × Int) (k : X → St → R) : I.PartMany_L6 n { n := 27, t := [(0, (.ro false (.ints .i64 x0))), (3, (.int .i64 s_.1)), (4, (.int .i64 s_.2.1)), (5, (.int .i64 s_.2.2))], h := [] } k = optC (I.PartMany_run6 x0 n s_) (fun (r : Int) => k (.exit 0) { n := 27, t := [(3, (.int .i64 r))], h := [] }) none := by
  induction n generalizing s_ with
  | zero => rfl
  | succ n ih =>
    have hu : I.PartMany_L6 (n + 1) { n := 27, t := [(0, (.ro false (.ints .i64 x0))), (3, (.int .i64 s_.1)), (4, (.int .i64 s_.2.1)), (5, (.int .i64 s_.2.2))], h := [] } k = I.PartMany_step6 x0 s_.1 s_.2.1 s_.2.2 (fun s_ => I.PartMany_L6 n { n := 27, t := [(0, (.ro false (.ints .i64 x0))), (3, (.int .i64 s_.1)), (4, (.int .i64 s_.2.1)), (5, (.int .i64 s_.2.2))], h := [] } k) (fun d => k (.exit 0) { n := 27, t := [(3, (.int .i64 d))], h := [] }) none := by
      kernel_rfl
    have hs : (fun s_ : Int × Int × Int => I.PartMany_L6 n { n := 27, t := [(0, (.ro false (.ints .i64 x0))), (3, (.int .i64 s_.1)), (4, (.int .i64 s_.2.1)), (5, (.int .i64 s_.2.2))], h := [] } k) = fun s_ => optC (I.PartMany_run6 x0 n s_) (fun (r : Int) => k (.exit 0) { n := 27, t := [(3, (.int .i64 r))], h := [] }) none := funext ih
    rw [hu, hs]
    exact (I.PartMany_step6_nat (fun o => optC o (fun (r : Int) => k (.exit 0) { n := 27, t := [(3, (.int .i64 r))], h := [] }) none) x0 s_.1 s_.2.1 s_.2.2 (I.PartMany_run6 x0 n) (fun d => some d) none).symm
noncomputable def I.PartMany_tree {α : Type} (net : List Int) (leaf0_ : Int → α) (fail_ : α) : α :=
  (optC (I.NetOk_t net) (fun c_1 => (bif !c_1 then (leaf0_ (-1)) else (optC (I.PartMany_run6 net FUEL (0, 0, 0)) (fun qy_4 => (leaf0_ qy_4)) fail_))) fail_)
theorem I.PartMany_tree_nat {α γ : Type} (g : α → γ) (net : List Int) (leaf0_ : Int → α) (fail_ : α) : g (I.PartMany_tree net leaf0_ fail_) = I.PartMany_tree net (fun d => g (leaf0_ d)) (g fail_) := by
  unfold I.PartMany_tree; simp only [apply_cnd g, apply_optC g, apply_sumC g]
noncomputable def I.PartMany_t (net : List Int) : Option (Int) := I.PartMany_tree net (fun d => some d) none
theorem I.PartMany_den (net : List Int) (κ : V → List E → R) : I.PartMany_F [.ro false (.ints .i64 net)] [] κ = optC (I.PartMany_t net) (fun (r : Int) => κ (.int .i64 r) []) none := by
  have hu : I.PartMany_F [.ro false (.ints .i64 net)] [] κ = I.PartMany_tree net (fun d => κ (.int .i64 d) []) none := by
    refine Eq.trans (show I.PartMany_F [.ro false (.ints .i64 net)] [] κ = (optC (I.NetOk_t net) (fun c_1 => (bif !c_1 then (κ (.int .i64 (-1)) []) else (I.PartMany_L6 FUEL { n := 27, t := [(0, (.ro false (.ints .i64 net))), (3, (.int .i64 0)), (4, (.int .i64 0)), (5, (.int .i64 0))], h := [] } (I.PartMany_k6 κ)))) none) by kernel_rfl) ?_
    refine optC_congr (fun c_1 => ?_)
    refine cnd_congr ?_ ?_
    · kernel_rfl
    · refine (I.PartMany_L6_run net FUEL (0, 0, 0) (I.PartMany_k6 κ)).trans (optC_congr (fun qy_4 => ?_))
      kernel_rfl
  rw [hu]
  exact (I.PartMany_tree_nat (fun o => optC o (fun (r : Int) => κ (.int .i64 r) []) none) net (fun d => some d) none).symm
noncomputable def I.PartMany_s : D.Spec where
  keep := false
  pure := true
  ds := [.int .i64]
  sp := fun args h κ => match args, h with
    | [.ro false (.ints .i64 net)], [] => optC (I.PartMany_t net) (fun (r : Int) => κ (.int .i64 r) []) none
    | _, _ => none
theorem I.PartMany_ok : SpecOk Try.prog 29 I.PartMany_s := by
  refine SpecOk.of TDok mixed (T := I.PartMany_T) ?_ (ann := I.PartMany_ann) Try.func29 rfl (by decide +kernel) ?_ ?_ ?_
  · intro p hp
    simp only [I.PartMany_T, List.mem_cons, List.not_mem_nil, or_false] at hp
    rcases hp with rfl | rfl | rfl
    · exact I.NetOk_ok
    · exact I.hasPlace_ok
    · exact I.partIn_ok
  · intro args h κ r hh
    simp only [I.PartMany_s] at hh
    split at hh
    · exact (I.PartMany_den _ κ).trans hh
    · cases hh
  · intro args h κ r hh
    simp only [I.PartMany_s] at hh ⊢
    split at hh
    · exact optC_law2 (F := fun (r : Int) κ => κ (.int .i64 r) []) (fun b κ r hb => ⟨_, _, hb, fun _ => rfl⟩) hh
    · cases hh
  · intro _ args h κ r hh
    simp only [I.PartMany_s] at hh
    split at hh
    · exact ⟨rfl, fun _ => rfl⟩
    · cases hh

-- loop.example/guardsonnets/impl.leafIn
noncomputable def I.leafIn_T : List (Nat × D.Spec) := [(59, I.hasPlace_s), (56, I.sizeOf_s)]
def I.leafIn_ann : Nat → List Nat × List Nat
  | 2 => ([0, 1, 5], [4])
  | _ => ([], [])
noncomputable def I.leafIn_F (args : List V) (h : List E) (κ : V → List E → R) : R := funC TD (tableK I.leafIn_T) I.leafIn_ann (drawOk (tableP I.leafIn_T)) FUEL Try.f76 args h κ
noncomputable def I.leafIn_L2 (n : Nat) (σ : St) (k : X → St → R) : R := iterC 0 (fun σ k => denC TD (tableK I.leafIn_T) I.leafIn_ann (drawOk (tableP I.leafIn_T)) 0 FUEL ((findLoop 2 (Try.f76.body.getD .skip)).getD .skip) σ k) [0, 1, 5] [4] n σ k
noncomputable def I.leafIn_k2 (κ : V → List E → R) : X → St → R := (afterC TD (tableK I.leafIn_T) I.leafIn_ann (drawOk (tableP I.leafIn_T)) 0 FUEL 2 (Try.f76.body.getD .skip) (finC TD 0 Try.f76 κ)).getD (fun _ _ => none)
noncomputable def I.leafIn_step2 {α : Type} (x0 : List Int) (x1 : Int) (x5 : Int) (next_ : Int → α) (out0_ : Int → α) (out1_ : Unit → α) (fail_ : α) : α :=
  (bif decide (x5 < (↑x0.length : Int)) then (optC (I.hasPlace_t x1 x5) (fun c_1 => (bif c_1 then (bif decide (0 ≤ x5) && decide (x5 < (↑x0.length : Int)) then (optC (I.sizeOf_t (bits BinOp.and IntKind.i64 (eli x0 x5.toNat) x1)) (fun c_2 => (bif decide (c_2 ≤ 1) then (out0_ x5) else (next_ (IntKind.i64.wrap (x5 + 1))))) fail_) else fail_) else (next_ (IntKind.i64.wrap (x5 + 1))))) fail_) else (out1_ ()))
theorem I.leafIn_step2_nat {α γ : Type} (g : α → γ) (x0 : List Int) (x1 : Int) (x5 : Int) (next_ : Int → α) (out0_ : Int → α) (out1_ : Unit → α) (fail_ : α) : g (I.leafIn_step2 x0 x1 x5 next_ out0_ out1_ fail_) = I.leafIn_step2 x0 x1 x5 (fun s => g (next_ s)) (fun d => g (out0_ d)) (fun d => g (out1_ d)) (g fail_) := by
  unfold I.leafIn_step2; simp only [apply_cnd g, apply_optC g, apply_sumC g]
noncomputable def I.leafIn_run2 (x0 : List Int) (x1 : Int) : Nat → Int → Option ((Int) ⊕ (Unit))
  | 0, _ => none
  | n + 1, s_ => I.leafIn_step2 x0 x1 s_ (I.leafIn_run2 x0 x1 n) (fun d => some ((Sum.inl d))) (fun d => some ((Sum.inr d))) none
theorem I.leafIn_L2_run (x0 : List Int) (x1 : Int) (n : Nat) (s_ : Int) (k : X → St → R) : I.leafIn_L2 n { n := 26, t := [(0, (.ro false (.ints .i64 x0))), (1, (.int .i64 x1)), (5, (.int .i64 s_))], h := [] } k = optC (I.leafIn_run2 x0 x1 n s_) (fun (r : (Int) ⊕ (Unit)) => (sumC r (fun (r : Int) => k (.ret) { n := 26, t := [(4, (.int .i64 r))], h := [] }) (fun (r : Unit) => k (.exit 0) { n := 26, t := [(4, .junk)], h := [] }))) none := by
  induction n generalizing s_ with
  | zero => rfl
  | succ n ih =>
    have hu : I.leafIn_L2 (n + 1) { n := 26, t := [(0, (.ro false (.ints .i64 x0))), (1, (.int .i64 x1)), (5, (.int .i64 s_))], h := [] } k = I.leafIn_step2 x0 x1 s_ (fun s_ => I.leafIn_L2 n { n := 26, t := [(0, (.ro false (.ints .i64 x0))), (1, (.int .i64 x1)), (5, (.int .i64 s_))], h := [] } k) (fun d => k (.ret) { n := 26, t := [(4, (.int .i64 d))], h := [] }) (fun d => k (.exit 0) { n := 26, t := [(4, .junk)], h := [] }) none := by
      kernel_rfl
    have hs : (fun s_ : Int => I.leafIn_L2 n { n := 26, t := [(0, (.ro false (.ints .i64 x0))), (1, (.int .i64 x1)), (5, (.int .i64 s_))], h := [] } k) = fun s_ => optC (I.leafIn_run2 x0 x1 n s_) (fun (r : (Int) ⊕ (Unit)) => (sumC r (fun (r : Int) => k (.ret) { n := 26, t := [(4, (.int .i64 r))], h := [] }) (fun (r : Unit) => k (.exit 0) { n := 26, t := [(4, .junk)], h := [] }))) none := funext ih
    rw [hu, hs]
    exact (I.leafIn_step2_nat (fun o => optC o (fun (r : (Int) ⊕ (Unit)) => (sumC r (fun (r : Int) => k (.ret) { n := 26, t := [(4, (.int .i64 r))], h := [] }) (fun (r : Unit) => k (.exit 0) { n := 26, t := [(4, .junk)], h := [] }))) none) x0 x1 s_ (I.leafIn_run2 x0 x1 n) (fun d => some ((Sum.inl d))) (fun d => some ((Sum.inr d))) none).symm
noncomputable def I.leafIn_tree {α : Type} (net : List Int) (set_ : Int) (leaf0_ : Int → α) (fail_ : α) : α :=
  (optC (I.leafIn_run2 net set_ FUEL 0) (fun qy_3 => (sumC qy_3 (fun (qy_3 : Int) => (leaf0_ qy_3)) (fun (qy_3 : Unit) => (leaf0_ (-1))))) fail_)
theorem I.leafIn_tree_nat {α γ : Type} (g : α → γ) (net : List Int) (set_ : Int) (leaf0_ : Int → α) (fail_ : α) : g (I.leafIn_tree net set_ leaf0_ fail_) = I.leafIn_tree net set_ (fun d => g (leaf0_ d)) (g fail_) := by
  unfold I.leafIn_tree; simp only [apply_cnd g, apply_optC g, apply_sumC g]
noncomputable def I.leafIn_t (net : List Int) (set_ : Int) : Option (Int) := I.leafIn_tree net set_ (fun d => some d) none
theorem I.leafIn_den (net : List Int) (set_ : Int) (κ : V → List E → R) : I.leafIn_F [.ro false (.ints .i64 net), .int .i64 set_] [] κ = optC (I.leafIn_t net set_) (fun (r : Int) => κ (.int .i64 r) []) none := by
  have hu : I.leafIn_F [.ro false (.ints .i64 net), .int .i64 set_] [] κ = I.leafIn_tree net set_ (fun d => κ (.int .i64 d) []) none := by
    refine Eq.trans (show I.leafIn_F [.ro false (.ints .i64 net), .int .i64 set_] [] κ = (I.leafIn_L2 FUEL { n := 26, t := [(0, (.ro false (.ints .i64 net))), (1, (.int .i64 set_)), (5, (.int .i64 0))], h := [] } (I.leafIn_k2 κ)) by kernel_rfl) ?_
    refine (I.leafIn_L2_run net set_ FUEL 0 (I.leafIn_k2 κ)).trans (optC_congr (fun qy_3 => ?_))
    rcases qy_3 with qy_3 | qy_3
    · kernel_rfl
    · kernel_rfl
  rw [hu]
  exact (I.leafIn_tree_nat (fun o => optC o (fun (r : Int) => κ (.int .i64 r) []) none) net set_ (fun d => some d) none).symm
noncomputable def I.leafIn_s : D.Spec where
  keep := false
  pure := true
  ds := [.int .i64, .invalid]
  sp := fun args h κ => match args, h with
    | [.ro false (.ints .i64 net), .int .i64 set_], [] => optC (I.leafIn_t net set_) (fun (r : Int) => κ (.int .i64 r) []) none
    | _, _ => none
theorem I.leafIn_ok : SpecOk Try.prog 76 I.leafIn_s := by
  refine SpecOk.of TDok mixed (T := I.leafIn_T) ?_ (ann := I.leafIn_ann) Try.func76 rfl (by decide +kernel) ?_ ?_ ?_
  · intro p hp
    simp only [I.leafIn_T, List.mem_cons, List.not_mem_nil, or_false] at hp
    rcases hp with rfl | rfl
    · exact I.hasPlace_ok
    · exact I.sizeOf_ok
  · intro args h κ r hh
    simp only [I.leafIn_s] at hh
    split at hh
    · exact (I.leafIn_den _ _ κ).trans hh
    · cases hh
  · intro args h κ r hh
    simp only [I.leafIn_s] at hh ⊢
    split at hh
    · exact optC_law2 (F := fun (r : Int) κ => κ (.int .i64 r) []) (fun b κ r hb => ⟨_, _, hb, fun _ => rfl⟩) hh
    · cases hh
  · intro _ args h κ r hh
    simp only [I.leafIn_s] at hh
    split at hh
    · exact ⟨rfl, fun _ => rfl⟩
    · cases hh

-- loop.example/guardsonnets/impl.without
noncomputable def I.without_T : List (Nat × D.Spec) := []
def I.without_ann : Nat → List Nat × List Nat
  | _ => ([], [])
noncomputable def I.without_F (args : List V) (h : List E) (κ : V → List E → R) : R := funC TD (tableK I.without_T) I.without_ann (drawOk (tableP I.without_T)) FUEL Try.f77 args h κ
noncomputable def I.without_tree {α : Type} (set_ : Int) (place : Int) (leaf0_ : Int → α) (fail_ : α) : α :=
  (bif decide (place < 0) then fail_ else (leaf0_ (bits BinOp.andNot IntKind.i64 set_ (IntKind.i64.wrap (1 * 2 ^ min place.toNat IntKind.i64.bits)))))
theorem I.without_tree_nat {α γ : Type} (g : α → γ) (set_ : Int) (place : Int) (leaf0_ : Int → α) (fail_ : α) : g (I.without_tree set_ place leaf0_ fail_) = I.without_tree set_ place (fun d => g (leaf0_ d)) (g fail_) := by
  unfold I.without_tree; simp only [apply_cnd g, apply_optC g, apply_sumC g]
noncomputable def I.without_t (set_ : Int) (place : Int) : Option (Int) := I.without_tree set_ place (fun d => some d) none
theorem I.without_den (set_ : Int) (place : Int) (κ : V → List E → R) : I.without_F [.int .i64 set_, .int .i64 place] [] κ = optC (I.without_t set_ place) (fun (r : Int) => κ (.int .i64 r) []) none := by
  have hu : I.without_F [.int .i64 set_, .int .i64 place] [] κ = I.without_tree set_ place (fun d => κ (.int .i64 d) []) none := by
    kernel_rfl
  rw [hu]
  exact (I.without_tree_nat (fun o => optC o (fun (r : Int) => κ (.int .i64 r) []) none) set_ place (fun d => some d) none).symm
noncomputable def I.without_s : D.Spec where
  keep := false
  pure := true
  ds := [.invalid, .invalid]
  sp := fun args h κ => match args, h with
    | [.int .i64 set_, .int .i64 place], [] => optC (I.without_t set_ place) (fun (r : Int) => κ (.int .i64 r) []) none
    | _, _ => none
theorem I.without_ok : SpecOk Try.prog 77 I.without_s := by
  refine SpecOk.of TDok mixed (T := I.without_T) ?_ (ann := I.without_ann) Try.func77 rfl (by decide +kernel) ?_ ?_ ?_
  · intro p hp; cases hp
  · intro args h κ r hh
    simp only [I.without_s] at hh
    split at hh
    · exact (I.without_den _ _ κ).trans hh
    · cases hh
  · intro args h κ r hh
    simp only [I.without_s] at hh ⊢
    split at hh
    · exact optC_law2 (F := fun (r : Int) κ => κ (.int .i64 r) []) (fun b κ r hb => ⟨_, _, hb, fun _ => rfl⟩) hh
    · cases hh
  · intro _ args h κ r hh
    simp only [I.without_s] at hh
    split at hh
    · exact ⟨rfl, fun _ => rfl⟩
    · cases hh

-- loop.example/guardsonnets/impl.prunedIn
noncomputable def I.prunedIn_T : List (Nat × D.Spec) := [(55, I.allOf_s), (76, I.leafIn_s), (77, I.without_s)]
def I.prunedIn_ann : Nat → List Nat × List Nat
  | 3 => ([0, 3, 4], [3])
  | _ => ([], [])
noncomputable def I.prunedIn_F (args : List V) (h : List E) (κ : V → List E → R) : R := funC TD (tableK I.prunedIn_T) I.prunedIn_ann (drawOk (tableP I.prunedIn_T)) FUEL Try.f63 args h κ
noncomputable def I.prunedIn_L3 (n : Nat) (σ : St) (k : X → St → R) : R := iterC 0 (fun σ k => denC TD (tableK I.prunedIn_T) I.prunedIn_ann (drawOk (tableP I.prunedIn_T)) 0 FUEL ((findLoop 3 (Try.f63.body.getD .skip)).getD .skip) σ k) [0, 3, 4] [3] n σ k
noncomputable def I.prunedIn_k3 (κ : V → List E → R) : X → St → R := (afterC TD (tableK I.prunedIn_T) I.prunedIn_ann (drawOk (tableP I.prunedIn_T)) 0 FUEL 3 (Try.f63.body.getD .skip) (finC TD 0 Try.f63 κ)).getD (fun _ _ => none)
noncomputable def I.prunedIn_step3 {α : Type} (x0 : List Int) (x3 : Int) (x4 : Int) (next_ : Int × Int → α) (out0_ : Int → α) (fail_ : α) : α :=
  (bif decide (x4 ≥ 0) then (optC (I.without_t x3 x4) (fun c_3 => (optC (I.leafIn_t x0 c_3) (fun c_4 => (next_ (c_3, c_4))) fail_)) fail_) else (out0_ x3))
theorem I.prunedIn_step3_nat {α γ : Type} (g : α → γ) (x0 : List Int) (x3 : Int) (x4 : Int) (next_ : Int × Int → α) (out0_ : Int → α) (fail_ : α) : g (I.prunedIn_step3 x0 x3 x4 next_ out0_ fail_) = I.prunedIn_step3 x0 x3 x4 (fun s => g (next_ s)) (fun d => g (out0_ d)) (g fail_) := by
  unfold I.prunedIn_step3; simp only [apply_cnd g, apply_optC g, apply_sumC g]
noncomputable def I.prunedIn_run3 (x0 : List Int) : Nat → Int × Int → Option (Int)
  | 0, _ => none
  | n + 1, s_ => I.prunedIn_step3 x0 s_.1 s_.2 (I.prunedIn_run3 x0 n) (fun d => some d) none
theorem I.prunedIn_L3_run (x0 : List Int) (n : Nat) (s_ : Int × Int) (k : X → St → R) : I.prunedIn_L3 n { n := 19, t := [(0, (.ro false (.ints .i64 x0))), (3, (.int .i64 s_.1)), (4, (.int .i64 s_.2))], h := [] } k = optC (I.prunedIn_run3 x0 n s_) (fun (r : Int) => k (.exit 0) { n := 19, t := [(3, (.int .i64 r))], h := [] }) none := by
  induction n generalizing s_ with
  | zero => rfl
  | succ n ih =>
    have hu : I.prunedIn_L3 (n + 1) { n := 19, t := [(0, (.ro false (.ints .i64 x0))), (3, (.int .i64 s_.1)), (4, (.int .i64 s_.2))], h := [] } k = I.prunedIn_step3 x0 s_.1 s_.2 (fun s_ => I.prunedIn_L3 n { n := 19, t := [(0, (.ro false (.ints .i64 x0))), (3, (.int .i64 s_.1)), (4, (.int .i64 s_.2))], h := [] } k) (fun d => k (.exit 0) { n := 19, t := [(3, (.int .i64 d))], h := [] }) none := by
      kernel_rfl
    have hs : (fun s_ : Int × Int => I.prunedIn_L3 n { n := 19, t := [(0, (.ro false (.ints .i64 x0))), (3, (.int .i64 s_.1)), (4, (.int .i64 s_.2))], h := [] } k) = fun s_ => optC (I.prunedIn_run3 x0 n s_) (fun (r : Int) => k (.exit 0) { n := 19, t := [(3, (.int .i64 r))], h := [] }) none := funext ih
    rw [hu, hs]
    exact (I.prunedIn_step3_nat (fun o => optC o (fun (r : Int) => k (.exit 0) { n := 19, t := [(3, (.int .i64 r))], h := [] }) none) x0 s_.1 s_.2 (I.prunedIn_run3 x0 n) (fun d => some d) none).symm
noncomputable def I.prunedIn_tree {α : Type} (net : List Int) (leaf0_ : Int → α) (fail_ : α) : α :=
  (optC (I.allOf_t net) (fun c_1 => (optC (I.leafIn_t net c_1) (fun c_2 => (optC (I.prunedIn_run3 net FUEL (c_1, c_2)) (fun qy_5 => (leaf0_ qy_5)) fail_)) fail_)) fail_)
theorem I.prunedIn_tree_nat {α γ : Type} (g : α → γ) (net : List Int) (leaf0_ : Int → α) (fail_ : α) : g (I.prunedIn_tree net leaf0_ fail_) = I.prunedIn_tree net (fun d => g (leaf0_ d)) (g fail_) := by
  unfold I.prunedIn_tree; simp only [apply_cnd g, apply_optC g, apply_sumC g]
noncomputable def I.prunedIn_t (net : List Int) : Option (Int) := I.prunedIn_tree net (fun d => some d) none
theorem I.prunedIn_den (net : List Int) (κ : V → List E → R) : I.prunedIn_F [.ro false (.ints .i64 net)] [] κ = optC (I.prunedIn_t net) (fun (r : Int) => κ (.int .i64 r) []) none := by
  have hu : I.prunedIn_F [.ro false (.ints .i64 net)] [] κ = I.prunedIn_tree net (fun d => κ (.int .i64 d) []) none := by
    refine Eq.trans (show I.prunedIn_F [.ro false (.ints .i64 net)] [] κ = (optC (I.allOf_t net) (fun c_1 => (optC (I.leafIn_t net c_1) (fun c_2 => (I.prunedIn_L3 FUEL { n := 19, t := [(0, (.ro false (.ints .i64 net))), (3, (.int .i64 c_1)), (4, (.int .i64 c_2))], h := [] } (I.prunedIn_k3 κ))) none)) none) by kernel_rfl) ?_
    refine optC_congr (fun c_1 => ?_)
    refine optC_congr (fun c_2 => ?_)
    refine (I.prunedIn_L3_run net FUEL (c_1, c_2) (I.prunedIn_k3 κ)).trans (optC_congr (fun qy_5 => ?_))
    kernel_rfl
  rw [hu]
  exact (I.prunedIn_tree_nat (fun o => optC o (fun (r : Int) => κ (.int .i64 r) []) none) net (fun d => some d) none).symm
noncomputable def I.prunedIn_s : D.Spec where
  keep := false
  pure := true
  ds := [.int .i64]
  sp := fun args h κ => match args, h with
    | [.ro false (.ints .i64 net)], [] => optC (I.prunedIn_t net) (fun (r : Int) => κ (.int .i64 r) []) none
    | _, _ => none
theorem I.prunedIn_ok : SpecOk Try.prog 63 I.prunedIn_s := by
  refine SpecOk.of TDok mixed (T := I.prunedIn_T) ?_ (ann := I.prunedIn_ann) Try.func63 rfl (by decide +kernel) ?_ ?_ ?_
  · intro p hp
    simp only [I.prunedIn_T, List.mem_cons, List.not_mem_nil, or_false] at hp
    rcases hp with rfl | rfl | rfl
    · exact I.allOf_ok
    · exact I.leafIn_ok
    · exact I.without_ok
  · intro args h κ r hh
    simp only [I.prunedIn_s] at hh
    split at hh
    · exact (I.prunedIn_den _ κ).trans hh
    · cases hh
  · intro args h κ r hh
    simp only [I.prunedIn_s] at hh ⊢
    split at hh
    · exact optC_law2 (F := fun (r : Int) κ => κ (.int .i64 r) []) (fun b κ r hb => ⟨_, _, hb, fun _ => rfl⟩) hh
    · cases hh
  · intro _ args h κ r hh
    simp only [I.prunedIn_s] at hh
    split at hh
    · exact ⟨rfl, fun _ => rfl⟩
    · cases hh

-- loop.example/guardsonnets/impl.ForestOk
noncomputable def I.ForestOk_T : List (Nat × D.Spec) := [(27, I.NetOk_s), (63, I.prunedIn_s)]
def I.ForestOk_ann : Nat → List Nat × List Nat
  | _ => ([], [])
noncomputable def I.ForestOk_F (args : List V) (h : List E) (κ : V → List E → R) : R := funC TD (tableK I.ForestOk_T) I.ForestOk_ann (drawOk (tableP I.ForestOk_T)) FUEL Try.f30 args h κ
noncomputable def I.ForestOk_tree {α : Type} (net : List Int) (leaf0_ : Bool → α) (fail_ : α) : α :=
  (optC (I.NetOk_t net) (fun c_1 => (bif c_1 then (optC (I.prunedIn_t net) (fun c_2 => (leaf0_ (c_2 == 0))) fail_) else (leaf0_ false))) fail_)
theorem I.ForestOk_tree_nat {α γ : Type} (g : α → γ) (net : List Int) (leaf0_ : Bool → α) (fail_ : α) : g (I.ForestOk_tree net leaf0_ fail_) = I.ForestOk_tree net (fun d => g (leaf0_ d)) (g fail_) := by
  unfold I.ForestOk_tree; simp only [apply_cnd g, apply_optC g, apply_sumC g]
noncomputable def I.ForestOk_t (net : List Int) : Option (Bool) := I.ForestOk_tree net (fun d => some d) none
theorem I.ForestOk_den (net : List Int) (κ : V → List E → R) : I.ForestOk_F [.ro false (.ints .i64 net)] [] κ = optC (I.ForestOk_t net) (fun (r : Bool) => κ (.bool r) []) none := by
  have hu : I.ForestOk_F [.ro false (.ints .i64 net)] [] κ = I.ForestOk_tree net (fun d => κ (.bool d) []) none := by
    kernel_rfl
  rw [hu]
  exact (I.ForestOk_tree_nat (fun o => optC o (fun (r : Bool) => κ (.bool r) []) none) net (fun d => some d) none).symm
noncomputable def I.ForestOk_s : D.Spec where
  keep := false
  pure := true
  ds := [.int .i64]
  sp := fun args h κ => match args, h with
    | [.ro false (.ints .i64 net)], [] => optC (I.ForestOk_t net) (fun (r : Bool) => κ (.bool r) []) none
    | _, _ => none
theorem I.ForestOk_ok : SpecOk Try.prog 30 I.ForestOk_s := by
  refine SpecOk.of TDok mixed (T := I.ForestOk_T) ?_ (ann := I.ForestOk_ann) Try.func30 rfl (by decide +kernel) ?_ ?_ ?_
  · intro p hp
    simp only [I.ForestOk_T, List.mem_cons, List.not_mem_nil, or_false] at hp
    rcases hp with rfl | rfl
    · exact I.NetOk_ok
    · exact I.prunedIn_ok
  · intro args h κ r hh
    simp only [I.ForestOk_s] at hh
    split at hh
    · exact (I.ForestOk_den _ κ).trans hh
    · cases hh
  · intro args h κ r hh
    simp only [I.ForestOk_s] at hh ⊢
    split at hh
    · exact optC_law2 (F := fun (r : Bool) κ => κ (.bool r) []) (fun b κ r hb => ⟨_, _, hb, fun _ => rfl⟩) hh
    · cases hh
  · intro _ args h κ r hh
    simp only [I.ForestOk_s] at hh
    split at hh
    · exact ⟨rfl, fun _ => rfl⟩
    · cases hh

-- loop.example/guardsonnets/laws.FnMostPacked
noncomputable def L.FnMostPacked_T : List (Nat × D.Spec) := [(24, S.DrawMostPacked_s), (25, I.MostPacked_s), (26, S.MostPacked_s), (27, I.NetOk_s), (19, L.alive_s), (28, I.FewestWatch_s), (29, I.PartMany_s), (30, I.ForestOk_s)]
def L.FnMostPacked_ann : Nat → List Nat × List Nat
  | _ => ([], [])
noncomputable def L.FnMostPacked_F (args : List V) (h : List E) (κ : V → List E → R) : R := funC TD (tableK L.FnMostPacked_T) L.FnMostPacked_ann (drawOk (tableP L.FnMostPacked_T)) FUEL Try.f5 args h κ
noncomputable def L.FnMostPacked_tree {α : Type} (code : List Int) (leaf0_ : Bool → α) (fail_ : α) : α :=
  (bif decide ((↑code.length : Int) > 1048576) then (leaf0_ true) else (optC (S.DrawMostPacked_t code) (fun c_1 => (optC (I.MostPacked_t c_1) (fun c_2 => (optC (S.MostPacked_t c_1) (fun c_3 => (bif !c_2 == c_3 then (leaf0_ false) else (bif decide (c_2 < 0) then (bif c_2 == -1 then (optC (I.NetOk_t c_1) (fun c_4 => (bif !c_4 then (optC (L.alive_t) (fun c_5 => (leaf0_ c_5)) fail_) else (leaf0_ false))) fail_) else (leaf0_ false)) else (optC (I.FewestWatch_t c_1) (fun c_6 => (bif decide (c_2 ≤ c_6) then (optC (I.PartMany_t c_1) (fun c_7 => (bif decide (c_2 ≥ c_7) then (optC (I.ForestOk_t c_1) (fun c_8 => (bif !c_8 then (leaf0_ true) else (leaf0_ (c_2 == c_6)))) fail_) else (leaf0_ false))) fail_) else (leaf0_ false))) fail_)))) fail_)) fail_)) fail_))
theorem L.FnMostPacked_tree_nat {α γ : Type} (g : α → γ) (code : List Int) (leaf0_ : Bool → α) (fail_ : α) : g (L.FnMostPacked_tree code leaf0_ fail_) = L.FnMostPacked_tree code (fun d => g (leaf0_ d)) (g fail_) := by
  unfold L.FnMostPacked_tree; simp only [apply_cnd g, apply_optC g, apply_sumC g]
noncomputable def L.FnMostPacked_t (code : List Int) : Option (Bool) := L.FnMostPacked_tree code (fun d => some d) none
theorem L.FnMostPacked_den (code : List Int) (κ : V → List E → R) : L.FnMostPacked_F [.ro true (.ints .u8 code)] [] κ = optC (L.FnMostPacked_t code) (fun (r : Bool) => κ (.bool r) []) none := by
  have hu : L.FnMostPacked_F [.ro true (.ints .u8 code)] [] κ = L.FnMostPacked_tree code (fun d => κ (.bool d) []) none := by
    kernel_rfl
  rw [hu]
  exact (L.FnMostPacked_tree_nat (fun o => optC o (fun (r : Bool) => κ (.bool r) []) none) code (fun d => some d) none).symm
noncomputable def L.FnMostPacked_s : D.Spec where
  keep := true
  pure := true
  ds := [.int .u8]
  sp := fun args h κ => match args, h with
    | [.ro true (.ints .u8 code)], [] => optC (L.FnMostPacked_t code) (fun (r : Bool) => κ (.bool r) []) none
    | _, _ => none
theorem L.FnMostPacked_ok : SpecOk Try.prog 5 L.FnMostPacked_s := by
  refine SpecOk.of TDok mixed (T := L.FnMostPacked_T) ?_ (ann := L.FnMostPacked_ann) Try.func5 rfl (by decide +kernel) ?_ ?_ ?_
  · intro p hp
    simp only [L.FnMostPacked_T, List.mem_cons, List.not_mem_nil, or_false] at hp
    rcases hp with rfl | rfl | rfl | rfl | rfl | rfl | rfl | rfl
    · exact S.DrawMostPacked_ok
    · exact I.MostPacked_ok
    · exact S.MostPacked_ok
    · exact I.NetOk_ok
    · exact L.alive_ok
    · exact I.FewestWatch_ok
    · exact I.PartMany_ok
    · exact I.ForestOk_ok
  · intro args h κ r hh
    simp only [L.FnMostPacked_s] at hh
    split at hh
    · exact (L.FnMostPacked_den _ κ).trans hh
    · cases hh
  · intro args h κ r hh
    simp only [L.FnMostPacked_s] at hh ⊢
    split at hh
    · exact optC_law2 (F := fun (r : Bool) κ => κ (.bool r) []) (fun b κ r hb => ⟨_, _, hb, fun _ => rfl⟩) hh
    · cases hh
  · intro _ args h κ r hh
    simp only [L.FnMostPacked_s] at hh
    split at hh
    · exact ⟨rfl, fun _ => rfl⟩
    · cases hh

-- loop.example/guardsonnets/laws.FnExactMostPacked
noncomputable def L.FnExactMostPacked_T : List (Nat × D.Spec) := [(22, L.toIntS_s), (26, S.MostPacked_s), (25, I.MostPacked_s), (23, L.eqIntS_s)]
def L.FnExactMostPacked_ann : Nat → List Nat × List Nat
  | _ => ([], [])
noncomputable def L.FnExactMostPacked_F (args : List V) (h : List E) (κ : V → List E → R) : R := funC TD (tableK L.FnExactMostPacked_T) L.FnExactMostPacked_ann (drawOk (tableP L.FnExactMostPacked_T)) FUEL Try.f6 args h κ
noncomputable def L.FnExactMostPacked_tree {α : Type} (aNet : List Int) (leaf0_ : Bool → α) (fail_ : α) : α :=
  (bif decide ((↑aNet.length : Int) > 1048576) then (leaf0_ true) else (optC (L.toIntS_t aNet) (fun c_1 => (optC (S.MostPacked_t c_1) (fun c_2 => (optC (L.toIntS_t aNet) (fun c_3 => (optC (I.MostPacked_t c_3) (fun c_4 => (bif !c_4 == c_2 then (leaf0_ false) else (optC (L.toIntS_t aNet) (fun c_5 => (optC (L.eqIntS_t c_3 c_5) (fun c_6 => (bif !c_6 then (leaf0_ false) else (leaf0_ true))) fail_)) fail_))) fail_)) fail_)) fail_)) fail_))
theorem L.FnExactMostPacked_tree_nat {α γ : Type} (g : α → γ) (aNet : List Int) (leaf0_ : Bool → α) (fail_ : α) : g (L.FnExactMostPacked_tree aNet leaf0_ fail_) = L.FnExactMostPacked_tree aNet (fun d => g (leaf0_ d)) (g fail_) := by
  unfold L.FnExactMostPacked_tree; simp only [apply_cnd g, apply_optC g, apply_sumC g]
noncomputable def L.FnExactMostPacked_t (aNet : List Int) : Option (Bool) := L.FnExactMostPacked_tree aNet (fun d => some d) none
theorem L.FnExactMostPacked_den (aNet : List Int) (κ : V → List E → R) : L.FnExactMostPacked_F [.ro true (.ints .i64 aNet)] [] κ = optC (L.FnExactMostPacked_t aNet) (fun (r : Bool) => κ (.bool r) []) none := by
  have hu : L.FnExactMostPacked_F [.ro true (.ints .i64 aNet)] [] κ = L.FnExactMostPacked_tree aNet (fun d => κ (.bool d) []) none := by
    kernel_rfl
  rw [hu]
  exact (L.FnExactMostPacked_tree_nat (fun o => optC o (fun (r : Bool) => κ (.bool r) []) none) aNet (fun d => some d) none).symm
noncomputable def L.FnExactMostPacked_s : D.Spec where
  keep := true
  pure := true
  ds := [.int .i64]
  sp := fun args h κ => match args, h with
    | [.ro true (.ints .i64 aNet)], [] => optC (L.FnExactMostPacked_t aNet) (fun (r : Bool) => κ (.bool r) []) none
    | _, _ => none
theorem L.FnExactMostPacked_ok : SpecOk Try.prog 6 L.FnExactMostPacked_s := by
  refine SpecOk.of TDok mixed (T := L.FnExactMostPacked_T) ?_ (ann := L.FnExactMostPacked_ann) Try.func6 rfl (by decide +kernel) ?_ ?_ ?_
  · intro p hp
    simp only [L.FnExactMostPacked_T, List.mem_cons, List.not_mem_nil, or_false] at hp
    rcases hp with rfl | rfl | rfl | rfl
    · exact L.toIntS_ok
    · exact S.MostPacked_ok
    · exact I.MostPacked_ok
    · exact L.eqIntS_ok
  · intro args h κ r hh
    simp only [L.FnExactMostPacked_s] at hh
    split at hh
    · exact (L.FnExactMostPacked_den _ κ).trans hh
    · cases hh
  · intro args h κ r hh
    simp only [L.FnExactMostPacked_s] at hh ⊢
    split at hh
    · exact optC_law2 (F := fun (r : Bool) κ => κ (.bool r) []) (fun b κ r hb => ⟨_, _, hb, fun _ => rfl⟩) hh
    · cases hh
  · intro _ args h κ r hh
    simp only [L.FnExactMostPacked_s] at hh
    split at hh
    · exact ⟨rfl, fun _ => rfl⟩
    · cases hh

-- loop.example/guardsonnets/spec.DrawEfficientOk
noncomputable def S.DrawEfficientOk_T : List (Nat × D.Spec) := [(46, S.l20Open_s), (45, S.l20Packed_s)]
def S.DrawEfficientOk_ann : Nat → List Nat × List Nat
  | _ => ([], [])
noncomputable def S.DrawEfficientOk_F (args : List V) (h : List E) (κ : V → List E → R) : R := funC TD (tableK S.DrawEfficientOk_T) S.DrawEfficientOk_ann (drawOk (tableP S.DrawEfficientOk_T)) FUEL Try.f31 args h κ
noncomputable def S.DrawEfficientOk_tree {α : Type} (code : List Int) (leaf0_ : Int × (List Int) → α) (fail_ : α) : α :=
  (optC (S.l20Open_t code) (fun c_1 => (optC (S.l20Packed_t c_1.fst c_1.snd 12) (fun c_2 => (leaf0_ (c_2.fst, c_2.snd.snd.snd))) fail_)) fail_)
theorem S.DrawEfficientOk_tree_nat {α γ : Type} (g : α → γ) (code : List Int) (leaf0_ : Int × (List Int) → α) (fail_ : α) : g (S.DrawEfficientOk_tree code leaf0_ fail_) = S.DrawEfficientOk_tree code (fun d => g (leaf0_ d)) (g fail_) := by
  unfold S.DrawEfficientOk_tree; simp only [apply_cnd g, apply_optC g, apply_sumC g]
noncomputable def S.DrawEfficientOk_t (code : List Int) : Option (Int × (List Int)) := S.DrawEfficientOk_tree code (fun d => some d) none
theorem S.DrawEfficientOk_den (code : List Int) (κ : V → List E → R) : S.DrawEfficientOk_F [.ro true (.ints .u8 code)] [] κ = optC (S.DrawEfficientOk_t code) (fun (r : Int × (List Int)) => κ (.tup [(.own 0), (.int .i64 r.1)]) [.row (.ints .i64 r.2)]) none := by
  have hu : S.DrawEfficientOk_F [.ro true (.ints .u8 code)] [] κ = S.DrawEfficientOk_tree code (fun d => κ (.tup [(.own 0), (.int .i64 d.1)]) [.row (.ints .i64 d.2)]) none := by
    kernel_rfl
  rw [hu]
  exact (S.DrawEfficientOk_tree_nat (fun o => optC o (fun (r : Int × (List Int)) => κ (.tup [(.own 0), (.int .i64 r.1)]) [.row (.ints .i64 r.2)]) none) code (fun d => some d) none).symm
noncomputable def S.DrawEfficientOk_s : D.Spec where
  keep := true
  pure := false
  ds := [.int .u8]
  sp := fun args h κ => match args, h with
    | [.ro true (.ints .u8 code)], [] => optC (S.DrawEfficientOk_t code) (fun (r : Int × (List Int)) => κ (.tup [(.own 0), (.int .i64 r.1)]) [.row (.ints .i64 r.2)]) none
    | _, _ => none
theorem S.DrawEfficientOk_ok : SpecOk Try.prog 31 S.DrawEfficientOk_s := by
  refine SpecOk.of TDok mixed (T := S.DrawEfficientOk_T) ?_ (ann := S.DrawEfficientOk_ann) Try.func31 rfl (by decide +kernel) ?_ ?_ ?_
  · intro p hp
    simp only [S.DrawEfficientOk_T, List.mem_cons, List.not_mem_nil, or_false] at hp
    rcases hp with rfl | rfl
    · exact S.l20Open_ok
    · exact S.l20Packed_ok
  · intro args h κ r hh
    simp only [S.DrawEfficientOk_s] at hh
    split at hh
    · exact (S.DrawEfficientOk_den _ κ).trans hh
    · cases hh
  · intro args h κ r hh
    simp only [S.DrawEfficientOk_s] at hh ⊢
    split at hh
    · exact optC_law2 (F := fun (r : Int × (List Int)) κ => κ (.tup [(.own 0), (.int .i64 r.1)]) [.row (.ints .i64 r.2)]) (fun b κ r hb => ⟨_, _, hb, fun _ => rfl⟩) hh
    · cases hh
  · intro hh; cases hh

-- loop.example/guardsonnets/impl.efficientIn
noncomputable def I.efficientIn_T : List (Nat × D.Spec) := [(48, I.packedIn_s), (66, I.watchIn_s)]
def I.efficientIn_ann : Nat → List Nat × List Nat
  | _ => ([], [])
noncomputable def I.efficientIn_F (args : List V) (h : List E) (κ : V → List E → R) : R := funC TD (tableK I.efficientIn_T) I.efficientIn_ann (drawOk (tableP I.efficientIn_T)) FUEL Try.f64 args h κ
noncomputable def I.efficientIn_tree {α : Type} (net : List Int) (set_ : Int) (leaf0_ : Bool → α) (fail_ : α) : α :=
  (optC (I.packedIn_t net set_) (fun c_1 => (bif c_1 then (optC (I.watchIn_t net set_) (fun c_2 => (leaf0_ c_2)) fail_) else (leaf0_ false))) fail_)
theorem I.efficientIn_tree_nat {α γ : Type} (g : α → γ) (net : List Int) (set_ : Int) (leaf0_ : Bool → α) (fail_ : α) : g (I.efficientIn_tree net set_ leaf0_ fail_) = I.efficientIn_tree net set_ (fun d => g (leaf0_ d)) (g fail_) := by
  unfold I.efficientIn_tree; simp only [apply_cnd g, apply_optC g, apply_sumC g]
noncomputable def I.efficientIn_t (net : List Int) (set_ : Int) : Option (Bool) := I.efficientIn_tree net set_ (fun d => some d) none
theorem I.efficientIn_den (net : List Int) (set_ : Int) (κ : V → List E → R) : I.efficientIn_F [.ro false (.ints .i64 net), .int .i64 set_] [] κ = optC (I.efficientIn_t net set_) (fun (r : Bool) => κ (.bool r) []) none := by
  have hu : I.efficientIn_F [.ro false (.ints .i64 net), .int .i64 set_] [] κ = I.efficientIn_tree net set_ (fun d => κ (.bool d) []) none := by
    kernel_rfl
  rw [hu]
  exact (I.efficientIn_tree_nat (fun o => optC o (fun (r : Bool) => κ (.bool r) []) none) net set_ (fun d => some d) none).symm
noncomputable def I.efficientIn_s : D.Spec where
  keep := false
  pure := true
  ds := [.int .i64, .invalid]
  sp := fun args h κ => match args, h with
    | [.ro false (.ints .i64 net), .int .i64 set_], [] => optC (I.efficientIn_t net set_) (fun (r : Bool) => κ (.bool r) []) none
    | _, _ => none
theorem I.efficientIn_ok : SpecOk Try.prog 64 I.efficientIn_s := by
  refine SpecOk.of TDok mixed (T := I.efficientIn_T) ?_ (ann := I.efficientIn_ann) Try.func64 rfl (by decide +kernel) ?_ ?_ ?_
  · intro p hp
    simp only [I.efficientIn_T, List.mem_cons, List.not_mem_nil, or_false] at hp
    rcases hp with rfl | rfl
    · exact I.packedIn_ok
    · exact I.watchIn_ok
  · intro args h κ r hh
    simp only [I.efficientIn_s] at hh
    split at hh
    · exact (I.efficientIn_den _ _ κ).trans hh
    · cases hh
  · intro args h κ r hh
    simp only [I.efficientIn_s] at hh ⊢
    split at hh
    · exact optC_law2 (F := fun (r : Bool) κ => κ (.bool r) []) (fun b κ r hb => ⟨_, _, hb, fun _ => rfl⟩) hh
    · cases hh
  · intro _ args h κ r hh
    simp only [I.efficientIn_s] at hh
    split at hh
    · exact ⟨rfl, fun _ => rfl⟩
    · cases hh

-- loop.example/guardsonnets/impl.EfficientOk
noncomputable def I.EfficientOk_T : List (Nat × D.Spec) := [(27, I.NetOk_s), (47, I.setIn_s), (64, I.efficientIn_s)]
def I.EfficientOk_ann : Nat → List Nat × List Nat
  | _ => ([], [])
noncomputable def I.EfficientOk_F (args : List V) (h : List E) (κ : V → List E → R) : R := funC TD (tableK I.EfficientOk_T) I.EfficientOk_ann (drawOk (tableP I.EfficientOk_T)) FUEL Try.f32 args h κ
noncomputable def I.EfficientOk_tree {α : Type} (net : List Int) (set_ : Int) (leaf0_ : Bool → α) (fail_ : α) : α :=
  (optC (I.NetOk_t net) (fun c_1 => (bif c_1 then (optC (I.setIn_t net set_) (fun c_2 => (bif c_2 then (optC (I.efficientIn_t net set_) (fun c_3 => (leaf0_ c_3)) fail_) else (leaf0_ false))) fail_) else (leaf0_ false))) fail_)
theorem I.EfficientOk_tree_nat {α γ : Type} (g : α → γ) (net : List Int) (set_ : Int) (leaf0_ : Bool → α) (fail_ : α) : g (I.EfficientOk_tree net set_ leaf0_ fail_) = I.EfficientOk_tree net set_ (fun d => g (leaf0_ d)) (g fail_) := by
  unfold I.EfficientOk_tree; simp only [apply_cnd g, apply_optC g, apply_sumC g]
noncomputable def I.EfficientOk_t (net : List Int) (set_ : Int) : Option (Bool) := I.EfficientOk_tree net set_ (fun d => some d) none
theorem I.EfficientOk_den (net : List Int) (set_ : Int) (κ : V → List E → R) : I.EfficientOk_F [.ro false (.ints .i64 net), .int .i64 set_] [] κ = optC (I.EfficientOk_t net set_) (fun (r : Bool) => κ (.bool r) []) none := by
  have hu : I.EfficientOk_F [.ro false (.ints .i64 net), .int .i64 set_] [] κ = I.EfficientOk_tree net set_ (fun d => κ (.bool d) []) none := by
    kernel_rfl
  rw [hu]
  exact (I.EfficientOk_tree_nat (fun o => optC o (fun (r : Bool) => κ (.bool r) []) none) net set_ (fun d => some d) none).symm
noncomputable def I.EfficientOk_s : D.Spec where
  keep := false
  pure := true
  ds := [.int .i64, .invalid]
  sp := fun args h κ => match args, h with
    | [.ro false (.ints .i64 net), .int .i64 set_], [] => optC (I.EfficientOk_t net set_) (fun (r : Bool) => κ (.bool r) []) none
    | _, _ => none
theorem I.EfficientOk_ok : SpecOk Try.prog 32 I.EfficientOk_s := by
  refine SpecOk.of TDok mixed (T := I.EfficientOk_T) ?_ (ann := I.EfficientOk_ann) Try.func32 rfl (by decide +kernel) ?_ ?_ ?_
  · intro p hp
    simp only [I.EfficientOk_T, List.mem_cons, List.not_mem_nil, or_false] at hp
    rcases hp with rfl | rfl | rfl
    · exact I.NetOk_ok
    · exact I.setIn_ok
    · exact I.efficientIn_ok
  · intro args h κ r hh
    simp only [I.EfficientOk_s] at hh
    split at hh
    · exact (I.EfficientOk_den _ _ κ).trans hh
    · cases hh
  · intro args h κ r hh
    simp only [I.EfficientOk_s] at hh ⊢
    split at hh
    · exact optC_law2 (F := fun (r : Bool) κ => κ (.bool r) []) (fun b κ r hb => ⟨_, _, hb, fun _ => rfl⟩) hh
    · cases hh
  · intro _ args h κ r hh
    simp only [I.EfficientOk_s] at hh
    split at hh
    · exact ⟨rfl, fun _ => rfl⟩
    · cases hh

-- loop.example/guardsonnets/spec.l1Near
noncomputable def S.l1Near_T : List (Nat × D.Spec) := []
def S.l1Near_ann : Nat → List Nat × List Nat
  | 3 => ([0, 1, 5, 6], [5])
  | _ => ([], [])
noncomputable def S.l1Near_F (args : List V) (h : List E) (κ : V → List E → R) : R := funC TD (tableK S.l1Near_T) S.l1Near_ann (drawOk (tableP S.l1Near_T)) FUEL Try.f78 args h κ
noncomputable def S.l1Near_L3 (n : Nat) (σ : St) (k : X → St → R) : R := iterC 0 (fun σ k => denC TD (tableK S.l1Near_T) S.l1Near_ann (drawOk (tableP S.l1Near_T)) 0 FUEL ((findLoop 3 (Try.f78.body.getD .skip)).getD .skip) σ k) [0, 1, 5, 6] [5] n σ k
noncomputable def S.l1Near_k3 (κ : V → List E → R) : X → St → R := (afterC TD (tableK S.l1Near_T) S.l1Near_ann (drawOk (tableP S.l1Near_T)) 0 FUEL 3 (Try.f78.body.getD .skip) (finC TD 0 Try.f78 κ)).getD (fun _ _ => none)
noncomputable def S.l1Near_step3 {α : Type} (x0 : List Int) (x1 : Int) (x5 : Int) (x6 : Int) (next_ : Int × Int → α) (out0_ : Int → α) (fail_ : α) : α :=
  (bif decide (x6 < (↑x0.length : Int)) then (bif decide (x6 < 0) then fail_ else (bif (x1.fdiv (2 ^ min x6.toNat IntKind.i64.bits)).tmod 2 == 1 then (bif decide (0 ≤ x6) && decide (x6 < (↑x0.length : Int)) then (next_ (bits BinOp.or IntKind.i64 x5 (eli x0 x6.toNat), IntKind.i64.wrap (x6 + 1))) else fail_) else (next_ (x5, IntKind.i64.wrap (x6 + 1))))) else (out0_ x5))
theorem S.l1Near_step3_nat {α γ : Type} (g : α → γ) (x0 : List Int) (x1 : Int) (x5 : Int) (x6 : Int) (next_ : Int × Int → α) (out0_ : Int → α) (fail_ : α) : g (S.l1Near_step3 x0 x1 x5 x6 next_ out0_ fail_) = S.l1Near_step3 x0 x1 x5 x6 (fun s => g (next_ s)) (fun d => g (out0_ d)) (g fail_) := by
  unfold S.l1Near_step3; simp only [apply_cnd g, apply_optC g, apply_sumC g]
noncomputable def S.l1Near_run3 (x0 : List Int) (x1 : Int) : Nat → Int × Int → Option (Int)
  | 0, _ => none
  | n + 1, s_ => S.l1Near_step3 x0 x1 s_.1 s_.2 (S.l1Near_run3 x0 x1 n) (fun d => some d) none
theorem S.l1Near_L3_run (x0 : List Int) (x1 : Int) (n : Nat) (s_ : Int × Int) (k : X → St → R) : S.l1Near_L3 n { n := 25, t := [(0, (.ro false (.ints .i64 x0))), (1, (.int .i64 x1)), (5, (.int .i64 s_.1)), (6, (.int .i64 s_.2))], h := [] } k = optC (S.l1Near_run3 x0 x1 n s_) (fun (r : Int) => k (.exit 0) { n := 25, t := [(5, (.int .i64 r))], h := [] }) none := by
  induction n generalizing s_ with
  | zero => rfl
  | succ n ih =>
    have hu : S.l1Near_L3 (n + 1) { n := 25, t := [(0, (.ro false (.ints .i64 x0))), (1, (.int .i64 x1)), (5, (.int .i64 s_.1)), (6, (.int .i64 s_.2))], h := [] } k = S.l1Near_step3 x0 x1 s_.1 s_.2 (fun s_ => S.l1Near_L3 n { n := 25, t := [(0, (.ro false (.ints .i64 x0))), (1, (.int .i64 x1)), (5, (.int .i64 s_.1)), (6, (.int .i64 s_.2))], h := [] } k) (fun d => k (.exit 0) { n := 25, t := [(5, (.int .i64 d))], h := [] }) none := by
      kernel_rfl
    have hs : (fun s_ : Int × Int => S.l1Near_L3 n { n := 25, t := [(0, (.ro false (.ints .i64 x0))), (1, (.int .i64 x1)), (5, (.int .i64 s_.1)), (6, (.int .i64 s_.2))], h := [] } k) = fun s_ => optC (S.l1Near_run3 x0 x1 n s_) (fun (r : Int) => k (.exit 0) { n := 25, t := [(5, (.int .i64 r))], h := [] }) none := funext ih
    rw [hu, hs]
    exact (S.l1Near_step3_nat (fun o => optC o (fun (r : Int) => k (.exit 0) { n := 25, t := [(5, (.int .i64 r))], h := [] }) none) x0 x1 s_.1 s_.2 (S.l1Near_run3 x0 x1 n) (fun d => some d) none).symm
noncomputable def S.l1Near_tree {α : Type} (net : List Int) (set_ : Int) (leaf0_ : Int → α) (fail_ : α) : α :=
  (optC (S.l1Near_run3 net set_ FUEL (0, 0)) (fun qy_1 => (leaf0_ qy_1)) fail_)
theorem S.l1Near_tree_nat {α γ : Type} (g : α → γ) (net : List Int) (set_ : Int) (leaf0_ : Int → α) (fail_ : α) : g (S.l1Near_tree net set_ leaf0_ fail_) = S.l1Near_tree net set_ (fun d => g (leaf0_ d)) (g fail_) := by
  unfold S.l1Near_tree; simp only [apply_cnd g, apply_optC g, apply_sumC g]
noncomputable def S.l1Near_t (net : List Int) (set_ : Int) : Option (Int) := S.l1Near_tree net set_ (fun d => some d) none
theorem S.l1Near_den (net : List Int) (set_ : Int) (κ : V → List E → R) : S.l1Near_F [.ro false (.ints .i64 net), .int .i64 set_] [] κ = optC (S.l1Near_t net set_) (fun (r : Int) => κ (.int .i64 r) []) none := by
  have hu : S.l1Near_F [.ro false (.ints .i64 net), .int .i64 set_] [] κ = S.l1Near_tree net set_ (fun d => κ (.int .i64 d) []) none := by
    refine Eq.trans (show S.l1Near_F [.ro false (.ints .i64 net), .int .i64 set_] [] κ = (S.l1Near_L3 FUEL { n := 25, t := [(0, (.ro false (.ints .i64 net))), (1, (.int .i64 set_)), (5, (.int .i64 0)), (6, (.int .i64 0))], h := [] } (S.l1Near_k3 κ)) by kernel_rfl) ?_
    refine (S.l1Near_L3_run net set_ FUEL (0, 0) (S.l1Near_k3 κ)).trans (optC_congr (fun qy_1 => ?_))
    kernel_rfl
  rw [hu]
  exact (S.l1Near_tree_nat (fun o => optC o (fun (r : Int) => κ (.int .i64 r) []) none) net set_ (fun d => some d) none).symm
noncomputable def S.l1Near_s : D.Spec where
  keep := false
  pure := true
  ds := [.int .i64, .invalid]
  sp := fun args h κ => match args, h with
    | [.ro false (.ints .i64 net), .int .i64 set_], [] => optC (S.l1Near_t net set_) (fun (r : Int) => κ (.int .i64 r) []) none
    | _, _ => none
theorem S.l1Near_ok : SpecOk Try.prog 78 S.l1Near_s := by
  refine SpecOk.of TDok mixed (T := S.l1Near_T) ?_ (ann := S.l1Near_ann) Try.func78 rfl (by decide +kernel) ?_ ?_ ?_
  · intro p hp; cases hp
  · intro args h κ r hh
    simp only [S.l1Near_s] at hh
    split at hh
    · exact (S.l1Near_den _ _ κ).trans hh
    · cases hh
  · intro args h κ r hh
    simp only [S.l1Near_s] at hh ⊢
    split at hh
    · exact optC_law2 (F := fun (r : Int) κ => κ (.int .i64 r) []) (fun b κ r hb => ⟨_, _, hb, fun _ => rfl⟩) hh
    · cases hh
  · intro _ args h κ r hh
    simp only [S.l1Near_s] at hh
    split at hh
    · exact ⟨rfl, fun _ => rfl⟩
    · cases hh

-- loop.example/guardsonnets/spec.l2Watch
noncomputable def S.l2Watch_T : List (Nat × D.Spec) := [(78, S.l1Near_s)]
def S.l2Watch_ann : Nat → List Nat × List Nat
  | _ => ([], [])
noncomputable def S.l2Watch_F (args : List V) (h : List E) (κ : V → List E → R) : R := funC TD (tableK S.l2Watch_T) S.l2Watch_ann (drawOk (tableP S.l2Watch_T)) FUEL Try.f65 args h κ
noncomputable def S.l2Watch_tree {α : Type} (net : List Int) (set_ : Int) (leaf0_ : Bool → α) (fail_ : α) : α :=
  (optC (S.l1Near_t net set_) (fun c_1 => (leaf0_ (bits BinOp.or IntKind.i64 set_ c_1 == IntKind.i64.wrap (IntKind.i64.wrap (1 * 2 ^ min (↑net.length : Int).toNat IntKind.i64.bits) - 1)))) fail_)
theorem S.l2Watch_tree_nat {α γ : Type} (g : α → γ) (net : List Int) (set_ : Int) (leaf0_ : Bool → α) (fail_ : α) : g (S.l2Watch_tree net set_ leaf0_ fail_) = S.l2Watch_tree net set_ (fun d => g (leaf0_ d)) (g fail_) := by
  unfold S.l2Watch_tree; simp only [apply_cnd g, apply_optC g, apply_sumC g]
noncomputable def S.l2Watch_t (net : List Int) (set_ : Int) : Option (Bool) := S.l2Watch_tree net set_ (fun d => some d) none
theorem S.l2Watch_den (net : List Int) (set_ : Int) (κ : V → List E → R) : S.l2Watch_F [.ro false (.ints .i64 net), .int .i64 set_] [] κ = optC (S.l2Watch_t net set_) (fun (r : Bool) => κ (.bool r) []) none := by
  have hu : S.l2Watch_F [.ro false (.ints .i64 net), .int .i64 set_] [] κ = S.l2Watch_tree net set_ (fun d => κ (.bool d) []) none := by
    kernel_rfl
  rw [hu]
  exact (S.l2Watch_tree_nat (fun o => optC o (fun (r : Bool) => κ (.bool r) []) none) net set_ (fun d => some d) none).symm
noncomputable def S.l2Watch_s : D.Spec where
  keep := false
  pure := true
  ds := [.int .i64, .invalid]
  sp := fun args h κ => match args, h with
    | [.ro false (.ints .i64 net), .int .i64 set_], [] => optC (S.l2Watch_t net set_) (fun (r : Bool) => κ (.bool r) []) none
    | _, _ => none
theorem S.l2Watch_ok : SpecOk Try.prog 65 S.l2Watch_s := by
  refine SpecOk.of TDok mixed (T := S.l2Watch_T) ?_ (ann := S.l2Watch_ann) Try.func65 rfl (by decide +kernel) ?_ ?_ ?_
  · intro p hp
    simp only [S.l2Watch_T, List.mem_cons, List.not_mem_nil, or_false] at hp
    rcases hp with rfl
    · exact S.l1Near_ok
  · intro args h κ r hh
    simp only [S.l2Watch_s] at hh
    split at hh
    · exact (S.l2Watch_den _ _ κ).trans hh
    · cases hh
  · intro args h κ r hh
    simp only [S.l2Watch_s] at hh ⊢
    split at hh
    · exact optC_law2 (F := fun (r : Bool) κ => κ (.bool r) []) (fun b κ r hb => ⟨_, _, hb, fun _ => rfl⟩) hh
    · cases hh
  · intro _ args h κ r hh
    simp only [S.l2Watch_s] at hh
    split at hh
    · exact ⟨rfl, fun _ => rfl⟩
    · cases hh

-- loop.example/guardsonnets/spec.EfficientOk
noncomputable def S.EfficientOk_T : List (Nat × D.Spec) := [(17, S.PackedOk_s), (65, S.l2Watch_s)]
def S.EfficientOk_ann : Nat → List Nat × List Nat
  | _ => ([], [])
noncomputable def S.EfficientOk_F (args : List V) (h : List E) (κ : V → List E → R) : R := funC TD (tableK S.EfficientOk_T) S.EfficientOk_ann (drawOk (tableP S.EfficientOk_T)) FUEL Try.f33 args h κ
noncomputable def S.EfficientOk_tree {α : Type} (net : List Int) (set_ : Int) (leaf0_ : Bool → α) (fail_ : α) : α :=
  (optC (S.PackedOk_t net set_) (fun c_1 => (bif c_1 then (optC (S.l2Watch_t net set_) (fun c_2 => (leaf0_ c_2)) fail_) else (leaf0_ false))) fail_)
theorem S.EfficientOk_tree_nat {α γ : Type} (g : α → γ) (net : List Int) (set_ : Int) (leaf0_ : Bool → α) (fail_ : α) : g (S.EfficientOk_tree net set_ leaf0_ fail_) = S.EfficientOk_tree net set_ (fun d => g (leaf0_ d)) (g fail_) := by
  unfold S.EfficientOk_tree; simp only [apply_cnd g, apply_optC g, apply_sumC g]
noncomputable def S.EfficientOk_t (net : List Int) (set_ : Int) : Option (Bool) := S.EfficientOk_tree net set_ (fun d => some d) none
theorem S.EfficientOk_den (net : List Int) (set_ : Int) (κ : V → List E → R) : S.EfficientOk_F [.ro false (.ints .i64 net), .int .i64 set_] [] κ = optC (S.EfficientOk_t net set_) (fun (r : Bool) => κ (.bool r) []) none := by
  have hu : S.EfficientOk_F [.ro false (.ints .i64 net), .int .i64 set_] [] κ = S.EfficientOk_tree net set_ (fun d => κ (.bool d) []) none := by
    kernel_rfl
  rw [hu]
  exact (S.EfficientOk_tree_nat (fun o => optC o (fun (r : Bool) => κ (.bool r) []) none) net set_ (fun d => some d) none).symm
noncomputable def S.EfficientOk_s : D.Spec where
  keep := false
  pure := true
  ds := [.int .i64, .invalid]
  sp := fun args h κ => match args, h with
    | [.ro false (.ints .i64 net), .int .i64 set_], [] => optC (S.EfficientOk_t net set_) (fun (r : Bool) => κ (.bool r) []) none
    | _, _ => none
theorem S.EfficientOk_ok : SpecOk Try.prog 33 S.EfficientOk_s := by
  refine SpecOk.of TDok mixed (T := S.EfficientOk_T) ?_ (ann := S.EfficientOk_ann) Try.func33 rfl (by decide +kernel) ?_ ?_ ?_
  · intro p hp
    simp only [S.EfficientOk_T, List.mem_cons, List.not_mem_nil, or_false] at hp
    rcases hp with rfl | rfl
    · exact S.PackedOk_ok
    · exact S.l2Watch_ok
  · intro args h κ r hh
    simp only [S.EfficientOk_s] at hh
    split at hh
    · exact (S.EfficientOk_den _ _ κ).trans hh
    · cases hh
  · intro args h κ r hh
    simp only [S.EfficientOk_s] at hh ⊢
    split at hh
    · exact optC_law2 (F := fun (r : Bool) κ => κ (.bool r) []) (fun b κ r hb => ⟨_, _, hb, fun _ => rfl⟩) hh
    · cases hh
  · intro _ args h κ r hh
    simp only [S.EfficientOk_s] at hh
    split at hh
    · exact ⟨rfl, fun _ => rfl⟩
    · cases hh

-- loop.example/guardsonnets/impl.WatchOk
noncomputable def I.WatchOk_T : List (Nat × D.Spec) := [(27, I.NetOk_s), (47, I.setIn_s), (66, I.watchIn_s)]
def I.WatchOk_ann : Nat → List Nat × List Nat
  | _ => ([], [])
noncomputable def I.WatchOk_F (args : List V) (h : List E) (κ : V → List E → R) : R := funC TD (tableK I.WatchOk_T) I.WatchOk_ann (drawOk (tableP I.WatchOk_T)) FUEL Try.f34 args h κ
noncomputable def I.WatchOk_tree {α : Type} (net : List Int) (set_ : Int) (leaf0_ : Bool → α) (fail_ : α) : α :=
  (optC (I.NetOk_t net) (fun c_1 => (bif c_1 then (optC (I.setIn_t net set_) (fun c_2 => (bif c_2 then (optC (I.watchIn_t net set_) (fun c_3 => (leaf0_ c_3)) fail_) else (leaf0_ false))) fail_) else (leaf0_ false))) fail_)
theorem I.WatchOk_tree_nat {α γ : Type} (g : α → γ) (net : List Int) (set_ : Int) (leaf0_ : Bool → α) (fail_ : α) : g (I.WatchOk_tree net set_ leaf0_ fail_) = I.WatchOk_tree net set_ (fun d => g (leaf0_ d)) (g fail_) := by
  unfold I.WatchOk_tree; simp only [apply_cnd g, apply_optC g, apply_sumC g]
noncomputable def I.WatchOk_t (net : List Int) (set_ : Int) : Option (Bool) := I.WatchOk_tree net set_ (fun d => some d) none
theorem I.WatchOk_den (net : List Int) (set_ : Int) (κ : V → List E → R) : I.WatchOk_F [.ro false (.ints .i64 net), .int .i64 set_] [] κ = optC (I.WatchOk_t net set_) (fun (r : Bool) => κ (.bool r) []) none := by
  have hu : I.WatchOk_F [.ro false (.ints .i64 net), .int .i64 set_] [] κ = I.WatchOk_tree net set_ (fun d => κ (.bool d) []) none := by
    kernel_rfl
  rw [hu]
  exact (I.WatchOk_tree_nat (fun o => optC o (fun (r : Bool) => κ (.bool r) []) none) net set_ (fun d => some d) none).symm
noncomputable def I.WatchOk_s : D.Spec where
  keep := false
  pure := true
  ds := [.int .i64, .invalid]
  sp := fun args h κ => match args, h with
    | [.ro false (.ints .i64 net), .int .i64 set_], [] => optC (I.WatchOk_t net set_) (fun (r : Bool) => κ (.bool r) []) none
    | _, _ => none
theorem I.WatchOk_ok : SpecOk Try.prog 34 I.WatchOk_s := by
  refine SpecOk.of TDok mixed (T := I.WatchOk_T) ?_ (ann := I.WatchOk_ann) Try.func34 rfl (by decide +kernel) ?_ ?_ ?_
  · intro p hp
    simp only [I.WatchOk_T, List.mem_cons, List.not_mem_nil, or_false] at hp
    rcases hp with rfl | rfl | rfl
    · exact I.NetOk_ok
    · exact I.setIn_ok
    · exact I.watchIn_ok
  · intro args h κ r hh
    simp only [I.WatchOk_s] at hh
    split at hh
    · exact (I.WatchOk_den _ _ κ).trans hh
    · cases hh
  · intro args h κ r hh
    simp only [I.WatchOk_s] at hh ⊢
    split at hh
    · exact optC_law2 (F := fun (r : Bool) κ => κ (.bool r) []) (fun b κ r hb => ⟨_, _, hb, fun _ => rfl⟩) hh
    · cases hh
  · intro _ args h κ r hh
    simp only [I.WatchOk_s] at hh
    split at hh
    · exact ⟨rfl, fun _ => rfl⟩
    · cases hh

-- loop.example/guardsonnets/laws.sizeOf
noncomputable def L.sizeOf_T : List (Nat × D.Spec) := []
def L.sizeOf_ann : Nat → List Nat × List Nat
  | 2 => ([0, 3], [3])
  | _ => ([], [])
noncomputable def L.sizeOf_F (args : List V) (h : List E) (κ : V → List E → R) : R := funC TD (tableK L.sizeOf_T) L.sizeOf_ann (drawOk (tableP L.sizeOf_T)) FUEL Try.f35 args h κ
noncomputable def L.sizeOf_L2 (n : Nat) (σ : St) (k : X → St → R) : R := iterC 0 (fun σ k => denC TD (tableK L.sizeOf_T) L.sizeOf_ann (drawOk (tableP L.sizeOf_T)) 0 FUEL ((findLoop 2 (Try.f35.body.getD .skip)).getD .skip) σ k) [0, 3] [3] n σ k
noncomputable def L.sizeOf_k2 (κ : V → List E → R) : X → St → R := (afterC TD (tableK L.sizeOf_T) L.sizeOf_ann (drawOk (tableP L.sizeOf_T)) 0 FUEL 2 (Try.f35.body.getD .skip) (finC TD 0 Try.f35 κ)).getD (fun _ _ => none)
noncomputable def L.sizeOf_step2 {α : Type} (x0 : Int) (x3 : Int) (next_ : Int × Int → α) (out0_ : Int → α) (fail_ : α) : α :=
  (bif decide (x0 > 0) then (next_ (IntKind.i64.wrap (x0.tdiv 2), IntKind.i64.wrap (x3 + x0.tmod 2))) else (out0_ x3))
theorem L.sizeOf_step2_nat {α γ : Type} (g : α → γ) (x0 : Int) (x3 : Int) (next_ : Int × Int → α) (out0_ : Int → α) (fail_ : α) : g (L.sizeOf_step2 x0 x3 next_ out0_ fail_) = L.sizeOf_step2 x0 x3 (fun s => g (next_ s)) (fun d => g (out0_ d)) (g fail_) := by
  unfold L.sizeOf_step2; simp only [apply_cnd g, apply_optC g, apply_sumC g]
noncomputable def L.sizeOf_run2 : Nat → Int × Int → Option (Int)
  | 0, _ => none
  | n + 1, s_ => L.sizeOf_step2 s_.1 s_.2 (L.sizeOf_run2 n) (fun d => some d) none
theorem L.sizeOf_L2_run (n : Nat) (s_ : Int × Int) (k : X → St → R) : L.sizeOf_L2 n { n := 13, t := [(0, (.int .i64 s_.1)), (3, (.int .i64 s_.2))], h := [] } k = optC (L.sizeOf_run2 n s_) (fun (r : Int) => k (.exit 0) { n := 13, t := [(3, (.int .i64 r))], h := [] }) none := by
  induction n generalizing s_ with
  | zero => rfl
  | succ n ih =>
    have hu : L.sizeOf_L2 (n + 1) { n := 13, t := [(0, (.int .i64 s_.1)), (3, (.int .i64 s_.2))], h := [] } k = L.sizeOf_step2 s_.1 s_.2 (fun s_ => L.sizeOf_L2 n { n := 13, t := [(0, (.int .i64 s_.1)), (3, (.int .i64 s_.2))], h := [] } k) (fun d => k (.exit 0) { n := 13, t := [(3, (.int .i64 d))], h := [] }) none := by
      kernel_rfl
    have hs : (fun s_ : Int × Int => L.sizeOf_L2 n { n := 13, t := [(0, (.int .i64 s_.1)), (3, (.int .i64 s_.2))], h := [] } k) = fun s_ => optC (L.sizeOf_run2 n s_) (fun (r : Int) => k (.exit 0) { n := 13, t := [(3, (.int .i64 r))], h := [] }) none := funext ih
    rw [hu, hs]
    exact (L.sizeOf_step2_nat (fun o => optC o (fun (r : Int) => k (.exit 0) { n := 13, t := [(3, (.int .i64 r))], h := [] }) none) s_.1 s_.2 (L.sizeOf_run2 n) (fun d => some d) none).symm
noncomputable def L.sizeOf_tree {α : Type} (n_ : Int) (leaf0_ : Int → α) (fail_ : α) : α :=
  (optC (L.sizeOf_run2 FUEL (n_, 0)) (fun qy_1 => (leaf0_ qy_1)) fail_)
theorem L.sizeOf_tree_nat {α γ : Type} (g : α → γ) (n_ : Int) (leaf0_ : Int → α) (fail_ : α) : g (L.sizeOf_tree n_ leaf0_ fail_) = L.sizeOf_tree n_ (fun d => g (leaf0_ d)) (g fail_) := by
  unfold L.sizeOf_tree; simp only [apply_cnd g, apply_optC g, apply_sumC g]
noncomputable def L.sizeOf_t (n_ : Int) : Option (Int) := L.sizeOf_tree n_ (fun d => some d) none
theorem L.sizeOf_den (n_ : Int) (κ : V → List E → R) : L.sizeOf_F [.int .i64 n_] [] κ = optC (L.sizeOf_t n_) (fun (r : Int) => κ (.int .i64 r) []) none := by
  have hu : L.sizeOf_F [.int .i64 n_] [] κ = L.sizeOf_tree n_ (fun d => κ (.int .i64 d) []) none := by
    refine Eq.trans (show L.sizeOf_F [.int .i64 n_] [] κ = (L.sizeOf_L2 FUEL { n := 13, t := [(0, (.int .i64 n_)), (3, (.int .i64 0))], h := [] } (L.sizeOf_k2 κ)) by kernel_rfl) ?_
    refine (L.sizeOf_L2_run FUEL (n_, 0) (L.sizeOf_k2 κ)).trans (optC_congr (fun qy_1 => ?_))
    kernel_rfl
  rw [hu]
  exact (L.sizeOf_tree_nat (fun o => optC o (fun (r : Int) => κ (.int .i64 r) []) none) n_ (fun d => some d) none).symm
noncomputable def L.sizeOf_s : D.Spec where
  keep := false
  pure := true
  ds := [.invalid]
  sp := fun args h κ => match args, h with
    | [.int .i64 n_], [] => optC (L.sizeOf_t n_) (fun (r : Int) => κ (.int .i64 r) []) none
    | _, _ => none
theorem L.sizeOf_ok : SpecOk Try.prog 35 L.sizeOf_s := by
  refine SpecOk.of TDok mixed (T := L.sizeOf_T) ?_ (ann := L.sizeOf_ann) Try.func35 rfl (by decide +kernel) ?_ ?_ ?_
  · intro p hp; cases hp
  · intro args h κ r hh
    simp only [L.sizeOf_s] at hh
    split at hh
    · exact (L.sizeOf_den _ κ).trans hh
    · cases hh
  · intro args h κ r hh
    simp only [L.sizeOf_s] at hh ⊢
    split at hh
    · exact optC_law2 (F := fun (r : Int) κ => κ (.int .i64 r) []) (fun b κ r hb => ⟨_, _, hb, fun _ => rfl⟩) hh
    · cases hh
  · intro _ args h κ r hh
    simp only [L.sizeOf_s] at hh
    split at hh
    · exact ⟨rfl, fun _ => rfl⟩
    · cases hh

-- loop.example/guardsonnets/laws.FnEfficientOk
noncomputable def L.FnEfficientOk_T : List (Nat × D.Spec) := [(31, S.DrawEfficientOk_s), (32, I.EfficientOk_s), (33, S.EfficientOk_s), (16, I.PackedOk_s), (34, I.WatchOk_s), (35, L.sizeOf_s), (28, I.FewestWatch_s), (19, L.alive_s)]
def L.FnEfficientOk_ann : Nat → List Nat × List Nat
  | _ => ([], [])
noncomputable def L.FnEfficientOk_F (args : List V) (h : List E) (κ : V → List E → R) : R := funC TD (tableK L.FnEfficientOk_T) L.FnEfficientOk_ann (drawOk (tableP L.FnEfficientOk_T)) FUEL Try.f7 args h κ
noncomputable def L.FnEfficientOk_tree {α : Type} (code : List Int) (leaf0_ : Bool → α) (fail_ : α) : α :=
  (bif decide ((↑code.length : Int) > 1048576) then (leaf0_ true) else (optC (S.DrawEfficientOk_t code) (fun c_1 => (optC (I.EfficientOk_t c_1.snd c_1.fst) (fun c_2 => (optC (S.EfficientOk_t c_1.snd c_1.fst) (fun c_3 => (bif !c_2 == c_3 then (leaf0_ false) else (optC (I.PackedOk_t c_1.snd c_1.fst) (fun c_4 => (bif c_4 then (optC (I.WatchOk_t c_1.snd c_1.fst) (fun c_5 => (bif c_2 == c_5 then (bif !c_2 then (optC (L.alive_t) (fun c_6 => (leaf0_ c_6)) fail_) else (optC (L.sizeOf_t c_1.fst) (fun c_7 => (optC (I.FewestWatch_t c_1.snd) (fun c_8 => (bif c_7 == c_8 then (optC (L.alive_t) (fun c_9 => (leaf0_ c_9)) fail_) else (leaf0_ false))) fail_)) fail_)) else (leaf0_ false))) fail_) else (bif c_2 == false then (bif !c_2 then (optC (L.alive_t) (fun c_10 => (leaf0_ c_10)) fail_) else (optC (L.sizeOf_t c_1.fst) (fun c_11 => (optC (I.FewestWatch_t c_1.snd) (fun c_12 => (bif c_11 == c_12 then (optC (L.alive_t) (fun c_13 => (leaf0_ c_13)) fail_) else (leaf0_ false))) fail_)) fail_)) else (leaf0_ false)))) fail_))) fail_)) fail_)) fail_))
theorem L.FnEfficientOk_tree_nat {α γ : Type} (g : α → γ) (code : List Int) (leaf0_ : Bool → α) (fail_ : α) : g (L.FnEfficientOk_tree code leaf0_ fail_) = L.FnEfficientOk_tree code (fun d => g (leaf0_ d)) (g fail_) := by
  unfold L.FnEfficientOk_tree; simp only [apply_cnd g, apply_optC g, apply_sumC g]
noncomputable def L.FnEfficientOk_t (code : List Int) : Option (Bool) := L.FnEfficientOk_tree code (fun d => some d) none
theorem L.FnEfficientOk_den (code : List Int) (κ : V → List E → R) : L.FnEfficientOk_F [.ro true (.ints .u8 code)] [] κ = optC (L.FnEfficientOk_t code) (fun (r : Bool) => κ (.bool r) []) none := by
  have hu : L.FnEfficientOk_F [.ro true (.ints .u8 code)] [] κ = L.FnEfficientOk_tree code (fun d => κ (.bool d) []) none := by
    kernel_rfl
  rw [hu]
  exact (L.FnEfficientOk_tree_nat (fun o => optC o (fun (r : Bool) => κ (.bool r) []) none) code (fun d => some d) none).symm
noncomputable def L.FnEfficientOk_s : D.Spec where
  keep := true
  pure := true
  ds := [.int .u8]
  sp := fun args h κ => match args, h with
    | [.ro true (.ints .u8 code)], [] => optC (L.FnEfficientOk_t code) (fun (r : Bool) => κ (.bool r) []) none
    | _, _ => none
theorem L.FnEfficientOk_ok : SpecOk Try.prog 7 L.FnEfficientOk_s := by
  refine SpecOk.of TDok mixed (T := L.FnEfficientOk_T) ?_ (ann := L.FnEfficientOk_ann) Try.func7 rfl (by decide +kernel) ?_ ?_ ?_
  · intro p hp
    simp only [L.FnEfficientOk_T, List.mem_cons, List.not_mem_nil, or_false] at hp
    rcases hp with rfl | rfl | rfl | rfl | rfl | rfl | rfl | rfl
    · exact S.DrawEfficientOk_ok
    · exact I.EfficientOk_ok
    · exact S.EfficientOk_ok
    · exact I.PackedOk_ok
    · exact I.WatchOk_ok
    · exact L.sizeOf_ok
    · exact I.FewestWatch_ok
    · exact L.alive_ok
  · intro args h κ r hh
    simp only [L.FnEfficientOk_s] at hh
    split at hh
    · exact (L.FnEfficientOk_den _ κ).trans hh
    · cases hh
  · intro args h κ r hh
    simp only [L.FnEfficientOk_s] at hh ⊢
    split at hh
    · exact optC_law2 (F := fun (r : Bool) κ => κ (.bool r) []) (fun b κ r hb => ⟨_, _, hb, fun _ => rfl⟩) hh
    · cases hh
  · intro _ args h κ r hh
    simp only [L.FnEfficientOk_s] at hh
    split at hh
    · exact ⟨rfl, fun _ => rfl⟩
    · cases hh

-- loop.example/guardsonnets/laws.FnExactEfficientOk
noncomputable def L.FnExactEfficientOk_T : List (Nat × D.Spec) := [(22, L.toIntS_s), (33, S.EfficientOk_s), (32, I.EfficientOk_s), (23, L.eqIntS_s)]
def L.FnExactEfficientOk_ann : Nat → List Nat × List Nat
  | _ => ([], [])
noncomputable def L.FnExactEfficientOk_F (args : List V) (h : List E) (κ : V → List E → R) : R := funC TD (tableK L.FnExactEfficientOk_T) L.FnExactEfficientOk_ann (drawOk (tableP L.FnExactEfficientOk_T)) FUEL Try.f8 args h κ
noncomputable def L.FnExactEfficientOk_tree {α : Type} (aNet : List Int) (aSet : Int) (leaf0_ : Bool → α) (fail_ : α) : α :=
  (bif decide ((↑aNet.length : Int) > 1048576) then (leaf0_ true) else (optC (L.toIntS_t aNet) (fun c_1 => (optC (S.EfficientOk_t c_1 aSet) (fun c_2 => (optC (L.toIntS_t aNet) (fun c_3 => (optC (I.EfficientOk_t c_3 aSet) (fun c_4 => (bif !c_4 == c_2 then (leaf0_ false) else (optC (L.toIntS_t aNet) (fun c_5 => (optC (L.eqIntS_t c_3 c_5) (fun c_6 => (bif !c_6 then (leaf0_ false) else (leaf0_ true))) fail_)) fail_))) fail_)) fail_)) fail_)) fail_))
theorem L.FnExactEfficientOk_tree_nat {α γ : Type} (g : α → γ) (aNet : List Int) (aSet : Int) (leaf0_ : Bool → α) (fail_ : α) : g (L.FnExactEfficientOk_tree aNet aSet leaf0_ fail_) = L.FnExactEfficientOk_tree aNet aSet (fun d => g (leaf0_ d)) (g fail_) := by
  unfold L.FnExactEfficientOk_tree; simp only [apply_cnd g, apply_optC g, apply_sumC g]
noncomputable def L.FnExactEfficientOk_t (aNet : List Int) (aSet : Int) : Option (Bool) := L.FnExactEfficientOk_tree aNet aSet (fun d => some d) none
theorem L.FnExactEfficientOk_den (aNet : List Int) (aSet : Int) (κ : V → List E → R) : L.FnExactEfficientOk_F [.ro true (.ints .i64 aNet), .int .i64 aSet] [] κ = optC (L.FnExactEfficientOk_t aNet aSet) (fun (r : Bool) => κ (.bool r) []) none := by
  have hu : L.FnExactEfficientOk_F [.ro true (.ints .i64 aNet), .int .i64 aSet] [] κ = L.FnExactEfficientOk_tree aNet aSet (fun d => κ (.bool d) []) none := by
    kernel_rfl
  rw [hu]
  exact (L.FnExactEfficientOk_tree_nat (fun o => optC o (fun (r : Bool) => κ (.bool r) []) none) aNet aSet (fun d => some d) none).symm
noncomputable def L.FnExactEfficientOk_s : D.Spec where
  keep := true
  pure := true
  ds := [.int .i64, .invalid]
  sp := fun args h κ => match args, h with
    | [.ro true (.ints .i64 aNet), .int .i64 aSet], [] => optC (L.FnExactEfficientOk_t aNet aSet) (fun (r : Bool) => κ (.bool r) []) none
    | _, _ => none
theorem L.FnExactEfficientOk_ok : SpecOk Try.prog 8 L.FnExactEfficientOk_s := by
  refine SpecOk.of TDok mixed (T := L.FnExactEfficientOk_T) ?_ (ann := L.FnExactEfficientOk_ann) Try.func8 rfl (by decide +kernel) ?_ ?_ ?_
  · intro p hp
    simp only [L.FnExactEfficientOk_T, List.mem_cons, List.not_mem_nil, or_false] at hp
    rcases hp with rfl | rfl | rfl | rfl
    · exact L.toIntS_ok
    · exact S.EfficientOk_ok
    · exact I.EfficientOk_ok
    · exact L.eqIntS_ok
  · intro args h κ r hh
    simp only [L.FnExactEfficientOk_s] at hh
    split at hh
    · exact (L.FnExactEfficientOk_den _ _ κ).trans hh
    · cases hh
  · intro args h κ r hh
    simp only [L.FnExactEfficientOk_s] at hh ⊢
    split at hh
    · exact optC_law2 (F := fun (r : Bool) κ => κ (.bool r) []) (fun b κ r hb => ⟨_, _, hb, fun _ => rfl⟩) hh
    · cases hh
  · intro _ args h κ r hh
    simp only [L.FnExactEfficientOk_s] at hh
    split at hh
    · exact ⟨rfl, fun _ => rfl⟩
    · cases hh

-- loop.example/guardsonnets/spec.DrawEfficientOf
noncomputable def S.DrawEfficientOf_T : List (Nat × D.Spec) := [(46, S.l20Open_s), (54, S.l20Net_s)]
def S.DrawEfficientOf_ann : Nat → List Nat × List Nat
  | _ => ([], [])
noncomputable def S.DrawEfficientOf_F (args : List V) (h : List E) (κ : V → List E → R) : R := funC TD (tableK S.DrawEfficientOf_T) S.DrawEfficientOf_ann (drawOk (tableP S.DrawEfficientOf_T)) FUEL Try.f36 args h κ
noncomputable def S.DrawEfficientOf_tree {α : Type} (code : List Int) (leaf0_ : List Int → α) (fail_ : α) : α :=
  (optC (S.l20Open_t code) (fun c_1 => (optC (S.l20Net_t c_1.fst c_1.snd 9) (fun c_2 => (leaf0_ c_2.snd.snd)) fail_)) fail_)
theorem S.DrawEfficientOf_tree_nat {α γ : Type} (g : α → γ) (code : List Int) (leaf0_ : List Int → α) (fail_ : α) : g (S.DrawEfficientOf_tree code leaf0_ fail_) = S.DrawEfficientOf_tree code (fun d => g (leaf0_ d)) (g fail_) := by
  unfold S.DrawEfficientOf_tree; simp only [apply_cnd g, apply_optC g, apply_sumC g]
noncomputable def S.DrawEfficientOf_t (code : List Int) : Option (List Int) := S.DrawEfficientOf_tree code (fun d => some d) none
theorem S.DrawEfficientOf_den (code : List Int) (κ : V → List E → R) : S.DrawEfficientOf_F [.ro true (.ints .u8 code)] [] κ = optC (S.DrawEfficientOf_t code) (fun (r : List Int) => κ (.own 0) [.row (.ints .i64 r)]) none := by
  have hu : S.DrawEfficientOf_F [.ro true (.ints .u8 code)] [] κ = S.DrawEfficientOf_tree code (fun d => κ (.own 0) [.row (.ints .i64 d)]) none := by
    kernel_rfl
  rw [hu]
  exact (S.DrawEfficientOf_tree_nat (fun o => optC o (fun (r : List Int) => κ (.own 0) [.row (.ints .i64 r)]) none) code (fun d => some d) none).symm
noncomputable def S.DrawEfficientOf_s : D.Spec where
  keep := true
  pure := false
  ds := [.int .u8]
  sp := fun args h κ => match args, h with
    | [.ro true (.ints .u8 code)], [] => optC (S.DrawEfficientOf_t code) (fun (r : List Int) => κ (.own 0) [.row (.ints .i64 r)]) none
    | _, _ => none
theorem S.DrawEfficientOf_ok : SpecOk Try.prog 36 S.DrawEfficientOf_s := by
  refine SpecOk.of TDok mixed (T := S.DrawEfficientOf_T) ?_ (ann := S.DrawEfficientOf_ann) Try.func36 rfl (by decide +kernel) ?_ ?_ ?_
  · intro p hp
    simp only [S.DrawEfficientOf_T, List.mem_cons, List.not_mem_nil, or_false] at hp
    rcases hp with rfl | rfl
    · exact S.l20Open_ok
    · exact S.l20Net_ok
  · intro args h κ r hh
    simp only [S.DrawEfficientOf_s] at hh
    split at hh
    · exact (S.DrawEfficientOf_den _ κ).trans hh
    · cases hh
  · intro args h κ r hh
    simp only [S.DrawEfficientOf_s] at hh ⊢
    split at hh
    · exact optC_law2 (F := fun (r : List Int) κ => κ (.own 0) [.row (.ints .i64 r)]) (fun b κ r hb => ⟨_, _, hb, fun _ => rfl⟩) hh
    · cases hh
  · intro hh; cases hh

-- loop.example/guardsonnets/impl.EfficientOf
noncomputable def I.EfficientOf_T : List (Nat × D.Spec) := [(27, I.NetOk_s), (55, I.allOf_s), (64, I.efficientIn_s)]
def I.EfficientOf_ann : Nat → List Nat × List Nat
  | 4 => ([0, 3], [2])
  | _ => ([], [])
noncomputable def I.EfficientOf_F (args : List V) (h : List E) (κ : V → List E → R) : R := funC TD (tableK I.EfficientOf_T) I.EfficientOf_ann (drawOk (tableP I.EfficientOf_T)) FUEL Try.f37 args h κ
noncomputable def I.EfficientOf_L4 (n : Nat) (σ : St) (k : X → St → R) : R := iterC 0 (fun σ k => denC TD (tableK I.EfficientOf_T) I.EfficientOf_ann (drawOk (tableP I.EfficientOf_T)) 0 FUEL ((findLoop 4 (Try.f37.body.getD .skip)).getD .skip) σ k) [0, 3] [2] n σ k
noncomputable def I.EfficientOf_k4 (κ : V → List E → R) : X → St → R := (afterC TD (tableK I.EfficientOf_T) I.EfficientOf_ann (drawOk (tableP I.EfficientOf_T)) 0 FUEL 4 (Try.f37.body.getD .skip) (finC TD 0 Try.f37 κ)).getD (fun _ _ => none)
noncomputable def I.EfficientOf_step4 {α : Type} (x0 : List Int) (x3 : Int) (next_ : Int → α) (out0_ : Int → α) (out1_ : Unit → α) (fail_ : α) : α :=
  (optC (I.allOf_t x0) (fun c_2 => (bif decide (x3 ≤ c_2) then (optC (I.efficientIn_t x0 x3) (fun c_3 => (bif c_3 then (out0_ x3) else (next_ (IntKind.i64.wrap (x3 + 1))))) fail_) else (out1_ ()))) fail_)
theorem I.EfficientOf_step4_nat {α γ : Type} (g : α → γ) (x0 : List Int) (x3 : Int) (next_ : Int → α) (out0_ : Int → α) (out1_ : Unit → α) (fail_ : α) : g (I.EfficientOf_step4 x0 x3 next_ out0_ out1_ fail_) = I.EfficientOf_step4 x0 x3 (fun s => g (next_ s)) (fun d => g (out0_ d)) (fun d => g (out1_ d)) (g fail_) := by
  unfold I.EfficientOf_step4; simp only [apply_cnd g, apply_optC g, apply_sumC g]
noncomputable def I.EfficientOf_run4 (x0 : List Int) : Nat → Int → Option ((Int) ⊕ (Unit))
  | 0, _ => none
  | n + 1, s_ => I.EfficientOf_step4 x0 s_ (I.EfficientOf_run4 x0 n) (fun d => some ((Sum.inl d))) (fun d => some ((Sum.inr d))) none
theorem I.EfficientOf_L4_run (x0 : List Int) (n : Nat) (s_ : Int) (k : X → St → R) : I.EfficientOf_L4 n { n := 17, t := [(0, (.ro false (.ints .i64 x0))), (3, (.int .i64 s_))], h := [] } k = optC (I.EfficientOf_run4 x0 n s_) (fun (r : (Int) ⊕ (Unit)) => (sumC r (fun (r : Int) => k (.ret) { n := 17, t := [(2, (.int .i64 r))], h := [] }) (fun (r : Unit) => k (.exit 0) { n := 17, t := [(2, .junk)], h := [] }))) none := by
  induction n generalizing s_ with
  | zero => rfl
  | succ n ih =>
    have hu : I.EfficientOf_L4 (n + 1) { n := 17, t := [(0, (.ro false (.ints .i64 x0))), (3, (.int .i64 s_))], h := [] } k = I.EfficientOf_step4 x0 s_ (fun s_ => I.EfficientOf_L4 n { n := 17, t := [(0, (.ro false (.ints .i64 x0))), (3, (.int .i64 s_))], h := [] } k) (fun d => k (.ret) { n := 17, t := [(2, (.int .i64 d))], h := [] }) (fun d => k (.exit 0) { n := 17, t := [(2, .junk)], h := [] }) none := by
      kernel_rfl
    have hs : (fun s_ : Int => I.EfficientOf_L4 n { n := 17, t := [(0, (.ro false (.ints .i64 x0))), (3, (.int .i64 s_))], h := [] } k) = fun s_ => optC (I.EfficientOf_run4 x0 n s_) (fun (r : (Int) ⊕ (Unit)) => (sumC r (fun (r : Int) => k (.ret) { n := 17, t := [(2, (.int .i64 r))], h := [] }) (fun (r : Unit) => k (.exit 0) { n := 17, t := [(2, .junk)], h := [] }))) none := funext ih
    rw [hu, hs]
    exact (I.EfficientOf_step4_nat (fun o => optC o (fun (r : (Int) ⊕ (Unit)) => (sumC r (fun (r : Int) => k (.ret) { n := 17, t := [(2, (.int .i64 r))], h := [] }) (fun (r : Unit) => k (.exit 0) { n := 17, t := [(2, .junk)], h := [] }))) none) x0 s_ (I.EfficientOf_run4 x0 n) (fun d => some ((Sum.inl d))) (fun d => some ((Sum.inr d))) none).symm
noncomputable def I.EfficientOf_tree {α : Type} (net : List Int) (leaf0_ : Int → α) (fail_ : α) : α :=
  (optC (I.NetOk_t net) (fun c_1 => (bif !c_1 then (leaf0_ (-1)) else (optC (I.EfficientOf_run4 net FUEL 0) (fun qy_4 => (sumC qy_4 (fun (qy_4 : Int) => (leaf0_ qy_4)) (fun (qy_4 : Unit) => (leaf0_ (-1))))) fail_))) fail_)
theorem I.EfficientOf_tree_nat {α γ : Type} (g : α → γ) (net : List Int) (leaf0_ : Int → α) (fail_ : α) : g (I.EfficientOf_tree net leaf0_ fail_) = I.EfficientOf_tree net (fun d => g (leaf0_ d)) (g fail_) := by
  unfold I.EfficientOf_tree; simp only [apply_cnd g, apply_optC g, apply_sumC g]
noncomputable def I.EfficientOf_t (net : List Int) : Option (Int) := I.EfficientOf_tree net (fun d => some d) none
theorem I.EfficientOf_den (net : List Int) (κ : V → List E → R) : I.EfficientOf_F [.ro false (.ints .i64 net)] [] κ = optC (I.EfficientOf_t net) (fun (r : Int) => κ (.int .i64 r) []) none := by
  have hu : I.EfficientOf_F [.ro false (.ints .i64 net)] [] κ = I.EfficientOf_tree net (fun d => κ (.int .i64 d) []) none := by
    refine Eq.trans (show I.EfficientOf_F [.ro false (.ints .i64 net)] [] κ = (optC (I.NetOk_t net) (fun c_1 => (bif !c_1 then (κ (.int .i64 (-1)) []) else (I.EfficientOf_L4 FUEL { n := 17, t := [(0, (.ro false (.ints .i64 net))), (3, (.int .i64 0))], h := [] } (I.EfficientOf_k4 κ)))) none) by kernel_rfl) ?_
    refine optC_congr (fun c_1 => ?_)
    refine cnd_congr ?_ ?_
    · kernel_rfl
    · refine (I.EfficientOf_L4_run net FUEL 0 (I.EfficientOf_k4 κ)).trans (optC_congr (fun qy_4 => ?_))
      rcases qy_4 with qy_4 | qy_4
      · kernel_rfl
      · kernel_rfl
  rw [hu]
  exact (I.EfficientOf_tree_nat (fun o => optC o (fun (r : Int) => κ (.int .i64 r) []) none) net (fun d => some d) none).symm
noncomputable def I.EfficientOf_s : D.Spec where
  keep := false
  pure := true
  ds := [.int .i64]
  sp := fun args h κ => match args, h with
    | [.ro false (.ints .i64 net)], [] => optC (I.EfficientOf_t net) (fun (r : Int) => κ (.int .i64 r) []) none
    | _, _ => none
theorem I.EfficientOf_ok : SpecOk Try.prog 37 I.EfficientOf_s := by
  refine SpecOk.of TDok mixed (T := I.EfficientOf_T) ?_ (ann := I.EfficientOf_ann) Try.func37 rfl (by decide +kernel) ?_ ?_ ?_
  · intro p hp
    simp only [I.EfficientOf_T, List.mem_cons, List.not_mem_nil, or_false] at hp
    rcases hp with rfl | rfl | rfl
    · exact I.NetOk_ok
    · exact I.allOf_ok
    · exact I.efficientIn_ok
  · intro args h κ r hh
    simp only [I.EfficientOf_s] at hh
    split at hh
    · exact (I.EfficientOf_den _ κ).trans hh
    · cases hh
  · intro args h κ r hh
    simp only [I.EfficientOf_s] at hh ⊢
    split at hh
    · exact optC_law2 (F := fun (r : Int) κ => κ (.int .i64 r) []) (fun b κ r hb => ⟨_, _, hb, fun _ => rfl⟩) hh
    · cases hh
  · intro _ args h κ r hh
    simp only [I.EfficientOf_s] at hh
    split at hh
    · exact ⟨rfl, fun _ => rfl⟩
    · cases hh

-- loop.example/guardsonnets/spec.EfficientOf
noncomputable def S.EfficientOf_T : List (Nat × D.Spec) := [(57, S.NetOk_s), (33, S.EfficientOk_s)]
def S.EfficientOf_ann : Nat → List Nat × List Nat
  | 2 => ([0, 3], [2])
  | _ => ([], [])
noncomputable def S.EfficientOf_F (args : List V) (h : List E) (κ : V → List E → R) : R := funC TD (tableK S.EfficientOf_T) S.EfficientOf_ann (drawOk (tableP S.EfficientOf_T)) FUEL Try.f38 args h κ
noncomputable def S.EfficientOf_L2 (n : Nat) (σ : St) (k : X → St → R) : R := iterC 0 (fun σ k => denC TD (tableK S.EfficientOf_T) S.EfficientOf_ann (drawOk (tableP S.EfficientOf_T)) 0 FUEL ((findLoop 2 (Try.f38.body.getD .skip)).getD .skip) σ k) [0, 3] [2] n σ k
noncomputable def S.EfficientOf_k2 (κ : V → List E → R) : X → St → R := (afterC TD (tableK S.EfficientOf_T) S.EfficientOf_ann (drawOk (tableP S.EfficientOf_T)) 0 FUEL 2 (Try.f38.body.getD .skip) (finC TD 0 Try.f38 κ)).getD (fun _ _ => none)
noncomputable def S.EfficientOf_step2 {α : Type} (x0 : List Int) (x3 : Int) (next_ : Int → α) (out0_ : Int → α) (out1_ : Unit → α) (fail_ : α) : α :=
  (optC (S.NetOk_t x0) (fun c_1 => (bif c_1 then (bif decide (x3 < IntKind.i64.wrap (1 * 2 ^ min (↑x0.length : Int).toNat IntKind.i64.bits)) then (optC (S.EfficientOk_t x0 x3) (fun c_2 => (bif c_2 then (out0_ x3) else (next_ (IntKind.i64.wrap (x3 + 1))))) fail_) else (out1_ ())) else (out1_ ()))) fail_)
theorem S.EfficientOf_step2_nat {α γ : Type} (g : α → γ) (x0 : List Int) (x3 : Int) (next_ : Int → α) (out0_ : Int → α) (out1_ : Unit → α) (fail_ : α) : g (S.EfficientOf_step2 x0 x3 next_ out0_ out1_ fail_) = S.EfficientOf_step2 x0 x3 (fun s => g (next_ s)) (fun d => g (out0_ d)) (fun d => g (out1_ d)) (g fail_) := by
  unfold S.EfficientOf_step2; simp only [apply_cnd g, apply_optC g, apply_sumC g]
noncomputable def S.EfficientOf_run2 (x0 : List Int) : Nat → Int → Option ((Int) ⊕ (Unit))
  | 0, _ => none
  | n + 1, s_ => S.EfficientOf_step2 x0 s_ (S.EfficientOf_run2 x0 n) (fun d => some ((Sum.inl d))) (fun d => some ((Sum.inr d))) none
theorem S.EfficientOf_L2_run (x0 : List Int) (n : Nat) (s_ : Int) (k : X → St → R) : S.EfficientOf_L2 n { n := 19, t := [(0, (.ro false (.ints .i64 x0))), (3, (.int .i64 s_))], h := [] } k = optC (S.EfficientOf_run2 x0 n s_) (fun (r : (Int) ⊕ (Unit)) => (sumC r (fun (r : Int) => k (.ret) { n := 19, t := [(2, (.int .i64 r))], h := [] }) (fun (r : Unit) => k (.exit 0) { n := 19, t := [(2, .junk)], h := [] }))) none := by
  induction n generalizing s_ with
  | zero => rfl
  | succ n ih =>
    have hu : S.EfficientOf_L2 (n + 1) { n := 19, t := [(0, (.ro false (.ints .i64 x0))), (3, (.int .i64 s_))], h := [] } k = S.EfficientOf_step2 x0 s_ (fun s_ => S.EfficientOf_L2 n { n := 19, t := [(0, (.ro false (.ints .i64 x0))), (3, (.int .i64 s_))], h := [] } k) (fun d => k (.ret) { n := 19, t := [(2, (.int .i64 d))], h := [] }) (fun d => k (.exit 0) { n := 19, t := [(2, .junk)], h := [] }) none := by
      kernel_rfl
    have hs : (fun s_ : Int => S.EfficientOf_L2 n { n := 19, t := [(0, (.ro false (.ints .i64 x0))), (3, (.int .i64 s_))], h := [] } k) = fun s_ => optC (S.EfficientOf_run2 x0 n s_) (fun (r : (Int) ⊕ (Unit)) => (sumC r (fun (r : Int) => k (.ret) { n := 19, t := [(2, (.int .i64 r))], h := [] }) (fun (r : Unit) => k (.exit 0) { n := 19, t := [(2, .junk)], h := [] }))) none := funext ih
    rw [hu, hs]
    exact (S.EfficientOf_step2_nat (fun o => optC o (fun (r : (Int) ⊕ (Unit)) => (sumC r (fun (r : Int) => k (.ret) { n := 19, t := [(2, (.int .i64 r))], h := [] }) (fun (r : Unit) => k (.exit 0) { n := 19, t := [(2, .junk)], h := [] }))) none) x0 s_ (S.EfficientOf_run2 x0 n) (fun d => some ((Sum.inl d))) (fun d => some ((Sum.inr d))) none).symm
noncomputable def S.EfficientOf_tree {α : Type} (net : List Int) (leaf0_ : Int → α) (fail_ : α) : α :=
  (optC (S.EfficientOf_run2 net FUEL 0) (fun qy_3 => (sumC qy_3 (fun (qy_3 : Int) => (leaf0_ qy_3)) (fun (qy_3 : Unit) => (leaf0_ (-1))))) fail_)
theorem S.EfficientOf_tree_nat {α γ : Type} (g : α → γ) (net : List Int) (leaf0_ : Int → α) (fail_ : α) : g (S.EfficientOf_tree net leaf0_ fail_) = S.EfficientOf_tree net (fun d => g (leaf0_ d)) (g fail_) := by
  unfold S.EfficientOf_tree; simp only [apply_cnd g, apply_optC g, apply_sumC g]
noncomputable def S.EfficientOf_t (net : List Int) : Option (Int) := S.EfficientOf_tree net (fun d => some d) none
theorem S.EfficientOf_den (net : List Int) (κ : V → List E → R) : S.EfficientOf_F [.ro false (.ints .i64 net)] [] κ = optC (S.EfficientOf_t net) (fun (r : Int) => κ (.int .i64 r) []) none := by
  have hu : S.EfficientOf_F [.ro false (.ints .i64 net)] [] κ = S.EfficientOf_tree net (fun d => κ (.int .i64 d) []) none := by
    refine Eq.trans (show S.EfficientOf_F [.ro false (.ints .i64 net)] [] κ = (S.EfficientOf_L2 FUEL { n := 19, t := [(0, (.ro false (.ints .i64 net))), (3, (.int .i64 0))], h := [] } (S.EfficientOf_k2 κ)) by kernel_rfl) ?_
    refine (S.EfficientOf_L2_run net FUEL 0 (S.EfficientOf_k2 κ)).trans (optC_congr (fun qy_3 => ?_))
    rcases qy_3 with qy_3 | qy_3
    · kernel_rfl
    · kernel_rfl
  rw [hu]
  exact (S.EfficientOf_tree_nat (fun o => optC o (fun (r : Int) => κ (.int .i64 r) []) none) net (fun d => some d) none).symm
noncomputable def S.EfficientOf_s : D.Spec where
  keep := false
  pure := true
  ds := [.int .i64]
  sp := fun args h κ => match args, h with
    | [.ro false (.ints .i64 net)], [] => optC (S.EfficientOf_t net) (fun (r : Int) => κ (.int .i64 r) []) none
    | _, _ => none
theorem S.EfficientOf_ok : SpecOk Try.prog 38 S.EfficientOf_s := by
  refine SpecOk.of TDok mixed (T := S.EfficientOf_T) ?_ (ann := S.EfficientOf_ann) Try.func38 rfl (by decide +kernel) ?_ ?_ ?_
  · intro p hp
    simp only [S.EfficientOf_T, List.mem_cons, List.not_mem_nil, or_false] at hp
    rcases hp with rfl | rfl
    · exact S.NetOk_ok
    · exact S.EfficientOk_ok
  · intro args h κ r hh
    simp only [S.EfficientOf_s] at hh
    split at hh
    · exact (S.EfficientOf_den _ κ).trans hh
    · cases hh
  · intro args h κ r hh
    simp only [S.EfficientOf_s] at hh ⊢
    split at hh
    · exact optC_law2 (F := fun (r : Int) κ => κ (.int .i64 r) []) (fun b κ r hb => ⟨_, _, hb, fun _ => rfl⟩) hh
    · cases hh
  · intro _ args h κ r hh
    simp only [S.EfficientOf_s] at hh
    split at hh
    · exact ⟨rfl, fun _ => rfl⟩
    · cases hh

-- loop.example/guardsonnets/laws.FnEfficientOf
noncomputable def L.FnEfficientOf_T : List (Nat × D.Spec) := [(36, S.DrawEfficientOf_s), (37, I.EfficientOf_s), (38, S.EfficientOf_s), (19, L.alive_s), (32, I.EfficientOk_s), (25, I.MostPacked_s), (28, I.FewestWatch_s)]
def L.FnEfficientOf_ann : Nat → List Nat × List Nat
  | 10 => ([3, 4, 5], [2, 3, 4])
  | _ => ([], [])
noncomputable def L.FnEfficientOf_F (args : List V) (h : List E) (κ : V → List E → R) : R := funC TD (tableK L.FnEfficientOf_T) L.FnEfficientOf_ann (drawOk (tableP L.FnEfficientOf_T)) FUEL Try.f9 args h κ
noncomputable def L.FnEfficientOf_L10 (n : Nat) (σ : St) (k : X → St → R) : R := iterC 0 (fun σ k => denC TD (tableK L.FnEfficientOf_T) L.FnEfficientOf_ann (drawOk (tableP L.FnEfficientOf_T)) 0 FUEL ((findLoop 10 (Try.f9.body.getD .skip)).getD .skip) σ k) [3, 4, 5] [2, 3, 4] n σ k
noncomputable def L.FnEfficientOf_k10 (κ : V → List E → R) : X → St → R := (afterC TD (tableK L.FnEfficientOf_T) L.FnEfficientOf_ann (drawOk (tableP L.FnEfficientOf_T)) 0 FUEL 10 (Try.f9.body.getD .skip) (finC TD 0 Try.f9 κ)).getD (fun _ _ => none)
noncomputable def L.FnEfficientOf_step10 {α : Type} (x4 : Int) (x5 : Int) (r0 : List Int) (next_ : Int × (List Int) → α) (out0_ : Bool × (List Int) → α) (out1_ : List Int → α) (fail_ : α) : α :=
  (bif decide (x5 < x4) then (optC (I.EfficientOk_t r0 x5) (fun c_5 => (bif c_5 then (out0_ (false, r0)) else (next_ (IntKind.i64.wrap (x5 + 1), r0)))) fail_) else (out1_ r0))
theorem L.FnEfficientOf_step10_nat {α γ : Type} (g : α → γ) (x4 : Int) (x5 : Int) (r0 : List Int) (next_ : Int × (List Int) → α) (out0_ : Bool × (List Int) → α) (out1_ : List Int → α) (fail_ : α) : g (L.FnEfficientOf_step10 x4 x5 r0 next_ out0_ out1_ fail_) = L.FnEfficientOf_step10 x4 x5 r0 (fun s => g (next_ s)) (fun d => g (out0_ d)) (fun d => g (out1_ d)) (g fail_) := by
  unfold L.FnEfficientOf_step10; simp only [apply_cnd g, apply_optC g, apply_sumC g]
noncomputable def L.FnEfficientOf_run10 (x4 : Int) : Nat → Int × (List Int) → Option ((Bool × (List Int)) ⊕ (List Int))
  | 0, _ => none
  | n + 1, s_ => L.FnEfficientOf_step10 x4 s_.1 s_.2 (L.FnEfficientOf_run10 x4 n) (fun d => some ((Sum.inl d))) (fun d => some ((Sum.inr d))) none
theorem L.FnEfficientOf_L10_run (x4 : Int) (n : Nat) (s_ : Int × (List Int)) (k : X → St → R) : L.FnEfficientOf_L10 n { n := 42, t := [(3, (.own 0)), (4, (.int .i64 x4)), (5, (.int .i64 s_.1))], h := [.row (.ints .i64 s_.2)] } k = optC (L.FnEfficientOf_run10 x4 n s_) (fun (r : (Bool × (List Int)) ⊕ (List Int)) => (sumC r (fun (r : Bool × (List Int)) => k (.ret) { n := 42, t := [(2, (.bool r.1)), (3, (.own 0)), (4, (.int .i64 x4))], h := [.row (.ints .i64 r.2)] }) (fun (r : List Int) => k (.exit 0) { n := 42, t := [(2, .junk), (3, (.own 0)), (4, (.int .i64 x4))], h := [.row (.ints .i64 r)] }))) none := by
  induction n generalizing s_ with
  | zero => rfl
  | succ n ih =>
    have hu : L.FnEfficientOf_L10 (n + 1) { n := 42, t := [(3, (.own 0)), (4, (.int .i64 x4)), (5, (.int .i64 s_.1))], h := [.row (.ints .i64 s_.2)] } k = L.FnEfficientOf_step10 x4 s_.1 s_.2 (fun s_ => L.FnEfficientOf_L10 n { n := 42, t := [(3, (.own 0)), (4, (.int .i64 x4)), (5, (.int .i64 s_.1))], h := [.row (.ints .i64 s_.2)] } k) (fun d => k (.ret) { n := 42, t := [(2, (.bool d.1)), (3, (.own 0)), (4, (.int .i64 x4))], h := [.row (.ints .i64 d.2)] }) (fun d => k (.exit 0) { n := 42, t := [(2, .junk), (3, (.own 0)), (4, (.int .i64 x4))], h := [.row (.ints .i64 d)] }) none := by
      kernel_rfl
    have hs : (fun s_ : Int × (List Int) => L.FnEfficientOf_L10 n { n := 42, t := [(3, (.own 0)), (4, (.int .i64 x4)), (5, (.int .i64 s_.1))], h := [.row (.ints .i64 s_.2)] } k) = fun s_ => optC (L.FnEfficientOf_run10 x4 n s_) (fun (r : (Bool × (List Int)) ⊕ (List Int)) => (sumC r (fun (r : Bool × (List Int)) => k (.ret) { n := 42, t := [(2, (.bool r.1)), (3, (.own 0)), (4, (.int .i64 x4))], h := [.row (.ints .i64 r.2)] }) (fun (r : List Int) => k (.exit 0) { n := 42, t := [(2, .junk), (3, (.own 0)), (4, (.int .i64 x4))], h := [.row (.ints .i64 r)] }))) none := funext ih
    rw [hu, hs]
    exact (L.FnEfficientOf_step10_nat (fun o => optC o (fun (r : (Bool × (List Int)) ⊕ (List Int)) => (sumC r (fun (r : Bool × (List Int)) => k (.ret) { n := 42, t := [(2, (.bool r.1)), (3, (.own 0)), (4, (.int .i64 x4))], h := [.row (.ints .i64 r.2)] }) (fun (r : List Int) => k (.exit 0) { n := 42, t := [(2, .junk), (3, (.own 0)), (4, (.int .i64 x4))], h := [.row (.ints .i64 r)] }))) none) x4 s_.1 s_.2 (L.FnEfficientOf_run10 x4 n) (fun d => some ((Sum.inl d))) (fun d => some ((Sum.inr d))) none).symm
noncomputable def L.FnEfficientOf_tree {α : Type} (code : List Int) (leaf0_ : Bool → α) (fail_ : α) : α :=
  (bif decide ((↑code.length : Int) > 1048576) then (leaf0_ true) else (optC (S.DrawEfficientOf_t code) (fun c_1 => (optC (I.EfficientOf_t c_1) (fun c_2 => (optC (S.EfficientOf_t c_1) (fun c_3 => (bif !c_2 == c_3 then (leaf0_ false) else (bif decide (c_2 < 0) then (bif c_2 == -1 then (optC (L.alive_t) (fun c_4 => (leaf0_ c_4)) fail_) else (leaf0_ false)) else (optC (L.FnEfficientOf_run10 c_2 FUEL (0, c_1)) (fun qy_6 => (sumC qy_6 (fun (qy_6 : Bool × (List Int)) => (leaf0_ qy_6.1)) (fun (qy_6 : List Int) => (optC (I.EfficientOk_t qy_6 c_2) (fun c_7 => (bif c_7 then (optC (I.MostPacked_t qy_6) (fun c_8 => (optC (I.FewestWatch_t qy_6) (fun c_9 => (leaf0_ (c_8 == c_9))) fail_)) fail_) else (leaf0_ false))) fail_)))) fail_)))) fail_)) fail_)) fail_))
theorem L.FnEfficientOf_tree_nat {α γ : Type} (g : α → γ) (code : List Int) (leaf0_ : Bool → α) (fail_ : α) : g (L.FnEfficientOf_tree code leaf0_ fail_) = L.FnEfficientOf_tree code (fun d => g (leaf0_ d)) (g fail_) := by
  unfold L.FnEfficientOf_tree; simp only [apply_cnd g, apply_optC g, apply_sumC g]
noncomputable def L.FnEfficientOf_t (code : List Int) : Option (Bool) := L.FnEfficientOf_tree code (fun d => some d) none
theorem L.FnEfficientOf_den (code : List Int) (κ : V → List E → R) : L.FnEfficientOf_F [.ro true (.ints .u8 code)] [] κ = optC (L.FnEfficientOf_t code) (fun (r : Bool) => κ (.bool r) []) none := by
  have hu : L.FnEfficientOf_F [.ro true (.ints .u8 code)] [] κ = L.FnEfficientOf_tree code (fun d => κ (.bool d) []) none := by
    refine Eq.trans (show L.FnEfficientOf_F [.ro true (.ints .u8 code)] [] κ = (bif decide ((↑code.length : Int) > 1048576) then (κ (.bool true) []) else (optC (S.DrawEfficientOf_t code) (fun c_1 => (optC (I.EfficientOf_t c_1) (fun c_2 => (optC (S.EfficientOf_t c_1) (fun c_3 => (bif !c_2 == c_3 then (κ (.bool false) []) else (bif decide (c_2 < 0) then (bif c_2 == -1 then (optC (L.alive_t) (fun c_4 => (κ (.bool c_4) [])) none) else (κ (.bool false) [])) else (L.FnEfficientOf_L10 FUEL { n := 42, t := [(3, (.own 0)), (4, (.int .i64 c_2)), (5, (.int .i64 0))], h := [.row (.ints .i64 c_1)] } (L.FnEfficientOf_k10 κ))))) none)) none)) none)) by kernel_rfl) ?_
    refine cnd_congr ?_ ?_
    · kernel_rfl
    · refine optC_congr (fun c_1 => ?_)
      refine optC_congr (fun c_2 => ?_)
      refine optC_congr (fun c_3 => ?_)
      refine cnd_congr ?_ ?_
      · kernel_rfl
      · refine cnd_congr ?_ ?_
        · kernel_rfl
        · refine (L.FnEfficientOf_L10_run c_2 FUEL (0, c_1) (L.FnEfficientOf_k10 κ)).trans (optC_congr (fun qy_6 => ?_))
          rcases qy_6 with qy_6 | qy_6
          · kernel_rfl
          · kernel_rfl
  rw [hu]
  exact (L.FnEfficientOf_tree_nat (fun o => optC o (fun (r : Bool) => κ (.bool r) []) none) code (fun d => some d) none).symm
noncomputable def L.FnEfficientOf_s : D.Spec where
  keep := true
  pure := true
  ds := [.int .u8]
  sp := fun args h κ => match args, h with
    | [.ro true (.ints .u8 code)], [] => optC (L.FnEfficientOf_t code) (fun (r : Bool) => κ (.bool r) []) none
    | _, _ => none
theorem L.FnEfficientOf_ok : SpecOk Try.prog 9 L.FnEfficientOf_s := by
  refine SpecOk.of TDok mixed (T := L.FnEfficientOf_T) ?_ (ann := L.FnEfficientOf_ann) Try.func9 rfl (by decide +kernel) ?_ ?_ ?_
  · intro p hp
    simp only [L.FnEfficientOf_T, List.mem_cons, List.not_mem_nil, or_false] at hp
    rcases hp with rfl | rfl | rfl | rfl | rfl | rfl | rfl
    · exact S.DrawEfficientOf_ok
    · exact I.EfficientOf_ok
    · exact S.EfficientOf_ok
    · exact L.alive_ok
    · exact I.EfficientOk_ok
    · exact I.MostPacked_ok
    · exact I.FewestWatch_ok
  · intro args h κ r hh
    simp only [L.FnEfficientOf_s] at hh
    split at hh
    · exact (L.FnEfficientOf_den _ κ).trans hh
    · cases hh
  · intro args h κ r hh
    simp only [L.FnEfficientOf_s] at hh ⊢
    split at hh
    · exact optC_law2 (F := fun (r : Bool) κ => κ (.bool r) []) (fun b κ r hb => ⟨_, _, hb, fun _ => rfl⟩) hh
    · cases hh
  · intro _ args h κ r hh
    simp only [L.FnEfficientOf_s] at hh
    split at hh
    · exact ⟨rfl, fun _ => rfl⟩
    · cases hh

-- loop.example/guardsonnets/laws.FnExactEfficientOf
noncomputable def L.FnExactEfficientOf_T : List (Nat × D.Spec) := [(22, L.toIntS_s), (38, S.EfficientOf_s), (37, I.EfficientOf_s), (23, L.eqIntS_s)]
def L.FnExactEfficientOf_ann : Nat → List Nat × List Nat
  | _ => ([], [])
noncomputable def L.FnExactEfficientOf_F (args : List V) (h : List E) (κ : V → List E → R) : R := funC TD (tableK L.FnExactEfficientOf_T) L.FnExactEfficientOf_ann (drawOk (tableP L.FnExactEfficientOf_T)) FUEL Try.f10 args h κ
noncomputable def L.FnExactEfficientOf_tree {α : Type} (aNet : List Int) (leaf0_ : Bool → α) (fail_ : α) : α :=
  (bif decide ((↑aNet.length : Int) > 1048576) then (leaf0_ true) else (optC (L.toIntS_t aNet) (fun c_1 => (optC (S.EfficientOf_t c_1) (fun c_2 => (optC (L.toIntS_t aNet) (fun c_3 => (optC (I.EfficientOf_t c_3) (fun c_4 => (bif !c_4 == c_2 then (leaf0_ false) else (optC (L.toIntS_t aNet) (fun c_5 => (optC (L.eqIntS_t c_3 c_5) (fun c_6 => (bif !c_6 then (leaf0_ false) else (leaf0_ true))) fail_)) fail_))) fail_)) fail_)) fail_)) fail_))
theorem L.FnExactEfficientOf_tree_nat {α γ : Type} (g : α → γ) (aNet : List Int) (leaf0_ : Bool → α) (fail_ : α) : g (L.FnExactEfficientOf_tree aNet leaf0_ fail_) = L.FnExactEfficientOf_tree aNet (fun d => g (leaf0_ d)) (g fail_) := by
  unfold L.FnExactEfficientOf_tree; simp only [apply_cnd g, apply_optC g, apply_sumC g]
noncomputable def L.FnExactEfficientOf_t (aNet : List Int) : Option (Bool) := L.FnExactEfficientOf_tree aNet (fun d => some d) none
theorem L.FnExactEfficientOf_den (aNet : List Int) (κ : V → List E → R) : L.FnExactEfficientOf_F [.ro true (.ints .i64 aNet)] [] κ = optC (L.FnExactEfficientOf_t aNet) (fun (r : Bool) => κ (.bool r) []) none := by
  have hu : L.FnExactEfficientOf_F [.ro true (.ints .i64 aNet)] [] κ = L.FnExactEfficientOf_tree aNet (fun d => κ (.bool d) []) none := by
    kernel_rfl
  rw [hu]
  exact (L.FnExactEfficientOf_tree_nat (fun o => optC o (fun (r : Bool) => κ (.bool r) []) none) aNet (fun d => some d) none).symm
noncomputable def L.FnExactEfficientOf_s : D.Spec where
  keep := true
  pure := true
  ds := [.int .i64]
  sp := fun args h κ => match args, h with
    | [.ro true (.ints .i64 aNet)], [] => optC (L.FnExactEfficientOf_t aNet) (fun (r : Bool) => κ (.bool r) []) none
    | _, _ => none
theorem L.FnExactEfficientOf_ok : SpecOk Try.prog 10 L.FnExactEfficientOf_s := by
  refine SpecOk.of TDok mixed (T := L.FnExactEfficientOf_T) ?_ (ann := L.FnExactEfficientOf_ann) Try.func10 rfl (by decide +kernel) ?_ ?_ ?_
  · intro p hp
    simp only [L.FnExactEfficientOf_T, List.mem_cons, List.not_mem_nil, or_false] at hp
    rcases hp with rfl | rfl | rfl | rfl
    · exact L.toIntS_ok
    · exact S.EfficientOf_ok
    · exact I.EfficientOf_ok
    · exact L.eqIntS_ok
  · intro args h κ r hh
    simp only [L.FnExactEfficientOf_s] at hh
    split at hh
    · exact (L.FnExactEfficientOf_den _ κ).trans hh
    · cases hh
  · intro args h κ r hh
    simp only [L.FnExactEfficientOf_s] at hh ⊢
    split at hh
    · exact optC_law2 (F := fun (r : Bool) κ => κ (.bool r) []) (fun b κ r hb => ⟨_, _, hb, fun _ => rfl⟩) hh
    · cases hh
  · intro _ args h κ r hh
    simp only [L.FnExactEfficientOf_s] at hh
    split at hh
    · exact ⟨rfl, fun _ => rfl⟩
    · cases hh

-- loop.example/guardsonnets/spec.DrawGrownPacked
noncomputable def S.DrawGrownPacked_T : List (Nat × D.Spec) := [(46, S.l20Open_s), (45, S.l20Packed_s)]
def S.DrawGrownPacked_ann : Nat → List Nat × List Nat
  | _ => ([], [])
noncomputable def S.DrawGrownPacked_F (args : List V) (h : List E) (κ : V → List E → R) : R := funC TD (tableK S.DrawGrownPacked_T) S.DrawGrownPacked_ann (drawOk (tableP S.DrawGrownPacked_T)) FUEL Try.f39 args h κ
noncomputable def S.DrawGrownPacked_tree {α : Type} (code : List Int) (leaf0_ : Int × (List Int) → α) (fail_ : α) : α :=
  (optC (S.l20Open_t code) (fun c_1 => (optC (S.l20Packed_t c_1.fst c_1.snd 12) (fun c_2 => (leaf0_ (c_2.fst, c_2.snd.snd.snd))) fail_)) fail_)
theorem S.DrawGrownPacked_tree_nat {α γ : Type} (g : α → γ) (code : List Int) (leaf0_ : Int × (List Int) → α) (fail_ : α) : g (S.DrawGrownPacked_tree code leaf0_ fail_) = S.DrawGrownPacked_tree code (fun d => g (leaf0_ d)) (g fail_) := by
  unfold S.DrawGrownPacked_tree; simp only [apply_cnd g, apply_optC g, apply_sumC g]
noncomputable def S.DrawGrownPacked_t (code : List Int) : Option (Int × (List Int)) := S.DrawGrownPacked_tree code (fun d => some d) none
theorem S.DrawGrownPacked_den (code : List Int) (κ : V → List E → R) : S.DrawGrownPacked_F [.ro true (.ints .u8 code)] [] κ = optC (S.DrawGrownPacked_t code) (fun (r : Int × (List Int)) => κ (.tup [(.own 0), (.int .i64 r.1)]) [.row (.ints .i64 r.2)]) none := by
  have hu : S.DrawGrownPacked_F [.ro true (.ints .u8 code)] [] κ = S.DrawGrownPacked_tree code (fun d => κ (.tup [(.own 0), (.int .i64 d.1)]) [.row (.ints .i64 d.2)]) none := by
    kernel_rfl
  rw [hu]
  exact (S.DrawGrownPacked_tree_nat (fun o => optC o (fun (r : Int × (List Int)) => κ (.tup [(.own 0), (.int .i64 r.1)]) [.row (.ints .i64 r.2)]) none) code (fun d => some d) none).symm
noncomputable def S.DrawGrownPacked_s : D.Spec where
  keep := true
  pure := false
  ds := [.int .u8]
  sp := fun args h κ => match args, h with
    | [.ro true (.ints .u8 code)], [] => optC (S.DrawGrownPacked_t code) (fun (r : Int × (List Int)) => κ (.tup [(.own 0), (.int .i64 r.1)]) [.row (.ints .i64 r.2)]) none
    | _, _ => none
theorem S.DrawGrownPacked_ok : SpecOk Try.prog 39 S.DrawGrownPacked_s := by
  refine SpecOk.of TDok mixed (T := S.DrawGrownPacked_T) ?_ (ann := S.DrawGrownPacked_ann) Try.func39 rfl (by decide +kernel) ?_ ?_ ?_
  · intro p hp
    simp only [S.DrawGrownPacked_T, List.mem_cons, List.not_mem_nil, or_false] at hp
    rcases hp with rfl | rfl
    · exact S.l20Open_ok
    · exact S.l20Packed_ok
  · intro args h κ r hh
    simp only [S.DrawGrownPacked_s] at hh
    split at hh
    · exact (S.DrawGrownPacked_den _ κ).trans hh
    · cases hh
  · intro args h κ r hh
    simp only [S.DrawGrownPacked_s] at hh ⊢
    split at hh
    · exact optC_law2 (F := fun (r : Int × (List Int)) κ => κ (.tup [(.own 0), (.int .i64 r.1)]) [.row (.ints .i64 r.2)]) (fun b κ r hb => ⟨_, _, hb, fun _ => rfl⟩) hh
    · cases hh
  · intro hh; cases hh

-- loop.example/guardsonnets/impl.with
noncomputable def I.with_T : List (Nat × D.Spec) := []
def I.with_ann : Nat → List Nat × List Nat
  | _ => ([], [])
noncomputable def I.with_F (args : List V) (h : List E) (κ : V → List E → R) : R := funC TD (tableK I.with_T) I.with_ann (drawOk (tableP I.with_T)) FUEL Try.f67 args h κ
noncomputable def I.with_tree {α : Type} (set_ : Int) (place : Int) (leaf0_ : Int → α) (fail_ : α) : α :=
  (bif decide (place < 0) then fail_ else (leaf0_ (bits BinOp.or IntKind.i64 set_ (IntKind.i64.wrap (1 * 2 ^ min place.toNat IntKind.i64.bits)))))
theorem I.with_tree_nat {α γ : Type} (g : α → γ) (set_ : Int) (place : Int) (leaf0_ : Int → α) (fail_ : α) : g (I.with_tree set_ place leaf0_ fail_) = I.with_tree set_ place (fun d => g (leaf0_ d)) (g fail_) := by
  unfold I.with_tree; simp only [apply_cnd g, apply_optC g, apply_sumC g]
noncomputable def I.with_t (set_ : Int) (place : Int) : Option (Int) := I.with_tree set_ place (fun d => some d) none
theorem I.with_den (set_ : Int) (place : Int) (κ : V → List E → R) : I.with_F [.int .i64 set_, .int .i64 place] [] κ = optC (I.with_t set_ place) (fun (r : Int) => κ (.int .i64 r) []) none := by
  have hu : I.with_F [.int .i64 set_, .int .i64 place] [] κ = I.with_tree set_ place (fun d => κ (.int .i64 d) []) none := by
    kernel_rfl
  rw [hu]
  exact (I.with_tree_nat (fun o => optC o (fun (r : Int) => κ (.int .i64 r) []) none) set_ place (fun d => some d) none).symm
noncomputable def I.with_s : D.Spec where
  keep := false
  pure := true
  ds := [.invalid, .invalid]
  sp := fun args h κ => match args, h with
    | [.int .i64 set_, .int .i64 place], [] => optC (I.with_t set_ place) (fun (r : Int) => κ (.int .i64 r) []) none
    | _, _ => none
theorem I.with_ok : SpecOk Try.prog 67 I.with_s := by
  refine SpecOk.of TDok mixed (T := I.with_T) ?_ (ann := I.with_ann) Try.func67 rfl (by decide +kernel) ?_ ?_ ?_
  · intro p hp; cases hp
  · intro args h κ r hh
    simp only [I.with_s] at hh
    split at hh
    · exact (I.with_den _ _ κ).trans hh
    · cases hh
  · intro args h κ r hh
    simp only [I.with_s] at hh ⊢
    split at hh
    · exact optC_law2 (F := fun (r : Int) κ => κ (.int .i64 r) []) (fun b κ r hb => ⟨_, _, hb, fun _ => rfl⟩) hh
    · cases hh
  · intro _ args h κ r hh
    simp only [I.with_s] at hh
    split at hh
    · exact ⟨rfl, fun _ => rfl⟩
    · cases hh

-- loop.example/guardsonnets/impl.GrownPacked
noncomputable def I.GrownPacked_T : List (Nat × D.Spec) := [(16, I.PackedOk_s), (67, I.with_s), (48, I.packedIn_s)]
def I.GrownPacked_ann : Nat → List Nat × List Nat
  | 5 => ([0, 5, 6], [5])
  | _ => ([], [])
noncomputable def I.GrownPacked_F (args : List V) (h : List E) (κ : V → List E → R) : R := funC TD (tableK I.GrownPacked_T) I.GrownPacked_ann (drawOk (tableP I.GrownPacked_T)) FUEL Try.f40 args h κ
noncomputable def I.GrownPacked_L5 (n : Nat) (σ : St) (k : X → St → R) : R := iterC 0 (fun σ k => denC TD (tableK I.GrownPacked_T) I.GrownPacked_ann (drawOk (tableP I.GrownPacked_T)) 0 FUEL ((findLoop 5 (Try.f40.body.getD .skip)).getD .skip) σ k) [0, 5, 6] [5] n σ k
noncomputable def I.GrownPacked_k5 (κ : V → List E → R) : X → St → R := (afterC TD (tableK I.GrownPacked_T) I.GrownPacked_ann (drawOk (tableP I.GrownPacked_T)) 0 FUEL 5 (Try.f40.body.getD .skip) (finC TD 0 Try.f40 κ)).getD (fun _ _ => none)
noncomputable def I.GrownPacked_step5 {α : Type} (x0 : List Int) (x5 : Int) (x6 : Int) (next_ : Int × Int → α) (out0_ : Int → α) (fail_ : α) : α :=
  (bif decide (x6 < (↑x0.length : Int)) then (optC (I.with_t x5 x6) (fun c_2 => (optC (I.packedIn_t x0 c_2) (fun c_3 => (bif c_3 then (optC (I.with_t x5 x6) (fun c_4 => (next_ (c_4, IntKind.i64.wrap (x6 + 1)))) fail_) else (next_ (x5, IntKind.i64.wrap (x6 + 1))))) fail_)) fail_) else (out0_ x5))
theorem I.GrownPacked_step5_nat {α γ : Type} (g : α → γ) (x0 : List Int) (x5 : Int) (x6 : Int) (next_ : Int × Int → α) (out0_ : Int → α) (fail_ : α) : g (I.GrownPacked_step5 x0 x5 x6 next_ out0_ fail_) = I.GrownPacked_step5 x0 x5 x6 (fun s => g (next_ s)) (fun d => g (out0_ d)) (g fail_) := by
  unfold I.GrownPacked_step5; simp only [apply_cnd g, apply_optC g, apply_sumC g]
noncomputable def I.GrownPacked_run5 (x0 : List Int) : Nat → Int × Int → Option (Int)
  | 0, _ => none
  | n + 1, s_ => I.GrownPacked_step5 x0 s_.1 s_.2 (I.GrownPacked_run5 x0 n) (fun d => some d) none
theorem I.GrownPacked_L5_run (x0 : List Int) (n : Nat) (s_ : Int × Int) (k : X → St → R) : I.GrownPacked_L5 n { n := 27, t := [(0, (.ro false (.ints .i64 x0))), (5, (.int .i64 s_.1)), (6, (.int .i64 s_.2))], h := [] } k = optC (I.GrownPacked_run5 x0 n s_) (fun (r : Int) => k (.exit 0) { n := 27, t := [(5, (.int .i64 r))], h := [] }) none := by
  induction n generalizing s_ with
  | zero => rfl
  | succ n ih =>
    have hu : I.GrownPacked_L5 (n + 1) { n := 27, t := [(0, (.ro false (.ints .i64 x0))), (5, (.int .i64 s_.1)), (6, (.int .i64 s_.2))], h := [] } k = I.GrownPacked_step5 x0 s_.1 s_.2 (fun s_ => I.GrownPacked_L5 n { n := 27, t := [(0, (.ro false (.ints .i64 x0))), (5, (.int .i64 s_.1)), (6, (.int .i64 s_.2))], h := [] } k) (fun d => k (.exit 0) { n := 27, t := [(5, (.int .i64 d))], h := [] }) none := by
      kernel_rfl
    have hs : (fun s_ : Int × Int => I.GrownPacked_L5 n { n := 27, t := [(0, (.ro false (.ints .i64 x0))), (5, (.int .i64 s_.1)), (6, (.int .i64 s_.2))], h := [] } k) = fun s_ => optC (I.GrownPacked_run5 x0 n s_) (fun (r : Int) => k (.exit 0) { n := 27, t := [(5, (.int .i64 r))], h := [] }) none := funext ih
    rw [hu, hs]
    exact (I.GrownPacked_step5_nat (fun o => optC o (fun (r : Int) => k (.exit 0) { n := 27, t := [(5, (.int .i64 r))], h := [] }) none) x0 s_.1 s_.2 (I.GrownPacked_run5 x0 n) (fun d => some d) none).symm
noncomputable def I.GrownPacked_tree {α : Type} (net : List Int) (set_ : Int) (leaf0_ : Int → α) (fail_ : α) : α :=
  (optC (I.PackedOk_t net set_) (fun c_1 => (bif !c_1 then (leaf0_ (-1)) else (optC (I.GrownPacked_run5 net FUEL (set_, 0)) (fun qy_5 => (leaf0_ qy_5)) fail_))) fail_)
theorem I.GrownPacked_tree_nat {α γ : Type} (g : α → γ) (net : List Int) (set_ : Int) (leaf0_ : Int → α) (fail_ : α) : g (I.GrownPacked_tree net set_ leaf0_ fail_) = I.GrownPacked_tree net set_ (fun d => g (leaf0_ d)) (g fail_) := by
  unfold I.GrownPacked_tree; simp only [apply_cnd g, apply_optC g, apply_sumC g]
noncomputable def I.GrownPacked_t (net : List Int) (set_ : Int) : Option (Int) := I.GrownPacked_tree net set_ (fun d => some d) none
theorem I.GrownPacked_den (net : List Int) (set_ : Int) (κ : V → List E → R) : I.GrownPacked_F [.ro false (.ints .i64 net), .int .i64 set_] [] κ = optC (I.GrownPacked_t net set_) (fun (r : Int) => κ (.int .i64 r) []) none := by
  have hu : I.GrownPacked_F [.ro false (.ints .i64 net), .int .i64 set_] [] κ = I.GrownPacked_tree net set_ (fun d => κ (.int .i64 d) []) none := by
    refine Eq.trans (show I.GrownPacked_F [.ro false (.ints .i64 net), .int .i64 set_] [] κ = (optC (I.PackedOk_t net set_) (fun c_1 => (bif !c_1 then (κ (.int .i64 (-1)) []) else (I.GrownPacked_L5 FUEL { n := 27, t := [(0, (.ro false (.ints .i64 net))), (5, (.int .i64 set_)), (6, (.int .i64 0))], h := [] } (I.GrownPacked_k5 κ)))) none) by kernel_rfl) ?_
    refine optC_congr (fun c_1 => ?_)
    refine cnd_congr ?_ ?_
    · kernel_rfl
    · refine (I.GrownPacked_L5_run net FUEL (set_, 0) (I.GrownPacked_k5 κ)).trans (optC_congr (fun qy_5 => ?_))
      kernel_rfl
  rw [hu]
  exact (I.GrownPacked_tree_nat (fun o => optC o (fun (r : Int) => κ (.int .i64 r) []) none) net set_ (fun d => some d) none).symm
noncomputable def I.GrownPacked_s : D.Spec where
  keep := false
  pure := true
  ds := [.int .i64, .invalid]
  sp := fun args h κ => match args, h with
    | [.ro false (.ints .i64 net), .int .i64 set_], [] => optC (I.GrownPacked_t net set_) (fun (r : Int) => κ (.int .i64 r) []) none
    | _, _ => none
theorem I.GrownPacked_ok : SpecOk Try.prog 40 I.GrownPacked_s := by
  refine SpecOk.of TDok mixed (T := I.GrownPacked_T) ?_ (ann := I.GrownPacked_ann) Try.func40 rfl (by decide +kernel) ?_ ?_ ?_
  · intro p hp
    simp only [I.GrownPacked_T, List.mem_cons, List.not_mem_nil, or_false] at hp
    rcases hp with rfl | rfl | rfl
    · exact I.PackedOk_ok
    · exact I.with_ok
    · exact I.packedIn_ok
  · intro args h κ r hh
    simp only [I.GrownPacked_s] at hh
    split at hh
    · exact (I.GrownPacked_den _ _ κ).trans hh
    · cases hh
  · intro args h κ r hh
    simp only [I.GrownPacked_s] at hh ⊢
    split at hh
    · exact optC_law2 (F := fun (r : Int) κ => κ (.int .i64 r) []) (fun b κ r hb => ⟨_, _, hb, fun _ => rfl⟩) hh
    · cases hh
  · intro _ args h κ r hh
    simp only [I.GrownPacked_s] at hh
    split at hh
    · exact ⟨rfl, fun _ => rfl⟩
    · cases hh

-- loop.example/guardsonnets/spec.GrownPacked
noncomputable def S.GrownPacked_T : List (Nat × D.Spec) := [(17, S.PackedOk_s), (50, S.l11Packed_s)]
def S.GrownPacked_ann : Nat → List Nat × List Nat
  | 4 => ([0, 1, 5], [1])
  | _ => ([], [])
noncomputable def S.GrownPacked_F (args : List V) (h : List E) (κ : V → List E → R) : R := funC TD (tableK S.GrownPacked_T) S.GrownPacked_ann (drawOk (tableP S.GrownPacked_T)) FUEL Try.f41 args h κ
noncomputable def S.GrownPacked_L4 (n : Nat) (σ : St) (k : X → St → R) : R := iterC 0 (fun σ k => denC TD (tableK S.GrownPacked_T) S.GrownPacked_ann (drawOk (tableP S.GrownPacked_T)) 0 FUEL ((findLoop 4 (Try.f41.body.getD .skip)).getD .skip) σ k) [0, 1, 5] [1] n σ k
noncomputable def S.GrownPacked_k4 (κ : V → List E → R) : X → St → R := (afterC TD (tableK S.GrownPacked_T) S.GrownPacked_ann (drawOk (tableP S.GrownPacked_T)) 0 FUEL 4 (Try.f41.body.getD .skip) (finC TD 0 Try.f41 κ)).getD (fun _ _ => none)
noncomputable def S.GrownPacked_step4 {α : Type} (x0 : List Int) (x1 : Int) (x5 : Int) (next_ : Int × Int → α) (out0_ : Int → α) (fail_ : α) : α :=
  (bif decide (x5 < (↑x0.length : Int)) then (bif decide (x5 < 0) then fail_ else (optC (S.l11Packed_t x0 (bits BinOp.or IntKind.i64 x1 (IntKind.i64.wrap (1 * 2 ^ min x5.toNat IntKind.i64.bits)))) (fun c_2 => (bif c_2 then (bif decide (x5 < 0) then fail_ else (next_ (bits BinOp.or IntKind.i64 x1 (IntKind.i64.wrap (1 * 2 ^ min x5.toNat IntKind.i64.bits)), IntKind.i64.wrap (x5 + 1)))) else (next_ (x1, IntKind.i64.wrap (x5 + 1))))) fail_)) else (out0_ x1))
theorem S.GrownPacked_step4_nat {α γ : Type} (g : α → γ) (x0 : List Int) (x1 : Int) (x5 : Int) (next_ : Int × Int → α) (out0_ : Int → α) (fail_ : α) : g (S.GrownPacked_step4 x0 x1 x5 next_ out0_ fail_) = S.GrownPacked_step4 x0 x1 x5 (fun s => g (next_ s)) (fun d => g (out0_ d)) (g fail_) := by
  unfold S.GrownPacked_step4; simp only [apply_cnd g, apply_optC g, apply_sumC g]
noncomputable def S.GrownPacked_run4 (x0 : List Int) : Nat → Int × Int → Option (Int)
  | 0, _ => none
  | n + 1, s_ => S.GrownPacked_step4 x0 s_.1 s_.2 (S.GrownPacked_run4 x0 n) (fun d => some d) none
theorem S.GrownPacked_L4_run (x0 : List Int) (n : Nat) (s_ : Int × Int) (k : X → St → R) : S.GrownPacked_L4 n { n := 27, t := [(0, (.ro false (.ints .i64 x0))), (1, (.int .i64 s_.1)), (5, (.int .i64 s_.2))], h := [] } k = optC (S.GrownPacked_run4 x0 n s_) (fun (r : Int) => k (.exit 0) { n := 27, t := [(1, (.int .i64 r))], h := [] }) none := by
  induction n generalizing s_ with
  | zero => rfl
  | succ n ih =>
    have hu : S.GrownPacked_L4 (n + 1) { n := 27, t := [(0, (.ro false (.ints .i64 x0))), (1, (.int .i64 s_.1)), (5, (.int .i64 s_.2))], h := [] } k = S.GrownPacked_step4 x0 s_.1 s_.2 (fun s_ => S.GrownPacked_L4 n { n := 27, t := [(0, (.ro false (.ints .i64 x0))), (1, (.int .i64 s_.1)), (5, (.int .i64 s_.2))], h := [] } k) (fun d => k (.exit 0) { n := 27, t := [(1, (.int .i64 d))], h := [] }) none := by
      kernel_rfl
    have hs : (fun s_ : Int × Int => S.GrownPacked_L4 n { n := 27, t := [(0, (.ro false (.ints .i64 x0))), (1, (.int .i64 s_.1)), (5, (.int .i64 s_.2))], h := [] } k) = fun s_ => optC (S.GrownPacked_run4 x0 n s_) (fun (r : Int) => k (.exit 0) { n := 27, t := [(1, (.int .i64 r))], h := [] }) none := funext ih
    rw [hu, hs]
    exact (S.GrownPacked_step4_nat (fun o => optC o (fun (r : Int) => k (.exit 0) { n := 27, t := [(1, (.int .i64 r))], h := [] }) none) x0 s_.1 s_.2 (S.GrownPacked_run4 x0 n) (fun d => some d) none).symm
noncomputable def S.GrownPacked_tree {α : Type} (net : List Int) (set_ : Int) (leaf0_ : Int → α) (fail_ : α) : α :=
  (optC (S.PackedOk_t net set_) (fun c_1 => (bif !c_1 then (leaf0_ (-1)) else (optC (S.GrownPacked_run4 net FUEL (set_, 0)) (fun qy_3 => (leaf0_ qy_3)) fail_))) fail_)
theorem S.GrownPacked_tree_nat {α γ : Type} (g : α → γ) (net : List Int) (set_ : Int) (leaf0_ : Int → α) (fail_ : α) : g (S.GrownPacked_tree net set_ leaf0_ fail_) = S.GrownPacked_tree net set_ (fun d => g (leaf0_ d)) (g fail_) := by
  unfold S.GrownPacked_tree; simp only [apply_cnd g, apply_optC g, apply_sumC g]
noncomputable def S.GrownPacked_t (net : List Int) (set_ : Int) : Option (Int) := S.GrownPacked_tree net set_ (fun d => some d) none
theorem S.GrownPacked_den (net : List Int) (set_ : Int) (κ : V → List E → R) : S.GrownPacked_F [.ro false (.ints .i64 net), .int .i64 set_] [] κ = optC (S.GrownPacked_t net set_) (fun (r : Int) => κ (.int .i64 r) []) none := by
  have hu : S.GrownPacked_F [.ro false (.ints .i64 net), .int .i64 set_] [] κ = S.GrownPacked_tree net set_ (fun d => κ (.int .i64 d) []) none := by
    refine Eq.trans (show S.GrownPacked_F [.ro false (.ints .i64 net), .int .i64 set_] [] κ = (optC (S.PackedOk_t net set_) (fun c_1 => (bif !c_1 then (κ (.int .i64 (-1)) []) else (S.GrownPacked_L4 FUEL { n := 27, t := [(0, (.ro false (.ints .i64 net))), (1, (.int .i64 set_)), (5, (.int .i64 0))], h := [] } (S.GrownPacked_k4 κ)))) none) by kernel_rfl) ?_
    refine optC_congr (fun c_1 => ?_)
    refine cnd_congr ?_ ?_
    · kernel_rfl
    · refine (S.GrownPacked_L4_run net FUEL (set_, 0) (S.GrownPacked_k4 κ)).trans (optC_congr (fun qy_3 => ?_))
      kernel_rfl
  rw [hu]
  exact (S.GrownPacked_tree_nat (fun o => optC o (fun (r : Int) => κ (.int .i64 r) []) none) net set_ (fun d => some d) none).symm
noncomputable def S.GrownPacked_s : D.Spec where
  keep := false
  pure := true
  ds := [.int .i64, .invalid]
  sp := fun args h κ => match args, h with
    | [.ro false (.ints .i64 net), .int .i64 set_], [] => optC (S.GrownPacked_t net set_) (fun (r : Int) => κ (.int .i64 r) []) none
    | _, _ => none
theorem S.GrownPacked_ok : SpecOk Try.prog 41 S.GrownPacked_s := by
  refine SpecOk.of TDok mixed (T := S.GrownPacked_T) ?_ (ann := S.GrownPacked_ann) Try.func41 rfl (by decide +kernel) ?_ ?_ ?_
  · intro p hp
    simp only [S.GrownPacked_T, List.mem_cons, List.not_mem_nil, or_false] at hp
    rcases hp with rfl | rfl
    · exact S.PackedOk_ok
    · exact S.l11Packed_ok
  · intro args h κ r hh
    simp only [S.GrownPacked_s] at hh
    split at hh
    · exact (S.GrownPacked_den _ _ κ).trans hh
    · cases hh
  · intro args h κ r hh
    simp only [S.GrownPacked_s] at hh ⊢
    split at hh
    · exact optC_law2 (F := fun (r : Int) κ => κ (.int .i64 r) []) (fun b κ r hb => ⟨_, _, hb, fun _ => rfl⟩) hh
    · cases hh
  · intro _ args h κ r hh
    simp only [S.GrownPacked_s] at hh
    split at hh
    · exact ⟨rfl, fun _ => rfl⟩
    · cases hh

-- loop.example/guardsonnets/laws.FnGrownPacked
noncomputable def L.FnGrownPacked_T : List (Nat × D.Spec) := [(39, S.DrawGrownPacked_s), (40, I.GrownPacked_s), (41, S.GrownPacked_s), (16, I.PackedOk_s), (19, L.alive_s)]
def L.FnGrownPacked_ann : Nat → List Nat × List Nat
  | 10 => ([3, 4, 5, 6], [2, 3, 4, 5])
  | _ => ([], [])
noncomputable def L.FnGrownPacked_F (args : List V) (h : List E) (κ : V → List E → R) : R := funC TD (tableK L.FnGrownPacked_T) L.FnGrownPacked_ann (drawOk (tableP L.FnGrownPacked_T)) FUEL Try.f11 args h κ
noncomputable def L.FnGrownPacked_L10 (n : Nat) (σ : St) (k : X → St → R) : R := iterC 0 (fun σ k => denC TD (tableK L.FnGrownPacked_T) L.FnGrownPacked_ann (drawOk (tableP L.FnGrownPacked_T)) 0 FUEL ((findLoop 10 (Try.f11.body.getD .skip)).getD .skip) σ k) [3, 4, 5, 6] [2, 3, 4, 5] n σ k
noncomputable def L.FnGrownPacked_k10 (κ : V → List E → R) : X → St → R := (afterC TD (tableK L.FnGrownPacked_T) L.FnGrownPacked_ann (drawOk (tableP L.FnGrownPacked_T)) 0 FUEL 10 (Try.f11.body.getD .skip) (finC TD 0 Try.f11 κ)).getD (fun _ _ => none)
noncomputable def L.FnGrownPacked_step10 {α : Type} (x4 : Int) (x5 : Int) (x6 : Int) (r0 : List Int) (next_ : Int × (List Int) → α) (out0_ : Bool × (List Int) → α) (out1_ : List Int → α) (fail_ : α) : α :=
  (bif decide (x6 < (↑r0.length : Int)) then (bif decide (x6 < 0) then fail_ else (bif (x5.fdiv (2 ^ min x6.toNat IntKind.i64.bits)).tmod 2 == 0 then (bif decide (x6 < 0) then fail_ else (optC (I.PackedOk_t r0 (bits BinOp.or IntKind.i64 x5 (IntKind.i64.wrap (1 * 2 ^ min x6.toNat IntKind.i64.bits)))) (fun c_6 => (bif c_6 then (out0_ (false, r0)) else (next_ (IntKind.i64.wrap (x6 + 1), r0)))) fail_)) else (next_ (IntKind.i64.wrap (x6 + 1), r0)))) else (out1_ r0))
theorem L.FnGrownPacked_step10_nat {α γ : Type} (g : α → γ) (x4 : Int) (x5 : Int) (x6 : Int) (r0 : List Int) (next_ : Int × (List Int) → α) (out0_ : Bool × (List Int) → α) (out1_ : List Int → α) (fail_ : α) : g (L.FnGrownPacked_step10 x4 x5 x6 r0 next_ out0_ out1_ fail_) = L.FnGrownPacked_step10 x4 x5 x6 r0 (fun s => g (next_ s)) (fun d => g (out0_ d)) (fun d => g (out1_ d)) (g fail_) := by
  unfold L.FnGrownPacked_step10; simp only [apply_cnd g, apply_optC g, apply_sumC g]
noncomputable def L.FnGrownPacked_run10 (x4 : Int) (x5 : Int) : Nat → Int × (List Int) → Option ((Bool × (List Int)) ⊕ (List Int))
  | 0, _ => none
  | n + 1, s_ => L.FnGrownPacked_step10 x4 x5 s_.1 s_.2 (L.FnGrownPacked_run10 x4 x5 n) (fun d => some ((Sum.inl d))) (fun d => some ((Sum.inr d))) none
theorem L.FnGrownPacked_L10_run (x4 : Int) (x5 : Int) (n : Nat) (s_ : Int × (List Int)) (k : X → St → R) : L.FnGrownPacked_L10 n { n := 64, t := [(3, (.own 0)), (4, (.int .i64 x4)), (5, (.int .i64 x5)), (6, (.int .i64 s_.1))], h := [.row (.ints .i64 s_.2)] } k = optC (L.FnGrownPacked_run10 x4 x5 n s_) (fun (r : (Bool × (List Int)) ⊕ (List Int)) => (sumC r (fun (r : Bool × (List Int)) => k (.ret) { n := 64, t := [(2, (.bool r.1)), (3, (.own 0)), (4, (.int .i64 x4)), (5, (.int .i64 x5))], h := [.row (.ints .i64 r.2)] }) (fun (r : List Int) => k (.exit 0) { n := 64, t := [(2, .junk), (3, (.own 0)), (4, (.int .i64 x4)), (5, (.int .i64 x5))], h := [.row (.ints .i64 r)] }))) none := by
  induction n generalizing s_ with
  | zero => rfl
  | succ n ih =>
    have hu : L.FnGrownPacked_L10 (n + 1) { n := 64, t := [(3, (.own 0)), (4, (.int .i64 x4)), (5, (.int .i64 x5)), (6, (.int .i64 s_.1))], h := [.row (.ints .i64 s_.2)] } k = L.FnGrownPacked_step10 x4 x5 s_.1 s_.2 (fun s_ => L.FnGrownPacked_L10 n { n := 64, t := [(3, (.own 0)), (4, (.int .i64 x4)), (5, (.int .i64 x5)), (6, (.int .i64 s_.1))], h := [.row (.ints .i64 s_.2)] } k) (fun d => k (.ret) { n := 64, t := [(2, (.bool d.1)), (3, (.own 0)), (4, (.int .i64 x4)), (5, (.int .i64 x5))], h := [.row (.ints .i64 d.2)] }) (fun d => k (.exit 0) { n := 64, t := [(2, .junk), (3, (.own 0)), (4, (.int .i64 x4)), (5, (.int .i64 x5))], h := [.row (.ints .i64 d)] }) none := by
      kernel_rfl
    have hs : (fun s_ : Int × (List Int) => L.FnGrownPacked_L10 n { n := 64, t := [(3, (.own 0)), (4, (.int .i64 x4)), (5, (.int .i64 x5)), (6, (.int .i64 s_.1))], h := [.row (.ints .i64 s_.2)] } k) = fun s_ => optC (L.FnGrownPacked_run10 x4 x5 n s_) (fun (r : (Bool × (List Int)) ⊕ (List Int)) => (sumC r (fun (r : Bool × (List Int)) => k (.ret) { n := 64, t := [(2, (.bool r.1)), (3, (.own 0)), (4, (.int .i64 x4)), (5, (.int .i64 x5))], h := [.row (.ints .i64 r.2)] }) (fun (r : List Int) => k (.exit 0) { n := 64, t := [(2, .junk), (3, (.own 0)), (4, (.int .i64 x4)), (5, (.int .i64 x5))], h := [.row (.ints .i64 r)] }))) none := funext ih
    rw [hu, hs]
    exact (L.FnGrownPacked_step10_nat (fun o => optC o (fun (r : (Bool × (List Int)) ⊕ (List Int)) => (sumC r (fun (r : Bool × (List Int)) => k (.ret) { n := 64, t := [(2, (.bool r.1)), (3, (.own 0)), (4, (.int .i64 x4)), (5, (.int .i64 x5))], h := [.row (.ints .i64 r.2)] }) (fun (r : List Int) => k (.exit 0) { n := 64, t := [(2, .junk), (3, (.own 0)), (4, (.int .i64 x4)), (5, (.int .i64 x5))], h := [.row (.ints .i64 r)] }))) none) x4 x5 s_.1 s_.2 (L.FnGrownPacked_run10 x4 x5 n) (fun d => some ((Sum.inl d))) (fun d => some ((Sum.inr d))) none).symm
noncomputable def L.FnGrownPacked_tree {α : Type} (code : List Int) (leaf0_ : Bool → α) (fail_ : α) : α :=
  (bif decide ((↑code.length : Int) > 1048576) then (leaf0_ true) else (optC (S.DrawGrownPacked_t code) (fun c_1 => (optC (I.GrownPacked_t c_1.snd c_1.fst) (fun c_2 => (optC (S.GrownPacked_t c_1.snd c_1.fst) (fun c_3 => (bif !c_2 == c_3 then (leaf0_ false) else (bif decide (c_2 < 0) then (bif c_2 == -1 then (optC (I.PackedOk_t c_1.snd c_1.fst) (fun c_4 => (bif !c_4 then (optC (L.alive_t) (fun c_5 => (leaf0_ c_5)) fail_) else (leaf0_ false))) fail_) else (leaf0_ false)) else (optC (L.FnGrownPacked_run10 c_1.fst c_2 FUEL (0, c_1.snd)) (fun qy_7 => (sumC qy_7 (fun (qy_7 : Bool × (List Int)) => (leaf0_ qy_7.1)) (fun (qy_7 : List Int) => (optC (I.PackedOk_t qy_7 c_2) (fun c_8 => (bif c_8 then (leaf0_ (bits BinOp.andNot IntKind.i64 c_1.fst c_2 == 0)) else (leaf0_ false))) fail_)))) fail_)))) fail_)) fail_)) fail_))
theorem L.FnGrownPacked_tree_nat {α γ : Type} (g : α → γ) (code : List Int) (leaf0_ : Bool → α) (fail_ : α) : g (L.FnGrownPacked_tree code leaf0_ fail_) = L.FnGrownPacked_tree code (fun d => g (leaf0_ d)) (g fail_) := by
  unfold L.FnGrownPacked_tree; simp only [apply_cnd g, apply_optC g, apply_sumC g]
noncomputable def L.FnGrownPacked_t (code : List Int) : Option (Bool) := L.FnGrownPacked_tree code (fun d => some d) none
theorem L.FnGrownPacked_den (code : List Int) (κ : V → List E → R) : L.FnGrownPacked_F [.ro true (.ints .u8 code)] [] κ = optC (L.FnGrownPacked_t code) (fun (r : Bool) => κ (.bool r) []) none := by
  have hu : L.FnGrownPacked_F [.ro true (.ints .u8 code)] [] κ = L.FnGrownPacked_tree code (fun d => κ (.bool d) []) none := by
    refine Eq.trans (show L.FnGrownPacked_F [.ro true (.ints .u8 code)] [] κ = (bif decide ((↑code.length : Int) > 1048576) then (κ (.bool true) []) else (optC (S.DrawGrownPacked_t code) (fun c_1 => (optC (I.GrownPacked_t c_1.snd c_1.fst) (fun c_2 => (optC (S.GrownPacked_t c_1.snd c_1.fst) (fun c_3 => (bif !c_2 == c_3 then (κ (.bool false) []) else (bif decide (c_2 < 0) then (bif c_2 == -1 then (optC (I.PackedOk_t c_1.snd c_1.fst) (fun c_4 => (bif !c_4 then (optC (L.alive_t) (fun c_5 => (κ (.bool c_5) [])) none) else (κ (.bool false) []))) none) else (κ (.bool false) [])) else (L.FnGrownPacked_L10 FUEL { n := 64, t := [(3, (.own 0)), (4, (.int .i64 c_1.fst)), (5, (.int .i64 c_2)), (6, (.int .i64 0))], h := [.row (.ints .i64 c_1.snd)] } (L.FnGrownPacked_k10 κ))))) none)) none)) none)) by kernel_rfl) ?_
    refine cnd_congr ?_ ?_
    · kernel_rfl
    · refine optC_congr (fun c_1 => ?_)
      refine optC_congr (fun c_2 => ?_)
      refine optC_congr (fun c_3 => ?_)
      refine cnd_congr ?_ ?_
      · kernel_rfl
      · refine cnd_congr ?_ ?_
        · kernel_rfl
        · refine (L.FnGrownPacked_L10_run c_1.fst c_2 FUEL (0, c_1.snd) (L.FnGrownPacked_k10 κ)).trans (optC_congr (fun qy_7 => ?_))
          rcases qy_7 with qy_7 | qy_7
          · kernel_rfl
          · kernel_rfl
  rw [hu]
  exact (L.FnGrownPacked_tree_nat (fun o => optC o (fun (r : Bool) => κ (.bool r) []) none) code (fun d => some d) none).symm
noncomputable def L.FnGrownPacked_s : D.Spec where
  keep := true
  pure := true
  ds := [.int .u8]
  sp := fun args h κ => match args, h with
    | [.ro true (.ints .u8 code)], [] => optC (L.FnGrownPacked_t code) (fun (r : Bool) => κ (.bool r) []) none
    | _, _ => none
theorem L.FnGrownPacked_ok : SpecOk Try.prog 11 L.FnGrownPacked_s := by
  refine SpecOk.of TDok mixed (T := L.FnGrownPacked_T) ?_ (ann := L.FnGrownPacked_ann) Try.func11 rfl (by decide +kernel) ?_ ?_ ?_
  · intro p hp
    simp only [L.FnGrownPacked_T, List.mem_cons, List.not_mem_nil, or_false] at hp
    rcases hp with rfl | rfl | rfl | rfl | rfl
    · exact S.DrawGrownPacked_ok
    · exact I.GrownPacked_ok
    · exact S.GrownPacked_ok
    · exact I.PackedOk_ok
    · exact L.alive_ok
  · intro args h κ r hh
    simp only [L.FnGrownPacked_s] at hh
    split at hh
    · exact (L.FnGrownPacked_den _ κ).trans hh
    · cases hh
  · intro args h κ r hh
    simp only [L.FnGrownPacked_s] at hh ⊢
    split at hh
    · exact optC_law2 (F := fun (r : Bool) κ => κ (.bool r) []) (fun b κ r hb => ⟨_, _, hb, fun _ => rfl⟩) hh
    · cases hh
  · intro _ args h κ r hh
    simp only [L.FnGrownPacked_s] at hh
    split at hh
    · exact ⟨rfl, fun _ => rfl⟩
    · cases hh

-- loop.example/guardsonnets/laws.FnExactGrownPacked
noncomputable def L.FnExactGrownPacked_T : List (Nat × D.Spec) := [(22, L.toIntS_s), (41, S.GrownPacked_s), (40, I.GrownPacked_s), (23, L.eqIntS_s)]
def L.FnExactGrownPacked_ann : Nat → List Nat × List Nat
  | _ => ([], [])
noncomputable def L.FnExactGrownPacked_F (args : List V) (h : List E) (κ : V → List E → R) : R := funC TD (tableK L.FnExactGrownPacked_T) L.FnExactGrownPacked_ann (drawOk (tableP L.FnExactGrownPacked_T)) FUEL Try.f12 args h κ
noncomputable def L.FnExactGrownPacked_tree {α : Type} (aNet : List Int) (aSet : Int) (leaf0_ : Bool → α) (fail_ : α) : α :=
  (bif decide ((↑aNet.length : Int) > 1048576) then (leaf0_ true) else (optC (L.toIntS_t aNet) (fun c_1 => (optC (S.GrownPacked_t c_1 aSet) (fun c_2 => (optC (L.toIntS_t aNet) (fun c_3 => (optC (I.GrownPacked_t c_3 aSet) (fun c_4 => (bif !c_4 == c_2 then (leaf0_ false) else (optC (L.toIntS_t aNet) (fun c_5 => (optC (L.eqIntS_t c_3 c_5) (fun c_6 => (bif !c_6 then (leaf0_ false) else (leaf0_ true))) fail_)) fail_))) fail_)) fail_)) fail_)) fail_))
theorem L.FnExactGrownPacked_tree_nat {α γ : Type} (g : α → γ) (aNet : List Int) (aSet : Int) (leaf0_ : Bool → α) (fail_ : α) : g (L.FnExactGrownPacked_tree aNet aSet leaf0_ fail_) = L.FnExactGrownPacked_tree aNet aSet (fun d => g (leaf0_ d)) (g fail_) := by
  unfold L.FnExactGrownPacked_tree; simp only [apply_cnd g, apply_optC g, apply_sumC g]
noncomputable def L.FnExactGrownPacked_t (aNet : List Int) (aSet : Int) : Option (Bool) := L.FnExactGrownPacked_tree aNet aSet (fun d => some d) none
theorem L.FnExactGrownPacked_den (aNet : List Int) (aSet : Int) (κ : V → List E → R) : L.FnExactGrownPacked_F [.ro true (.ints .i64 aNet), .int .i64 aSet] [] κ = optC (L.FnExactGrownPacked_t aNet aSet) (fun (r : Bool) => κ (.bool r) []) none := by
  have hu : L.FnExactGrownPacked_F [.ro true (.ints .i64 aNet), .int .i64 aSet] [] κ = L.FnExactGrownPacked_tree aNet aSet (fun d => κ (.bool d) []) none := by
    kernel_rfl
  rw [hu]
  exact (L.FnExactGrownPacked_tree_nat (fun o => optC o (fun (r : Bool) => κ (.bool r) []) none) aNet aSet (fun d => some d) none).symm
noncomputable def L.FnExactGrownPacked_s : D.Spec where
  keep := true
  pure := true
  ds := [.int .i64, .invalid]
  sp := fun args h κ => match args, h with
    | [.ro true (.ints .i64 aNet), .int .i64 aSet], [] => optC (L.FnExactGrownPacked_t aNet aSet) (fun (r : Bool) => κ (.bool r) []) none
    | _, _ => none
theorem L.FnExactGrownPacked_ok : SpecOk Try.prog 12 L.FnExactGrownPacked_s := by
  refine SpecOk.of TDok mixed (T := L.FnExactGrownPacked_T) ?_ (ann := L.FnExactGrownPacked_ann) Try.func12 rfl (by decide +kernel) ?_ ?_ ?_
  · intro p hp
    simp only [L.FnExactGrownPacked_T, List.mem_cons, List.not_mem_nil, or_false] at hp
    rcases hp with rfl | rfl | rfl | rfl
    · exact L.toIntS_ok
    · exact S.GrownPacked_ok
    · exact I.GrownPacked_ok
    · exact L.eqIntS_ok
  · intro args h κ r hh
    simp only [L.FnExactGrownPacked_s] at hh
    split at hh
    · exact (L.FnExactGrownPacked_den _ _ κ).trans hh
    · cases hh
  · intro args h κ r hh
    simp only [L.FnExactGrownPacked_s] at hh ⊢
    split at hh
    · exact optC_law2 (F := fun (r : Bool) κ => κ (.bool r) []) (fun b κ r hb => ⟨_, _, hb, fun _ => rfl⟩) hh
    · cases hh
  · intro _ args h κ r hh
    simp only [L.FnExactGrownPacked_s] at hh
    split at hh
    · exact ⟨rfl, fun _ => rfl⟩
    · cases hh

-- loop.example/guardsonnets/spec.DrawForestOk
noncomputable def S.DrawForestOk_T : List (Nat × D.Spec) := [(46, S.l20Open_s), (54, S.l20Net_s)]
def S.DrawForestOk_ann : Nat → List Nat × List Nat
  | _ => ([], [])
noncomputable def S.DrawForestOk_F (args : List V) (h : List E) (κ : V → List E → R) : R := funC TD (tableK S.DrawForestOk_T) S.DrawForestOk_ann (drawOk (tableP S.DrawForestOk_T)) FUEL Try.f42 args h κ
noncomputable def S.DrawForestOk_tree {α : Type} (code : List Int) (leaf0_ : List Int → α) (fail_ : α) : α :=
  (optC (S.l20Open_t code) (fun c_1 => (optC (S.l20Net_t c_1.fst c_1.snd 9) (fun c_2 => (leaf0_ c_2.snd.snd)) fail_)) fail_)
theorem S.DrawForestOk_tree_nat {α γ : Type} (g : α → γ) (code : List Int) (leaf0_ : List Int → α) (fail_ : α) : g (S.DrawForestOk_tree code leaf0_ fail_) = S.DrawForestOk_tree code (fun d => g (leaf0_ d)) (g fail_) := by
  unfold S.DrawForestOk_tree; simp only [apply_cnd g, apply_optC g, apply_sumC g]
noncomputable def S.DrawForestOk_t (code : List Int) : Option (List Int) := S.DrawForestOk_tree code (fun d => some d) none
theorem S.DrawForestOk_den (code : List Int) (κ : V → List E → R) : S.DrawForestOk_F [.ro true (.ints .u8 code)] [] κ = optC (S.DrawForestOk_t code) (fun (r : List Int) => κ (.own 0) [.row (.ints .i64 r)]) none := by
  have hu : S.DrawForestOk_F [.ro true (.ints .u8 code)] [] κ = S.DrawForestOk_tree code (fun d => κ (.own 0) [.row (.ints .i64 d)]) none := by
    kernel_rfl
  rw [hu]
  exact (S.DrawForestOk_tree_nat (fun o => optC o (fun (r : List Int) => κ (.own 0) [.row (.ints .i64 r)]) none) code (fun d => some d) none).symm
noncomputable def S.DrawForestOk_s : D.Spec where
  keep := true
  pure := false
  ds := [.int .u8]
  sp := fun args h κ => match args, h with
    | [.ro true (.ints .u8 code)], [] => optC (S.DrawForestOk_t code) (fun (r : List Int) => κ (.own 0) [.row (.ints .i64 r)]) none
    | _, _ => none
theorem S.DrawForestOk_ok : SpecOk Try.prog 42 S.DrawForestOk_s := by
  refine SpecOk.of TDok mixed (T := S.DrawForestOk_T) ?_ (ann := S.DrawForestOk_ann) Try.func42 rfl (by decide +kernel) ?_ ?_ ?_
  · intro p hp
    simp only [S.DrawForestOk_T, List.mem_cons, List.not_mem_nil, or_false] at hp
    rcases hp with rfl | rfl
    · exact S.l20Open_ok
    · exact S.l20Net_ok
  · intro args h κ r hh
    simp only [S.DrawForestOk_s] at hh
    split at hh
    · exact (S.DrawForestOk_den _ κ).trans hh
    · cases hh
  · intro args h κ r hh
    simp only [S.DrawForestOk_s] at hh ⊢
    split at hh
    · exact optC_law2 (F := fun (r : List Int) κ => κ (.own 0) [.row (.ints .i64 r)]) (fun b κ r hb => ⟨_, _, hb, fun _ => rfl⟩) hh
    · cases hh
  · intro hh; cases hh


end Go.Proofs.Ytdmpbfbhgokphaa
