/- Twins of the translated functions, with their proofs. Conditions: none. -/
import Derived.Test.YtpnbeljphimifaaT1
set_option linter.unusedVariables false
set_option linter.unusedSimpArgs false
namespace Go.Proofs.Ytpnbeljphimifaa
open D Go.RowKit
-- loop.example/guardsonnets/laws.FnWiresOf
noncomputable def L.FnWiresOf_T : List (Nat × D.Spec) := [(18, S.DrawWiresOf_s), (19, I.WiresOf_s), (20, S.WiresOf_s), (21, I.NetOk_s), (14, L.alive_s), (12, I.BallOf_s), (22, L.sizeOf_s), (23, I.PartMany_s)]
def L.FnWiresOf_ann : Nat → List Nat × List Nat
  | 11 => ([3, 4, 5, 6], [3, 4, 5])
  | _ => ([], [])
noncomputable def L.FnWiresOf_F (args : List V) (h : List E) (κ : V → List E → R) : R := funC TD (tableK L.FnWiresOf_T) L.FnWiresOf_ann (drawOk (tableP L.FnWiresOf_T)) FUEL Try.f5 args h κ
noncomputable def L.FnWiresOf_L11 (n : Nat) (σ : St) (k : X → St → R) : R := iterC 0 (fun σ k => denC TD (tableK L.FnWiresOf_T) L.FnWiresOf_ann (drawOk (tableP L.FnWiresOf_T)) 0 FUEL ((findLoop 11 (Try.f5.body.getD .skip)).getD .skip) σ k) [3, 4, 5, 6] [3, 4, 5] n σ k
noncomputable def L.FnWiresOf_k11 (κ : V → List E → R) : X → St → R := (afterC TD (tableK L.FnWiresOf_T) L.FnWiresOf_ann (drawOk (tableP L.FnWiresOf_T)) 0 FUEL 11 (Try.f5.body.getD .skip) (finC 0 Try.f5 κ)).getD (fun _ _ => none)
noncomputable def L.FnWiresOf_step11 {α : Type} (x4 : Int) (x5 : Int) (x6 : Int) (r0 : List Int) (next_ : Int × Int × (List Int) → α) (out0_ : Int × (List Int) → α) (fail_ : α) : α :=
  (bif decide (x6 < (↑r0.length : Int)) then (optC (I.BallOf_t r0 x6) (fun c_6 => (optC (L.sizeOf_t c_6) (fun c_7 => (next_ (IntKind.i64.wrap (x5 + c_7), IntKind.i64.wrap (x6 + 1), r0))) fail_)) fail_) else (out0_ (x5, r0)))
theorem L.FnWiresOf_step11_nat {α γ : Type} (g : α → γ) (x4 : Int) (x5 : Int) (x6 : Int) (r0 : List Int) (next_ : Int × Int × (List Int) → α) (out0_ : Int × (List Int) → α) (fail_ : α) : g (L.FnWiresOf_step11 x4 x5 x6 r0 next_ out0_ fail_) = L.FnWiresOf_step11 x4 x5 x6 r0 (fun s => g (next_ s)) (fun d => g (out0_ d)) (g fail_) := by
  unfold L.FnWiresOf_step11; simp only [apply_cnd g, apply_optC g, apply_sumC g]
noncomputable def L.FnWiresOf_run11 (x4 : Int) : Nat → Int × Int × (List Int) → Option (Int × (List Int))
  | 0, _ => none
  | n + 1, s_ => L.FnWiresOf_step11 x4 s_.1 s_.2.1 s_.2.2 (L.FnWiresOf_run11 x4 n) (fun d => some d) none
theorem L.FnWiresOf_L11_run (x4 : Int) (n : Nat) (s_ : Int × Int × (List Int)) (k : X → St → R) : L.FnWiresOf_L11 n { n := 58, t := [(3, (.own 0)), (4, (.int .i64 x4)), (5, (.int .i64 s_.1)), (6, (.int .i64 s_.2.1))], h := [.row (.ints .i64 s_.2.2)] } k = optC (L.FnWiresOf_run11 x4 n s_) (fun (r : Int × (List Int)) => k (.exit 0) { n := 58, t := [(3, (.own 0)), (4, (.int .i64 x4)), (5, (.int .i64 r.1))], h := [.row (.ints .i64 r.2)] }) none := by
  induction n generalizing s_ with
  | zero => rfl
  | succ n ih =>
    have hu : L.FnWiresOf_L11 (n + 1) { n := 58, t := [(3, (.own 0)), (4, (.int .i64 x4)), (5, (.int .i64 s_.1)), (6, (.int .i64 s_.2.1))], h := [.row (.ints .i64 s_.2.2)] } k = L.FnWiresOf_step11 x4 s_.1 s_.2.1 s_.2.2 (fun s_ => L.FnWiresOf_L11 n { n := 58, t := [(3, (.own 0)), (4, (.int .i64 x4)), (5, (.int .i64 s_.1)), (6, (.int .i64 s_.2.1))], h := [.row (.ints .i64 s_.2.2)] } k) (fun d => k (.exit 0) { n := 58, t := [(3, (.own 0)), (4, (.int .i64 x4)), (5, (.int .i64 d.1))], h := [.row (.ints .i64 d.2)] }) none := by
      kernel_rfl
    have hs : (fun s_ : Int × Int × (List Int) => L.FnWiresOf_L11 n { n := 58, t := [(3, (.own 0)), (4, (.int .i64 x4)), (5, (.int .i64 s_.1)), (6, (.int .i64 s_.2.1))], h := [.row (.ints .i64 s_.2.2)] } k) = fun s_ => optC (L.FnWiresOf_run11 x4 n s_) (fun (r : Int × (List Int)) => k (.exit 0) { n := 58, t := [(3, (.own 0)), (4, (.int .i64 x4)), (5, (.int .i64 r.1))], h := [.row (.ints .i64 r.2)] }) none := funext ih
    rw [hu, hs]
    exact (L.FnWiresOf_step11_nat (fun o => optC o (fun (r : Int × (List Int)) => k (.exit 0) { n := 58, t := [(3, (.own 0)), (4, (.int .i64 x4)), (5, (.int .i64 r.1))], h := [.row (.ints .i64 r.2)] }) none) x4 s_.1 s_.2.1 s_.2.2 (L.FnWiresOf_run11 x4 n) (fun d => some d) none).symm
noncomputable def L.FnWiresOf_tree {α : Type} (code : List Int) (leaf0_ : Bool → α) (fail_ : α) : α :=
  (bif decide ((↑code.length : Int) > 1048576) then (leaf0_ true) else (optC (S.DrawWiresOf_t code) (fun c_1 => (optC (I.WiresOf_t c_1) (fun c_2 => (optC (S.WiresOf_t c_1) (fun c_3 => (bif !c_2 == c_3 then (leaf0_ false) else (bif decide (c_2 < 0) then (bif c_2 == -1 then (optC (I.NetOk_t c_1) (fun c_4 => (bif !c_4 then (optC (L.alive_t) (fun c_5 => (leaf0_ c_5)) fail_) else (leaf0_ false))) fail_) else (leaf0_ false)) else (optC (L.FnWiresOf_run11 c_2 FUEL (0, 0, c_1)) (fun qy_8 => (bif qy_8.1 == IntKind.i64.wrap (IntKind.i64.wrap (2 * c_2) + (↑qy_8.2.length : Int)) then (optC (I.PartMany_t qy_8.2) (fun c_9 => (leaf0_ (decide (c_2 ≥ IntKind.i64.wrap ((↑qy_8.2.length : Int) - c_9))))) fail_) else (leaf0_ false))) fail_)))) fail_)) fail_)) fail_))
theorem L.FnWiresOf_tree_nat {α γ : Type} (g : α → γ) (code : List Int) (leaf0_ : Bool → α) (fail_ : α) : g (L.FnWiresOf_tree code leaf0_ fail_) = L.FnWiresOf_tree code (fun d => g (leaf0_ d)) (g fail_) := by
  unfold L.FnWiresOf_tree; simp only [apply_cnd g, apply_optC g, apply_sumC g]
noncomputable def L.FnWiresOf_t (code : List Int) : Option (Bool) := L.FnWiresOf_tree code (fun d => some d) none
theorem L.FnWiresOf_den (code : List Int) (κ : V → List E → R) : L.FnWiresOf_F [.ro true (.ints .u8 code)] [] κ = optC (L.FnWiresOf_t code) (fun (r : Bool) => κ (.bool r) []) none := by
  have hu : L.FnWiresOf_F [.ro true (.ints .u8 code)] [] κ = L.FnWiresOf_tree code (fun d => κ (.bool d) []) none := by
    refine Eq.trans (show L.FnWiresOf_F [.ro true (.ints .u8 code)] [] κ = (bif decide ((↑code.length : Int) > 1048576) then (κ (.bool true) []) else (optC (S.DrawWiresOf_t code) (fun c_1 => (optC (I.WiresOf_t c_1) (fun c_2 => (optC (S.WiresOf_t c_1) (fun c_3 => (bif !c_2 == c_3 then (κ (.bool false) []) else (bif decide (c_2 < 0) then (bif c_2 == -1 then (optC (I.NetOk_t c_1) (fun c_4 => (bif !c_4 then (optC (L.alive_t) (fun c_5 => (κ (.bool c_5) [])) none) else (κ (.bool false) []))) none) else (κ (.bool false) [])) else (L.FnWiresOf_L11 FUEL { n := 58, t := [(3, (.own 0)), (4, (.int .i64 c_2)), (5, (.int .i64 0)), (6, (.int .i64 0))], h := [.row (.ints .i64 c_1)] } (L.FnWiresOf_k11 κ))))) none)) none)) none)) by kernel_rfl) ?_
    refine cnd_congr ?_ ?_
    · kernel_rfl
    · refine optC_congr (fun c_1 => ?_)
      refine optC_congr (fun c_2 => ?_)
      refine optC_congr (fun c_3 => ?_)
      refine cnd_congr ?_ ?_
      · kernel_rfl
      · refine cnd_congr ?_ ?_
        · kernel_rfl
        · refine (L.FnWiresOf_L11_run c_2 FUEL (0, 0, c_1) (L.FnWiresOf_k11 κ)).trans (optC_congr (fun qy_8 => ?_))
          kernel_rfl
  rw [hu]
  exact (L.FnWiresOf_tree_nat (fun o => optC o (fun (r : Bool) => κ (.bool r) []) none) code (fun d => some d) none).symm
noncomputable def L.FnWiresOf_s : D.Spec where
  keep := true
  pure := true
  ds := [.int .u8]
  sp := fun args h κ => match args, h with
    | [.ro true (.ints .u8 code)], [] => optC (L.FnWiresOf_t code) (fun (r : Bool) => κ (.bool r) []) none
    | _, _ => none
theorem L.FnWiresOf_ok : SpecOk Try.prog 5 L.FnWiresOf_s := by
  refine SpecOk.of TDok mixed (T := L.FnWiresOf_T) ?_ (ann := L.FnWiresOf_ann) Try.func5 rfl (by decide +kernel) ?_ ?_ ?_
  · intro p hp
    simp only [L.FnWiresOf_T, List.mem_cons, List.not_mem_nil, or_false] at hp
    rcases hp with rfl | rfl | rfl | rfl | rfl | rfl | rfl | rfl
    · exact S.DrawWiresOf_ok
    · exact I.WiresOf_ok
    · exact S.WiresOf_ok
    · exact I.NetOk_ok
    · exact L.alive_ok
    · exact I.BallOf_ok
    · exact L.sizeOf_ok
    · exact I.PartMany_ok
  · intro args h κ r hh
    simp only [L.FnWiresOf_s] at hh
    split at hh
    · exact (L.FnWiresOf_den _ κ).trans hh
    · cases hh
  · intro args h κ r hh
    simp only [L.FnWiresOf_s] at hh ⊢
    split at hh
    · exact optC_law2 (F := fun (r : Bool) κ => κ (.bool r) []) (fun b κ r hb => ⟨_, _, hb, fun _ => rfl⟩) hh
    · cases hh
  · intro _ args h κ r hh
    simp only [L.FnWiresOf_s] at hh
    split at hh
    · exact ⟨rfl, fun _ => rfl⟩
    · cases hh

-- loop.example/guardsonnets/spec.DrawPartOf
noncomputable def S.DrawPartOf_T : List (Nat × D.Spec) := [(42, S.l20Open_s), (41, S.l20Spot_s)]
def S.DrawPartOf_ann : Nat → List Nat × List Nat
  | _ => ([], [])
noncomputable def S.DrawPartOf_F (args : List V) (h : List E) (κ : V → List E → R) : R := funC TD (tableK S.DrawPartOf_T) S.DrawPartOf_ann (drawOk (tableP S.DrawPartOf_T)) FUEL Try.f24 args h κ
noncomputable def S.DrawPartOf_tree {α : Type} (code : List Int) (leaf0_ : Int × (List Int) → α) (fail_ : α) : α :=
  (optC (S.l20Open_t code) (fun c_1 => (optC (S.l20Spot_t c_1.fst c_1.snd 12) (fun c_2 => (leaf0_ (c_2.fst, c_2.snd.snd.snd))) fail_)) fail_)
theorem S.DrawPartOf_tree_nat {α γ : Type} (g : α → γ) (code : List Int) (leaf0_ : Int × (List Int) → α) (fail_ : α) : g (S.DrawPartOf_tree code leaf0_ fail_) = S.DrawPartOf_tree code (fun d => g (leaf0_ d)) (g fail_) := by
  unfold S.DrawPartOf_tree; simp only [apply_cnd g, apply_optC g, apply_sumC g]
noncomputable def S.DrawPartOf_t (code : List Int) : Option (Int × (List Int)) := S.DrawPartOf_tree code (fun d => some d) none
theorem S.DrawPartOf_den (code : List Int) (κ : V → List E → R) : S.DrawPartOf_F [.ro true (.ints .u8 code)] [] κ = optC (S.DrawPartOf_t code) (fun (r : Int × (List Int)) => κ (.tup [(.own 0), (.int .i64 r.1)]) [.row (.ints .i64 r.2)]) none := by
  have hu : S.DrawPartOf_F [.ro true (.ints .u8 code)] [] κ = S.DrawPartOf_tree code (fun d => κ (.tup [(.own 0), (.int .i64 d.1)]) [.row (.ints .i64 d.2)]) none := by
    kernel_rfl
  rw [hu]
  exact (S.DrawPartOf_tree_nat (fun o => optC o (fun (r : Int × (List Int)) => κ (.tup [(.own 0), (.int .i64 r.1)]) [.row (.ints .i64 r.2)]) none) code (fun d => some d) none).symm
noncomputable def S.DrawPartOf_s : D.Spec where
  keep := true
  pure := false
  ds := [.int .u8]
  sp := fun args h κ => match args, h with
    | [.ro true (.ints .u8 code)], [] => optC (S.DrawPartOf_t code) (fun (r : Int × (List Int)) => κ (.tup [(.own 0), (.int .i64 r.1)]) [.row (.ints .i64 r.2)]) none
    | _, _ => none
theorem S.DrawPartOf_ok : SpecOk Try.prog 24 S.DrawPartOf_s := by
  refine SpecOk.of TDok mixed (T := S.DrawPartOf_T) ?_ (ann := S.DrawPartOf_ann) Try.func24 rfl (by decide +kernel) ?_ ?_ ?_
  · intro p hp
    simp only [S.DrawPartOf_T, List.mem_cons, List.not_mem_nil, or_false] at hp
    rcases hp with rfl | rfl
    · exact S.l20Open_ok
    · exact S.l20Spot_ok
  · intro args h κ r hh
    simp only [S.DrawPartOf_s] at hh
    split at hh
    · exact (S.DrawPartOf_den _ κ).trans hh
    · cases hh
  · intro args h κ r hh
    simp only [S.DrawPartOf_s] at hh ⊢
    split at hh
    · exact optC_law2 (F := fun (r : Int × (List Int)) κ => κ (.tup [(.own 0), (.int .i64 r.1)]) [.row (.ints .i64 r.2)]) (fun b κ r hb => ⟨_, _, hb, fun _ => rfl⟩) hh
    · cases hh
  · intro hh; cases hh

-- loop.example/guardsonnets/impl.PartOf
noncomputable def I.PartOf_T : List (Nat × D.Spec) := [(21, I.NetOk_s), (43, I.placeIn_s), (57, I.partIn_s)]
def I.PartOf_ann : Nat → List Nat × List Nat
  | _ => ([], [])
noncomputable def I.PartOf_F (args : List V) (h : List E) (κ : V → List E → R) : R := funC TD (tableK I.PartOf_T) I.PartOf_ann (drawOk (tableP I.PartOf_T)) FUEL Try.f25 args h κ
noncomputable def I.PartOf_tree {α : Type} (net : List Int) (place : Int) (leaf0_ : Int → α) (fail_ : α) : α :=
  (optC (I.NetOk_t net) (fun c_1 => (bif !c_1 then (leaf0_ (-1)) else (optC (I.placeIn_t net place) (fun c_2 => (bif !c_2 then (leaf0_ (-1)) else (optC (I.partIn_t net place) (fun c_3 => (leaf0_ c_3)) fail_))) fail_))) fail_)
theorem I.PartOf_tree_nat {α γ : Type} (g : α → γ) (net : List Int) (place : Int) (leaf0_ : Int → α) (fail_ : α) : g (I.PartOf_tree net place leaf0_ fail_) = I.PartOf_tree net place (fun d => g (leaf0_ d)) (g fail_) := by
  unfold I.PartOf_tree; simp only [apply_cnd g, apply_optC g, apply_sumC g]
noncomputable def I.PartOf_t (net : List Int) (place : Int) : Option (Int) := I.PartOf_tree net place (fun d => some d) none
theorem I.PartOf_den (net : List Int) (place : Int) (κ : V → List E → R) : I.PartOf_F [.ro false (.ints .i64 net), .int .i64 place] [] κ = optC (I.PartOf_t net place) (fun (r : Int) => κ (.int .i64 r) []) none := by
  have hu : I.PartOf_F [.ro false (.ints .i64 net), .int .i64 place] [] κ = I.PartOf_tree net place (fun d => κ (.int .i64 d) []) none := by
    kernel_rfl
  rw [hu]
  exact (I.PartOf_tree_nat (fun o => optC o (fun (r : Int) => κ (.int .i64 r) []) none) net place (fun d => some d) none).symm
noncomputable def I.PartOf_s : D.Spec where
  keep := false
  pure := true
  ds := [.int .i64, .invalid]
  sp := fun args h κ => match args, h with
    | [.ro false (.ints .i64 net), .int .i64 place], [] => optC (I.PartOf_t net place) (fun (r : Int) => κ (.int .i64 r) []) none
    | _, _ => none
theorem I.PartOf_ok : SpecOk Try.prog 25 I.PartOf_s := by
  refine SpecOk.of TDok mixed (T := I.PartOf_T) ?_ (ann := I.PartOf_ann) Try.func25 rfl (by decide +kernel) ?_ ?_ ?_
  · intro p hp
    simp only [I.PartOf_T, List.mem_cons, List.not_mem_nil, or_false] at hp
    rcases hp with rfl | rfl | rfl
    · exact I.NetOk_ok
    · exact I.placeIn_ok
    · exact I.partIn_ok
  · intro args h κ r hh
    simp only [I.PartOf_s] at hh
    split at hh
    · exact (I.PartOf_den _ _ κ).trans hh
    · cases hh
  · intro args h κ r hh
    simp only [I.PartOf_s] at hh ⊢
    split at hh
    · exact optC_law2 (F := fun (r : Int) κ => κ (.int .i64 r) []) (fun b κ r hb => ⟨_, _, hb, fun _ => rfl⟩) hh
    · cases hh
  · intro _ args h κ r hh
    simp only [I.PartOf_s] at hh
    split at hh
    · exact ⟨rfl, fun _ => rfl⟩
    · cases hh

-- loop.example/guardsonnets/spec.l1Part
noncomputable def S.l1Part_T : List (Nat × D.Spec) := [(51, S.l1Near_s)]
def S.l1Part_ann : Nat → List Nat × List Nat
  | 3 => ([0, 1, 7, 8], [7])
  | _ => ([], [])
noncomputable def S.l1Part_F (args : List V) (h : List E) (κ : V → List E → R) : R := funC TD (tableK S.l1Part_T) S.l1Part_ann (drawOk (tableP S.l1Part_T)) FUEL Try.f58 args h κ
noncomputable def S.l1Part_L3 (n : Nat) (σ : St) (k : X → St → R) : R := iterC 0 (fun σ k => denC TD (tableK S.l1Part_T) S.l1Part_ann (drawOk (tableP S.l1Part_T)) 0 FUEL ((findLoop 3 (Try.f58.body.getD .skip)).getD .skip) σ k) [0, 1, 7, 8] [7] n σ k
noncomputable def S.l1Part_k3 (κ : V → List E → R) : X → St → R := (afterC TD (tableK S.l1Part_T) S.l1Part_ann (drawOk (tableP S.l1Part_T)) 0 FUEL 3 (Try.f58.body.getD .skip) (finC 0 Try.f58 κ)).getD (fun _ _ => none)
noncomputable def S.l1Part_step3 {α : Type} (x0 : List Int) (x1 : Int) (x7 : Int) (x8 : Bool) (next_ : Int × Bool → α) (out0_ : Int → α) (fail_ : α) : α :=
  (bif x8 then (optC (S.l1Near_t x0 x7) (fun c_1 => (next_ (bits BinOp.or IntKind.i64 x7 (bits BinOp.and IntKind.i64 c_1 x1), bits BinOp.or IntKind.i64 x7 (bits BinOp.and IntKind.i64 c_1 x1) != x7))) fail_) else (out0_ x7))
theorem S.l1Part_step3_nat {α γ : Type} (g : α → γ) (x0 : List Int) (x1 : Int) (x7 : Int) (x8 : Bool) (next_ : Int × Bool → α) (out0_ : Int → α) (fail_ : α) : g (S.l1Part_step3 x0 x1 x7 x8 next_ out0_ fail_) = S.l1Part_step3 x0 x1 x7 x8 (fun s => g (next_ s)) (fun d => g (out0_ d)) (g fail_) := by
  unfold S.l1Part_step3; simp only [apply_cnd g, apply_optC g, apply_sumC g]
noncomputable def S.l1Part_run3 (x0 : List Int) (x1 : Int) : Nat → Int × Bool → Option (Int)
  | 0, _ => none
  | n + 1, s_ => S.l1Part_step3 x0 x1 s_.1 s_.2 (S.l1Part_run3 x0 x1 n) (fun d => some d) none
theorem S.l1Part_L3_run (x0 : List Int) (x1 : Int) (n : Nat) (s_ : Int × Bool) (k : X → St → R) : S.l1Part_L3 n { n := 27, t := [(0, (.ro false (.ints .i64 x0))), (1, (.int .i64 x1)), (7, (.int .i64 s_.1)), (8, (.bool s_.2))], h := [] } k = optC (S.l1Part_run3 x0 x1 n s_) (fun (r : Int) => k (.exit 0) { n := 27, t := [(7, (.int .i64 r))], h := [] }) none := by
  induction n generalizing s_ with
  | zero => rfl
  | succ n ih =>
    have hu : S.l1Part_L3 (n + 1) { n := 27, t := [(0, (.ro false (.ints .i64 x0))), (1, (.int .i64 x1)), (7, (.int .i64 s_.1)), (8, (.bool s_.2))], h := [] } k = S.l1Part_step3 x0 x1 s_.1 s_.2 (fun s_ => S.l1Part_L3 n { n := 27, t := [(0, (.ro false (.ints .i64 x0))), (1, (.int .i64 x1)), (7, (.int .i64 s_.1)), (8, (.bool s_.2))], h := [] } k) (fun d => k (.exit 0) { n := 27, t := [(7, (.int .i64 d))], h := [] }) none := by
      kernel_rfl
    have hs : (fun s_ : Int × Bool => S.l1Part_L3 n { n := 27, t := [(0, (.ro false (.ints .i64 x0))), (1, (.int .i64 x1)), (7, (.int .i64 s_.1)), (8, (.bool s_.2))], h := [] } k) = fun s_ => optC (S.l1Part_run3 x0 x1 n s_) (fun (r : Int) => k (.exit 0) { n := 27, t := [(7, (.int .i64 r))], h := [] }) none := funext ih
    rw [hu, hs]
    exact (S.l1Part_step3_nat (fun o => optC o (fun (r : Int) => k (.exit 0) { n := 27, t := [(7, (.int .i64 r))], h := [] }) none) x0 x1 s_.1 s_.2 (S.l1Part_run3 x0 x1 n) (fun d => some d) none).symm
noncomputable def S.l1Part_tree {α : Type} (net : List Int) (among : Int) (place : Int) (leaf0_ : Int → α) (fail_ : α) : α :=
  (bif decide (place < 0) then fail_ else (optC (S.l1Part_run3 net among FUEL (bits BinOp.and IntKind.i64 (IntKind.i64.wrap (1 * 2 ^ min place.toNat IntKind.i64.bits)) among, true)) (fun qy_2 => (leaf0_ qy_2)) fail_))
theorem S.l1Part_tree_nat {α γ : Type} (g : α → γ) (net : List Int) (among : Int) (place : Int) (leaf0_ : Int → α) (fail_ : α) : g (S.l1Part_tree net among place leaf0_ fail_) = S.l1Part_tree net among place (fun d => g (leaf0_ d)) (g fail_) := by
  unfold S.l1Part_tree; simp only [apply_cnd g, apply_optC g, apply_sumC g]
noncomputable def S.l1Part_t (net : List Int) (among : Int) (place : Int) : Option (Int) := S.l1Part_tree net among place (fun d => some d) none
theorem S.l1Part_den (net : List Int) (among : Int) (place : Int) (κ : V → List E → R) : S.l1Part_F [.ro false (.ints .i64 net), .int .i64 among, .int .i64 place] [] κ = optC (S.l1Part_t net among place) (fun (r : Int) => κ (.int .i64 r) []) none := by
  have hu : S.l1Part_F [.ro false (.ints .i64 net), .int .i64 among, .int .i64 place] [] κ = S.l1Part_tree net among place (fun d => κ (.int .i64 d) []) none := by
    refine Eq.trans (show S.l1Part_F [.ro false (.ints .i64 net), .int .i64 among, .int .i64 place] [] κ = (bif decide (place < 0) then none else (S.l1Part_L3 FUEL { n := 27, t := [(0, (.ro false (.ints .i64 net))), (1, (.int .i64 among)), (7, (.int .i64 (bits BinOp.and IntKind.i64 (IntKind.i64.wrap (1 * 2 ^ min place.toNat IntKind.i64.bits)) among))), (8, (.bool true))], h := [] } (S.l1Part_k3 κ))) by kernel_rfl) ?_
    refine cnd_congr ?_ ?_
    · kernel_rfl
    · refine (S.l1Part_L3_run net among FUEL (bits BinOp.and IntKind.i64 (IntKind.i64.wrap (1 * 2 ^ min place.toNat IntKind.i64.bits)) among, true) (S.l1Part_k3 κ)).trans (optC_congr (fun qy_2 => ?_))
      kernel_rfl
  rw [hu]
  exact (S.l1Part_tree_nat (fun o => optC o (fun (r : Int) => κ (.int .i64 r) []) none) net among place (fun d => some d) none).symm
noncomputable def S.l1Part_s : D.Spec where
  keep := false
  pure := true
  ds := [.int .i64, .invalid, .invalid]
  sp := fun args h κ => match args, h with
    | [.ro false (.ints .i64 net), .int .i64 among, .int .i64 place], [] => optC (S.l1Part_t net among place) (fun (r : Int) => κ (.int .i64 r) []) none
    | _, _ => none
theorem S.l1Part_ok : SpecOk Try.prog 58 S.l1Part_s := by
  refine SpecOk.of TDok mixed (T := S.l1Part_T) ?_ (ann := S.l1Part_ann) Try.func58 rfl (by decide +kernel) ?_ ?_ ?_
  · intro p hp
    simp only [S.l1Part_T, List.mem_cons, List.not_mem_nil, or_false] at hp
    rcases hp with rfl
    · exact S.l1Near_ok
  · intro args h κ r hh
    simp only [S.l1Part_s] at hh
    split at hh
    · exact (S.l1Part_den _ _ _ κ).trans hh
    · cases hh
  · intro args h κ r hh
    simp only [S.l1Part_s] at hh ⊢
    split at hh
    · exact optC_law2 (F := fun (r : Int) κ => κ (.int .i64 r) []) (fun b κ r hb => ⟨_, _, hb, fun _ => rfl⟩) hh
    · cases hh
  · intro _ args h κ r hh
    simp only [S.l1Part_s] at hh
    split at hh
    · exact ⟨rfl, fun _ => rfl⟩
    · cases hh

-- loop.example/guardsonnets/spec.PartOf
noncomputable def S.PartOf_T : List (Nat × D.Spec) := [(45, S.NetOk_s), (46, S.l1In_s), (58, S.l1Part_s)]
def S.PartOf_ann : Nat → List Nat × List Nat
  | _ => ([], [])
noncomputable def S.PartOf_F (args : List V) (h : List E) (κ : V → List E → R) : R := funC TD (tableK S.PartOf_T) S.PartOf_ann (drawOk (tableP S.PartOf_T)) FUEL Try.f26 args h κ
noncomputable def S.PartOf_tree {α : Type} (net : List Int) (place : Int) (leaf0_ : Int → α) (fail_ : α) : α :=
  (optC (S.NetOk_t net) (fun c_1 => (bif !c_1 then (leaf0_ (-1)) else (optC (S.l1In_t place 0 (IntKind.i64.wrap ((↑net.length : Int) - 1))) (fun c_2 => (bif !c_2 then (leaf0_ (-1)) else (optC (S.l1Part_t net (IntKind.i64.wrap (IntKind.i64.wrap (1 * 2 ^ min (↑net.length : Int).toNat IntKind.i64.bits) - 1)) place) (fun c_3 => (leaf0_ c_3)) fail_))) fail_))) fail_)
theorem S.PartOf_tree_nat {α γ : Type} (g : α → γ) (net : List Int) (place : Int) (leaf0_ : Int → α) (fail_ : α) : g (S.PartOf_tree net place leaf0_ fail_) = S.PartOf_tree net place (fun d => g (leaf0_ d)) (g fail_) := by
  unfold S.PartOf_tree; simp only [apply_cnd g, apply_optC g, apply_sumC g]
noncomputable def S.PartOf_t (net : List Int) (place : Int) : Option (Int) := S.PartOf_tree net place (fun d => some d) none
theorem S.PartOf_den (net : List Int) (place : Int) (κ : V → List E → R) : S.PartOf_F [.ro false (.ints .i64 net), .int .i64 place] [] κ = optC (S.PartOf_t net place) (fun (r : Int) => κ (.int .i64 r) []) none := by
  have hu : S.PartOf_F [.ro false (.ints .i64 net), .int .i64 place] [] κ = S.PartOf_tree net place (fun d => κ (.int .i64 d) []) none := by
    kernel_rfl
  rw [hu]
  exact (S.PartOf_tree_nat (fun o => optC o (fun (r : Int) => κ (.int .i64 r) []) none) net place (fun d => some d) none).symm
noncomputable def S.PartOf_s : D.Spec where
  keep := false
  pure := true
  ds := [.int .i64, .invalid]
  sp := fun args h κ => match args, h with
    | [.ro false (.ints .i64 net), .int .i64 place], [] => optC (S.PartOf_t net place) (fun (r : Int) => κ (.int .i64 r) []) none
    | _, _ => none
theorem S.PartOf_ok : SpecOk Try.prog 26 S.PartOf_s := by
  refine SpecOk.of TDok mixed (T := S.PartOf_T) ?_ (ann := S.PartOf_ann) Try.func26 rfl (by decide +kernel) ?_ ?_ ?_
  · intro p hp
    simp only [S.PartOf_T, List.mem_cons, List.not_mem_nil, or_false] at hp
    rcases hp with rfl | rfl | rfl
    · exact S.NetOk_ok
    · exact S.l1In_ok
    · exact S.l1Part_ok
  · intro args h κ r hh
    simp only [S.PartOf_s] at hh
    split at hh
    · exact (S.PartOf_den _ _ κ).trans hh
    · cases hh
  · intro args h κ r hh
    simp only [S.PartOf_s] at hh ⊢
    split at hh
    · exact optC_law2 (F := fun (r : Int) κ => κ (.int .i64 r) []) (fun b κ r hb => ⟨_, _, hb, fun _ => rfl⟩) hh
    · cases hh
  · intro _ args h κ r hh
    simp only [S.PartOf_s] at hh
    split at hh
    · exact ⟨rfl, fun _ => rfl⟩
    · cases hh

-- loop.example/guardsonnets/laws.FnPartOf
noncomputable def L.FnPartOf_T : List (Nat × D.Spec) := [(24, S.DrawPartOf_s), (25, I.PartOf_s), (26, S.PartOf_s), (14, L.alive_s), (16, I.SeenBy_s)]
def L.FnPartOf_ann : Nat → List Nat × List Nat
  | 10 => ([3, 4, 5, 6], [2, 3, 4, 5])
  | _ => ([], [])
noncomputable def L.FnPartOf_F (args : List V) (h : List E) (κ : V → List E → R) : R := funC TD (tableK L.FnPartOf_T) L.FnPartOf_ann (drawOk (tableP L.FnPartOf_T)) FUEL Try.f6 args h κ
noncomputable def L.FnPartOf_L10 (n : Nat) (σ : St) (k : X → St → R) : R := iterC 0 (fun σ k => denC TD (tableK L.FnPartOf_T) L.FnPartOf_ann (drawOk (tableP L.FnPartOf_T)) 0 FUEL ((findLoop 10 (Try.f6.body.getD .skip)).getD .skip) σ k) [3, 4, 5, 6] [2, 3, 4, 5] n σ k
noncomputable def L.FnPartOf_k10 (κ : V → List E → R) : X → St → R := (afterC TD (tableK L.FnPartOf_T) L.FnPartOf_ann (drawOk (tableP L.FnPartOf_T)) 0 FUEL 10 (Try.f6.body.getD .skip) (finC 0 Try.f6 κ)).getD (fun _ _ => none)
noncomputable def L.FnPartOf_step10 {α : Type} (x4 : Int) (x5 : Int) (x6 : Int) (r0 : List Int) (next_ : Int × (List Int) → α) (out0_ : Bool × (List Int) → α) (out1_ : List Int → α) (fail_ : α) : α :=
  (bif decide (x6 < (↑r0.length : Int)) then (bif decide (x6 < 0) then fail_ else (bif (x5.fdiv (2 ^ min x6.toNat IntKind.i64.bits)).tmod 2 == 1 then (optC (I.PartOf_t r0 x6) (fun c_5 => (bif !c_5 == x5 then (out0_ (false, r0)) else (next_ (IntKind.i64.wrap (x6 + 1), r0)))) fail_) else (next_ (IntKind.i64.wrap (x6 + 1), r0)))) else (out1_ r0))
theorem L.FnPartOf_step10_nat {α γ : Type} (g : α → γ) (x4 : Int) (x5 : Int) (x6 : Int) (r0 : List Int) (next_ : Int × (List Int) → α) (out0_ : Bool × (List Int) → α) (out1_ : List Int → α) (fail_ : α) : g (L.FnPartOf_step10 x4 x5 x6 r0 next_ out0_ out1_ fail_) = L.FnPartOf_step10 x4 x5 x6 r0 (fun s => g (next_ s)) (fun d => g (out0_ d)) (fun d => g (out1_ d)) (g fail_) := by
  unfold L.FnPartOf_step10; simp only [apply_cnd g, apply_optC g, apply_sumC g]
noncomputable def L.FnPartOf_run10 (x4 : Int) (x5 : Int) : Nat → Int × (List Int) → Option ((Bool × (List Int)) ⊕ (List Int))
  | 0, _ => none
  | n + 1, s_ => L.FnPartOf_step10 x4 x5 s_.1 s_.2 (L.FnPartOf_run10 x4 x5 n) (fun d => some ((Sum.inl d))) (fun d => some ((Sum.inr d))) none
theorem L.FnPartOf_L10_run (x4 : Int) (x5 : Int) (n : Nat) (s_ : Int × (List Int)) (k : X → St → R) : L.FnPartOf_L10 n { n := 60, t := [(3, (.own 0)), (4, (.int .i64 x4)), (5, (.int .i64 x5)), (6, (.int .i64 s_.1))], h := [.row (.ints .i64 s_.2)] } k = optC (L.FnPartOf_run10 x4 x5 n s_) (fun (r : (Bool × (List Int)) ⊕ (List Int)) => (sumC r (fun (r : Bool × (List Int)) => k (.ret) { n := 60, t := [(2, (.bool r.1)), (3, (.own 0)), (4, (.int .i64 x4)), (5, (.int .i64 x5))], h := [.row (.ints .i64 r.2)] }) (fun (r : List Int) => k (.exit 0) { n := 60, t := [(2, .junk), (3, (.own 0)), (4, (.int .i64 x4)), (5, (.int .i64 x5))], h := [.row (.ints .i64 r)] }))) none := by
  induction n generalizing s_ with
  | zero => rfl
  | succ n ih =>
    have hu : L.FnPartOf_L10 (n + 1) { n := 60, t := [(3, (.own 0)), (4, (.int .i64 x4)), (5, (.int .i64 x5)), (6, (.int .i64 s_.1))], h := [.row (.ints .i64 s_.2)] } k = L.FnPartOf_step10 x4 x5 s_.1 s_.2 (fun s_ => L.FnPartOf_L10 n { n := 60, t := [(3, (.own 0)), (4, (.int .i64 x4)), (5, (.int .i64 x5)), (6, (.int .i64 s_.1))], h := [.row (.ints .i64 s_.2)] } k) (fun d => k (.ret) { n := 60, t := [(2, (.bool d.1)), (3, (.own 0)), (4, (.int .i64 x4)), (5, (.int .i64 x5))], h := [.row (.ints .i64 d.2)] }) (fun d => k (.exit 0) { n := 60, t := [(2, .junk), (3, (.own 0)), (4, (.int .i64 x4)), (5, (.int .i64 x5))], h := [.row (.ints .i64 d)] }) none := by
      kernel_rfl
    have hs : (fun s_ : Int × (List Int) => L.FnPartOf_L10 n { n := 60, t := [(3, (.own 0)), (4, (.int .i64 x4)), (5, (.int .i64 x5)), (6, (.int .i64 s_.1))], h := [.row (.ints .i64 s_.2)] } k) = fun s_ => optC (L.FnPartOf_run10 x4 x5 n s_) (fun (r : (Bool × (List Int)) ⊕ (List Int)) => (sumC r (fun (r : Bool × (List Int)) => k (.ret) { n := 60, t := [(2, (.bool r.1)), (3, (.own 0)), (4, (.int .i64 x4)), (5, (.int .i64 x5))], h := [.row (.ints .i64 r.2)] }) (fun (r : List Int) => k (.exit 0) { n := 60, t := [(2, .junk), (3, (.own 0)), (4, (.int .i64 x4)), (5, (.int .i64 x5))], h := [.row (.ints .i64 r)] }))) none := funext ih
    rw [hu, hs]
    exact (L.FnPartOf_step10_nat (fun o => optC o (fun (r : (Bool × (List Int)) ⊕ (List Int)) => (sumC r (fun (r : Bool × (List Int)) => k (.ret) { n := 60, t := [(2, (.bool r.1)), (3, (.own 0)), (4, (.int .i64 x4)), (5, (.int .i64 x5))], h := [.row (.ints .i64 r.2)] }) (fun (r : List Int) => k (.exit 0) { n := 60, t := [(2, .junk), (3, (.own 0)), (4, (.int .i64 x4)), (5, (.int .i64 x5))], h := [.row (.ints .i64 r)] }))) none) x4 x5 s_.1 s_.2 (L.FnPartOf_run10 x4 x5 n) (fun d => some ((Sum.inl d))) (fun d => some ((Sum.inr d))) none).symm
noncomputable def L.FnPartOf_tree {α : Type} (code : List Int) (leaf0_ : Bool → α) (fail_ : α) : α :=
  (bif decide ((↑code.length : Int) > 1048576) then (leaf0_ true) else (optC (S.DrawPartOf_t code) (fun c_1 => (optC (I.PartOf_t c_1.snd c_1.fst) (fun c_2 => (optC (S.PartOf_t c_1.snd c_1.fst) (fun c_3 => (bif !c_2 == c_3 then (leaf0_ false) else (bif decide (c_2 < 0) then (bif c_2 == -1 then (optC (L.alive_t) (fun c_4 => (leaf0_ c_4)) fail_) else (leaf0_ false)) else (optC (L.FnPartOf_run10 c_1.fst c_2 FUEL (0, c_1.snd)) (fun qy_6 => (sumC qy_6 (fun (qy_6 : Bool × (List Int)) => (leaf0_ qy_6.1)) (fun (qy_6 : List Int) => (bif decide (c_1.fst < 0) then fail_ else (bif (c_2.fdiv (2 ^ min c_1.fst.toNat IntKind.i64.bits)).tmod 2 == 1 then (optC (I.SeenBy_t qy_6 c_2) (fun c_7 => (leaf0_ (c_7 == c_2))) fail_) else (leaf0_ false)))))) fail_)))) fail_)) fail_)) fail_))
theorem L.FnPartOf_tree_nat {α γ : Type} (g : α → γ) (code : List Int) (leaf0_ : Bool → α) (fail_ : α) : g (L.FnPartOf_tree code leaf0_ fail_) = L.FnPartOf_tree code (fun d => g (leaf0_ d)) (g fail_) := by
  unfold L.FnPartOf_tree; simp only [apply_cnd g, apply_optC g, apply_sumC g]
noncomputable def L.FnPartOf_t (code : List Int) : Option (Bool) := L.FnPartOf_tree code (fun d => some d) none
theorem L.FnPartOf_den (code : List Int) (κ : V → List E → R) : L.FnPartOf_F [.ro true (.ints .u8 code)] [] κ = optC (L.FnPartOf_t code) (fun (r : Bool) => κ (.bool r) []) none := by
  have hu : L.FnPartOf_F [.ro true (.ints .u8 code)] [] κ = L.FnPartOf_tree code (fun d => κ (.bool d) []) none := by
    refine Eq.trans (show L.FnPartOf_F [.ro true (.ints .u8 code)] [] κ = (bif decide ((↑code.length : Int) > 1048576) then (κ (.bool true) []) else (optC (S.DrawPartOf_t code) (fun c_1 => (optC (I.PartOf_t c_1.snd c_1.fst) (fun c_2 => (optC (S.PartOf_t c_1.snd c_1.fst) (fun c_3 => (bif !c_2 == c_3 then (κ (.bool false) []) else (bif decide (c_2 < 0) then (bif c_2 == -1 then (optC (L.alive_t) (fun c_4 => (κ (.bool c_4) [])) none) else (κ (.bool false) [])) else (L.FnPartOf_L10 FUEL { n := 60, t := [(3, (.own 0)), (4, (.int .i64 c_1.fst)), (5, (.int .i64 c_2)), (6, (.int .i64 0))], h := [.row (.ints .i64 c_1.snd)] } (L.FnPartOf_k10 κ))))) none)) none)) none)) by kernel_rfl) ?_
    refine cnd_congr ?_ ?_
    · kernel_rfl
    · refine optC_congr (fun c_1 => ?_)
      refine optC_congr (fun c_2 => ?_)
      refine optC_congr (fun c_3 => ?_)
      refine cnd_congr ?_ ?_
      · kernel_rfl
      · refine cnd_congr ?_ ?_
        · kernel_rfl
        · refine (L.FnPartOf_L10_run c_1.fst c_2 FUEL (0, c_1.snd) (L.FnPartOf_k10 κ)).trans (optC_congr (fun qy_6 => ?_))
          rcases qy_6 with qy_6 | qy_6
          · kernel_rfl
          · kernel_rfl
  rw [hu]
  exact (L.FnPartOf_tree_nat (fun o => optC o (fun (r : Bool) => κ (.bool r) []) none) code (fun d => some d) none).symm
noncomputable def L.FnPartOf_s : D.Spec where
  keep := true
  pure := true
  ds := [.int .u8]
  sp := fun args h κ => match args, h with
    | [.ro true (.ints .u8 code)], [] => optC (L.FnPartOf_t code) (fun (r : Bool) => κ (.bool r) []) none
    | _, _ => none
theorem L.FnPartOf_ok : SpecOk Try.prog 6 L.FnPartOf_s := by
  refine SpecOk.of TDok mixed (T := L.FnPartOf_T) ?_ (ann := L.FnPartOf_ann) Try.func6 rfl (by decide +kernel) ?_ ?_ ?_
  · intro p hp
    simp only [L.FnPartOf_T, List.mem_cons, List.not_mem_nil, or_false] at hp
    rcases hp with rfl | rfl | rfl | rfl | rfl
    · exact S.DrawPartOf_ok
    · exact I.PartOf_ok
    · exact S.PartOf_ok
    · exact L.alive_ok
    · exact I.SeenBy_ok
  · intro args h κ r hh
    simp only [L.FnPartOf_s] at hh
    split at hh
    · exact (L.FnPartOf_den _ κ).trans hh
    · cases hh
  · intro args h κ r hh
    simp only [L.FnPartOf_s] at hh ⊢
    split at hh
    · exact optC_law2 (F := fun (r : Bool) κ => κ (.bool r) []) (fun b κ r hb => ⟨_, _, hb, fun _ => rfl⟩) hh
    · cases hh
  · intro _ args h κ r hh
    simp only [L.FnPartOf_s] at hh
    split at hh
    · exact ⟨rfl, fun _ => rfl⟩
    · cases hh

-- loop.example/guardsonnets/spec.DrawPartMany
noncomputable def S.DrawPartMany_T : List (Nat × D.Spec) := [(42, S.l20Open_s), (52, S.l20Net_s)]
def S.DrawPartMany_ann : Nat → List Nat × List Nat
  | _ => ([], [])
noncomputable def S.DrawPartMany_F (args : List V) (h : List E) (κ : V → List E → R) : R := funC TD (tableK S.DrawPartMany_T) S.DrawPartMany_ann (drawOk (tableP S.DrawPartMany_T)) FUEL Try.f27 args h κ
noncomputable def S.DrawPartMany_tree {α : Type} (code : List Int) (leaf0_ : List Int → α) (fail_ : α) : α :=
  (optC (S.l20Open_t code) (fun c_1 => (optC (S.l20Net_t c_1.fst c_1.snd 9) (fun c_2 => (leaf0_ c_2.snd.snd)) fail_)) fail_)
theorem S.DrawPartMany_tree_nat {α γ : Type} (g : α → γ) (code : List Int) (leaf0_ : List Int → α) (fail_ : α) : g (S.DrawPartMany_tree code leaf0_ fail_) = S.DrawPartMany_tree code (fun d => g (leaf0_ d)) (g fail_) := by
  unfold S.DrawPartMany_tree; simp only [apply_cnd g, apply_optC g, apply_sumC g]
noncomputable def S.DrawPartMany_t (code : List Int) : Option (List Int) := S.DrawPartMany_tree code (fun d => some d) none
theorem S.DrawPartMany_den (code : List Int) (κ : V → List E → R) : S.DrawPartMany_F [.ro true (.ints .u8 code)] [] κ = optC (S.DrawPartMany_t code) (fun (r : List Int) => κ (.own 0) [.row (.ints .i64 r)]) none := by
  have hu : S.DrawPartMany_F [.ro true (.ints .u8 code)] [] κ = S.DrawPartMany_tree code (fun d => κ (.own 0) [.row (.ints .i64 d)]) none := by
    kernel_rfl
  rw [hu]
  exact (S.DrawPartMany_tree_nat (fun o => optC o (fun (r : List Int) => κ (.own 0) [.row (.ints .i64 r)]) none) code (fun d => some d) none).symm
noncomputable def S.DrawPartMany_s : D.Spec where
  keep := true
  pure := false
  ds := [.int .u8]
  sp := fun args h κ => match args, h with
    | [.ro true (.ints .u8 code)], [] => optC (S.DrawPartMany_t code) (fun (r : List Int) => κ (.own 0) [.row (.ints .i64 r)]) none
    | _, _ => none
theorem S.DrawPartMany_ok : SpecOk Try.prog 27 S.DrawPartMany_s := by
  refine SpecOk.of TDok mixed (T := S.DrawPartMany_T) ?_ (ann := S.DrawPartMany_ann) Try.func27 rfl (by decide +kernel) ?_ ?_ ?_
  · intro p hp
    simp only [S.DrawPartMany_T, List.mem_cons, List.not_mem_nil, or_false] at hp
    rcases hp with rfl | rfl
    · exact S.l20Open_ok
    · exact S.l20Net_ok
  · intro args h κ r hh
    simp only [S.DrawPartMany_s] at hh
    split at hh
    · exact (S.DrawPartMany_den _ κ).trans hh
    · cases hh
  · intro args h κ r hh
    simp only [S.DrawPartMany_s] at hh ⊢
    split at hh
    · exact optC_law2 (F := fun (r : List Int) κ => κ (.own 0) [.row (.ints .i64 r)]) (fun b κ r hb => ⟨_, _, hb, fun _ => rfl⟩) hh
    · cases hh
  · intro hh; cases hh

-- loop.example/guardsonnets/spec.l1Parts
noncomputable def S.l1Parts_T : List (Nat × D.Spec) := [(58, S.l1Part_s)]
def S.l1Parts_ann : Nat → List Nat × List Nat
  | 3 => ([0, 3, 4], [3])
  | _ => ([], [])
noncomputable def S.l1Parts_F (args : List V) (h : List E) (κ : V → List E → R) : R := funC TD (tableK S.l1Parts_T) S.l1Parts_ann (drawOk (tableP S.l1Parts_T)) FUEL Try.f59 args h κ
noncomputable def S.l1Parts_L3 (n : Nat) (σ : St) (k : X → St → R) : R := iterC 0 (fun σ k => denC TD (tableK S.l1Parts_T) S.l1Parts_ann (drawOk (tableP S.l1Parts_T)) 0 FUEL ((findLoop 3 (Try.f59.body.getD .skip)).getD .skip) σ k) [0, 3, 4] [3] n σ k
noncomputable def S.l1Parts_k3 (κ : V → List E → R) : X → St → R := (afterC TD (tableK S.l1Parts_T) S.l1Parts_ann (drawOk (tableP S.l1Parts_T)) 0 FUEL 3 (Try.f59.body.getD .skip) (finC 0 Try.f59 κ)).getD (fun _ _ => none)
noncomputable def S.l1Parts_step3 {α : Type} (x0 : List Int) (x3 : Int) (x4 : Int) (next_ : Int × Int → α) (out0_ : Int → α) (fail_ : α) : α :=
  (bif decide (x4 < (↑x0.length : Int)) then (optC (S.l1Part_t x0 (IntKind.i64.wrap (IntKind.i64.wrap (1 * 2 ^ min (↑x0.length : Int).toNat IntKind.i64.bits) - 1)) x4) (fun c_1 => (bif decide (x4 < 0) then fail_ else (bif bits BinOp.and IntKind.i64 c_1 (IntKind.i64.wrap (IntKind.i64.wrap (1 * 2 ^ min x4.toNat IntKind.i64.bits) - 1)) == 0 then (next_ (IntKind.i64.wrap (x3 + 1), IntKind.i64.wrap (x4 + 1))) else (next_ (x3, IntKind.i64.wrap (x4 + 1)))))) fail_) else (out0_ x3))
theorem S.l1Parts_step3_nat {α γ : Type} (g : α → γ) (x0 : List Int) (x3 : Int) (x4 : Int) (next_ : Int × Int → α) (out0_ : Int → α) (fail_ : α) : g (S.l1Parts_step3 x0 x3 x4 next_ out0_ fail_) = S.l1Parts_step3 x0 x3 x4 (fun s => g (next_ s)) (fun d => g (out0_ d)) (g fail_) := by
  unfold S.l1Parts_step3; simp only [apply_cnd g, apply_optC g, apply_sumC g]
noncomputable def S.l1Parts_run3 (x0 : List Int) : Nat → Int × Int → Option (Int)
  | 0, _ => none
  | n + 1, s_ => S.l1Parts_step3 x0 s_.1 s_.2 (S.l1Parts_run3 x0 n) (fun d => some d) none
theorem S.l1Parts_L3_run (x0 : List Int) (n : Nat) (s_ : Int × Int) (k : X → St → R) : S.l1Parts_L3 n { n := 26, t := [(0, (.ro false (.ints .i64 x0))), (3, (.int .i64 s_.1)), (4, (.int .i64 s_.2))], h := [] } k = optC (S.l1Parts_run3 x0 n s_) (fun (r : Int) => k (.exit 0) { n := 26, t := [(3, (.int .i64 r))], h := [] }) none := by
  induction n generalizing s_ with
  | zero => rfl
  | succ n ih =>
    have hu : S.l1Parts_L3 (n + 1) { n := 26, t := [(0, (.ro false (.ints .i64 x0))), (3, (.int .i64 s_.1)), (4, (.int .i64 s_.2))], h := [] } k = S.l1Parts_step3 x0 s_.1 s_.2 (fun s_ => S.l1Parts_L3 n { n := 26, t := [(0, (.ro false (.ints .i64 x0))), (3, (.int .i64 s_.1)), (4, (.int .i64 s_.2))], h := [] } k) (fun d => k (.exit 0) { n := 26, t := [(3, (.int .i64 d))], h := [] }) none := by
      kernel_rfl
    have hs : (fun s_ : Int × Int => S.l1Parts_L3 n { n := 26, t := [(0, (.ro false (.ints .i64 x0))), (3, (.int .i64 s_.1)), (4, (.int .i64 s_.2))], h := [] } k) = fun s_ => optC (S.l1Parts_run3 x0 n s_) (fun (r : Int) => k (.exit 0) { n := 26, t := [(3, (.int .i64 r))], h := [] }) none := funext ih
    rw [hu, hs]
    exact (S.l1Parts_step3_nat (fun o => optC o (fun (r : Int) => k (.exit 0) { n := 26, t := [(3, (.int .i64 r))], h := [] }) none) x0 s_.1 s_.2 (S.l1Parts_run3 x0 n) (fun d => some d) none).symm
noncomputable def S.l1Parts_tree {α : Type} (net : List Int) (leaf0_ : Int → α) (fail_ : α) : α :=
  (optC (S.l1Parts_run3 net FUEL (0, 0)) (fun qy_2 => (leaf0_ qy_2)) fail_)
theorem S.l1Parts_tree_nat {α γ : Type} (g : α → γ) (net : List Int) (leaf0_ : Int → α) (fail_ : α) : g (S.l1Parts_tree net leaf0_ fail_) = S.l1Parts_tree net (fun d => g (leaf0_ d)) (g fail_) := by
  unfold S.l1Parts_tree; simp only [apply_cnd g, apply_optC g, apply_sumC g]
noncomputable def S.l1Parts_t (net : List Int) : Option (Int) := S.l1Parts_tree net (fun d => some d) none
theorem S.l1Parts_den (net : List Int) (κ : V → List E → R) : S.l1Parts_F [.ro false (.ints .i64 net)] [] κ = optC (S.l1Parts_t net) (fun (r : Int) => κ (.int .i64 r) []) none := by
  have hu : S.l1Parts_F [.ro false (.ints .i64 net)] [] κ = S.l1Parts_tree net (fun d => κ (.int .i64 d) []) none := by
    refine Eq.trans (show S.l1Parts_F [.ro false (.ints .i64 net)] [] κ = (S.l1Parts_L3 FUEL { n := 26, t := [(0, (.ro false (.ints .i64 net))), (3, (.int .i64 0)), (4, (.int .i64 0))], h := [] } (S.l1Parts_k3 κ)) by kernel_rfl) ?_
    refine (S.l1Parts_L3_run net FUEL (0, 0) (S.l1Parts_k3 κ)).trans (optC_congr (fun qy_2 => ?_))
    kernel_rfl
  rw [hu]
  exact (S.l1Parts_tree_nat (fun o => optC o (fun (r : Int) => κ (.int .i64 r) []) none) net (fun d => some d) none).symm
noncomputable def S.l1Parts_s : D.Spec where
  keep := false
  pure := true
  ds := [.int .i64]
  sp := fun args h κ => match args, h with
    | [.ro false (.ints .i64 net)], [] => optC (S.l1Parts_t net) (fun (r : Int) => κ (.int .i64 r) []) none
    | _, _ => none
theorem S.l1Parts_ok : SpecOk Try.prog 59 S.l1Parts_s := by
  refine SpecOk.of TDok mixed (T := S.l1Parts_T) ?_ (ann := S.l1Parts_ann) Try.func59 rfl (by decide +kernel) ?_ ?_ ?_
  · intro p hp
    simp only [S.l1Parts_T, List.mem_cons, List.not_mem_nil, or_false] at hp
    rcases hp with rfl
    · exact S.l1Part_ok
  · intro args h κ r hh
    simp only [S.l1Parts_s] at hh
    split at hh
    · exact (S.l1Parts_den _ κ).trans hh
    · cases hh
  · intro args h κ r hh
    simp only [S.l1Parts_s] at hh ⊢
    split at hh
    · exact optC_law2 (F := fun (r : Int) κ => κ (.int .i64 r) []) (fun b κ r hb => ⟨_, _, hb, fun _ => rfl⟩) hh
    · cases hh
  · intro _ args h κ r hh
    simp only [S.l1Parts_s] at hh
    split at hh
    · exact ⟨rfl, fun _ => rfl⟩
    · cases hh

-- loop.example/guardsonnets/spec.PartMany
noncomputable def S.PartMany_T : List (Nat × D.Spec) := [(45, S.NetOk_s), (59, S.l1Parts_s)]
def S.PartMany_ann : Nat → List Nat × List Nat
  | _ => ([], [])
noncomputable def S.PartMany_F (args : List V) (h : List E) (κ : V → List E → R) : R := funC TD (tableK S.PartMany_T) S.PartMany_ann (drawOk (tableP S.PartMany_T)) FUEL Try.f28 args h κ
noncomputable def S.PartMany_tree {α : Type} (net : List Int) (leaf0_ : Int → α) (fail_ : α) : α :=
  (optC (S.NetOk_t net) (fun c_1 => (bif !c_1 then (leaf0_ (-1)) else (optC (S.l1Parts_t net) (fun c_2 => (leaf0_ c_2)) fail_))) fail_)
theorem S.PartMany_tree_nat {α γ : Type} (g : α → γ) (net : List Int) (leaf0_ : Int → α) (fail_ : α) : g (S.PartMany_tree net leaf0_ fail_) = S.PartMany_tree net (fun d => g (leaf0_ d)) (g fail_) := by
  unfold S.PartMany_tree; simp only [apply_cnd g, apply_optC g, apply_sumC g]
noncomputable def S.PartMany_t (net : List Int) : Option (Int) := S.PartMany_tree net (fun d => some d) none
theorem S.PartMany_den (net : List Int) (κ : V → List E → R) : S.PartMany_F [.ro false (.ints .i64 net)] [] κ = optC (S.PartMany_t net) (fun (r : Int) => κ (.int .i64 r) []) none := by
  have hu : S.PartMany_F [.ro false (.ints .i64 net)] [] κ = S.PartMany_tree net (fun d => κ (.int .i64 d) []) none := by
    kernel_rfl
  rw [hu]
  exact (S.PartMany_tree_nat (fun o => optC o (fun (r : Int) => κ (.int .i64 r) []) none) net (fun d => some d) none).symm
noncomputable def S.PartMany_s : D.Spec where
  keep := false
  pure := true
  ds := [.int .i64]
  sp := fun args h κ => match args, h with
    | [.ro false (.ints .i64 net)], [] => optC (S.PartMany_t net) (fun (r : Int) => κ (.int .i64 r) []) none
    | _, _ => none
theorem S.PartMany_ok : SpecOk Try.prog 28 S.PartMany_s := by
  refine SpecOk.of TDok mixed (T := S.PartMany_T) ?_ (ann := S.PartMany_ann) Try.func28 rfl (by decide +kernel) ?_ ?_ ?_
  · intro p hp
    simp only [S.PartMany_T, List.mem_cons, List.not_mem_nil, or_false] at hp
    rcases hp with rfl | rfl
    · exact S.NetOk_ok
    · exact S.l1Parts_ok
  · intro args h κ r hh
    simp only [S.PartMany_s] at hh
    split at hh
    · exact (S.PartMany_den _ κ).trans hh
    · cases hh
  · intro args h κ r hh
    simp only [S.PartMany_s] at hh ⊢
    split at hh
    · exact optC_law2 (F := fun (r : Int) κ => κ (.int .i64 r) []) (fun b κ r hb => ⟨_, _, hb, fun _ => rfl⟩) hh
    · cases hh
  · intro _ args h κ r hh
    simp only [S.PartMany_s] at hh
    split at hh
    · exact ⟨rfl, fun _ => rfl⟩
    · cases hh

-- loop.example/guardsonnets/laws.FnPartMany
noncomputable def L.FnPartMany_T : List (Nat × D.Spec) := [(27, S.DrawPartMany_s), (23, I.PartMany_s), (28, S.PartMany_s), (21, I.NetOk_s), (14, L.alive_s), (25, I.PartOf_s)]
def L.FnPartMany_ann : Nat → List Nat × List Nat
  | 11 => ([3, 4, 5, 6], [3, 4, 5])
  | _ => ([], [])
noncomputable def L.FnPartMany_F (args : List V) (h : List E) (κ : V → List E → R) : R := funC TD (tableK L.FnPartMany_T) L.FnPartMany_ann (drawOk (tableP L.FnPartMany_T)) FUEL Try.f7 args h κ
noncomputable def L.FnPartMany_L11 (n : Nat) (σ : St) (k : X → St → R) : R := iterC 0 (fun σ k => denC TD (tableK L.FnPartMany_T) L.FnPartMany_ann (drawOk (tableP L.FnPartMany_T)) 0 FUEL ((findLoop 11 (Try.f7.body.getD .skip)).getD .skip) σ k) [3, 4, 5, 6] [3, 4, 5] n σ k
noncomputable def L.FnPartMany_k11 (κ : V → List E → R) : X → St → R := (afterC TD (tableK L.FnPartMany_T) L.FnPartMany_ann (drawOk (tableP L.FnPartMany_T)) 0 FUEL 11 (Try.f7.body.getD .skip) (finC 0 Try.f7 κ)).getD (fun _ _ => none)
noncomputable def L.FnPartMany_step11 {α : Type} (x4 : Int) (x5 : Int) (x6 : Int) (r0 : List Int) (next_ : Int × Int × (List Int) → α) (out0_ : Int × (List Int) → α) (fail_ : α) : α :=
  (bif decide (x6 < (↑r0.length : Int)) then (optC (I.PartOf_t r0 x6) (fun c_6 => (bif decide (x6 < 0) then fail_ else (bif bits BinOp.and IntKind.i64 c_6 (IntKind.i64.wrap (IntKind.i64.wrap (1 * 2 ^ min x6.toNat IntKind.i64.bits) - 1)) == 0 then (next_ (IntKind.i64.wrap (x5 + 1), IntKind.i64.wrap (x6 + 1), r0)) else (next_ (x5, IntKind.i64.wrap (x6 + 1), r0))))) fail_) else (out0_ (x5, r0)))
theorem L.FnPartMany_step11_nat {α γ : Type} (g : α → γ) (x4 : Int) (x5 : Int) (x6 : Int) (r0 : List Int) (next_ : Int × Int × (List Int) → α) (out0_ : Int × (List Int) → α) (fail_ : α) : g (L.FnPartMany_step11 x4 x5 x6 r0 next_ out0_ fail_) = L.FnPartMany_step11 x4 x5 x6 r0 (fun s => g (next_ s)) (fun d => g (out0_ d)) (g fail_) := by
  unfold L.FnPartMany_step11; simp only [apply_cnd g, apply_optC g, apply_sumC g]
noncomputable def L.FnPartMany_run11 (x4 : Int) : Nat → Int × Int × (List Int) → Option (Int × (List Int))
  | 0, _ => none
  | n + 1, s_ => L.FnPartMany_step11 x4 s_.1 s_.2.1 s_.2.2 (L.FnPartMany_run11 x4 n) (fun d => some d) none
theorem L.FnPartMany_L11_run (x4 : Int) (n : Nat) (s_ : Int × Int × (List Int)) (k : X → St → R) : L.FnPartMany_L11 n { n := 58, t := [(3, (.own 0)), (4, (.int .i64 x4)), (5, (.int .i64 s_.1)), (6, (.int .i64 s_.2.1))], h := [.row (.ints .i64 s_.2.2)] } k = optC (L.FnPartMany_run11 x4 n s_) (fun (r : Int × (List Int)) => k (.exit 0) { n := 58, t := [(3, (.own 0)), (4, (.int .i64 x4)), (5, (.int .i64 r.1))], h := [.row (.ints .i64 r.2)] }) none := by
  induction n generalizing s_ with
  | zero => rfl
  | succ n ih =>
    have hu : L.FnPartMany_L11 (n + 1) { n := 58, t := [(3, (.own 0)), (4, (.int .i64 x4)), (5, (.int .i64 s_.1)), (6, (.int .i64 s_.2.1))], h := [.row (.ints .i64 s_.2.2)] } k = L.FnPartMany_step11 x4 s_.1 s_.2.1 s_.2.2 (fun s_ => L.FnPartMany_L11 n { n := 58, t := [(3, (.own 0)), (4, (.int .i64 x4)), (5, (.int .i64 s_.1)), (6, (.int .i64 s_.2.1))], h := [.row (.ints .i64 s_.2.2)] } k) (fun d => k (.exit 0) { n := 58, t := [(3, (.own 0)), (4, (.int .i64 x4)), (5, (.int .i64 d.1))], h := [.row (.ints .i64 d.2)] }) none := by
      kernel_rfl
    have hs : (fun s_ : Int × Int × (List Int) => L.FnPartMany_L11 n { n := 58, t := [(3, (.own 0)), (4, (.int .i64 x4)), (5, (.int .i64 s_.1)), (6, (.int .i64 s_.2.1))], h := [.row (.ints .i64 s_.2.2)] } k) = fun s_ => optC (L.FnPartMany_run11 x4 n s_) (fun (r : Int × (List Int)) => k (.exit 0) { n := 58, t := [(3, (.own 0)), (4, (.int .i64 x4)), (5, (.int .i64 r.1))], h := [.row (.ints .i64 r.2)] }) none := funext ih
    rw [hu, hs]
    exact (L.FnPartMany_step11_nat (fun o => optC o (fun (r : Int × (List Int)) => k (.exit 0) { n := 58, t := [(3, (.own 0)), (4, (.int .i64 x4)), (5, (.int .i64 r.1))], h := [.row (.ints .i64 r.2)] }) none) x4 s_.1 s_.2.1 s_.2.2 (L.FnPartMany_run11 x4 n) (fun d => some d) none).symm
noncomputable def L.FnPartMany_tree {α : Type} (code : List Int) (leaf0_ : Bool → α) (fail_ : α) : α :=
  (bif decide ((↑code.length : Int) > 1048576) then (leaf0_ true) else (optC (S.DrawPartMany_t code) (fun c_1 => (optC (I.PartMany_t c_1) (fun c_2 => (optC (S.PartMany_t c_1) (fun c_3 => (bif !c_2 == c_3 then (leaf0_ false) else (bif decide (c_2 < 0) then (bif c_2 == -1 then (optC (I.NetOk_t c_1) (fun c_4 => (bif !c_4 then (optC (L.alive_t) (fun c_5 => (leaf0_ c_5)) fail_) else (leaf0_ false))) fail_) else (leaf0_ false)) else (optC (L.FnPartMany_run11 c_2 FUEL (0, 0, c_1)) (fun qy_7 => (bif qy_7.1 == c_2 then (bif small (↑qy_7.2.length : Int).toNat && true then (optC (I.PartMany_t (List.replicate (↑qy_7.2.length : Int).toNat 0)) (fun c_8 => (leaf0_ (c_8 == (↑qy_7.2.length : Int)))) fail_) else fail_) else (leaf0_ false))) fail_)))) fail_)) fail_)) fail_))
theorem L.FnPartMany_tree_nat {α γ : Type} (g : α → γ) (code : List Int) (leaf0_ : Bool → α) (fail_ : α) : g (L.FnPartMany_tree code leaf0_ fail_) = L.FnPartMany_tree code (fun d => g (leaf0_ d)) (g fail_) := by
  unfold L.FnPartMany_tree; simp only [apply_cnd g, apply_optC g, apply_sumC g]
noncomputable def L.FnPartMany_t (code : List Int) : Option (Bool) := L.FnPartMany_tree code (fun d => some d) none
theorem L.FnPartMany_den (code : List Int) (κ : V → List E → R) : L.FnPartMany_F [.ro true (.ints .u8 code)] [] κ = optC (L.FnPartMany_t code) (fun (r : Bool) => κ (.bool r) []) none := by
  have hu : L.FnPartMany_F [.ro true (.ints .u8 code)] [] κ = L.FnPartMany_tree code (fun d => κ (.bool d) []) none := by
    refine Eq.trans (show L.FnPartMany_F [.ro true (.ints .u8 code)] [] κ = (bif decide ((↑code.length : Int) > 1048576) then (κ (.bool true) []) else (optC (S.DrawPartMany_t code) (fun c_1 => (optC (I.PartMany_t c_1) (fun c_2 => (optC (S.PartMany_t c_1) (fun c_3 => (bif !c_2 == c_3 then (κ (.bool false) []) else (bif decide (c_2 < 0) then (bif c_2 == -1 then (optC (I.NetOk_t c_1) (fun c_4 => (bif !c_4 then (optC (L.alive_t) (fun c_5 => (κ (.bool c_5) [])) none) else (κ (.bool false) []))) none) else (κ (.bool false) [])) else (L.FnPartMany_L11 FUEL { n := 58, t := [(3, (.own 0)), (4, (.int .i64 c_2)), (5, (.int .i64 0)), (6, (.int .i64 0))], h := [.row (.ints .i64 c_1)] } (L.FnPartMany_k11 κ))))) none)) none)) none)) by kernel_rfl) ?_
    refine cnd_congr ?_ ?_
    · kernel_rfl
    · refine optC_congr (fun c_1 => ?_)
      refine optC_congr (fun c_2 => ?_)
      refine optC_congr (fun c_3 => ?_)
      refine cnd_congr ?_ ?_
      · kernel_rfl
      · refine cnd_congr ?_ ?_
        · kernel_rfl
        · refine (L.FnPartMany_L11_run c_2 FUEL (0, 0, c_1) (L.FnPartMany_k11 κ)).trans (optC_congr (fun qy_7 => ?_))
          kernel_rfl
  rw [hu]
  exact (L.FnPartMany_tree_nat (fun o => optC o (fun (r : Bool) => κ (.bool r) []) none) code (fun d => some d) none).symm
noncomputable def L.FnPartMany_s : D.Spec where
  keep := true
  pure := true
  ds := [.int .u8]
  sp := fun args h κ => match args, h with
    | [.ro true (.ints .u8 code)], [] => optC (L.FnPartMany_t code) (fun (r : Bool) => κ (.bool r) []) none
    | _, _ => none
theorem L.FnPartMany_ok : SpecOk Try.prog 7 L.FnPartMany_s := by
  refine SpecOk.of TDok mixed (T := L.FnPartMany_T) ?_ (ann := L.FnPartMany_ann) Try.func7 rfl (by decide +kernel) ?_ ?_ ?_
  · intro p hp
    simp only [L.FnPartMany_T, List.mem_cons, List.not_mem_nil, or_false] at hp
    rcases hp with rfl | rfl | rfl | rfl | rfl | rfl
    · exact S.DrawPartMany_ok
    · exact I.PartMany_ok
    · exact S.PartMany_ok
    · exact I.NetOk_ok
    · exact L.alive_ok
    · exact I.PartOf_ok
  · intro args h κ r hh
    simp only [L.FnPartMany_s] at hh
    split at hh
    · exact (L.FnPartMany_den _ κ).trans hh
    · cases hh
  · intro args h κ r hh
    simp only [L.FnPartMany_s] at hh ⊢
    split at hh
    · exact optC_law2 (F := fun (r : Bool) κ => κ (.bool r) []) (fun b κ r hb => ⟨_, _, hb, fun _ => rfl⟩) hh
    · cases hh
  · intro _ args h κ r hh
    simp only [L.FnPartMany_s] at hh
    split at hh
    · exact ⟨rfl, fun _ => rfl⟩
    · cases hh

-- loop.example/guardsonnets/spec.DrawLoneOf
noncomputable def S.DrawLoneOf_T : List (Nat × D.Spec) := [(42, S.l20Open_s), (52, S.l20Net_s)]
def S.DrawLoneOf_ann : Nat → List Nat × List Nat
  | _ => ([], [])
noncomputable def S.DrawLoneOf_F (args : List V) (h : List E) (κ : V → List E → R) : R := funC TD (tableK S.DrawLoneOf_T) S.DrawLoneOf_ann (drawOk (tableP S.DrawLoneOf_T)) FUEL Try.f29 args h κ
noncomputable def S.DrawLoneOf_tree {α : Type} (code : List Int) (leaf0_ : List Int → α) (fail_ : α) : α :=
  (optC (S.l20Open_t code) (fun c_1 => (optC (S.l20Net_t c_1.fst c_1.snd 9) (fun c_2 => (leaf0_ c_2.snd.snd)) fail_)) fail_)
theorem S.DrawLoneOf_tree_nat {α γ : Type} (g : α → γ) (code : List Int) (leaf0_ : List Int → α) (fail_ : α) : g (S.DrawLoneOf_tree code leaf0_ fail_) = S.DrawLoneOf_tree code (fun d => g (leaf0_ d)) (g fail_) := by
  unfold S.DrawLoneOf_tree; simp only [apply_cnd g, apply_optC g, apply_sumC g]
noncomputable def S.DrawLoneOf_t (code : List Int) : Option (List Int) := S.DrawLoneOf_tree code (fun d => some d) none
theorem S.DrawLoneOf_den (code : List Int) (κ : V → List E → R) : S.DrawLoneOf_F [.ro true (.ints .u8 code)] [] κ = optC (S.DrawLoneOf_t code) (fun (r : List Int) => κ (.own 0) [.row (.ints .i64 r)]) none := by
  have hu : S.DrawLoneOf_F [.ro true (.ints .u8 code)] [] κ = S.DrawLoneOf_tree code (fun d => κ (.own 0) [.row (.ints .i64 d)]) none := by
    kernel_rfl
  rw [hu]
  exact (S.DrawLoneOf_tree_nat (fun o => optC o (fun (r : List Int) => κ (.own 0) [.row (.ints .i64 r)]) none) code (fun d => some d) none).symm
noncomputable def S.DrawLoneOf_s : D.Spec where
  keep := true
  pure := false
  ds := [.int .u8]
  sp := fun args h κ => match args, h with
    | [.ro true (.ints .u8 code)], [] => optC (S.DrawLoneOf_t code) (fun (r : List Int) => κ (.own 0) [.row (.ints .i64 r)]) none
    | _, _ => none
theorem S.DrawLoneOf_ok : SpecOk Try.prog 29 S.DrawLoneOf_s := by
  refine SpecOk.of TDok mixed (T := S.DrawLoneOf_T) ?_ (ann := S.DrawLoneOf_ann) Try.func29 rfl (by decide +kernel) ?_ ?_ ?_
  · intro p hp
    simp only [S.DrawLoneOf_T, List.mem_cons, List.not_mem_nil, or_false] at hp
    rcases hp with rfl | rfl
    · exact S.l20Open_ok
    · exact S.l20Net_ok
  · intro args h κ r hh
    simp only [S.DrawLoneOf_s] at hh
    split at hh
    · exact (S.DrawLoneOf_den _ κ).trans hh
    · cases hh
  · intro args h κ r hh
    simp only [S.DrawLoneOf_s] at hh ⊢
    split at hh
    · exact optC_law2 (F := fun (r : List Int) κ => κ (.own 0) [.row (.ints .i64 r)]) (fun b κ r hb => ⟨_, _, hb, fun _ => rfl⟩) hh
    · cases hh
  · intro hh; cases hh

-- loop.example/guardsonnets/impl.LoneOf
noncomputable def I.LoneOf_T : List (Nat × D.Spec) := [(21, I.NetOk_s)]
def I.LoneOf_ann : Nat → List Nat × List Nat
  | 5 => ([0, 3, 4], [3])
  | _ => ([], [])
noncomputable def I.LoneOf_F (args : List V) (h : List E) (κ : V → List E → R) : R := funC TD (tableK I.LoneOf_T) I.LoneOf_ann (drawOk (tableP I.LoneOf_T)) FUEL Try.f30 args h κ
noncomputable def I.LoneOf_L5 (n : Nat) (σ : St) (k : X → St → R) : R := iterC 0 (fun σ k => denC TD (tableK I.LoneOf_T) I.LoneOf_ann (drawOk (tableP I.LoneOf_T)) 0 FUEL ((findLoop 5 (Try.f30.body.getD .skip)).getD .skip) σ k) [0, 3, 4] [3] n σ k
noncomputable def I.LoneOf_k5 (κ : V → List E → R) : X → St → R := (afterC TD (tableK I.LoneOf_T) I.LoneOf_ann (drawOk (tableP I.LoneOf_T)) 0 FUEL 5 (Try.f30.body.getD .skip) (finC 0 Try.f30 κ)).getD (fun _ _ => none)
noncomputable def I.LoneOf_step5 {α : Type} (x0 : List Int) (x3 : Int) (x4 : Int) (next_ : Int × Int → α) (out0_ : Int → α) (fail_ : α) : α :=
  (bif decide (x4 < (↑x0.length : Int)) then (bif decide (0 ≤ x4) && decide (x4 < (↑x0.length : Int)) then (bif eli x0 x4.toNat == 0 then (bif decide (x4 < 0) then fail_ else (next_ (bits BinOp.or IntKind.i64 x3 (IntKind.i64.wrap (1 * 2 ^ min x4.toNat IntKind.i64.bits)), IntKind.i64.wrap (x4 + 1)))) else (next_ (x3, IntKind.i64.wrap (x4 + 1)))) else fail_) else (out0_ x3))
theorem I.LoneOf_step5_nat {α γ : Type} (g : α → γ) (x0 : List Int) (x3 : Int) (x4 : Int) (next_ : Int × Int → α) (out0_ : Int → α) (fail_ : α) : g (I.LoneOf_step5 x0 x3 x4 next_ out0_ fail_) = I.LoneOf_step5 x0 x3 x4 (fun s => g (next_ s)) (fun d => g (out0_ d)) (g fail_) := by
  unfold I.LoneOf_step5; simp only [apply_cnd g, apply_optC g, apply_sumC g]
noncomputable def I.LoneOf_run5 (x0 : List Int) : Nat → Int × Int → Option (Int)
  | 0, _ => none
  | n + 1, s_ => I.LoneOf_step5 x0 s_.1 s_.2 (I.LoneOf_run5 x0 n) (fun d => some d) none
theorem I.LoneOf_L5_run (x0 : List Int) (n : Nat) (s_ : Int × Int) (k : X → St → R) : I.LoneOf_L5 n { n := 24, t := [(0, (.ro false (.ints .i64 x0))), (3, (.int .i64 s_.1)), (4, (.int .i64 s_.2))], h := [] } k = optC (I.LoneOf_run5 x0 n s_) (fun (r : Int) => k (.exit 0) { n := 24, t := [(3, (.int .i64 r))], h := [] }) none := by
  induction n generalizing s_ with
  | zero => rfl
  | succ n ih =>
    have hu : I.LoneOf_L5 (n + 1) { n := 24, t := [(0, (.ro false (.ints .i64 x0))), (3, (.int .i64 s_.1)), (4, (.int .i64 s_.2))], h := [] } k = I.LoneOf_step5 x0 s_.1 s_.2 (fun s_ => I.LoneOf_L5 n { n := 24, t := [(0, (.ro false (.ints .i64 x0))), (3, (.int .i64 s_.1)), (4, (.int .i64 s_.2))], h := [] } k) (fun d => k (.exit 0) { n := 24, t := [(3, (.int .i64 d))], h := [] }) none := by
      kernel_rfl
    have hs : (fun s_ : Int × Int => I.LoneOf_L5 n { n := 24, t := [(0, (.ro false (.ints .i64 x0))), (3, (.int .i64 s_.1)), (4, (.int .i64 s_.2))], h := [] } k) = fun s_ => optC (I.LoneOf_run5 x0 n s_) (fun (r : Int) => k (.exit 0) { n := 24, t := [(3, (.int .i64 r))], h := [] }) none := funext ih
    rw [hu, hs]
    exact (I.LoneOf_step5_nat (fun o => optC o (fun (r : Int) => k (.exit 0) { n := 24, t := [(3, (.int .i64 r))], h := [] }) none) x0 s_.1 s_.2 (I.LoneOf_run5 x0 n) (fun d => some d) none).symm
noncomputable def I.LoneOf_tree {α : Type} (net : List Int) (leaf0_ : Int → α) (fail_ : α) : α :=
  (optC (I.NetOk_t net) (fun c_1 => (bif !c_1 then (leaf0_ (-1)) else (optC (I.LoneOf_run5 net FUEL (0, 0)) (fun qy_2 => (leaf0_ qy_2)) fail_))) fail_)
theorem I.LoneOf_tree_nat {α γ : Type} (g : α → γ) (net : List Int) (leaf0_ : Int → α) (fail_ : α) : g (I.LoneOf_tree net leaf0_ fail_) = I.LoneOf_tree net (fun d => g (leaf0_ d)) (g fail_) := by
  unfold I.LoneOf_tree; simp only [apply_cnd g, apply_optC g, apply_sumC g]
noncomputable def I.LoneOf_t (net : List Int) : Option (Int) := I.LoneOf_tree net (fun d => some d) none
theorem I.LoneOf_den (net : List Int) (κ : V → List E → R) : I.LoneOf_F [.ro false (.ints .i64 net)] [] κ = optC (I.LoneOf_t net) (fun (r : Int) => κ (.int .i64 r) []) none := by
  have hu : I.LoneOf_F [.ro false (.ints .i64 net)] [] κ = I.LoneOf_tree net (fun d => κ (.int .i64 d) []) none := by
    refine Eq.trans (show I.LoneOf_F [.ro false (.ints .i64 net)] [] κ = (optC (I.NetOk_t net) (fun c_1 => (bif !c_1 then (κ (.int .i64 (-1)) []) else (I.LoneOf_L5 FUEL { n := 24, t := [(0, (.ro false (.ints .i64 net))), (3, (.int .i64 0)), (4, (.int .i64 0))], h := [] } (I.LoneOf_k5 κ)))) none) by kernel_rfl) ?_
    refine optC_congr (fun c_1 => ?_)
    refine cnd_congr ?_ ?_
    · kernel_rfl
    · refine (I.LoneOf_L5_run net FUEL (0, 0) (I.LoneOf_k5 κ)).trans (optC_congr (fun qy_2 => ?_))
      kernel_rfl
  rw [hu]
  exact (I.LoneOf_tree_nat (fun o => optC o (fun (r : Int) => κ (.int .i64 r) []) none) net (fun d => some d) none).symm
noncomputable def I.LoneOf_s : D.Spec where
  keep := false
  pure := true
  ds := [.int .i64]
  sp := fun args h κ => match args, h with
    | [.ro false (.ints .i64 net)], [] => optC (I.LoneOf_t net) (fun (r : Int) => κ (.int .i64 r) []) none
    | _, _ => none
theorem I.LoneOf_ok : SpecOk Try.prog 30 I.LoneOf_s := by
  refine SpecOk.of TDok mixed (T := I.LoneOf_T) ?_ (ann := I.LoneOf_ann) Try.func30 rfl (by decide +kernel) ?_ ?_ ?_
  · intro p hp
    simp only [I.LoneOf_T, List.mem_cons, List.not_mem_nil, or_false] at hp
    rcases hp with rfl
    · exact I.NetOk_ok
  · intro args h κ r hh
    simp only [I.LoneOf_s] at hh
    split at hh
    · exact (I.LoneOf_den _ κ).trans hh
    · cases hh
  · intro args h κ r hh
    simp only [I.LoneOf_s] at hh ⊢
    split at hh
    · exact optC_law2 (F := fun (r : Int) κ => κ (.int .i64 r) []) (fun b κ r hb => ⟨_, _, hb, fun _ => rfl⟩) hh
    · cases hh
  · intro _ args h κ r hh
    simp only [I.LoneOf_s] at hh
    split at hh
    · exact ⟨rfl, fun _ => rfl⟩
    · cases hh

-- loop.example/guardsonnets/spec.LoneOf
noncomputable def S.LoneOf_T : List (Nat × D.Spec) := [(45, S.NetOk_s)]
def S.LoneOf_ann : Nat → List Nat × List Nat
  | 5 => ([0, 3, 4], [3])
  | _ => ([], [])
noncomputable def S.LoneOf_F (args : List V) (h : List E) (κ : V → List E → R) : R := funC TD (tableK S.LoneOf_T) S.LoneOf_ann (drawOk (tableP S.LoneOf_T)) FUEL Try.f31 args h κ
noncomputable def S.LoneOf_L5 (n : Nat) (σ : St) (k : X → St → R) : R := iterC 0 (fun σ k => denC TD (tableK S.LoneOf_T) S.LoneOf_ann (drawOk (tableP S.LoneOf_T)) 0 FUEL ((findLoop 5 (Try.f31.body.getD .skip)).getD .skip) σ k) [0, 3, 4] [3] n σ k
noncomputable def S.LoneOf_k5 (κ : V → List E → R) : X → St → R := (afterC TD (tableK S.LoneOf_T) S.LoneOf_ann (drawOk (tableP S.LoneOf_T)) 0 FUEL 5 (Try.f31.body.getD .skip) (finC 0 Try.f31 κ)).getD (fun _ _ => none)
noncomputable def S.LoneOf_step5 {α : Type} (x0 : List Int) (x3 : Int) (x4 : Int) (next_ : Int × Int → α) (out0_ : Int → α) (fail_ : α) : α :=
  (bif decide (x4 < (↑x0.length : Int)) then (bif decide (0 ≤ x4) && decide (x4 < (↑x0.length : Int)) then (bif eli x0 x4.toNat == 0 then (bif decide (x4 < 0) then fail_ else (next_ (bits BinOp.or IntKind.i64 x3 (IntKind.i64.wrap (1 * 2 ^ min x4.toNat IntKind.i64.bits)), IntKind.i64.wrap (x4 + 1)))) else (next_ (x3, IntKind.i64.wrap (x4 + 1)))) else fail_) else (out0_ x3))
theorem S.LoneOf_step5_nat {α γ : Type} (g : α → γ) (x0 : List Int) (x3 : Int) (x4 : Int) (next_ : Int × Int → α) (out0_ : Int → α) (fail_ : α) : g (S.LoneOf_step5 x0 x3 x4 next_ out0_ fail_) = S.LoneOf_step5 x0 x3 x4 (fun s => g (next_ s)) (fun d => g (out0_ d)) (g fail_) := by
  unfold S.LoneOf_step5; simp only [apply_cnd g, apply_optC g, apply_sumC g]
noncomputable def S.LoneOf_run5 (x0 : List Int) : Nat → Int × Int → Option (Int)
  | 0, _ => none
  | n + 1, s_ => S.LoneOf_step5 x0 s_.1 s_.2 (S.LoneOf_run5 x0 n) (fun d => some d) none
theorem S.LoneOf_L5_run (x0 : List Int) (n : Nat) (s_ : Int × Int) (k : X → St → R) : S.LoneOf_L5 n { n := 24, t := [(0, (.ro false (.ints .i64 x0))), (3, (.int .i64 s_.1)), (4, (.int .i64 s_.2))], h := [] } k = optC (S.LoneOf_run5 x0 n s_) (fun (r : Int) => k (.exit 0) { n := 24, t := [(3, (.int .i64 r))], h := [] }) none := by
  induction n generalizing s_ with
  | zero => rfl
  | succ n ih =>
    have hu : S.LoneOf_L5 (n + 1) { n := 24, t := [(0, (.ro false (.ints .i64 x0))), (3, (.int .i64 s_.1)), (4, (.int .i64 s_.2))], h := [] } k = S.LoneOf_step5 x0 s_.1 s_.2 (fun s_ => S.LoneOf_L5 n { n := 24, t := [(0, (.ro false (.ints .i64 x0))), (3, (.int .i64 s_.1)), (4, (.int .i64 s_.2))], h := [] } k) (fun d => k (.exit 0) { n := 24, t := [(3, (.int .i64 d))], h := [] }) none := by
      kernel_rfl
    have hs : (fun s_ : Int × Int => S.LoneOf_L5 n { n := 24, t := [(0, (.ro false (.ints .i64 x0))), (3, (.int .i64 s_.1)), (4, (.int .i64 s_.2))], h := [] } k) = fun s_ => optC (S.LoneOf_run5 x0 n s_) (fun (r : Int) => k (.exit 0) { n := 24, t := [(3, (.int .i64 r))], h := [] }) none := funext ih
    rw [hu, hs]
    exact (S.LoneOf_step5_nat (fun o => optC o (fun (r : Int) => k (.exit 0) { n := 24, t := [(3, (.int .i64 r))], h := [] }) none) x0 s_.1 s_.2 (S.LoneOf_run5 x0 n) (fun d => some d) none).symm
noncomputable def S.LoneOf_tree {α : Type} (net : List Int) (leaf0_ : Int → α) (fail_ : α) : α :=
  (optC (S.NetOk_t net) (fun c_1 => (bif !c_1 then (leaf0_ (-1)) else (optC (S.LoneOf_run5 net FUEL (0, 0)) (fun qy_2 => (leaf0_ qy_2)) fail_))) fail_)
theorem S.LoneOf_tree_nat {α γ : Type} (g : α → γ) (net : List Int) (leaf0_ : Int → α) (fail_ : α) : g (S.LoneOf_tree net leaf0_ fail_) = S.LoneOf_tree net (fun d => g (leaf0_ d)) (g fail_) := by
  unfold S.LoneOf_tree; simp only [apply_cnd g, apply_optC g, apply_sumC g]
noncomputable def S.LoneOf_t (net : List Int) : Option (Int) := S.LoneOf_tree net (fun d => some d) none
theorem S.LoneOf_den (net : List Int) (κ : V → List E → R) : S.LoneOf_F [.ro false (.ints .i64 net)] [] κ = optC (S.LoneOf_t net) (fun (r : Int) => κ (.int .i64 r) []) none := by
  have hu : S.LoneOf_F [.ro false (.ints .i64 net)] [] κ = S.LoneOf_tree net (fun d => κ (.int .i64 d) []) none := by
    refine Eq.trans (show S.LoneOf_F [.ro false (.ints .i64 net)] [] κ = (optC (S.NetOk_t net) (fun c_1 => (bif !c_1 then (κ (.int .i64 (-1)) []) else (S.LoneOf_L5 FUEL { n := 24, t := [(0, (.ro false (.ints .i64 net))), (3, (.int .i64 0)), (4, (.int .i64 0))], h := [] } (S.LoneOf_k5 κ)))) none) by kernel_rfl) ?_
    refine optC_congr (fun c_1 => ?_)
    refine cnd_congr ?_ ?_
    · kernel_rfl
    · refine (S.LoneOf_L5_run net FUEL (0, 0) (S.LoneOf_k5 κ)).trans (optC_congr (fun qy_2 => ?_))
      kernel_rfl
  rw [hu]
  exact (S.LoneOf_tree_nat (fun o => optC o (fun (r : Int) => κ (.int .i64 r) []) none) net (fun d => some d) none).symm
noncomputable def S.LoneOf_s : D.Spec where
  keep := false
  pure := true
  ds := [.int .i64]
  sp := fun args h κ => match args, h with
    | [.ro false (.ints .i64 net)], [] => optC (S.LoneOf_t net) (fun (r : Int) => κ (.int .i64 r) []) none
    | _, _ => none
theorem S.LoneOf_ok : SpecOk Try.prog 31 S.LoneOf_s := by
  refine SpecOk.of TDok mixed (T := S.LoneOf_T) ?_ (ann := S.LoneOf_ann) Try.func31 rfl (by decide +kernel) ?_ ?_ ?_
  · intro p hp
    simp only [S.LoneOf_T, List.mem_cons, List.not_mem_nil, or_false] at hp
    rcases hp with rfl
    · exact S.NetOk_ok
  · intro args h κ r hh
    simp only [S.LoneOf_s] at hh
    split at hh
    · exact (S.LoneOf_den _ κ).trans hh
    · cases hh
  · intro args h κ r hh
    simp only [S.LoneOf_s] at hh ⊢
    split at hh
    · exact optC_law2 (F := fun (r : Int) κ => κ (.int .i64 r) []) (fun b κ r hb => ⟨_, _, hb, fun _ => rfl⟩) hh
    · cases hh
  · intro _ args h κ r hh
    simp only [S.LoneOf_s] at hh
    split at hh
    · exact ⟨rfl, fun _ => rfl⟩
    · cases hh

-- loop.example/guardsonnets/laws.FnLoneOf
noncomputable def L.FnLoneOf_T : List (Nat × D.Spec) := [(29, S.DrawLoneOf_s), (30, I.LoneOf_s), (31, S.LoneOf_s), (21, I.NetOk_s), (14, L.alive_s), (25, I.PartOf_s)]
def L.FnLoneOf_ann : Nat → List Nat × List Nat
  | 10 => ([3, 4, 5], [2, 3, 4])
  | _ => ([], [])
noncomputable def L.FnLoneOf_F (args : List V) (h : List E) (κ : V → List E → R) : R := funC TD (tableK L.FnLoneOf_T) L.FnLoneOf_ann (drawOk (tableP L.FnLoneOf_T)) FUEL Try.f8 args h κ
noncomputable def L.FnLoneOf_L10 (n : Nat) (σ : St) (k : X → St → R) : R := iterC 0 (fun σ k => denC TD (tableK L.FnLoneOf_T) L.FnLoneOf_ann (drawOk (tableP L.FnLoneOf_T)) 0 FUEL ((findLoop 10 (Try.f8.body.getD .skip)).getD .skip) σ k) [3, 4, 5] [2, 3, 4] n σ k
noncomputable def L.FnLoneOf_k10 (κ : V → List E → R) : X → St → R := (afterC TD (tableK L.FnLoneOf_T) L.FnLoneOf_ann (drawOk (tableP L.FnLoneOf_T)) 0 FUEL 10 (Try.f8.body.getD .skip) (finC 0 Try.f8 κ)).getD (fun _ _ => none)
noncomputable def L.FnLoneOf_step10 {α : Type} (x4 : Int) (x5 : Int) (r0 : List Int) (next_ : Int × (List Int) → α) (out0_ : Bool × (List Int) → α) (out1_ : List Int → α) (fail_ : α) : α :=
  (bif decide (x5 < (↑r0.length : Int)) then (bif decide (x5 < 0) then fail_ else (optC (I.PartOf_t r0 x5) (fun c_6 => (bif decide (x5 < 0) then fail_ else (bif !((x4.fdiv (2 ^ min x5.toNat IntKind.i64.bits)).tmod 2 == 1) == (c_6 == IntKind.i64.wrap (1 * 2 ^ min x5.toNat IntKind.i64.bits)) then (out0_ (false, r0)) else (next_ (IntKind.i64.wrap (x5 + 1), r0))))) fail_)) else (out1_ r0))
theorem L.FnLoneOf_step10_nat {α γ : Type} (g : α → γ) (x4 : Int) (x5 : Int) (r0 : List Int) (next_ : Int × (List Int) → α) (out0_ : Bool × (List Int) → α) (out1_ : List Int → α) (fail_ : α) : g (L.FnLoneOf_step10 x4 x5 r0 next_ out0_ out1_ fail_) = L.FnLoneOf_step10 x4 x5 r0 (fun s => g (next_ s)) (fun d => g (out0_ d)) (fun d => g (out1_ d)) (g fail_) := by
  unfold L.FnLoneOf_step10; simp only [apply_cnd g, apply_optC g, apply_sumC g]
noncomputable def L.FnLoneOf_run10 (x4 : Int) : Nat → Int × (List Int) → Option ((Bool × (List Int)) ⊕ (List Int))
  | 0, _ => none
  | n + 1, s_ => L.FnLoneOf_step10 x4 s_.1 s_.2 (L.FnLoneOf_run10 x4 n) (fun d => some ((Sum.inl d))) (fun d => some ((Sum.inr d))) none
theorem L.FnLoneOf_L10_run (x4 : Int) (n : Nat) (s_ : Int × (List Int)) (k : X → St → R) : L.FnLoneOf_L10 n { n := 55, t := [(3, (.own 0)), (4, (.int .i64 x4)), (5, (.int .i64 s_.1))], h := [.row (.ints .i64 s_.2)] } k = optC (L.FnLoneOf_run10 x4 n s_) (fun (r : (Bool × (List Int)) ⊕ (List Int)) => (sumC r (fun (r : Bool × (List Int)) => k (.ret) { n := 55, t := [(2, (.bool r.1)), (3, (.own 0)), (4, (.int .i64 x4))], h := [.row (.ints .i64 r.2)] }) (fun (r : List Int) => k (.exit 0) { n := 55, t := [(2, .junk), (3, (.own 0)), (4, (.int .i64 x4))], h := [.row (.ints .i64 r)] }))) none := by
  induction n generalizing s_ with
  | zero => rfl
  | succ n ih =>
    have hu : L.FnLoneOf_L10 (n + 1) { n := 55, t := [(3, (.own 0)), (4, (.int .i64 x4)), (5, (.int .i64 s_.1))], h := [.row (.ints .i64 s_.2)] } k = L.FnLoneOf_step10 x4 s_.1 s_.2 (fun s_ => L.FnLoneOf_L10 n { n := 55, t := [(3, (.own 0)), (4, (.int .i64 x4)), (5, (.int .i64 s_.1))], h := [.row (.ints .i64 s_.2)] } k) (fun d => k (.ret) { n := 55, t := [(2, (.bool d.1)), (3, (.own 0)), (4, (.int .i64 x4))], h := [.row (.ints .i64 d.2)] }) (fun d => k (.exit 0) { n := 55, t := [(2, .junk), (3, (.own 0)), (4, (.int .i64 x4))], h := [.row (.ints .i64 d)] }) none := by
      kernel_rfl
    have hs : (fun s_ : Int × (List Int) => L.FnLoneOf_L10 n { n := 55, t := [(3, (.own 0)), (4, (.int .i64 x4)), (5, (.int .i64 s_.1))], h := [.row (.ints .i64 s_.2)] } k) = fun s_ => optC (L.FnLoneOf_run10 x4 n s_) (fun (r : (Bool × (List Int)) ⊕ (List Int)) => (sumC r (fun (r : Bool × (List Int)) => k (.ret) { n := 55, t := [(2, (.bool r.1)), (3, (.own 0)), (4, (.int .i64 x4))], h := [.row (.ints .i64 r.2)] }) (fun (r : List Int) => k (.exit 0) { n := 55, t := [(2, .junk), (3, (.own 0)), (4, (.int .i64 x4))], h := [.row (.ints .i64 r)] }))) none := funext ih
    rw [hu, hs]
    exact (L.FnLoneOf_step10_nat (fun o => optC o (fun (r : (Bool × (List Int)) ⊕ (List Int)) => (sumC r (fun (r : Bool × (List Int)) => k (.ret) { n := 55, t := [(2, (.bool r.1)), (3, (.own 0)), (4, (.int .i64 x4))], h := [.row (.ints .i64 r.2)] }) (fun (r : List Int) => k (.exit 0) { n := 55, t := [(2, .junk), (3, (.own 0)), (4, (.int .i64 x4))], h := [.row (.ints .i64 r)] }))) none) x4 s_.1 s_.2 (L.FnLoneOf_run10 x4 n) (fun d => some ((Sum.inl d))) (fun d => some ((Sum.inr d))) none).symm
noncomputable def L.FnLoneOf_tree {α : Type} (code : List Int) (leaf0_ : Bool → α) (fail_ : α) : α :=
  (bif decide ((↑code.length : Int) > 1048576) then (leaf0_ true) else (optC (S.DrawLoneOf_t code) (fun c_1 => (optC (I.LoneOf_t c_1) (fun c_2 => (optC (S.LoneOf_t c_1) (fun c_3 => (bif !c_2 == c_3 then (leaf0_ false) else (bif decide (c_2 < 0) then (bif c_2 == -1 then (optC (I.NetOk_t c_1) (fun c_4 => (bif !c_4 then (optC (L.alive_t) (fun c_5 => (leaf0_ c_5)) fail_) else (leaf0_ false))) fail_) else (leaf0_ false)) else (optC (L.FnLoneOf_run10 c_2 FUEL (0, c_1)) (fun qy_7 => (sumC qy_7 (fun (qy_7 : Bool × (List Int)) => (leaf0_ qy_7.1)) (fun (qy_7 : List Int) => (bif decide (c_2 < IntKind.i64.wrap (1 * 2 ^ min (↑qy_7.length : Int).toNat IntKind.i64.bits)) then (optC (L.alive_t) (fun c_8 => (leaf0_ c_8)) fail_) else (leaf0_ false))))) fail_)))) fail_)) fail_)) fail_))
theorem L.FnLoneOf_tree_nat {α γ : Type} (g : α → γ) (code : List Int) (leaf0_ : Bool → α) (fail_ : α) : g (L.FnLoneOf_tree code leaf0_ fail_) = L.FnLoneOf_tree code (fun d => g (leaf0_ d)) (g fail_) := by
  unfold L.FnLoneOf_tree; simp only [apply_cnd g, apply_optC g, apply_sumC g]
noncomputable def L.FnLoneOf_t (code : List Int) : Option (Bool) := L.FnLoneOf_tree code (fun d => some d) none
theorem L.FnLoneOf_den (code : List Int) (κ : V → List E → R) : L.FnLoneOf_F [.ro true (.ints .u8 code)] [] κ = optC (L.FnLoneOf_t code) (fun (r : Bool) => κ (.bool r) []) none := by
  have hu : L.FnLoneOf_F [.ro true (.ints .u8 code)] [] κ = L.FnLoneOf_tree code (fun d => κ (.bool d) []) none := by
    refine Eq.trans (show L.FnLoneOf_F [.ro true (.ints .u8 code)] [] κ = (bif decide ((↑code.length : Int) > 1048576) then (κ (.bool true) []) else (optC (S.DrawLoneOf_t code) (fun c_1 => (optC (I.LoneOf_t c_1) (fun c_2 => (optC (S.LoneOf_t c_1) (fun c_3 => (bif !c_2 == c_3 then (κ (.bool false) []) else (bif decide (c_2 < 0) then (bif c_2 == -1 then (optC (I.NetOk_t c_1) (fun c_4 => (bif !c_4 then (optC (L.alive_t) (fun c_5 => (κ (.bool c_5) [])) none) else (κ (.bool false) []))) none) else (κ (.bool false) [])) else (L.FnLoneOf_L10 FUEL { n := 55, t := [(3, (.own 0)), (4, (.int .i64 c_2)), (5, (.int .i64 0))], h := [.row (.ints .i64 c_1)] } (L.FnLoneOf_k10 κ))))) none)) none)) none)) by kernel_rfl) ?_
    refine cnd_congr ?_ ?_
    · kernel_rfl
    · refine optC_congr (fun c_1 => ?_)
      refine optC_congr (fun c_2 => ?_)
      refine optC_congr (fun c_3 => ?_)
      refine cnd_congr ?_ ?_
      · kernel_rfl
      · refine cnd_congr ?_ ?_
        · kernel_rfl
        · refine (L.FnLoneOf_L10_run c_2 FUEL (0, c_1) (L.FnLoneOf_k10 κ)).trans (optC_congr (fun qy_7 => ?_))
          rcases qy_7 with qy_7 | qy_7
          · kernel_rfl
          · kernel_rfl
  rw [hu]
  exact (L.FnLoneOf_tree_nat (fun o => optC o (fun (r : Bool) => κ (.bool r) []) none) code (fun d => some d) none).symm
noncomputable def L.FnLoneOf_s : D.Spec where
  keep := true
  pure := true
  ds := [.int .u8]
  sp := fun args h κ => match args, h with
    | [.ro true (.ints .u8 code)], [] => optC (L.FnLoneOf_t code) (fun (r : Bool) => κ (.bool r) []) none
    | _, _ => none
theorem L.FnLoneOf_ok : SpecOk Try.prog 8 L.FnLoneOf_s := by
  refine SpecOk.of TDok mixed (T := L.FnLoneOf_T) ?_ (ann := L.FnLoneOf_ann) Try.func8 rfl (by decide +kernel) ?_ ?_ ?_
  · intro p hp
    simp only [L.FnLoneOf_T, List.mem_cons, List.not_mem_nil, or_false] at hp
    rcases hp with rfl | rfl | rfl | rfl | rfl | rfl
    · exact S.DrawLoneOf_ok
    · exact I.LoneOf_ok
    · exact S.LoneOf_ok
    · exact I.NetOk_ok
    · exact L.alive_ok
    · exact I.PartOf_ok
  · intro args h κ r hh
    simp only [L.FnLoneOf_s] at hh
    split at hh
    · exact (L.FnLoneOf_den _ κ).trans hh
    · cases hh
  · intro args h κ r hh
    simp only [L.FnLoneOf_s] at hh ⊢
    split at hh
    · exact optC_law2 (F := fun (r : Bool) κ => κ (.bool r) []) (fun b κ r hb => ⟨_, _, hb, fun _ => rfl⟩) hh
    · cases hh
  · intro _ args h κ r hh
    simp only [L.FnLoneOf_s] at hh
    split at hh
    · exact ⟨rfl, fun _ => rfl⟩
    · cases hh

-- loop.example/guardsonnets/spec.l20Order
noncomputable def S.l20Order_T : List (Nat × D.Spec) := [(64, S.l20Rd_pick_s), (65, S.l20Rd_odd_s)]
def S.l20Order_ann : Nat → List Nat × List Nat
  | 3 => ([0, 1, 2, 7, 8], [0, 2, 7])
  | _ => ([], [])
noncomputable def S.l20Order_F (args : List V) (h : List E) (κ : V → List E → R) : R := funC TD (tableK S.l20Order_T) S.l20Order_ann (drawOk (tableP S.l20Order_T)) FUEL Try.f60 args h κ
noncomputable def S.l20Order_L3 (n : Nat) (σ : St) (k : X → St → R) : R := iterC 1 (fun σ k => denC TD (tableK S.l20Order_T) S.l20Order_ann (drawOk (tableP S.l20Order_T)) 1 FUEL ((findLoop 3 (Try.f60.body.getD .skip)).getD .skip) σ k) [0, 1, 2, 7, 8] [0, 2, 7] n σ k
noncomputable def S.l20Order_k3 (κ : V → List E → R) : X → St → R := (afterC TD (tableK S.l20Order_T) S.l20Order_ann (drawOk (tableP S.l20Order_T)) 1 FUEL 3 (Try.f60.body.getD .skip) (finC 1 Try.f60 κ)).getD (fun _ _ => none)
noncomputable def S.l20Order_step3 {α : Type} (x1 : Int) (x2 : Int) (x8 : Int) (r0_0 : List Int) (r0_1 : Int) (r1 : List Int) (next_ : Int × (List Int) × Int × (List Int) → α) (out0_ : (List Int) × Int × (List Int) → α) (fail_ : α) : α :=
  (bif decide (x8 < x1) then (optC (S.l20Rd_pick_t r0_0 r0_1 (IntKind.i64.wrap ((↑r1.length : Int) + 1))) (fun c_1 => (bif decide (0 ≤ c_1.fst) && decide (c_1.fst ≤ (↑r1.length : Int)) then (bif small ([] ++ List.take c_1.fst.toNat (List.drop 0 r1)).length then (bif small ([] ++ List.take c_1.fst.toNat (List.drop 0 r1) ++ [x8]).length then (bif decide (0 ≤ c_1.fst) && decide (c_1.fst ≤ (↑r1.length : Int)) && decide ((↑r1.length : Int) ≤ (↑r1.length : Int)) then (bif small ([] ++ List.take c_1.fst.toNat (List.drop 0 r1) ++ [x8] ++ List.take (r1.length - c_1.fst.toNat) (List.drop c_1.fst.toNat r1)).length then (next_ (IntKind.i64.wrap (x8 + 1), c_1.snd.fst, c_1.snd.snd, [] ++ List.take c_1.fst.toNat (List.drop 0 r1) ++ [x8] ++ List.take (r1.length - c_1.fst.toNat) (List.drop c_1.fst.toNat r1))) else fail_) else fail_) else fail_) else fail_) else fail_)) fail_) else (out0_ (r0_0, r0_1, r1)))
theorem S.l20Order_step3_nat {α γ : Type} (g : α → γ) (x1 : Int) (x2 : Int) (x8 : Int) (r0_0 : List Int) (r0_1 : Int) (r1 : List Int) (next_ : Int × (List Int) × Int × (List Int) → α) (out0_ : (List Int) × Int × (List Int) → α) (fail_ : α) : g (S.l20Order_step3 x1 x2 x8 r0_0 r0_1 r1 next_ out0_ fail_) = S.l20Order_step3 x1 x2 x8 r0_0 r0_1 r1 (fun s => g (next_ s)) (fun d => g (out0_ d)) (g fail_) := by
  unfold S.l20Order_step3; simp only [apply_cnd g, apply_optC g, apply_sumC g]
noncomputable def S.l20Order_run3 (x1 : Int) (x2 : Int) : Nat → Int × (List Int) × Int × (List Int) → Option ((List Int) × Int × (List Int))
  | 0, _ => none
  | n + 1, s_ => S.l20Order_step3 x1 x2 s_.1 s_.2.1 s_.2.2.1 s_.2.2.2 (S.l20Order_run3 x1 x2 n) (fun d => some d) none
theorem S.l20Order_L3_run (x1 : Int) (x2 : Int) (n : Nat) (s_ : Int × (List Int) × Int × (List Int)) (k : X → St → R) : S.l20Order_L3 n { n := 43, t := [(0, (.ptr 0 0)), (1, (.int .i64 x1)), (2, (.int .i64 x2)), (7, (.own 1)), (8, (.int .i64 s_.1))], h := [.cells [(.ro true (.ints .u8 s_.2.1)), (.int .i64 s_.2.2.1)], .row (.ints .i64 s_.2.2.2)] } k = optC (S.l20Order_run3 x1 x2 n s_) (fun (r : (List Int) × Int × (List Int)) => k (.exit 0) { n := 43, t := [(0, (.ptr 0 0)), (2, (.int .i64 x2)), (7, (.own 1))], h := [.cells [(.ro true (.ints .u8 r.1)), (.int .i64 r.2.1)], .row (.ints .i64 r.2.2)] }) none := by
  induction n generalizing s_ with
  | zero => rfl
  | succ n ih =>
    have hu : S.l20Order_L3 (n + 1) { n := 43, t := [(0, (.ptr 0 0)), (1, (.int .i64 x1)), (2, (.int .i64 x2)), (7, (.own 1)), (8, (.int .i64 s_.1))], h := [.cells [(.ro true (.ints .u8 s_.2.1)), (.int .i64 s_.2.2.1)], .row (.ints .i64 s_.2.2.2)] } k = S.l20Order_step3 x1 x2 s_.1 s_.2.1 s_.2.2.1 s_.2.2.2 (fun s_ => S.l20Order_L3 n { n := 43, t := [(0, (.ptr 0 0)), (1, (.int .i64 x1)), (2, (.int .i64 x2)), (7, (.own 1)), (8, (.int .i64 s_.1))], h := [.cells [(.ro true (.ints .u8 s_.2.1)), (.int .i64 s_.2.2.1)], .row (.ints .i64 s_.2.2.2)] } k) (fun d => k (.exit 0) { n := 43, t := [(0, (.ptr 0 0)), (2, (.int .i64 x2)), (7, (.own 1))], h := [.cells [(.ro true (.ints .u8 d.1)), (.int .i64 d.2.1)], .row (.ints .i64 d.2.2)] }) none := by
      kernel_rfl
    have hs : (fun s_ : Int × (List Int) × Int × (List Int) => S.l20Order_L3 n { n := 43, t := [(0, (.ptr 0 0)), (1, (.int .i64 x1)), (2, (.int .i64 x2)), (7, (.own 1)), (8, (.int .i64 s_.1))], h := [.cells [(.ro true (.ints .u8 s_.2.1)), (.int .i64 s_.2.2.1)], .row (.ints .i64 s_.2.2.2)] } k) = fun s_ => optC (S.l20Order_run3 x1 x2 n s_) (fun (r : (List Int) × Int × (List Int)) => k (.exit 0) { n := 43, t := [(0, (.ptr 0 0)), (2, (.int .i64 x2)), (7, (.own 1))], h := [.cells [(.ro true (.ints .u8 r.1)), (.int .i64 r.2.1)], .row (.ints .i64 r.2.2)] }) none := funext ih
    rw [hu, hs]
    exact (S.l20Order_step3_nat (fun o => optC o (fun (r : (List Int) × Int × (List Int)) => k (.exit 0) { n := 43, t := [(0, (.ptr 0 0)), (2, (.int .i64 x2)), (7, (.own 1))], h := [.cells [(.ro true (.ints .u8 r.1)), (.int .i64 r.2.1)], .row (.ints .i64 r.2.2)] }) none) x1 x2 s_.1 s_.2.1 s_.2.2.1 s_.2.2.2 (S.l20Order_run3 x1 x2 n) (fun d => some d) none).symm
noncomputable def S.l20Order_tree {α : Type} (rb : List Int) (rp : Int) (many : Int) (n_ : Int) (leaf0_ : (List Int) × Int × (List Int) → α) (fail_ : α) : α :=
  (optC (S.l20Order_run3 many n_ FUEL (0, rb, rp, [])) (fun qy_2 => (optC (S.l20Rd_odd_t qy_2.1 qy_2.2.1 n_) (fun c_3 => (bif c_3.fst then (bif small (qy_2.2.2 ++ [0]).length then (leaf0_ (c_3.snd.fst, c_3.snd.snd, qy_2.2.2 ++ [0])) else fail_) else (leaf0_ (c_3.snd.fst, c_3.snd.snd, qy_2.2.2)))) fail_)) fail_)
theorem S.l20Order_tree_nat {α γ : Type} (g : α → γ) (rb : List Int) (rp : Int) (many : Int) (n_ : Int) (leaf0_ : (List Int) × Int × (List Int) → α) (fail_ : α) : g (S.l20Order_tree rb rp many n_ leaf0_ fail_) = S.l20Order_tree rb rp many n_ (fun d => g (leaf0_ d)) (g fail_) := by
  unfold S.l20Order_tree; simp only [apply_cnd g, apply_optC g, apply_sumC g]
noncomputable def S.l20Order_t (rb : List Int) (rp : Int) (many : Int) (n_ : Int) : Option ((List Int) × Int × (List Int)) := S.l20Order_tree rb rp many n_ (fun d => some d) none
theorem S.l20Order_den (rb : List Int) (rp : Int) (many : Int) (n_ : Int) (κ : V → List E → R) : S.l20Order_F [.ptr 0 0, .int .i64 many, .int .i64 n_] [.cells [.ro true (.ints .u8 rb), .int .i64 rp]] κ = optC (S.l20Order_t rb rp many n_) (fun (r : (List Int) × Int × (List Int)) => κ (.own 1) [.cells [(.ro true (.ints .u8 r.1)), (.int .i64 r.2.1)], .row (.ints .i64 r.2.2)]) none := by
  have hu : S.l20Order_F [.ptr 0 0, .int .i64 many, .int .i64 n_] [.cells [.ro true (.ints .u8 rb), .int .i64 rp]] κ = S.l20Order_tree rb rp many n_ (fun d => κ (.own 1) [.cells [(.ro true (.ints .u8 d.1)), (.int .i64 d.2.1)], .row (.ints .i64 d.2.2)]) none := by
    refine Eq.trans (show S.l20Order_F [.ptr 0 0, .int .i64 many, .int .i64 n_] [.cells [.ro true (.ints .u8 rb), .int .i64 rp]] κ = (S.l20Order_L3 FUEL { n := 43, t := [(0, (.ptr 0 0)), (1, (.int .i64 many)), (2, (.int .i64 n_)), (7, (.own 1)), (8, (.int .i64 0))], h := [.cells [(.ro true (.ints .u8 rb)), (.int .i64 rp)], .row (.ints .i64 ([]))] } (S.l20Order_k3 κ)) by kernel_rfl) ?_
    refine (S.l20Order_L3_run many n_ FUEL (0, rb, rp, []) (S.l20Order_k3 κ)).trans (optC_congr (fun qy_2 => ?_))
    kernel_rfl
  rw [hu]
  exact (S.l20Order_tree_nat (fun o => optC o (fun (r : (List Int) × Int × (List Int)) => κ (.own 1) [.cells [(.ro true (.ints .u8 r.1)), (.int .i64 r.2.1)], .row (.ints .i64 r.2.2)]) none) rb rp many n_ (fun d => some d) none).symm
noncomputable def S.l20Order_s : D.Spec where
  keep := false
  pure := false
  ds := [.invalid, .invalid, .invalid]
  sp := fun args h κ => match args, h with
    | [.ptr 0 0, .int .i64 many, .int .i64 n_], [.cells [.ro true (.ints .u8 rb), .int .i64 rp]] => optC (S.l20Order_t rb rp many n_) (fun (r : (List Int) × Int × (List Int)) => κ (.own 1) [.cells [(.ro true (.ints .u8 r.1)), (.int .i64 r.2.1)], .row (.ints .i64 r.2.2)]) none
    | _, _ => none
theorem S.l20Order_ok : SpecOk Try.prog 60 S.l20Order_s := by
  refine SpecOk.of TDok mixed (T := S.l20Order_T) ?_ (ann := S.l20Order_ann) Try.func60 rfl (by decide +kernel) ?_ ?_ ?_
  · intro p hp
    simp only [S.l20Order_T, List.mem_cons, List.not_mem_nil, or_false] at hp
    rcases hp with rfl | rfl
    · exact S.l20Rd_pick_ok
    · exact S.l20Rd_odd_ok
  · intro args h κ r hh
    simp only [S.l20Order_s] at hh
    split at hh
    · exact (S.l20Order_den _ _ _ _ κ).trans hh
    · cases hh
  · intro args h κ r hh
    simp only [S.l20Order_s] at hh ⊢
    split at hh
    · exact optC_law2 (F := fun (r : (List Int) × Int × (List Int)) κ => κ (.own 1) [.cells [(.ro true (.ints .u8 r.1)), (.int .i64 r.2.1)], .row (.ints .i64 r.2.2)]) (fun b κ r hb => ⟨_, _, hb, fun _ => rfl⟩) hh
    · cases hh
  · intro hh; cases hh

-- loop.example/guardsonnets/spec.DrawNamedNet
noncomputable def S.DrawNamedNet_T : List (Nat × D.Spec) := [(42, S.l20Open_s), (52, S.l20Net_s), (60, S.l20Order_s)]
def S.DrawNamedNet_ann : Nat → List Nat × List Nat
  | _ => ([], [])
noncomputable def S.DrawNamedNet_F (args : List V) (h : List E) (κ : V → List E → R) : R := funC TD (tableK S.DrawNamedNet_T) S.DrawNamedNet_ann (drawOk (tableP S.DrawNamedNet_T)) FUEL Try.f32 args h κ
noncomputable def S.DrawNamedNet_tree {α : Type} (code : List Int) (leaf0_ : (List Int) × (List Int) → α) (fail_ : α) : α :=
  (optC (S.l20Open_t code) (fun c_1 => (optC (S.l20Net_t c_1.fst c_1.snd 14) (fun c_2 => (optC (S.l20Order_t c_2.fst c_2.snd.fst (↑c_2.snd.snd.length : Int) 14) (fun c_3 => (leaf0_ (c_2.snd.snd, c_3.snd.snd))) fail_)) fail_)) fail_)
theorem S.DrawNamedNet_tree_nat {α γ : Type} (g : α → γ) (code : List Int) (leaf0_ : (List Int) × (List Int) → α) (fail_ : α) : g (S.DrawNamedNet_tree code leaf0_ fail_) = S.DrawNamedNet_tree code (fun d => g (leaf0_ d)) (g fail_) := by
  unfold S.DrawNamedNet_tree; simp only [apply_cnd g, apply_optC g, apply_sumC g]
noncomputable def S.DrawNamedNet_t (code : List Int) : Option ((List Int) × (List Int)) := S.DrawNamedNet_tree code (fun d => some d) none
theorem S.DrawNamedNet_den (code : List Int) (κ : V → List E → R) : S.DrawNamedNet_F [.ro true (.ints .u8 code)] [] κ = optC (S.DrawNamedNet_t code) (fun (r : (List Int) × (List Int)) => κ (.tup [(.own 0), (.own 1)]) [.row (.ints .i64 r.1), .row (.ints .i64 r.2)]) none := by
  have hu : S.DrawNamedNet_F [.ro true (.ints .u8 code)] [] κ = S.DrawNamedNet_tree code (fun d => κ (.tup [(.own 0), (.own 1)]) [.row (.ints .i64 d.1), .row (.ints .i64 d.2)]) none := by
    kernel_rfl
  rw [hu]
  exact (S.DrawNamedNet_tree_nat (fun o => optC o (fun (r : (List Int) × (List Int)) => κ (.tup [(.own 0), (.own 1)]) [.row (.ints .i64 r.1), .row (.ints .i64 r.2)]) none) code (fun d => some d) none).symm
noncomputable def S.DrawNamedNet_s : D.Spec where
  keep := true
  pure := false
  ds := [.int .u8]
  sp := fun args h κ => match args, h with
    | [.ro true (.ints .u8 code)], [] => optC (S.DrawNamedNet_t code) (fun (r : (List Int) × (List Int)) => κ (.tup [(.own 0), (.own 1)]) [.row (.ints .i64 r.1), .row (.ints .i64 r.2)]) none
    | _, _ => none
theorem S.DrawNamedNet_ok : SpecOk Try.prog 32 S.DrawNamedNet_s := by
  refine SpecOk.of TDok mixed (T := S.DrawNamedNet_T) ?_ (ann := S.DrawNamedNet_ann) Try.func32 rfl (by decide +kernel) ?_ ?_ ?_
  · intro p hp
    simp only [S.DrawNamedNet_T, List.mem_cons, List.not_mem_nil, or_false] at hp
    rcases hp with rfl | rfl | rfl
    · exact S.l20Open_ok
    · exact S.l20Net_ok
    · exact S.l20Order_ok
  · intro args h κ r hh
    simp only [S.DrawNamedNet_s] at hh
    split at hh
    · exact (S.DrawNamedNet_den _ κ).trans hh
    · cases hh
  · intro args h κ r hh
    simp only [S.DrawNamedNet_s] at hh ⊢
    split at hh
    · exact optC_law2 (F := fun (r : (List Int) × (List Int)) κ => κ (.tup [(.own 0), (.own 1)]) [.row (.ints .i64 r.1), .row (.ints .i64 r.2)]) (fun b κ r hb => ⟨_, _, hb, fun _ => rfl⟩) hh
    · cases hh
  · intro hh; cases hh

-- loop.example/guardsonnets/impl.orderIn
noncomputable def I.orderIn_T : List (Nat × D.Spec) := [(43, I.placeIn_s), (55, I.hasPlace_s)]
def I.orderIn_ann : Nat → List Nat × List Nat
  | 5 => ([0, 1, 5, 6], [4])
  | _ => ([], [])
noncomputable def I.orderIn_F (args : List V) (h : List E) (κ : V → List E → R) : R := funC TD (tableK I.orderIn_T) I.orderIn_ann (drawOk (tableP I.orderIn_T)) FUEL Try.f61 args h κ
noncomputable def I.orderIn_L5 (n : Nat) (σ : St) (k : X → St → R) : R := iterC 0 (fun σ k => denC TD (tableK I.orderIn_T) I.orderIn_ann (drawOk (tableP I.orderIn_T)) 0 FUEL ((findLoop 5 (Try.f61.body.getD .skip)).getD .skip) σ k) [0, 1, 5, 6] [4] n σ k
noncomputable def I.orderIn_k5 (κ : V → List E → R) : X → St → R := (afterC TD (tableK I.orderIn_T) I.orderIn_ann (drawOk (tableP I.orderIn_T)) 0 FUEL 5 (Try.f61.body.getD .skip) (finC 0 Try.f61 κ)).getD (fun _ _ => none)
noncomputable def I.orderIn_step5 {α : Type} (x0 : List Int) (x1 : List Int) (x5 : Int) (x6 : Int) (next_ : Int × Int → α) (out0_ : Bool → α) (out1_ : Unit → α) (fail_ : α) : α :=
  (bif decide (x6 < (↑x1.length : Int)) then (bif decide (0 ≤ x6) && decide (x6 < (↑x1.length : Int)) then (optC (I.placeIn_t x0 (eli x1 x6.toNat)) (fun c_1 => (bif !c_1 then (out0_ false) else (bif decide (0 ≤ x6) && decide (x6 < (↑x1.length : Int)) then (optC (I.hasPlace_t x5 (eli x1 x6.toNat)) (fun c_2 => (bif c_2 then (out0_ false) else (bif decide (0 ≤ x6) && decide (x6 < (↑x1.length : Int)) then (bif decide (eli x1 x6.toNat < 0) then fail_ else (next_ (bits BinOp.or IntKind.i64 x5 (IntKind.i64.wrap (1 * 2 ^ min (eli x1 x6.toNat).toNat IntKind.i64.bits)), IntKind.i64.wrap (x6 + 1)))) else fail_))) fail_) else fail_))) fail_) else fail_) else (out1_ ()))
theorem I.orderIn_step5_nat {α γ : Type} (g : α → γ) (x0 : List Int) (x1 : List Int) (x5 : Int) (x6 : Int) (next_ : Int × Int → α) (out0_ : Bool → α) (out1_ : Unit → α) (fail_ : α) : g (I.orderIn_step5 x0 x1 x5 x6 next_ out0_ out1_ fail_) = I.orderIn_step5 x0 x1 x5 x6 (fun s => g (next_ s)) (fun d => g (out0_ d)) (fun d => g (out1_ d)) (g fail_) := by
  unfold I.orderIn_step5; simp only [apply_cnd g, apply_optC g, apply_sumC g]
noncomputable def I.orderIn_run5 (x0 : List Int) (x1 : List Int) : Nat → Int × Int → Option ((Bool) ⊕ (Unit))
  | 0, _ => none
  | n + 1, s_ => I.orderIn_step5 x0 x1 s_.1 s_.2 (I.orderIn_run5 x0 x1 n) (fun d => some ((Sum.inl d))) (fun d => some ((Sum.inr d))) none
theorem I.orderIn_L5_run (x0 : List Int) (x1 : List Int) (n : Nat) (s_ : Int × Int) (k : X → St → R) : I.orderIn_L5 n { n := 40, t := [(0, (.ro false (.ints .i64 x0))), (1, (.ro false (.ints .i64 x1))), (5, (.int .i64 s_.1)), (6, (.int .i64 s_.2))], h := [] } k = optC (I.orderIn_run5 x0 x1 n s_) (fun (r : (Bool) ⊕ (Unit)) => (sumC r (fun (r : Bool) => k (.ret) { n := 40, t := [(4, (.bool r))], h := [] }) (fun (r : Unit) => k (.exit 0) { n := 40, t := [(4, .junk)], h := [] }))) none := by
  induction n generalizing s_ with
  | zero => rfl
  | succ n ih =>
    have hu : I.orderIn_L5 (n + 1) { n := 40, t := [(0, (.ro false (.ints .i64 x0))), (1, (.ro false (.ints .i64 x1))), (5, (.int .i64 s_.1)), (6, (.int .i64 s_.2))], h := [] } k = I.orderIn_step5 x0 x1 s_.1 s_.2 (fun s_ => I.orderIn_L5 n { n := 40, t := [(0, (.ro false (.ints .i64 x0))), (1, (.ro false (.ints .i64 x1))), (5, (.int .i64 s_.1)), (6, (.int .i64 s_.2))], h := [] } k) (fun d => k (.ret) { n := 40, t := [(4, (.bool d))], h := [] }) (fun d => k (.exit 0) { n := 40, t := [(4, .junk)], h := [] }) none := by
      kernel_rfl
    have hs : (fun s_ : Int × Int => I.orderIn_L5 n { n := 40, t := [(0, (.ro false (.ints .i64 x0))), (1, (.ro false (.ints .i64 x1))), (5, (.int .i64 s_.1)), (6, (.int .i64 s_.2))], h := [] } k) = fun s_ => optC (I.orderIn_run5 x0 x1 n s_) (fun (r : (Bool) ⊕ (Unit)) => (sumC r (fun (r : Bool) => k (.ret) { n := 40, t := [(4, (.bool r))], h := [] }) (fun (r : Unit) => k (.exit 0) { n := 40, t := [(4, .junk)], h := [] }))) none := funext ih
    rw [hu, hs]
    exact (I.orderIn_step5_nat (fun o => optC o (fun (r : (Bool) ⊕ (Unit)) => (sumC r (fun (r : Bool) => k (.ret) { n := 40, t := [(4, (.bool r))], h := [] }) (fun (r : Unit) => k (.exit 0) { n := 40, t := [(4, .junk)], h := [] }))) none) x0 x1 s_.1 s_.2 (I.orderIn_run5 x0 x1 n) (fun d => some ((Sum.inl d))) (fun d => some ((Sum.inr d))) none).symm
noncomputable def I.orderIn_tree {α : Type} (net : List Int) (order : List Int) (leaf0_ : Bool → α) (fail_ : α) : α :=
  (bif !(↑order.length : Int) == (↑net.length : Int) then (leaf0_ false) else (optC (I.orderIn_run5 net order FUEL (0, 0)) (fun qy_3 => (sumC qy_3 (fun (qy_3 : Bool) => (leaf0_ qy_3)) (fun (qy_3 : Unit) => (leaf0_ true)))) fail_))
theorem I.orderIn_tree_nat {α γ : Type} (g : α → γ) (net : List Int) (order : List Int) (leaf0_ : Bool → α) (fail_ : α) : g (I.orderIn_tree net order leaf0_ fail_) = I.orderIn_tree net order (fun d => g (leaf0_ d)) (g fail_) := by
  unfold I.orderIn_tree; simp only [apply_cnd g, apply_optC g, apply_sumC g]
noncomputable def I.orderIn_t (net : List Int) (order : List Int) : Option (Bool) := I.orderIn_tree net order (fun d => some d) none
theorem I.orderIn_den (net : List Int) (order : List Int) (κ : V → List E → R) : I.orderIn_F [.ro false (.ints .i64 net), .ro false (.ints .i64 order)] [] κ = optC (I.orderIn_t net order) (fun (r : Bool) => κ (.bool r) []) none := by
  have hu : I.orderIn_F [.ro false (.ints .i64 net), .ro false (.ints .i64 order)] [] κ = I.orderIn_tree net order (fun d => κ (.bool d) []) none := by
    refine Eq.trans (show I.orderIn_F [.ro false (.ints .i64 net), .ro false (.ints .i64 order)] [] κ = (bif !(↑order.length : Int) == (↑net.length : Int) then (κ (.bool false) []) else (I.orderIn_L5 FUEL { n := 40, t := [(0, (.ro false (.ints .i64 net))), (1, (.ro false (.ints .i64 order))), (5, (.int .i64 0)), (6, (.int .i64 0))], h := [] } (I.orderIn_k5 κ))) by kernel_rfl) ?_
    refine cnd_congr ?_ ?_
    · kernel_rfl
    · refine (I.orderIn_L5_run net order FUEL (0, 0) (I.orderIn_k5 κ)).trans (optC_congr (fun qy_3 => ?_))
      rcases qy_3 with qy_3 | qy_3
      · kernel_rfl
      · kernel_rfl
  rw [hu]
  exact (I.orderIn_tree_nat (fun o => optC o (fun (r : Bool) => κ (.bool r) []) none) net order (fun d => some d) none).symm
noncomputable def I.orderIn_s : D.Spec where
  keep := false
  pure := true
  ds := [.int .i64, .int .i64]
  sp := fun args h κ => match args, h with
    | [.ro false (.ints .i64 net), .ro false (.ints .i64 order)], [] => optC (I.orderIn_t net order) (fun (r : Bool) => κ (.bool r) []) none
    | _, _ => none
theorem I.orderIn_ok : SpecOk Try.prog 61 I.orderIn_s := by
  refine SpecOk.of TDok mixed (T := I.orderIn_T) ?_ (ann := I.orderIn_ann) Try.func61 rfl (by decide +kernel) ?_ ?_ ?_
  · intro p hp
    simp only [I.orderIn_T, List.mem_cons, List.not_mem_nil, or_false] at hp
    rcases hp with rfl | rfl
    · exact I.placeIn_ok
    · exact I.hasPlace_ok
  · intro args h κ r hh
    simp only [I.orderIn_s] at hh
    split at hh
    · exact (I.orderIn_den _ _ κ).trans hh
    · cases hh
  · intro args h κ r hh
    simp only [I.orderIn_s] at hh ⊢
    split at hh
    · exact optC_law2 (F := fun (r : Bool) κ => κ (.bool r) []) (fun b κ r hb => ⟨_, _, hb, fun _ => rfl⟩) hh
    · cases hh
  · intro _ args h κ r hh
    simp only [I.orderIn_s] at hh
    split at hh
    · exact ⟨rfl, fun _ => rfl⟩
    · cases hh

-- loop.example/guardsonnets/impl.namedSet
noncomputable def I.namedSet_T : List (Nat × D.Spec) := [(55, I.hasPlace_s)]
def I.namedSet_ann : Nat → List Nat × List Nat
  | 3 => ([0, 1, 5, 6], [5])
  | _ => ([], [])
noncomputable def I.namedSet_F (args : List V) (h : List E) (κ : V → List E → R) : R := funC TD (tableK I.namedSet_T) I.namedSet_ann (drawOk (tableP I.namedSet_T)) FUEL Try.f62 args h κ
noncomputable def I.namedSet_L3 (n : Nat) (σ : St) (k : X → St → R) : R := iterC 0 (fun σ k => denC TD (tableK I.namedSet_T) I.namedSet_ann (drawOk (tableP I.namedSet_T)) 0 FUEL ((findLoop 3 (Try.f62.body.getD .skip)).getD .skip) σ k) [0, 1, 5, 6] [5] n σ k
noncomputable def I.namedSet_k3 (κ : V → List E → R) : X → St → R := (afterC TD (tableK I.namedSet_T) I.namedSet_ann (drawOk (tableP I.namedSet_T)) 0 FUEL 3 (Try.f62.body.getD .skip) (finC 0 Try.f62 κ)).getD (fun _ _ => none)
noncomputable def I.namedSet_step3 {α : Type} (x0 : Int) (x1 : List Int) (x5 : Int) (x6 : Int) (next_ : Int × Int → α) (out0_ : Int → α) (fail_ : α) : α :=
  (bif decide (x6 < (↑x1.length : Int)) then (optC (I.hasPlace_t x0 x6) (fun c_1 => (bif c_1 then (bif decide (0 ≤ x6) && decide (x6 < (↑x1.length : Int)) then (bif decide (eli x1 x6.toNat < 0) then fail_ else (next_ (bits BinOp.or IntKind.i64 x5 (IntKind.i64.wrap (1 * 2 ^ min (eli x1 x6.toNat).toNat IntKind.i64.bits)), IntKind.i64.wrap (x6 + 1)))) else fail_) else (next_ (x5, IntKind.i64.wrap (x6 + 1))))) fail_) else (out0_ x5))
theorem I.namedSet_step3_nat {α γ : Type} (g : α → γ) (x0 : Int) (x1 : List Int) (x5 : Int) (x6 : Int) (next_ : Int × Int → α) (out0_ : Int → α) (fail_ : α) : g (I.namedSet_step3 x0 x1 x5 x6 next_ out0_ fail_) = I.namedSet_step3 x0 x1 x5 x6 (fun s => g (next_ s)) (fun d => g (out0_ d)) (g fail_) := by
  unfold I.namedSet_step3; simp only [apply_cnd g, apply_optC g, apply_sumC g]
noncomputable def I.namedSet_run3 (x0 : Int) (x1 : List Int) : Nat → Int × Int → Option (Int)
  | 0, _ => none
  | n + 1, s_ => I.namedSet_step3 x0 x1 s_.1 s_.2 (I.namedSet_run3 x0 x1 n) (fun d => some d) none
theorem I.namedSet_L3_run (x0 : Int) (x1 : List Int) (n : Nat) (s_ : Int × Int) (k : X → St → R) : I.namedSet_L3 n { n := 24, t := [(0, (.int .i64 x0)), (1, (.ro false (.ints .i64 x1))), (5, (.int .i64 s_.1)), (6, (.int .i64 s_.2))], h := [] } k = optC (I.namedSet_run3 x0 x1 n s_) (fun (r : Int) => k (.exit 0) { n := 24, t := [(5, (.int .i64 r))], h := [] }) none := by
  induction n generalizing s_ with
  | zero => rfl
  | succ n ih =>
    have hu : I.namedSet_L3 (n + 1) { n := 24, t := [(0, (.int .i64 x0)), (1, (.ro false (.ints .i64 x1))), (5, (.int .i64 s_.1)), (6, (.int .i64 s_.2))], h := [] } k = I.namedSet_step3 x0 x1 s_.1 s_.2 (fun s_ => I.namedSet_L3 n { n := 24, t := [(0, (.int .i64 x0)), (1, (.ro false (.ints .i64 x1))), (5, (.int .i64 s_.1)), (6, (.int .i64 s_.2))], h := [] } k) (fun d => k (.exit 0) { n := 24, t := [(5, (.int .i64 d))], h := [] }) none := by
      kernel_rfl
    have hs : (fun s_ : Int × Int => I.namedSet_L3 n { n := 24, t := [(0, (.int .i64 x0)), (1, (.ro false (.ints .i64 x1))), (5, (.int .i64 s_.1)), (6, (.int .i64 s_.2))], h := [] } k) = fun s_ => optC (I.namedSet_run3 x0 x1 n s_) (fun (r : Int) => k (.exit 0) { n := 24, t := [(5, (.int .i64 r))], h := [] }) none := funext ih
    rw [hu, hs]
    exact (I.namedSet_step3_nat (fun o => optC o (fun (r : Int) => k (.exit 0) { n := 24, t := [(5, (.int .i64 r))], h := [] }) none) x0 x1 s_.1 s_.2 (I.namedSet_run3 x0 x1 n) (fun d => some d) none).symm
noncomputable def I.namedSet_tree {α : Type} (set_ : Int) (order : List Int) (leaf0_ : Int → α) (fail_ : α) : α :=
  (optC (I.namedSet_run3 set_ order FUEL (0, 0)) (fun qy_2 => (leaf0_ qy_2)) fail_)
theorem I.namedSet_tree_nat {α γ : Type} (g : α → γ) (set_ : Int) (order : List Int) (leaf0_ : Int → α) (fail_ : α) : g (I.namedSet_tree set_ order leaf0_ fail_) = I.namedSet_tree set_ order (fun d => g (leaf0_ d)) (g fail_) := by
  unfold I.namedSet_tree; simp only [apply_cnd g, apply_optC g, apply_sumC g]
noncomputable def I.namedSet_t (set_ : Int) (order : List Int) : Option (Int) := I.namedSet_tree set_ order (fun d => some d) none
theorem I.namedSet_den (set_ : Int) (order : List Int) (κ : V → List E → R) : I.namedSet_F [.int .i64 set_, .ro false (.ints .i64 order)] [] κ = optC (I.namedSet_t set_ order) (fun (r : Int) => κ (.int .i64 r) []) none := by
  have hu : I.namedSet_F [.int .i64 set_, .ro false (.ints .i64 order)] [] κ = I.namedSet_tree set_ order (fun d => κ (.int .i64 d) []) none := by
    refine Eq.trans (show I.namedSet_F [.int .i64 set_, .ro false (.ints .i64 order)] [] κ = (I.namedSet_L3 FUEL { n := 24, t := [(0, (.int .i64 set_)), (1, (.ro false (.ints .i64 order))), (5, (.int .i64 0)), (6, (.int .i64 0))], h := [] } (I.namedSet_k3 κ)) by kernel_rfl) ?_
    refine (I.namedSet_L3_run set_ order FUEL (0, 0) (I.namedSet_k3 κ)).trans (optC_congr (fun qy_2 => ?_))
    kernel_rfl
  rw [hu]
  exact (I.namedSet_tree_nat (fun o => optC o (fun (r : Int) => κ (.int .i64 r) []) none) set_ order (fun d => some d) none).symm
noncomputable def I.namedSet_s : D.Spec where
  keep := false
  pure := true
  ds := [.invalid, .int .i64]
  sp := fun args h κ => match args, h with
    | [.int .i64 set_, .ro false (.ints .i64 order)], [] => optC (I.namedSet_t set_ order) (fun (r : Int) => κ (.int .i64 r) []) none
    | _, _ => none
theorem I.namedSet_ok : SpecOk Try.prog 62 I.namedSet_s := by
  refine SpecOk.of TDok mixed (T := I.namedSet_T) ?_ (ann := I.namedSet_ann) Try.func62 rfl (by decide +kernel) ?_ ?_ ?_
  · intro p hp
    simp only [I.namedSet_T, List.mem_cons, List.not_mem_nil, or_false] at hp
    rcases hp with rfl
    · exact I.hasPlace_ok
  · intro args h κ r hh
    simp only [I.namedSet_s] at hh
    split at hh
    · exact (I.namedSet_den _ _ κ).trans hh
    · cases hh
  · intro args h κ r hh
    simp only [I.namedSet_s] at hh ⊢
    split at hh
    · exact optC_law2 (F := fun (r : Int) κ => κ (.int .i64 r) []) (fun b κ r hb => ⟨_, _, hb, fun _ => rfl⟩) hh
    · cases hh
  · intro _ args h κ r hh
    simp only [I.namedSet_s] at hh
    split at hh
    · exact ⟨rfl, fun _ => rfl⟩
    · cases hh

-- loop.example/guardsonnets/impl.NamedNet
noncomputable def I.NamedNet_T : List (Nat × D.Spec) := [(21, I.NetOk_s), (61, I.orderIn_s), (62, I.namedSet_s)]
def I.NamedNet_ann : Nat → List Nat × List Nat
  | 5 => ([0, 1, 6, 7], [6])
  | _ => ([], [])
noncomputable def I.NamedNet_F (args : List V) (h : List E) (κ : V → List E → R) : R := funC TD (tableK I.NamedNet_T) I.NamedNet_ann (drawOk (tableP I.NamedNet_T)) FUEL Try.f33 args h κ
noncomputable def I.NamedNet_L5 (n : Nat) (σ : St) (k : X → St → R) : R := iterC 0 (fun σ k => denC TD (tableK I.NamedNet_T) I.NamedNet_ann (drawOk (tableP I.NamedNet_T)) 0 FUEL ((findLoop 5 (Try.f33.body.getD .skip)).getD .skip) σ k) [0, 1, 6, 7] [6] n σ k
noncomputable def I.NamedNet_k5 (κ : V → List E → R) : X → St → R := (afterC TD (tableK I.NamedNet_T) I.NamedNet_ann (drawOk (tableP I.NamedNet_T)) 0 FUEL 5 (Try.f33.body.getD .skip) (finC 0 Try.f33 κ)).getD (fun _ _ => none)
noncomputable def I.NamedNet_step5 {α : Type} (x0 : List Int) (x1 : List Int) (x7 : Int) (r0 : List Int) (next_ : Int × (List Int) → α) (out0_ : List Int → α) (fail_ : α) : α :=
  (bif decide (x7 < (↑x0.length : Int)) then (bif decide (0 ≤ x7) && decide (x7 < (↑x1.length : Int)) then (bif decide (0 ≤ x7) && decide (x7 < (↑x0.length : Int)) then (optC (I.namedSet_t (eli x0 x7.toNat) x1) (fun c_3 => (bif decide (0 ≤ eli x1 x7.toNat) && decide (eli x1 x7.toNat < (↑r0.length : Int)) then (bif decide ((eli x1 x7.toNat).toNat < r0.length) then (next_ (IntKind.i64.wrap (x7 + 1), r0.set (eli x1 x7.toNat).toNat c_3)) else fail_) else fail_)) fail_) else fail_) else fail_) else (out0_ r0))
theorem I.NamedNet_step5_nat {α γ : Type} (g : α → γ) (x0 : List Int) (x1 : List Int) (x7 : Int) (r0 : List Int) (next_ : Int × (List Int) → α) (out0_ : List Int → α) (fail_ : α) : g (I.NamedNet_step5 x0 x1 x7 r0 next_ out0_ fail_) = I.NamedNet_step5 x0 x1 x7 r0 (fun s => g (next_ s)) (fun d => g (out0_ d)) (g fail_) := by
  unfold I.NamedNet_step5; simp only [apply_cnd g, apply_optC g, apply_sumC g]
noncomputable def I.NamedNet_run5 (x0 : List Int) (x1 : List Int) : Nat → Int × (List Int) → Option (List Int)
  | 0, _ => none
  | n + 1, s_ => I.NamedNet_step5 x0 x1 s_.1 s_.2 (I.NamedNet_run5 x0 x1 n) (fun d => some d) none
theorem I.NamedNet_L5_run (x0 : List Int) (x1 : List Int) (n : Nat) (s_ : Int × (List Int)) (k : X → St → R) : I.NamedNet_L5 n { n := 39, t := [(0, (.ro false (.ints .i64 x0))), (1, (.ro false (.ints .i64 x1))), (6, (.own 0)), (7, (.int .i64 s_.1))], h := [.row (.ints .i64 s_.2)] } k = optC (I.NamedNet_run5 x0 x1 n s_) (fun (r : List Int) => k (.exit 0) { n := 39, t := [(6, (.own 0))], h := [.row (.ints .i64 r)] }) none := by
  induction n generalizing s_ with
  | zero => rfl
  | succ n ih =>
    have hu : I.NamedNet_L5 (n + 1) { n := 39, t := [(0, (.ro false (.ints .i64 x0))), (1, (.ro false (.ints .i64 x1))), (6, (.own 0)), (7, (.int .i64 s_.1))], h := [.row (.ints .i64 s_.2)] } k = I.NamedNet_step5 x0 x1 s_.1 s_.2 (fun s_ => I.NamedNet_L5 n { n := 39, t := [(0, (.ro false (.ints .i64 x0))), (1, (.ro false (.ints .i64 x1))), (6, (.own 0)), (7, (.int .i64 s_.1))], h := [.row (.ints .i64 s_.2)] } k) (fun d => k (.exit 0) { n := 39, t := [(6, (.own 0))], h := [.row (.ints .i64 d)] }) none := by
      kernel_rfl
    have hs : (fun s_ : Int × (List Int) => I.NamedNet_L5 n { n := 39, t := [(0, (.ro false (.ints .i64 x0))), (1, (.ro false (.ints .i64 x1))), (6, (.own 0)), (7, (.int .i64 s_.1))], h := [.row (.ints .i64 s_.2)] } k) = fun s_ => optC (I.NamedNet_run5 x0 x1 n s_) (fun (r : List Int) => k (.exit 0) { n := 39, t := [(6, (.own 0))], h := [.row (.ints .i64 r)] }) none := funext ih
    rw [hu, hs]
    exact (I.NamedNet_step5_nat (fun o => optC o (fun (r : List Int) => k (.exit 0) { n := 39, t := [(6, (.own 0))], h := [.row (.ints .i64 r)] }) none) x0 x1 s_.1 s_.2 (I.NamedNet_run5 x0 x1 n) (fun d => some d) none).symm
noncomputable def I.NamedNet_tree {α : Type} (net : List Int) (order : List Int) (leaf0_ : Bool × (List Int) → α) (fail_ : α) : α :=
  (optC (I.NetOk_t net) (fun c_1 => (bif !c_1 then (leaf0_ (false, [])) else (optC (I.orderIn_t net order) (fun c_2 => (bif !c_2 then (leaf0_ (false, [])) else (bif small (↑net.length : Int).toNat && true then (optC (I.NamedNet_run5 net order FUEL (0, List.replicate (↑net.length : Int).toNat 0)) (fun qy_4 => (leaf0_ (true, qy_4))) fail_) else fail_))) fail_))) fail_)
theorem I.NamedNet_tree_nat {α γ : Type} (g : α → γ) (net : List Int) (order : List Int) (leaf0_ : Bool × (List Int) → α) (fail_ : α) : g (I.NamedNet_tree net order leaf0_ fail_) = I.NamedNet_tree net order (fun d => g (leaf0_ d)) (g fail_) := by
  unfold I.NamedNet_tree; simp only [apply_cnd g, apply_optC g, apply_sumC g]
noncomputable def I.NamedNet_t (net : List Int) (order : List Int) : Option (Bool × (List Int)) := I.NamedNet_tree net order (fun d => some d) none
theorem I.NamedNet_den (net : List Int) (order : List Int) (κ : V → List E → R) : I.NamedNet_F [.ro false (.ints .i64 net), .ro false (.ints .i64 order)] [] κ = optC (I.NamedNet_t net order) (fun (r : Bool × (List Int)) => κ (.tup [(.own 0), (.bool r.1)]) [.row (.ints .i64 r.2)]) none := by
  have hu : I.NamedNet_F [.ro false (.ints .i64 net), .ro false (.ints .i64 order)] [] κ = I.NamedNet_tree net order (fun d => κ (.tup [(.own 0), (.bool d.1)]) [.row (.ints .i64 d.2)]) none := by
    refine Eq.trans (show I.NamedNet_F [.ro false (.ints .i64 net), .ro false (.ints .i64 order)] [] κ = (optC (I.NetOk_t net) (fun c_1 => (bif !c_1 then (κ (.tup [(.own 0), (.bool false)]) [.row (.ints .i64 ([]))]) else (optC (I.orderIn_t net order) (fun c_2 => (bif !c_2 then (κ (.tup [(.own 0), (.bool false)]) [.row (.ints .i64 ([]))]) else (bif small (↑net.length : Int).toNat && true then (I.NamedNet_L5 FUEL { n := 39, t := [(0, (.ro false (.ints .i64 net))), (1, (.ro false (.ints .i64 order))), (6, (.own 0)), (7, (.int .i64 0))], h := [.row (.ints .i64 (List.replicate (↑net.length : Int).toNat 0))] } (I.NamedNet_k5 κ)) else none))) none))) none) by kernel_rfl) ?_
    refine optC_congr (fun c_1 => ?_)
    refine cnd_congr ?_ ?_
    · kernel_rfl
    · refine optC_congr (fun c_2 => ?_)
      refine cnd_congr ?_ ?_
      · kernel_rfl
      · refine cnd_congr ?_ ?_
        · refine (I.NamedNet_L5_run net order FUEL (0, List.replicate (↑net.length : Int).toNat 0) (I.NamedNet_k5 κ)).trans (optC_congr (fun qy_4 => ?_))
          kernel_rfl
        · kernel_rfl
  rw [hu]
  exact (I.NamedNet_tree_nat (fun o => optC o (fun (r : Bool × (List Int)) => κ (.tup [(.own 0), (.bool r.1)]) [.row (.ints .i64 r.2)]) none) net order (fun d => some d) none).symm
noncomputable def I.NamedNet_s : D.Spec where
  keep := false
  pure := false
  ds := [.int .i64, .int .i64]
  sp := fun args h κ => match args, h with
    | [.ro false (.ints .i64 net), .ro false (.ints .i64 order)], [] => optC (I.NamedNet_t net order) (fun (r : Bool × (List Int)) => κ (.tup [(.own 0), (.bool r.1)]) [.row (.ints .i64 r.2)]) none
    | _, _ => none
theorem I.NamedNet_ok : SpecOk Try.prog 33 I.NamedNet_s := by
  refine SpecOk.of TDok mixed (T := I.NamedNet_T) ?_ (ann := I.NamedNet_ann) Try.func33 rfl (by decide +kernel) ?_ ?_ ?_
  · intro p hp
    simp only [I.NamedNet_T, List.mem_cons, List.not_mem_nil, or_false] at hp
    rcases hp with rfl | rfl | rfl
    · exact I.NetOk_ok
    · exact I.orderIn_ok
    · exact I.namedSet_ok
  · intro args h κ r hh
    simp only [I.NamedNet_s] at hh
    split at hh
    · exact (I.NamedNet_den _ _ κ).trans hh
    · cases hh
  · intro args h κ r hh
    simp only [I.NamedNet_s] at hh ⊢
    split at hh
    · exact optC_law2 (F := fun (r : Bool × (List Int)) κ => κ (.tup [(.own 0), (.bool r.1)]) [.row (.ints .i64 r.2)]) (fun b κ r hb => ⟨_, _, hb, fun _ => rfl⟩) hh
    · cases hh
  · intro hh; cases hh

-- loop.example/guardsonnets/spec.l1Order
noncomputable def S.l1Order_T : List (Nat × D.Spec) := []
def S.l1Order_ann : Nat → List Nat × List Nat
  | 3 => ([0, 1, 5, 6], [0, 1, 4])
  | _ => ([], [])
noncomputable def S.l1Order_F (args : List V) (h : List E) (κ : V → List E → R) : R := funC TD (tableK S.l1Order_T) S.l1Order_ann (drawOk (tableP S.l1Order_T)) FUEL Try.f63 args h κ
noncomputable def S.l1Order_L3 (n : Nat) (σ : St) (k : X → St → R) : R := iterC 0 (fun σ k => denC TD (tableK S.l1Order_T) S.l1Order_ann (drawOk (tableP S.l1Order_T)) 0 FUEL ((findLoop 3 (Try.f63.body.getD .skip)).getD .skip) σ k) [0, 1, 5, 6] [0, 1, 4] n σ k
noncomputable def S.l1Order_k3 (κ : V → List E → R) : X → St → R := (afterC TD (tableK S.l1Order_T) S.l1Order_ann (drawOk (tableP S.l1Order_T)) 0 FUEL 3 (Try.f63.body.getD .skip) (finC 0 Try.f63 κ)).getD (fun _ _ => none)
noncomputable def S.l1Order_step3 {α : Type} (x0 : Int) (x1 : List Int) (x5 : Int) (x6 : Int) (next_ : Int × Int → α) (out0_ : Bool → α) (out1_ : Unit → α) (fail_ : α) : α :=
  (bif decide (x6 < (↑x1.length : Int)) then (bif decide (0 ≤ x6) && decide (x6 < (↑x1.length : Int)) then (bif decide (eli x1 x6.toNat < 0) then (out0_ false) else (bif decide (0 ≤ x6) && decide (x6 < (↑x1.length : Int)) then (bif decide (eli x1 x6.toNat ≥ x0) then (out0_ false) else (bif decide (0 ≤ x6) && decide (x6 < (↑x1.length : Int)) then (bif decide (eli x1 x6.toNat < 0) then fail_ else (bif (x5.fdiv (2 ^ min (eli x1 x6.toNat).toNat IntKind.i64.bits)).tmod 2 == 1 then (out0_ false) else (bif decide (0 ≤ x6) && decide (x6 < (↑x1.length : Int)) then (bif decide (eli x1 x6.toNat < 0) then fail_ else (next_ (bits BinOp.or IntKind.i64 x5 (IntKind.i64.wrap (1 * 2 ^ min (eli x1 x6.toNat).toNat IntKind.i64.bits)), IntKind.i64.wrap (x6 + 1)))) else fail_))) else fail_)) else fail_)) else fail_) else (out1_ ()))
theorem S.l1Order_step3_nat {α γ : Type} (g : α → γ) (x0 : Int) (x1 : List Int) (x5 : Int) (x6 : Int) (next_ : Int × Int → α) (out0_ : Bool → α) (out1_ : Unit → α) (fail_ : α) : g (S.l1Order_step3 x0 x1 x5 x6 next_ out0_ out1_ fail_) = S.l1Order_step3 x0 x1 x5 x6 (fun s => g (next_ s)) (fun d => g (out0_ d)) (fun d => g (out1_ d)) (g fail_) := by
  unfold S.l1Order_step3; simp only [apply_cnd g, apply_optC g, apply_sumC g]
noncomputable def S.l1Order_run3 (x0 : Int) (x1 : List Int) : Nat → Int × Int → Option ((Bool) ⊕ (Unit))
  | 0, _ => none
  | n + 1, s_ => S.l1Order_step3 x0 x1 s_.1 s_.2 (S.l1Order_run3 x0 x1 n) (fun d => some ((Sum.inl d))) (fun d => some ((Sum.inr d))) none
theorem S.l1Order_L3_run (x0 : Int) (x1 : List Int) (n : Nat) (s_ : Int × Int) (k : X → St → R) : S.l1Order_L3 n { n := 47, t := [(0, (.int .i64 x0)), (1, (.ro false (.ints .i64 x1))), (5, (.int .i64 s_.1)), (6, (.int .i64 s_.2))], h := [] } k = optC (S.l1Order_run3 x0 x1 n s_) (fun (r : (Bool) ⊕ (Unit)) => (sumC r (fun (r : Bool) => k (.ret) { n := 47, t := [(0, (.int .i64 x0)), (1, (.ro false (.ints .i64 x1))), (4, (.bool r))], h := [] }) (fun (r : Unit) => k (.exit 0) { n := 47, t := [(0, (.int .i64 x0)), (1, (.ro false (.ints .i64 x1))), (4, .junk)], h := [] }))) none := by
  induction n generalizing s_ with
  | zero => rfl
  | succ n ih =>
    have hu : S.l1Order_L3 (n + 1) { n := 47, t := [(0, (.int .i64 x0)), (1, (.ro false (.ints .i64 x1))), (5, (.int .i64 s_.1)), (6, (.int .i64 s_.2))], h := [] } k = S.l1Order_step3 x0 x1 s_.1 s_.2 (fun s_ => S.l1Order_L3 n { n := 47, t := [(0, (.int .i64 x0)), (1, (.ro false (.ints .i64 x1))), (5, (.int .i64 s_.1)), (6, (.int .i64 s_.2))], h := [] } k) (fun d => k (.ret) { n := 47, t := [(0, (.int .i64 x0)), (1, (.ro false (.ints .i64 x1))), (4, (.bool d))], h := [] }) (fun d => k (.exit 0) { n := 47, t := [(0, (.int .i64 x0)), (1, (.ro false (.ints .i64 x1))), (4, .junk)], h := [] }) none := by
      kernel_rfl
    have hs : (fun s_ : Int × Int => S.l1Order_L3 n { n := 47, t := [(0, (.int .i64 x0)), (1, (.ro false (.ints .i64 x1))), (5, (.int .i64 s_.1)), (6, (.int .i64 s_.2))], h := [] } k) = fun s_ => optC (S.l1Order_run3 x0 x1 n s_) (fun (r : (Bool) ⊕ (Unit)) => (sumC r (fun (r : Bool) => k (.ret) { n := 47, t := [(0, (.int .i64 x0)), (1, (.ro false (.ints .i64 x1))), (4, (.bool r))], h := [] }) (fun (r : Unit) => k (.exit 0) { n := 47, t := [(0, (.int .i64 x0)), (1, (.ro false (.ints .i64 x1))), (4, .junk)], h := [] }))) none := funext ih
    rw [hu, hs]
    exact (S.l1Order_step3_nat (fun o => optC o (fun (r : (Bool) ⊕ (Unit)) => (sumC r (fun (r : Bool) => k (.ret) { n := 47, t := [(0, (.int .i64 x0)), (1, (.ro false (.ints .i64 x1))), (4, (.bool r))], h := [] }) (fun (r : Unit) => k (.exit 0) { n := 47, t := [(0, (.int .i64 x0)), (1, (.ro false (.ints .i64 x1))), (4, .junk)], h := [] }))) none) x0 x1 s_.1 s_.2 (S.l1Order_run3 x0 x1 n) (fun d => some ((Sum.inl d))) (fun d => some ((Sum.inr d))) none).symm
noncomputable def S.l1Order_tree {α : Type} (many : Int) (order : List Int) (leaf0_ : Bool → α) (fail_ : α) : α :=
  (optC (S.l1Order_run3 many order FUEL (0, 0)) (fun qy_1 => (sumC qy_1 (fun (qy_1 : Bool) => (leaf0_ qy_1)) (fun (qy_1 : Unit) => (leaf0_ ((↑order.length : Int) == many))))) fail_)
theorem S.l1Order_tree_nat {α γ : Type} (g : α → γ) (many : Int) (order : List Int) (leaf0_ : Bool → α) (fail_ : α) : g (S.l1Order_tree many order leaf0_ fail_) = S.l1Order_tree many order (fun d => g (leaf0_ d)) (g fail_) := by
  unfold S.l1Order_tree; simp only [apply_cnd g, apply_optC g, apply_sumC g]
noncomputable def S.l1Order_t (many : Int) (order : List Int) : Option (Bool) := S.l1Order_tree many order (fun d => some d) none
theorem S.l1Order_den (many : Int) (order : List Int) (κ : V → List E → R) : S.l1Order_F [.int .i64 many, .ro false (.ints .i64 order)] [] κ = optC (S.l1Order_t many order) (fun (r : Bool) => κ (.bool r) []) none := by
  have hu : S.l1Order_F [.int .i64 many, .ro false (.ints .i64 order)] [] κ = S.l1Order_tree many order (fun d => κ (.bool d) []) none := by
    refine Eq.trans (show S.l1Order_F [.int .i64 many, .ro false (.ints .i64 order)] [] κ = (S.l1Order_L3 FUEL { n := 47, t := [(0, (.int .i64 many)), (1, (.ro false (.ints .i64 order))), (5, (.int .i64 0)), (6, (.int .i64 0))], h := [] } (S.l1Order_k3 κ)) by kernel_rfl) ?_
    refine (S.l1Order_L3_run many order FUEL (0, 0) (S.l1Order_k3 κ)).trans (optC_congr (fun qy_1 => ?_))
    rcases qy_1 with qy_1 | qy_1
    · kernel_rfl
    · kernel_rfl
  rw [hu]
  exact (S.l1Order_tree_nat (fun o => optC o (fun (r : Bool) => κ (.bool r) []) none) many order (fun d => some d) none).symm
noncomputable def S.l1Order_s : D.Spec where
  keep := false
  pure := true
  ds := [.invalid, .int .i64]
  sp := fun args h κ => match args, h with
    | [.int .i64 many, .ro false (.ints .i64 order)], [] => optC (S.l1Order_t many order) (fun (r : Bool) => κ (.bool r) []) none
    | _, _ => none
theorem S.l1Order_ok : SpecOk Try.prog 63 S.l1Order_s := by
  refine SpecOk.of TDok mixed (T := S.l1Order_T) ?_ (ann := S.l1Order_ann) Try.func63 rfl (by decide +kernel) ?_ ?_ ?_
  · intro p hp; cases hp
  · intro args h κ r hh
    simp only [S.l1Order_s] at hh
    split at hh
    · exact (S.l1Order_den _ _ κ).trans hh
    · cases hh
  · intro args h κ r hh
    simp only [S.l1Order_s] at hh ⊢
    split at hh
    · exact optC_law2 (F := fun (r : Bool) κ => κ (.bool r) []) (fun b κ r hb => ⟨_, _, hb, fun _ => rfl⟩) hh
    · cases hh
  · intro _ args h κ r hh
    simp only [S.l1Order_s] at hh
    split at hh
    · exact ⟨rfl, fun _ => rfl⟩
    · cases hh

-- loop.example/guardsonnets/spec.NamedNet
noncomputable def S.NamedNet_T : List (Nat × D.Spec) := [(45, S.NetOk_s), (63, S.l1Order_s)]
def S.NamedNet_ann : Nat → List Nat × List Nat
  | 8 => ([0, 1, 6, 7, 8], [0, 1, 6, 7])
  | 5 => ([0, 1, 6, 7], [6])
  | _ => ([], [])
noncomputable def S.NamedNet_F (args : List V) (h : List E) (κ : V → List E → R) : R := funC TD (tableK S.NamedNet_T) S.NamedNet_ann (drawOk (tableP S.NamedNet_T)) FUEL Try.f34 args h κ
noncomputable def S.NamedNet_L8 (n : Nat) (σ : St) (k : X → St → R) : R := iterC 0 (fun σ k => denC TD (tableK S.NamedNet_T) S.NamedNet_ann (drawOk (tableP S.NamedNet_T)) 0 FUEL ((findLoop 8 (Try.f34.body.getD .skip)).getD .skip) σ k) [0, 1, 6, 7, 8] [0, 1, 6, 7] n σ k
noncomputable def S.NamedNet_L5 (n : Nat) (σ : St) (k : X → St → R) : R := iterC 0 (fun σ k => denC TD (tableK S.NamedNet_T) S.NamedNet_ann (drawOk (tableP S.NamedNet_T)) 0 FUEL ((findLoop 5 (Try.f34.body.getD .skip)).getD .skip) σ k) [0, 1, 6, 7] [6] n σ k
noncomputable def S.NamedNet_k8 (c : (St → R) × (X → St → R)) : X → St → R := (afterC TD (tableK S.NamedNet_T) S.NamedNet_ann (drawOk (tableP S.NamedNet_T)) 0 FUEL 8 ((findLoop 5 (Try.f34.body.getD .skip)).getD .skip) (roundC 0 [0, 1, 6, 7] [6] c.1 c.2)).getD (fun _ _ => none)
noncomputable def S.NamedNet_k5 (κ : V → List E → R) : X → St → R := (afterC TD (tableK S.NamedNet_T) S.NamedNet_ann (drawOk (tableP S.NamedNet_T)) 0 FUEL 5 (Try.f34.body.getD .skip) (finC 0 Try.f34 κ)).getD (fun _ _ => none)
noncomputable def S.NamedNet_step8 {α : Type} (x0 : List Int) (x1 : List Int) (x7 : Int) (x8 : Int) (r0 : List Int) (next_ : Int × (List Int) → α) (out0_ : List Int → α) (fail_ : α) : α :=
  (bif decide (x8 < (↑x0.length : Int)) then (bif decide (0 ≤ x7) && decide (x7 < (↑x1.length : Int)) then (bif decide (0 ≤ x7) && decide (x7 < (↑x1.length : Int)) then (bif decide (0 ≤ eli x1 x7.toNat) && decide (eli x1 x7.toNat < (↑r0.length : Int)) then (bif decide ((eli x1 x7.toNat).toNat < r0.length) then (bif decide (0 ≤ x7) && decide (x7 < (↑x0.length : Int)) then (bif decide (x8 < 0) then fail_ else (bif decide (0 ≤ x8) && decide (x8 < (↑x1.length : Int)) then (bif decide (eli x1 x8.toNat < 0) then fail_ else (bif decide (0 ≤ eli x1 x7.toNat) && decide (eli x1 x7.toNat < (↑r0.length : Int)) then (bif decide ((eli x1 x7.toNat).toNat < r0.length) then (next_ (IntKind.i64.wrap (x8 + 1), r0.set (eli x1 x7.toNat).toNat (bits BinOp.or IntKind.i64 (eli r0 (eli x1 x7.toNat).toNat) (IntKind.i64.wrap (((eli x0 x7.toNat).fdiv (2 ^ min x8.toNat IntKind.i64.bits)).tmod 2 * 2 ^ min (eli x1 x8.toNat).toNat IntKind.i64.bits))))) else fail_) else fail_)) else fail_)) else fail_) else fail_) else fail_) else fail_) else fail_) else (out0_ r0))
theorem S.NamedNet_step8_nat {α γ : Type} (g : α → γ) (x0 : List Int) (x1 : List Int) (x7 : Int) (x8 : Int) (r0 : List Int) (next_ : Int × (List Int) → α) (out0_ : List Int → α) (fail_ : α) : g (S.NamedNet_step8 x0 x1 x7 x8 r0 next_ out0_ fail_) = S.NamedNet_step8 x0 x1 x7 x8 r0 (fun s => g (next_ s)) (fun d => g (out0_ d)) (g fail_) := by
  unfold S.NamedNet_step8; simp only [apply_cnd g, apply_optC g, apply_sumC g]
noncomputable def S.NamedNet_run8 (x0 : List Int) (x1 : List Int) (x7 : Int) : Nat → Int × (List Int) → Option (List Int)
  | 0, _ => none
  | n + 1, s_ => S.NamedNet_step8 x0 x1 x7 s_.1 s_.2 (S.NamedNet_run8 x0 x1 x7 n) (fun d => some d) none
theorem S.NamedNet_L8_run (x0 : List Int) (x1 : List Int) (x7 : Int) (n : Nat) (s_ : Int × (List Int)) (k : X → St → R) : S.NamedNet_L8 n { n := 62, t := [(0, (.ro false (.ints .i64 x0))), (1, (.ro false (.ints .i64 x1))), (6, (.own 0)), (7, (.int .i64 x7)), (8, (.int .i64 s_.1))], h := [.row (.ints .i64 s_.2)] } k = optC (S.NamedNet_run8 x0 x1 x7 n s_) (fun (r : List Int) => k (.exit 2) { n := 62, t := [(0, (.ro false (.ints .i64 x0))), (1, (.ro false (.ints .i64 x1))), (6, (.own 0)), (7, (.int .i64 x7))], h := [.row (.ints .i64 r)] }) none := by
  induction n generalizing s_ with
  | zero => rfl
  | succ n ih =>
    have hu : S.NamedNet_L8 (n + 1) { n := 62, t := [(0, (.ro false (.ints .i64 x0))), (1, (.ro false (.ints .i64 x1))), (6, (.own 0)), (7, (.int .i64 x7)), (8, (.int .i64 s_.1))], h := [.row (.ints .i64 s_.2)] } k = S.NamedNet_step8 x0 x1 x7 s_.1 s_.2 (fun s_ => S.NamedNet_L8 n { n := 62, t := [(0, (.ro false (.ints .i64 x0))), (1, (.ro false (.ints .i64 x1))), (6, (.own 0)), (7, (.int .i64 x7)), (8, (.int .i64 s_.1))], h := [.row (.ints .i64 s_.2)] } k) (fun d => k (.exit 2) { n := 62, t := [(0, (.ro false (.ints .i64 x0))), (1, (.ro false (.ints .i64 x1))), (6, (.own 0)), (7, (.int .i64 x7))], h := [.row (.ints .i64 d)] }) none := by
      kernel_rfl
    have hs : (fun s_ : Int × (List Int) => S.NamedNet_L8 n { n := 62, t := [(0, (.ro false (.ints .i64 x0))), (1, (.ro false (.ints .i64 x1))), (6, (.own 0)), (7, (.int .i64 x7)), (8, (.int .i64 s_.1))], h := [.row (.ints .i64 s_.2)] } k) = fun s_ => optC (S.NamedNet_run8 x0 x1 x7 n s_) (fun (r : List Int) => k (.exit 2) { n := 62, t := [(0, (.ro false (.ints .i64 x0))), (1, (.ro false (.ints .i64 x1))), (6, (.own 0)), (7, (.int .i64 x7))], h := [.row (.ints .i64 r)] }) none := funext ih
    rw [hu, hs]
    exact (S.NamedNet_step8_nat (fun o => optC o (fun (r : List Int) => k (.exit 2) { n := 62, t := [(0, (.ro false (.ints .i64 x0))), (1, (.ro false (.ints .i64 x1))), (6, (.own 0)), (7, (.int .i64 x7))], h := [.row (.ints .i64 r)] }) none) x0 x1 x7 s_.1 s_.2 (S.NamedNet_run8 x0 x1 x7 n) (fun d => some d) none).symm
noncomputable def S.NamedNet_step5 {α : Type} (x0 : List Int) (x1 : List Int) (x7 : Int) (r0 : List Int) (next_ : Int × (List Int) → α) (out0_ : List Int → α) (fail_ : α) : α :=
  (bif decide (x7 < (↑x0.length : Int)) then (optC (S.NamedNet_run8 x0 x1 x7 FUEL (0, r0)) (fun qy_3 => (next_ (IntKind.i64.wrap (x7 + 1), qy_3))) fail_) else (out0_ r0))
theorem S.NamedNet_step5_nat {α γ : Type} (g : α → γ) (x0 : List Int) (x1 : List Int) (x7 : Int) (r0 : List Int) (next_ : Int × (List Int) → α) (out0_ : List Int → α) (fail_ : α) : g (S.NamedNet_step5 x0 x1 x7 r0 next_ out0_ fail_) = S.NamedNet_step5 x0 x1 x7 r0 (fun s => g (next_ s)) (fun d => g (out0_ d)) (g fail_) := by
  unfold S.NamedNet_step5; simp only [apply_cnd g, apply_optC g, apply_sumC g]
noncomputable def S.NamedNet_run5 (x0 : List Int) (x1 : List Int) : Nat → Int × (List Int) → Option (List Int)
  | 0, _ => none
  | n + 1, s_ => S.NamedNet_step5 x0 x1 s_.1 s_.2 (S.NamedNet_run5 x0 x1 n) (fun d => some d) none
theorem S.NamedNet_L5_run (x0 : List Int) (x1 : List Int) (n : Nat) (s_ : Int × (List Int)) (k : X → St → R) : S.NamedNet_L5 n { n := 62, t := [(0, (.ro false (.ints .i64 x0))), (1, (.ro false (.ints .i64 x1))), (6, (.own 0)), (7, (.int .i64 s_.1))], h := [.row (.ints .i64 s_.2)] } k = optC (S.NamedNet_run5 x0 x1 n s_) (fun (r : List Int) => k (.exit 0) { n := 62, t := [(6, (.own 0))], h := [.row (.ints .i64 r)] }) none := by
  induction n generalizing s_ with
  | zero => rfl
  | succ n ih =>
    have hu : S.NamedNet_L5 (n + 1) { n := 62, t := [(0, (.ro false (.ints .i64 x0))), (1, (.ro false (.ints .i64 x1))), (6, (.own 0)), (7, (.int .i64 s_.1))], h := [.row (.ints .i64 s_.2)] } k = S.NamedNet_step5 x0 x1 s_.1 s_.2 (fun s_ => S.NamedNet_L5 n { n := 62, t := [(0, (.ro false (.ints .i64 x0))), (1, (.ro false (.ints .i64 x1))), (6, (.own 0)), (7, (.int .i64 s_.1))], h := [.row (.ints .i64 s_.2)] } k) (fun d => k (.exit 0) { n := 62, t := [(6, (.own 0))], h := [.row (.ints .i64 d)] }) none := by
      refine Eq.trans (show S.NamedNet_L5 (n + 1) { n := 62, t := [(0, (.ro false (.ints .i64 x0))), (1, (.ro false (.ints .i64 x1))), (6, (.own 0)), (7, (.int .i64 s_.1))], h := [.row (.ints .i64 s_.2)] } k = (bif decide (s_.1 < (↑x0.length : Int)) then (S.NamedNet_L8 FUEL { n := 62, t := [(0, (.ro false (.ints .i64 x0))), (1, (.ro false (.ints .i64 x1))), (6, (.own 0)), (7, (.int .i64 s_.1)), (8, (.int .i64 0))], h := [.row (.ints .i64 s_.2)] } (S.NamedNet_k8 ((fun σ => S.NamedNet_L5 n σ k), k))) else (k (.exit 0) { n := 62, t := [(6, (.own 0))], h := [.row (.ints .i64 s_.2)] })) by kernel_rfl) ?_
      refine cnd_congr ?_ ?_
      · refine (S.NamedNet_L8_run x0 x1 s_.1 FUEL (0, s_.2) (S.NamedNet_k8 ((fun σ => S.NamedNet_L5 n σ k), k))).trans (optC_congr (fun qy_3 => ?_))
        kernel_rfl
      · kernel_rfl
    have hs : (fun s_ : Int × (List Int) => S.NamedNet_L5 n { n := 62, t := [(0, (.ro false (.ints .i64 x0))), (1, (.ro false (.ints .i64 x1))), (6, (.own 0)), (7, (.int .i64 s_.1))], h := [.row (.ints .i64 s_.2)] } k) = fun s_ => optC (S.NamedNet_run5 x0 x1 n s_) (fun (r : List Int) => k (.exit 0) { n := 62, t := [(6, (.own 0))], h := [.row (.ints .i64 r)] }) none := funext ih
    rw [hu, hs]
    exact (S.NamedNet_step5_nat (fun o => optC o (fun (r : List Int) => k (.exit 0) { n := 62, t := [(6, (.own 0))], h := [.row (.ints .i64 r)] }) none) x0 x1 s_.1 s_.2 (S.NamedNet_run5 x0 x1 n) (fun d => some d) none).symm
noncomputable def S.NamedNet_tree {α : Type} (net : List Int) (order : List Int) (leaf0_ : Bool × (List Int) → α) (fail_ : α) : α :=
  (optC (S.NetOk_t net) (fun c_1 => (bif !c_1 then (leaf0_ (false, [])) else (optC (S.l1Order_t (↑net.length : Int) order) (fun c_2 => (bif !c_2 then (leaf0_ (false, [])) else (bif small (↑net.length : Int).toNat && true then (optC (S.NamedNet_run5 net order FUEL (0, List.replicate (↑net.length : Int).toNat 0)) (fun qy_4 => (leaf0_ (true, qy_4))) fail_) else fail_))) fail_))) fail_)
theorem S.NamedNet_tree_nat {α γ : Type} (g : α → γ) (net : List Int) (order : List Int) (leaf0_ : Bool × (List Int) → α) (fail_ : α) : g (S.NamedNet_tree net order leaf0_ fail_) = S.NamedNet_tree net order (fun d => g (leaf0_ d)) (g fail_) := by
  unfold S.NamedNet_tree; simp only [apply_cnd g, apply_optC g, apply_sumC g]
noncomputable def S.NamedNet_t (net : List Int) (order : List Int) : Option (Bool × (List Int)) := S.NamedNet_tree net order (fun d => some d) none
theorem S.NamedNet_den (net : List Int) (order : List Int) (κ : V → List E → R) : S.NamedNet_F [.ro false (.ints .i64 net), .ro false (.ints .i64 order)] [] κ = optC (S.NamedNet_t net order) (fun (r : Bool × (List Int)) => κ (.tup [(.own 0), (.bool r.1)]) [.row (.ints .i64 r.2)]) none := by
  have hu : S.NamedNet_F [.ro false (.ints .i64 net), .ro false (.ints .i64 order)] [] κ = S.NamedNet_tree net order (fun d => κ (.tup [(.own 0), (.bool d.1)]) [.row (.ints .i64 d.2)]) none := by
    refine Eq.trans (show S.NamedNet_F [.ro false (.ints .i64 net), .ro false (.ints .i64 order)] [] κ = (optC (S.NetOk_t net) (fun c_1 => (bif !c_1 then (κ (.tup [(.own 0), (.bool false)]) [.row (.ints .i64 ([]))]) else (optC (S.l1Order_t (↑net.length : Int) order) (fun c_2 => (bif !c_2 then (κ (.tup [(.own 0), (.bool false)]) [.row (.ints .i64 ([]))]) else (bif small (↑net.length : Int).toNat && true then (S.NamedNet_L5 FUEL { n := 62, t := [(0, (.ro false (.ints .i64 net))), (1, (.ro false (.ints .i64 order))), (6, (.own 0)), (7, (.int .i64 0))], h := [.row (.ints .i64 (List.replicate (↑net.length : Int).toNat 0))] } (S.NamedNet_k5 κ)) else none))) none))) none) by kernel_rfl) ?_
    refine optC_congr (fun c_1 => ?_)
    refine cnd_congr ?_ ?_
    · kernel_rfl
    · refine optC_congr (fun c_2 => ?_)
      refine cnd_congr ?_ ?_
      · kernel_rfl
      · refine cnd_congr ?_ ?_
        · refine (S.NamedNet_L5_run net order FUEL (0, List.replicate (↑net.length : Int).toNat 0) (S.NamedNet_k5 κ)).trans (optC_congr (fun qy_4 => ?_))
          kernel_rfl
        · kernel_rfl
  rw [hu]
  exact (S.NamedNet_tree_nat (fun o => optC o (fun (r : Bool × (List Int)) => κ (.tup [(.own 0), (.bool r.1)]) [.row (.ints .i64 r.2)]) none) net order (fun d => some d) none).symm
noncomputable def S.NamedNet_s : D.Spec where
  keep := false
  pure := false
  ds := [.int .i64, .int .i64]
  sp := fun args h κ => match args, h with
    | [.ro false (.ints .i64 net), .ro false (.ints .i64 order)], [] => optC (S.NamedNet_t net order) (fun (r : Bool × (List Int)) => κ (.tup [(.own 0), (.bool r.1)]) [.row (.ints .i64 r.2)]) none
    | _, _ => none
theorem S.NamedNet_ok : SpecOk Try.prog 34 S.NamedNet_s := by
  refine SpecOk.of TDok mixed (T := S.NamedNet_T) ?_ (ann := S.NamedNet_ann) Try.func34 rfl (by decide +kernel) ?_ ?_ ?_
  · intro p hp
    simp only [S.NamedNet_T, List.mem_cons, List.not_mem_nil, or_false] at hp
    rcases hp with rfl | rfl
    · exact S.NetOk_ok
    · exact S.l1Order_ok
  · intro args h κ r hh
    simp only [S.NamedNet_s] at hh
    split at hh
    · exact (S.NamedNet_den _ _ κ).trans hh
    · cases hh
  · intro args h κ r hh
    simp only [S.NamedNet_s] at hh ⊢
    split at hh
    · exact optC_law2 (F := fun (r : Bool × (List Int)) κ => κ (.tup [(.own 0), (.bool r.1)]) [.row (.ints .i64 r.2)]) (fun b κ r hb => ⟨_, _, hb, fun _ => rfl⟩) hh
    · cases hh
  · intro hh; cases hh

-- loop.example/guardsonnets/laws.sameInts
noncomputable def L.sameInts_T : List (Nat × D.Spec) := []
def L.sameInts_ann : Nat → List Nat × List Nat
  | 4 => ([0, 1, 5], [4])
  | _ => ([], [])
noncomputable def L.sameInts_F (args : List V) (h : List E) (κ : V → List E → R) : R := funC TD (tableK L.sameInts_T) L.sameInts_ann (drawOk (tableP L.sameInts_T)) FUEL Try.f35 args h κ
noncomputable def L.sameInts_L4 (n : Nat) (σ : St) (k : X → St → R) : R := iterC 0 (fun σ k => denC TD (tableK L.sameInts_T) L.sameInts_ann (drawOk (tableP L.sameInts_T)) 0 FUEL ((findLoop 4 (Try.f35.body.getD .skip)).getD .skip) σ k) [0, 1, 5] [4] n σ k
noncomputable def L.sameInts_k4 (κ : V → List E → R) : X → St → R := (afterC TD (tableK L.sameInts_T) L.sameInts_ann (drawOk (tableP L.sameInts_T)) 0 FUEL 4 (Try.f35.body.getD .skip) (finC 0 Try.f35 κ)).getD (fun _ _ => none)
noncomputable def L.sameInts_step4 {α : Type} (x0 : List Int) (x1 : List Int) (x5 : Int) (next_ : Int → α) (out0_ : Bool → α) (out1_ : Unit → α) (fail_ : α) : α :=
  (bif decide (x5 < (↑x0.length : Int)) then (bif decide (0 ≤ x5) && decide (x5 < (↑x0.length : Int)) then (bif decide (0 ≤ x5) && decide (x5 < (↑x1.length : Int)) then (bif !eli x0 x5.toNat == eli x1 x5.toNat then (out0_ false) else (next_ (IntKind.i64.wrap (x5 + 1)))) else fail_) else fail_) else (out1_ ()))
theorem L.sameInts_step4_nat {α γ : Type} (g : α → γ) (x0 : List Int) (x1 : List Int) (x5 : Int) (next_ : Int → α) (out0_ : Bool → α) (out1_ : Unit → α) (fail_ : α) : g (L.sameInts_step4 x0 x1 x5 next_ out0_ out1_ fail_) = L.sameInts_step4 x0 x1 x5 (fun s => g (next_ s)) (fun d => g (out0_ d)) (fun d => g (out1_ d)) (g fail_) := by
  unfold L.sameInts_step4; simp only [apply_cnd g, apply_optC g, apply_sumC g]
noncomputable def L.sameInts_run4 (x0 : List Int) (x1 : List Int) : Nat → Int → Option ((Bool) ⊕ (Unit))
  | 0, _ => none
  | n + 1, s_ => L.sameInts_step4 x0 x1 s_ (L.sameInts_run4 x0 x1 n) (fun d => some ((Sum.inl d))) (fun d => some ((Sum.inr d))) none
theorem L.sameInts_L4_run (x0 : List Int) (x1 : List Int) (n : Nat) (s_ : Int) (k : X → St → R) : L.sameInts_L4 n { n := 26, t := [(0, (.ro false (.ints .i64 x0))), (1, (.ro false (.ints .i64 x1))), (5, (.int .i64 s_))], h := [] } k = optC (L.sameInts_run4 x0 x1 n s_) (fun (r : (Bool) ⊕ (Unit)) => (sumC r (fun (r : Bool) => k (.ret) { n := 26, t := [(4, (.bool r))], h := [] }) (fun (r : Unit) => k (.exit 0) { n := 26, t := [(4, .junk)], h := [] }))) none := by
  induction n generalizing s_ with
  | zero => rfl
  | succ n ih =>
    have hu : L.sameInts_L4 (n + 1) { n := 26, t := [(0, (.ro false (.ints .i64 x0))), (1, (.ro false (.ints .i64 x1))), (5, (.int .i64 s_))], h := [] } k = L.sameInts_step4 x0 x1 s_ (fun s_ => L.sameInts_L4 n { n := 26, t := [(0, (.ro false (.ints .i64 x0))), (1, (.ro false (.ints .i64 x1))), (5, (.int .i64 s_))], h := [] } k) (fun d => k (.ret) { n := 26, t := [(4, (.bool d))], h := [] }) (fun d => k (.exit 0) { n := 26, t := [(4, .junk)], h := [] }) none := by
      kernel_rfl
    have hs : (fun s_ : Int => L.sameInts_L4 n { n := 26, t := [(0, (.ro false (.ints .i64 x0))), (1, (.ro false (.ints .i64 x1))), (5, (.int .i64 s_))], h := [] } k) = fun s_ => optC (L.sameInts_run4 x0 x1 n s_) (fun (r : (Bool) ⊕ (Unit)) => (sumC r (fun (r : Bool) => k (.ret) { n := 26, t := [(4, (.bool r))], h := [] }) (fun (r : Unit) => k (.exit 0) { n := 26, t := [(4, .junk)], h := [] }))) none := funext ih
    rw [hu, hs]
    exact (L.sameInts_step4_nat (fun o => optC o (fun (r : (Bool) ⊕ (Unit)) => (sumC r (fun (r : Bool) => k (.ret) { n := 26, t := [(4, (.bool r))], h := [] }) (fun (r : Unit) => k (.exit 0) { n := 26, t := [(4, .junk)], h := [] }))) none) x0 x1 s_ (L.sameInts_run4 x0 x1 n) (fun d => some ((Sum.inl d))) (fun d => some ((Sum.inr d))) none).symm
noncomputable def L.sameInts_tree {α : Type} (a : List Int) (b_ : List Int) (leaf0_ : Bool → α) (fail_ : α) : α :=
  (bif !(↑a.length : Int) == (↑b_.length : Int) then (leaf0_ false) else (optC (L.sameInts_run4 a b_ FUEL 0) (fun qy_1 => (sumC qy_1 (fun (qy_1 : Bool) => (leaf0_ qy_1)) (fun (qy_1 : Unit) => (leaf0_ true)))) fail_))
theorem L.sameInts_tree_nat {α γ : Type} (g : α → γ) (a : List Int) (b_ : List Int) (leaf0_ : Bool → α) (fail_ : α) : g (L.sameInts_tree a b_ leaf0_ fail_) = L.sameInts_tree a b_ (fun d => g (leaf0_ d)) (g fail_) := by
  unfold L.sameInts_tree; simp only [apply_cnd g, apply_optC g, apply_sumC g]
noncomputable def L.sameInts_t (a : List Int) (b_ : List Int) : Option (Bool) := L.sameInts_tree a b_ (fun d => some d) none
theorem L.sameInts_den (a : List Int) (b_ : List Int) (κ : V → List E → R) : L.sameInts_F [.ro false (.ints .i64 a), .ro false (.ints .i64 b_)] [] κ = optC (L.sameInts_t a b_) (fun (r : Bool) => κ (.bool r) []) none := by
  have hu : L.sameInts_F [.ro false (.ints .i64 a), .ro false (.ints .i64 b_)] [] κ = L.sameInts_tree a b_ (fun d => κ (.bool d) []) none := by
    refine Eq.trans (show L.sameInts_F [.ro false (.ints .i64 a), .ro false (.ints .i64 b_)] [] κ = (bif !(↑a.length : Int) == (↑b_.length : Int) then (κ (.bool false) []) else (L.sameInts_L4 FUEL { n := 26, t := [(0, (.ro false (.ints .i64 a))), (1, (.ro false (.ints .i64 b_))), (5, (.int .i64 0))], h := [] } (L.sameInts_k4 κ))) by kernel_rfl) ?_
    refine cnd_congr ?_ ?_
    · kernel_rfl
    · refine (L.sameInts_L4_run a b_ FUEL 0 (L.sameInts_k4 κ)).trans (optC_congr (fun qy_1 => ?_))
      rcases qy_1 with qy_1 | qy_1
      · kernel_rfl
      · kernel_rfl
  rw [hu]
  exact (L.sameInts_tree_nat (fun o => optC o (fun (r : Bool) => κ (.bool r) []) none) a b_ (fun d => some d) none).symm
noncomputable def L.sameInts_s : D.Spec where
  keep := false
  pure := true
  ds := [.int .i64, .int .i64]
  sp := fun args h κ => match args, h with
    | [.ro false (.ints .i64 a), .ro false (.ints .i64 b_)], [] => optC (L.sameInts_t a b_) (fun (r : Bool) => κ (.bool r) []) none
    | _, _ => none
theorem L.sameInts_ok : SpecOk Try.prog 35 L.sameInts_s := by
  refine SpecOk.of TDok mixed (T := L.sameInts_T) ?_ (ann := L.sameInts_ann) Try.func35 rfl (by decide +kernel) ?_ ?_ ?_
  · intro p hp; cases hp
  · intro args h κ r hh
    simp only [L.sameInts_s] at hh
    split at hh
    · exact (L.sameInts_den _ _ κ).trans hh
    · cases hh
  · intro args h κ r hh
    simp only [L.sameInts_s] at hh ⊢
    split at hh
    · exact optC_law2 (F := fun (r : Bool) κ => κ (.bool r) []) (fun b κ r hb => ⟨_, _, hb, fun _ => rfl⟩) hh
    · cases hh
  · intro _ args h κ r hh
    simp only [L.sameInts_s] at hh
    split at hh
    · exact ⟨rfl, fun _ => rfl⟩
    · cases hh

-- loop.example/guardsonnets/laws.namedSet
noncomputable def L.namedSet_T : List (Nat × D.Spec) := []
def L.namedSet_ann : Nat → List Nat × List Nat
  | 3 => ([0, 1, 5, 6], [5])
  | _ => ([], [])
noncomputable def L.namedSet_F (args : List V) (h : List E) (κ : V → List E → R) : R := funC TD (tableK L.namedSet_T) L.namedSet_ann (drawOk (tableP L.namedSet_T)) FUEL Try.f36 args h κ
noncomputable def L.namedSet_L3 (n : Nat) (σ : St) (k : X → St → R) : R := iterC 0 (fun σ k => denC TD (tableK L.namedSet_T) L.namedSet_ann (drawOk (tableP L.namedSet_T)) 0 FUEL ((findLoop 3 (Try.f36.body.getD .skip)).getD .skip) σ k) [0, 1, 5, 6] [5] n σ k
noncomputable def L.namedSet_k3 (κ : V → List E → R) : X → St → R := (afterC TD (tableK L.namedSet_T) L.namedSet_ann (drawOk (tableP L.namedSet_T)) 0 FUEL 3 (Try.f36.body.getD .skip) (finC 0 Try.f36 κ)).getD (fun _ _ => none)
noncomputable def L.namedSet_step3 {α : Type} (x0 : Int) (x1 : List Int) (x5 : Int) (x6 : Int) (next_ : Int × Int → α) (out0_ : Int → α) (fail_ : α) : α :=
  (bif decide (x6 < (↑x1.length : Int)) then (bif decide (x6 < 0) then fail_ else (bif decide (0 ≤ x6) && decide (x6 < (↑x1.length : Int)) then (bif decide (eli x1 x6.toNat < 0) then fail_ else (next_ (bits BinOp.or IntKind.i64 x5 (IntKind.i64.wrap ((x0.fdiv (2 ^ min x6.toNat IntKind.i64.bits)).tmod 2 * 2 ^ min (eli x1 x6.toNat).toNat IntKind.i64.bits)), IntKind.i64.wrap (x6 + 1)))) else fail_)) else (out0_ x5))
theorem L.namedSet_step3_nat {α γ : Type} (g : α → γ) (x0 : Int) (x1 : List Int) (x5 : Int) (x6 : Int) (next_ : Int × Int → α) (out0_ : Int → α) (fail_ : α) : g (L.namedSet_step3 x0 x1 x5 x6 next_ out0_ fail_) = L.namedSet_step3 x0 x1 x5 x6 (fun s => g (next_ s)) (fun d => g (out0_ d)) (g fail_) := by
  unfold L.namedSet_step3; simp only [apply_cnd g, apply_optC g, apply_sumC g]
noncomputable def L.namedSet_run3 (x0 : Int) (x1 : List Int) : Nat → Int × Int → Option (Int)
  | 0, _ => none
  | n + 1, s_ => L.namedSet_step3 x0 x1 s_.1 s_.2 (L.namedSet_run3 x0 x1 n) (fun d => some d) none
theorem L.namedSet_L3_run (x0 : Int) (x1 : List Int) (n : Nat) (s_ : Int × Int) (k : X → St → R) : L.namedSet_L3 n { n := 25, t := [(0, (.int .i64 x0)), (1, (.ro false (.ints .i64 x1))), (5, (.int .i64 s_.1)), (6, (.int .i64 s_.2))], h := [] } k = optC (L.namedSet_run3 x0 x1 n s_) (fun (r : Int) => k (.exit 0) { n := 25, t := [(5, (.int .i64 r))], h := [] }) none := by
  induction n generalizing s_ with
  | zero => rfl
  | succ n ih =>
    have hu : L.namedSet_L3 (n + 1) { n := 25, t := [(0, (.int .i64 x0)), (1, (.ro false (.ints .i64 x1))), (5, (.int .i64 s_.1)), (6, (.int .i64 s_.2))], h := [] } k = L.namedSet_step3 x0 x1 s_.1 s_.2 (fun s_ => L.namedSet_L3 n { n := 25, t := [(0, (.int .i64 x0)), (1, (.ro false (.ints .i64 x1))), (5, (.int .i64 s_.1)), (6, (.int .i64 s_.2))], h := [] } k) (fun d => k (.exit 0) { n := 25, t := [(5, (.int .i64 d))], h := [] }) none := by
      kernel_rfl
    have hs : (fun s_ : Int × Int => L.namedSet_L3 n { n := 25, t := [(0, (.int .i64 x0)), (1, (.ro false (.ints .i64 x1))), (5, (.int .i64 s_.1)), (6, (.int .i64 s_.2))], h := [] } k) = fun s_ => optC (L.namedSet_run3 x0 x1 n s_) (fun (r : Int) => k (.exit 0) { n := 25, t := [(5, (.int .i64 r))], h := [] }) none := funext ih
    rw [hu, hs]
    exact (L.namedSet_step3_nat (fun o => optC o (fun (r : Int) => k (.exit 0) { n := 25, t := [(5, (.int .i64 r))], h := [] }) none) x0 x1 s_.1 s_.2 (L.namedSet_run3 x0 x1 n) (fun d => some d) none).symm
noncomputable def L.namedSet_tree {α : Type} (set_ : Int) (order : List Int) (leaf0_ : Int → α) (fail_ : α) : α :=
  (optC (L.namedSet_run3 set_ order FUEL (0, 0)) (fun qy_1 => (leaf0_ qy_1)) fail_)
theorem L.namedSet_tree_nat {α γ : Type} (g : α → γ) (set_ : Int) (order : List Int) (leaf0_ : Int → α) (fail_ : α) : g (L.namedSet_tree set_ order leaf0_ fail_) = L.namedSet_tree set_ order (fun d => g (leaf0_ d)) (g fail_) := by
  unfold L.namedSet_tree; simp only [apply_cnd g, apply_optC g, apply_sumC g]
noncomputable def L.namedSet_t (set_ : Int) (order : List Int) : Option (Int) := L.namedSet_tree set_ order (fun d => some d) none
theorem L.namedSet_den (set_ : Int) (order : List Int) (κ : V → List E → R) : L.namedSet_F [.int .i64 set_, .ro false (.ints .i64 order)] [] κ = optC (L.namedSet_t set_ order) (fun (r : Int) => κ (.int .i64 r) []) none := by
  have hu : L.namedSet_F [.int .i64 set_, .ro false (.ints .i64 order)] [] κ = L.namedSet_tree set_ order (fun d => κ (.int .i64 d) []) none := by
    refine Eq.trans (show L.namedSet_F [.int .i64 set_, .ro false (.ints .i64 order)] [] κ = (L.namedSet_L3 FUEL { n := 25, t := [(0, (.int .i64 set_)), (1, (.ro false (.ints .i64 order))), (5, (.int .i64 0)), (6, (.int .i64 0))], h := [] } (L.namedSet_k3 κ)) by kernel_rfl) ?_
    refine (L.namedSet_L3_run set_ order FUEL (0, 0) (L.namedSet_k3 κ)).trans (optC_congr (fun qy_1 => ?_))
    kernel_rfl
  rw [hu]
  exact (L.namedSet_tree_nat (fun o => optC o (fun (r : Int) => κ (.int .i64 r) []) none) set_ order (fun d => some d) none).symm
noncomputable def L.namedSet_s : D.Spec where
  keep := false
  pure := true
  ds := [.invalid, .int .i64]
  sp := fun args h κ => match args, h with
    | [.int .i64 set_, .ro false (.ints .i64 order)], [] => optC (L.namedSet_t set_ order) (fun (r : Int) => κ (.int .i64 r) []) none
    | _, _ => none
theorem L.namedSet_ok : SpecOk Try.prog 36 L.namedSet_s := by
  refine SpecOk.of TDok mixed (T := L.namedSet_T) ?_ (ann := L.namedSet_ann) Try.func36 rfl (by decide +kernel) ?_ ?_ ?_
  · intro p hp; cases hp
  · intro args h κ r hh
    simp only [L.namedSet_s] at hh
    split at hh
    · exact (L.namedSet_den _ _ κ).trans hh
    · cases hh
  · intro args h κ r hh
    simp only [L.namedSet_s] at hh ⊢
    split at hh
    · exact optC_law2 (F := fun (r : Int) κ => κ (.int .i64 r) []) (fun b κ r hb => ⟨_, _, hb, fun _ => rfl⟩) hh
    · cases hh
  · intro _ args h κ r hh
    simp only [L.namedSet_s] at hh
    split at hh
    · exact ⟨rfl, fun _ => rfl⟩
    · cases hh

-- loop.example/guardsonnets/laws.FnNamedNet
noncomputable def L.FnNamedNet_T : List (Nat × D.Spec) := [(32, S.DrawNamedNet_s), (33, I.NamedNet_s), (34, S.NamedNet_s), (35, L.sameInts_s), (14, L.alive_s), (12, I.BallOf_s), (36, L.namedSet_s), (21, I.NetOk_s), (19, I.WiresOf_s), (23, I.PartMany_s)]
def L.FnNamedNet_ann : Nat → List Nat × List Nat
  | 11 => ([3, 4, 5, 9], [2, 3, 5])
  | _ => ([], [])
noncomputable def L.FnNamedNet_F (args : List V) (h : List E) (κ : V → List E → R) : R := funC TD (tableK L.FnNamedNet_T) L.FnNamedNet_ann (drawOk (tableP L.FnNamedNet_T)) FUEL Try.f9 args h κ
noncomputable def L.FnNamedNet_L11 (n : Nat) (σ : St) (k : X → St → R) : R := iterC 0 (fun σ k => denC TD (tableK L.FnNamedNet_T) L.FnNamedNet_ann (drawOk (tableP L.FnNamedNet_T)) 0 FUEL ((findLoop 11 (Try.f9.body.getD .skip)).getD .skip) σ k) [3, 4, 5, 9] [2, 3, 5] n σ k
noncomputable def L.FnNamedNet_k11 (κ : V → List E → R) : X → St → R := (afterC TD (tableK L.FnNamedNet_T) L.FnNamedNet_ann (drawOk (tableP L.FnNamedNet_T)) 0 FUEL 11 (Try.f9.body.getD .skip) (finC 0 Try.f9 κ)).getD (fun _ _ => none)
noncomputable def L.FnNamedNet_step11 {α : Type} (x9 : Int) (r0 : List Int) (r1 : List Int) (r2 : List Int) (next_ : Int × (List Int) × (List Int) × (List Int) → α) (out0_ : Bool × (List Int) × (List Int) → α) (out1_ : (List Int) × (List Int) → α) (fail_ : α) : α :=
  (bif decide (x9 < (↑r0.length : Int)) then (bif decide (0 ≤ x9) && decide (x9 < (↑r1.length : Int)) then (bif decide (x9.toNat < r1.length) then (optC (I.BallOf_t r2 (eli r1 x9.toNat)) (fun c_6 => (optC (I.BallOf_t r0 x9) (fun c_7 => (optC (L.namedSet_t c_7 r1) (fun c_8 => (bif !c_6 == c_8 then (out0_ (false, r0, r2)) else (next_ (IntKind.i64.wrap (x9 + 1), r0, r1, r2)))) fail_)) fail_)) fail_) else fail_) else fail_) else (out1_ (r0, r2)))
theorem L.FnNamedNet_step11_nat {α γ : Type} (g : α → γ) (x9 : Int) (r0 : List Int) (r1 : List Int) (r2 : List Int) (next_ : Int × (List Int) × (List Int) × (List Int) → α) (out0_ : Bool × (List Int) × (List Int) → α) (out1_ : (List Int) × (List Int) → α) (fail_ : α) : g (L.FnNamedNet_step11 x9 r0 r1 r2 next_ out0_ out1_ fail_) = L.FnNamedNet_step11 x9 r0 r1 r2 (fun s => g (next_ s)) (fun d => g (out0_ d)) (fun d => g (out1_ d)) (g fail_) := by
  unfold L.FnNamedNet_step11; simp only [apply_cnd g, apply_optC g, apply_sumC g]
noncomputable def L.FnNamedNet_run11 : Nat → Int × (List Int) × (List Int) × (List Int) → Option ((Bool × (List Int) × (List Int)) ⊕ ((List Int) × (List Int)))
  | 0, _ => none
  | n + 1, s_ => L.FnNamedNet_step11 s_.1 s_.2.1 s_.2.2.1 s_.2.2.2 (L.FnNamedNet_run11 n) (fun d => some ((Sum.inl d))) (fun d => some ((Sum.inr d))) none
theorem L.FnNamedNet_L11_run (n : Nat) (s_ : Int × (List Int) × (List Int) × (List Int)) (k : X → St → R) : L.FnNamedNet_L11 n { n := 81, t := [(3, (.own 0)), (4, (.own 1)), (5, (.own 2)), (9, (.int .i64 s_.1))], h := [.row (.ints .i64 s_.2.1), .row (.ints .i64 s_.2.2.1), .row (.ints .i64 s_.2.2.2)] } k = optC (L.FnNamedNet_run11 n s_) (fun (r : (Bool × (List Int) × (List Int)) ⊕ ((List Int) × (List Int))) => (sumC r (fun (r : Bool × (List Int) × (List Int)) => k (.ret) { n := 81, t := [(2, (.bool r.1)), (3, (.own 0)), (5, (.own 1))], h := [.row (.ints .i64 r.2.1), .row (.ints .i64 r.2.2)] }) (fun (r : (List Int) × (List Int)) => k (.exit 0) { n := 81, t := [(2, .junk), (3, (.own 0)), (5, (.own 1))], h := [.row (.ints .i64 r.1), .row (.ints .i64 r.2)] }))) none := by
  induction n generalizing s_ with
  | zero => rfl
  | succ n ih =>
    have hu : L.FnNamedNet_L11 (n + 1) { n := 81, t := [(3, (.own 0)), (4, (.own 1)), (5, (.own 2)), (9, (.int .i64 s_.1))], h := [.row (.ints .i64 s_.2.1), .row (.ints .i64 s_.2.2.1), .row (.ints .i64 s_.2.2.2)] } k = L.FnNamedNet_step11 s_.1 s_.2.1 s_.2.2.1 s_.2.2.2 (fun s_ => L.FnNamedNet_L11 n { n := 81, t := [(3, (.own 0)), (4, (.own 1)), (5, (.own 2)), (9, (.int .i64 s_.1))], h := [.row (.ints .i64 s_.2.1), .row (.ints .i64 s_.2.2.1), .row (.ints .i64 s_.2.2.2)] } k) (fun d => k (.ret) { n := 81, t := [(2, (.bool d.1)), (3, (.own 0)), (5, (.own 1))], h := [.row (.ints .i64 d.2.1), .row (.ints .i64 d.2.2)] }) (fun d => k (.exit 0) { n := 81, t := [(2, .junk), (3, (.own 0)), (5, (.own 1))], h := [.row (.ints .i64 d.1), .row (.ints .i64 d.2)] }) none := by
      kernel_rfl
    have hs : (fun s_ : Int × (List Int) × (List Int) × (List Int) => L.FnNamedNet_L11 n { n := 81, t := [(3, (.own 0)), (4, (.own 1)), (5, (.own 2)), (9, (.int .i64 s_.1))], h := [.row (.ints .i64 s_.2.1), .row (.ints .i64 s_.2.2.1), .row (.ints .i64 s_.2.2.2)] } k) = fun s_ => optC (L.FnNamedNet_run11 n s_) (fun (r : (Bool × (List Int) × (List Int)) ⊕ ((List Int) × (List Int))) => (sumC r (fun (r : Bool × (List Int) × (List Int)) => k (.ret) { n := 81, t := [(2, (.bool r.1)), (3, (.own 0)), (5, (.own 1))], h := [.row (.ints .i64 r.2.1), .row (.ints .i64 r.2.2)] }) (fun (r : (List Int) × (List Int)) => k (.exit 0) { n := 81, t := [(2, .junk), (3, (.own 0)), (5, (.own 1))], h := [.row (.ints .i64 r.1), .row (.ints .i64 r.2)] }))) none := funext ih
    rw [hu, hs]
    exact (L.FnNamedNet_step11_nat (fun o => optC o (fun (r : (Bool × (List Int) × (List Int)) ⊕ ((List Int) × (List Int))) => (sumC r (fun (r : Bool × (List Int) × (List Int)) => k (.ret) { n := 81, t := [(2, (.bool r.1)), (3, (.own 0)), (5, (.own 1))], h := [.row (.ints .i64 r.2.1), .row (.ints .i64 r.2.2)] }) (fun (r : (List Int) × (List Int)) => k (.exit 0) { n := 81, t := [(2, .junk), (3, (.own 0)), (5, (.own 1))], h := [.row (.ints .i64 r.1), .row (.ints .i64 r.2)] }))) none) s_.1 s_.2.1 s_.2.2.1 s_.2.2.2 (L.FnNamedNet_run11 n) (fun d => some ((Sum.inl d))) (fun d => some ((Sum.inr d))) none).symm
noncomputable def L.FnNamedNet_tree {α : Type} (code : List Int) (leaf0_ : Bool → α) (fail_ : α) : α :=
  (bif decide ((↑code.length : Int) > 1048576) then (leaf0_ true) else (optC (S.DrawNamedNet_t code) (fun c_1 => (optC (I.NamedNet_t c_1.fst c_1.snd) (fun c_2 => (optC (S.NamedNet_t c_1.fst c_1.snd) (fun c_3 => (optC (L.sameInts_t c_2.snd c_3.snd) (fun c_4 => (bif !c_4 then (leaf0_ false) else (bif !c_2.fst == c_3.fst then (leaf0_ false) else (bif !c_2.fst then (bif (↑c_2.snd.length : Int) == 0 then (optC (L.alive_t) (fun c_5 => (leaf0_ c_5)) fail_) else (leaf0_ false)) else (optC (L.FnNamedNet_run11 FUEL (0, c_1.fst, c_1.snd, c_2.snd)) (fun qy_9 => (sumC qy_9 (fun (qy_9 : Bool × (List Int) × (List Int)) => (leaf0_ qy_9.1)) (fun (qy_9 : (List Int) × (List Int)) => (optC (I.NetOk_t qy_9.2) (fun c_10 => (bif c_10 then (optC (I.WiresOf_t qy_9.2) (fun c_11 => (optC (I.WiresOf_t qy_9.1) (fun c_12 => (bif c_11 == c_12 then (optC (I.PartMany_t qy_9.2) (fun c_13 => (optC (I.PartMany_t qy_9.1) (fun c_14 => (leaf0_ (c_13 == c_14))) fail_)) fail_) else (leaf0_ false))) fail_)) fail_) else (leaf0_ false))) fail_)))) fail_))))) fail_)) fail_)) fail_)) fail_))
theorem L.FnNamedNet_tree_nat {α γ : Type} (g : α → γ) (code : List Int) (leaf0_ : Bool → α) (fail_ : α) : g (L.FnNamedNet_tree code leaf0_ fail_) = L.FnNamedNet_tree code (fun d => g (leaf0_ d)) (g fail_) := by
  unfold L.FnNamedNet_tree; simp only [apply_cnd g, apply_optC g, apply_sumC g]
noncomputable def L.FnNamedNet_t (code : List Int) : Option (Bool) := L.FnNamedNet_tree code (fun d => some d) none
theorem L.FnNamedNet_den (code : List Int) (κ : V → List E → R) : L.FnNamedNet_F [.ro true (.ints .u8 code)] [] κ = optC (L.FnNamedNet_t code) (fun (r : Bool) => κ (.bool r) []) none := by
  have hu : L.FnNamedNet_F [.ro true (.ints .u8 code)] [] κ = L.FnNamedNet_tree code (fun d => κ (.bool d) []) none := by
    refine Eq.trans (show L.FnNamedNet_F [.ro true (.ints .u8 code)] [] κ = (bif decide ((↑code.length : Int) > 1048576) then (κ (.bool true) []) else (optC (S.DrawNamedNet_t code) (fun c_1 => (optC (I.NamedNet_t c_1.fst c_1.snd) (fun c_2 => (optC (S.NamedNet_t c_1.fst c_1.snd) (fun c_3 => (optC (L.sameInts_t c_2.snd c_3.snd) (fun c_4 => (bif !c_4 then (κ (.bool false) []) else (bif !c_2.fst == c_3.fst then (κ (.bool false) []) else (bif !c_2.fst then (bif (↑c_2.snd.length : Int) == 0 then (optC (L.alive_t) (fun c_5 => (κ (.bool c_5) [])) none) else (κ (.bool false) [])) else (L.FnNamedNet_L11 FUEL { n := 81, t := [(3, (.own 0)), (4, (.own 1)), (5, (.own 2)), (9, (.int .i64 0))], h := [.row (.ints .i64 c_1.fst), .row (.ints .i64 c_1.snd), .row (.ints .i64 c_2.snd)] } (L.FnNamedNet_k11 κ)))))) none)) none)) none)) none)) by kernel_rfl) ?_
    refine cnd_congr ?_ ?_
    · kernel_rfl
    · refine optC_congr (fun c_1 => ?_)
      refine optC_congr (fun c_2 => ?_)
      refine optC_congr (fun c_3 => ?_)
      refine optC_congr (fun c_4 => ?_)
      refine cnd_congr ?_ ?_
      · kernel_rfl
      · refine cnd_congr ?_ ?_
        · kernel_rfl
        · refine cnd_congr ?_ ?_
          · kernel_rfl
          · refine (L.FnNamedNet_L11_run FUEL (0, c_1.fst, c_1.snd, c_2.snd) (L.FnNamedNet_k11 κ)).trans (optC_congr (fun qy_9 => ?_))
            rcases qy_9 with qy_9 | qy_9
            · kernel_rfl
            · kernel_rfl
  rw [hu]
  exact (L.FnNamedNet_tree_nat (fun o => optC o (fun (r : Bool) => κ (.bool r) []) none) code (fun d => some d) none).symm
noncomputable def L.FnNamedNet_s : D.Spec where
  keep := true
  pure := true
  ds := [.int .u8]
  sp := fun args h κ => match args, h with
    | [.ro true (.ints .u8 code)], [] => optC (L.FnNamedNet_t code) (fun (r : Bool) => κ (.bool r) []) none
    | _, _ => none
theorem L.FnNamedNet_ok : SpecOk Try.prog 9 L.FnNamedNet_s := by
  refine SpecOk.of TDok mixed (T := L.FnNamedNet_T) ?_ (ann := L.FnNamedNet_ann) Try.func9 rfl (by decide +kernel) ?_ ?_ ?_
  · intro p hp
    simp only [L.FnNamedNet_T, List.mem_cons, List.not_mem_nil, or_false] at hp
    rcases hp with rfl | rfl | rfl | rfl | rfl | rfl | rfl | rfl | rfl | rfl
    · exact S.DrawNamedNet_ok
    · exact I.NamedNet_ok
    · exact S.NamedNet_ok
    · exact L.sameInts_ok
    · exact L.alive_ok
    · exact I.BallOf_ok
    · exact L.namedSet_ok
    · exact I.NetOk_ok
    · exact I.WiresOf_ok
    · exact I.PartMany_ok
  · intro args h κ r hh
    simp only [L.FnNamedNet_s] at hh
    split at hh
    · exact (L.FnNamedNet_den _ κ).trans hh
    · cases hh
  · intro args h κ r hh
    simp only [L.FnNamedNet_s] at hh ⊢
    split at hh
    · exact optC_law2 (F := fun (r : Bool) κ => κ (.bool r) []) (fun b κ r hb => ⟨_, _, hb, fun _ => rfl⟩) hh
    · cases hh
  · intro _ args h κ r hh
    simp only [L.FnNamedNet_s] at hh
    split at hh
    · exact ⟨rfl, fun _ => rfl⟩
    · cases hh

-- loop.example/guardsonnets/laws.toIntS
noncomputable def L.toIntS_T : List (Nat × D.Spec) := []
def L.toIntS_ann : Nat → List Nat × List Nat
  | 3 => ([0, 3, 4], [3])
  | _ => ([], [])
noncomputable def L.toIntS_F (args : List V) (h : List E) (κ : V → List E → R) : R := funC TD (tableK L.toIntS_T) L.toIntS_ann (drawOk (tableP L.toIntS_T)) FUEL Try.f37 args h κ
noncomputable def L.toIntS_L3 (n : Nat) (σ : St) (k : X → St → R) : R := iterC 0 (fun σ k => denC TD (tableK L.toIntS_T) L.toIntS_ann (drawOk (tableP L.toIntS_T)) 0 FUEL ((findLoop 3 (Try.f37.body.getD .skip)).getD .skip) σ k) [0, 3, 4] [3] n σ k
noncomputable def L.toIntS_k3 (κ : V → List E → R) : X → St → R := (afterC TD (tableK L.toIntS_T) L.toIntS_ann (drawOk (tableP L.toIntS_T)) 0 FUEL 3 (Try.f37.body.getD .skip) (finC 0 Try.f37 κ)).getD (fun _ _ => none)
noncomputable def L.toIntS_step3 {α : Type} (x0 : List Int) (x4 : Int) (r0 : List Int) (next_ : Int × (List Int) → α) (out0_ : List Int → α) (fail_ : α) : α :=
  (bif decide (x4 < (↑x0.length : Int)) then (bif decide (0 ≤ x4) && decide (x4 < (↑x0.length : Int)) then (bif decide (0 ≤ x4) && decide (x4 < (↑r0.length : Int)) then (bif decide (x4.toNat < r0.length) then (next_ (IntKind.i64.wrap (x4 + 1), r0.set x4.toNat (eli x0 x4.toNat))) else fail_) else fail_) else fail_) else (out0_ r0))
theorem L.toIntS_step3_nat {α γ : Type} (g : α → γ) (x0 : List Int) (x4 : Int) (r0 : List Int) (next_ : Int × (List Int) → α) (out0_ : List Int → α) (fail_ : α) : g (L.toIntS_step3 x0 x4 r0 next_ out0_ fail_) = L.toIntS_step3 x0 x4 r0 (fun s => g (next_ s)) (fun d => g (out0_ d)) (g fail_) := by
  unfold L.toIntS_step3; simp only [apply_cnd g, apply_optC g, apply_sumC g]
noncomputable def L.toIntS_run3 (x0 : List Int) : Nat → Int × (List Int) → Option (List Int)
  | 0, _ => none
  | n + 1, s_ => L.toIntS_step3 x0 s_.1 s_.2 (L.toIntS_run3 x0 n) (fun d => some d) none
theorem L.toIntS_L3_run (x0 : List Int) (n : Nat) (s_ : Int × (List Int)) (k : X → St → R) : L.toIntS_L3 n { n := 22, t := [(0, (.ro false (.ints .i64 x0))), (3, (.own 0)), (4, (.int .i64 s_.1))], h := [.row (.ints .i64 s_.2)] } k = optC (L.toIntS_run3 x0 n s_) (fun (r : List Int) => k (.exit 0) { n := 22, t := [(3, (.own 0))], h := [.row (.ints .i64 r)] }) none := by
  induction n generalizing s_ with
  | zero => rfl
  | succ n ih =>
    have hu : L.toIntS_L3 (n + 1) { n := 22, t := [(0, (.ro false (.ints .i64 x0))), (3, (.own 0)), (4, (.int .i64 s_.1))], h := [.row (.ints .i64 s_.2)] } k = L.toIntS_step3 x0 s_.1 s_.2 (fun s_ => L.toIntS_L3 n { n := 22, t := [(0, (.ro false (.ints .i64 x0))), (3, (.own 0)), (4, (.int .i64 s_.1))], h := [.row (.ints .i64 s_.2)] } k) (fun d => k (.exit 0) { n := 22, t := [(3, (.own 0))], h := [.row (.ints .i64 d)] }) none := by
      kernel_rfl
    have hs : (fun s_ : Int × (List Int) => L.toIntS_L3 n { n := 22, t := [(0, (.ro false (.ints .i64 x0))), (3, (.own 0)), (4, (.int .i64 s_.1))], h := [.row (.ints .i64 s_.2)] } k) = fun s_ => optC (L.toIntS_run3 x0 n s_) (fun (r : List Int) => k (.exit 0) { n := 22, t := [(3, (.own 0))], h := [.row (.ints .i64 r)] }) none := funext ih
    rw [hu, hs]
    exact (L.toIntS_step3_nat (fun o => optC o (fun (r : List Int) => k (.exit 0) { n := 22, t := [(3, (.own 0))], h := [.row (.ints .i64 r)] }) none) x0 s_.1 s_.2 (L.toIntS_run3 x0 n) (fun d => some d) none).symm
noncomputable def L.toIntS_tree {α : Type} (a : List Int) (leaf0_ : List Int → α) (fail_ : α) : α :=
  (bif small (↑a.length : Int).toNat && true then (optC (L.toIntS_run3 a FUEL (0, List.replicate (↑a.length : Int).toNat 0)) (fun qy_1 => (leaf0_ qy_1)) fail_) else fail_)
theorem L.toIntS_tree_nat {α γ : Type} (g : α → γ) (a : List Int) (leaf0_ : List Int → α) (fail_ : α) : g (L.toIntS_tree a leaf0_ fail_) = L.toIntS_tree a (fun d => g (leaf0_ d)) (g fail_) := by
  unfold L.toIntS_tree; simp only [apply_cnd g, apply_optC g, apply_sumC g]
noncomputable def L.toIntS_t (a : List Int) : Option (List Int) := L.toIntS_tree a (fun d => some d) none
theorem L.toIntS_den (a : List Int) (κ : V → List E → R) : L.toIntS_F [.ro false (.ints .i64 a)] [] κ = optC (L.toIntS_t a) (fun (r : List Int) => κ (.own 0) [.row (.ints .i64 r)]) none := by
  have hu : L.toIntS_F [.ro false (.ints .i64 a)] [] κ = L.toIntS_tree a (fun d => κ (.own 0) [.row (.ints .i64 d)]) none := by
    refine Eq.trans (show L.toIntS_F [.ro false (.ints .i64 a)] [] κ = (bif small (↑a.length : Int).toNat && true then (L.toIntS_L3 FUEL { n := 22, t := [(0, (.ro false (.ints .i64 a))), (3, (.own 0)), (4, (.int .i64 0))], h := [.row (.ints .i64 (List.replicate (↑a.length : Int).toNat 0))] } (L.toIntS_k3 κ)) else none) by kernel_rfl) ?_
    refine cnd_congr ?_ ?_
    · refine (L.toIntS_L3_run a FUEL (0, List.replicate (↑a.length : Int).toNat 0) (L.toIntS_k3 κ)).trans (optC_congr (fun qy_1 => ?_))
      kernel_rfl
    · kernel_rfl
  rw [hu]
  exact (L.toIntS_tree_nat (fun o => optC o (fun (r : List Int) => κ (.own 0) [.row (.ints .i64 r)]) none) a (fun d => some d) none).symm
noncomputable def L.toIntS_s : D.Spec where
  keep := false
  pure := false
  ds := [.int .i64]
  sp := fun args h κ => match args, h with
    | [.ro false (.ints .i64 a)], [] => optC (L.toIntS_t a) (fun (r : List Int) => κ (.own 0) [.row (.ints .i64 r)]) none
    | _, _ => none
theorem L.toIntS_ok : SpecOk Try.prog 37 L.toIntS_s := by
  refine SpecOk.of TDok mixed (T := L.toIntS_T) ?_ (ann := L.toIntS_ann) Try.func37 rfl (by decide +kernel) ?_ ?_ ?_
  · intro p hp; cases hp
  · intro args h κ r hh
    simp only [L.toIntS_s] at hh
    split at hh
    · exact (L.toIntS_den _ κ).trans hh
    · cases hh
  · intro args h κ r hh
    simp only [L.toIntS_s] at hh ⊢
    split at hh
    · exact optC_law2 (F := fun (r : List Int) κ => κ (.own 0) [.row (.ints .i64 r)]) (fun b κ r hb => ⟨_, _, hb, fun _ => rfl⟩) hh
    · cases hh
  · intro hh; cases hh

-- loop.example/guardsonnets/laws.eqIntS
noncomputable def L.eqIntS_T : List (Nat × D.Spec) := []
def L.eqIntS_ann : Nat → List Nat × List Nat
  | 4 => ([0, 1, 5], [4])
  | _ => ([], [])
noncomputable def L.eqIntS_F (args : List V) (h : List E) (κ : V → List E → R) : R := funC TD (tableK L.eqIntS_T) L.eqIntS_ann (drawOk (tableP L.eqIntS_T)) FUEL Try.f38 args h κ
noncomputable def L.eqIntS_L4 (n : Nat) (σ : St) (k : X → St → R) : R := iterC 0 (fun σ k => denC TD (tableK L.eqIntS_T) L.eqIntS_ann (drawOk (tableP L.eqIntS_T)) 0 FUEL ((findLoop 4 (Try.f38.body.getD .skip)).getD .skip) σ k) [0, 1, 5] [4] n σ k
noncomputable def L.eqIntS_k4 (κ : V → List E → R) : X → St → R := (afterC TD (tableK L.eqIntS_T) L.eqIntS_ann (drawOk (tableP L.eqIntS_T)) 0 FUEL 4 (Try.f38.body.getD .skip) (finC 0 Try.f38 κ)).getD (fun _ _ => none)
noncomputable def L.eqIntS_step4 {α : Type} (x0 : List Int) (x1 : List Int) (x5 : Int) (next_ : Int → α) (out0_ : Bool → α) (out1_ : Unit → α) (fail_ : α) : α :=
  (bif decide (x5 < (↑x0.length : Int)) then (bif decide (0 ≤ x5) && decide (x5 < (↑x0.length : Int)) then (bif decide (0 ≤ x5) && decide (x5 < (↑x1.length : Int)) then (bif !eli x0 x5.toNat == eli x1 x5.toNat then (out0_ false) else (next_ (IntKind.i64.wrap (x5 + 1)))) else fail_) else fail_) else (out1_ ()))
theorem L.eqIntS_step4_nat {α γ : Type} (g : α → γ) (x0 : List Int) (x1 : List Int) (x5 : Int) (next_ : Int → α) (out0_ : Bool → α) (out1_ : Unit → α) (fail_ : α) : g (L.eqIntS_step4 x0 x1 x5 next_ out0_ out1_ fail_) = L.eqIntS_step4 x0 x1 x5 (fun s => g (next_ s)) (fun d => g (out0_ d)) (fun d => g (out1_ d)) (g fail_) := by
  unfold L.eqIntS_step4; simp only [apply_cnd g, apply_optC g, apply_sumC g]
noncomputable def L.eqIntS_run4 (x0 : List Int) (x1 : List Int) : Nat → Int → Option ((Bool) ⊕ (Unit))
  | 0, _ => none
  | n + 1, s_ => L.eqIntS_step4 x0 x1 s_ (L.eqIntS_run4 x0 x1 n) (fun d => some ((Sum.inl d))) (fun d => some ((Sum.inr d))) none
theorem L.eqIntS_L4_run (x0 : List Int) (x1 : List Int) (n : Nat) (s_ : Int) (k : X → St → R) : L.eqIntS_L4 n { n := 26, t := [(0, (.ro false (.ints .i64 x0))), (1, (.ro false (.ints .i64 x1))), (5, (.int .i64 s_))], h := [] } k = optC (L.eqIntS_run4 x0 x1 n s_) (fun (r : (Bool) ⊕ (Unit)) => (sumC r (fun (r : Bool) => k (.ret) { n := 26, t := [(4, (.bool r))], h := [] }) (fun (r : Unit) => k (.exit 0) { n := 26, t := [(4, .junk)], h := [] }))) none := by
  induction n generalizing s_ with
  | zero => rfl
  | succ n ih =>
    have hu : L.eqIntS_L4 (n + 1) { n := 26, t := [(0, (.ro false (.ints .i64 x0))), (1, (.ro false (.ints .i64 x1))), (5, (.int .i64 s_))], h := [] } k = L.eqIntS_step4 x0 x1 s_ (fun s_ => L.eqIntS_L4 n { n := 26, t := [(0, (.ro false (.ints .i64 x0))), (1, (.ro false (.ints .i64 x1))), (5, (.int .i64 s_))], h := [] } k) (fun d => k (.ret) { n := 26, t := [(4, (.bool d))], h := [] }) (fun d => k (.exit 0) { n := 26, t := [(4, .junk)], h := [] }) none := by
      kernel_rfl
    have hs : (fun s_ : Int => L.eqIntS_L4 n { n := 26, t := [(0, (.ro false (.ints .i64 x0))), (1, (.ro false (.ints .i64 x1))), (5, (.int .i64 s_))], h := [] } k) = fun s_ => optC (L.eqIntS_run4 x0 x1 n s_) (fun (r : (Bool) ⊕ (Unit)) => (sumC r (fun (r : Bool) => k (.ret) { n := 26, t := [(4, (.bool r))], h := [] }) (fun (r : Unit) => k (.exit 0) { n := 26, t := [(4, .junk)], h := [] }))) none := funext ih
    rw [hu, hs]
    exact (L.eqIntS_step4_nat (fun o => optC o (fun (r : (Bool) ⊕ (Unit)) => (sumC r (fun (r : Bool) => k (.ret) { n := 26, t := [(4, (.bool r))], h := [] }) (fun (r : Unit) => k (.exit 0) { n := 26, t := [(4, .junk)], h := [] }))) none) x0 x1 s_ (L.eqIntS_run4 x0 x1 n) (fun d => some ((Sum.inl d))) (fun d => some ((Sum.inr d))) none).symm
noncomputable def L.eqIntS_tree {α : Type} (a : List Int) (b_ : List Int) (leaf0_ : Bool → α) (fail_ : α) : α :=
  (bif !(↑a.length : Int) == (↑b_.length : Int) then (leaf0_ false) else (optC (L.eqIntS_run4 a b_ FUEL 0) (fun qy_1 => (sumC qy_1 (fun (qy_1 : Bool) => (leaf0_ qy_1)) (fun (qy_1 : Unit) => (leaf0_ true)))) fail_))
theorem L.eqIntS_tree_nat {α γ : Type} (g : α → γ) (a : List Int) (b_ : List Int) (leaf0_ : Bool → α) (fail_ : α) : g (L.eqIntS_tree a b_ leaf0_ fail_) = L.eqIntS_tree a b_ (fun d => g (leaf0_ d)) (g fail_) := by
  unfold L.eqIntS_tree; simp only [apply_cnd g, apply_optC g, apply_sumC g]
noncomputable def L.eqIntS_t (a : List Int) (b_ : List Int) : Option (Bool) := L.eqIntS_tree a b_ (fun d => some d) none
theorem L.eqIntS_den (a : List Int) (b_ : List Int) (κ : V → List E → R) : L.eqIntS_F [.ro false (.ints .i64 a), .ro false (.ints .i64 b_)] [] κ = optC (L.eqIntS_t a b_) (fun (r : Bool) => κ (.bool r) []) none := by
  have hu : L.eqIntS_F [.ro false (.ints .i64 a), .ro false (.ints .i64 b_)] [] κ = L.eqIntS_tree a b_ (fun d => κ (.bool d) []) none := by
    refine Eq.trans (show L.eqIntS_F [.ro false (.ints .i64 a), .ro false (.ints .i64 b_)] [] κ = (bif !(↑a.length : Int) == (↑b_.length : Int) then (κ (.bool false) []) else (L.eqIntS_L4 FUEL { n := 26, t := [(0, (.ro false (.ints .i64 a))), (1, (.ro false (.ints .i64 b_))), (5, (.int .i64 0))], h := [] } (L.eqIntS_k4 κ))) by kernel_rfl) ?_
    refine cnd_congr ?_ ?_
    · kernel_rfl
    · refine (L.eqIntS_L4_run a b_ FUEL 0 (L.eqIntS_k4 κ)).trans (optC_congr (fun qy_1 => ?_))
      rcases qy_1 with qy_1 | qy_1
      · kernel_rfl
      · kernel_rfl
  rw [hu]
  exact (L.eqIntS_tree_nat (fun o => optC o (fun (r : Bool) => κ (.bool r) []) none) a b_ (fun d => some d) none).symm
noncomputable def L.eqIntS_s : D.Spec where
  keep := false
  pure := true
  ds := [.int .i64, .int .i64]
  sp := fun args h κ => match args, h with
    | [.ro false (.ints .i64 a), .ro false (.ints .i64 b_)], [] => optC (L.eqIntS_t a b_) (fun (r : Bool) => κ (.bool r) []) none
    | _, _ => none
theorem L.eqIntS_ok : SpecOk Try.prog 38 L.eqIntS_s := by
  refine SpecOk.of TDok mixed (T := L.eqIntS_T) ?_ (ann := L.eqIntS_ann) Try.func38 rfl (by decide +kernel) ?_ ?_ ?_
  · intro p hp; cases hp
  · intro args h κ r hh
    simp only [L.eqIntS_s] at hh
    split at hh
    · exact (L.eqIntS_den _ _ κ).trans hh
    · cases hh
  · intro args h κ r hh
    simp only [L.eqIntS_s] at hh ⊢
    split at hh
    · exact optC_law2 (F := fun (r : Bool) κ => κ (.bool r) []) (fun b κ r hb => ⟨_, _, hb, fun _ => rfl⟩) hh
    · cases hh
  · intro _ args h κ r hh
    simp only [L.eqIntS_s] at hh
    split at hh
    · exact ⟨rfl, fun _ => rfl⟩
    · cases hh

-- loop.example/guardsonnets/laws.markIntS
noncomputable def L.markIntS_T : List (Nat × D.Spec) := []
def L.markIntS_ann : Nat → List Nat × List Nat
  | 2 => ([0, 1, 5], [1])
  | _ => ([], [])
noncomputable def L.markIntS_F (args : List V) (h : List E) (κ : V → List E → R) : R := funC TD (tableK L.markIntS_T) L.markIntS_ann (drawOk (tableP L.markIntS_T)) FUEL Try.f39 args h κ
noncomputable def L.markIntS_L2 (n : Nat) (σ : St) (k : X → St → R) : R := iterC 1 (fun σ k => denC TD (tableK L.markIntS_T) L.markIntS_ann (drawOk (tableP L.markIntS_T)) 1 FUEL ((findLoop 2 (Try.f39.body.getD .skip)).getD .skip) σ k) [0, 1, 5] [1] n σ k
noncomputable def L.markIntS_k2 (κ : V → List E → R) : X → St → R := (afterC TD (tableK L.markIntS_T) L.markIntS_ann (drawOk (tableP L.markIntS_T)) 1 FUEL 2 (Try.f39.body.getD .skip) (finC 1 Try.f39 κ)).getD (fun _ _ => none)
noncomputable def L.markIntS_step2 {α : Type} (x1 : Int) (x5 : Int) (r0 : List Int) (next_ : Int × Int × (List Int) → α) (out0_ : Int × (List Int) → α) (fail_ : α) : α :=
  (bif decide (x5 < (↑r0.length : Int)) then (bif decide (0 ≤ x5) && decide (x5 < (↑r0.length : Int)) then (bif decide (x5.toNat < r0.length) then (next_ (IntKind.i64.wrap (x1 + 1), IntKind.i64.wrap (x5 + 1), r0.set x5.toNat x1)) else fail_) else fail_) else (out0_ (x1, r0)))
theorem L.markIntS_step2_nat {α γ : Type} (g : α → γ) (x1 : Int) (x5 : Int) (r0 : List Int) (next_ : Int × Int × (List Int) → α) (out0_ : Int × (List Int) → α) (fail_ : α) : g (L.markIntS_step2 x1 x5 r0 next_ out0_ fail_) = L.markIntS_step2 x1 x5 r0 (fun s => g (next_ s)) (fun d => g (out0_ d)) (g fail_) := by
  unfold L.markIntS_step2; simp only [apply_cnd g, apply_optC g, apply_sumC g]
noncomputable def L.markIntS_run2 : Nat → Int × Int × (List Int) → Option (Int × (List Int))
  | 0, _ => none
  | n + 1, s_ => L.markIntS_step2 s_.1 s_.2.1 s_.2.2 (L.markIntS_run2 n) (fun d => some d) none
theorem L.markIntS_L2_run (n : Nat) (s_ : Int × Int × (List Int)) (k : X → St → R) : L.markIntS_L2 n { n := 19, t := [(0, (.own 0)), (1, (.int .i64 s_.1)), (5, (.int .i64 s_.2.1))], h := [.row (.ints .i64 s_.2.2)] } k = optC (L.markIntS_run2 n s_) (fun (r : Int × (List Int)) => k (.exit 0) { n := 19, t := [(1, (.int .i64 r.1))], h := [.row (.ints .i64 r.2)] }) none := by
  induction n generalizing s_ with
  | zero => rfl
  | succ n ih =>
    have hu : L.markIntS_L2 (n + 1) { n := 19, t := [(0, (.own 0)), (1, (.int .i64 s_.1)), (5, (.int .i64 s_.2.1))], h := [.row (.ints .i64 s_.2.2)] } k = L.markIntS_step2 s_.1 s_.2.1 s_.2.2 (fun s_ => L.markIntS_L2 n { n := 19, t := [(0, (.own 0)), (1, (.int .i64 s_.1)), (5, (.int .i64 s_.2.1))], h := [.row (.ints .i64 s_.2.2)] } k) (fun d => k (.exit 0) { n := 19, t := [(1, (.int .i64 d.1))], h := [.row (.ints .i64 d.2)] }) none := by
      kernel_rfl
    have hs : (fun s_ : Int × Int × (List Int) => L.markIntS_L2 n { n := 19, t := [(0, (.own 0)), (1, (.int .i64 s_.1)), (5, (.int .i64 s_.2.1))], h := [.row (.ints .i64 s_.2.2)] } k) = fun s_ => optC (L.markIntS_run2 n s_) (fun (r : Int × (List Int)) => k (.exit 0) { n := 19, t := [(1, (.int .i64 r.1))], h := [.row (.ints .i64 r.2)] }) none := funext ih
    rw [hu, hs]
    exact (L.markIntS_step2_nat (fun o => optC o (fun (r : Int × (List Int)) => k (.exit 0) { n := 19, t := [(1, (.int .i64 r.1))], h := [.row (.ints .i64 r.2)] }) none) s_.1 s_.2.1 s_.2.2 (L.markIntS_run2 n) (fun d => some d) none).symm
noncomputable def L.markIntS_tree {α : Type} (a : List Int) (k_ : Int) (leaf0_ : Int × (List Int) → α) (fail_ : α) : α :=
  (optC (L.markIntS_run2 FUEL (k_, 0, a)) (fun qy_1 => (leaf0_ (qy_1.1, qy_1.2))) fail_)
theorem L.markIntS_tree_nat {α γ : Type} (g : α → γ) (a : List Int) (k_ : Int) (leaf0_ : Int × (List Int) → α) (fail_ : α) : g (L.markIntS_tree a k_ leaf0_ fail_) = L.markIntS_tree a k_ (fun d => g (leaf0_ d)) (g fail_) := by
  unfold L.markIntS_tree; simp only [apply_cnd g, apply_optC g, apply_sumC g]
noncomputable def L.markIntS_t (a : List Int) (k_ : Int) : Option (Int × (List Int)) := L.markIntS_tree a k_ (fun d => some d) none
theorem L.markIntS_den (a : List Int) (k_ : Int) (κ : V → List E → R) : L.markIntS_F [.own 0, .int .i64 k_] [.row (.ints .i64 a)] κ = optC (L.markIntS_t a k_) (fun (r : Int × (List Int)) => κ (.int .i64 r.1) [.row (.ints .i64 r.2)]) none := by
  have hu : L.markIntS_F [.own 0, .int .i64 k_] [.row (.ints .i64 a)] κ = L.markIntS_tree a k_ (fun d => κ (.int .i64 d.1) [.row (.ints .i64 d.2)]) none := by
    refine Eq.trans (show L.markIntS_F [.own 0, .int .i64 k_] [.row (.ints .i64 a)] κ = (L.markIntS_L2 FUEL { n := 19, t := [(0, (.own 0)), (1, (.int .i64 k_)), (5, (.int .i64 0))], h := [.row (.ints .i64 a)] } (L.markIntS_k2 κ)) by kernel_rfl) ?_
    refine (L.markIntS_L2_run FUEL (k_, 0, a) (L.markIntS_k2 κ)).trans (optC_congr (fun qy_1 => ?_))
    kernel_rfl
  rw [hu]
  exact (L.markIntS_tree_nat (fun o => optC o (fun (r : Int × (List Int)) => κ (.int .i64 r.1) [.row (.ints .i64 r.2)]) none) a k_ (fun d => some d) none).symm
noncomputable def L.markIntS_s : D.Spec where
  keep := false
  pure := false
  ds := [.pointer 0, .invalid]
  sp := fun args h κ => match args, h with
    | [.own 0, .int .i64 k_], [.row (.ints .i64 a)] => optC (L.markIntS_t a k_) (fun (r : Int × (List Int)) => κ (.int .i64 r.1) [.row (.ints .i64 r.2)]) none
    | _, _ => none
theorem L.markIntS_ok : SpecOk Try.prog 39 L.markIntS_s := by
  refine SpecOk.of TDok mixed (T := L.markIntS_T) ?_ (ann := L.markIntS_ann) Try.func39 rfl (by decide +kernel) ?_ ?_ ?_
  · intro p hp; cases hp
  · intro args h κ r hh
    simp only [L.markIntS_s] at hh
    split at hh
    · exact (L.markIntS_den _ _ κ).trans hh
    · cases hh
  · intro args h κ r hh
    simp only [L.markIntS_s] at hh ⊢
    split at hh
    · exact optC_law2 (F := fun (r : Int × (List Int)) κ => κ (.int .i64 r.1) [.row (.ints .i64 r.2)]) (fun b κ r hb => ⟨_, _, hb, fun _ => rfl⟩) hh
    · cases hh
  · intro hh; cases hh

-- loop.example/guardsonnets/laws.heldIntS
noncomputable def L.heldIntS_T : List (Nat × D.Spec) := []
def L.heldIntS_ann : Nat → List Nat × List Nat
  | 2 => ([0, 1, 5], [1, 4])
  | _ => ([], [])
noncomputable def L.heldIntS_F (args : List V) (h : List E) (κ : V → List E → R) : R := funC TD (tableK L.heldIntS_T) L.heldIntS_ann (drawOk (tableP L.heldIntS_T)) FUEL Try.f40 args h κ
noncomputable def L.heldIntS_L2 (n : Nat) (σ : St) (k : X → St → R) : R := iterC 0 (fun σ k => denC TD (tableK L.heldIntS_T) L.heldIntS_ann (drawOk (tableP L.heldIntS_T)) 0 FUEL ((findLoop 2 (Try.f40.body.getD .skip)).getD .skip) σ k) [0, 1, 5] [1, 4] n σ k
noncomputable def L.heldIntS_k2 (κ : V → List E → R) : X → St → R := (afterC TD (tableK L.heldIntS_T) L.heldIntS_ann (drawOk (tableP L.heldIntS_T)) 0 FUEL 2 (Try.f40.body.getD .skip) (finC 0 Try.f40 κ)).getD (fun _ _ => none)
noncomputable def L.heldIntS_step2 {α : Type} (x0 : List Int) (x1 : Int) (x5 : Int) (next_ : Int × Int → α) (out0_ : Int × Int → α) (out1_ : Int → α) (fail_ : α) : α :=
  (bif decide (x5 < (↑x0.length : Int)) then (bif decide (0 ≤ x5) && decide (x5 < (↑x0.length : Int)) then (bif !eli x0 x5.toNat == x1 then (out0_ (x1, -1)) else (next_ (IntKind.i64.wrap (x1 + 1), IntKind.i64.wrap (x5 + 1)))) else fail_) else (out1_ x1))
theorem L.heldIntS_step2_nat {α γ : Type} (g : α → γ) (x0 : List Int) (x1 : Int) (x5 : Int) (next_ : Int × Int → α) (out0_ : Int × Int → α) (out1_ : Int → α) (fail_ : α) : g (L.heldIntS_step2 x0 x1 x5 next_ out0_ out1_ fail_) = L.heldIntS_step2 x0 x1 x5 (fun s => g (next_ s)) (fun d => g (out0_ d)) (fun d => g (out1_ d)) (g fail_) := by
  unfold L.heldIntS_step2; simp only [apply_cnd g, apply_optC g, apply_sumC g]
noncomputable def L.heldIntS_run2 (x0 : List Int) : Nat → Int × Int → Option ((Int × Int) ⊕ (Int))
  | 0, _ => none
  | n + 1, s_ => L.heldIntS_step2 x0 s_.1 s_.2 (L.heldIntS_run2 x0 n) (fun d => some ((Sum.inl d))) (fun d => some ((Sum.inr d))) none
theorem L.heldIntS_L2_run (x0 : List Int) (n : Nat) (s_ : Int × Int) (k : X → St → R) : L.heldIntS_L2 n { n := 21, t := [(0, (.ro false (.ints .i64 x0))), (1, (.int .i64 s_.1)), (5, (.int .i64 s_.2))], h := [] } k = optC (L.heldIntS_run2 x0 n s_) (fun (r : (Int × Int) ⊕ (Int)) => (sumC r (fun (r : Int × Int) => k (.ret) { n := 21, t := [(1, (.int .i64 r.1)), (4, (.int .i64 r.2))], h := [] }) (fun (r : Int) => k (.exit 0) { n := 21, t := [(1, (.int .i64 r)), (4, .junk)], h := [] }))) none := by
  induction n generalizing s_ with
  | zero => rfl
  | succ n ih =>
    have hu : L.heldIntS_L2 (n + 1) { n := 21, t := [(0, (.ro false (.ints .i64 x0))), (1, (.int .i64 s_.1)), (5, (.int .i64 s_.2))], h := [] } k = L.heldIntS_step2 x0 s_.1 s_.2 (fun s_ => L.heldIntS_L2 n { n := 21, t := [(0, (.ro false (.ints .i64 x0))), (1, (.int .i64 s_.1)), (5, (.int .i64 s_.2))], h := [] } k) (fun d => k (.ret) { n := 21, t := [(1, (.int .i64 d.1)), (4, (.int .i64 d.2))], h := [] }) (fun d => k (.exit 0) { n := 21, t := [(1, (.int .i64 d)), (4, .junk)], h := [] }) none := by
      kernel_rfl
    have hs : (fun s_ : Int × Int => L.heldIntS_L2 n { n := 21, t := [(0, (.ro false (.ints .i64 x0))), (1, (.int .i64 s_.1)), (5, (.int .i64 s_.2))], h := [] } k) = fun s_ => optC (L.heldIntS_run2 x0 n s_) (fun (r : (Int × Int) ⊕ (Int)) => (sumC r (fun (r : Int × Int) => k (.ret) { n := 21, t := [(1, (.int .i64 r.1)), (4, (.int .i64 r.2))], h := [] }) (fun (r : Int) => k (.exit 0) { n := 21, t := [(1, (.int .i64 r)), (4, .junk)], h := [] }))) none := funext ih
    rw [hu, hs]
    exact (L.heldIntS_step2_nat (fun o => optC o (fun (r : (Int × Int) ⊕ (Int)) => (sumC r (fun (r : Int × Int) => k (.ret) { n := 21, t := [(1, (.int .i64 r.1)), (4, (.int .i64 r.2))], h := [] }) (fun (r : Int) => k (.exit 0) { n := 21, t := [(1, (.int .i64 r)), (4, .junk)], h := [] }))) none) x0 s_.1 s_.2 (L.heldIntS_run2 x0 n) (fun d => some ((Sum.inl d))) (fun d => some ((Sum.inr d))) none).symm
noncomputable def L.heldIntS_tree {α : Type} (a : List Int) (k_ : Int) (leaf0_ : Int → α) (fail_ : α) : α :=
  (optC (L.heldIntS_run2 a FUEL (k_, 0)) (fun qy_1 => (sumC qy_1 (fun (qy_1 : Int × Int) => (leaf0_ qy_1.2)) (fun (qy_1 : Int) => (leaf0_ qy_1)))) fail_)
theorem L.heldIntS_tree_nat {α γ : Type} (g : α → γ) (a : List Int) (k_ : Int) (leaf0_ : Int → α) (fail_ : α) : g (L.heldIntS_tree a k_ leaf0_ fail_) = L.heldIntS_tree a k_ (fun d => g (leaf0_ d)) (g fail_) := by
  unfold L.heldIntS_tree; simp only [apply_cnd g, apply_optC g, apply_sumC g]
noncomputable def L.heldIntS_t (a : List Int) (k_ : Int) : Option (Int) := L.heldIntS_tree a k_ (fun d => some d) none
theorem L.heldIntS_den (a : List Int) (k_ : Int) (κ : V → List E → R) : L.heldIntS_F [.ro false (.ints .i64 a), .int .i64 k_] [] κ = optC (L.heldIntS_t a k_) (fun (r : Int) => κ (.int .i64 r) []) none := by
  have hu : L.heldIntS_F [.ro false (.ints .i64 a), .int .i64 k_] [] κ = L.heldIntS_tree a k_ (fun d => κ (.int .i64 d) []) none := by
    refine Eq.trans (show L.heldIntS_F [.ro false (.ints .i64 a), .int .i64 k_] [] κ = (L.heldIntS_L2 FUEL { n := 21, t := [(0, (.ro false (.ints .i64 a))), (1, (.int .i64 k_)), (5, (.int .i64 0))], h := [] } (L.heldIntS_k2 κ)) by kernel_rfl) ?_
    refine (L.heldIntS_L2_run a FUEL (k_, 0) (L.heldIntS_k2 κ)).trans (optC_congr (fun qy_1 => ?_))
    rcases qy_1 with qy_1 | qy_1
    · kernel_rfl
    · kernel_rfl
  rw [hu]
  exact (L.heldIntS_tree_nat (fun o => optC o (fun (r : Int) => κ (.int .i64 r) []) none) a k_ (fun d => some d) none).symm
noncomputable def L.heldIntS_s : D.Spec where
  keep := false
  pure := true
  ds := [.int .i64, .invalid]
  sp := fun args h κ => match args, h with
    | [.ro false (.ints .i64 a), .int .i64 k_], [] => optC (L.heldIntS_t a k_) (fun (r : Int) => κ (.int .i64 r) []) none
    | _, _ => none
theorem L.heldIntS_ok : SpecOk Try.prog 40 L.heldIntS_s := by
  refine SpecOk.of TDok mixed (T := L.heldIntS_T) ?_ (ann := L.heldIntS_ann) Try.func40 rfl (by decide +kernel) ?_ ?_ ?_
  · intro p hp; cases hp
  · intro args h κ r hh
    simp only [L.heldIntS_s] at hh
    split at hh
    · exact (L.heldIntS_den _ _ κ).trans hh
    · cases hh
  · intro args h κ r hh
    simp only [L.heldIntS_s] at hh ⊢
    split at hh
    · exact optC_law2 (F := fun (r : Int) κ => κ (.int .i64 r) []) (fun b κ r hb => ⟨_, _, hb, fun _ => rfl⟩) hh
    · cases hh
  · intro _ args h κ r hh
    simp only [L.heldIntS_s] at hh
    split at hh
    · exact ⟨rfl, fun _ => rfl⟩
    · cases hh

-- loop.example/guardsonnets/laws.FnExactNamedNet
noncomputable def L.FnExactNamedNet_T : List (Nat × D.Spec) := [(37, L.toIntS_s), (34, S.NamedNet_s), (33, I.NamedNet_s), (38, L.eqIntS_s), (39, L.markIntS_s), (40, L.heldIntS_s)]
def L.FnExactNamedNet_ann : Nat → List Nat × List Nat
  | _ => ([], [])
noncomputable def L.FnExactNamedNet_F (args : List V) (h : List E) (κ : V → List E → R) : R := funC TD (tableK L.FnExactNamedNet_T) L.FnExactNamedNet_ann (drawOk (tableP L.FnExactNamedNet_T)) FUEL Try.f10 args h κ
noncomputable def L.FnExactNamedNet_tree {α : Type} (aNet : List Int) (aOrder : List Int) (leaf0_ : Bool → α) (fail_ : α) : α :=
  (bif decide ((↑aNet.length : Int) > 1048576) then (leaf0_ true) else (bif decide ((↑aOrder.length : Int) > 1048576) then (leaf0_ true) else (optC (L.toIntS_t aNet) (fun c_1 => (optC (L.toIntS_t aOrder) (fun c_2 => (optC (S.NamedNet_t c_1 c_2) (fun c_3 => (optC (L.toIntS_t aNet) (fun c_4 => (optC (L.toIntS_t aOrder) (fun c_5 => (optC (I.NamedNet_t c_4 c_5) (fun c_6 => (optC (L.eqIntS_t c_6.snd c_3.snd) (fun c_7 => (bif !c_7 then (leaf0_ false) else (bif !c_6.fst == c_3.fst then (leaf0_ false) else (optC (L.toIntS_t aNet) (fun c_8 => (optC (L.eqIntS_t c_4 c_8) (fun c_9 => (bif !c_9 then (leaf0_ false) else (optC (L.toIntS_t aOrder) (fun c_10 => (optC (L.eqIntS_t c_5 c_10) (fun c_11 => (bif !c_11 then (leaf0_ false) else (optC (L.markIntS_t c_4 1) (fun c_12 => (optC (L.markIntS_t c_5 c_12.fst) (fun c_13 => (bif decide (c_13.fst < 0) then (leaf0_ false) else (optC (L.eqIntS_t c_6.snd c_3.snd) (fun c_14 => (bif !c_14 then (leaf0_ false) else (bif !c_6.fst == c_3.fst then (leaf0_ false) else (optC (L.markIntS_t c_6.snd 1) (fun c_15 => (optC (L.heldIntS_t c_15.snd 1) (fun c_16 => (bif decide (c_16 < 0) then (leaf0_ false) else (bif !c_16 == c_15.fst then (leaf0_ false) else (optC (L.toIntS_t aNet) (fun c_17 => (optC (L.toIntS_t aOrder) (fun c_18 => (optC (I.NamedNet_t c_17 c_18) (fun c_19 => (optC (L.eqIntS_t c_19.snd c_3.snd) (fun c_20 => (bif !c_20 then (leaf0_ false) else (bif !c_19.fst == c_3.fst then (leaf0_ false) else (optC (L.heldIntS_t c_15.snd 1) (fun c_21 => (bif decide (c_21 < 0) then (leaf0_ false) else (bif !c_21 == c_15.fst then (leaf0_ false) else (leaf0_ true)))) fail_)))) fail_)) fail_)) fail_)) fail_)))) fail_)) fail_)))) fail_))) fail_)) fail_))) fail_)) fail_))) fail_)) fail_)))) fail_)) fail_)) fail_)) fail_)) fail_)) fail_)) fail_)))
theorem L.FnExactNamedNet_tree_nat {α γ : Type} (g : α → γ) (aNet : List Int) (aOrder : List Int) (leaf0_ : Bool → α) (fail_ : α) : g (L.FnExactNamedNet_tree aNet aOrder leaf0_ fail_) = L.FnExactNamedNet_tree aNet aOrder (fun d => g (leaf0_ d)) (g fail_) := by
  unfold L.FnExactNamedNet_tree; simp only [apply_cnd g, apply_optC g, apply_sumC g]
noncomputable def L.FnExactNamedNet_t (aNet : List Int) (aOrder : List Int) : Option (Bool) := L.FnExactNamedNet_tree aNet aOrder (fun d => some d) none
theorem L.FnExactNamedNet_den (aNet : List Int) (aOrder : List Int) (κ : V → List E → R) : L.FnExactNamedNet_F [.ro true (.ints .i64 aNet), .ro true (.ints .i64 aOrder)] [] κ = optC (L.FnExactNamedNet_t aNet aOrder) (fun (r : Bool) => κ (.bool r) []) none := by
  have hu : L.FnExactNamedNet_F [.ro true (.ints .i64 aNet), .ro true (.ints .i64 aOrder)] [] κ = L.FnExactNamedNet_tree aNet aOrder (fun d => κ (.bool d) []) none := by
    kernel_rfl
  rw [hu]
  exact (L.FnExactNamedNet_tree_nat (fun o => optC o (fun (r : Bool) => κ (.bool r) []) none) aNet aOrder (fun d => some d) none).symm
noncomputable def L.FnExactNamedNet_s : D.Spec where
  keep := true
  pure := true
  ds := [.int .i64, .int .i64]
  sp := fun args h κ => match args, h with
    | [.ro true (.ints .i64 aNet), .ro true (.ints .i64 aOrder)], [] => optC (L.FnExactNamedNet_t aNet aOrder) (fun (r : Bool) => κ (.bool r) []) none
    | _, _ => none
theorem L.FnExactNamedNet_ok : SpecOk Try.prog 10 L.FnExactNamedNet_s := by
  refine SpecOk.of TDok mixed (T := L.FnExactNamedNet_T) ?_ (ann := L.FnExactNamedNet_ann) Try.func10 rfl (by decide +kernel) ?_ ?_ ?_
  · intro p hp
    simp only [L.FnExactNamedNet_T, List.mem_cons, List.not_mem_nil, or_false] at hp
    rcases hp with rfl | rfl | rfl | rfl | rfl | rfl
    · exact L.toIntS_ok
    · exact S.NamedNet_ok
    · exact I.NamedNet_ok
    · exact L.eqIntS_ok
    · exact L.markIntS_ok
    · exact L.heldIntS_ok
  · intro args h κ r hh
    simp only [L.FnExactNamedNet_s] at hh
    split at hh
    · exact (L.FnExactNamedNet_den _ _ κ).trans hh
    · cases hh
  · intro args h κ r hh
    simp only [L.FnExactNamedNet_s] at hh ⊢
    split at hh
    · exact optC_law2 (F := fun (r : Bool) κ => κ (.bool r) []) (fun b κ r hb => ⟨_, _, hb, fun _ => rfl⟩) hh
    · cases hh
  · intro _ args h κ r hh
    simp only [L.FnExactNamedNet_s] at hh
    split at hh
    · exact ⟨rfl, fun _ => rfl⟩
    · cases hh


end Go.Proofs.Ytpnbeljphimifaa
