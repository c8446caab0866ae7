/- Twins of the translated functions, with their proofs. Conditions: none. -/
import Derived.Test.YtjflfhcdphkejaaT1
set_option linter.unusedVariables false
set_option linter.unusedSimpArgs false
namespace Go.Proofs.Ytjflfhcdphkejaa
open D Go.RowKit
-- loop.example/guardsonnets/laws.FnLeastWatchOk
noncomputable def L.FnLeastWatchOk_T : List (Nat × D.Spec) := [(23, S.DrawLeastWatchOk_s), (24, I.LeastWatchOk_s), (25, S.LeastWatchOk_s), (21, L.alive_s), (18, I.WatchOk_s), (26, I.LoneOf_s)]
def L.FnLeastWatchOk_ann : Nat → List Nat × List Nat
  | 11 => ([3, 4, 6, 7], [2, 3, 4, 6])
  | _ => ([], [])
noncomputable def L.FnLeastWatchOk_F (args : List V) (h : List E) (κ : V → List E → R) : R := funC TD (tableK L.FnLeastWatchOk_T) L.FnLeastWatchOk_ann (drawOk (tableP L.FnLeastWatchOk_T)) FUEL Try.f4 args h κ
noncomputable def L.FnLeastWatchOk_L11 (n : Nat) (σ : St) (k : X → St → R) : R := iterC 0 (fun σ k => denC TD (tableK L.FnLeastWatchOk_T) L.FnLeastWatchOk_ann (drawOk (tableP L.FnLeastWatchOk_T)) 0 FUEL ((findLoop 11 (Try.f4.body.getD .skip)).getD .skip) σ k) [3, 4, 6, 7] [2, 3, 4, 6] n σ k
noncomputable def L.FnLeastWatchOk_k11 (κ : V → List E → R) : X → St → R := (afterC TD (tableK L.FnLeastWatchOk_T) L.FnLeastWatchOk_ann (drawOk (tableP L.FnLeastWatchOk_T)) 0 FUEL 11 (Try.f4.body.getD .skip) (finC 0 Try.f4 κ)).getD (fun _ _ => none)
noncomputable def L.FnLeastWatchOk_step11 {α : Type} (x4 : Int) (x6 : Int) (x7 : Int) (r0 : List Int) (next_ : Int × (List Int) → α) (out0_ : Bool × (List Int) → α) (out1_ : List Int → α) (fail_ : α) : α :=
  (bif decide (x7 < x4) then (bif bits BinOp.andNot IntKind.i64 x7 x4 == 0 then (optC (I.WatchOk_t r0 x7) (fun c_5 => (bif c_5 then (out0_ (false, r0)) else (next_ (IntKind.i64.wrap (x7 + 1), r0)))) fail_) else (next_ (IntKind.i64.wrap (x7 + 1), r0))) else (out1_ r0))
theorem L.FnLeastWatchOk_step11_nat {α γ : Type} (g : α → γ) (x4 : Int) (x6 : Int) (x7 : Int) (r0 : List Int) (next_ : Int × (List Int) → α) (out0_ : Bool × (List Int) → α) (out1_ : List Int → α) (fail_ : α) : g (L.FnLeastWatchOk_step11 x4 x6 x7 r0 next_ out0_ out1_ fail_) = L.FnLeastWatchOk_step11 x4 x6 x7 r0 (fun s => g (next_ s)) (fun d => g (out0_ d)) (fun d => g (out1_ d)) (g fail_) := by
  unfold L.FnLeastWatchOk_step11; simp only [apply_cnd g, apply_optC g, apply_sumC g]
noncomputable def L.FnLeastWatchOk_run11 (x4 : Int) (x6 : Int) : Nat → Int × (List Int) → Option ((Bool × (List Int)) ⊕ (List Int))
  | 0, _ => none
  | n + 1, s_ => L.FnLeastWatchOk_step11 x4 x6 s_.1 s_.2 (L.FnLeastWatchOk_run11 x4 x6 n) (fun d => some ((Sum.inl d))) (fun d => some ((Sum.inr d))) none
theorem L.FnLeastWatchOk_L11_run (x4 : Int) (x6 : Int) (n : Nat) (s_ : Int × (List Int)) (k : X → St → R) : L.FnLeastWatchOk_L11 n { n := 55, t := [(3, (.own 0)), (4, (.int .i64 x4)), (6, (.int .i64 x6)), (7, (.int .i64 s_.1))], h := [.row (.ints .i64 s_.2)] } k = optC (L.FnLeastWatchOk_run11 x4 x6 n s_) (fun (r : (Bool × (List Int)) ⊕ (List Int)) => (sumC r (fun (r : Bool × (List Int)) => k (.ret) { n := 55, t := [(2, (.bool r.1)), (3, (.own 0)), (4, (.int .i64 x4)), (6, (.int .i64 x6))], h := [.row (.ints .i64 r.2)] }) (fun (r : List Int) => k (.exit 0) { n := 55, t := [(2, .junk), (3, (.own 0)), (4, (.int .i64 x4)), (6, (.int .i64 x6))], h := [.row (.ints .i64 r)] }))) none := by
  induction n generalizing s_ with
  | zero => rfl
  | succ n ih =>
    have hu : L.FnLeastWatchOk_L11 (n + 1) { n := 55, t := [(3, (.own 0)), (4, (.int .i64 x4)), (6, (.int .i64 x6)), (7, (.int .i64 s_.1))], h := [.row (.ints .i64 s_.2)] } k = L.FnLeastWatchOk_step11 x4 x6 s_.1 s_.2 (fun s_ => L.FnLeastWatchOk_L11 n { n := 55, t := [(3, (.own 0)), (4, (.int .i64 x4)), (6, (.int .i64 x6)), (7, (.int .i64 s_.1))], h := [.row (.ints .i64 s_.2)] } k) (fun d => k (.ret) { n := 55, t := [(2, (.bool d.1)), (3, (.own 0)), (4, (.int .i64 x4)), (6, (.int .i64 x6))], h := [.row (.ints .i64 d.2)] }) (fun d => k (.exit 0) { n := 55, t := [(2, .junk), (3, (.own 0)), (4, (.int .i64 x4)), (6, (.int .i64 x6))], h := [.row (.ints .i64 d)] }) none := by
      kernel_rfl
    have hs : (fun s_ : Int × (List Int) => L.FnLeastWatchOk_L11 n { n := 55, t := [(3, (.own 0)), (4, (.int .i64 x4)), (6, (.int .i64 x6)), (7, (.int .i64 s_.1))], h := [.row (.ints .i64 s_.2)] } k) = fun s_ => optC (L.FnLeastWatchOk_run11 x4 x6 n s_) (fun (r : (Bool × (List Int)) ⊕ (List Int)) => (sumC r (fun (r : Bool × (List Int)) => k (.ret) { n := 55, t := [(2, (.bool r.1)), (3, (.own 0)), (4, (.int .i64 x4)), (6, (.int .i64 x6))], h := [.row (.ints .i64 r.2)] }) (fun (r : List Int) => k (.exit 0) { n := 55, t := [(2, .junk), (3, (.own 0)), (4, (.int .i64 x4)), (6, (.int .i64 x6))], h := [.row (.ints .i64 r)] }))) none := funext ih
    rw [hu, hs]
    exact (L.FnLeastWatchOk_step11_nat (fun o => optC o (fun (r : (Bool × (List Int)) ⊕ (List Int)) => (sumC r (fun (r : Bool × (List Int)) => k (.ret) { n := 55, t := [(2, (.bool r.1)), (3, (.own 0)), (4, (.int .i64 x4)), (6, (.int .i64 x6))], h := [.row (.ints .i64 r.2)] }) (fun (r : List Int) => k (.exit 0) { n := 55, t := [(2, .junk), (3, (.own 0)), (4, (.int .i64 x4)), (6, (.int .i64 x6))], h := [.row (.ints .i64 r)] }))) none) x4 x6 s_.1 s_.2 (L.FnLeastWatchOk_run11 x4 x6 n) (fun d => some ((Sum.inl d))) (fun d => some ((Sum.inr d))) none).symm
noncomputable def L.FnLeastWatchOk_tree {α : Type} (code : List Int) (leaf0_ : Bool → α) (fail_ : α) : α :=
  (bif decide ((↑code.length : Int) > 1048576) then (leaf0_ true) else (optC (S.DrawLeastWatchOk_t code) (fun c_1 => (optC (I.LeastWatchOk_t c_1.snd c_1.fst) (fun c_2 => (optC (S.LeastWatchOk_t c_1.snd c_1.fst) (fun c_3 => (bif !c_2 == c_3 then (leaf0_ false) else (bif !c_2 then (optC (L.alive_t) (fun c_4 => (leaf0_ c_4)) fail_) else (optC (L.FnLeastWatchOk_run11 c_1.fst (IntKind.i64.wrap (IntKind.i64.wrap (1 * 2 ^ min (↑c_1.snd.length : Int).toNat IntKind.i64.bits) - 1)) FUEL (0, c_1.snd)) (fun qy_6 => (sumC qy_6 (fun (qy_6 : Bool × (List Int)) => (leaf0_ qy_6.1)) (fun (qy_6 : List Int) => (optC (I.LoneOf_t qy_6) (fun c_7 => (bif !c_7 == 0 then (leaf0_ true) else (optC (I.WatchOk_t qy_6 (IntKind.i64.wrap (IntKind.i64.wrap (IntKind.i64.wrap (1 * 2 ^ min (↑c_1.snd.length : Int).toNat IntKind.i64.bits) - 1) - c_1.fst))) (fun c_8 => (leaf0_ c_8)) fail_))) fail_)))) fail_)))) fail_)) fail_)) fail_))
theorem L.FnLeastWatchOk_tree_nat {α γ : Type} (g : α → γ) (code : List Int) (leaf0_ : Bool → α) (fail_ : α) : g (L.FnLeastWatchOk_tree code leaf0_ fail_) = L.FnLeastWatchOk_tree code (fun d => g (leaf0_ d)) (g fail_) := by
  unfold L.FnLeastWatchOk_tree; simp only [apply_cnd g, apply_optC g, apply_sumC g]
noncomputable def L.FnLeastWatchOk_t (code : List Int) : Option (Bool) := L.FnLeastWatchOk_tree code (fun d => some d) none
theorem L.FnLeastWatchOk_den (code : List Int) (κ : V → List E → R) : L.FnLeastWatchOk_F [.ro true (.ints .u8 code)] [] κ = optC (L.FnLeastWatchOk_t code) (fun (r : Bool) => κ (.bool r) []) none := by
  have hu : L.FnLeastWatchOk_F [.ro true (.ints .u8 code)] [] κ = L.FnLeastWatchOk_tree code (fun d => κ (.bool d) []) none := by
    refine Eq.trans (show L.FnLeastWatchOk_F [.ro true (.ints .u8 code)] [] κ = (bif decide ((↑code.length : Int) > 1048576) then (κ (.bool true) []) else (optC (S.DrawLeastWatchOk_t code) (fun c_1 => (optC (I.LeastWatchOk_t c_1.snd c_1.fst) (fun c_2 => (optC (S.LeastWatchOk_t c_1.snd c_1.fst) (fun c_3 => (bif !c_2 == c_3 then (κ (.bool false) []) else (bif !c_2 then (optC (L.alive_t) (fun c_4 => (κ (.bool c_4) [])) none) else (L.FnLeastWatchOk_L11 FUEL { n := 55, t := [(3, (.own 0)), (4, (.int .i64 c_1.fst)), (6, (.int .i64 (IntKind.i64.wrap (IntKind.i64.wrap (1 * 2 ^ min (↑c_1.snd.length : Int).toNat IntKind.i64.bits) - 1)))), (7, (.int .i64 0))], h := [.row (.ints .i64 c_1.snd)] } (L.FnLeastWatchOk_k11 κ))))) none)) none)) none)) by kernel_rfl) ?_
    refine cnd_congr ?_ ?_
    · kernel_rfl
    · refine optC_congr (fun c_1 => ?_)
      refine optC_congr (fun c_2 => ?_)
      refine optC_congr (fun c_3 => ?_)
      refine cnd_congr ?_ ?_
      · kernel_rfl
      · refine cnd_congr ?_ ?_
        · kernel_rfl
        · refine (L.FnLeastWatchOk_L11_run c_1.fst (IntKind.i64.wrap (IntKind.i64.wrap (1 * 2 ^ min (↑c_1.snd.length : Int).toNat IntKind.i64.bits) - 1)) FUEL (0, c_1.snd) (L.FnLeastWatchOk_k11 κ)).trans (optC_congr (fun qy_6 => ?_))
          rcases qy_6 with qy_6 | qy_6
          · kernel_rfl
          · kernel_rfl
  rw [hu]
  exact (L.FnLeastWatchOk_tree_nat (fun o => optC o (fun (r : Bool) => κ (.bool r) []) none) code (fun d => some d) none).symm
noncomputable def L.FnLeastWatchOk_s : D.Spec where
  keep := true
  pure := true
  ds := [.int .u8]
  sp := fun args h κ => match args, h with
    | [.ro true (.ints .u8 code)], [] => optC (L.FnLeastWatchOk_t code) (fun (r : Bool) => κ (.bool r) []) none
    | _, _ => none
theorem L.FnLeastWatchOk_ok : SpecOk Try.prog 4 L.FnLeastWatchOk_s := by
  refine SpecOk.of TDok mixed (T := L.FnLeastWatchOk_T) ?_ (ann := L.FnLeastWatchOk_ann) Try.func4 rfl (by decide +kernel) ?_ ?_ ?_
  · intro p hp
    simp only [L.FnLeastWatchOk_T, List.mem_cons, List.not_mem_nil, or_false] at hp
    rcases hp with rfl | rfl | rfl | rfl | rfl | rfl
    · exact S.DrawLeastWatchOk_ok
    · exact I.LeastWatchOk_ok
    · exact S.LeastWatchOk_ok
    · exact L.alive_ok
    · exact I.WatchOk_ok
    · exact I.LoneOf_ok
  · intro args h κ r hh
    simp only [L.FnLeastWatchOk_s] at hh
    split at hh
    · exact (L.FnLeastWatchOk_den _ κ).trans hh
    · cases hh
  · intro args h κ r hh
    simp only [L.FnLeastWatchOk_s] at hh ⊢
    split at hh
    · exact optC_law2 (F := fun (r : Bool) κ => κ (.bool r) []) (fun b κ r hb => ⟨_, _, hb, fun _ => rfl⟩) hh
    · cases hh
  · intro _ args h κ r hh
    simp only [L.FnLeastWatchOk_s] at hh
    split at hh
    · exact ⟨rfl, fun _ => rfl⟩
    · cases hh

-- loop.example/guardsonnets/spec.DrawFewestWatch
noncomputable def S.DrawFewestWatch_T : List (Nat × D.Spec) := [(52, S.l20Open_s), (62, S.l20Net_s)]
def S.DrawFewestWatch_ann : Nat → List Nat × List Nat
  | _ => ([], [])
noncomputable def S.DrawFewestWatch_F (args : List V) (h : List E) (κ : V → List E → R) : R := funC TD (tableK S.DrawFewestWatch_T) S.DrawFewestWatch_ann (drawOk (tableP S.DrawFewestWatch_T)) FUEL Try.f27 args h κ
noncomputable def S.DrawFewestWatch_tree {α : Type} (code : List Int) (leaf0_ : List Int → α) (fail_ : α) : α :=
  (optC (S.l20Open_t code) (fun c_1 => (optC (S.l20Net_t c_1.fst c_1.snd 9) (fun c_2 => (leaf0_ c_2.snd.snd)) fail_)) fail_)
theorem S.DrawFewestWatch_tree_nat {α γ : Type} (g : α → γ) (code : List Int) (leaf0_ : List Int → α) (fail_ : α) : g (S.DrawFewestWatch_tree code leaf0_ fail_) = S.DrawFewestWatch_tree code (fun d => g (leaf0_ d)) (g fail_) := by
  unfold S.DrawFewestWatch_tree; simp only [apply_cnd g, apply_optC g, apply_sumC g]
noncomputable def S.DrawFewestWatch_t (code : List Int) : Option (List Int) := S.DrawFewestWatch_tree code (fun d => some d) none
theorem S.DrawFewestWatch_den (code : List Int) (κ : V → List E → R) : S.DrawFewestWatch_F [.ro true (.ints .u8 code)] [] κ = optC (S.DrawFewestWatch_t code) (fun (r : List Int) => κ (.own 0) [.row (.ints .i64 r)]) none := by
  have hu : S.DrawFewestWatch_F [.ro true (.ints .u8 code)] [] κ = S.DrawFewestWatch_tree code (fun d => κ (.own 0) [.row (.ints .i64 d)]) none := by
    kernel_rfl
  rw [hu]
  exact (S.DrawFewestWatch_tree_nat (fun o => optC o (fun (r : List Int) => κ (.own 0) [.row (.ints .i64 r)]) none) code (fun d => some d) none).symm
noncomputable def S.DrawFewestWatch_s : D.Spec where
  keep := true
  pure := false
  ds := [.int .u8]
  sp := fun args h κ => match args, h with
    | [.ro true (.ints .u8 code)], [] => optC (S.DrawFewestWatch_t code) (fun (r : List Int) => κ (.own 0) [.row (.ints .i64 r)]) none
    | _, _ => none
theorem S.DrawFewestWatch_ok : SpecOk Try.prog 27 S.DrawFewestWatch_s := by
  refine SpecOk.of TDok mixed (T := S.DrawFewestWatch_T) ?_ (ann := S.DrawFewestWatch_ann) Try.func27 rfl (by decide +kernel) ?_ ?_ ?_
  · intro p hp
    simp only [S.DrawFewestWatch_T, List.mem_cons, List.not_mem_nil, or_false] at hp
    rcases hp with rfl | rfl
    · exact S.l20Open_ok
    · exact S.l20Net_ok
  · intro args h κ r hh
    simp only [S.DrawFewestWatch_s] at hh
    split at hh
    · exact (S.DrawFewestWatch_den _ κ).trans hh
    · cases hh
  · intro args h κ r hh
    simp only [S.DrawFewestWatch_s] at hh ⊢
    split at hh
    · exact optC_law2 (F := fun (r : List Int) κ => κ (.own 0) [.row (.ints .i64 r)]) (fun b κ r hb => ⟨_, _, hb, fun _ => rfl⟩) hh
    · cases hh
  · intro hh; cases hh

-- loop.example/guardsonnets/impl.sizeOf
noncomputable def I.sizeOf_T : List (Nat × D.Spec) := []
def I.sizeOf_ann : Nat → List Nat × List Nat
  | 3 => ([0, 3, 4], [3])
  | _ => ([], [])
noncomputable def I.sizeOf_F (args : List V) (h : List E) (κ : V → List E → R) : R := funC TD (tableK I.sizeOf_T) I.sizeOf_ann (drawOk (tableP I.sizeOf_T)) FUEL Try.f63 args h κ
noncomputable def I.sizeOf_L3 (n : Nat) (σ : St) (k : X → St → R) : R := iterC 0 (fun σ k => denC TD (tableK I.sizeOf_T) I.sizeOf_ann (drawOk (tableP I.sizeOf_T)) 0 FUEL ((findLoop 3 (Try.f63.body.getD .skip)).getD .skip) σ k) [0, 3, 4] [3] n σ k
noncomputable def I.sizeOf_k3 (κ : V → List E → R) : X → St → R := (afterC TD (tableK I.sizeOf_T) I.sizeOf_ann (drawOk (tableP I.sizeOf_T)) 0 FUEL 3 (Try.f63.body.getD .skip) (finC 0 Try.f63 κ)).getD (fun _ _ => none)
noncomputable def I.sizeOf_step3 {α : Type} (x0 : Int) (x3 : Int) (x4 : Int) (next_ : Int × Int → α) (out0_ : Int → α) (fail_ : α) : α :=
  (bif decide (x4 < 6) then (bif decide (x4 < 0) then fail_ else (next_ (IntKind.i64.wrap (x3 + bits BinOp.and IntKind.i64 (x0.fdiv (2 ^ min x4.toNat IntKind.i64.bits)) 1), IntKind.i64.wrap (x4 + 1)))) else (out0_ x3))
theorem I.sizeOf_step3_nat {α γ : Type} (g : α → γ) (x0 : Int) (x3 : Int) (x4 : Int) (next_ : Int × Int → α) (out0_ : Int → α) (fail_ : α) : g (I.sizeOf_step3 x0 x3 x4 next_ out0_ fail_) = I.sizeOf_step3 x0 x3 x4 (fun s => g (next_ s)) (fun d => g (out0_ d)) (g fail_) := by
  unfold I.sizeOf_step3; simp only [apply_cnd g, apply_optC g, apply_sumC g]
noncomputable def I.sizeOf_run3 (x0 : Int) : Nat → Int × Int → Option (Int)
  | 0, _ => none
  | n + 1, s_ => I.sizeOf_step3 x0 s_.1 s_.2 (I.sizeOf_run3 x0 n) (fun d => some d) none
theorem I.sizeOf_L3_run (x0 : Int) (n : Nat) (s_ : Int × Int) (k : X → St → R) : I.sizeOf_L3 n { n := 16, t := [(0, (.int .i64 x0)), (3, (.int .i64 s_.1)), (4, (.int .i64 s_.2))], h := [] } k = optC (I.sizeOf_run3 x0 n s_) (fun (r : Int) => k (.exit 0) { n := 16, t := [(3, (.int .i64 r))], h := [] }) none := by
  induction n generalizing s_ with
  | zero => rfl
  | succ n ih =>
    have hu : I.sizeOf_L3 (n + 1) { n := 16, t := [(0, (.int .i64 x0)), (3, (.int .i64 s_.1)), (4, (.int .i64 s_.2))], h := [] } k = I.sizeOf_step3 x0 s_.1 s_.2 (fun s_ => I.sizeOf_L3 n { n := 16, t := [(0, (.int .i64 x0)), (3, (.int .i64 s_.1)), (4, (.int .i64 s_.2))], h := [] } k) (fun d => k (.exit 0) { n := 16, t := [(3, (.int .i64 d))], h := [] }) none := by
      kernel_rfl
    have hs : (fun s_ : Int × Int => I.sizeOf_L3 n { n := 16, t := [(0, (.int .i64 x0)), (3, (.int .i64 s_.1)), (4, (.int .i64 s_.2))], h := [] } k) = fun s_ => optC (I.sizeOf_run3 x0 n s_) (fun (r : Int) => k (.exit 0) { n := 16, t := [(3, (.int .i64 r))], h := [] }) none := funext ih
    rw [hu, hs]
    exact (I.sizeOf_step3_nat (fun o => optC o (fun (r : Int) => k (.exit 0) { n := 16, t := [(3, (.int .i64 r))], h := [] }) none) x0 s_.1 s_.2 (I.sizeOf_run3 x0 n) (fun d => some d) none).symm
noncomputable def I.sizeOf_tree {α : Type} (set_ : Int) (leaf0_ : Int → α) (fail_ : α) : α :=
  (optC (I.sizeOf_run3 set_ FUEL (0, 0)) (fun qy_1 => (leaf0_ qy_1)) fail_)
theorem I.sizeOf_tree_nat {α γ : Type} (g : α → γ) (set_ : Int) (leaf0_ : Int → α) (fail_ : α) : g (I.sizeOf_tree set_ leaf0_ fail_) = I.sizeOf_tree set_ (fun d => g (leaf0_ d)) (g fail_) := by
  unfold I.sizeOf_tree; simp only [apply_cnd g, apply_optC g, apply_sumC g]
noncomputable def I.sizeOf_t (set_ : Int) : Option (Int) := I.sizeOf_tree set_ (fun d => some d) none
theorem I.sizeOf_den (set_ : Int) (κ : V → List E → R) : I.sizeOf_F [.int .i64 set_] [] κ = optC (I.sizeOf_t set_) (fun (r : Int) => κ (.int .i64 r) []) none := by
  have hu : I.sizeOf_F [.int .i64 set_] [] κ = I.sizeOf_tree set_ (fun d => κ (.int .i64 d) []) none := by
    refine Eq.trans (show I.sizeOf_F [.int .i64 set_] [] κ = (I.sizeOf_L3 FUEL { n := 16, t := [(0, (.int .i64 set_)), (3, (.int .i64 0)), (4, (.int .i64 0))], h := [] } (I.sizeOf_k3 κ)) by kernel_rfl) ?_
    refine (I.sizeOf_L3_run set_ FUEL (0, 0) (I.sizeOf_k3 κ)).trans (optC_congr (fun qy_1 => ?_))
    kernel_rfl
  rw [hu]
  exact (I.sizeOf_tree_nat (fun o => optC o (fun (r : Int) => κ (.int .i64 r) []) none) set_ (fun d => some d) none).symm
noncomputable def I.sizeOf_s : D.Spec where
  keep := false
  pure := true
  ds := [.invalid]
  sp := fun args h κ => match args, h with
    | [.int .i64 set_], [] => optC (I.sizeOf_t set_) (fun (r : Int) => κ (.int .i64 r) []) none
    | _, _ => none
theorem I.sizeOf_ok : SpecOk Try.prog 63 I.sizeOf_s := by
  refine SpecOk.of TDok mixed (T := I.sizeOf_T) ?_ (ann := I.sizeOf_ann) Try.func63 rfl (by decide +kernel) ?_ ?_ ?_
  · intro p hp; cases hp
  · intro args h κ r hh
    simp only [I.sizeOf_s] at hh
    split at hh
    · exact (I.sizeOf_den _ κ).trans hh
    · cases hh
  · intro args h κ r hh
    simp only [I.sizeOf_s] at hh ⊢
    split at hh
    · exact optC_law2 (F := fun (r : Int) κ => κ (.int .i64 r) []) (fun b κ r hb => ⟨_, _, hb, fun _ => rfl⟩) hh
    · cases hh
  · intro _ args h κ r hh
    simp only [I.sizeOf_s] at hh
    split at hh
    · exact ⟨rfl, fun _ => rfl⟩
    · cases hh

-- loop.example/guardsonnets/impl.smallWatchIn
noncomputable def I.smallWatchIn_T : List (Nat × D.Spec) := [(69, I.allOf_s), (63, I.sizeOf_s), (54, I.watchIn_s)]
def I.smallWatchIn_ann : Nat → List Nat × List Nat
  | 3 => ([0, 3, 4], [3])
  | _ => ([], [])
noncomputable def I.smallWatchIn_F (args : List V) (h : List E) (κ : V → List E → R) : R := funC TD (tableK I.smallWatchIn_T) I.smallWatchIn_ann (drawOk (tableP I.smallWatchIn_T)) FUEL Try.f64 args h κ
noncomputable def I.smallWatchIn_L3 (n : Nat) (σ : St) (k : X → St → R) : R := iterC 0 (fun σ k => denC TD (tableK I.smallWatchIn_T) I.smallWatchIn_ann (drawOk (tableP I.smallWatchIn_T)) 0 FUEL ((findLoop 3 (Try.f64.body.getD .skip)).getD .skip) σ k) [0, 3, 4] [3] n σ k
noncomputable def I.smallWatchIn_k3 (κ : V → List E → R) : X → St → R := (afterC TD (tableK I.smallWatchIn_T) I.smallWatchIn_ann (drawOk (tableP I.smallWatchIn_T)) 0 FUEL 3 (Try.f64.body.getD .skip) (finC 0 Try.f64 κ)).getD (fun _ _ => none)
noncomputable def I.smallWatchIn_step3 {α : Type} (x0 : List Int) (x3 : Int) (x4 : Int) (next_ : Int × Int → α) (out0_ : Int → α) (fail_ : α) : α :=
  (optC (I.allOf_t x0) (fun c_2 => (bif decide (x4 < c_2) then (optC (I.sizeOf_t x4) (fun c_3 => (optC (I.sizeOf_t x3) (fun c_4 => (bif decide (c_3 < c_4) then (optC (I.watchIn_t x0 x4) (fun c_5 => (bif c_5 then (next_ (x4, IntKind.i64.wrap (x4 + 1))) else (next_ (x3, IntKind.i64.wrap (x4 + 1))))) fail_) else (next_ (x3, IntKind.i64.wrap (x4 + 1))))) fail_)) fail_) else (out0_ x3))) fail_)
theorem I.smallWatchIn_step3_nat {α γ : Type} (g : α → γ) (x0 : List Int) (x3 : Int) (x4 : Int) (next_ : Int × Int → α) (out0_ : Int → α) (fail_ : α) : g (I.smallWatchIn_step3 x0 x3 x4 next_ out0_ fail_) = I.smallWatchIn_step3 x0 x3 x4 (fun s => g (next_ s)) (fun d => g (out0_ d)) (g fail_) := by
  unfold I.smallWatchIn_step3; simp only [apply_cnd g, apply_optC g, apply_sumC g]
noncomputable def I.smallWatchIn_run3 (x0 : List Int) : Nat → Int × Int → Option (Int)
  | 0, _ => none
  | n + 1, s_ => I.smallWatchIn_step3 x0 s_.1 s_.2 (I.smallWatchIn_run3 x0 n) (fun d => some d) none
theorem I.smallWatchIn_L3_run (x0 : List Int) (n : Nat) (s_ : Int × Int) (k : X → St → R) : I.smallWatchIn_L3 n { n := 25, t := [(0, (.ro false (.ints .i64 x0))), (3, (.int .i64 s_.1)), (4, (.int .i64 s_.2))], h := [] } k = optC (I.smallWatchIn_run3 x0 n s_) (fun (r : Int) => k (.exit 0) { n := 25, t := [(3, (.int .i64 r))], h := [] }) none := by
  induction n generalizing s_ with
  | zero => rfl
  | succ n ih =>
    have hu : I.smallWatchIn_L3 (n + 1) { n := 25, t := [(0, (.ro false (.ints .i64 x0))), (3, (.int .i64 s_.1)), (4, (.int .i64 s_.2))], h := [] } k = I.smallWatchIn_step3 x0 s_.1 s_.2 (fun s_ => I.smallWatchIn_L3 n { n := 25, t := [(0, (.ro false (.ints .i64 x0))), (3, (.int .i64 s_.1)), (4, (.int .i64 s_.2))], h := [] } k) (fun d => k (.exit 0) { n := 25, t := [(3, (.int .i64 d))], h := [] }) none := by
      kernel_rfl
    have hs : (fun s_ : Int × Int => I.smallWatchIn_L3 n { n := 25, t := [(0, (.ro false (.ints .i64 x0))), (3, (.int .i64 s_.1)), (4, (.int .i64 s_.2))], h := [] } k) = fun s_ => optC (I.smallWatchIn_run3 x0 n s_) (fun (r : Int) => k (.exit 0) { n := 25, t := [(3, (.int .i64 r))], h := [] }) none := funext ih
    rw [hu, hs]
    exact (I.smallWatchIn_step3_nat (fun o => optC o (fun (r : Int) => k (.exit 0) { n := 25, t := [(3, (.int .i64 r))], h := [] }) none) x0 s_.1 s_.2 (I.smallWatchIn_run3 x0 n) (fun d => some d) none).symm
noncomputable def I.smallWatchIn_tree {α : Type} (net : List Int) (leaf0_ : Int → α) (fail_ : α) : α :=
  (optC (I.allOf_t net) (fun c_1 => (optC (I.smallWatchIn_run3 net FUEL (c_1, 0)) (fun qy_6 => (leaf0_ qy_6)) fail_)) fail_)
theorem I.smallWatchIn_tree_nat {α γ : Type} (g : α → γ) (net : List Int) (leaf0_ : Int → α) (fail_ : α) : g (I.smallWatchIn_tree net leaf0_ fail_) = I.smallWatchIn_tree net (fun d => g (leaf0_ d)) (g fail_) := by
  unfold I.smallWatchIn_tree; simp only [apply_cnd g, apply_optC g, apply_sumC g]
noncomputable def I.smallWatchIn_t (net : List Int) : Option (Int) := I.smallWatchIn_tree net (fun d => some d) none
theorem I.smallWatchIn_den (net : List Int) (κ : V → List E → R) : I.smallWatchIn_F [.ro false (.ints .i64 net)] [] κ = optC (I.smallWatchIn_t net) (fun (r : Int) => κ (.int .i64 r) []) none := by
  have hu : I.smallWatchIn_F [.ro false (.ints .i64 net)] [] κ = I.smallWatchIn_tree net (fun d => κ (.int .i64 d) []) none := by
    refine Eq.trans (show I.smallWatchIn_F [.ro false (.ints .i64 net)] [] κ = (optC (I.allOf_t net) (fun c_1 => (I.smallWatchIn_L3 FUEL { n := 25, t := [(0, (.ro false (.ints .i64 net))), (3, (.int .i64 c_1)), (4, (.int .i64 0))], h := [] } (I.smallWatchIn_k3 κ))) none) by kernel_rfl) ?_
    refine optC_congr (fun c_1 => ?_)
    refine (I.smallWatchIn_L3_run net FUEL (c_1, 0) (I.smallWatchIn_k3 κ)).trans (optC_congr (fun qy_6 => ?_))
    kernel_rfl
  rw [hu]
  exact (I.smallWatchIn_tree_nat (fun o => optC o (fun (r : Int) => κ (.int .i64 r) []) none) net (fun d => some d) none).symm
noncomputable def I.smallWatchIn_s : D.Spec where
  keep := false
  pure := true
  ds := [.int .i64]
  sp := fun args h κ => match args, h with
    | [.ro false (.ints .i64 net)], [] => optC (I.smallWatchIn_t net) (fun (r : Int) => κ (.int .i64 r) []) none
    | _, _ => none
theorem I.smallWatchIn_ok : SpecOk Try.prog 64 I.smallWatchIn_s := by
  refine SpecOk.of TDok mixed (T := I.smallWatchIn_T) ?_ (ann := I.smallWatchIn_ann) Try.func64 rfl (by decide +kernel) ?_ ?_ ?_
  · intro p hp
    simp only [I.smallWatchIn_T, List.mem_cons, List.not_mem_nil, or_false] at hp
    rcases hp with rfl | rfl | rfl
    · exact I.allOf_ok
    · exact I.sizeOf_ok
    · exact I.watchIn_ok
  · intro args h κ r hh
    simp only [I.smallWatchIn_s] at hh
    split at hh
    · exact (I.smallWatchIn_den _ κ).trans hh
    · cases hh
  · intro args h κ r hh
    simp only [I.smallWatchIn_s] at hh ⊢
    split at hh
    · exact optC_law2 (F := fun (r : Int) κ => κ (.int .i64 r) []) (fun b κ r hb => ⟨_, _, hb, fun _ => rfl⟩) hh
    · cases hh
  · intro _ args h κ r hh
    simp only [I.smallWatchIn_s] at hh
    split at hh
    · exact ⟨rfl, fun _ => rfl⟩
    · cases hh

-- loop.example/guardsonnets/impl.FewestWatch
noncomputable def I.FewestWatch_T : List (Nat × D.Spec) := [(30, I.NetOk_s), (64, I.smallWatchIn_s), (63, I.sizeOf_s)]
def I.FewestWatch_ann : Nat → List Nat × List Nat
  | _ => ([], [])
noncomputable def I.FewestWatch_F (args : List V) (h : List E) (κ : V → List E → R) : R := funC TD (tableK I.FewestWatch_T) I.FewestWatch_ann (drawOk (tableP I.FewestWatch_T)) FUEL Try.f28 args h κ
noncomputable def I.FewestWatch_tree {α : Type} (net : List Int) (leaf0_ : Int → α) (fail_ : α) : α :=
  (optC (I.NetOk_t net) (fun c_1 => (bif !c_1 then (leaf0_ (-1)) else (optC (I.smallWatchIn_t net) (fun c_2 => (optC (I.sizeOf_t c_2) (fun c_3 => (leaf0_ c_3)) fail_)) fail_))) fail_)
theorem I.FewestWatch_tree_nat {α γ : Type} (g : α → γ) (net : List Int) (leaf0_ : Int → α) (fail_ : α) : g (I.FewestWatch_tree net leaf0_ fail_) = I.FewestWatch_tree net (fun d => g (leaf0_ d)) (g fail_) := by
  unfold I.FewestWatch_tree; simp only [apply_cnd g, apply_optC g, apply_sumC g]
noncomputable def I.FewestWatch_t (net : List Int) : Option (Int) := I.FewestWatch_tree net (fun d => some d) none
theorem I.FewestWatch_den (net : List Int) (κ : V → List E → R) : I.FewestWatch_F [.ro false (.ints .i64 net)] [] κ = optC (I.FewestWatch_t net) (fun (r : Int) => κ (.int .i64 r) []) none := by
  have hu : I.FewestWatch_F [.ro false (.ints .i64 net)] [] κ = I.FewestWatch_tree net (fun d => κ (.int .i64 d) []) none := by
    kernel_rfl
  rw [hu]
  exact (I.FewestWatch_tree_nat (fun o => optC o (fun (r : Int) => κ (.int .i64 r) []) none) net (fun d => some d) none).symm
noncomputable def I.FewestWatch_s : D.Spec where
  keep := false
  pure := true
  ds := [.int .i64]
  sp := fun args h κ => match args, h with
    | [.ro false (.ints .i64 net)], [] => optC (I.FewestWatch_t net) (fun (r : Int) => κ (.int .i64 r) []) none
    | _, _ => none
theorem I.FewestWatch_ok : SpecOk Try.prog 28 I.FewestWatch_s := by
  refine SpecOk.of TDok mixed (T := I.FewestWatch_T) ?_ (ann := I.FewestWatch_ann) Try.func28 rfl (by decide +kernel) ?_ ?_ ?_
  · intro p hp
    simp only [I.FewestWatch_T, List.mem_cons, List.not_mem_nil, or_false] at hp
    rcases hp with rfl | rfl | rfl
    · exact I.NetOk_ok
    · exact I.smallWatchIn_ok
    · exact I.sizeOf_ok
  · intro args h κ r hh
    simp only [I.FewestWatch_s] at hh
    split at hh
    · exact (I.FewestWatch_den _ κ).trans hh
    · cases hh
  · intro args h κ r hh
    simp only [I.FewestWatch_s] at hh ⊢
    split at hh
    · exact optC_law2 (F := fun (r : Int) κ => κ (.int .i64 r) []) (fun b κ r hb => ⟨_, _, hb, fun _ => rfl⟩) hh
    · cases hh
  · intro _ args h κ r hh
    simp only [I.FewestWatch_s] at hh
    split at hh
    · exact ⟨rfl, fun _ => rfl⟩
    · cases hh

-- loop.example/guardsonnets/spec.l1Size
noncomputable def S.l1Size_T : List (Nat × D.Spec) := []
def S.l1Size_ann : Nat → List Nat × List Nat
  | 2 => ([0, 3], [3])
  | _ => ([], [])
noncomputable def S.l1Size_F (args : List V) (h : List E) (κ : V → List E → R) : R := funC TD (tableK S.l1Size_T) S.l1Size_ann (drawOk (tableP S.l1Size_T)) FUEL Try.f65 args h κ
noncomputable def S.l1Size_L2 (n : Nat) (σ : St) (k : X → St → R) : R := iterC 0 (fun σ k => denC TD (tableK S.l1Size_T) S.l1Size_ann (drawOk (tableP S.l1Size_T)) 0 FUEL ((findLoop 2 (Try.f65.body.getD .skip)).getD .skip) σ k) [0, 3] [3] n σ k
noncomputable def S.l1Size_k2 (κ : V → List E → R) : X → St → R := (afterC TD (tableK S.l1Size_T) S.l1Size_ann (drawOk (tableP S.l1Size_T)) 0 FUEL 2 (Try.f65.body.getD .skip) (finC 0 Try.f65 κ)).getD (fun _ _ => none)
noncomputable def S.l1Size_step2 {α : Type} (x0 : Int) (x3 : Int) (next_ : Int × Int → α) (out0_ : Int → α) (fail_ : α) : α :=
  (bif decide (x0 > 0) then (next_ (IntKind.i64.wrap (x0.tdiv 2), IntKind.i64.wrap (x3 + x0.tmod 2))) else (out0_ x3))
theorem S.l1Size_step2_nat {α γ : Type} (g : α → γ) (x0 : Int) (x3 : Int) (next_ : Int × Int → α) (out0_ : Int → α) (fail_ : α) : g (S.l1Size_step2 x0 x3 next_ out0_ fail_) = S.l1Size_step2 x0 x3 (fun s => g (next_ s)) (fun d => g (out0_ d)) (g fail_) := by
  unfold S.l1Size_step2; simp only [apply_cnd g, apply_optC g, apply_sumC g]
noncomputable def S.l1Size_run2 : Nat → Int × Int → Option (Int)
  | 0, _ => none
  | n + 1, s_ => S.l1Size_step2 s_.1 s_.2 (S.l1Size_run2 n) (fun d => some d) none
theorem S.l1Size_L2_run (n : Nat) (s_ : Int × Int) (k : X → St → R) : S.l1Size_L2 n { n := 13, t := [(0, (.int .i64 s_.1)), (3, (.int .i64 s_.2))], h := [] } k = optC (S.l1Size_run2 n s_) (fun (r : Int) => k (.exit 0) { n := 13, t := [(3, (.int .i64 r))], h := [] }) none := by
  induction n generalizing s_ with
  | zero => rfl
  | succ n ih =>
    have hu : S.l1Size_L2 (n + 1) { n := 13, t := [(0, (.int .i64 s_.1)), (3, (.int .i64 s_.2))], h := [] } k = S.l1Size_step2 s_.1 s_.2 (fun s_ => S.l1Size_L2 n { n := 13, t := [(0, (.int .i64 s_.1)), (3, (.int .i64 s_.2))], h := [] } k) (fun d => k (.exit 0) { n := 13, t := [(3, (.int .i64 d))], h := [] }) none := by
      kernel_rfl
    have hs : (fun s_ : Int × Int => S.l1Size_L2 n { n := 13, t := [(0, (.int .i64 s_.1)), (3, (.int .i64 s_.2))], h := [] } k) = fun s_ => optC (S.l1Size_run2 n s_) (fun (r : Int) => k (.exit 0) { n := 13, t := [(3, (.int .i64 r))], h := [] }) none := funext ih
    rw [hu, hs]
    exact (S.l1Size_step2_nat (fun o => optC o (fun (r : Int) => k (.exit 0) { n := 13, t := [(3, (.int .i64 r))], h := [] }) none) s_.1 s_.2 (S.l1Size_run2 n) (fun d => some d) none).symm
noncomputable def S.l1Size_tree {α : Type} (set_ : Int) (leaf0_ : Int → α) (fail_ : α) : α :=
  (optC (S.l1Size_run2 FUEL (set_, 0)) (fun qy_1 => (leaf0_ qy_1)) fail_)
theorem S.l1Size_tree_nat {α γ : Type} (g : α → γ) (set_ : Int) (leaf0_ : Int → α) (fail_ : α) : g (S.l1Size_tree set_ leaf0_ fail_) = S.l1Size_tree set_ (fun d => g (leaf0_ d)) (g fail_) := by
  unfold S.l1Size_tree; simp only [apply_cnd g, apply_optC g, apply_sumC g]
noncomputable def S.l1Size_t (set_ : Int) : Option (Int) := S.l1Size_tree set_ (fun d => some d) none
theorem S.l1Size_den (set_ : Int) (κ : V → List E → R) : S.l1Size_F [.int .i64 set_] [] κ = optC (S.l1Size_t set_) (fun (r : Int) => κ (.int .i64 r) []) none := by
  have hu : S.l1Size_F [.int .i64 set_] [] κ = S.l1Size_tree set_ (fun d => κ (.int .i64 d) []) none := by
    refine Eq.trans (show S.l1Size_F [.int .i64 set_] [] κ = (S.l1Size_L2 FUEL { n := 13, t := [(0, (.int .i64 set_)), (3, (.int .i64 0))], h := [] } (S.l1Size_k2 κ)) by kernel_rfl) ?_
    refine (S.l1Size_L2_run FUEL (set_, 0) (S.l1Size_k2 κ)).trans (optC_congr (fun qy_1 => ?_))
    kernel_rfl
  rw [hu]
  exact (S.l1Size_tree_nat (fun o => optC o (fun (r : Int) => κ (.int .i64 r) []) none) set_ (fun d => some d) none).symm
noncomputable def S.l1Size_s : D.Spec where
  keep := false
  pure := true
  ds := [.invalid]
  sp := fun args h κ => match args, h with
    | [.int .i64 set_], [] => optC (S.l1Size_t set_) (fun (r : Int) => κ (.int .i64 r) []) none
    | _, _ => none
theorem S.l1Size_ok : SpecOk Try.prog 65 S.l1Size_s := by
  refine SpecOk.of TDok mixed (T := S.l1Size_T) ?_ (ann := S.l1Size_ann) Try.func65 rfl (by decide +kernel) ?_ ?_ ?_
  · intro p hp; cases hp
  · intro args h κ r hh
    simp only [S.l1Size_s] at hh
    split at hh
    · exact (S.l1Size_den _ κ).trans hh
    · cases hh
  · intro args h κ r hh
    simp only [S.l1Size_s] at hh ⊢
    split at hh
    · exact optC_law2 (F := fun (r : Int) κ => κ (.int .i64 r) []) (fun b κ r hb => ⟨_, _, hb, fun _ => rfl⟩) hh
    · cases hh
  · intro _ args h κ r hh
    simp only [S.l1Size_s] at hh
    split at hh
    · exact ⟨rfl, fun _ => rfl⟩
    · cases hh

-- loop.example/guardsonnets/spec.FewestWatch
noncomputable def S.FewestWatch_T : List (Nat × D.Spec) := [(20, S.NetOk_s), (56, S.l2Watch_s), (65, S.l1Size_s)]
def S.FewestWatch_ann : Nat → List Nat × List Nat
  | 5 => ([0, 3, 4], [3])
  | _ => ([], [])
noncomputable def S.FewestWatch_F (args : List V) (h : List E) (κ : V → List E → R) : R := funC TD (tableK S.FewestWatch_T) S.FewestWatch_ann (drawOk (tableP S.FewestWatch_T)) FUEL Try.f29 args h κ
noncomputable def S.FewestWatch_L5 (n : Nat) (σ : St) (k : X → St → R) : R := iterC 0 (fun σ k => denC TD (tableK S.FewestWatch_T) S.FewestWatch_ann (drawOk (tableP S.FewestWatch_T)) 0 FUEL ((findLoop 5 (Try.f29.body.getD .skip)).getD .skip) σ k) [0, 3, 4] [3] n σ k
noncomputable def S.FewestWatch_k5 (κ : V → List E → R) : X → St → R := (afterC TD (tableK S.FewestWatch_T) S.FewestWatch_ann (drawOk (tableP S.FewestWatch_T)) 0 FUEL 5 (Try.f29.body.getD .skip) (finC 0 Try.f29 κ)).getD (fun _ _ => none)
noncomputable def S.FewestWatch_step5 {α : Type} (x0 : List Int) (x3 : Int) (x4 : Int) (next_ : Int × Int → α) (out0_ : Int → α) (fail_ : α) : α :=
  (bif decide (x4 < IntKind.i64.wrap (1 * 2 ^ min (↑x0.length : Int).toNat IntKind.i64.bits)) then (optC (S.l2Watch_t x0 x4) (fun c_2 => (bif c_2 then (optC (S.l1Size_t x4) (fun c_3 => (next_ (if c_3 < x3 then c_3 else x3, IntKind.i64.wrap (x4 + 1)))) fail_) else (next_ (x3, IntKind.i64.wrap (x4 + 1))))) fail_) else (out0_ x3))
theorem S.FewestWatch_step5_nat {α γ : Type} (g : α → γ) (x0 : List Int) (x3 : Int) (x4 : Int) (next_ : Int × Int → α) (out0_ : Int → α) (fail_ : α) : g (S.FewestWatch_step5 x0 x3 x4 next_ out0_ fail_) = S.FewestWatch_step5 x0 x3 x4 (fun s => g (next_ s)) (fun d => g (out0_ d)) (g fail_) := by
  unfold S.FewestWatch_step5; simp only [apply_cnd g, apply_optC g, apply_sumC g]
noncomputable def S.FewestWatch_run5 (x0 : List Int) : Nat → Int × Int → Option (Int)
  | 0, _ => none
  | n + 1, s_ => S.FewestWatch_step5 x0 s_.1 s_.2 (S.FewestWatch_run5 x0 n) (fun d => some d) none
theorem S.FewestWatch_L5_run (x0 : List Int) (n : Nat) (s_ : Int × Int) (k : X → St → R) : S.FewestWatch_L5 n { n := 25, t := [(0, (.ro false (.ints .i64 x0))), (3, (.int .i64 s_.1)), (4, (.int .i64 s_.2))], h := [] } k = optC (S.FewestWatch_run5 x0 n s_) (fun (r : Int) => k (.exit 0) { n := 25, t := [(3, (.int .i64 r))], h := [] }) none := by
  induction n generalizing s_ with
  | zero => rfl
  | succ n ih =>
    have hu : S.FewestWatch_L5 (n + 1) { n := 25, t := [(0, (.ro false (.ints .i64 x0))), (3, (.int .i64 s_.1)), (4, (.int .i64 s_.2))], h := [] } k = S.FewestWatch_step5 x0 s_.1 s_.2 (fun s_ => S.FewestWatch_L5 n { n := 25, t := [(0, (.ro false (.ints .i64 x0))), (3, (.int .i64 s_.1)), (4, (.int .i64 s_.2))], h := [] } k) (fun d => k (.exit 0) { n := 25, t := [(3, (.int .i64 d))], h := [] }) none := by
      kernel_rfl
    have hs : (fun s_ : Int × Int => S.FewestWatch_L5 n { n := 25, t := [(0, (.ro false (.ints .i64 x0))), (3, (.int .i64 s_.1)), (4, (.int .i64 s_.2))], h := [] } k) = fun s_ => optC (S.FewestWatch_run5 x0 n s_) (fun (r : Int) => k (.exit 0) { n := 25, t := [(3, (.int .i64 r))], h := [] }) none := funext ih
    rw [hu, hs]
    exact (S.FewestWatch_step5_nat (fun o => optC o (fun (r : Int) => k (.exit 0) { n := 25, t := [(3, (.int .i64 r))], h := [] }) none) x0 s_.1 s_.2 (S.FewestWatch_run5 x0 n) (fun d => some d) none).symm
noncomputable def S.FewestWatch_tree {α : Type} (net : List Int) (leaf0_ : Int → α) (fail_ : α) : α :=
  (optC (S.NetOk_t net) (fun c_1 => (bif !c_1 then (leaf0_ (-1)) else (optC (S.FewestWatch_run5 net FUEL ((↑net.length : Int), 0)) (fun qy_4 => (leaf0_ qy_4)) fail_))) fail_)
theorem S.FewestWatch_tree_nat {α γ : Type} (g : α → γ) (net : List Int) (leaf0_ : Int → α) (fail_ : α) : g (S.FewestWatch_tree net leaf0_ fail_) = S.FewestWatch_tree net (fun d => g (leaf0_ d)) (g fail_) := by
  unfold S.FewestWatch_tree; simp only [apply_cnd g, apply_optC g, apply_sumC g]
noncomputable def S.FewestWatch_t (net : List Int) : Option (Int) := S.FewestWatch_tree net (fun d => some d) none
theorem S.FewestWatch_den (net : List Int) (κ : V → List E → R) : S.FewestWatch_F [.ro false (.ints .i64 net)] [] κ = optC (S.FewestWatch_t net) (fun (r : Int) => κ (.int .i64 r) []) none := by
  have hu : S.FewestWatch_F [.ro false (.ints .i64 net)] [] κ = S.FewestWatch_tree net (fun d => κ (.int .i64 d) []) none := by
    refine Eq.trans (show S.FewestWatch_F [.ro false (.ints .i64 net)] [] κ = (optC (S.NetOk_t net) (fun c_1 => (bif !c_1 then (κ (.int .i64 (-1)) []) else (S.FewestWatch_L5 FUEL { n := 25, t := [(0, (.ro false (.ints .i64 net))), (3, (.int .i64 ((↑net.length : Int)))), (4, (.int .i64 0))], h := [] } (S.FewestWatch_k5 κ)))) none) by kernel_rfl) ?_
    refine optC_congr (fun c_1 => ?_)
    refine cnd_congr ?_ ?_
    · kernel_rfl
    · refine (S.FewestWatch_L5_run net FUEL ((↑net.length : Int), 0) (S.FewestWatch_k5 κ)).trans (optC_congr (fun qy_4 => ?_))
      kernel_rfl
  rw [hu]
  exact (S.FewestWatch_tree_nat (fun o => optC o (fun (r : Int) => κ (.int .i64 r) []) none) net (fun d => some d) none).symm
noncomputable def S.FewestWatch_s : D.Spec where
  keep := false
  pure := true
  ds := [.int .i64]
  sp := fun args h κ => match args, h with
    | [.ro false (.ints .i64 net)], [] => optC (S.FewestWatch_t net) (fun (r : Int) => κ (.int .i64 r) []) none
    | _, _ => none
theorem S.FewestWatch_ok : SpecOk Try.prog 29 S.FewestWatch_s := by
  refine SpecOk.of TDok mixed (T := S.FewestWatch_T) ?_ (ann := S.FewestWatch_ann) Try.func29 rfl (by decide +kernel) ?_ ?_ ?_
  · intro p hp
    simp only [S.FewestWatch_T, List.mem_cons, List.not_mem_nil, or_false] at hp
    rcases hp with rfl | rfl | rfl
    · exact S.NetOk_ok
    · exact S.l2Watch_ok
    · exact S.l1Size_ok
  · intro args h κ r hh
    simp only [S.FewestWatch_s] at hh
    split at hh
    · exact (S.FewestWatch_den _ κ).trans hh
    · cases hh
  · intro args h κ r hh
    simp only [S.FewestWatch_s] at hh ⊢
    split at hh
    · exact optC_law2 (F := fun (r : Int) κ => κ (.int .i64 r) []) (fun b κ r hb => ⟨_, _, hb, fun _ => rfl⟩) hh
    · cases hh
  · intro _ args h κ r hh
    simp only [S.FewestWatch_s] at hh
    split at hh
    · exact ⟨rfl, fun _ => rfl⟩
    · cases hh

-- loop.example/guardsonnets/laws.sizeOf
noncomputable def L.sizeOf_T : List (Nat × D.Spec) := []
def L.sizeOf_ann : Nat → List Nat × List Nat
  | 2 => ([0, 3], [3])
  | _ => ([], [])
noncomputable def L.sizeOf_F (args : List V) (h : List E) (κ : V → List E → R) : R := funC TD (tableK L.sizeOf_T) L.sizeOf_ann (drawOk (tableP L.sizeOf_T)) FUEL Try.f31 args h κ
noncomputable def L.sizeOf_L2 (n : Nat) (σ : St) (k : X → St → R) : R := iterC 0 (fun σ k => denC TD (tableK L.sizeOf_T) L.sizeOf_ann (drawOk (tableP L.sizeOf_T)) 0 FUEL ((findLoop 2 (Try.f31.body.getD .skip)).getD .skip) σ k) [0, 3] [3] n σ k
noncomputable def L.sizeOf_k2 (κ : V → List E → R) : X → St → R := (afterC TD (tableK L.sizeOf_T) L.sizeOf_ann (drawOk (tableP L.sizeOf_T)) 0 FUEL 2 (Try.f31.body.getD .skip) (finC 0 Try.f31 κ)).getD (fun _ _ => none)
noncomputable def L.sizeOf_step2 {α : Type} (x0 : Int) (x3 : Int) (next_ : Int × Int → α) (out0_ : Int → α) (fail_ : α) : α :=
  (bif decide (x0 > 0) then (next_ (IntKind.i64.wrap (x0.tdiv 2), IntKind.i64.wrap (x3 + x0.tmod 2))) else (out0_ x3))
theorem L.sizeOf_step2_nat {α γ : Type} (g : α → γ) (x0 : Int) (x3 : Int) (next_ : Int × Int → α) (out0_ : Int → α) (fail_ : α) : g (L.sizeOf_step2 x0 x3 next_ out0_ fail_) = L.sizeOf_step2 x0 x3 (fun s => g (next_ s)) (fun d => g (out0_ d)) (g fail_) := by
  unfold L.sizeOf_step2; simp only [apply_cnd g, apply_optC g, apply_sumC g]
noncomputable def L.sizeOf_run2 : Nat → Int × Int → Option (Int)
  | 0, _ => none
  | n + 1, s_ => L.sizeOf_step2 s_.1 s_.2 (L.sizeOf_run2 n) (fun d => some d) none
theorem L.sizeOf_L2_run (n : Nat) (s_ : Int × Int) (k : X → St → R) : L.sizeOf_L2 n { n := 13, t := [(0, (.int .i64 s_.1)), (3, (.int .i64 s_.2))], h := [] } k = optC (L.sizeOf_run2 n s_) (fun (r : Int) => k (.exit 0) { n := 13, t := [(3, (.int .i64 r))], h := [] }) none := by
  induction n generalizing s_ with
  | zero => rfl
  | succ n ih =>
    have hu : L.sizeOf_L2 (n + 1) { n := 13, t := [(0, (.int .i64 s_.1)), (3, (.int .i64 s_.2))], h := [] } k = L.sizeOf_step2 s_.1 s_.2 (fun s_ => L.sizeOf_L2 n { n := 13, t := [(0, (.int .i64 s_.1)), (3, (.int .i64 s_.2))], h := [] } k) (fun d => k (.exit 0) { n := 13, t := [(3, (.int .i64 d))], h := [] }) none := by
      kernel_rfl
    have hs : (fun s_ : Int × Int => L.sizeOf_L2 n { n := 13, t := [(0, (.int .i64 s_.1)), (3, (.int .i64 s_.2))], h := [] } k) = fun s_ => optC (L.sizeOf_run2 n s_) (fun (r : Int) => k (.exit 0) { n := 13, t := [(3, (.int .i64 r))], h := [] }) none := funext ih
    rw [hu, hs]
    exact (L.sizeOf_step2_nat (fun o => optC o (fun (r : Int) => k (.exit 0) { n := 13, t := [(3, (.int .i64 r))], h := [] }) none) s_.1 s_.2 (L.sizeOf_run2 n) (fun d => some d) none).symm
noncomputable def L.sizeOf_tree {α : Type} (n_ : Int) (leaf0_ : Int → α) (fail_ : α) : α :=
  (optC (L.sizeOf_run2 FUEL (n_, 0)) (fun qy_1 => (leaf0_ qy_1)) fail_)
theorem L.sizeOf_tree_nat {α γ : Type} (g : α → γ) (n_ : Int) (leaf0_ : Int → α) (fail_ : α) : g (L.sizeOf_tree n_ leaf0_ fail_) = L.sizeOf_tree n_ (fun d => g (leaf0_ d)) (g fail_) := by
  unfold L.sizeOf_tree; simp only [apply_cnd g, apply_optC g, apply_sumC g]
noncomputable def L.sizeOf_t (n_ : Int) : Option (Int) := L.sizeOf_tree n_ (fun d => some d) none
theorem L.sizeOf_den (n_ : Int) (κ : V → List E → R) : L.sizeOf_F [.int .i64 n_] [] κ = optC (L.sizeOf_t n_) (fun (r : Int) => κ (.int .i64 r) []) none := by
  have hu : L.sizeOf_F [.int .i64 n_] [] κ = L.sizeOf_tree n_ (fun d => κ (.int .i64 d) []) none := by
    refine Eq.trans (show L.sizeOf_F [.int .i64 n_] [] κ = (L.sizeOf_L2 FUEL { n := 13, t := [(0, (.int .i64 n_)), (3, (.int .i64 0))], h := [] } (L.sizeOf_k2 κ)) by kernel_rfl) ?_
    refine (L.sizeOf_L2_run FUEL (n_, 0) (L.sizeOf_k2 κ)).trans (optC_congr (fun qy_1 => ?_))
    kernel_rfl
  rw [hu]
  exact (L.sizeOf_tree_nat (fun o => optC o (fun (r : Int) => κ (.int .i64 r) []) none) n_ (fun d => some d) none).symm
noncomputable def L.sizeOf_s : D.Spec where
  keep := false
  pure := true
  ds := [.invalid]
  sp := fun args h κ => match args, h with
    | [.int .i64 n_], [] => optC (L.sizeOf_t n_) (fun (r : Int) => κ (.int .i64 r) []) none
    | _, _ => none
theorem L.sizeOf_ok : SpecOk Try.prog 31 L.sizeOf_s := by
  refine SpecOk.of TDok mixed (T := L.sizeOf_T) ?_ (ann := L.sizeOf_ann) Try.func31 rfl (by decide +kernel) ?_ ?_ ?_
  · intro p hp; cases hp
  · intro args h κ r hh
    simp only [L.sizeOf_s] at hh
    split at hh
    · exact (L.sizeOf_den _ κ).trans hh
    · cases hh
  · intro args h κ r hh
    simp only [L.sizeOf_s] at hh ⊢
    split at hh
    · exact optC_law2 (F := fun (r : Int) κ => κ (.int .i64 r) []) (fun b κ r hb => ⟨_, _, hb, fun _ => rfl⟩) hh
    · cases hh
  · intro _ args h κ r hh
    simp only [L.sizeOf_s] at hh
    split at hh
    · exact ⟨rfl, fun _ => rfl⟩
    · cases hh

-- loop.example/guardsonnets/impl.partIn
noncomputable def I.partIn_T : List (Nat × D.Spec) := [(73, I.seenIn_s)]
def I.partIn_ann : Nat → List Nat × List Nat
  | 3 => ([0, 5, 6], [5])
  | _ => ([], [])
noncomputable def I.partIn_F (args : List V) (h : List E) (κ : V → List E → R) : R := funC TD (tableK I.partIn_T) I.partIn_ann (drawOk (tableP I.partIn_T)) FUEL Try.f68 args h κ
noncomputable def I.partIn_L3 (n : Nat) (σ : St) (k : X → St → R) : R := iterC 0 (fun σ k => denC TD (tableK I.partIn_T) I.partIn_ann (drawOk (tableP I.partIn_T)) 0 FUEL ((findLoop 3 (Try.f68.body.getD .skip)).getD .skip) σ k) [0, 5, 6] [5] n σ k
noncomputable def I.partIn_k3 (κ : V → List E → R) : X → St → R := (afterC TD (tableK I.partIn_T) I.partIn_ann (drawOk (tableP I.partIn_T)) 0 FUEL 3 (Try.f68.body.getD .skip) (finC 0 Try.f68 κ)).getD (fun _ _ => none)
noncomputable def I.partIn_step3 {α : Type} (x0 : List Int) (x5 : Int) (x6 : Int) (next_ : Int × Int → α) (out0_ : Int → α) (fail_ : α) : α :=
  (bif decide (x6 < (↑x0.length : Int)) then (optC (I.seenIn_t x0 x5) (fun c_1 => (next_ (c_1, IntKind.i64.wrap (x6 + 1)))) fail_) else (out0_ x5))
theorem I.partIn_step3_nat {α γ : Type} (g : α → γ) (x0 : List Int) (x5 : Int) (x6 : Int) (next_ : Int × Int → α) (out0_ : Int → α) (fail_ : α) : g (I.partIn_step3 x0 x5 x6 next_ out0_ fail_) = I.partIn_step3 x0 x5 x6 (fun s => g (next_ s)) (fun d => g (out0_ d)) (g fail_) := by
  unfold I.partIn_step3; simp only [apply_cnd g, apply_optC g, apply_sumC g]
noncomputable def I.partIn_run3 (x0 : List Int) : Nat → Int × Int → Option (Int)
  | 0, _ => none
  | n + 1, s_ => I.partIn_step3 x0 s_.1 s_.2 (I.partIn_run3 x0 n) (fun d => some d) none
theorem I.partIn_L3_run (x0 : List Int) (n : Nat) (s_ : Int × Int) (k : X → St → R) : I.partIn_L3 n { n := 19, t := [(0, (.ro false (.ints .i64 x0))), (5, (.int .i64 s_.1)), (6, (.int .i64 s_.2))], h := [] } k = optC (I.partIn_run3 x0 n s_) (fun (r : Int) => k (.exit 0) { n := 19, t := [(5, (.int .i64 r))], h := [] }) none := by
  induction n generalizing s_ with
  | zero => rfl
  | succ n ih =>
    have hu : I.partIn_L3 (n + 1) { n := 19, t := [(0, (.ro false (.ints .i64 x0))), (5, (.int .i64 s_.1)), (6, (.int .i64 s_.2))], h := [] } k = I.partIn_step3 x0 s_.1 s_.2 (fun s_ => I.partIn_L3 n { n := 19, t := [(0, (.ro false (.ints .i64 x0))), (5, (.int .i64 s_.1)), (6, (.int .i64 s_.2))], h := [] } k) (fun d => k (.exit 0) { n := 19, t := [(5, (.int .i64 d))], h := [] }) none := by
      kernel_rfl
    have hs : (fun s_ : Int × Int => I.partIn_L3 n { n := 19, t := [(0, (.ro false (.ints .i64 x0))), (5, (.int .i64 s_.1)), (6, (.int .i64 s_.2))], h := [] } k) = fun s_ => optC (I.partIn_run3 x0 n s_) (fun (r : Int) => k (.exit 0) { n := 19, t := [(5, (.int .i64 r))], h := [] }) none := funext ih
    rw [hu, hs]
    exact (I.partIn_step3_nat (fun o => optC o (fun (r : Int) => k (.exit 0) { n := 19, t := [(5, (.int .i64 r))], h := [] }) none) x0 s_.1 s_.2 (I.partIn_run3 x0 n) (fun d => some d) none).symm
noncomputable def I.partIn_tree {α : Type} (net : List Int) (place : Int) (leaf0_ : Int → α) (fail_ : α) : α :=
  (bif decide (place < 0) then fail_ else (optC (I.partIn_run3 net FUEL (IntKind.i64.wrap (1 * 2 ^ min place.toNat IntKind.i64.bits), 1)) (fun qy_2 => (leaf0_ qy_2)) fail_))
theorem I.partIn_tree_nat {α γ : Type} (g : α → γ) (net : List Int) (place : Int) (leaf0_ : Int → α) (fail_ : α) : g (I.partIn_tree net place leaf0_ fail_) = I.partIn_tree net place (fun d => g (leaf0_ d)) (g fail_) := by
  unfold I.partIn_tree; simp only [apply_cnd g, apply_optC g, apply_sumC g]
noncomputable def I.partIn_t (net : List Int) (place : Int) : Option (Int) := I.partIn_tree net place (fun d => some d) none
theorem I.partIn_den (net : List Int) (place : Int) (κ : V → List E → R) : I.partIn_F [.ro false (.ints .i64 net), .int .i64 place] [] κ = optC (I.partIn_t net place) (fun (r : Int) => κ (.int .i64 r) []) none := by
  have hu : I.partIn_F [.ro false (.ints .i64 net), .int .i64 place] [] κ = I.partIn_tree net place (fun d => κ (.int .i64 d) []) none := by
    refine Eq.trans (show I.partIn_F [.ro false (.ints .i64 net), .int .i64 place] [] κ = (bif decide (place < 0) then none else (I.partIn_L3 FUEL { n := 19, t := [(0, (.ro false (.ints .i64 net))), (5, (.int .i64 (IntKind.i64.wrap (1 * 2 ^ min place.toNat IntKind.i64.bits)))), (6, (.int .i64 1))], h := [] } (I.partIn_k3 κ))) by kernel_rfl) ?_
    refine cnd_congr ?_ ?_
    · kernel_rfl
    · refine (I.partIn_L3_run net FUEL (IntKind.i64.wrap (1 * 2 ^ min place.toNat IntKind.i64.bits), 1) (I.partIn_k3 κ)).trans (optC_congr (fun qy_2 => ?_))
      kernel_rfl
  rw [hu]
  exact (I.partIn_tree_nat (fun o => optC o (fun (r : Int) => κ (.int .i64 r) []) none) net place (fun d => some d) none).symm
noncomputable def I.partIn_s : D.Spec where
  keep := false
  pure := true
  ds := [.int .i64, .invalid]
  sp := fun args h κ => match args, h with
    | [.ro false (.ints .i64 net), .int .i64 place], [] => optC (I.partIn_t net place) (fun (r : Int) => κ (.int .i64 r) []) none
    | _, _ => none
theorem I.partIn_ok : SpecOk Try.prog 68 I.partIn_s := by
  refine SpecOk.of TDok mixed (T := I.partIn_T) ?_ (ann := I.partIn_ann) Try.func68 rfl (by decide +kernel) ?_ ?_ ?_
  · intro p hp
    simp only [I.partIn_T, List.mem_cons, List.not_mem_nil, or_false] at hp
    rcases hp with rfl
    · exact I.seenIn_ok
  · intro args h κ r hh
    simp only [I.partIn_s] at hh
    split at hh
    · exact (I.partIn_den _ _ κ).trans hh
    · cases hh
  · intro args h κ r hh
    simp only [I.partIn_s] at hh ⊢
    split at hh
    · exact optC_law2 (F := fun (r : Int) κ => κ (.int .i64 r) []) (fun b κ r hb => ⟨_, _, hb, fun _ => rfl⟩) hh
    · cases hh
  · intro _ args h κ r hh
    simp only [I.partIn_s] at hh
    split at hh
    · exact ⟨rfl, fun _ => rfl⟩
    · cases hh

-- loop.example/guardsonnets/impl.PartMany
noncomputable def I.PartMany_T : List (Nat × D.Spec) := [(30, I.NetOk_s), (66, I.hasPlace_s), (68, I.partIn_s)]
def I.PartMany_ann : Nat → List Nat × List Nat
  | 6 => ([0, 3, 4, 5], [3])
  | _ => ([], [])
noncomputable def I.PartMany_F (args : List V) (h : List E) (κ : V → List E → R) : R := funC TD (tableK I.PartMany_T) I.PartMany_ann (drawOk (tableP I.PartMany_T)) FUEL Try.f32 args h κ
noncomputable def I.PartMany_L6 (n : Nat) (σ : St) (k : X → St → R) : R := iterC 0 (fun σ k => denC TD (tableK I.PartMany_T) I.PartMany_ann (drawOk (tableP I.PartMany_T)) 0 FUEL ((findLoop 6 (Try.f32.body.getD .skip)).getD .skip) σ k) [0, 3, 4, 5] [3] n σ k
noncomputable def I.PartMany_k6 (κ : V → List E → R) : X → St → R := (afterC TD (tableK I.PartMany_T) I.PartMany_ann (drawOk (tableP I.PartMany_T)) 0 FUEL 6 (Try.f32.body.getD .skip) (finC 0 Try.f32 κ)).getD (fun _ _ => none)
noncomputable def I.PartMany_step6 {α : Type} (x0 : List Int) (x3 : Int) (x4 : Int) (x5 : Int) (next_ : Int × Int × Int → α) (out0_ : Int → α) (fail_ : α) : α :=
  (bif decide (x5 < (↑x0.length : Int)) then (optC (I.hasPlace_t x4 x5) (fun c_2 => (bif !c_2 then (optC (I.partIn_t x0 x5) (fun c_3 => (next_ (IntKind.i64.wrap (x3 + 1), bits BinOp.or IntKind.i64 x4 c_3, IntKind.i64.wrap (x5 + 1)))) fail_) else (next_ (x3, x4, IntKind.i64.wrap (x5 + 1))))) fail_) else (out0_ x3))
theorem I.PartMany_step6_nat {α γ : Type} (g : α → γ) (x0 : List Int) (x3 : Int) (x4 : Int) (x5 : Int) (next_ : Int × Int × Int → α) (out0_ : Int → α) (fail_ : α) : g (I.PartMany_step6 x0 x3 x4 x5 next_ out0_ fail_) = I.PartMany_step6 x0 x3 x4 x5 (fun s => g (next_ s)) (fun d => g (out0_ d)) (g fail_) := by
  unfold I.PartMany_step6; simp only [apply_cnd g, apply_optC g, apply_sumC g]
noncomputable def I.PartMany_run6 (x0 : List Int) : Nat → Int × Int × Int → Option (Int)
  | 0, _ => none
  | n + 1, s_ => I.PartMany_step6 x0 s_.1 s_.2.1 s_.2.2 (I.PartMany_run6 x0 n) (fun d => some d) none
theorem I.PartMany_L6_run (x0 : List Int) (n : Nat) (s_ : Int × Int × Int) (k : X → St → R) : I.PartMany_L6 n { n := 27, t := [(0, (.ro false (.ints .i64 x0))), (3, (.int .i64 s_.1)), (4, (.int .i64 s_.2.1)), (5, (.int .i64 s_.2.2))], h := [] } k = optC (I.PartMany_run6 x0 n s_) (fun (r : Int) => k (.exit 0) { n := 27, t := [(3, (.int .i64 r))], h := [] }) none := by
  induction n generalizing s_ with
  | zero => rfl
  | succ n ih =>
    have hu : I.PartMany_L6 (n + 1) { n := 27, t := [(0, (.ro false (.ints .i64 x0))), (3, (.int .i64 s_.1)), (4, (.int .i64 s_.2.1)), (5, (.int .i64 s_.2.2))], h := [] } k = I.PartMany_step6 x0 s_.1 s_.2.1 s_.2.2 (fun s_ => I.PartMany_L6 n { n := 27, t := [(0, (.ro false (.ints .i64 x0))), (3, (.int .i64 s_.1)), (4, (.int .i64 s_.2.1)), (5, (.int .i64 s_.2.2))], h := [] } k) (fun d => k (.exit 0) { n := 27, t := [(3, (.int .i64 d))], h := [] }) none := by
      kernel_rfl
    have hs : (fun s_ : Int × Int × Int => I.PartMany_L6 n { n := 27, t := [(0, (.ro false (.ints .i64 x0))), (3, (.int .i64 s_.1)), (4, (.int .i64 s_.2.1)), (5, (.int .i64 s_.2.2))], h := [] } k) = fun s_ => optC (I.PartMany_run6 x0 n s_) (fun (r : Int) => k (.exit 0) { n := 27, t := [(3, (.int .i64 r))], h := [] }) none := funext ih
    rw [hu, hs]
    exact (I.PartMany_step6_nat (fun o => optC o (fun (r : Int) => k (.exit 0) { n := 27, t := [(3, (.int .i64 r))], h := [] }) none) x0 s_.1 s_.2.1 s_.2.2 (I.PartMany_run6 x0 n) (fun d => some d) none).symm
noncomputable def I.PartMany_tree {α : Type} (net : List Int) (leaf0_ : Int → α) (fail_ : α) : α :=
  (optC (I.NetOk_t net) (fun c_1 => (bif !c_1 then (leaf0_ (-1)) else (optC (I.PartMany_run6 net FUEL (0, 0, 0)) (fun qy_4 => (leaf0_ qy_4)) fail_))) fail_)
theorem I.PartMany_tree_nat {α γ : Type} (g : α → γ) (net : List Int) (leaf0_ : Int → α) (fail_ : α) : g (I.PartMany_tree net leaf0_ fail_) = I.PartMany_tree net (fun d => g (leaf0_ d)) (g fail_) := by
  unfold I.PartMany_tree; simp only [apply_cnd g, apply_optC g, apply_sumC g]
noncomputable def I.PartMany_t (net : List Int) : Option (Int) := I.PartMany_tree net (fun d => some d) none
theorem I.PartMany_den (net : List Int) (κ : V → List E → R) : I.PartMany_F [.ro false (.ints .i64 net)] [] κ = optC (I.PartMany_t net) (fun (r : Int) => κ (.int .i64 r) []) none := by
  have hu : I.PartMany_F [.ro false (.ints .i64 net)] [] κ = I.PartMany_tree net (fun d => κ (.int .i64 d) []) none := by
    refine Eq.trans (show I.PartMany_F [.ro false (.ints .i64 net)] [] κ = (optC (I.NetOk_t net) (fun c_1 => (bif !c_1 then (κ (.int .i64 (-1)) []) else (I.PartMany_L6 FUEL { n := 27, t := [(0, (.ro false (.ints .i64 net))), (3, (.int .i64 0)), (4, (.int .i64 0)), (5, (.int .i64 0))], h := [] } (I.PartMany_k6 κ)))) none) by kernel_rfl) ?_
    refine optC_congr (fun c_1 => ?_)
    refine cnd_congr ?_ ?_
    · kernel_rfl
    · refine (I.PartMany_L6_run net FUEL (0, 0, 0) (I.PartMany_k6 κ)).trans (optC_congr (fun qy_4 => ?_))
      kernel_rfl
  rw [hu]
  exact (I.PartMany_tree_nat (fun o => optC o (fun (r : Int) => κ (.int .i64 r) []) none) net (fun d => some d) none).symm
noncomputable def I.PartMany_s : D.Spec where
  keep := false
  pure := true
  ds := [.int .i64]
  sp := fun args h κ => match args, h with
    | [.ro false (.ints .i64 net)], [] => optC (I.PartMany_t net) (fun (r : Int) => κ (.int .i64 r) []) none
    | _, _ => none
theorem I.PartMany_ok : SpecOk Try.prog 32 I.PartMany_s := by
  refine SpecOk.of TDok mixed (T := I.PartMany_T) ?_ (ann := I.PartMany_ann) Try.func32 rfl (by decide +kernel) ?_ ?_ ?_
  · intro p hp
    simp only [I.PartMany_T, List.mem_cons, List.not_mem_nil, or_false] at hp
    rcases hp with rfl | rfl | rfl
    · exact I.NetOk_ok
    · exact I.hasPlace_ok
    · exact I.partIn_ok
  · intro args h κ r hh
    simp only [I.PartMany_s] at hh
    split at hh
    · exact (I.PartMany_den _ κ).trans hh
    · cases hh
  · intro args h κ r hh
    simp only [I.PartMany_s] at hh ⊢
    split at hh
    · exact optC_law2 (F := fun (r : Int) κ => κ (.int .i64 r) []) (fun b κ r hb => ⟨_, _, hb, fun _ => rfl⟩) hh
    · cases hh
  · intro _ args h κ r hh
    simp only [I.PartMany_s] at hh
    split at hh
    · exact ⟨rfl, fun _ => rfl⟩
    · cases hh

-- loop.example/guardsonnets/laws.FnFewestWatch
noncomputable def L.FnFewestWatch_T : List (Nat × D.Spec) := [(27, S.DrawFewestWatch_s), (28, I.FewestWatch_s), (29, S.FewestWatch_s), (30, I.NetOk_s), (21, L.alive_s), (22, I.BallOf_s), (31, L.sizeOf_s), (32, I.PartMany_s), (26, I.LoneOf_s)]
def L.FnFewestWatch_ann : Nat → List Nat × List Nat
  | 11 => ([3, 4, 5, 6], [3, 4, 5])
  | _ => ([], [])
noncomputable def L.FnFewestWatch_F (args : List V) (h : List E) (κ : V → List E → R) : R := funC TD (tableK L.FnFewestWatch_T) L.FnFewestWatch_ann (drawOk (tableP L.FnFewestWatch_T)) FUEL Try.f5 args h κ
noncomputable def L.FnFewestWatch_L11 (n : Nat) (σ : St) (k : X → St → R) : R := iterC 0 (fun σ k => denC TD (tableK L.FnFewestWatch_T) L.FnFewestWatch_ann (drawOk (tableP L.FnFewestWatch_T)) 0 FUEL ((findLoop 11 (Try.f5.body.getD .skip)).getD .skip) σ k) [3, 4, 5, 6] [3, 4, 5] n σ k
noncomputable def L.FnFewestWatch_k11 (κ : V → List E → R) : X → St → R := (afterC TD (tableK L.FnFewestWatch_T) L.FnFewestWatch_ann (drawOk (tableP L.FnFewestWatch_T)) 0 FUEL 11 (Try.f5.body.getD .skip) (finC 0 Try.f5 κ)).getD (fun _ _ => none)
noncomputable def L.FnFewestWatch_step11 {α : Type} (x4 : Int) (x5 : Int) (x6 : Int) (r0 : List Int) (next_ : Int × Int × (List Int) → α) (out0_ : Int × (List Int) → α) (fail_ : α) : α :=
  (bif decide (x6 < (↑r0.length : Int)) then (optC (I.BallOf_t r0 x6) (fun c_6 => (optC (L.sizeOf_t c_6) (fun c_7 => (next_ (if c_7 > x5 then c_7 else x5, IntKind.i64.wrap (x6 + 1), r0))) fail_)) fail_) else (out0_ (x5, r0)))
theorem L.FnFewestWatch_step11_nat {α γ : Type} (g : α → γ) (x4 : Int) (x5 : Int) (x6 : Int) (r0 : List Int) (next_ : Int × Int × (List Int) → α) (out0_ : Int × (List Int) → α) (fail_ : α) : g (L.FnFewestWatch_step11 x4 x5 x6 r0 next_ out0_ fail_) = L.FnFewestWatch_step11 x4 x5 x6 r0 (fun s => g (next_ s)) (fun d => g (out0_ d)) (g fail_) := by
  unfold L.FnFewestWatch_step11; simp only [apply_cnd g, apply_optC g, apply_sumC g]
noncomputable def L.FnFewestWatch_run11 (x4 : Int) : Nat → Int × Int × (List Int) → Option (Int × (List Int))
  | 0, _ => none
  | n + 1, s_ => L.FnFewestWatch_step11 x4 s_.1 s_.2.1 s_.2.2 (L.FnFewestWatch_run11 x4 n) (fun d => some d) none
theorem L.FnFewestWatch_L11_run (x4 : Int) (n : Nat) (s_ : Int × Int × (List Int)) (k : X → St → R) : L.FnFewestWatch_L11 n { n := 66, t := [(3, (.own 0)), (4, (.int .i64 x4)), (5, (.int .i64 s_.1)), (6, (.int .i64 s_.2.1))], h := [.row (.ints .i64 s_.2.2)] } k = optC (L.FnFewestWatch_run11 x4 n s_) (fun (r : Int × (List Int)) => k (.exit 0) { n := 66, t := [(3, (.own 0)), (4, (.int .i64 x4)), (5, (.int .i64 r.1))], h := [.row (.ints .i64 r.2)] }) none := by
  induction n generalizing s_ with
  | zero => rfl
  | succ n ih =>
    have hu : L.FnFewestWatch_L11 (n + 1) { n := 66, t := [(3, (.own 0)), (4, (.int .i64 x4)), (5, (.int .i64 s_.1)), (6, (.int .i64 s_.2.1))], h := [.row (.ints .i64 s_.2.2)] } k = L.FnFewestWatch_step11 x4 s_.1 s_.2.1 s_.2.2 (fun s_ => L.FnFewestWatch_L11 n { n := 66, t := [(3, (.own 0)), (4, (.int .i64 x4)), (5, (.int .i64 s_.1)), (6, (.int .i64 s_.2.1))], h := [.row (.ints .i64 s_.2.2)] } k) (fun d => k (.exit 0) { n := 66, t := [(3, (.own 0)), (4, (.int .i64 x4)), (5, (.int .i64 d.1))], h := [.row (.ints .i64 d.2)] }) none := by
      kernel_rfl
    have hs : (fun s_ : Int × Int × (List Int) => L.FnFewestWatch_L11 n { n := 66, t := [(3, (.own 0)), (4, (.int .i64 x4)), (5, (.int .i64 s_.1)), (6, (.int .i64 s_.2.1))], h := [.row (.ints .i64 s_.2.2)] } k) = fun s_ => optC (L.FnFewestWatch_run11 x4 n s_) (fun (r : Int × (List Int)) => k (.exit 0) { n := 66, t := [(3, (.own 0)), (4, (.int .i64 x4)), (5, (.int .i64 r.1))], h := [.row (.ints .i64 r.2)] }) none := funext ih
    rw [hu, hs]
    exact (L.FnFewestWatch_step11_nat (fun o => optC o (fun (r : Int × (List Int)) => k (.exit 0) { n := 66, t := [(3, (.own 0)), (4, (.int .i64 x4)), (5, (.int .i64 r.1))], h := [.row (.ints .i64 r.2)] }) none) x4 s_.1 s_.2.1 s_.2.2 (L.FnFewestWatch_run11 x4 n) (fun d => some d) none).symm
noncomputable def L.FnFewestWatch_tree {α : Type} (code : List Int) (leaf0_ : Bool → α) (fail_ : α) : α :=
  (bif decide ((↑code.length : Int) > 1048576) then (leaf0_ true) else (optC (S.DrawFewestWatch_t code) (fun c_1 => (optC (I.FewestWatch_t c_1) (fun c_2 => (optC (S.FewestWatch_t c_1) (fun c_3 => (bif !c_2 == c_3 then (leaf0_ false) else (bif decide (c_2 < 0) then (bif c_2 == -1 then (optC (I.NetOk_t c_1) (fun c_4 => (bif !c_4 then (optC (L.alive_t) (fun c_5 => (leaf0_ c_5)) fail_) else (leaf0_ false))) fail_) else (leaf0_ false)) else (optC (L.FnFewestWatch_run11 c_2 FUEL (0, 0, c_1)) (fun qy_8 => (optC (I.PartMany_t qy_8.2) (fun c_9 => (bif decide (c_2 ≥ c_9) then (bif decide (IntKind.i64.wrap (c_2 * qy_8.1) ≥ (↑qy_8.2.length : Int)) then (optC (I.LoneOf_t qy_8.2) (fun c_10 => (bif !c_10 == 0 then (leaf0_ true) else (leaf0_ (decide (IntKind.i64.wrap (2 * c_2) ≤ (↑qy_8.2.length : Int)))))) fail_) else (leaf0_ false)) else (leaf0_ false))) fail_)) fail_)))) fail_)) fail_)) fail_))
theorem L.FnFewestWatch_tree_nat {α γ : Type} (g : α → γ) (code : List Int) (leaf0_ : Bool → α) (fail_ : α) : g (L.FnFewestWatch_tree code leaf0_ fail_) = L.FnFewestWatch_tree code (fun d => g (leaf0_ d)) (g fail_) := by
  unfold L.FnFewestWatch_tree; simp only [apply_cnd g, apply_optC g, apply_sumC g]
noncomputable def L.FnFewestWatch_t (code : List Int) : Option (Bool) := L.FnFewestWatch_tree code (fun d => some d) none
theorem L.FnFewestWatch_den (code : List Int) (κ : V → List E → R) : L.FnFewestWatch_F [.ro true (.ints .u8 code)] [] κ = optC (L.FnFewestWatch_t code) (fun (r : Bool) => κ (.bool r) []) none := by
  have hu : L.FnFewestWatch_F [.ro true (.ints .u8 code)] [] κ = L.FnFewestWatch_tree code (fun d => κ (.bool d) []) none := by
    refine Eq.trans (show L.FnFewestWatch_F [.ro true (.ints .u8 code)] [] κ = (bif decide ((↑code.length : Int) > 1048576) then (κ (.bool true) []) else (optC (S.DrawFewestWatch_t code) (fun c_1 => (optC (I.FewestWatch_t c_1) (fun c_2 => (optC (S.FewestWatch_t c_1) (fun c_3 => (bif !c_2 == c_3 then (κ (.bool false) []) else (bif decide (c_2 < 0) then (bif c_2 == -1 then (optC (I.NetOk_t c_1) (fun c_4 => (bif !c_4 then (optC (L.alive_t) (fun c_5 => (κ (.bool c_5) [])) none) else (κ (.bool false) []))) none) else (κ (.bool false) [])) else (L.FnFewestWatch_L11 FUEL { n := 66, t := [(3, (.own 0)), (4, (.int .i64 c_2)), (5, (.int .i64 0)), (6, (.int .i64 0))], h := [.row (.ints .i64 c_1)] } (L.FnFewestWatch_k11 κ))))) none)) none)) none)) by kernel_rfl) ?_
    refine cnd_congr ?_ ?_
    · kernel_rfl
    · refine optC_congr (fun c_1 => ?_)
      refine optC_congr (fun c_2 => ?_)
      refine optC_congr (fun c_3 => ?_)
      refine cnd_congr ?_ ?_
      · kernel_rfl
      · refine cnd_congr ?_ ?_
        · kernel_rfl
        · refine (L.FnFewestWatch_L11_run c_2 FUEL (0, 0, c_1) (L.FnFewestWatch_k11 κ)).trans (optC_congr (fun qy_8 => ?_))
          kernel_rfl
  rw [hu]
  exact (L.FnFewestWatch_tree_nat (fun o => optC o (fun (r : Bool) => κ (.bool r) []) none) code (fun d => some d) none).symm
noncomputable def L.FnFewestWatch_s : D.Spec where
  keep := true
  pure := true
  ds := [.int .u8]
  sp := fun args h κ => match args, h with
    | [.ro true (.ints .u8 code)], [] => optC (L.FnFewestWatch_t code) (fun (r : Bool) => κ (.bool r) []) none
    | _, _ => none
theorem L.FnFewestWatch_ok : SpecOk Try.prog 5 L.FnFewestWatch_s := by
  refine SpecOk.of TDok mixed (T := L.FnFewestWatch_T) ?_ (ann := L.FnFewestWatch_ann) Try.func5 rfl (by decide +kernel) ?_ ?_ ?_
  · intro p hp
    simp only [L.FnFewestWatch_T, List.mem_cons, List.not_mem_nil, or_false] at hp
    rcases hp with rfl | rfl | rfl | rfl | rfl | rfl | rfl | rfl | rfl
    · exact S.DrawFewestWatch_ok
    · exact I.FewestWatch_ok
    · exact S.FewestWatch_ok
    · exact I.NetOk_ok
    · exact L.alive_ok
    · exact I.BallOf_ok
    · exact L.sizeOf_ok
    · exact I.PartMany_ok
    · exact I.LoneOf_ok
  · intro args h κ r hh
    simp only [L.FnFewestWatch_s] at hh
    split at hh
    · exact (L.FnFewestWatch_den _ κ).trans hh
    · cases hh
  · intro args h κ r hh
    simp only [L.FnFewestWatch_s] at hh ⊢
    split at hh
    · exact optC_law2 (F := fun (r : Bool) κ => κ (.bool r) []) (fun b κ r hb => ⟨_, _, hb, fun _ => rfl⟩) hh
    · cases hh
  · intro _ args h κ r hh
    simp only [L.FnFewestWatch_s] at hh
    split at hh
    · exact ⟨rfl, fun _ => rfl⟩
    · cases hh

-- loop.example/guardsonnets/spec.DrawWatchOf
noncomputable def S.DrawWatchOf_T : List (Nat × D.Spec) := [(52, S.l20Open_s), (62, S.l20Net_s)]
def S.DrawWatchOf_ann : Nat → List Nat × List Nat
  | _ => ([], [])
noncomputable def S.DrawWatchOf_F (args : List V) (h : List E) (κ : V → List E → R) : R := funC TD (tableK S.DrawWatchOf_T) S.DrawWatchOf_ann (drawOk (tableP S.DrawWatchOf_T)) FUEL Try.f33 args h κ
noncomputable def S.DrawWatchOf_tree {α : Type} (code : List Int) (leaf0_ : List Int → α) (fail_ : α) : α :=
  (optC (S.l20Open_t code) (fun c_1 => (optC (S.l20Net_t c_1.fst c_1.snd 9) (fun c_2 => (leaf0_ c_2.snd.snd)) fail_)) fail_)
theorem S.DrawWatchOf_tree_nat {α γ : Type} (g : α → γ) (code : List Int) (leaf0_ : List Int → α) (fail_ : α) : g (S.DrawWatchOf_tree code leaf0_ fail_) = S.DrawWatchOf_tree code (fun d => g (leaf0_ d)) (g fail_) := by
  unfold S.DrawWatchOf_tree; simp only [apply_cnd g, apply_optC g, apply_sumC g]
noncomputable def S.DrawWatchOf_t (code : List Int) : Option (List Int) := S.DrawWatchOf_tree code (fun d => some d) none
theorem S.DrawWatchOf_den (code : List Int) (κ : V → List E → R) : S.DrawWatchOf_F [.ro true (.ints .u8 code)] [] κ = optC (S.DrawWatchOf_t code) (fun (r : List Int) => κ (.own 0) [.row (.ints .i64 r)]) none := by
  have hu : S.DrawWatchOf_F [.ro true (.ints .u8 code)] [] κ = S.DrawWatchOf_tree code (fun d => κ (.own 0) [.row (.ints .i64 d)]) none := by
    kernel_rfl
  rw [hu]
  exact (S.DrawWatchOf_tree_nat (fun o => optC o (fun (r : List Int) => κ (.own 0) [.row (.ints .i64 r)]) none) code (fun d => some d) none).symm
noncomputable def S.DrawWatchOf_s : D.Spec where
  keep := true
  pure := false
  ds := [.int .u8]
  sp := fun args h κ => match args, h with
    | [.ro true (.ints .u8 code)], [] => optC (S.DrawWatchOf_t code) (fun (r : List Int) => κ (.own 0) [.row (.ints .i64 r)]) none
    | _, _ => none
theorem S.DrawWatchOf_ok : SpecOk Try.prog 33 S.DrawWatchOf_s := by
  refine SpecOk.of TDok mixed (T := S.DrawWatchOf_T) ?_ (ann := S.DrawWatchOf_ann) Try.func33 rfl (by decide +kernel) ?_ ?_ ?_
  · intro p hp
    simp only [S.DrawWatchOf_T, List.mem_cons, List.not_mem_nil, or_false] at hp
    rcases hp with rfl | rfl
    · exact S.l20Open_ok
    · exact S.l20Net_ok
  · intro args h κ r hh
    simp only [S.DrawWatchOf_s] at hh
    split at hh
    · exact (S.DrawWatchOf_den _ κ).trans hh
    · cases hh
  · intro args h κ r hh
    simp only [S.DrawWatchOf_s] at hh ⊢
    split at hh
    · exact optC_law2 (F := fun (r : List Int) κ => κ (.own 0) [.row (.ints .i64 r)]) (fun b κ r hb => ⟨_, _, hb, fun _ => rfl⟩) hh
    · cases hh
  · intro hh; cases hh

-- loop.example/guardsonnets/impl.WatchOf
noncomputable def I.WatchOf_T : List (Nat × D.Spec) := [(30, I.NetOk_s), (64, I.smallWatchIn_s)]
def I.WatchOf_ann : Nat → List Nat × List Nat
  | _ => ([], [])
noncomputable def I.WatchOf_F (args : List V) (h : List E) (κ : V → List E → R) : R := funC TD (tableK I.WatchOf_T) I.WatchOf_ann (drawOk (tableP I.WatchOf_T)) FUEL Try.f34 args h κ
noncomputable def I.WatchOf_tree {α : Type} (net : List Int) (leaf0_ : Int → α) (fail_ : α) : α :=
  (optC (I.NetOk_t net) (fun c_1 => (bif !c_1 then (leaf0_ (-1)) else (optC (I.smallWatchIn_t net) (fun c_2 => (leaf0_ c_2)) fail_))) fail_)
theorem I.WatchOf_tree_nat {α γ : Type} (g : α → γ) (net : List Int) (leaf0_ : Int → α) (fail_ : α) : g (I.WatchOf_tree net leaf0_ fail_) = I.WatchOf_tree net (fun d => g (leaf0_ d)) (g fail_) := by
  unfold I.WatchOf_tree; simp only [apply_cnd g, apply_optC g, apply_sumC g]
noncomputable def I.WatchOf_t (net : List Int) : Option (Int) := I.WatchOf_tree net (fun d => some d) none
theorem I.WatchOf_den (net : List Int) (κ : V → List E → R) : I.WatchOf_F [.ro false (.ints .i64 net)] [] κ = optC (I.WatchOf_t net) (fun (r : Int) => κ (.int .i64 r) []) none := by
  have hu : I.WatchOf_F [.ro false (.ints .i64 net)] [] κ = I.WatchOf_tree net (fun d => κ (.int .i64 d) []) none := by
    kernel_rfl
  rw [hu]
  exact (I.WatchOf_tree_nat (fun o => optC o (fun (r : Int) => κ (.int .i64 r) []) none) net (fun d => some d) none).symm
noncomputable def I.WatchOf_s : D.Spec where
  keep := false
  pure := true
  ds := [.int .i64]
  sp := fun args h κ => match args, h with
    | [.ro false (.ints .i64 net)], [] => optC (I.WatchOf_t net) (fun (r : Int) => κ (.int .i64 r) []) none
    | _, _ => none
theorem I.WatchOf_ok : SpecOk Try.prog 34 I.WatchOf_s := by
  refine SpecOk.of TDok mixed (T := I.WatchOf_T) ?_ (ann := I.WatchOf_ann) Try.func34 rfl (by decide +kernel) ?_ ?_ ?_
  · intro p hp
    simp only [I.WatchOf_T, List.mem_cons, List.not_mem_nil, or_false] at hp
    rcases hp with rfl | rfl
    · exact I.NetOk_ok
    · exact I.smallWatchIn_ok
  · intro args h κ r hh
    simp only [I.WatchOf_s] at hh
    split at hh
    · exact (I.WatchOf_den _ κ).trans hh
    · cases hh
  · intro args h κ r hh
    simp only [I.WatchOf_s] at hh ⊢
    split at hh
    · exact optC_law2 (F := fun (r : Int) κ => κ (.int .i64 r) []) (fun b κ r hb => ⟨_, _, hb, fun _ => rfl⟩) hh
    · cases hh
  · intro _ args h κ r hh
    simp only [I.WatchOf_s] at hh
    split at hh
    · exact ⟨rfl, fun _ => rfl⟩
    · cases hh

-- loop.example/guardsonnets/spec.WatchOf
noncomputable def S.WatchOf_T : List (Nat × D.Spec) := [(29, S.FewestWatch_s), (65, S.l1Size_s), (56, S.l2Watch_s)]
def S.WatchOf_ann : Nat → List Nat × List Nat
  | 3 => ([0, 3, 4], [2])
  | _ => ([], [])
noncomputable def S.WatchOf_F (args : List V) (h : List E) (κ : V → List E → R) : R := funC TD (tableK S.WatchOf_T) S.WatchOf_ann (drawOk (tableP S.WatchOf_T)) FUEL Try.f35 args h κ
noncomputable def S.WatchOf_L3 (n : Nat) (σ : St) (k : X → St → R) : R := iterC 0 (fun σ k => denC TD (tableK S.WatchOf_T) S.WatchOf_ann (drawOk (tableP S.WatchOf_T)) 0 FUEL ((findLoop 3 (Try.f35.body.getD .skip)).getD .skip) σ k) [0, 3, 4] [2] n σ k
noncomputable def S.WatchOf_k3 (κ : V → List E → R) : X → St → R := (afterC TD (tableK S.WatchOf_T) S.WatchOf_ann (drawOk (tableP S.WatchOf_T)) 0 FUEL 3 (Try.f35.body.getD .skip) (finC 0 Try.f35 κ)).getD (fun _ _ => none)
noncomputable def S.WatchOf_step3 {α : Type} (x0 : List Int) (x3 : Int) (x4 : Int) (next_ : Int → α) (out0_ : Int → α) (out1_ : Unit → α) (fail_ : α) : α :=
  (bif decide (x3 ≥ 0) then (bif decide (x4 < IntKind.i64.wrap (1 * 2 ^ min (↑x0.length : Int).toNat IntKind.i64.bits)) then (optC (S.l1Size_t x4) (fun c_2 => (bif c_2 == x3 then (optC (S.l2Watch_t x0 x4) (fun c_3 => (bif c_3 then (out0_ x4) else (next_ (IntKind.i64.wrap (x4 + 1))))) fail_) else (next_ (IntKind.i64.wrap (x4 + 1))))) fail_) else (out1_ ())) else (out1_ ()))
theorem S.WatchOf_step3_nat {α γ : Type} (g : α → γ) (x0 : List Int) (x3 : Int) (x4 : Int) (next_ : Int → α) (out0_ : Int → α) (out1_ : Unit → α) (fail_ : α) : g (S.WatchOf_step3 x0 x3 x4 next_ out0_ out1_ fail_) = S.WatchOf_step3 x0 x3 x4 (fun s => g (next_ s)) (fun d => g (out0_ d)) (fun d => g (out1_ d)) (g fail_) := by
  unfold S.WatchOf_step3; simp only [apply_cnd g, apply_optC g, apply_sumC g]
noncomputable def S.WatchOf_run3 (x0 : List Int) (x3 : Int) : Nat → Int → Option ((Int) ⊕ (Unit))
  | 0, _ => none
  | n + 1, s_ => S.WatchOf_step3 x0 x3 s_ (S.WatchOf_run3 x0 x3 n) (fun d => some ((Sum.inl d))) (fun d => some ((Sum.inr d))) none
theorem S.WatchOf_L3_run (x0 : List Int) (x3 : Int) (n : Nat) (s_ : Int) (k : X → St → R) : S.WatchOf_L3 n { n := 28, t := [(0, (.ro false (.ints .i64 x0))), (3, (.int .i64 x3)), (4, (.int .i64 s_))], h := [] } k = optC (S.WatchOf_run3 x0 x3 n s_) (fun (r : (Int) ⊕ (Unit)) => (sumC r (fun (r : Int) => k (.ret) { n := 28, t := [(2, (.int .i64 r))], h := [] }) (fun (r : Unit) => k (.exit 0) { n := 28, t := [(2, .junk)], h := [] }))) none := by
  induction n generalizing s_ with
  | zero => rfl
  | succ n ih =>
    have hu : S.WatchOf_L3 (n + 1) { n := 28, t := [(0, (.ro false (.ints .i64 x0))), (3, (.int .i64 x3)), (4, (.int .i64 s_))], h := [] } k = S.WatchOf_step3 x0 x3 s_ (fun s_ => S.WatchOf_L3 n { n := 28, t := [(0, (.ro false (.ints .i64 x0))), (3, (.int .i64 x3)), (4, (.int .i64 s_))], h := [] } k) (fun d => k (.ret) { n := 28, t := [(2, (.int .i64 d))], h := [] }) (fun d => k (.exit 0) { n := 28, t := [(2, .junk)], h := [] }) none := by
      kernel_rfl
    have hs : (fun s_ : Int => S.WatchOf_L3 n { n := 28, t := [(0, (.ro false (.ints .i64 x0))), (3, (.int .i64 x3)), (4, (.int .i64 s_))], h := [] } k) = fun s_ => optC (S.WatchOf_run3 x0 x3 n s_) (fun (r : (Int) ⊕ (Unit)) => (sumC r (fun (r : Int) => k (.ret) { n := 28, t := [(2, (.int .i64 r))], h := [] }) (fun (r : Unit) => k (.exit 0) { n := 28, t := [(2, .junk)], h := [] }))) none := funext ih
    rw [hu, hs]
    exact (S.WatchOf_step3_nat (fun o => optC o (fun (r : (Int) ⊕ (Unit)) => (sumC r (fun (r : Int) => k (.ret) { n := 28, t := [(2, (.int .i64 r))], h := [] }) (fun (r : Unit) => k (.exit 0) { n := 28, t := [(2, .junk)], h := [] }))) none) x0 x3 s_ (S.WatchOf_run3 x0 x3 n) (fun d => some ((Sum.inl d))) (fun d => some ((Sum.inr d))) none).symm
noncomputable def S.WatchOf_tree {α : Type} (net : List Int) (leaf0_ : Int → α) (fail_ : α) : α :=
  (optC (S.FewestWatch_t net) (fun c_1 => (optC (S.WatchOf_run3 net c_1 FUEL 0) (fun qy_4 => (sumC qy_4 (fun (qy_4 : Int) => (leaf0_ qy_4)) (fun (qy_4 : Unit) => (leaf0_ (-1))))) fail_)) fail_)
theorem S.WatchOf_tree_nat {α γ : Type} (g : α → γ) (net : List Int) (leaf0_ : Int → α) (fail_ : α) : g (S.WatchOf_tree net leaf0_ fail_) = S.WatchOf_tree net (fun d => g (leaf0_ d)) (g fail_) := by
  unfold S.WatchOf_tree; simp only [apply_cnd g, apply_optC g, apply_sumC g]
noncomputable def S.WatchOf_t (net : List Int) : Option (Int) := S.WatchOf_tree net (fun d => some d) none
theorem S.WatchOf_den (net : List Int) (κ : V → List E → R) : S.WatchOf_F [.ro false (.ints .i64 net)] [] κ = optC (S.WatchOf_t net) (fun (r : Int) => κ (.int .i64 r) []) none := by
  have hu : S.WatchOf_F [.ro false (.ints .i64 net)] [] κ = S.WatchOf_tree net (fun d => κ (.int .i64 d) []) none := by
    refine Eq.trans (show S.WatchOf_F [.ro false (.ints .i64 net)] [] κ = (optC (S.FewestWatch_t net) (fun c_1 => (S.WatchOf_L3 FUEL { n := 28, t := [(0, (.ro false (.ints .i64 net))), (3, (.int .i64 c_1)), (4, (.int .i64 0))], h := [] } (S.WatchOf_k3 κ))) none) by kernel_rfl) ?_
    refine optC_congr (fun c_1 => ?_)
    refine (S.WatchOf_L3_run net c_1 FUEL 0 (S.WatchOf_k3 κ)).trans (optC_congr (fun qy_4 => ?_))
    rcases qy_4 with qy_4 | qy_4
    · kernel_rfl
    · kernel_rfl
  rw [hu]
  exact (S.WatchOf_tree_nat (fun o => optC o (fun (r : Int) => κ (.int .i64 r) []) none) net (fun d => some d) none).symm
noncomputable def S.WatchOf_s : D.Spec where
  keep := false
  pure := true
  ds := [.int .i64]
  sp := fun args h κ => match args, h with
    | [.ro false (.ints .i64 net)], [] => optC (S.WatchOf_t net) (fun (r : Int) => κ (.int .i64 r) []) none
    | _, _ => none
theorem S.WatchOf_ok : SpecOk Try.prog 35 S.WatchOf_s := by
  refine SpecOk.of TDok mixed (T := S.WatchOf_T) ?_ (ann := S.WatchOf_ann) Try.func35 rfl (by decide +kernel) ?_ ?_ ?_
  · intro p hp
    simp only [S.WatchOf_T, List.mem_cons, List.not_mem_nil, or_false] at hp
    rcases hp with rfl | rfl | rfl
    · exact S.FewestWatch_ok
    · exact S.l1Size_ok
    · exact S.l2Watch_ok
  · intro args h κ r hh
    simp only [S.WatchOf_s] at hh
    split at hh
    · exact (S.WatchOf_den _ κ).trans hh
    · cases hh
  · intro args h κ r hh
    simp only [S.WatchOf_s] at hh ⊢
    split at hh
    · exact optC_law2 (F := fun (r : Int) κ => κ (.int .i64 r) []) (fun b κ r hb => ⟨_, _, hb, fun _ => rfl⟩) hh
    · cases hh
  · intro _ args h κ r hh
    simp only [S.WatchOf_s] at hh
    split at hh
    · exact ⟨rfl, fun _ => rfl⟩
    · cases hh

-- loop.example/guardsonnets/laws.FnWatchOf
noncomputable def L.FnWatchOf_T : List (Nat × D.Spec) := [(33, S.DrawWatchOf_s), (34, I.WatchOf_s), (35, S.WatchOf_s), (30, I.NetOk_s), (21, L.alive_s), (24, I.LeastWatchOk_s), (31, L.sizeOf_s), (28, I.FewestWatch_s), (26, I.LoneOf_s)]
def L.FnWatchOf_ann : Nat → List Nat × List Nat
  | _ => ([], [])
noncomputable def L.FnWatchOf_F (args : List V) (h : List E) (κ : V → List E → R) : R := funC TD (tableK L.FnWatchOf_T) L.FnWatchOf_ann (drawOk (tableP L.FnWatchOf_T)) FUEL Try.f6 args h κ
noncomputable def L.FnWatchOf_tree {α : Type} (code : List Int) (leaf0_ : Bool → α) (fail_ : α) : α :=
  (bif decide ((↑code.length : Int) > 1048576) then (leaf0_ true) else (optC (S.DrawWatchOf_t code) (fun c_1 => (optC (I.WatchOf_t c_1) (fun c_2 => (optC (S.WatchOf_t c_1) (fun c_3 => (bif !c_2 == c_3 then (leaf0_ false) else (bif decide (c_2 < 0) then (bif c_2 == -1 then (optC (I.NetOk_t c_1) (fun c_4 => (bif !c_4 then (optC (L.alive_t) (fun c_5 => (leaf0_ c_5)) fail_) else (leaf0_ false))) fail_) else (leaf0_ false)) else (optC (I.LeastWatchOk_t c_1 c_2) (fun c_6 => (bif c_6 then (optC (L.sizeOf_t c_2) (fun c_7 => (optC (I.FewestWatch_t c_1) (fun c_8 => (bif c_7 == c_8 then (optC (I.LoneOf_t c_1) (fun c_9 => (leaf0_ (bits BinOp.andNot IntKind.i64 c_9 c_2 == 0))) fail_) else (leaf0_ false))) fail_)) fail_) else (leaf0_ false))) fail_)))) fail_)) fail_)) fail_))
theorem L.FnWatchOf_tree_nat {α γ : Type} (g : α → γ) (code : List Int) (leaf0_ : Bool → α) (fail_ : α) : g (L.FnWatchOf_tree code leaf0_ fail_) = L.FnWatchOf_tree code (fun d => g (leaf0_ d)) (g fail_) := by
  unfold L.FnWatchOf_tree; simp only [apply_cnd g, apply_optC g, apply_sumC g]
noncomputable def L.FnWatchOf_t (code : List Int) : Option (Bool) := L.FnWatchOf_tree code (fun d => some d) none
theorem L.FnWatchOf_den (code : List Int) (κ : V → List E → R) : L.FnWatchOf_F [.ro true (.ints .u8 code)] [] κ = optC (L.FnWatchOf_t code) (fun (r : Bool) => κ (.bool r) []) none := by
  have hu : L.FnWatchOf_F [.ro true (.ints .u8 code)] [] κ = L.FnWatchOf_tree code (fun d => κ (.bool d) []) none := by
    kernel_rfl
  rw [hu]
  exact (L.FnWatchOf_tree_nat (fun o => optC o (fun (r : Bool) => κ (.bool r) []) none) code (fun d => some d) none).symm
noncomputable def L.FnWatchOf_s : D.Spec where
  keep := true
  pure := true
  ds := [.int .u8]
  sp := fun args h κ => match args, h with
    | [.ro true (.ints .u8 code)], [] => optC (L.FnWatchOf_t code) (fun (r : Bool) => κ (.bool r) []) none
    | _, _ => none
theorem L.FnWatchOf_ok : SpecOk Try.prog 6 L.FnWatchOf_s := by
  refine SpecOk.of TDok mixed (T := L.FnWatchOf_T) ?_ (ann := L.FnWatchOf_ann) Try.func6 rfl (by decide +kernel) ?_ ?_ ?_
  · intro p hp
    simp only [L.FnWatchOf_T, List.mem_cons, List.not_mem_nil, or_false] at hp
    rcases hp with rfl | rfl | rfl | rfl | rfl | rfl | rfl | rfl | rfl
    · exact S.DrawWatchOf_ok
    · exact I.WatchOf_ok
    · exact S.WatchOf_ok
    · exact I.NetOk_ok
    · exact L.alive_ok
    · exact I.LeastWatchOk_ok
    · exact L.sizeOf_ok
    · exact I.FewestWatch_ok
    · exact I.LoneOf_ok
  · intro args h κ r hh
    simp only [L.FnWatchOf_s] at hh
    split at hh
    · exact (L.FnWatchOf_den _ κ).trans hh
    · cases hh
  · intro args h κ r hh
    simp only [L.FnWatchOf_s] at hh ⊢
    split at hh
    · exact optC_law2 (F := fun (r : Bool) κ => κ (.bool r) []) (fun b κ r hb => ⟨_, _, hb, fun _ => rfl⟩) hh
    · cases hh
  · intro _ args h κ r hh
    simp only [L.FnWatchOf_s] at hh
    split at hh
    · exact ⟨rfl, fun _ => rfl⟩
    · cases hh

-- loop.example/guardsonnets/spec.DrawLeastWatches
noncomputable def S.DrawLeastWatches_T : List (Nat × D.Spec) := [(52, S.l20Open_s), (62, S.l20Net_s)]
def S.DrawLeastWatches_ann : Nat → List Nat × List Nat
  | _ => ([], [])
noncomputable def S.DrawLeastWatches_F (args : List V) (h : List E) (κ : V → List E → R) : R := funC TD (tableK S.DrawLeastWatches_T) S.DrawLeastWatches_ann (drawOk (tableP S.DrawLeastWatches_T)) FUEL Try.f36 args h κ
noncomputable def S.DrawLeastWatches_tree {α : Type} (code : List Int) (leaf0_ : List Int → α) (fail_ : α) : α :=
  (optC (S.l20Open_t code) (fun c_1 => (optC (S.l20Net_t c_1.fst c_1.snd 9) (fun c_2 => (leaf0_ c_2.snd.snd)) fail_)) fail_)
theorem S.DrawLeastWatches_tree_nat {α γ : Type} (g : α → γ) (code : List Int) (leaf0_ : List Int → α) (fail_ : α) : g (S.DrawLeastWatches_tree code leaf0_ fail_) = S.DrawLeastWatches_tree code (fun d => g (leaf0_ d)) (g fail_) := by
  unfold S.DrawLeastWatches_tree; simp only [apply_cnd g, apply_optC g, apply_sumC g]
noncomputable def S.DrawLeastWatches_t (code : List Int) : Option (List Int) := S.DrawLeastWatches_tree code (fun d => some d) none
theorem S.DrawLeastWatches_den (code : List Int) (κ : V → List E → R) : S.DrawLeastWatches_F [.ro true (.ints .u8 code)] [] κ = optC (S.DrawLeastWatches_t code) (fun (r : List Int) => κ (.own 0) [.row (.ints .i64 r)]) none := by
  have hu : S.DrawLeastWatches_F [.ro true (.ints .u8 code)] [] κ = S.DrawLeastWatches_tree code (fun d => κ (.own 0) [.row (.ints .i64 d)]) none := by
    kernel_rfl
  rw [hu]
  exact (S.DrawLeastWatches_tree_nat (fun o => optC o (fun (r : List Int) => κ (.own 0) [.row (.ints .i64 r)]) none) code (fun d => some d) none).symm
noncomputable def S.DrawLeastWatches_s : D.Spec where
  keep := true
  pure := false
  ds := [.int .u8]
  sp := fun args h κ => match args, h with
    | [.ro true (.ints .u8 code)], [] => optC (S.DrawLeastWatches_t code) (fun (r : List Int) => κ (.own 0) [.row (.ints .i64 r)]) none
    | _, _ => none
theorem S.DrawLeastWatches_ok : SpecOk Try.prog 36 S.DrawLeastWatches_s := by
  refine SpecOk.of TDok mixed (T := S.DrawLeastWatches_T) ?_ (ann := S.DrawLeastWatches_ann) Try.func36 rfl (by decide +kernel) ?_ ?_ ?_
  · intro p hp
    simp only [S.DrawLeastWatches_T, List.mem_cons, List.not_mem_nil, or_false] at hp
    rcases hp with rfl | rfl
    · exact S.l20Open_ok
    · exact S.l20Net_ok
  · intro args h κ r hh
    simp only [S.DrawLeastWatches_s] at hh
    split at hh
    · exact (S.DrawLeastWatches_den _ κ).trans hh
    · cases hh
  · intro args h κ r hh
    simp only [S.DrawLeastWatches_s] at hh ⊢
    split at hh
    · exact optC_law2 (F := fun (r : List Int) κ => κ (.own 0) [.row (.ints .i64 r)]) (fun b κ r hb => ⟨_, _, hb, fun _ => rfl⟩) hh
    · cases hh
  · intro hh; cases hh

-- loop.example/guardsonnets/impl.LeastWatches
noncomputable def I.LeastWatches_T : List (Nat × D.Spec) := [(30, I.NetOk_s), (69, I.allOf_s), (60, I.leastWatchIn_s)]
def I.LeastWatches_ann : Nat → List Nat × List Nat
  | 5 => ([0, 3, 4], [3])
  | _ => ([], [])
noncomputable def I.LeastWatches_F (args : List V) (h : List E) (κ : V → List E → R) : R := funC TD (tableK I.LeastWatches_T) I.LeastWatches_ann (drawOk (tableP I.LeastWatches_T)) FUEL Try.f37 args h κ
noncomputable def I.LeastWatches_L5 (n : Nat) (σ : St) (k : X → St → R) : R := iterC 0 (fun σ k => denC TD (tableK I.LeastWatches_T) I.LeastWatches_ann (drawOk (tableP I.LeastWatches_T)) 0 FUEL ((findLoop 5 (Try.f37.body.getD .skip)).getD .skip) σ k) [0, 3, 4] [3] n σ k
noncomputable def I.LeastWatches_k5 (κ : V → List E → R) : X → St → R := (afterC TD (tableK I.LeastWatches_T) I.LeastWatches_ann (drawOk (tableP I.LeastWatches_T)) 0 FUEL 5 (Try.f37.body.getD .skip) (finC 0 Try.f37 κ)).getD (fun _ _ => none)
noncomputable def I.LeastWatches_step5 {α : Type} (x0 : List Int) (x4 : Int) (r0 : List Int) (next_ : Int × (List Int) → α) (out0_ : List Int → α) (fail_ : α) : α :=
  (optC (I.allOf_t x0) (fun c_2 => (bif decide (x4 ≤ c_2) then (optC (I.leastWatchIn_t x0 x4) (fun c_3 => (bif c_3 then (bif small (r0 ++ [x4]).length then (next_ (IntKind.i64.wrap (x4 + 1), r0 ++ [x4])) else fail_) else (next_ (IntKind.i64.wrap (x4 + 1), r0)))) fail_) else (out0_ r0))) fail_)
theorem I.LeastWatches_step5_nat {α γ : Type} (g : α → γ) (x0 : List Int) (x4 : Int) (r0 : List Int) (next_ : Int × (List Int) → α) (out0_ : List Int → α) (fail_ : α) : g (I.LeastWatches_step5 x0 x4 r0 next_ out0_ fail_) = I.LeastWatches_step5 x0 x4 r0 (fun s => g (next_ s)) (fun d => g (out0_ d)) (g fail_) := by
  unfold I.LeastWatches_step5; simp only [apply_cnd g, apply_optC g, apply_sumC g]
noncomputable def I.LeastWatches_run5 (x0 : List Int) : Nat → Int × (List Int) → Option (List Int)
  | 0, _ => none
  | n + 1, s_ => I.LeastWatches_step5 x0 s_.1 s_.2 (I.LeastWatches_run5 x0 n) (fun d => some d) none
theorem I.LeastWatches_L5_run (x0 : List Int) (n : Nat) (s_ : Int × (List Int)) (k : X → St → R) : I.LeastWatches_L5 n { n := 23, t := [(0, (.ro false (.ints .i64 x0))), (3, (.own 0)), (4, (.int .i64 s_.1))], h := [.row (.ints .i64 s_.2)] } k = optC (I.LeastWatches_run5 x0 n s_) (fun (r : List Int) => k (.exit 0) { n := 23, t := [(3, (.own 0))], h := [.row (.ints .i64 r)] }) none := by
  induction n generalizing s_ with
  | zero => rfl
  | succ n ih =>
    have hu : I.LeastWatches_L5 (n + 1) { n := 23, t := [(0, (.ro false (.ints .i64 x0))), (3, (.own 0)), (4, (.int .i64 s_.1))], h := [.row (.ints .i64 s_.2)] } k = I.LeastWatches_step5 x0 s_.1 s_.2 (fun s_ => I.LeastWatches_L5 n { n := 23, t := [(0, (.ro false (.ints .i64 x0))), (3, (.own 0)), (4, (.int .i64 s_.1))], h := [.row (.ints .i64 s_.2)] } k) (fun d => k (.exit 0) { n := 23, t := [(3, (.own 0))], h := [.row (.ints .i64 d)] }) none := by
      kernel_rfl
    have hs : (fun s_ : Int × (List Int) => I.LeastWatches_L5 n { n := 23, t := [(0, (.ro false (.ints .i64 x0))), (3, (.own 0)), (4, (.int .i64 s_.1))], h := [.row (.ints .i64 s_.2)] } k) = fun s_ => optC (I.LeastWatches_run5 x0 n s_) (fun (r : List Int) => k (.exit 0) { n := 23, t := [(3, (.own 0))], h := [.row (.ints .i64 r)] }) none := funext ih
    rw [hu, hs]
    exact (I.LeastWatches_step5_nat (fun o => optC o (fun (r : List Int) => k (.exit 0) { n := 23, t := [(3, (.own 0))], h := [.row (.ints .i64 r)] }) none) x0 s_.1 s_.2 (I.LeastWatches_run5 x0 n) (fun d => some d) none).symm
noncomputable def I.LeastWatches_tree {α : Type} (net : List Int) (leaf0_ : List Int → α) (fail_ : α) : α :=
  (optC (I.NetOk_t net) (fun c_1 => (bif !c_1 then (leaf0_ ([])) else (optC (I.LeastWatches_run5 net FUEL (0, [])) (fun qy_4 => (leaf0_ qy_4)) fail_))) fail_)
theorem I.LeastWatches_tree_nat {α γ : Type} (g : α → γ) (net : List Int) (leaf0_ : List Int → α) (fail_ : α) : g (I.LeastWatches_tree net leaf0_ fail_) = I.LeastWatches_tree net (fun d => g (leaf0_ d)) (g fail_) := by
  unfold I.LeastWatches_tree; simp only [apply_cnd g, apply_optC g, apply_sumC g]
noncomputable def I.LeastWatches_t (net : List Int) : Option (List Int) := I.LeastWatches_tree net (fun d => some d) none
theorem I.LeastWatches_den (net : List Int) (κ : V → List E → R) : I.LeastWatches_F [.ro false (.ints .i64 net)] [] κ = optC (I.LeastWatches_t net) (fun (r : List Int) => κ (.own 0) [.row (.ints .i64 r)]) none := by
  have hu : I.LeastWatches_F [.ro false (.ints .i64 net)] [] κ = I.LeastWatches_tree net (fun d => κ (.own 0) [.row (.ints .i64 d)]) none := by
    refine Eq.trans (show I.LeastWatches_F [.ro false (.ints .i64 net)] [] κ = (optC (I.NetOk_t net) (fun c_1 => (bif !c_1 then (κ (.own 0) [.row (.ints .i64 ([]))]) else (I.LeastWatches_L5 FUEL { n := 23, t := [(0, (.ro false (.ints .i64 net))), (3, (.own 0)), (4, (.int .i64 0))], h := [.row (.ints .i64 ([]))] } (I.LeastWatches_k5 κ)))) none) by kernel_rfl) ?_
    refine optC_congr (fun c_1 => ?_)
    refine cnd_congr ?_ ?_
    · kernel_rfl
    · refine (I.LeastWatches_L5_run net FUEL (0, []) (I.LeastWatches_k5 κ)).trans (optC_congr (fun qy_4 => ?_))
      kernel_rfl
  rw [hu]
  exact (I.LeastWatches_tree_nat (fun o => optC o (fun (r : List Int) => κ (.own 0) [.row (.ints .i64 r)]) none) net (fun d => some d) none).symm
noncomputable def I.LeastWatches_s : D.Spec where
  keep := false
  pure := false
  ds := [.int .i64]
  sp := fun args h κ => match args, h with
    | [.ro false (.ints .i64 net)], [] => optC (I.LeastWatches_t net) (fun (r : List Int) => κ (.own 0) [.row (.ints .i64 r)]) none
    | _, _ => none
theorem I.LeastWatches_ok : SpecOk Try.prog 37 I.LeastWatches_s := by
  refine SpecOk.of TDok mixed (T := I.LeastWatches_T) ?_ (ann := I.LeastWatches_ann) Try.func37 rfl (by decide +kernel) ?_ ?_ ?_
  · intro p hp
    simp only [I.LeastWatches_T, List.mem_cons, List.not_mem_nil, or_false] at hp
    rcases hp with rfl | rfl | rfl
    · exact I.NetOk_ok
    · exact I.allOf_ok
    · exact I.leastWatchIn_ok
  · intro args h κ r hh
    simp only [I.LeastWatches_s] at hh
    split at hh
    · exact (I.LeastWatches_den _ κ).trans hh
    · cases hh
  · intro args h κ r hh
    simp only [I.LeastWatches_s] at hh ⊢
    split at hh
    · exact optC_law2 (F := fun (r : List Int) κ => κ (.own 0) [.row (.ints .i64 r)]) (fun b κ r hb => ⟨_, _, hb, fun _ => rfl⟩) hh
    · cases hh
  · intro hh; cases hh

-- loop.example/guardsonnets/laws.sameInts
noncomputable def L.sameInts_T : List (Nat × D.Spec) := []
def L.sameInts_ann : Nat → List Nat × List Nat
  | 4 => ([0, 1, 5], [4])
  | _ => ([], [])
noncomputable def L.sameInts_F (args : List V) (h : List E) (κ : V → List E → R) : R := funC TD (tableK L.sameInts_T) L.sameInts_ann (drawOk (tableP L.sameInts_T)) FUEL Try.f38 args h κ
noncomputable def L.sameInts_L4 (n : Nat) (σ : St) (k : X → St → R) : R := iterC 0 (fun σ k => denC TD (tableK L.sameInts_T) L.sameInts_ann (drawOk (tableP L.sameInts_T)) 0 FUEL ((findLoop 4 (Try.f38.body.getD .skip)).getD .skip) σ k) [0, 1, 5] [4] n σ k
noncomputable def L.sameInts_k4 (κ : V → List E → R) : X → St → R := (afterC TD (tableK L.sameInts_T) L.sameInts_ann (drawOk (tableP L.sameInts_T)) 0 FUEL 4 (Try.f38.body.getD .skip) (finC 0 Try.f38 κ)).getD (fun _ _ => none)
noncomputable def L.sameInts_step4 {α : Type} (x0 : List Int) (x1 : List Int) (x5 : Int) (next_ : Int → α) (out0_ : Bool → α) (out1_ : Unit → α) (fail_ : α) : α :=
  (bif decide (x5 < (↑x0.length : Int)) then (bif decide (0 ≤ x5) && decide (x5 < (↑x0.length : Int)) then (bif decide (0 ≤ x5) && decide (x5 < (↑x1.length : Int)) then (bif !eli x0 x5.toNat == eli x1 x5.toNat then (out0_ false) else (next_ (IntKind.i64.wrap (x5 + 1)))) else fail_) else fail_) else (out1_ ()))
theorem L.sameInts_step4_nat {α γ : Type} (g : α → γ) (x0 : List Int) (x1 : List Int) (x5 : Int) (next_ : Int → α) (out0_ : Bool → α) (out1_ : Unit → α) (fail_ : α) : g (L.sameInts_step4 x0 x1 x5 next_ out0_ out1_ fail_) = L.sameInts_step4 x0 x1 x5 (fun s => g (next_ s)) (fun d => g (out0_ d)) (fun d => g (out1_ d)) (g fail_) := by
  unfold L.sameInts_step4; simp only [apply_cnd g, apply_optC g, apply_sumC g]
noncomputable def L.sameInts_run4 (x0 : List Int) (x1 : List Int) : Nat → Int → Option ((Bool) ⊕ (Unit))
  | 0, _ => none
  | n + 1, s_ => L.sameInts_step4 x0 x1 s_ (L.sameInts_run4 x0 x1 n) (fun d => some ((Sum.inl d))) (fun d => some ((Sum.inr d))) none
theorem L.sameInts_L4_run (x0 : List Int) (x1 : List Int) (n : Nat) (s_ : Int) (k : X → St → R) : L.sameInts_L4 n { n := 26, t := [(0, (.ro false (.ints .i64 x0))), (1, (.ro false (.ints .i64 x1))), (5, (.int .i64 s_))], h := [] } k = optC (L.sameInts_run4 x0 x1 n s_) (fun (r : (Bool) ⊕ (Unit)) => (sumC r (fun (r : Bool) => k (.ret) { n := 26, t := [(4, (.bool r))], h := [] }) (fun (r : Unit) => k (.exit 0) { n := 26, t := [(4, .junk)], h := [] }))) none := by
  induction n generalizing s_ with
  | zero => rfl
  | succ n ih =>
    have hu : L.sameInts_L4 (n + 1) { n := 26, t := [(0, (.ro false (.ints .i64 x0))), (1, (.ro false (.ints .i64 x1))), (5, (.int .i64 s_))], h := [] } k = L.sameInts_step4 x0 x1 s_ (fun s_ => L.sameInts_L4 n { n := 26, t := [(0, (.ro false (.ints .i64 x0))), (1, (.ro false (.ints .i64 x1))), (5, (.int .i64 s_))], h := [] } k) (fun d => k (.ret) { n := 26, t := [(4, (.bool d))], h := [] }) (fun d => k (.exit 0) { n := 26, t := [(4, .junk)], h := [] }) none := by
      kernel_rfl
    have hs : (fun s_ : Int => L.sameInts_L4 n { n := 26, t := [(0, (.ro false (.ints .i64 x0))), (1, (.ro false (.ints .i64 x1))), (5, (.int .i64 s_))], h := [] } k) = fun s_ => optC (L.sameInts_run4 x0 x1 n s_) (fun (r : (Bool) ⊕ (Unit)) => (sumC r (fun (r : Bool) => k (.ret) { n := 26, t := [(4, (.bool r))], h := [] }) (fun (r : Unit) => k (.exit 0) { n := 26, t := [(4, .junk)], h := [] }))) none := funext ih
    rw [hu, hs]
    exact (L.sameInts_step4_nat (fun o => optC o (fun (r : (Bool) ⊕ (Unit)) => (sumC r (fun (r : Bool) => k (.ret) { n := 26, t := [(4, (.bool r))], h := [] }) (fun (r : Unit) => k (.exit 0) { n := 26, t := [(4, .junk)], h := [] }))) none) x0 x1 s_ (L.sameInts_run4 x0 x1 n) (fun d => some ((Sum.inl d))) (fun d => some ((Sum.inr d))) none).symm
noncomputable def L.sameInts_tree {α : Type} (a : List Int) (b_ : List Int) (leaf0_ : Bool → α) (fail_ : α) : α :=
  (bif !(↑a.length : Int) == (↑b_.length : Int) then (leaf0_ false) else (optC (L.sameInts_run4 a b_ FUEL 0) (fun qy_1 => (sumC qy_1 (fun (qy_1 : Bool) => (leaf0_ qy_1)) (fun (qy_1 : Unit) => (leaf0_ true)))) fail_))
theorem L.sameInts_tree_nat {α γ : Type} (g : α → γ) (a : List Int) (b_ : List Int) (leaf0_ : Bool → α) (fail_ : α) : g (L.sameInts_tree a b_ leaf0_ fail_) = L.sameInts_tree a b_ (fun d => g (leaf0_ d)) (g fail_) := by
  unfold L.sameInts_tree; simp only [apply_cnd g, apply_optC g, apply_sumC g]
noncomputable def L.sameInts_t (a : List Int) (b_ : List Int) : Option (Bool) := L.sameInts_tree a b_ (fun d => some d) none
theorem L.sameInts_den (a : List Int) (b_ : List Int) (κ : V → List E → R) : L.sameInts_F [.ro false (.ints .i64 a), .ro false (.ints .i64 b_)] [] κ = optC (L.sameInts_t a b_) (fun (r : Bool) => κ (.bool r) []) none := by
  have hu : L.sameInts_F [.ro false (.ints .i64 a), .ro false (.ints .i64 b_)] [] κ = L.sameInts_tree a b_ (fun d => κ (.bool d) []) none := by
    refine Eq.trans (show L.sameInts_F [.ro false (.ints .i64 a), .ro false (.ints .i64 b_)] [] κ = (bif !(↑a.length : Int) == (↑b_.length : Int) then (κ (.bool false) []) else (L.sameInts_L4 FUEL { n := 26, t := [(0, (.ro false (.ints .i64 a))), (1, (.ro false (.ints .i64 b_))), (5, (.int .i64 0))], h := [] } (L.sameInts_k4 κ))) by kernel_rfl) ?_
    refine cnd_congr ?_ ?_
    · kernel_rfl
    · refine (L.sameInts_L4_run a b_ FUEL 0 (L.sameInts_k4 κ)).trans (optC_congr (fun qy_1 => ?_))
      rcases qy_1 with qy_1 | qy_1
      · kernel_rfl
      · kernel_rfl
  rw [hu]
  exact (L.sameInts_tree_nat (fun o => optC o (fun (r : Bool) => κ (.bool r) []) none) a b_ (fun d => some d) none).symm
noncomputable def L.sameInts_s : D.Spec where
  keep := false
  pure := true
  ds := [.int .i64, .int .i64]
  sp := fun args h κ => match args, h with
    | [.ro false (.ints .i64 a), .ro false (.ints .i64 b_)], [] => optC (L.sameInts_t a b_) (fun (r : Bool) => κ (.bool r) []) none
    | _, _ => none
theorem L.sameInts_ok : SpecOk Try.prog 38 L.sameInts_s := by
  refine SpecOk.of TDok mixed (T := L.sameInts_T) ?_ (ann := L.sameInts_ann) Try.func38 rfl (by decide +kernel) ?_ ?_ ?_
  · intro p hp; cases hp
  · intro args h κ r hh
    simp only [L.sameInts_s] at hh
    split at hh
    · exact (L.sameInts_den _ _ κ).trans hh
    · cases hh
  · intro args h κ r hh
    simp only [L.sameInts_s] at hh ⊢
    split at hh
    · exact optC_law2 (F := fun (r : Bool) κ => κ (.bool r) []) (fun b κ r hb => ⟨_, _, hb, fun _ => rfl⟩) hh
    · cases hh
  · intro _ args h κ r hh
    simp only [L.sameInts_s] at hh
    split at hh
    · exact ⟨rfl, fun _ => rfl⟩
    · cases hh

-- loop.example/guardsonnets/laws.ascend
noncomputable def L.ascend_T : List (Nat × D.Spec) := []
def L.ascend_ann : Nat → List Nat × List Nat
  | 2 => ([0, 3], [2])
  | _ => ([], [])
noncomputable def L.ascend_F (args : List V) (h : List E) (κ : V → List E → R) : R := funC TD (tableK L.ascend_T) L.ascend_ann (drawOk (tableP L.ascend_T)) FUEL Try.f40 args h κ
noncomputable def L.ascend_L2 (n : Nat) (σ : St) (k : X → St → R) : R := iterC 0 (fun σ k => denC TD (tableK L.ascend_T) L.ascend_ann (drawOk (tableP L.ascend_T)) 0 FUEL ((findLoop 2 (Try.f40.body.getD .skip)).getD .skip) σ k) [0, 3] [2] n σ k
noncomputable def L.ascend_k2 (κ : V → List E → R) : X → St → R := (afterC TD (tableK L.ascend_T) L.ascend_ann (drawOk (tableP L.ascend_T)) 0 FUEL 2 (Try.f40.body.getD .skip) (finC 0 Try.f40 κ)).getD (fun _ _ => none)
noncomputable def L.ascend_step2 {α : Type} (x0 : List Int) (x3 : Int) (next_ : Int → α) (out0_ : Bool → α) (out1_ : Unit → α) (fail_ : α) : α :=
  (bif decide (x3 < (↑x0.length : Int)) then (bif decide (0 ≤ IntKind.i64.wrap (x3 - 1)) && decide (IntKind.i64.wrap (x3 - 1) < (↑x0.length : Int)) then (bif decide (0 ≤ x3) && decide (x3 < (↑x0.length : Int)) then (bif decide (eli x0 (IntKind.i64.wrap (x3 - 1)).toNat ≥ eli x0 x3.toNat) then (out0_ false) else (next_ (IntKind.i64.wrap (x3 + 1)))) else fail_) else fail_) else (out1_ ()))
theorem L.ascend_step2_nat {α γ : Type} (g : α → γ) (x0 : List Int) (x3 : Int) (next_ : Int → α) (out0_ : Bool → α) (out1_ : Unit → α) (fail_ : α) : g (L.ascend_step2 x0 x3 next_ out0_ out1_ fail_) = L.ascend_step2 x0 x3 (fun s => g (next_ s)) (fun d => g (out0_ d)) (fun d => g (out1_ d)) (g fail_) := by
  unfold L.ascend_step2; simp only [apply_cnd g, apply_optC g, apply_sumC g]
noncomputable def L.ascend_run2 (x0 : List Int) : Nat → Int → Option ((Bool) ⊕ (Unit))
  | 0, _ => none
  | n + 1, s_ => L.ascend_step2 x0 s_ (L.ascend_run2 x0 n) (fun d => some ((Sum.inl d))) (fun d => some ((Sum.inr d))) none
theorem L.ascend_L2_run (x0 : List Int) (n : Nat) (s_ : Int) (k : X → St → R) : L.ascend_L2 n { n := 20, t := [(0, (.ro false (.ints .i64 x0))), (3, (.int .i64 s_))], h := [] } k = optC (L.ascend_run2 x0 n s_) (fun (r : (Bool) ⊕ (Unit)) => (sumC r (fun (r : Bool) => k (.ret) { n := 20, t := [(2, (.bool r))], h := [] }) (fun (r : Unit) => k (.exit 0) { n := 20, t := [(2, .junk)], h := [] }))) none := by
  induction n generalizing s_ with
  | zero => rfl
  | succ n ih =>
    have hu : L.ascend_L2 (n + 1) { n := 20, t := [(0, (.ro false (.ints .i64 x0))), (3, (.int .i64 s_))], h := [] } k = L.ascend_step2 x0 s_ (fun s_ => L.ascend_L2 n { n := 20, t := [(0, (.ro false (.ints .i64 x0))), (3, (.int .i64 s_))], h := [] } k) (fun d => k (.ret) { n := 20, t := [(2, (.bool d))], h := [] }) (fun d => k (.exit 0) { n := 20, t := [(2, .junk)], h := [] }) none := by
      kernel_rfl
    have hs : (fun s_ : Int => L.ascend_L2 n { n := 20, t := [(0, (.ro false (.ints .i64 x0))), (3, (.int .i64 s_))], h := [] } k) = fun s_ => optC (L.ascend_run2 x0 n s_) (fun (r : (Bool) ⊕ (Unit)) => (sumC r (fun (r : Bool) => k (.ret) { n := 20, t := [(2, (.bool r))], h := [] }) (fun (r : Unit) => k (.exit 0) { n := 20, t := [(2, .junk)], h := [] }))) none := funext ih
    rw [hu, hs]
    exact (L.ascend_step2_nat (fun o => optC o (fun (r : (Bool) ⊕ (Unit)) => (sumC r (fun (r : Bool) => k (.ret) { n := 20, t := [(2, (.bool r))], h := [] }) (fun (r : Unit) => k (.exit 0) { n := 20, t := [(2, .junk)], h := [] }))) none) x0 s_ (L.ascend_run2 x0 n) (fun d => some ((Sum.inl d))) (fun d => some ((Sum.inr d))) none).symm
noncomputable def L.ascend_tree {α : Type} (list : List Int) (leaf0_ : Bool → α) (fail_ : α) : α :=
  (optC (L.ascend_run2 list FUEL 1) (fun qy_1 => (sumC qy_1 (fun (qy_1 : Bool) => (leaf0_ qy_1)) (fun (qy_1 : Unit) => (leaf0_ true)))) fail_)
theorem L.ascend_tree_nat {α γ : Type} (g : α → γ) (list : List Int) (leaf0_ : Bool → α) (fail_ : α) : g (L.ascend_tree list leaf0_ fail_) = L.ascend_tree list (fun d => g (leaf0_ d)) (g fail_) := by
  unfold L.ascend_tree; simp only [apply_cnd g, apply_optC g, apply_sumC g]
noncomputable def L.ascend_t (list : List Int) : Option (Bool) := L.ascend_tree list (fun d => some d) none
theorem L.ascend_den (list : List Int) (κ : V → List E → R) : L.ascend_F [.ro false (.ints .i64 list)] [] κ = optC (L.ascend_t list) (fun (r : Bool) => κ (.bool r) []) none := by
  have hu : L.ascend_F [.ro false (.ints .i64 list)] [] κ = L.ascend_tree list (fun d => κ (.bool d) []) none := by
    refine Eq.trans (show L.ascend_F [.ro false (.ints .i64 list)] [] κ = (L.ascend_L2 FUEL { n := 20, t := [(0, (.ro false (.ints .i64 list))), (3, (.int .i64 1))], h := [] } (L.ascend_k2 κ)) by kernel_rfl) ?_
    refine (L.ascend_L2_run list FUEL 1 (L.ascend_k2 κ)).trans (optC_congr (fun qy_1 => ?_))
    rcases qy_1 with qy_1 | qy_1
    · kernel_rfl
    · kernel_rfl
  rw [hu]
  exact (L.ascend_tree_nat (fun o => optC o (fun (r : Bool) => κ (.bool r) []) none) list (fun d => some d) none).symm
noncomputable def L.ascend_s : D.Spec where
  keep := false
  pure := true
  ds := [.int .i64]
  sp := fun args h κ => match args, h with
    | [.ro false (.ints .i64 list)], [] => optC (L.ascend_t list) (fun (r : Bool) => κ (.bool r) []) none
    | _, _ => none
theorem L.ascend_ok : SpecOk Try.prog 40 L.ascend_s := by
  refine SpecOk.of TDok mixed (T := L.ascend_T) ?_ (ann := L.ascend_ann) Try.func40 rfl (by decide +kernel) ?_ ?_ ?_
  · intro p hp; cases hp
  · intro args h κ r hh
    simp only [L.ascend_s] at hh
    split at hh
    · exact (L.ascend_den _ κ).trans hh
    · cases hh
  · intro args h κ r hh
    simp only [L.ascend_s] at hh ⊢
    split at hh
    · exact optC_law2 (F := fun (r : Bool) κ => κ (.bool r) []) (fun b κ r hb => ⟨_, _, hb, fun _ => rfl⟩) hh
    · cases hh
  · intro _ args h κ r hh
    simp only [L.ascend_s] at hh
    split at hh
    · exact ⟨rfl, fun _ => rfl⟩
    · cases hh

-- loop.example/guardsonnets/laws.FnLeastWatches
noncomputable def L.FnLeastWatches_T : List (Nat × D.Spec) := [(36, S.DrawLeastWatches_s), (37, I.LeastWatches_s), (39, S.LeastWatches_s), (38, L.sameInts_s), (30, I.NetOk_s), (21, L.alive_s), (18, I.WatchOk_s), (24, I.LeastWatchOk_s), (40, L.ascend_s)]
def L.FnLeastWatches_ann : Nat → List Nat × List Nat
  | 20 => ([3, 4, 8], [2, 4])
  | 14 => ([3, 4, 5, 6, 7], [3, 4, 5, 6])
  | 10 => ([3, 4, 5], [2, 3, 4])
  | _ => ([], [])
noncomputable def L.FnLeastWatches_F (args : List V) (h : List E) (κ : V → List E → R) : R := funC TD (tableK L.FnLeastWatches_T) L.FnLeastWatches_ann (drawOk (tableP L.FnLeastWatches_T)) FUEL Try.f7 args h κ
noncomputable def L.FnLeastWatches_L20 (n : Nat) (σ : St) (k : X → St → R) : R := iterC 0 (fun σ k => denC TD (tableK L.FnLeastWatches_T) L.FnLeastWatches_ann (drawOk (tableP L.FnLeastWatches_T)) 0 FUEL ((findLoop 20 (Try.f7.body.getD .skip)).getD .skip) σ k) [3, 4, 8] [2, 4] n σ k
noncomputable def L.FnLeastWatches_L14 (n : Nat) (σ : St) (k : X → St → R) : R := iterC 0 (fun σ k => denC TD (tableK L.FnLeastWatches_T) L.FnLeastWatches_ann (drawOk (tableP L.FnLeastWatches_T)) 0 FUEL ((findLoop 14 (Try.f7.body.getD .skip)).getD .skip) σ k) [3, 4, 5, 6, 7] [3, 4, 5, 6] n σ k
noncomputable def L.FnLeastWatches_L10 (n : Nat) (σ : St) (k : X → St → R) : R := iterC 0 (fun σ k => denC TD (tableK L.FnLeastWatches_T) L.FnLeastWatches_ann (drawOk (tableP L.FnLeastWatches_T)) 0 FUEL ((findLoop 10 (Try.f7.body.getD .skip)).getD .skip) σ k) [3, 4, 5] [2, 3, 4] n σ k
noncomputable def L.FnLeastWatches_k14 (c : (St → R) × (X → St → R)) : X → St → R := (afterC TD (tableK L.FnLeastWatches_T) L.FnLeastWatches_ann (drawOk (tableP L.FnLeastWatches_T)) 0 FUEL 14 ((findLoop 10 (Try.f7.body.getD .skip)).getD .skip) (roundC 0 [3, 4, 5] [2, 3, 4] c.1 c.2)).getD (fun _ _ => none)
noncomputable def L.FnLeastWatches_k10 (κ : V → List E → R) : X → St → R := (afterC TD (tableK L.FnLeastWatches_T) L.FnLeastWatches_ann (drawOk (tableP L.FnLeastWatches_T)) 0 FUEL 10 (Try.f7.body.getD .skip) (finC 0 Try.f7 κ)).getD (fun _ _ => none)
noncomputable def L.FnLeastWatches_k20 (κ : V → List E → R) : X → St → R := (afterC TD (tableK L.FnLeastWatches_T) L.FnLeastWatches_ann (drawOk (tableP L.FnLeastWatches_T)) 0 FUEL 20 (Try.f7.body.getD .skip) (finC 0 Try.f7 κ)).getD (fun _ _ => none)
noncomputable def L.FnLeastWatches_step14 {α : Type} (x5 : Int) (x6 : Bool) (x7 : Int) (r0 : List Int) (r1 : List Int) (next_ : Bool × Int × (List Int) × (List Int) → α) (out0_ : Bool × (List Int) × (List Int) → α) (fail_ : α) : α :=
  (bif decide (x7 < (↑r1.length : Int)) then (bif x6 then (next_ (true, IntKind.i64.wrap (x7 + 1), r0, r1)) else (bif decide (0 ≤ x7) && decide (x7 < (↑r1.length : Int)) then (bif decide (x7.toNat < r1.length) then (next_ (bits BinOp.andNot IntKind.i64 (eli r1 x7.toNat) x5 == 0, IntKind.i64.wrap (x7 + 1), r0, r1)) else fail_) else fail_)) else (out0_ (x6, r0, r1)))
theorem L.FnLeastWatches_step14_nat {α γ : Type} (g : α → γ) (x5 : Int) (x6 : Bool) (x7 : Int) (r0 : List Int) (r1 : List Int) (next_ : Bool × Int × (List Int) × (List Int) → α) (out0_ : Bool × (List Int) × (List Int) → α) (fail_ : α) : g (L.FnLeastWatches_step14 x5 x6 x7 r0 r1 next_ out0_ fail_) = L.FnLeastWatches_step14 x5 x6 x7 r0 r1 (fun s => g (next_ s)) (fun d => g (out0_ d)) (g fail_) := by
  unfold L.FnLeastWatches_step14; simp only [apply_cnd g, apply_optC g, apply_sumC g]
noncomputable def L.FnLeastWatches_run14 (x5 : Int) : Nat → Bool × Int × (List Int) × (List Int) → Option (Bool × (List Int) × (List Int))
  | 0, _ => none
  | n + 1, s_ => L.FnLeastWatches_step14 x5 s_.1 s_.2.1 s_.2.2.1 s_.2.2.2 (L.FnLeastWatches_run14 x5 n) (fun d => some d) none
theorem L.FnLeastWatches_L14_run (x5 : Int) (n : Nat) (s_ : Bool × Int × (List Int) × (List Int)) (k : X → St → R) : L.FnLeastWatches_L14 n { n := 73, t := [(3, (.own 0)), (4, (.own 1)), (5, (.int .i64 x5)), (6, (.bool s_.1)), (7, (.int .i64 s_.2.1))], h := [.row (.ints .i64 s_.2.2.1), .row (.ints .i64 s_.2.2.2)] } k = optC (L.FnLeastWatches_run14 x5 n s_) (fun (r : Bool × (List Int) × (List Int)) => k (.exit 2) { n := 73, t := [(3, (.own 0)), (4, (.own 1)), (5, (.int .i64 x5)), (6, (.bool r.1))], h := [.row (.ints .i64 r.2.1), .row (.ints .i64 r.2.2)] }) none := by
  induction n generalizing s_ with
  | zero => rfl
  | succ n ih =>
    have hu : L.FnLeastWatches_L14 (n + 1) { n := 73, t := [(3, (.own 0)), (4, (.own 1)), (5, (.int .i64 x5)), (6, (.bool s_.1)), (7, (.int .i64 s_.2.1))], h := [.row (.ints .i64 s_.2.2.1), .row (.ints .i64 s_.2.2.2)] } k = L.FnLeastWatches_step14 x5 s_.1 s_.2.1 s_.2.2.1 s_.2.2.2 (fun s_ => L.FnLeastWatches_L14 n { n := 73, t := [(3, (.own 0)), (4, (.own 1)), (5, (.int .i64 x5)), (6, (.bool s_.1)), (7, (.int .i64 s_.2.1))], h := [.row (.ints .i64 s_.2.2.1), .row (.ints .i64 s_.2.2.2)] } k) (fun d => k (.exit 2) { n := 73, t := [(3, (.own 0)), (4, (.own 1)), (5, (.int .i64 x5)), (6, (.bool d.1))], h := [.row (.ints .i64 d.2.1), .row (.ints .i64 d.2.2)] }) none := by
      kernel_rfl
    have hs : (fun s_ : Bool × Int × (List Int) × (List Int) => L.FnLeastWatches_L14 n { n := 73, t := [(3, (.own 0)), (4, (.own 1)), (5, (.int .i64 x5)), (6, (.bool s_.1)), (7, (.int .i64 s_.2.1))], h := [.row (.ints .i64 s_.2.2.1), .row (.ints .i64 s_.2.2.2)] } k) = fun s_ => optC (L.FnLeastWatches_run14 x5 n s_) (fun (r : Bool × (List Int) × (List Int)) => k (.exit 2) { n := 73, t := [(3, (.own 0)), (4, (.own 1)), (5, (.int .i64 x5)), (6, (.bool r.1))], h := [.row (.ints .i64 r.2.1), .row (.ints .i64 r.2.2)] }) none := funext ih
    rw [hu, hs]
    exact (L.FnLeastWatches_step14_nat (fun o => optC o (fun (r : Bool × (List Int) × (List Int)) => k (.exit 2) { n := 73, t := [(3, (.own 0)), (4, (.own 1)), (5, (.int .i64 x5)), (6, (.bool r.1))], h := [.row (.ints .i64 r.2.1), .row (.ints .i64 r.2.2)] }) none) x5 s_.1 s_.2.1 s_.2.2.1 s_.2.2.2 (L.FnLeastWatches_run14 x5 n) (fun d => some d) none).symm
noncomputable def L.FnLeastWatches_step10 {α : Type} (x5 : Int) (r0 : List Int) (r1 : List Int) (next_ : Int × (List Int) × (List Int) → α) (out0_ : Bool × (List Int) × (List Int) → α) (out1_ : (List Int) × (List Int) → α) (fail_ : α) : α :=
  (bif decide (x5 < IntKind.i64.wrap (1 * 2 ^ min (↑r0.length : Int).toNat IntKind.i64.bits)) then (optC (L.FnLeastWatches_run14 x5 FUEL (false, 0, r0, r1)) (fun qy_7 => (optC (I.WatchOk_t qy_7.2.1 x5) (fun c_8 => (bif !qy_7.1 == c_8 then (out0_ (false, qy_7.2.1, qy_7.2.2)) else (next_ (IntKind.i64.wrap (x5 + 1), qy_7.2.1, qy_7.2.2)))) fail_)) fail_) else (out1_ (r0, r1)))
theorem L.FnLeastWatches_step10_nat {α γ : Type} (g : α → γ) (x5 : Int) (r0 : List Int) (r1 : List Int) (next_ : Int × (List Int) × (List Int) → α) (out0_ : Bool × (List Int) × (List Int) → α) (out1_ : (List Int) × (List Int) → α) (fail_ : α) : g (L.FnLeastWatches_step10 x5 r0 r1 next_ out0_ out1_ fail_) = L.FnLeastWatches_step10 x5 r0 r1 (fun s => g (next_ s)) (fun d => g (out0_ d)) (fun d => g (out1_ d)) (g fail_) := by
  unfold L.FnLeastWatches_step10; simp only [apply_cnd g, apply_optC g, apply_sumC g]
noncomputable def L.FnLeastWatches_run10 : Nat → Int × (List Int) × (List Int) → Option ((Bool × (List Int) × (List Int)) ⊕ ((List Int) × (List Int)))
  | 0, _ => none
  | n + 1, s_ => L.FnLeastWatches_step10 s_.1 s_.2.1 s_.2.2 (L.FnLeastWatches_run10 n) (fun d => some ((Sum.inl d))) (fun d => some ((Sum.inr d))) none
theorem L.FnLeastWatches_L10_run (n : Nat) (s_ : Int × (List Int) × (List Int)) (k : X → St → R) : L.FnLeastWatches_L10 n { n := 73, t := [(3, (.own 0)), (4, (.own 1)), (5, (.int .i64 s_.1))], h := [.row (.ints .i64 s_.2.1), .row (.ints .i64 s_.2.2)] } k = optC (L.FnLeastWatches_run10 n s_) (fun (r : (Bool × (List Int) × (List Int)) ⊕ ((List Int) × (List Int))) => (sumC r (fun (r : Bool × (List Int) × (List Int)) => k (.ret) { n := 73, t := [(2, (.bool r.1)), (3, (.own 0)), (4, (.own 1))], h := [.row (.ints .i64 r.2.1), .row (.ints .i64 r.2.2)] }) (fun (r : (List Int) × (List Int)) => k (.exit 0) { n := 73, t := [(2, .junk), (3, (.own 0)), (4, (.own 1))], h := [.row (.ints .i64 r.1), .row (.ints .i64 r.2)] }))) none := by
  induction n generalizing s_ with
  | zero => rfl
  | succ n ih =>
    have hu : L.FnLeastWatches_L10 (n + 1) { n := 73, t := [(3, (.own 0)), (4, (.own 1)), (5, (.int .i64 s_.1))], h := [.row (.ints .i64 s_.2.1), .row (.ints .i64 s_.2.2)] } k = L.FnLeastWatches_step10 s_.1 s_.2.1 s_.2.2 (fun s_ => L.FnLeastWatches_L10 n { n := 73, t := [(3, (.own 0)), (4, (.own 1)), (5, (.int .i64 s_.1))], h := [.row (.ints .i64 s_.2.1), .row (.ints .i64 s_.2.2)] } k) (fun d => k (.ret) { n := 73, t := [(2, (.bool d.1)), (3, (.own 0)), (4, (.own 1))], h := [.row (.ints .i64 d.2.1), .row (.ints .i64 d.2.2)] }) (fun d => k (.exit 0) { n := 73, t := [(2, .junk), (3, (.own 0)), (4, (.own 1))], h := [.row (.ints .i64 d.1), .row (.ints .i64 d.2)] }) none := by
      refine Eq.trans (show L.FnLeastWatches_L10 (n + 1) { n := 73, t := [(3, (.own 0)), (4, (.own 1)), (5, (.int .i64 s_.1))], h := [.row (.ints .i64 s_.2.1), .row (.ints .i64 s_.2.2)] } k = (bif decide (s_.1 < IntKind.i64.wrap (1 * 2 ^ min (↑s_.2.1.length : Int).toNat IntKind.i64.bits)) then (L.FnLeastWatches_L14 FUEL { n := 73, t := [(3, (.own 0)), (4, (.own 1)), (5, (.int .i64 s_.1)), (6, (.bool false)), (7, (.int .i64 0))], h := [.row (.ints .i64 s_.2.1), .row (.ints .i64 s_.2.2)] } (L.FnLeastWatches_k14 ((fun σ => L.FnLeastWatches_L10 n σ k), k))) else (k (.exit 0) { n := 73, t := [(2, .junk), (3, (.own 0)), (4, (.own 1))], h := [.row (.ints .i64 s_.2.1), .row (.ints .i64 s_.2.2)] })) by kernel_rfl) ?_
      refine cnd_congr ?_ ?_
      · refine (L.FnLeastWatches_L14_run s_.1 FUEL (false, 0, s_.2.1, s_.2.2) (L.FnLeastWatches_k14 ((fun σ => L.FnLeastWatches_L10 n σ k), k))).trans (optC_congr (fun qy_7 => ?_))
        kernel_rfl
      · kernel_rfl
    have hs : (fun s_ : Int × (List Int) × (List Int) => L.FnLeastWatches_L10 n { n := 73, t := [(3, (.own 0)), (4, (.own 1)), (5, (.int .i64 s_.1))], h := [.row (.ints .i64 s_.2.1), .row (.ints .i64 s_.2.2)] } k) = fun s_ => optC (L.FnLeastWatches_run10 n s_) (fun (r : (Bool × (List Int) × (List Int)) ⊕ ((List Int) × (List Int))) => (sumC r (fun (r : Bool × (List Int) × (List Int)) => k (.ret) { n := 73, t := [(2, (.bool r.1)), (3, (.own 0)), (4, (.own 1))], h := [.row (.ints .i64 r.2.1), .row (.ints .i64 r.2.2)] }) (fun (r : (List Int) × (List Int)) => k (.exit 0) { n := 73, t := [(2, .junk), (3, (.own 0)), (4, (.own 1))], h := [.row (.ints .i64 r.1), .row (.ints .i64 r.2)] }))) none := funext ih
    rw [hu, hs]
    exact (L.FnLeastWatches_step10_nat (fun o => optC o (fun (r : (Bool × (List Int) × (List Int)) ⊕ ((List Int) × (List Int))) => (sumC r (fun (r : Bool × (List Int) × (List Int)) => k (.ret) { n := 73, t := [(2, (.bool r.1)), (3, (.own 0)), (4, (.own 1))], h := [.row (.ints .i64 r.2.1), .row (.ints .i64 r.2.2)] }) (fun (r : (List Int) × (List Int)) => k (.exit 0) { n := 73, t := [(2, .junk), (3, (.own 0)), (4, (.own 1))], h := [.row (.ints .i64 r.1), .row (.ints .i64 r.2)] }))) none) s_.1 s_.2.1 s_.2.2 (L.FnLeastWatches_run10 n) (fun d => some ((Sum.inl d))) (fun d => some ((Sum.inr d))) none).symm
noncomputable def L.FnLeastWatches_step20 {α : Type} (x8 : Int) (r0 : List Int) (r1 : List Int) (next_ : Int × (List Int) × (List Int) → α) (out0_ : Bool × (List Int) → α) (out1_ : List Int → α) (fail_ : α) : α :=
  (bif decide (x8 < (↑r1.length : Int)) then (bif decide (0 ≤ x8) && decide (x8 < (↑r1.length : Int)) then (bif decide (x8.toNat < r1.length) then (optC (I.LeastWatchOk_t r0 (eli r1 x8.toNat)) (fun c_10 => (bif !c_10 then (out0_ (false, r1)) else (next_ (IntKind.i64.wrap (x8 + 1), r0, r1)))) fail_) else fail_) else fail_) else (out1_ r1))
theorem L.FnLeastWatches_step20_nat {α γ : Type} (g : α → γ) (x8 : Int) (r0 : List Int) (r1 : List Int) (next_ : Int × (List Int) × (List Int) → α) (out0_ : Bool × (List Int) → α) (out1_ : List Int → α) (fail_ : α) : g (L.FnLeastWatches_step20 x8 r0 r1 next_ out0_ out1_ fail_) = L.FnLeastWatches_step20 x8 r0 r1 (fun s => g (next_ s)) (fun d => g (out0_ d)) (fun d => g (out1_ d)) (g fail_) := by
  unfold L.FnLeastWatches_step20; simp only [apply_cnd g, apply_optC g, apply_sumC g]
noncomputable def L.FnLeastWatches_run20 : Nat → Int × (List Int) × (List Int) → Option ((Bool × (List Int)) ⊕ (List Int))
  | 0, _ => none
  | n + 1, s_ => L.FnLeastWatches_step20 s_.1 s_.2.1 s_.2.2 (L.FnLeastWatches_run20 n) (fun d => some ((Sum.inl d))) (fun d => some ((Sum.inr d))) none
theorem L.FnLeastWatches_L20_run (n : Nat) (s_ : Int × (List Int) × (List Int)) (k : X → St → R) : L.FnLeastWatches_L20 n { n := 73, t := [(3, (.own 0)), (4, (.own 1)), (8, (.int .i64 s_.1))], h := [.row (.ints .i64 s_.2.1), .row (.ints .i64 s_.2.2)] } k = optC (L.FnLeastWatches_run20 n s_) (fun (r : (Bool × (List Int)) ⊕ (List Int)) => (sumC r (fun (r : Bool × (List Int)) => k (.ret) { n := 73, t := [(2, (.bool r.1)), (4, (.own 0))], h := [.row (.ints .i64 r.2)] }) (fun (r : List Int) => k (.exit 4) { n := 73, t := [(2, .junk), (4, (.own 0))], h := [.row (.ints .i64 r)] }))) none := by
  induction n generalizing s_ with
  | zero => rfl
  | succ n ih =>
    have hu : L.FnLeastWatches_L20 (n + 1) { n := 73, t := [(3, (.own 0)), (4, (.own 1)), (8, (.int .i64 s_.1))], h := [.row (.ints .i64 s_.2.1), .row (.ints .i64 s_.2.2)] } k = L.FnLeastWatches_step20 s_.1 s_.2.1 s_.2.2 (fun s_ => L.FnLeastWatches_L20 n { n := 73, t := [(3, (.own 0)), (4, (.own 1)), (8, (.int .i64 s_.1))], h := [.row (.ints .i64 s_.2.1), .row (.ints .i64 s_.2.2)] } k) (fun d => k (.ret) { n := 73, t := [(2, (.bool d.1)), (4, (.own 0))], h := [.row (.ints .i64 d.2)] }) (fun d => k (.exit 4) { n := 73, t := [(2, .junk), (4, (.own 0))], h := [.row (.ints .i64 d)] }) none := by
      kernel_rfl
    have hs : (fun s_ : Int × (List Int) × (List Int) => L.FnLeastWatches_L20 n { n := 73, t := [(3, (.own 0)), (4, (.own 1)), (8, (.int .i64 s_.1))], h := [.row (.ints .i64 s_.2.1), .row (.ints .i64 s_.2.2)] } k) = fun s_ => optC (L.FnLeastWatches_run20 n s_) (fun (r : (Bool × (List Int)) ⊕ (List Int)) => (sumC r (fun (r : Bool × (List Int)) => k (.ret) { n := 73, t := [(2, (.bool r.1)), (4, (.own 0))], h := [.row (.ints .i64 r.2)] }) (fun (r : List Int) => k (.exit 4) { n := 73, t := [(2, .junk), (4, (.own 0))], h := [.row (.ints .i64 r)] }))) none := funext ih
    rw [hu, hs]
    exact (L.FnLeastWatches_step20_nat (fun o => optC o (fun (r : (Bool × (List Int)) ⊕ (List Int)) => (sumC r (fun (r : Bool × (List Int)) => k (.ret) { n := 73, t := [(2, (.bool r.1)), (4, (.own 0))], h := [.row (.ints .i64 r.2)] }) (fun (r : List Int) => k (.exit 4) { n := 73, t := [(2, .junk), (4, (.own 0))], h := [.row (.ints .i64 r)] }))) none) s_.1 s_.2.1 s_.2.2 (L.FnLeastWatches_run20 n) (fun d => some ((Sum.inl d))) (fun d => some ((Sum.inr d))) none).symm
noncomputable def L.FnLeastWatches_tree {α : Type} (code : List Int) (leaf0_ : Bool → α) (fail_ : α) : α :=
  (bif decide ((↑code.length : Int) > 1048576) then (leaf0_ true) else (optC (S.DrawLeastWatches_t code) (fun c_1 => (optC (I.LeastWatches_t c_1) (fun c_2 => (optC (S.LeastWatches_t c_1) (fun c_3 => (optC (L.sameInts_t c_2 c_3) (fun c_4 => (bif !c_4 then (leaf0_ false) else (bif (↑c_2.length : Int) == 0 then (optC (I.NetOk_t c_1) (fun c_5 => (bif !c_5 then (optC (L.alive_t) (fun c_6 => (leaf0_ c_6)) fail_) else (leaf0_ false))) fail_) else (optC (L.FnLeastWatches_run10 FUEL (0, c_1, c_2)) (fun qy_9 => (sumC qy_9 (fun (qy_9 : Bool × (List Int) × (List Int)) => (leaf0_ qy_9.1)) (fun (qy_9 : (List Int) × (List Int)) => (optC (L.FnLeastWatches_run20 FUEL (0, qy_9.1, qy_9.2)) (fun qy_11 => (sumC qy_11 (fun (qy_11 : Bool × (List Int)) => (leaf0_ qy_11.1)) (fun (qy_11 : List Int) => (optC (L.ascend_t qy_11) (fun c_12 => (leaf0_ c_12)) fail_)))) fail_)))) fail_)))) fail_)) fail_)) fail_)) fail_))
theorem L.FnLeastWatches_tree_nat {α γ : Type} (g : α → γ) (code : List Int) (leaf0_ : Bool → α) (fail_ : α) : g (L.FnLeastWatches_tree code leaf0_ fail_) = L.FnLeastWatches_tree code (fun d => g (leaf0_ d)) (g fail_) := by
  unfold L.FnLeastWatches_tree; simp only [apply_cnd g, apply_optC g, apply_sumC g]
noncomputable def L.FnLeastWatches_t (code : List Int) : Option (Bool) := L.FnLeastWatches_tree code (fun d => some d) none
theorem L.FnLeastWatches_den (code : List Int) (κ : V → List E → R) : L.FnLeastWatches_F [.ro true (.ints .u8 code)] [] κ = optC (L.FnLeastWatches_t code) (fun (r : Bool) => κ (.bool r) []) none := by
  have hu : L.FnLeastWatches_F [.ro true (.ints .u8 code)] [] κ = L.FnLeastWatches_tree code (fun d => κ (.bool d) []) none := by
    refine Eq.trans (show L.FnLeastWatches_F [.ro true (.ints .u8 code)] [] κ = (bif decide ((↑code.length : Int) > 1048576) then (κ (.bool true) []) else (optC (S.DrawLeastWatches_t code) (fun c_1 => (optC (I.LeastWatches_t c_1) (fun c_2 => (optC (S.LeastWatches_t c_1) (fun c_3 => (optC (L.sameInts_t c_2 c_3) (fun c_4 => (bif !c_4 then (κ (.bool false) []) else (bif (↑c_2.length : Int) == 0 then (optC (I.NetOk_t c_1) (fun c_5 => (bif !c_5 then (optC (L.alive_t) (fun c_6 => (κ (.bool c_6) [])) none) else (κ (.bool false) []))) none) else (L.FnLeastWatches_L10 FUEL { n := 73, t := [(3, (.own 0)), (4, (.own 1)), (5, (.int .i64 0))], h := [.row (.ints .i64 c_1), .row (.ints .i64 c_2)] } (L.FnLeastWatches_k10 κ))))) none)) none)) none)) none)) by kernel_rfl) ?_
    refine cnd_congr ?_ ?_
    · kernel_rfl
    · refine optC_congr (fun c_1 => ?_)
      refine optC_congr (fun c_2 => ?_)
      refine optC_congr (fun c_3 => ?_)
      refine optC_congr (fun c_4 => ?_)
      refine cnd_congr ?_ ?_
      · kernel_rfl
      · refine cnd_congr ?_ ?_
        · kernel_rfl
        · refine (L.FnLeastWatches_L10_run FUEL (0, c_1, c_2) (L.FnLeastWatches_k10 κ)).trans (optC_congr (fun qy_9 => ?_))
          rcases qy_9 with qy_9 | qy_9
          · kernel_rfl
          · refine Eq.trans (show (L.FnLeastWatches_k10 κ (.exit 0) { n := 73, t := [(2, .junk), (3, (.own 0)), (4, (.own 1))], h := [.row (.ints .i64 qy_9.1), .row (.ints .i64 qy_9.2)] }) = (L.FnLeastWatches_L20 FUEL { n := 73, t := [(3, (.own 0)), (4, (.own 1)), (8, (.int .i64 0))], h := [.row (.ints .i64 qy_9.1), .row (.ints .i64 qy_9.2)] } (L.FnLeastWatches_k20 κ)) by kernel_rfl) ?_
            refine (L.FnLeastWatches_L20_run FUEL (0, qy_9.1, qy_9.2) (L.FnLeastWatches_k20 κ)).trans (optC_congr (fun qy_11 => ?_))
            rcases qy_11 with qy_11 | qy_11
            · kernel_rfl
            · kernel_rfl
  rw [hu]
  exact (L.FnLeastWatches_tree_nat (fun o => optC o (fun (r : Bool) => κ (.bool r) []) none) code (fun d => some d) none).symm
noncomputable def L.FnLeastWatches_s : D.Spec where
  keep := true
  pure := true
  ds := [.int .u8]
  sp := fun args h κ => match args, h with
    | [.ro true (.ints .u8 code)], [] => optC (L.FnLeastWatches_t code) (fun (r : Bool) => κ (.bool r) []) none
    | _, _ => none
theorem L.FnLeastWatches_ok : SpecOk Try.prog 7 L.FnLeastWatches_s := by
  refine SpecOk.of TDok mixed (T := L.FnLeastWatches_T) ?_ (ann := L.FnLeastWatches_ann) Try.func7 rfl (by decide +kernel) ?_ ?_ ?_
  · intro p hp
    simp only [L.FnLeastWatches_T, List.mem_cons, List.not_mem_nil, or_false] at hp
    rcases hp with rfl | rfl | rfl | rfl | rfl | rfl | rfl | rfl | rfl
    · exact S.DrawLeastWatches_ok
    · exact I.LeastWatches_ok
    · exact S.LeastWatches_ok
    · exact L.sameInts_ok
    · exact I.NetOk_ok
    · exact L.alive_ok
    · exact I.WatchOk_ok
    · exact I.LeastWatchOk_ok
    · exact L.ascend_ok
  · intro args h κ r hh
    simp only [L.FnLeastWatches_s] at hh
    split at hh
    · exact (L.FnLeastWatches_den _ κ).trans hh
    · cases hh
  · intro args h κ r hh
    simp only [L.FnLeastWatches_s] at hh ⊢
    split at hh
    · exact optC_law2 (F := fun (r : Bool) κ => κ (.bool r) []) (fun b κ r hb => ⟨_, _, hb, fun _ => rfl⟩) hh
    · cases hh
  · intro _ args h κ r hh
    simp only [L.FnLeastWatches_s] at hh
    split at hh
    · exact ⟨rfl, fun _ => rfl⟩
    · cases hh

-- loop.example/guardsonnets/spec.DrawWatchCounts
noncomputable def S.DrawWatchCounts_T : List (Nat × D.Spec) := [(52, S.l20Open_s), (62, S.l20Net_s)]
def S.DrawWatchCounts_ann : Nat → List Nat × List Nat
  | _ => ([], [])
noncomputable def S.DrawWatchCounts_F (args : List V) (h : List E) (κ : V → List E → R) : R := funC TD (tableK S.DrawWatchCounts_T) S.DrawWatchCounts_ann (drawOk (tableP S.DrawWatchCounts_T)) FUEL Try.f41 args h κ
noncomputable def S.DrawWatchCounts_tree {α : Type} (code : List Int) (leaf0_ : List Int → α) (fail_ : α) : α :=
  (optC (S.l20Open_t code) (fun c_1 => (optC (S.l20Net_t c_1.fst c_1.snd 9) (fun c_2 => (leaf0_ c_2.snd.snd)) fail_)) fail_)
theorem S.DrawWatchCounts_tree_nat {α γ : Type} (g : α → γ) (code : List Int) (leaf0_ : List Int → α) (fail_ : α) : g (S.DrawWatchCounts_tree code leaf0_ fail_) = S.DrawWatchCounts_tree code (fun d => g (leaf0_ d)) (g fail_) := by
  unfold S.DrawWatchCounts_tree; simp only [apply_cnd g, apply_optC g, apply_sumC g]
noncomputable def S.DrawWatchCounts_t (code : List Int) : Option (List Int) := S.DrawWatchCounts_tree code (fun d => some d) none
theorem S.DrawWatchCounts_den (code : List Int) (κ : V → List E → R) : S.DrawWatchCounts_F [.ro true (.ints .u8 code)] [] κ = optC (S.DrawWatchCounts_t code) (fun (r : List Int) => κ (.own 0) [.row (.ints .i64 r)]) none := by
  have hu : S.DrawWatchCounts_F [.ro true (.ints .u8 code)] [] κ = S.DrawWatchCounts_tree code (fun d => κ (.own 0) [.row (.ints .i64 d)]) none := by
    kernel_rfl
  rw [hu]
  exact (S.DrawWatchCounts_tree_nat (fun o => optC o (fun (r : List Int) => κ (.own 0) [.row (.ints .i64 r)]) none) code (fun d => some d) none).symm
noncomputable def S.DrawWatchCounts_s : D.Spec where
  keep := true
  pure := false
  ds := [.int .u8]
  sp := fun args h κ => match args, h with
    | [.ro true (.ints .u8 code)], [] => optC (S.DrawWatchCounts_t code) (fun (r : List Int) => κ (.own 0) [.row (.ints .i64 r)]) none
    | _, _ => none
theorem S.DrawWatchCounts_ok : SpecOk Try.prog 41 S.DrawWatchCounts_s := by
  refine SpecOk.of TDok mixed (T := S.DrawWatchCounts_T) ?_ (ann := S.DrawWatchCounts_ann) Try.func41 rfl (by decide +kernel) ?_ ?_ ?_
  · intro p hp
    simp only [S.DrawWatchCounts_T, List.mem_cons, List.not_mem_nil, or_false] at hp
    rcases hp with rfl | rfl
    · exact S.l20Open_ok
    · exact S.l20Net_ok
  · intro args h κ r hh
    simp only [S.DrawWatchCounts_s] at hh
    split at hh
    · exact (S.DrawWatchCounts_den _ κ).trans hh
    · cases hh
  · intro args h κ r hh
    simp only [S.DrawWatchCounts_s] at hh ⊢
    split at hh
    · exact optC_law2 (F := fun (r : List Int) κ => κ (.own 0) [.row (.ints .i64 r)]) (fun b κ r hb => ⟨_, _, hb, fun _ => rfl⟩) hh
    · cases hh
  · intro hh; cases hh

-- loop.example/guardsonnets/impl.WatchCounts
noncomputable def I.WatchCounts_T : List (Nat × D.Spec) := [(30, I.NetOk_s), (69, I.allOf_s), (54, I.watchIn_s), (63, I.sizeOf_s)]
def I.WatchCounts_ann : Nat → List Nat × List Nat
  | 5 => ([0, 3, 4], [3])
  | _ => ([], [])
noncomputable def I.WatchCounts_F (args : List V) (h : List E) (κ : V → List E → R) : R := funC TD (tableK I.WatchCounts_T) I.WatchCounts_ann (drawOk (tableP I.WatchCounts_T)) FUEL Try.f42 args h κ
noncomputable def I.WatchCounts_L5 (n : Nat) (σ : St) (k : X → St → R) : R := iterC 0 (fun σ k => denC TD (tableK I.WatchCounts_T) I.WatchCounts_ann (drawOk (tableP I.WatchCounts_T)) 0 FUEL ((findLoop 5 (Try.f42.body.getD .skip)).getD .skip) σ k) [0, 3, 4] [3] n σ k
noncomputable def I.WatchCounts_k5 (κ : V → List E → R) : X → St → R := (afterC TD (tableK I.WatchCounts_T) I.WatchCounts_ann (drawOk (tableP I.WatchCounts_T)) 0 FUEL 5 (Try.f42.body.getD .skip) (finC 0 Try.f42 κ)).getD (fun _ _ => none)
noncomputable def I.WatchCounts_step5 {α : Type} (x0 : List Int) (x4 : Int) (r0 : List Int) (next_ : Int × (List Int) → α) (out0_ : List Int → α) (fail_ : α) : α :=
  (optC (I.allOf_t x0) (fun c_2 => (bif decide (x4 ≤ c_2) then (optC (I.watchIn_t x0 x4) (fun c_3 => (bif c_3 then (optC (I.sizeOf_t x4) (fun c_4 => (bif decide (0 ≤ c_4) && decide (c_4 < (↑r0.length : Int)) then (bif decide (c_4.toNat < r0.length) then (bif decide (0 ≤ c_4) && decide (c_4 < (↑r0.length : Int)) then (bif decide (c_4.toNat < r0.length) then (next_ (IntKind.i64.wrap (x4 + 1), r0.set c_4.toNat (IntKind.i64.wrap (eli r0 c_4.toNat + 1)))) else fail_) else fail_) else fail_) else fail_)) fail_) else (next_ (IntKind.i64.wrap (x4 + 1), r0)))) fail_) else (out0_ r0))) fail_)
theorem I.WatchCounts_step5_nat {α γ : Type} (g : α → γ) (x0 : List Int) (x4 : Int) (r0 : List Int) (next_ : Int × (List Int) → α) (out0_ : List Int → α) (fail_ : α) : g (I.WatchCounts_step5 x0 x4 r0 next_ out0_ fail_) = I.WatchCounts_step5 x0 x4 r0 (fun s => g (next_ s)) (fun d => g (out0_ d)) (g fail_) := by
  unfold I.WatchCounts_step5; simp only [apply_cnd g, apply_optC g, apply_sumC g]
noncomputable def I.WatchCounts_run5 (x0 : List Int) : Nat → Int × (List Int) → Option (List Int)
  | 0, _ => none
  | n + 1, s_ => I.WatchCounts_step5 x0 s_.1 s_.2 (I.WatchCounts_run5 x0 n) (fun d => some d) none
theorem I.WatchCounts_L5_run (x0 : List Int) (n : Nat) (s_ : Int × (List Int)) (k : X → St → R) : I.WatchCounts_L5 n { n := 29, t := [(0, (.ro false (.ints .i64 x0))), (3, (.own 0)), (4, (.int .i64 s_.1))], h := [.row (.ints .i64 s_.2)] } k = optC (I.WatchCounts_run5 x0 n s_) (fun (r : List Int) => k (.exit 0) { n := 29, t := [(3, (.own 0))], h := [.row (.ints .i64 r)] }) none := by
  induction n generalizing s_ with
  | zero => rfl
  | succ n ih =>
    have hu : I.WatchCounts_L5 (n + 1) { n := 29, t := [(0, (.ro false (.ints .i64 x0))), (3, (.own 0)), (4, (.int .i64 s_.1))], h := [.row (.ints .i64 s_.2)] } k = I.WatchCounts_step5 x0 s_.1 s_.2 (fun s_ => I.WatchCounts_L5 n { n := 29, t := [(0, (.ro false (.ints .i64 x0))), (3, (.own 0)), (4, (.int .i64 s_.1))], h := [.row (.ints .i64 s_.2)] } k) (fun d => k (.exit 0) { n := 29, t := [(3, (.own 0))], h := [.row (.ints .i64 d)] }) none := by
      kernel_rfl
    have hs : (fun s_ : Int × (List Int) => I.WatchCounts_L5 n { n := 29, t := [(0, (.ro false (.ints .i64 x0))), (3, (.own 0)), (4, (.int .i64 s_.1))], h := [.row (.ints .i64 s_.2)] } k) = fun s_ => optC (I.WatchCounts_run5 x0 n s_) (fun (r : List Int) => k (.exit 0) { n := 29, t := [(3, (.own 0))], h := [.row (.ints .i64 r)] }) none := funext ih
    rw [hu, hs]
    exact (I.WatchCounts_step5_nat (fun o => optC o (fun (r : List Int) => k (.exit 0) { n := 29, t := [(3, (.own 0))], h := [.row (.ints .i64 r)] }) none) x0 s_.1 s_.2 (I.WatchCounts_run5 x0 n) (fun d => some d) none).symm
noncomputable def I.WatchCounts_tree {α : Type} (net : List Int) (leaf0_ : List Int → α) (fail_ : α) : α :=
  (optC (I.NetOk_t net) (fun c_1 => (bif !c_1 then (leaf0_ ([])) else (bif decide (0 ≤ IntKind.i64.wrap ((↑net.length : Int) + 1)) && small (IntKind.i64.wrap ((↑net.length : Int) + 1)).toNat && true then (optC (I.WatchCounts_run5 net FUEL (0, List.replicate (IntKind.i64.wrap ((↑net.length : Int) + 1)).toNat 0)) (fun qy_5 => (leaf0_ qy_5)) fail_) else fail_))) fail_)
theorem I.WatchCounts_tree_nat {α γ : Type} (g : α → γ) (net : List Int) (leaf0_ : List Int → α) (fail_ : α) : g (I.WatchCounts_tree net leaf0_ fail_) = I.WatchCounts_tree net (fun d => g (leaf0_ d)) (g fail_) := by
  unfold I.WatchCounts_tree; simp only [apply_cnd g, apply_optC g, apply_sumC g]
noncomputable def I.WatchCounts_t (net : List Int) : Option (List Int) := I.WatchCounts_tree net (fun d => some d) none
theorem I.WatchCounts_den (net : List Int) (κ : V → List E → R) : I.WatchCounts_F [.ro false (.ints .i64 net)] [] κ = optC (I.WatchCounts_t net) (fun (r : List Int) => κ (.own 0) [.row (.ints .i64 r)]) none := by
  have hu : I.WatchCounts_F [.ro false (.ints .i64 net)] [] κ = I.WatchCounts_tree net (fun d => κ (.own 0) [.row (.ints .i64 d)]) none := by
    refine Eq.trans (show I.WatchCounts_F [.ro false (.ints .i64 net)] [] κ = (optC (I.NetOk_t net) (fun c_1 => (bif !c_1 then (κ (.own 0) [.row (.ints .i64 ([]))]) else (bif decide (0 ≤ IntKind.i64.wrap ((↑net.length : Int) + 1)) && small (IntKind.i64.wrap ((↑net.length : Int) + 1)).toNat && true then (I.WatchCounts_L5 FUEL { n := 29, t := [(0, (.ro false (.ints .i64 net))), (3, (.own 0)), (4, (.int .i64 0))], h := [.row (.ints .i64 (List.replicate (IntKind.i64.wrap ((↑net.length : Int) + 1)).toNat 0))] } (I.WatchCounts_k5 κ)) else none))) none) by kernel_rfl) ?_
    refine optC_congr (fun c_1 => ?_)
    refine cnd_congr ?_ ?_
    · kernel_rfl
    · refine cnd_congr ?_ ?_
      · refine (I.WatchCounts_L5_run net FUEL (0, List.replicate (IntKind.i64.wrap ((↑net.length : Int) + 1)).toNat 0) (I.WatchCounts_k5 κ)).trans (optC_congr (fun qy_5 => ?_))
        kernel_rfl
      · kernel_rfl
  rw [hu]
  exact (I.WatchCounts_tree_nat (fun o => optC o (fun (r : List Int) => κ (.own 0) [.row (.ints .i64 r)]) none) net (fun d => some d) none).symm
noncomputable def I.WatchCounts_s : D.Spec where
  keep := false
  pure := false
  ds := [.int .i64]
  sp := fun args h κ => match args, h with
    | [.ro false (.ints .i64 net)], [] => optC (I.WatchCounts_t net) (fun (r : List Int) => κ (.own 0) [.row (.ints .i64 r)]) none
    | _, _ => none
theorem I.WatchCounts_ok : SpecOk Try.prog 42 I.WatchCounts_s := by
  refine SpecOk.of TDok mixed (T := I.WatchCounts_T) ?_ (ann := I.WatchCounts_ann) Try.func42 rfl (by decide +kernel) ?_ ?_ ?_
  · intro p hp
    simp only [I.WatchCounts_T, List.mem_cons, List.not_mem_nil, or_false] at hp
    rcases hp with rfl | rfl | rfl | rfl
    · exact I.NetOk_ok
    · exact I.allOf_ok
    · exact I.watchIn_ok
    · exact I.sizeOf_ok
  · intro args h κ r hh
    simp only [I.WatchCounts_s] at hh
    split at hh
    · exact (I.WatchCounts_den _ κ).trans hh
    · cases hh
  · intro args h κ r hh
    simp only [I.WatchCounts_s] at hh ⊢
    split at hh
    · exact optC_law2 (F := fun (r : List Int) κ => κ (.own 0) [.row (.ints .i64 r)]) (fun b κ r hb => ⟨_, _, hb, fun _ => rfl⟩) hh
    · cases hh
  · intro hh; cases hh

-- loop.example/guardsonnets/spec.WatchCounts
noncomputable def S.WatchCounts_T : List (Nat × D.Spec) := [(20, S.NetOk_s), (56, S.l2Watch_s), (65, S.l1Size_s)]
def S.WatchCounts_ann : Nat → List Nat × List Nat
  | 5 => ([0, 3, 4], [3])
  | _ => ([], [])
noncomputable def S.WatchCounts_F (args : List V) (h : List E) (κ : V → List E → R) : R := funC TD (tableK S.WatchCounts_T) S.WatchCounts_ann (drawOk (tableP S.WatchCounts_T)) FUEL Try.f43 args h κ
noncomputable def S.WatchCounts_L5 (n : Nat) (σ : St) (k : X → St → R) : R := iterC 0 (fun σ k => denC TD (tableK S.WatchCounts_T) S.WatchCounts_ann (drawOk (tableP S.WatchCounts_T)) 0 FUEL ((findLoop 5 (Try.f43.body.getD .skip)).getD .skip) σ k) [0, 3, 4] [3] n σ k
noncomputable def S.WatchCounts_k5 (κ : V → List E → R) : X → St → R := (afterC TD (tableK S.WatchCounts_T) S.WatchCounts_ann (drawOk (tableP S.WatchCounts_T)) 0 FUEL 5 (Try.f43.body.getD .skip) (finC 0 Try.f43 κ)).getD (fun _ _ => none)
noncomputable def S.WatchCounts_step5 {α : Type} (x0 : List Int) (x4 : Int) (r0 : List Int) (next_ : Int × (List Int) → α) (out0_ : List Int → α) (fail_ : α) : α :=
  (bif decide (x4 < IntKind.i64.wrap (1 * 2 ^ min (↑x0.length : Int).toNat IntKind.i64.bits)) then (optC (S.l2Watch_t x0 x4) (fun c_2 => (bif c_2 then (optC (S.l1Size_t x4) (fun c_3 => (optC (S.l1Size_t x4) (fun c_4 => (bif decide (0 ≤ c_4) && decide (c_4 < (↑r0.length : Int)) then (bif decide (c_4.toNat < r0.length) then (bif decide (0 ≤ c_3) && decide (c_3 < (↑r0.length : Int)) then (bif decide (c_3.toNat < r0.length) then (next_ (IntKind.i64.wrap (x4 + 1), r0.set c_3.toNat (IntKind.i64.wrap (eli r0 c_4.toNat + 1)))) else fail_) else fail_) else fail_) else fail_)) fail_)) fail_) else (next_ (IntKind.i64.wrap (x4 + 1), r0)))) fail_) else (out0_ r0))
theorem S.WatchCounts_step5_nat {α γ : Type} (g : α → γ) (x0 : List Int) (x4 : Int) (r0 : List Int) (next_ : Int × (List Int) → α) (out0_ : List Int → α) (fail_ : α) : g (S.WatchCounts_step5 x0 x4 r0 next_ out0_ fail_) = S.WatchCounts_step5 x0 x4 r0 (fun s => g (next_ s)) (fun d => g (out0_ d)) (g fail_) := by
  unfold S.WatchCounts_step5; simp only [apply_cnd g, apply_optC g, apply_sumC g]
noncomputable def S.WatchCounts_run5 (x0 : List Int) : Nat → Int × (List Int) → Option (List Int)
  | 0, _ => none
  | n + 1, s_ => S.WatchCounts_step5 x0 s_.1 s_.2 (S.WatchCounts_run5 x0 n) (fun d => some d) none
theorem S.WatchCounts_L5_run (x0 : List Int) (n : Nat) (s_ : Int × (List Int)) (k : X → St → R) : S.WatchCounts_L5 n { n := 34, t := [(0, (.ro false (.ints .i64 x0))), (3, (.own 0)), (4, (.int .i64 s_.1))], h := [.row (.ints .i64 s_.2)] } k = optC (S.WatchCounts_run5 x0 n s_) (fun (r : List Int) => k (.exit 0) { n := 34, t := [(3, (.own 0))], h := [.row (.ints .i64 r)] }) none := by
  induction n generalizing s_ with
  | zero => rfl
  | succ n ih =>
    have hu : S.WatchCounts_L5 (n + 1) { n := 34, t := [(0, (.ro false (.ints .i64 x0))), (3, (.own 0)), (4, (.int .i64 s_.1))], h := [.row (.ints .i64 s_.2)] } k = S.WatchCounts_step5 x0 s_.1 s_.2 (fun s_ => S.WatchCounts_L5 n { n := 34, t := [(0, (.ro false (.ints .i64 x0))), (3, (.own 0)), (4, (.int .i64 s_.1))], h := [.row (.ints .i64 s_.2)] } k) (fun d => k (.exit 0) { n := 34, t := [(3, (.own 0))], h := [.row (.ints .i64 d)] }) none := by
      kernel_rfl
    have hs : (fun s_ : Int × (List Int) => S.WatchCounts_L5 n { n := 34, t := [(0, (.ro false (.ints .i64 x0))), (3, (.own 0)), (4, (.int .i64 s_.1))], h := [.row (.ints .i64 s_.2)] } k) = fun s_ => optC (S.WatchCounts_run5 x0 n s_) (fun (r : List Int) => k (.exit 0) { n := 34, t := [(3, (.own 0))], h := [.row (.ints .i64 r)] }) none := funext ih
    rw [hu, hs]
    exact (S.WatchCounts_step5_nat (fun o => optC o (fun (r : List Int) => k (.exit 0) { n := 34, t := [(3, (.own 0))], h := [.row (.ints .i64 r)] }) none) x0 s_.1 s_.2 (S.WatchCounts_run5 x0 n) (fun d => some d) none).symm
noncomputable def S.WatchCounts_tree {α : Type} (net : List Int) (leaf0_ : List Int → α) (fail_ : α) : α :=
  (optC (S.NetOk_t net) (fun c_1 => (bif !c_1 then (leaf0_ ([])) else (bif decide (0 ≤ IntKind.i64.wrap ((↑net.length : Int) + 1)) && small (IntKind.i64.wrap ((↑net.length : Int) + 1)).toNat && true then (optC (S.WatchCounts_run5 net FUEL (0, List.replicate (IntKind.i64.wrap ((↑net.length : Int) + 1)).toNat 0)) (fun qy_5 => (leaf0_ qy_5)) fail_) else fail_))) fail_)
theorem S.WatchCounts_tree_nat {α γ : Type} (g : α → γ) (net : List Int) (leaf0_ : List Int → α) (fail_ : α) : g (S.WatchCounts_tree net leaf0_ fail_) = S.WatchCounts_tree net (fun d => g (leaf0_ d)) (g fail_) := by
  unfold S.WatchCounts_tree; simp only [apply_cnd g, apply_optC g, apply_sumC g]
noncomputable def S.WatchCounts_t (net : List Int) : Option (List Int) := S.WatchCounts_tree net (fun d => some d) none
theorem S.WatchCounts_den (net : List Int) (κ : V → List E → R) : S.WatchCounts_F [.ro false (.ints .i64 net)] [] κ = optC (S.WatchCounts_t net) (fun (r : List Int) => κ (.own 0) [.row (.ints .i64 r)]) none := by
  have hu : S.WatchCounts_F [.ro false (.ints .i64 net)] [] κ = S.WatchCounts_tree net (fun d => κ (.own 0) [.row (.ints .i64 d)]) none := by
    refine Eq.trans (show S.WatchCounts_F [.ro false (.ints .i64 net)] [] κ = (optC (S.NetOk_t net) (fun c_1 => (bif !c_1 then (κ (.own 0) [.row (.ints .i64 ([]))]) else (bif decide (0 ≤ IntKind.i64.wrap ((↑net.length : Int) + 1)) && small (IntKind.i64.wrap ((↑net.length : Int) + 1)).toNat && true then (S.WatchCounts_L5 FUEL { n := 34, t := [(0, (.ro false (.ints .i64 net))), (3, (.own 0)), (4, (.int .i64 0))], h := [.row (.ints .i64 (List.replicate (IntKind.i64.wrap ((↑net.length : Int) + 1)).toNat 0))] } (S.WatchCounts_k5 κ)) else none))) none) by kernel_rfl) ?_
    refine optC_congr (fun c_1 => ?_)
    refine cnd_congr ?_ ?_
    · kernel_rfl
    · refine cnd_congr ?_ ?_
      · refine (S.WatchCounts_L5_run net FUEL (0, List.replicate (IntKind.i64.wrap ((↑net.length : Int) + 1)).toNat 0) (S.WatchCounts_k5 κ)).trans (optC_congr (fun qy_5 => ?_))
        kernel_rfl
      · kernel_rfl
  rw [hu]
  exact (S.WatchCounts_tree_nat (fun o => optC o (fun (r : List Int) => κ (.own 0) [.row (.ints .i64 r)]) none) net (fun d => some d) none).symm
noncomputable def S.WatchCounts_s : D.Spec where
  keep := false
  pure := false
  ds := [.int .i64]
  sp := fun args h κ => match args, h with
    | [.ro false (.ints .i64 net)], [] => optC (S.WatchCounts_t net) (fun (r : List Int) => κ (.own 0) [.row (.ints .i64 r)]) none
    | _, _ => none
theorem S.WatchCounts_ok : SpecOk Try.prog 43 S.WatchCounts_s := by
  refine SpecOk.of TDok mixed (T := S.WatchCounts_T) ?_ (ann := S.WatchCounts_ann) Try.func43 rfl (by decide +kernel) ?_ ?_ ?_
  · intro p hp
    simp only [S.WatchCounts_T, List.mem_cons, List.not_mem_nil, or_false] at hp
    rcases hp with rfl | rfl | rfl
    · exact S.NetOk_ok
    · exact S.l2Watch_ok
    · exact S.l1Size_ok
  · intro args h κ r hh
    simp only [S.WatchCounts_s] at hh
    split at hh
    · exact (S.WatchCounts_den _ κ).trans hh
    · cases hh
  · intro args h κ r hh
    simp only [S.WatchCounts_s] at hh ⊢
    split at hh
    · exact optC_law2 (F := fun (r : List Int) κ => κ (.own 0) [.row (.ints .i64 r)]) (fun b κ r hb => ⟨_, _, hb, fun _ => rfl⟩) hh
    · cases hh
  · intro hh; cases hh

-- loop.example/guardsonnets/laws.FnWatchCounts
noncomputable def L.FnWatchCounts_T : List (Nat × D.Spec) := [(41, S.DrawWatchCounts_s), (42, I.WatchCounts_s), (43, S.WatchCounts_s), (38, L.sameInts_s), (30, I.NetOk_s), (21, L.alive_s), (28, I.FewestWatch_s)]
def L.FnWatchCounts_ann : Nat → List Nat × List Nat
  | 12 => ([3, 4, 5, 6, 7], [3, 4, 5, 6])
  | _ => ([], [])
noncomputable def L.FnWatchCounts_F (args : List V) (h : List E) (κ : V → List E → R) : R := funC TD (tableK L.FnWatchCounts_T) L.FnWatchCounts_ann (drawOk (tableP L.FnWatchCounts_T)) FUEL Try.f8 args h κ
noncomputable def L.FnWatchCounts_L12 (n : Nat) (σ : St) (k : X → St → R) : R := iterC 0 (fun σ k => denC TD (tableK L.FnWatchCounts_T) L.FnWatchCounts_ann (drawOk (tableP L.FnWatchCounts_T)) 0 FUEL ((findLoop 12 (Try.f8.body.getD .skip)).getD .skip) σ k) [3, 4, 5, 6, 7] [3, 4, 5, 6] n σ k
noncomputable def L.FnWatchCounts_k12 (κ : V → List E → R) : X → St → R := (afterC TD (tableK L.FnWatchCounts_T) L.FnWatchCounts_ann (drawOk (tableP L.FnWatchCounts_T)) 0 FUEL 12 (Try.f8.body.getD .skip) (finC 0 Try.f8 κ)).getD (fun _ _ => none)
noncomputable def L.FnWatchCounts_step12 {α : Type} (x5 : Int) (x6 : Int) (x7 : Int) (r0 : List Int) (r1 : List Int) (next_ : Int × Int × Int × (List Int) × (List Int) → α) (out0_ : Int × Int × (List Int) × (List Int) → α) (fail_ : α) : α :=
  (bif decide (x7 < (↑r1.length : Int)) then (bif decide (0 ≤ x7) && decide (x7 < (↑r1.length : Int)) then (bif decide (x7.toNat < r1.length) then (bif decide (x6 < 0) then (bif decide (0 ≤ x7) && decide (x7 < (↑r1.length : Int)) then (bif decide (x7.toNat < r1.length) then (bif decide (eli r1 x7.toNat > 0) then (next_ (IntKind.i64.wrap (x5 + eli r1 x7.toNat), x7, IntKind.i64.wrap (x7 + 1), r0, r1)) else (next_ (IntKind.i64.wrap (x5 + eli r1 x7.toNat), x6, IntKind.i64.wrap (x7 + 1), r0, r1))) else fail_) else fail_) else (next_ (IntKind.i64.wrap (x5 + eli r1 x7.toNat), x6, IntKind.i64.wrap (x7 + 1), r0, r1))) else fail_) else fail_) else (out0_ (x5, x6, r0, r1)))
theorem L.FnWatchCounts_step12_nat {α γ : Type} (g : α → γ) (x5 : Int) (x6 : Int) (x7 : Int) (r0 : List Int) (r1 : List Int) (next_ : Int × Int × Int × (List Int) × (List Int) → α) (out0_ : Int × Int × (List Int) × (List Int) → α) (fail_ : α) : g (L.FnWatchCounts_step12 x5 x6 x7 r0 r1 next_ out0_ fail_) = L.FnWatchCounts_step12 x5 x6 x7 r0 r1 (fun s => g (next_ s)) (fun d => g (out0_ d)) (g fail_) := by
  unfold L.FnWatchCounts_step12; simp only [apply_cnd g, apply_optC g, apply_sumC g]
noncomputable def L.FnWatchCounts_run12 : Nat → Int × Int × Int × (List Int) × (List Int) → Option (Int × Int × (List Int) × (List Int))
  | 0, _ => none
  | n + 1, s_ => L.FnWatchCounts_step12 s_.1 s_.2.1 s_.2.2.1 s_.2.2.2.1 s_.2.2.2.2 (L.FnWatchCounts_run12 n) (fun d => some d) none
theorem L.FnWatchCounts_L12_run (n : Nat) (s_ : Int × Int × Int × (List Int) × (List Int)) (k : X → St → R) : L.FnWatchCounts_L12 n { n := 77, t := [(3, (.own 0)), (4, (.own 1)), (5, (.int .i64 s_.1)), (6, (.int .i64 s_.2.1)), (7, (.int .i64 s_.2.2.1))], h := [.row (.ints .i64 s_.2.2.2.1), .row (.ints .i64 s_.2.2.2.2)] } k = optC (L.FnWatchCounts_run12 n s_) (fun (r : Int × Int × (List Int) × (List Int)) => k (.exit 0) { n := 77, t := [(3, (.own 0)), (4, (.own 1)), (5, (.int .i64 r.1)), (6, (.int .i64 r.2.1))], h := [.row (.ints .i64 r.2.2.1), .row (.ints .i64 r.2.2.2)] }) none := by
  induction n generalizing s_ with
  | zero => rfl
  | succ n ih =>
    have hu : L.FnWatchCounts_L12 (n + 1) { n := 77, t := [(3, (.own 0)), (4, (.own 1)), (5, (.int .i64 s_.1)), (6, (.int .i64 s_.2.1)), (7, (.int .i64 s_.2.2.1))], h := [.row (.ints .i64 s_.2.2.2.1), .row (.ints .i64 s_.2.2.2.2)] } k = L.FnWatchCounts_step12 s_.1 s_.2.1 s_.2.2.1 s_.2.2.2.1 s_.2.2.2.2 (fun s_ => L.FnWatchCounts_L12 n { n := 77, t := [(3, (.own 0)), (4, (.own 1)), (5, (.int .i64 s_.1)), (6, (.int .i64 s_.2.1)), (7, (.int .i64 s_.2.2.1))], h := [.row (.ints .i64 s_.2.2.2.1), .row (.ints .i64 s_.2.2.2.2)] } k) (fun d => k (.exit 0) { n := 77, t := [(3, (.own 0)), (4, (.own 1)), (5, (.int .i64 d.1)), (6, (.int .i64 d.2.1))], h := [.row (.ints .i64 d.2.2.1), .row (.ints .i64 d.2.2.2)] }) none := by
      kernel_rfl
    have hs : (fun s_ : Int × Int × Int × (List Int) × (List Int) => L.FnWatchCounts_L12 n { n := 77, t := [(3, (.own 0)), (4, (.own 1)), (5, (.int .i64 s_.1)), (6, (.int .i64 s_.2.1)), (7, (.int .i64 s_.2.2.1))], h := [.row (.ints .i64 s_.2.2.2.1), .row (.ints .i64 s_.2.2.2.2)] } k) = fun s_ => optC (L.FnWatchCounts_run12 n s_) (fun (r : Int × Int × (List Int) × (List Int)) => k (.exit 0) { n := 77, t := [(3, (.own 0)), (4, (.own 1)), (5, (.int .i64 r.1)), (6, (.int .i64 r.2.1))], h := [.row (.ints .i64 r.2.2.1), .row (.ints .i64 r.2.2.2)] }) none := funext ih
    rw [hu, hs]
    exact (L.FnWatchCounts_step12_nat (fun o => optC o (fun (r : Int × Int × (List Int) × (List Int)) => k (.exit 0) { n := 77, t := [(3, (.own 0)), (4, (.own 1)), (5, (.int .i64 r.1)), (6, (.int .i64 r.2.1))], h := [.row (.ints .i64 r.2.2.1), .row (.ints .i64 r.2.2.2)] }) none) s_.1 s_.2.1 s_.2.2.1 s_.2.2.2.1 s_.2.2.2.2 (L.FnWatchCounts_run12 n) (fun d => some d) none).symm
noncomputable def L.FnWatchCounts_tree {α : Type} (code : List Int) (leaf0_ : Bool → α) (fail_ : α) : α :=
  (bif decide ((↑code.length : Int) > 1048576) then (leaf0_ true) else (optC (S.DrawWatchCounts_t code) (fun c_1 => (optC (I.WatchCounts_t c_1) (fun c_2 => (optC (S.WatchCounts_t c_1) (fun c_3 => (optC (L.sameInts_t c_2 c_3) (fun c_4 => (bif !c_4 then (leaf0_ false) else (bif (↑c_2.length : Int) == 0 then (optC (I.NetOk_t c_1) (fun c_5 => (bif !c_5 then (optC (L.alive_t) (fun c_6 => (leaf0_ c_6)) fail_) else (leaf0_ false))) fail_) else (optC (L.FnWatchCounts_run12 FUEL (0, -1, 0, c_1, c_2)) (fun qy_7 => (bif qy_7.1.tmod 2 == 1 then (optC (I.FewestWatch_t qy_7.2.2.1) (fun c_8 => (bif qy_7.2.1 == c_8 then (bif decide (0 ≤ IntKind.i64.wrap ((↑qy_7.2.2.2.length : Int) - 1)) && decide (IntKind.i64.wrap ((↑qy_7.2.2.2.length : Int) - 1) < (↑qy_7.2.2.2.length : Int)) then (bif decide ((IntKind.i64.wrap ((↑qy_7.2.2.2.length : Int) - 1)).toNat < qy_7.2.2.2.length) then (bif eli qy_7.2.2.2 (IntKind.i64.wrap ((↑qy_7.2.2.2.length : Int) - 1)).toNat == 1 then (leaf0_ ((↑qy_7.2.2.2.length : Int) == IntKind.i64.wrap ((↑qy_7.2.2.1.length : Int) + 1))) else (leaf0_ false)) else fail_) else fail_) else (leaf0_ false))) fail_) else (leaf0_ false))) fail_)))) fail_)) fail_)) fail_)) fail_))
theorem L.FnWatchCounts_tree_nat {α γ : Type} (g : α → γ) (code : List Int) (leaf0_ : Bool → α) (fail_ : α) : g (L.FnWatchCounts_tree code leaf0_ fail_) = L.FnWatchCounts_tree code (fun d => g (leaf0_ d)) (g fail_) := by
  unfold L.FnWatchCounts_tree; simp only [apply_cnd g, apply_optC g, apply_sumC g]
noncomputable def L.FnWatchCounts_t (code : List Int) : Option (Bool) := L.FnWatchCounts_tree code (fun d => some d) none
theorem L.FnWatchCounts_den (code : List Int) (κ : V → List E → R) : L.FnWatchCounts_F [.ro true (.ints .u8 code)] [] κ = optC (L.FnWatchCounts_t code) (fun (r : Bool) => κ (.bool r) []) none := by
  have hu : L.FnWatchCounts_F [.ro true (.ints .u8 code)] [] κ = L.FnWatchCounts_tree code (fun d => κ (.bool d) []) none := by
    refine Eq.trans (show L.FnWatchCounts_F [.ro true (.ints .u8 code)] [] κ = (bif decide ((↑code.length : Int) > 1048576) then (κ (.bool true) []) else (optC (S.DrawWatchCounts_t code) (fun c_1 => (optC (I.WatchCounts_t c_1) (fun c_2 => (optC (S.WatchCounts_t c_1) (fun c_3 => (optC (L.sameInts_t c_2 c_3) (fun c_4 => (bif !c_4 then (κ (.bool false) []) else (bif (↑c_2.length : Int) == 0 then (optC (I.NetOk_t c_1) (fun c_5 => (bif !c_5 then (optC (L.alive_t) (fun c_6 => (κ (.bool c_6) [])) none) else (κ (.bool false) []))) none) else (L.FnWatchCounts_L12 FUEL { n := 77, t := [(3, (.own 0)), (4, (.own 1)), (5, (.int .i64 0)), (6, (.int .i64 (-1))), (7, (.int .i64 0))], h := [.row (.ints .i64 c_1), .row (.ints .i64 c_2)] } (L.FnWatchCounts_k12 κ))))) none)) none)) none)) none)) by kernel_rfl) ?_
    refine cnd_congr ?_ ?_
    · kernel_rfl
    · refine optC_congr (fun c_1 => ?_)
      refine optC_congr (fun c_2 => ?_)
      refine optC_congr (fun c_3 => ?_)
      refine optC_congr (fun c_4 => ?_)
      refine cnd_congr ?_ ?_
      · kernel_rfl
      · refine cnd_congr ?_ ?_
        · kernel_rfl
        · refine (L.FnWatchCounts_L12_run FUEL (0, -1, 0, c_1, c_2) (L.FnWatchCounts_k12 κ)).trans (optC_congr (fun qy_7 => ?_))
          kernel_rfl
  rw [hu]
  exact (L.FnWatchCounts_tree_nat (fun o => optC o (fun (r : Bool) => κ (.bool r) []) none) code (fun d => some d) none).symm
noncomputable def L.FnWatchCounts_s : D.Spec where
  keep := true
  pure := true
  ds := [.int .u8]
  sp := fun args h κ => match args, h with
    | [.ro true (.ints .u8 code)], [] => optC (L.FnWatchCounts_t code) (fun (r : Bool) => κ (.bool r) []) none
    | _, _ => none
theorem L.FnWatchCounts_ok : SpecOk Try.prog 8 L.FnWatchCounts_s := by
  refine SpecOk.of TDok mixed (T := L.FnWatchCounts_T) ?_ (ann := L.FnWatchCounts_ann) Try.func8 rfl (by decide +kernel) ?_ ?_ ?_
  · intro p hp
    simp only [L.FnWatchCounts_T, List.mem_cons, List.not_mem_nil, or_false] at hp
    rcases hp with rfl | rfl | rfl | rfl | rfl | rfl | rfl
    · exact S.DrawWatchCounts_ok
    · exact I.WatchCounts_ok
    · exact S.WatchCounts_ok
    · exact L.sameInts_ok
    · exact I.NetOk_ok
    · exact L.alive_ok
    · exact I.FewestWatch_ok
  · intro args h κ r hh
    simp only [L.FnWatchCounts_s] at hh
    split at hh
    · exact (L.FnWatchCounts_den _ κ).trans hh
    · cases hh
  · intro args h κ r hh
    simp only [L.FnWatchCounts_s] at hh ⊢
    split at hh
    · exact optC_law2 (F := fun (r : Bool) κ => κ (.bool r) []) (fun b κ r hb => ⟨_, _, hb, fun _ => rfl⟩) hh
    · cases hh
  · intro _ args h κ r hh
    simp only [L.FnWatchCounts_s] at hh
    split at hh
    · exact ⟨rfl, fun _ => rfl⟩
    · cases hh

-- loop.example/guardsonnets/spec.DrawThinnedWatch
noncomputable def S.DrawThinnedWatch_T : List (Nat × D.Spec) := [(52, S.l20Open_s), (51, S.l20Watch_s)]
def S.DrawThinnedWatch_ann : Nat → List Nat × List Nat
  | _ => ([], [])
noncomputable def S.DrawThinnedWatch_F (args : List V) (h : List E) (κ : V → List E → R) : R := funC TD (tableK S.DrawThinnedWatch_T) S.DrawThinnedWatch_ann (drawOk (tableP S.DrawThinnedWatch_T)) FUEL Try.f44 args h κ
noncomputable def S.DrawThinnedWatch_tree {α : Type} (code : List Int) (leaf0_ : Int × (List Int) → α) (fail_ : α) : α :=
  (optC (S.l20Open_t code) (fun c_1 => (optC (S.l20Watch_t c_1.fst c_1.snd 12) (fun c_2 => (leaf0_ (c_2.fst, c_2.snd.snd.snd))) fail_)) fail_)
theorem S.DrawThinnedWatch_tree_nat {α γ : Type} (g : α → γ) (code : List Int) (leaf0_ : Int × (List Int) → α) (fail_ : α) : g (S.DrawThinnedWatch_tree code leaf0_ fail_) = S.DrawThinnedWatch_tree code (fun d => g (leaf0_ d)) (g fail_) := by
  unfold S.DrawThinnedWatch_tree; simp only [apply_cnd g, apply_optC g, apply_sumC g]
noncomputable def S.DrawThinnedWatch_t (code : List Int) : Option (Int × (List Int)) := S.DrawThinnedWatch_tree code (fun d => some d) none
theorem S.DrawThinnedWatch_den (code : List Int) (κ : V → List E → R) : S.DrawThinnedWatch_F [.ro true (.ints .u8 code)] [] κ = optC (S.DrawThinnedWatch_t code) (fun (r : Int × (List Int)) => κ (.tup [(.own 0), (.int .i64 r.1)]) [.row (.ints .i64 r.2)]) none := by
  have hu : S.DrawThinnedWatch_F [.ro true (.ints .u8 code)] [] κ = S.DrawThinnedWatch_tree code (fun d => κ (.tup [(.own 0), (.int .i64 d.1)]) [.row (.ints .i64 d.2)]) none := by
    kernel_rfl
  rw [hu]
  exact (S.DrawThinnedWatch_tree_nat (fun o => optC o (fun (r : Int × (List Int)) => κ (.tup [(.own 0), (.int .i64 r.1)]) [.row (.ints .i64 r.2)]) none) code (fun d => some d) none).symm
noncomputable def S.DrawThinnedWatch_s : D.Spec where
  keep := true
  pure := false
  ds := [.int .u8]
  sp := fun args h κ => match args, h with
    | [.ro true (.ints .u8 code)], [] => optC (S.DrawThinnedWatch_t code) (fun (r : Int × (List Int)) => κ (.tup [(.own 0), (.int .i64 r.1)]) [.row (.ints .i64 r.2)]) none
    | _, _ => none
theorem S.DrawThinnedWatch_ok : SpecOk Try.prog 44 S.DrawThinnedWatch_s := by
  refine SpecOk.of TDok mixed (T := S.DrawThinnedWatch_T) ?_ (ann := S.DrawThinnedWatch_ann) Try.func44 rfl (by decide +kernel) ?_ ?_ ?_
  · intro p hp
    simp only [S.DrawThinnedWatch_T, List.mem_cons, List.not_mem_nil, or_false] at hp
    rcases hp with rfl | rfl
    · exact S.l20Open_ok
    · exact S.l20Watch_ok
  · intro args h κ r hh
    simp only [S.DrawThinnedWatch_s] at hh
    split at hh
    · exact (S.DrawThinnedWatch_den _ κ).trans hh
    · cases hh
  · intro args h κ r hh
    simp only [S.DrawThinnedWatch_s] at hh ⊢
    split at hh
    · exact optC_law2 (F := fun (r : Int × (List Int)) κ => κ (.tup [(.own 0), (.int .i64 r.1)]) [.row (.ints .i64 r.2)]) (fun b κ r hb => ⟨_, _, hb, fun _ => rfl⟩) hh
    · cases hh
  · intro hh; cases hh

-- loop.example/guardsonnets/impl.ThinnedWatch
noncomputable def I.ThinnedWatch_T : List (Nat × D.Spec) := [(18, I.WatchOk_s), (70, I.without_s), (54, I.watchIn_s)]
def I.ThinnedWatch_ann : Nat → List Nat × List Nat
  | 5 => ([0, 5, 6], [5])
  | _ => ([], [])
noncomputable def I.ThinnedWatch_F (args : List V) (h : List E) (κ : V → List E → R) : R := funC TD (tableK I.ThinnedWatch_T) I.ThinnedWatch_ann (drawOk (tableP I.ThinnedWatch_T)) FUEL Try.f45 args h κ
noncomputable def I.ThinnedWatch_L5 (n : Nat) (σ : St) (k : X → St → R) : R := iterC 0 (fun σ k => denC TD (tableK I.ThinnedWatch_T) I.ThinnedWatch_ann (drawOk (tableP I.ThinnedWatch_T)) 0 FUEL ((findLoop 5 (Try.f45.body.getD .skip)).getD .skip) σ k) [0, 5, 6] [5] n σ k
noncomputable def I.ThinnedWatch_k5 (κ : V → List E → R) : X → St → R := (afterC TD (tableK I.ThinnedWatch_T) I.ThinnedWatch_ann (drawOk (tableP I.ThinnedWatch_T)) 0 FUEL 5 (Try.f45.body.getD .skip) (finC 0 Try.f45 κ)).getD (fun _ _ => none)
noncomputable def I.ThinnedWatch_step5 {α : Type} (x0 : List Int) (x5 : Int) (x6 : Int) (next_ : Int × Int → α) (out0_ : Int → α) (fail_ : α) : α :=
  (bif decide (x6 ≥ 0) then (optC (I.without_t x5 x6) (fun c_2 => (optC (I.watchIn_t x0 c_2) (fun c_3 => (bif c_3 then (optC (I.without_t x5 x6) (fun c_4 => (next_ (c_4, IntKind.i64.wrap (x6 - 1)))) fail_) else (next_ (x5, IntKind.i64.wrap (x6 - 1))))) fail_)) fail_) else (out0_ x5))
theorem I.ThinnedWatch_step5_nat {α γ : Type} (g : α → γ) (x0 : List Int) (x5 : Int) (x6 : Int) (next_ : Int × Int → α) (out0_ : Int → α) (fail_ : α) : g (I.ThinnedWatch_step5 x0 x5 x6 next_ out0_ fail_) = I.ThinnedWatch_step5 x0 x5 x6 (fun s => g (next_ s)) (fun d => g (out0_ d)) (g fail_) := by
  unfold I.ThinnedWatch_step5; simp only [apply_cnd g, apply_optC g, apply_sumC g]
noncomputable def I.ThinnedWatch_run5 (x0 : List Int) : Nat → Int × Int → Option (Int)
  | 0, _ => none
  | n + 1, s_ => I.ThinnedWatch_step5 x0 s_.1 s_.2 (I.ThinnedWatch_run5 x0 n) (fun d => some d) none
theorem I.ThinnedWatch_L5_run (x0 : List Int) (n : Nat) (s_ : Int × Int) (k : X → St → R) : I.ThinnedWatch_L5 n { n := 28, t := [(0, (.ro false (.ints .i64 x0))), (5, (.int .i64 s_.1)), (6, (.int .i64 s_.2))], h := [] } k = optC (I.ThinnedWatch_run5 x0 n s_) (fun (r : Int) => k (.exit 0) { n := 28, t := [(5, (.int .i64 r))], h := [] }) none := by
  induction n generalizing s_ with
  | zero => rfl
  | succ n ih =>
    have hu : I.ThinnedWatch_L5 (n + 1) { n := 28, t := [(0, (.ro false (.ints .i64 x0))), (5, (.int .i64 s_.1)), (6, (.int .i64 s_.2))], h := [] } k = I.ThinnedWatch_step5 x0 s_.1 s_.2 (fun s_ => I.ThinnedWatch_L5 n { n := 28, t := [(0, (.ro false (.ints .i64 x0))), (5, (.int .i64 s_.1)), (6, (.int .i64 s_.2))], h := [] } k) (fun d => k (.exit 0) { n := 28, t := [(5, (.int .i64 d))], h := [] }) none := by
      kernel_rfl
    have hs : (fun s_ : Int × Int => I.ThinnedWatch_L5 n { n := 28, t := [(0, (.ro false (.ints .i64 x0))), (5, (.int .i64 s_.1)), (6, (.int .i64 s_.2))], h := [] } k) = fun s_ => optC (I.ThinnedWatch_run5 x0 n s_) (fun (r : Int) => k (.exit 0) { n := 28, t := [(5, (.int .i64 r))], h := [] }) none := funext ih
    rw [hu, hs]
    exact (I.ThinnedWatch_step5_nat (fun o => optC o (fun (r : Int) => k (.exit 0) { n := 28, t := [(5, (.int .i64 r))], h := [] }) none) x0 s_.1 s_.2 (I.ThinnedWatch_run5 x0 n) (fun d => some d) none).symm
noncomputable def I.ThinnedWatch_tree {α : Type} (net : List Int) (set_ : Int) (leaf0_ : Int → α) (fail_ : α) : α :=
  (optC (I.WatchOk_t net set_) (fun c_1 => (bif !c_1 then (leaf0_ (-1)) else (optC (I.ThinnedWatch_run5 net FUEL (set_, IntKind.i64.wrap ((↑net.length : Int) - 1))) (fun qy_5 => (leaf0_ qy_5)) fail_))) fail_)
theorem I.ThinnedWatch_tree_nat {α γ : Type} (g : α → γ) (net : List Int) (set_ : Int) (leaf0_ : Int → α) (fail_ : α) : g (I.ThinnedWatch_tree net set_ leaf0_ fail_) = I.ThinnedWatch_tree net set_ (fun d => g (leaf0_ d)) (g fail_) := by
  unfold I.ThinnedWatch_tree; simp only [apply_cnd g, apply_optC g, apply_sumC g]
noncomputable def I.ThinnedWatch_t (net : List Int) (set_ : Int) : Option (Int) := I.ThinnedWatch_tree net set_ (fun d => some d) none
theorem I.ThinnedWatch_den (net : List Int) (set_ : Int) (κ : V → List E → R) : I.ThinnedWatch_F [.ro false (.ints .i64 net), .int .i64 set_] [] κ = optC (I.ThinnedWatch_t net set_) (fun (r : Int) => κ (.int .i64 r) []) none := by
  have hu : I.ThinnedWatch_F [.ro false (.ints .i64 net), .int .i64 set_] [] κ = I.ThinnedWatch_tree net set_ (fun d => κ (.int .i64 d) []) none := by
    refine Eq.trans (show I.ThinnedWatch_F [.ro false (.ints .i64 net), .int .i64 set_] [] κ = (optC (I.WatchOk_t net set_) (fun c_1 => (bif !c_1 then (κ (.int .i64 (-1)) []) else (I.ThinnedWatch_L5 FUEL { n := 28, t := [(0, (.ro false (.ints .i64 net))), (5, (.int .i64 set_)), (6, (.int .i64 (IntKind.i64.wrap ((↑net.length : Int) - 1))))], h := [] } (I.ThinnedWatch_k5 κ)))) none) by kernel_rfl) ?_
    refine optC_congr (fun c_1 => ?_)
    refine cnd_congr ?_ ?_
    · kernel_rfl
    · refine (I.ThinnedWatch_L5_run net FUEL (set_, IntKind.i64.wrap ((↑net.length : Int) - 1)) (I.ThinnedWatch_k5 κ)).trans (optC_congr (fun qy_5 => ?_))
      kernel_rfl
  rw [hu]
  exact (I.ThinnedWatch_tree_nat (fun o => optC o (fun (r : Int) => κ (.int .i64 r) []) none) net set_ (fun d => some d) none).symm
noncomputable def I.ThinnedWatch_s : D.Spec where
  keep := false
  pure := true
  ds := [.int .i64, .invalid]
  sp := fun args h κ => match args, h with
    | [.ro false (.ints .i64 net), .int .i64 set_], [] => optC (I.ThinnedWatch_t net set_) (fun (r : Int) => κ (.int .i64 r) []) none
    | _, _ => none
theorem I.ThinnedWatch_ok : SpecOk Try.prog 45 I.ThinnedWatch_s := by
  refine SpecOk.of TDok mixed (T := I.ThinnedWatch_T) ?_ (ann := I.ThinnedWatch_ann) Try.func45 rfl (by decide +kernel) ?_ ?_ ?_
  · intro p hp
    simp only [I.ThinnedWatch_T, List.mem_cons, List.not_mem_nil, or_false] at hp
    rcases hp with rfl | rfl | rfl
    · exact I.WatchOk_ok
    · exact I.without_ok
    · exact I.watchIn_ok
  · intro args h κ r hh
    simp only [I.ThinnedWatch_s] at hh
    split at hh
    · exact (I.ThinnedWatch_den _ _ κ).trans hh
    · cases hh
  · intro args h κ r hh
    simp only [I.ThinnedWatch_s] at hh ⊢
    split at hh
    · exact optC_law2 (F := fun (r : Int) κ => κ (.int .i64 r) []) (fun b κ r hb => ⟨_, _, hb, fun _ => rfl⟩) hh
    · cases hh
  · intro _ args h κ r hh
    simp only [I.ThinnedWatch_s] at hh
    split at hh
    · exact ⟨rfl, fun _ => rfl⟩
    · cases hh

-- loop.example/guardsonnets/spec.ThinnedWatch
noncomputable def S.ThinnedWatch_T : List (Nat × D.Spec) := [(19, S.WatchOk_s), (56, S.l2Watch_s)]
def S.ThinnedWatch_ann : Nat → List Nat × List Nat
  | 4 => ([0, 1, 5], [1])
  | _ => ([], [])
noncomputable def S.ThinnedWatch_F (args : List V) (h : List E) (κ : V → List E → R) : R := funC TD (tableK S.ThinnedWatch_T) S.ThinnedWatch_ann (drawOk (tableP S.ThinnedWatch_T)) FUEL Try.f46 args h κ
noncomputable def S.ThinnedWatch_L4 (n : Nat) (σ : St) (k : X → St → R) : R := iterC 0 (fun σ k => denC TD (tableK S.ThinnedWatch_T) S.ThinnedWatch_ann (drawOk (tableP S.ThinnedWatch_T)) 0 FUEL ((findLoop 4 (Try.f46.body.getD .skip)).getD .skip) σ k) [0, 1, 5] [1] n σ k
noncomputable def S.ThinnedWatch_k4 (κ : V → List E → R) : X → St → R := (afterC TD (tableK S.ThinnedWatch_T) S.ThinnedWatch_ann (drawOk (tableP S.ThinnedWatch_T)) 0 FUEL 4 (Try.f46.body.getD .skip) (finC 0 Try.f46 κ)).getD (fun _ _ => none)
noncomputable def S.ThinnedWatch_step4 {α : Type} (x0 : List Int) (x1 : Int) (x5 : Int) (next_ : Int × Int → α) (out0_ : Int → α) (fail_ : α) : α :=
  (bif decide (x5 ≥ 0) then (bif decide (x5 < 0) then fail_ else (bif (x1.fdiv (2 ^ min x5.toNat IntKind.i64.bits)).tmod 2 == 1 then (bif decide (x5 < 0) then fail_ else (optC (S.l2Watch_t x0 (IntKind.i64.wrap (x1 - IntKind.i64.wrap (1 * 2 ^ min x5.toNat IntKind.i64.bits)))) (fun c_2 => (bif c_2 then (bif decide (x5 < 0) then fail_ else (next_ (IntKind.i64.wrap (x1 - IntKind.i64.wrap (1 * 2 ^ min x5.toNat IntKind.i64.bits)), IntKind.i64.wrap (x5 - 1)))) else (next_ (x1, IntKind.i64.wrap (x5 - 1))))) fail_)) else (next_ (x1, IntKind.i64.wrap (x5 - 1))))) else (out0_ x1))
theorem S.ThinnedWatch_step4_nat {α γ : Type} (g : α → γ) (x0 : List Int) (x1 : Int) (x5 : Int) (next_ : Int × Int → α) (out0_ : Int → α) (fail_ : α) : g (S.ThinnedWatch_step4 x0 x1 x5 next_ out0_ fail_) = S.ThinnedWatch_step4 x0 x1 x5 (fun s => g (next_ s)) (fun d => g (out0_ d)) (g fail_) := by
  unfold S.ThinnedWatch_step4; simp only [apply_cnd g, apply_optC g, apply_sumC g]
noncomputable def S.ThinnedWatch_run4 (x0 : List Int) : Nat → Int × Int → Option (Int)
  | 0, _ => none
  | n + 1, s_ => S.ThinnedWatch_step4 x0 s_.1 s_.2 (S.ThinnedWatch_run4 x0 n) (fun d => some d) none
theorem S.ThinnedWatch_L4_run (x0 : List Int) (n : Nat) (s_ : Int × Int) (k : X → St → R) : S.ThinnedWatch_L4 n { n := 35, t := [(0, (.ro false (.ints .i64 x0))), (1, (.int .i64 s_.1)), (5, (.int .i64 s_.2))], h := [] } k = optC (S.ThinnedWatch_run4 x0 n s_) (fun (r : Int) => k (.exit 0) { n := 35, t := [(1, (.int .i64 r))], h := [] }) none := by
  induction n generalizing s_ with
  | zero => rfl
  | succ n ih =>
    have hu : S.ThinnedWatch_L4 (n + 1) { n := 35, t := [(0, (.ro false (.ints .i64 x0))), (1, (.int .i64 s_.1)), (5, (.int .i64 s_.2))], h := [] } k = S.ThinnedWatch_step4 x0 s_.1 s_.2 (fun s_ => S.ThinnedWatch_L4 n { n := 35, t := [(0, (.ro false (.ints .i64 x0))), (1, (.int .i64 s_.1)), (5, (.int .i64 s_.2))], h := [] } k) (fun d => k (.exit 0) { n := 35, t := [(1, (.int .i64 d))], h := [] }) none := by
      kernel_rfl
    have hs : (fun s_ : Int × Int => S.ThinnedWatch_L4 n { n := 35, t := [(0, (.ro false (.ints .i64 x0))), (1, (.int .i64 s_.1)), (5, (.int .i64 s_.2))], h := [] } k) = fun s_ => optC (S.ThinnedWatch_run4 x0 n s_) (fun (r : Int) => k (.exit 0) { n := 35, t := [(1, (.int .i64 r))], h := [] }) none := funext ih
    rw [hu, hs]
    exact (S.ThinnedWatch_step4_nat (fun o => optC o (fun (r : Int) => k (.exit 0) { n := 35, t := [(1, (.int .i64 r))], h := [] }) none) x0 s_.1 s_.2 (S.ThinnedWatch_run4 x0 n) (fun d => some d) none).symm
noncomputable def S.ThinnedWatch_tree {α : Type} (net : List Int) (set_ : Int) (leaf0_ : Int → α) (fail_ : α) : α :=
  (optC (S.WatchOk_t net set_) (fun c_1 => (bif !c_1 then (leaf0_ (-1)) else (optC (S.ThinnedWatch_run4 net FUEL (set_, IntKind.i64.wrap ((↑net.length : Int) - 1))) (fun qy_3 => (leaf0_ qy_3)) fail_))) fail_)
theorem S.ThinnedWatch_tree_nat {α γ : Type} (g : α → γ) (net : List Int) (set_ : Int) (leaf0_ : Int → α) (fail_ : α) : g (S.ThinnedWatch_tree net set_ leaf0_ fail_) = S.ThinnedWatch_tree net set_ (fun d => g (leaf0_ d)) (g fail_) := by
  unfold S.ThinnedWatch_tree; simp only [apply_cnd g, apply_optC g, apply_sumC g]
noncomputable def S.ThinnedWatch_t (net : List Int) (set_ : Int) : Option (Int) := S.ThinnedWatch_tree net set_ (fun d => some d) none
theorem S.ThinnedWatch_den (net : List Int) (set_ : Int) (κ : V → List E → R) : S.ThinnedWatch_F [.ro false (.ints .i64 net), .int .i64 set_] [] κ = optC (S.ThinnedWatch_t net set_) (fun (r : Int) => κ (.int .i64 r) []) none := by
  have hu : S.ThinnedWatch_F [.ro false (.ints .i64 net), .int .i64 set_] [] κ = S.ThinnedWatch_tree net set_ (fun d => κ (.int .i64 d) []) none := by
    refine Eq.trans (show S.ThinnedWatch_F [.ro false (.ints .i64 net), .int .i64 set_] [] κ = (optC (S.WatchOk_t net set_) (fun c_1 => (bif !c_1 then (κ (.int .i64 (-1)) []) else (S.ThinnedWatch_L4 FUEL { n := 35, t := [(0, (.ro false (.ints .i64 net))), (1, (.int .i64 set_)), (5, (.int .i64 (IntKind.i64.wrap ((↑net.length : Int) - 1))))], h := [] } (S.ThinnedWatch_k4 κ)))) none) by kernel_rfl) ?_
    refine optC_congr (fun c_1 => ?_)
    refine cnd_congr ?_ ?_
    · kernel_rfl
    · refine (S.ThinnedWatch_L4_run net FUEL (set_, IntKind.i64.wrap ((↑net.length : Int) - 1)) (S.ThinnedWatch_k4 κ)).trans (optC_congr (fun qy_3 => ?_))
      kernel_rfl
  rw [hu]
  exact (S.ThinnedWatch_tree_nat (fun o => optC o (fun (r : Int) => κ (.int .i64 r) []) none) net set_ (fun d => some d) none).symm
noncomputable def S.ThinnedWatch_s : D.Spec where
  keep := false
  pure := true
  ds := [.int .i64, .invalid]
  sp := fun args h κ => match args, h with
    | [.ro false (.ints .i64 net), .int .i64 set_], [] => optC (S.ThinnedWatch_t net set_) (fun (r : Int) => κ (.int .i64 r) []) none
    | _, _ => none
theorem S.ThinnedWatch_ok : SpecOk Try.prog 46 S.ThinnedWatch_s := by
  refine SpecOk.of TDok mixed (T := S.ThinnedWatch_T) ?_ (ann := S.ThinnedWatch_ann) Try.func46 rfl (by decide +kernel) ?_ ?_ ?_
  · intro p hp
    simp only [S.ThinnedWatch_T, List.mem_cons, List.not_mem_nil, or_false] at hp
    rcases hp with rfl | rfl
    · exact S.WatchOk_ok
    · exact S.l2Watch_ok
  · intro args h κ r hh
    simp only [S.ThinnedWatch_s] at hh
    split at hh
    · exact (S.ThinnedWatch_den _ _ κ).trans hh
    · cases hh
  · intro args h κ r hh
    simp only [S.ThinnedWatch_s] at hh ⊢
    split at hh
    · exact optC_law2 (F := fun (r : Int) κ => κ (.int .i64 r) []) (fun b κ r hb => ⟨_, _, hb, fun _ => rfl⟩) hh
    · cases hh
  · intro _ args h κ r hh
    simp only [S.ThinnedWatch_s] at hh
    split at hh
    · exact ⟨rfl, fun _ => rfl⟩
    · cases hh

-- loop.example/guardsonnets/laws.FnThinnedWatch
noncomputable def L.FnThinnedWatch_T : List (Nat × D.Spec) := [(44, S.DrawThinnedWatch_s), (45, I.ThinnedWatch_s), (46, S.ThinnedWatch_s), (18, I.WatchOk_s), (21, L.alive_s), (24, I.LeastWatchOk_s), (31, L.sizeOf_s), (28, I.FewestWatch_s)]
def L.FnThinnedWatch_ann : Nat → List Nat × List Nat
  | _ => ([], [])
noncomputable def L.FnThinnedWatch_F (args : List V) (h : List E) (κ : V → List E → R) : R := funC TD (tableK L.FnThinnedWatch_T) L.FnThinnedWatch_ann (drawOk (tableP L.FnThinnedWatch_T)) FUEL Try.f9 args h κ
noncomputable def L.FnThinnedWatch_tree {α : Type} (code : List Int) (leaf0_ : Bool → α) (fail_ : α) : α :=
  (bif decide ((↑code.length : Int) > 1048576) then (leaf0_ true) else (optC (S.DrawThinnedWatch_t code) (fun c_1 => (optC (I.ThinnedWatch_t c_1.snd c_1.fst) (fun c_2 => (optC (S.ThinnedWatch_t c_1.snd c_1.fst) (fun c_3 => (bif !c_2 == c_3 then (leaf0_ false) else (bif decide (c_2 < 0) then (bif c_2 == -1 then (optC (I.WatchOk_t c_1.snd c_1.fst) (fun c_4 => (bif !c_4 then (optC (L.alive_t) (fun c_5 => (leaf0_ c_5)) fail_) else (leaf0_ false))) fail_) else (leaf0_ false)) else (bif bits BinOp.andNot IntKind.i64 c_2 c_1.fst == 0 then (optC (I.LeastWatchOk_t c_1.snd c_2) (fun c_6 => (bif c_6 then (optC (I.ThinnedWatch_t c_1.snd c_2) (fun c_7 => (bif c_7 == c_2 then (optC (L.sizeOf_t c_2) (fun c_8 => (optC (I.FewestWatch_t c_1.snd) (fun c_9 => (leaf0_ (decide (c_8 ≥ c_9)))) fail_)) fail_) else (leaf0_ false))) fail_) else (leaf0_ false))) fail_) else (leaf0_ false))))) fail_)) fail_)) fail_))
theorem L.FnThinnedWatch_tree_nat {α γ : Type} (g : α → γ) (code : List Int) (leaf0_ : Bool → α) (fail_ : α) : g (L.FnThinnedWatch_tree code leaf0_ fail_) = L.FnThinnedWatch_tree code (fun d => g (leaf0_ d)) (g fail_) := by
  unfold L.FnThinnedWatch_tree; simp only [apply_cnd g, apply_optC g, apply_sumC g]
noncomputable def L.FnThinnedWatch_t (code : List Int) : Option (Bool) := L.FnThinnedWatch_tree code (fun d => some d) none
theorem L.FnThinnedWatch_den (code : List Int) (κ : V → List E → R) : L.FnThinnedWatch_F [.ro true (.ints .u8 code)] [] κ = optC (L.FnThinnedWatch_t code) (fun (r : Bool) => κ (.bool r) []) none := by
  have hu : L.FnThinnedWatch_F [.ro true (.ints .u8 code)] [] κ = L.FnThinnedWatch_tree code (fun d => κ (.bool d) []) none := by
    kernel_rfl
  rw [hu]
  exact (L.FnThinnedWatch_tree_nat (fun o => optC o (fun (r : Bool) => κ (.bool r) []) none) code (fun d => some d) none).symm
noncomputable def L.FnThinnedWatch_s : D.Spec where
  keep := true
  pure := true
  ds := [.int .u8]
  sp := fun args h κ => match args, h with
    | [.ro true (.ints .u8 code)], [] => optC (L.FnThinnedWatch_t code) (fun (r : Bool) => κ (.bool r) []) none
    | _, _ => none
theorem L.FnThinnedWatch_ok : SpecOk Try.prog 9 L.FnThinnedWatch_s := by
  refine SpecOk.of TDok mixed (T := L.FnThinnedWatch_T) ?_ (ann := L.FnThinnedWatch_ann) Try.func9 rfl (by decide +kernel) ?_ ?_ ?_
  · intro p hp
    simp only [L.FnThinnedWatch_T, List.mem_cons, List.not_mem_nil, or_false] at hp
    rcases hp with rfl | rfl | rfl | rfl | rfl | rfl | rfl | rfl
    · exact S.DrawThinnedWatch_ok
    · exact I.ThinnedWatch_ok
    · exact S.ThinnedWatch_ok
    · exact I.WatchOk_ok
    · exact L.alive_ok
    · exact I.LeastWatchOk_ok
    · exact L.sizeOf_ok
    · exact I.FewestWatch_ok
  · intro args h κ r hh
    simp only [L.FnThinnedWatch_s] at hh
    split at hh
    · exact (L.FnThinnedWatch_den _ κ).trans hh
    · cases hh
  · intro args h κ r hh
    simp only [L.FnThinnedWatch_s] at hh ⊢
    split at hh
    · exact optC_law2 (F := fun (r : Bool) κ => κ (.bool r) []) (fun b κ r hb => ⟨_, _, hb, fun _ => rfl⟩) hh
    · cases hh
  · intro _ args h κ r hh
    simp only [L.FnThinnedWatch_s] at hh
    split at hh
    · exact ⟨rfl, fun _ => rfl⟩
    · cases hh

-- loop.example/guardsonnets/laws.toIntS
noncomputable def L.toIntS_T : List (Nat × D.Spec) := []
def L.toIntS_ann : Nat → List Nat × List Nat
  | 3 => ([0, 3, 4], [3])
  | _ => ([], [])
noncomputable def L.toIntS_F (args : List V) (h : List E) (κ : V → List E → R) : R := funC TD (tableK L.toIntS_T) L.toIntS_ann (drawOk (tableP L.toIntS_T)) FUEL Try.f47 args h κ
noncomputable def L.toIntS_L3 (n : Nat) (σ : St) (k : X → St → R) : R := iterC 0 (fun σ k => denC TD (tableK L.toIntS_T) L.toIntS_ann (drawOk (tableP L.toIntS_T)) 0 FUEL ((findLoop 3 (Try.f47.body.getD .skip)).getD .skip) σ k) [0, 3, 4] [3] n σ k
noncomputable def L.toIntS_k3 (κ : V → List E → R) : X → St → R := (afterC TD (tableK L.toIntS_T) L.toIntS_ann (drawOk (tableP L.toIntS_T)) 0 FUEL 3 (Try.f47.body.getD .skip) (finC 0 Try.f47 κ)).getD (fun _ _ => none)
noncomputable def L.toIntS_step3 {α : Type} (x0 : List Int) (x4 : Int) (r0 : List Int) (next_ : Int × (List Int) → α) (out0_ : List Int → α) (fail_ : α) : α :=
  (bif decide (x4 < (↑x0.length : Int)) then (bif decide (0 ≤ x4) && decide (x4 < (↑x0.length : Int)) then (bif decide (0 ≤ x4) && decide (x4 < (↑r0.length : Int)) then (bif decide (x4.toNat < r0.length) then (next_ (IntKind.i64.wrap (x4 + 1), r0.set x4.toNat (eli x0 x4.toNat))) else fail_) else fail_) else fail_) else (out0_ r0))
theorem L.toIntS_step3_nat {α γ : Type} (g : α → γ) (x0 : List Int) (x4 : Int) (r0 : List Int) (next_ : Int × (List Int) → α) (out0_ : List Int → α) (fail_ : α) : g (L.toIntS_step3 x0 x4 r0 next_ out0_ fail_) = L.toIntS_step3 x0 x4 r0 (fun s => g (next_ s)) (fun d => g (out0_ d)) (g fail_) := by
  unfold L.toIntS_step3; simp only [apply_cnd g, apply_optC g, apply_sumC g]
noncomputable def L.toIntS_run3 (x0 : List Int) : Nat → Int × (List Int) → Option (List Int)
  | 0, _ => none
  | n + 1, s_ => L.toIntS_step3 x0 s_.1 s_.2 (L.toIntS_run3 x0 n) (fun d => some d) none
theorem L.toIntS_L3_run (x0 : List Int) (n : Nat) (s_ : Int × (List Int)) (k : X → St → R) : L.toIntS_L3 n { n := 22, t := [(0, (.ro false (.ints .i64 x0))), (3, (.own 0)), (4, (.int .i64 s_.1))], h := [.row (.ints .i64 s_.2)] } k = optC (L.toIntS_run3 x0 n s_) (fun (r : List Int) => k (.exit 0) { n := 22, t := [(3, (.own 0))], h := [.row (.ints .i64 r)] }) none := by
  induction n generalizing s_ with
  | zero => rfl
  | succ n ih =>
    have hu : L.toIntS_L3 (n + 1) { n := 22, t := [(0, (.ro false (.ints .i64 x0))), (3, (.own 0)), (4, (.int .i64 s_.1))], h := [.row (.ints .i64 s_.2)] } k = L.toIntS_step3 x0 s_.1 s_.2 (fun s_ => L.toIntS_L3 n { n := 22, t := [(0, (.ro false (.ints .i64 x0))), (3, (.own 0)), (4, (.int .i64 s_.1))], h := [.row (.ints .i64 s_.2)] } k) (fun d => k (.exit 0) { n := 22, t := [(3, (.own 0))], h := [.row (.ints .i64 d)] }) none := by
      kernel_rfl
    have hs : (fun s_ : Int × (List Int) => L.toIntS_L3 n { n := 22, t := [(0, (.ro false (.ints .i64 x0))), (3, (.own 0)), (4, (.int .i64 s_.1))], h := [.row (.ints .i64 s_.2)] } k) = fun s_ => optC (L.toIntS_run3 x0 n s_) (fun (r : List Int) => k (.exit 0) { n := 22, t := [(3, (.own 0))], h := [.row (.ints .i64 r)] }) none := funext ih
    rw [hu, hs]
    exact (L.toIntS_step3_nat (fun o => optC o (fun (r : List Int) => k (.exit 0) { n := 22, t := [(3, (.own 0))], h := [.row (.ints .i64 r)] }) none) x0 s_.1 s_.2 (L.toIntS_run3 x0 n) (fun d => some d) none).symm
noncomputable def L.toIntS_tree {α : Type} (a : List Int) (leaf0_ : List Int → α) (fail_ : α) : α :=
  (bif small (↑a.length : Int).toNat && true then (optC (L.toIntS_run3 a FUEL (0, List.replicate (↑a.length : Int).toNat 0)) (fun qy_1 => (leaf0_ qy_1)) fail_) else fail_)
theorem L.toIntS_tree_nat {α γ : Type} (g : α → γ) (a : List Int) (leaf0_ : List Int → α) (fail_ : α) : g (L.toIntS_tree a leaf0_ fail_) = L.toIntS_tree a (fun d => g (leaf0_ d)) (g fail_) := by
  unfold L.toIntS_tree; simp only [apply_cnd g, apply_optC g, apply_sumC g]
noncomputable def L.toIntS_t (a : List Int) : Option (List Int) := L.toIntS_tree a (fun d => some d) none
theorem L.toIntS_den (a : List Int) (κ : V → List E → R) : L.toIntS_F [.ro false (.ints .i64 a)] [] κ = optC (L.toIntS_t a) (fun (r : List Int) => κ (.own 0) [.row (.ints .i64 r)]) none := by
  have hu : L.toIntS_F [.ro false (.ints .i64 a)] [] κ = L.toIntS_tree a (fun d => κ (.own 0) [.row (.ints .i64 d)]) none := by
    refine Eq.trans (show L.toIntS_F [.ro false (.ints .i64 a)] [] κ = (bif small (↑a.length : Int).toNat && true then (L.toIntS_L3 FUEL { n := 22, t := [(0, (.ro false (.ints .i64 a))), (3, (.own 0)), (4, (.int .i64 0))], h := [.row (.ints .i64 (List.replicate (↑a.length : Int).toNat 0))] } (L.toIntS_k3 κ)) else none) by kernel_rfl) ?_
    refine cnd_congr ?_ ?_
    · refine (L.toIntS_L3_run a FUEL (0, List.replicate (↑a.length : Int).toNat 0) (L.toIntS_k3 κ)).trans (optC_congr (fun qy_1 => ?_))
      kernel_rfl
    · kernel_rfl
  rw [hu]
  exact (L.toIntS_tree_nat (fun o => optC o (fun (r : List Int) => κ (.own 0) [.row (.ints .i64 r)]) none) a (fun d => some d) none).symm
noncomputable def L.toIntS_s : D.Spec where
  keep := false
  pure := false
  ds := [.int .i64]
  sp := fun args h κ => match args, h with
    | [.ro false (.ints .i64 a)], [] => optC (L.toIntS_t a) (fun (r : List Int) => κ (.own 0) [.row (.ints .i64 r)]) none
    | _, _ => none
theorem L.toIntS_ok : SpecOk Try.prog 47 L.toIntS_s := by
  refine SpecOk.of TDok mixed (T := L.toIntS_T) ?_ (ann := L.toIntS_ann) Try.func47 rfl (by decide +kernel) ?_ ?_ ?_
  · intro p hp; cases hp
  · intro args h κ r hh
    simp only [L.toIntS_s] at hh
    split at hh
    · exact (L.toIntS_den _ κ).trans hh
    · cases hh
  · intro args h κ r hh
    simp only [L.toIntS_s] at hh ⊢
    split at hh
    · exact optC_law2 (F := fun (r : List Int) κ => κ (.own 0) [.row (.ints .i64 r)]) (fun b κ r hb => ⟨_, _, hb, fun _ => rfl⟩) hh
    · cases hh
  · intro hh; cases hh

-- loop.example/guardsonnets/laws.eqIntS
noncomputable def L.eqIntS_T : List (Nat × D.Spec) := []
def L.eqIntS_ann : Nat → List Nat × List Nat
  | 4 => ([0, 1, 5], [4])
  | _ => ([], [])
noncomputable def L.eqIntS_F (args : List V) (h : List E) (κ : V → List E → R) : R := funC TD (tableK L.eqIntS_T) L.eqIntS_ann (drawOk (tableP L.eqIntS_T)) FUEL Try.f48 args h κ
noncomputable def L.eqIntS_L4 (n : Nat) (σ : St) (k : X → St → R) : R := iterC 0 (fun σ k => denC TD (tableK L.eqIntS_T) L.eqIntS_ann (drawOk (tableP L.eqIntS_T)) 0 FUEL ((findLoop 4 (Try.f48.body.getD .skip)).getD .skip) σ k) [0, 1, 5] [4] n σ k
noncomputable def L.eqIntS_k4 (κ : V → List E → R) : X → St → R := (afterC TD (tableK L.eqIntS_T) L.eqIntS_ann (drawOk (tableP L.eqIntS_T)) 0 FUEL 4 (Try.f48.body.getD .skip) (finC 0 Try.f48 κ)).getD (fun _ _ => none)
noncomputable def L.eqIntS_step4 {α : Type} (x0 : List Int) (x1 : List Int) (x5 : Int) (next_ : Int → α) (out0_ : Bool → α) (out1_ : Unit → α) (fail_ : α) : α :=
  (bif decide (x5 < (↑x0.length : Int)) then (bif decide (0 ≤ x5) && decide (x5 < (↑x0.length : Int)) then (bif decide (0 ≤ x5) && decide (x5 < (↑x1.length : Int)) then (bif !eli x0 x5.toNat == eli x1 x5.toNat then (out0_ false) else (next_ (IntKind.i64.wrap (x5 + 1)))) else fail_) else fail_) else (out1_ ()))
theorem L.eqIntS_step4_nat {α γ : Type} (g : α → γ) (x0 : List Int) (x1 : List Int) (x5 : Int) (next_ : Int → α) (out0_ : Bool → α) (out1_ : Unit → α) (fail_ : α) : g (L.eqIntS_step4 x0 x1 x5 next_ out0_ out1_ fail_) = L.eqIntS_step4 x0 x1 x5 (fun s => g (next_ s)) (fun d => g (out0_ d)) (fun d => g (out1_ d)) (g fail_) := by
  unfold L.eqIntS_step4; simp only [apply_cnd g, apply_optC g, apply_sumC g]
noncomputable def L.eqIntS_run4 (x0 : List Int) (x1 : List Int) : Nat → Int → Option ((Bool) ⊕ (Unit))
  | 0, _ => none
  | n + 1, s_ => L.eqIntS_step4 x0 x1 s_ (L.eqIntS_run4 x0 x1 n) (fun d => some ((Sum.inl d))) (fun d => some ((Sum.inr d))) none
theorem L.eqIntS_L4_run (x0 : List Int) (x1 : List Int) (n : Nat) (s_ : Int) (k : X → St → R) : L.eqIntS_L4 n { n := 26, t := [(0, (.ro false (.ints .i64 x0))), (1, (.ro false (.ints .i64 x1))), (5, (.int .i64 s_))], h := [] } k = optC (L.eqIntS_run4 x0 x1 n s_) (fun (r : (Bool) ⊕ (Unit)) => (sumC r (fun (r : Bool) => k (.ret) { n := 26, t := [(4, (.bool r))], h := [] }) (fun (r : Unit) => k (.exit 0) { n := 26, t := [(4, .junk)], h := [] }))) none := by
  induction n generalizing s_ with
  | zero => rfl
  | succ n ih =>
    have hu : L.eqIntS_L4 (n + 1) { n := 26, t := [(0, (.ro false (.ints .i64 x0))), (1, (.ro false (.ints .i64 x1))), (5, (.int .i64 s_))], h := [] } k = L.eqIntS_step4 x0 x1 s_ (fun s_ => L.eqIntS_L4 n { n := 26, t := [(0, (.ro false (.ints .i64 x0))), (1, (.ro false (.ints .i64 x1))), (5, (.int .i64 s_))], h := [] } k) (fun d => k (.ret) { n := 26, t := [(4, (.bool d))], h := [] }) (fun d => k (.exit 0) { n := 26, t := [(4, .junk)], h := [] }) none := by
      kernel_rfl
    have hs : (fun s_ : Int => L.eqIntS_L4 n { n := 26, t := [(0, (.ro false (.ints .i64 x0))), (1, (.ro false (.ints .i64 x1))), (5, (.int .i64 s_))], h := [] } k) = fun s_ => optC (L.eqIntS_run4 x0 x1 n s_) (fun (r : (Bool) ⊕ (Unit)) => (sumC r (fun (r : Bool) => k (.ret) { n := 26, t := [(4, (.bool r))], h := [] }) (fun (r : Unit) => k (.exit 0) { n := 26, t := [(4, .junk)], h := [] }))) none := funext ih
    rw [hu, hs]
    exact (L.eqIntS_step4_nat (fun o => optC o (fun (r : (Bool) ⊕ (Unit)) => (sumC r (fun (r : Bool) => k (.ret) { n := 26, t := [(4, (.bool r))], h := [] }) (fun (r : Unit) => k (.exit 0) { n := 26, t := [(4, .junk)], h := [] }))) none) x0 x1 s_ (L.eqIntS_run4 x0 x1 n) (fun d => some ((Sum.inl d))) (fun d => some ((Sum.inr d))) none).symm
noncomputable def L.eqIntS_tree {α : Type} (a : List Int) (b_ : List Int) (leaf0_ : Bool → α) (fail_ : α) : α :=
  (bif !(↑a.length : Int) == (↑b_.length : Int) then (leaf0_ false) else (optC (L.eqIntS_run4 a b_ FUEL 0) (fun qy_1 => (sumC qy_1 (fun (qy_1 : Bool) => (leaf0_ qy_1)) (fun (qy_1 : Unit) => (leaf0_ true)))) fail_))
theorem L.eqIntS_tree_nat {α γ : Type} (g : α → γ) (a : List Int) (b_ : List Int) (leaf0_ : Bool → α) (fail_ : α) : g (L.eqIntS_tree a b_ leaf0_ fail_) = L.eqIntS_tree a b_ (fun d => g (leaf0_ d)) (g fail_) := by
  unfold L.eqIntS_tree; simp only [apply_cnd g, apply_optC g, apply_sumC g]
noncomputable def L.eqIntS_t (a : List Int) (b_ : List Int) : Option (Bool) := L.eqIntS_tree a b_ (fun d => some d) none
theorem L.eqIntS_den (a : List Int) (b_ : List Int) (κ : V → List E → R) : L.eqIntS_F [.ro false (.ints .i64 a), .ro false (.ints .i64 b_)] [] κ = optC (L.eqIntS_t a b_) (fun (r : Bool) => κ (.bool r) []) none := by
  have hu : L.eqIntS_F [.ro false (.ints .i64 a), .ro false (.ints .i64 b_)] [] κ = L.eqIntS_tree a b_ (fun d => κ (.bool d) []) none := by
    refine Eq.trans (show L.eqIntS_F [.ro false (.ints .i64 a), .ro false (.ints .i64 b_)] [] κ = (bif !(↑a.length : Int) == (↑b_.length : Int) then (κ (.bool false) []) else (L.eqIntS_L4 FUEL { n := 26, t := [(0, (.ro false (.ints .i64 a))), (1, (.ro false (.ints .i64 b_))), (5, (.int .i64 0))], h := [] } (L.eqIntS_k4 κ))) by kernel_rfl) ?_
    refine cnd_congr ?_ ?_
    · kernel_rfl
    · refine (L.eqIntS_L4_run a b_ FUEL 0 (L.eqIntS_k4 κ)).trans (optC_congr (fun qy_1 => ?_))
      rcases qy_1 with qy_1 | qy_1
      · kernel_rfl
      · kernel_rfl
  rw [hu]
  exact (L.eqIntS_tree_nat (fun o => optC o (fun (r : Bool) => κ (.bool r) []) none) a b_ (fun d => some d) none).symm
noncomputable def L.eqIntS_s : D.Spec where
  keep := false
  pure := true
  ds := [.int .i64, .int .i64]
  sp := fun args h κ => match args, h with
    | [.ro false (.ints .i64 a), .ro false (.ints .i64 b_)], [] => optC (L.eqIntS_t a b_) (fun (r : Bool) => κ (.bool r) []) none
    | _, _ => none
theorem L.eqIntS_ok : SpecOk Try.prog 48 L.eqIntS_s := by
  refine SpecOk.of TDok mixed (T := L.eqIntS_T) ?_ (ann := L.eqIntS_ann) Try.func48 rfl (by decide +kernel) ?_ ?_ ?_
  · intro p hp; cases hp
  · intro args h κ r hh
    simp only [L.eqIntS_s] at hh
    split at hh
    · exact (L.eqIntS_den _ _ κ).trans hh
    · cases hh
  · intro args h κ r hh
    simp only [L.eqIntS_s] at hh ⊢
    split at hh
    · exact optC_law2 (F := fun (r : Bool) κ => κ (.bool r) []) (fun b κ r hb => ⟨_, _, hb, fun _ => rfl⟩) hh
    · cases hh
  · intro _ args h κ r hh
    simp only [L.eqIntS_s] at hh
    split at hh
    · exact ⟨rfl, fun _ => rfl⟩
    · cases hh


end Go.Proofs.Ytjflfhcdphkejaa
