/- Twins of the translated functions, with their proofs. Conditions: none. -/
import Derived.Test.YtgocpgkhbamkcaaBzT2
set_option linter.unusedVariables false
set_option linter.unusedSimpArgs false
set_option linter.unusedSectionVars false
namespace Go.Proofs.Ytgocpgkhbamkcaa
open D Go.RowKit
-- loop.example/guardsonnets/impl.AllAnswerOf
noncomputable def I.AllAnswerOf_T : List (Nat × D.Spec) := [(29, I.NetOk_s), (41, I.setIn_s), (46, I.placeIn_s), (53, I.hasPlace_s), (50, I.allEternalIn_s), (54, I.allAnswerIn_s)]
def I.AllAnswerOf_ann : Nat → List Nat × List Nat
  | _ => ([], [])
noncomputable def I.AllAnswerOf_F (args : List V) (h : List E) (κ : V → List E → R) : R := funC TD (tableK I.AllAnswerOf_T) I.AllAnswerOf_ann (drawOk (tableP I.AllAnswerOf_T)) FUEL Try.f24 args h κ
noncomputable def I.AllAnswerOf_tree {α : Type} (net : List Int) (set_ : Int) (place : Int) (leaf0_ : Int → α) (fail_ : α) : α :=
  (optC (I.NetOk_t net) (fun c_1 => (bif !c_1 then (leaf0_ (-1)) else (optC (I.setIn_t net set_) (fun c_2 => (bif !c_2 then (leaf0_ (-1)) else (optC (I.placeIn_t net place) (fun c_3 => (bif !c_3 then (leaf0_ (-1)) else (optC (I.hasPlace_t set_ place) (fun c_4 => (bif c_4 then (leaf0_ (-1)) else (optC (I.allEternalIn_t net) (fun c_5 => (bif decide (0 ≤ set_) && decide (set_ < (↑c_5.length : Int)) then (bif decide (set_.toNat < c_5.length) then (bif !elb c_5 set_.toNat then (leaf0_ (-1)) else (optC (I.allAnswerIn_t net c_5 set_ place) (fun c_6 => (leaf0_ c_6)) fail_)) else fail_) else fail_)) fail_))) fail_))) fail_))) fail_))) fail_)
theorem I.AllAnswerOf_tree_nat {α γ : Type} (g : α → γ) (net : List Int) (set_ : Int) (place : Int) (leaf0_ : Int → α) (fail_ : α) : g (I.AllAnswerOf_tree net set_ place leaf0_ fail_) = I.AllAnswerOf_tree net set_ place (fun d => g (leaf0_ d)) (g fail_) := by
  unfold I.AllAnswerOf_tree; simp only [apply_cnd g, apply_optC g, apply_sumC g]
noncomputable def I.AllAnswerOf_t (net : List Int) (set_ : Int) (place : Int) : Option (Int) := I.AllAnswerOf_tree net set_ place (fun d => some d) none
theorem I.AllAnswerOf_den (net : List Int) (set_ : Int) (place : Int) (κ : V → List E → R) : I.AllAnswerOf_F [.ro false (.ints .i64 net), .int .i64 set_, .int .i64 place] [] κ = optC (I.AllAnswerOf_t net set_ place) (fun (r : Int) => κ (.int .i64 r) []) none := by
  have hu : I.AllAnswerOf_F [.ro false (.ints .i64 net), .int .i64 set_, .int .i64 place] [] κ = I.AllAnswerOf_tree net set_ place (fun d => κ (.int .i64 d) []) none := by
    kernel_rfl
  rw [hu]
  exact (I.AllAnswerOf_tree_nat (fun o => optC o (fun (r : Int) => κ (.int .i64 r) []) none) net set_ place (fun d => some d) none).symm
noncomputable def I.AllAnswerOf_s : D.Spec where
  keep := false
  pure := true
  ds := [.int .i64, .invalid, .invalid]
  sp := fun args h κ => match args, h with
    | [.ro false (.ints .i64 net), .int .i64 set_, .int .i64 place], [] => optC (I.AllAnswerOf_t net set_ place) (fun (r : Int) => κ (.int .i64 r) []) none
    | _, _ => none
theorem I.AllAnswerOf_ok : SpecOk Try.prog 24 I.AllAnswerOf_s := by
  refine SpecOk.of TDok mixed (T := I.AllAnswerOf_T) ?_ (ann := I.AllAnswerOf_ann) Try.func24 rfl (by decide +kernel) ?_ ?_ ?_
  · intro p hp
    simp only [I.AllAnswerOf_T, List.mem_cons, List.not_mem_nil, or_false] at hp
    rcases hp with rfl | rfl | rfl | rfl | rfl | rfl
    · exact I.NetOk_ok
    · exact I.setIn_ok
    · exact I.placeIn_ok
    · exact I.hasPlace_ok
    · exact I.allEternalIn_ok
    · exact I.allAnswerIn_ok
  · intro args h κ r hh
    simp only [I.AllAnswerOf_s] at hh
    split at hh
    · exact (I.AllAnswerOf_den _ _ _ κ).trans hh
    · cases hh
  · intro args h κ r hh
    simp only [I.AllAnswerOf_s] at hh ⊢
    split at hh
    · exact optC_law2 (F := fun (r : Int) κ => κ (.int .i64 r) []) (fun b κ r hb => ⟨_, _, hb, fun _ => rfl⟩) hh
    · cases hh
  · intro _ args h κ r hh
    simp only [I.AllAnswerOf_s] at hh
    split at hh
    · exact ⟨rfl, fun _ => rfl⟩
    · cases hh

-- loop.example/guardsonnets/impl.watchIn
noncomputable def I.watchIn_T : List (Nat × D.Spec) := [(45, I.seenIn_s), (61, I.allOf_s)]
def I.watchIn_ann : Nat → List Nat × List Nat
  | _ => ([], [])
noncomputable def I.watchIn_F (args : List V) (h : List E) (κ : V → List E → R) : R := funC TD (tableK I.watchIn_T) I.watchIn_ann (drawOk (tableP I.watchIn_T)) FUEL Try.f55 args h κ
noncomputable def I.watchIn_tree {α : Type} (net : List Int) (set_ : Int) (leaf0_ : Bool → α) (fail_ : α) : α :=
  (optC (I.seenIn_t net set_) (fun c_1 => (optC (I.allOf_t net) (fun c_2 => (leaf0_ (c_1 == c_2))) fail_)) fail_)
theorem I.watchIn_tree_nat {α γ : Type} (g : α → γ) (net : List Int) (set_ : Int) (leaf0_ : Bool → α) (fail_ : α) : g (I.watchIn_tree net set_ leaf0_ fail_) = I.watchIn_tree net set_ (fun d => g (leaf0_ d)) (g fail_) := by
  unfold I.watchIn_tree; simp only [apply_cnd g, apply_optC g, apply_sumC g]
noncomputable def I.watchIn_t (net : List Int) (set_ : Int) : Option (Bool) := I.watchIn_tree net set_ (fun d => some d) none
theorem I.watchIn_den (net : List Int) (set_ : Int) (κ : V → List E → R) : I.watchIn_F [.ro false (.ints .i64 net), .int .i64 set_] [] κ = optC (I.watchIn_t net set_) (fun (r : Bool) => κ (.bool r) []) none := by
  have hu : I.watchIn_F [.ro false (.ints .i64 net), .int .i64 set_] [] κ = I.watchIn_tree net set_ (fun d => κ (.bool d) []) none := by
    kernel_rfl
  rw [hu]
  exact (I.watchIn_tree_nat (fun o => optC o (fun (r : Bool) => κ (.bool r) []) none) net set_ (fun d => some d) none).symm
noncomputable def I.watchIn_s : D.Spec where
  keep := false
  pure := true
  ds := [.int .i64, .invalid]
  sp := fun args h κ => match args, h with
    | [.ro false (.ints .i64 net), .int .i64 set_], [] => optC (I.watchIn_t net set_) (fun (r : Bool) => κ (.bool r) []) none
    | _, _ => none
theorem I.watchIn_ok : SpecOk Try.prog 55 I.watchIn_s := by
  refine SpecOk.of TDok mixed (T := I.watchIn_T) ?_ (ann := I.watchIn_ann) Try.func55 rfl (by decide +kernel) ?_ ?_ ?_
  · intro p hp
    simp only [I.watchIn_T, List.mem_cons, List.not_mem_nil, or_false] at hp
    rcases hp with rfl | rfl
    · exact I.seenIn_ok
    · exact I.allOf_ok
  · intro args h κ r hh
    simp only [I.watchIn_s] at hh
    split at hh
    · exact (I.watchIn_den _ _ κ).trans hh
    · cases hh
  · intro args h κ r hh
    simp only [I.watchIn_s] at hh ⊢
    split at hh
    · exact optC_law2 (F := fun (r : Bool) κ => κ (.bool r) []) (fun b κ r hb => ⟨_, _, hb, fun _ => rfl⟩) hh
    · cases hh
  · intro _ args h κ r hh
    simp only [I.watchIn_s] at hh
    split at hh
    · exact ⟨rfl, fun _ => rfl⟩
    · cases hh

-- loop.example/guardsonnets/impl.WatchOk
noncomputable def I.WatchOk_T : List (Nat × D.Spec) := [(29, I.NetOk_s), (41, I.setIn_s), (55, I.watchIn_s)]
def I.WatchOk_ann : Nat → List Nat × List Nat
  | _ => ([], [])
noncomputable def I.WatchOk_F (args : List V) (h : List E) (κ : V → List E → R) : R := funC TD (tableK I.WatchOk_T) I.WatchOk_ann (drawOk (tableP I.WatchOk_T)) FUEL Try.f25 args h κ
noncomputable def I.WatchOk_tree {α : Type} (net : List Int) (set_ : Int) (leaf0_ : Bool → α) (fail_ : α) : α :=
  (optC (I.NetOk_t net) (fun c_1 => (bif c_1 then (optC (I.setIn_t net set_) (fun c_2 => (bif c_2 then (optC (I.watchIn_t net set_) (fun c_3 => (leaf0_ c_3)) fail_) else (leaf0_ false))) fail_) else (leaf0_ false))) fail_)
theorem I.WatchOk_tree_nat {α γ : Type} (g : α → γ) (net : List Int) (set_ : Int) (leaf0_ : Bool → α) (fail_ : α) : g (I.WatchOk_tree net set_ leaf0_ fail_) = I.WatchOk_tree net set_ (fun d => g (leaf0_ d)) (g fail_) := by
  unfold I.WatchOk_tree; simp only [apply_cnd g, apply_optC g, apply_sumC g]
noncomputable def I.WatchOk_t (net : List Int) (set_ : Int) : Option (Bool) := I.WatchOk_tree net set_ (fun d => some d) none
theorem I.WatchOk_den (net : List Int) (set_ : Int) (κ : V → List E → R) : I.WatchOk_F [.ro false (.ints .i64 net), .int .i64 set_] [] κ = optC (I.WatchOk_t net set_) (fun (r : Bool) => κ (.bool r) []) none := by
  have hu : I.WatchOk_F [.ro false (.ints .i64 net), .int .i64 set_] [] κ = I.WatchOk_tree net set_ (fun d => κ (.bool d) []) none := by
    kernel_rfl
  rw [hu]
  exact (I.WatchOk_tree_nat (fun o => optC o (fun (r : Bool) => κ (.bool r) []) none) net set_ (fun d => some d) none).symm
noncomputable def I.WatchOk_s : D.Spec where
  keep := false
  pure := true
  ds := [.int .i64, .invalid]
  sp := fun args h κ => match args, h with
    | [.ro false (.ints .i64 net), .int .i64 set_], [] => optC (I.WatchOk_t net set_) (fun (r : Bool) => κ (.bool r) []) none
    | _, _ => none
theorem I.WatchOk_ok : SpecOk Try.prog 25 I.WatchOk_s := by
  refine SpecOk.of TDok mixed (T := I.WatchOk_T) ?_ (ann := I.WatchOk_ann) Try.func25 rfl (by decide +kernel) ?_ ?_ ?_
  · intro p hp
    simp only [I.WatchOk_T, List.mem_cons, List.not_mem_nil, or_false] at hp
    rcases hp with rfl | rfl | rfl
    · exact I.NetOk_ok
    · exact I.setIn_ok
    · exact I.watchIn_ok
  · intro args h κ r hh
    simp only [I.WatchOk_s] at hh
    split at hh
    · exact (I.WatchOk_den _ _ κ).trans hh
    · cases hh
  · intro args h κ r hh
    simp only [I.WatchOk_s] at hh ⊢
    split at hh
    · exact optC_law2 (F := fun (r : Bool) κ => κ (.bool r) []) (fun b κ r hb => ⟨_, _, hb, fun _ => rfl⟩) hh
    · cases hh
  · intro _ args h κ r hh
    simp only [I.WatchOk_s] at hh
    split at hh
    · exact ⟨rfl, fun _ => rfl⟩
    · cases hh

-- loop.example/guardsonnets/laws.FnAllEternalOk
noncomputable def L.FnAllEternalOk_T : List (Nat × D.Spec) := [(20, S.DrawAllEternalOk_s), (21, I.AllEternalOk_s), (22, S.AllEternalOk_s), (23, I.EternalOk_s), (15, L.alive_s), (24, I.AllAnswerOf_s), (25, I.WatchOk_s)]
def L.FnAllEternalOk_ann : Nat → List Nat × List Nat
  | 10 => ([3, 4, 6], [2, 3, 4])
  | _ => ([], [])
noncomputable def L.FnAllEternalOk_F (args : List V) (h : List E) (κ : V → List E → R) : R := funC TD (tableK L.FnAllEternalOk_T) L.FnAllEternalOk_ann (drawOk (tableP L.FnAllEternalOk_T)) FUEL Try.f5 args h κ
noncomputable def L.FnAllEternalOk_L10 (n : Nat) (σ : St) (k : X → St → R) : R := iterC 0 (fun σ k => denC TD (tableK L.FnAllEternalOk_T) L.FnAllEternalOk_ann (drawOk (tableP L.FnAllEternalOk_T)) 0 FUEL ((findLoop 10 (Try.f5.body.getD .skip)).getD .skip) σ k) [3, 4, 6] [2, 3, 4] n σ k
noncomputable def L.FnAllEternalOk_k10 (κ : V → List E → R) : X → St → R := (afterC TD (tableK L.FnAllEternalOk_T) L.FnAllEternalOk_ann (drawOk (tableP L.FnAllEternalOk_T)) 0 FUEL 10 (Try.f5.body.getD .skip) (finC TD 0 Try.f5 κ)).getD (fun _ _ => none)
noncomputable def L.FnAllEternalOk_step10 {α : Type} (x4 : Int) (x6 : Int) (r0 : List Int) (next_ : Int × (List Int) → α) (out0_ : Bool × (List Int) → α) (out1_ : List Int → α) (fail_ : α) : α :=
  (bif decide (x6 < (↑r0.length : Int)) then (bif decide (x6 < 0) then fail_ else (bif (x4.fdiv (2 ^ min x6.toNat IntKind.i64.bits)).tmod 2 == 0 then (optC (I.AllAnswerOf_t r0 x4 x6) (fun c_6 => (optC (I.AllEternalOk_t r0 c_6) (fun c_7 => (bif !c_7 then (out0_ (false, r0)) else (next_ (IntKind.i64.wrap (x6 + 1), r0)))) fail_)) fail_) else (next_ (IntKind.i64.wrap (x6 + 1), r0)))) else (out1_ r0))
theorem L.FnAllEternalOk_step10_nat {α γ : Type} (g : α → γ) (x4 : Int) (x6 : Int) (r0 : List Int) (next_ : Int × (List Int) → α) (out0_ : Bool × (List Int) → α) (out1_ : List Int → α) (fail_ : α) : g (L.FnAllEternalOk_step10 x4 x6 r0 next_ out0_ out1_ fail_) = L.FnAllEternalOk_step10 x4 x6 r0 (fun s => g (next_ s)) (fun d => g (out0_ d)) (fun d => g (out1_ d)) (g fail_) := by
  unfold L.FnAllEternalOk_step10; simp only [apply_cnd g, apply_optC g, apply_sumC g]
noncomputable def L.FnAllEternalOk_run10 (x4 : Int) : Nat → Int × (List Int) → Option ((Bool × (List Int)) ⊕ (List Int))
  | 0, _ => none
  | n + 1, s_ => L.FnAllEternalOk_step10 x4 s_.1 s_.2 (L.FnAllEternalOk_run10 x4 n) (fun d => some ((Sum.inl d))) (fun d => some ((Sum.inr d))) none
theorem L.FnAllEternalOk_L10_run (x4 : Int) (n : Nat) (s_ : Int × (List Int)) (k : X → St → R) : L.FnAllEternalOk_L10 n { n := 55, t := [(3, (.own 0)), (4, (.int .i64 x4)), (6, (.int .i64 s_.1))], h := [.row (.ints .i64 s_.2)] } k = optC (L.FnAllEternalOk_run10 x4 n s_) (fun (r : (Bool × (List Int)) ⊕ (List Int)) => (sumC r (fun (r : Bool × (List Int)) => k (.ret) { n := 55, t := [(2, (.bool r.1)), (3, (.own 0)), (4, (.int .i64 x4))], h := [.row (.ints .i64 r.2)] }) (fun (r : List Int) => k (.exit 0) { n := 55, t := [(2, .junk), (3, (.own 0)), (4, (.int .i64 x4))], h := [.row (.ints .i64 r)] }))) none := by
  induction n generalizing s_ with
  | zero => rfl
  | succ n ih =>
    have hu : L.FnAllEternalOk_L10 (n + 1) { n := 55, t := [(3, (.own 0)), (4, (.int .i64 x4)), (6, (.int .i64 s_.1))], h := [.row (.ints .i64 s_.2)] } k = L.FnAllEternalOk_step10 x4 s_.1 s_.2 (fun s_ => L.FnAllEternalOk_L10 n { n := 55, t := [(3, (.own 0)), (4, (.int .i64 x4)), (6, (.int .i64 s_.1))], h := [.row (.ints .i64 s_.2)] } k) (fun d => k (.ret) { n := 55, t := [(2, (.bool d.1)), (3, (.own 0)), (4, (.int .i64 x4))], h := [.row (.ints .i64 d.2)] }) (fun d => k (.exit 0) { n := 55, t := [(2, .junk), (3, (.own 0)), (4, (.int .i64 x4))], h := [.row (.ints .i64 d)] }) none := by
      kernel_rfl
    have hs : (fun s_ : Int × (List Int) => L.FnAllEternalOk_L10 n { n := 55, t := [(3, (.own 0)), (4, (.int .i64 x4)), (6, (.int .i64 s_.1))], h := [.row (.ints .i64 s_.2)] } k) = fun s_ => optC (L.FnAllEternalOk_run10 x4 n s_) (fun (r : (Bool × (List Int)) ⊕ (List Int)) => (sumC r (fun (r : Bool × (List Int)) => k (.ret) { n := 55, t := [(2, (.bool r.1)), (3, (.own 0)), (4, (.int .i64 x4))], h := [.row (.ints .i64 r.2)] }) (fun (r : List Int) => k (.exit 0) { n := 55, t := [(2, .junk), (3, (.own 0)), (4, (.int .i64 x4))], h := [.row (.ints .i64 r)] }))) none := funext ih
    rw [hu, hs]
    exact (L.FnAllEternalOk_step10_nat (fun o => optC o (fun (r : (Bool × (List Int)) ⊕ (List Int)) => (sumC r (fun (r : Bool × (List Int)) => k (.ret) { n := 55, t := [(2, (.bool r.1)), (3, (.own 0)), (4, (.int .i64 x4))], h := [.row (.ints .i64 r.2)] }) (fun (r : List Int) => k (.exit 0) { n := 55, t := [(2, .junk), (3, (.own 0)), (4, (.int .i64 x4))], h := [.row (.ints .i64 r)] }))) none) x4 s_.1 s_.2 (L.FnAllEternalOk_run10 x4 n) (fun d => some ((Sum.inl d))) (fun d => some ((Sum.inr d))) none).symm
noncomputable def L.FnAllEternalOk_tree {α : Type} (code : List Int) (leaf0_ : Bool → α) (fail_ : α) : α :=
  (bif decide ((↑code.length : Int) > 1048576) then (leaf0_ true) else (optC (S.DrawAllEternalOk_t code) (fun c_1 => (optC (I.AllEternalOk_t c_1.snd c_1.fst) (fun c_2 => (optC (S.AllEternalOk_t c_1.snd c_1.fst) (fun c_3 => (bif !c_2 == c_3 then (leaf0_ false) else (bif !c_2 then (optC (I.EternalOk_t c_1.snd c_1.fst) (fun c_4 => (bif !c_4 then (optC (L.alive_t) (fun c_5 => (leaf0_ c_5)) fail_) else (leaf0_ false))) fail_) else (optC (L.FnAllEternalOk_run10 c_1.fst FUEL (0, c_1.snd)) (fun qy_8 => (sumC qy_8 (fun (qy_8 : Bool × (List Int)) => (leaf0_ qy_8.1)) (fun (qy_8 : List Int) => (optC (I.WatchOk_t qy_8 c_1.fst) (fun c_9 => (leaf0_ c_9)) fail_)))) fail_)))) fail_)) fail_)) fail_))
theorem L.FnAllEternalOk_tree_nat {α γ : Type} (g : α → γ) (code : List Int) (leaf0_ : Bool → α) (fail_ : α) : g (L.FnAllEternalOk_tree code leaf0_ fail_) = L.FnAllEternalOk_tree code (fun d => g (leaf0_ d)) (g fail_) := by
  unfold L.FnAllEternalOk_tree; simp only [apply_cnd g, apply_optC g, apply_sumC g]
noncomputable def L.FnAllEternalOk_t (code : List Int) : Option (Bool) := L.FnAllEternalOk_tree code (fun d => some d) none
theorem L.FnAllEternalOk_den (code : List Int) (κ : V → List E → R) : L.FnAllEternalOk_F [.ro true (.ints .u8 code)] [] κ = optC (L.FnAllEternalOk_t code) (fun (r : Bool) => κ (.bool r) []) none := by
  have hu : L.FnAllEternalOk_F [.ro true (.ints .u8 code)] [] κ = L.FnAllEternalOk_tree code (fun d => κ (.bool d) []) none := by
    refine Eq.trans (show L.FnAllEternalOk_F [.ro true (.ints .u8 code)] [] κ = (bif decide ((↑code.length : Int) > 1048576) then (κ (.bool true) []) else (optC (S.DrawAllEternalOk_t code) (fun c_1 => (optC (I.AllEternalOk_t c_1.snd c_1.fst) (fun c_2 => (optC (S.AllEternalOk_t c_1.snd c_1.fst) (fun c_3 => (bif !c_2 == c_3 then (κ (.bool false) []) else (bif !c_2 then (optC (I.EternalOk_t c_1.snd c_1.fst) (fun c_4 => (bif !c_4 then (optC (L.alive_t) (fun c_5 => (κ (.bool c_5) [])) none) else (κ (.bool false) []))) none) else (L.FnAllEternalOk_L10 FUEL { n := 55, t := [(3, (.own 0)), (4, (.int .i64 c_1.fst)), (6, (.int .i64 0))], h := [.row (.ints .i64 c_1.snd)] } (L.FnAllEternalOk_k10 κ))))) none)) none)) none)) by kernel_rfl) ?_
    refine cnd_congr ?_ ?_
    · kernel_rfl
    · refine optC_congr (fun c_1 => ?_)
      refine optC_congr (fun c_2 => ?_)
      refine optC_congr (fun c_3 => ?_)
      refine cnd_congr ?_ ?_
      · kernel_rfl
      · refine cnd_congr ?_ ?_
        · kernel_rfl
        · refine (L.FnAllEternalOk_L10_run c_1.fst FUEL (0, c_1.snd) (L.FnAllEternalOk_k10 κ)).trans (optC_congr (fun qy_8 => ?_))
          rcases qy_8 with qy_8 | qy_8
          · kernel_rfl
          · kernel_rfl
  rw [hu]
  exact (L.FnAllEternalOk_tree_nat (fun o => optC o (fun (r : Bool) => κ (.bool r) []) none) code (fun d => some d) none).symm
noncomputable def L.FnAllEternalOk_s : D.Spec where
  keep := true
  pure := true
  ds := [.int .u8]
  sp := fun args h κ => match args, h with
    | [.ro true (.ints .u8 code)], [] => optC (L.FnAllEternalOk_t code) (fun (r : Bool) => κ (.bool r) []) none
    | _, _ => none
theorem L.FnAllEternalOk_ok : SpecOk Try.prog 5 L.FnAllEternalOk_s := by
  refine SpecOk.of TDok mixed (T := L.FnAllEternalOk_T) ?_ (ann := L.FnAllEternalOk_ann) Try.func5 rfl (by decide +kernel) ?_ ?_ ?_
  · intro p hp
    simp only [L.FnAllEternalOk_T, List.mem_cons, List.not_mem_nil, or_false] at hp
    rcases hp with rfl | rfl | rfl | rfl | rfl | rfl | rfl
    · exact S.DrawAllEternalOk_ok
    · exact I.AllEternalOk_ok
    · exact S.AllEternalOk_ok
    · exact I.EternalOk_ok
    · exact L.alive_ok
    · exact I.AllAnswerOf_ok
    · exact I.WatchOk_ok
  · intro args h κ r hh
    simp only [L.FnAllEternalOk_s] at hh
    split at hh
    · exact (L.FnAllEternalOk_den _ κ).trans hh
    · cases hh
  · intro args h κ r hh
    simp only [L.FnAllEternalOk_s] at hh ⊢
    split at hh
    · exact optC_law2 (F := fun (r : Bool) κ => κ (.bool r) []) (fun b κ r hb => ⟨_, _, hb, fun _ => rfl⟩) hh
    · cases hh
  · intro _ args h κ r hh
    simp only [L.FnAllEternalOk_s] at hh
    split at hh
    · exact ⟨rfl, fun _ => rfl⟩
    · cases hh

-- loop.example/guardsonnets/laws.FnExactAllEternalOk
noncomputable def L.FnExactAllEternalOk_T : List (Nat × D.Spec) := [(18, L.toIntS_s), (22, S.AllEternalOk_s), (21, I.AllEternalOk_s), (19, L.eqIntS_s)]
def L.FnExactAllEternalOk_ann : Nat → List Nat × List Nat
  | _ => ([], [])
noncomputable def L.FnExactAllEternalOk_F (args : List V) (h : List E) (κ : V → List E → R) : R := funC TD (tableK L.FnExactAllEternalOk_T) L.FnExactAllEternalOk_ann (drawOk (tableP L.FnExactAllEternalOk_T)) FUEL Try.f6 args h κ
noncomputable def L.FnExactAllEternalOk_tree {α : Type} (aNet : List Int) (aSet : Int) (leaf0_ : Bool → α) (fail_ : α) : α :=
  (bif decide ((↑aNet.length : Int) > 1048576) then (leaf0_ true) else (optC (L.toIntS_t aNet) (fun c_1 => (optC (S.AllEternalOk_t c_1 aSet) (fun c_2 => (optC (L.toIntS_t aNet) (fun c_3 => (optC (I.AllEternalOk_t c_3 aSet) (fun c_4 => (bif !c_4 == c_2 then (leaf0_ false) else (optC (L.toIntS_t aNet) (fun c_5 => (optC (L.eqIntS_t c_3 c_5) (fun c_6 => (bif !c_6 then (leaf0_ false) else (leaf0_ true))) fail_)) fail_))) fail_)) fail_)) fail_)) fail_))
theorem L.FnExactAllEternalOk_tree_nat {α γ : Type} (g : α → γ) (aNet : List Int) (aSet : Int) (leaf0_ : Bool → α) (fail_ : α) : g (L.FnExactAllEternalOk_tree aNet aSet leaf0_ fail_) = L.FnExactAllEternalOk_tree aNet aSet (fun d => g (leaf0_ d)) (g fail_) := by
  unfold L.FnExactAllEternalOk_tree; simp only [apply_cnd g, apply_optC g, apply_sumC g]
noncomputable def L.FnExactAllEternalOk_t (aNet : List Int) (aSet : Int) : Option (Bool) := L.FnExactAllEternalOk_tree aNet aSet (fun d => some d) none
theorem L.FnExactAllEternalOk_den (aNet : List Int) (aSet : Int) (κ : V → List E → R) : L.FnExactAllEternalOk_F [.ro true (.ints .i64 aNet), .int .i64 aSet] [] κ = optC (L.FnExactAllEternalOk_t aNet aSet) (fun (r : Bool) => κ (.bool r) []) none := by
  have hu : L.FnExactAllEternalOk_F [.ro true (.ints .i64 aNet), .int .i64 aSet] [] κ = L.FnExactAllEternalOk_tree aNet aSet (fun d => κ (.bool d) []) none := by
    kernel_rfl
  rw [hu]
  exact (L.FnExactAllEternalOk_tree_nat (fun o => optC o (fun (r : Bool) => κ (.bool r) []) none) aNet aSet (fun d => some d) none).symm
noncomputable def L.FnExactAllEternalOk_s : D.Spec where
  keep := true
  pure := true
  ds := [.int .i64, .invalid]
  sp := fun args h κ => match args, h with
    | [.ro true (.ints .i64 aNet), .int .i64 aSet], [] => optC (L.FnExactAllEternalOk_t aNet aSet) (fun (r : Bool) => κ (.bool r) []) none
    | _, _ => none
theorem L.FnExactAllEternalOk_ok : SpecOk Try.prog 6 L.FnExactAllEternalOk_s := by
  refine SpecOk.of TDok mixed (T := L.FnExactAllEternalOk_T) ?_ (ann := L.FnExactAllEternalOk_ann) Try.func6 rfl (by decide +kernel) ?_ ?_ ?_
  · intro p hp
    simp only [L.FnExactAllEternalOk_T, List.mem_cons, List.not_mem_nil, or_false] at hp
    rcases hp with rfl | rfl | rfl | rfl
    · exact L.toIntS_ok
    · exact S.AllEternalOk_ok
    · exact I.AllEternalOk_ok
    · exact L.eqIntS_ok
  · intro args h κ r hh
    simp only [L.FnExactAllEternalOk_s] at hh
    split at hh
    · exact (L.FnExactAllEternalOk_den _ _ κ).trans hh
    · cases hh
  · intro args h κ r hh
    simp only [L.FnExactAllEternalOk_s] at hh ⊢
    split at hh
    · exact optC_law2 (F := fun (r : Bool) κ => κ (.bool r) []) (fun b κ r hb => ⟨_, _, hb, fun _ => rfl⟩) hh
    · cases hh
  · intro _ args h κ r hh
    simp only [L.FnExactAllEternalOk_s] at hh
    split at hh
    · exact ⟨rfl, fun _ => rfl⟩
    · cases hh

-- loop.example/guardsonnets/spec.DrawFewestAllEternal
noncomputable def S.DrawFewestAllEternal_T : List (Nat × D.Spec) := [(36, S.l20Open_s), (56, S.l20Net_s)]
def S.DrawFewestAllEternal_ann : Nat → List Nat × List Nat
  | _ => ([], [])
noncomputable def S.DrawFewestAllEternal_F (args : List V) (h : List E) (κ : V → List E → R) : R := funC TD (tableK S.DrawFewestAllEternal_T) S.DrawFewestAllEternal_ann (drawOk (tableP S.DrawFewestAllEternal_T)) FUEL Try.f26 args h κ
noncomputable def S.DrawFewestAllEternal_tree {α : Type} (code : List Int) (leaf0_ : List Int → α) (fail_ : α) : α :=
  (optC (S.l20Open_t code) (fun c_1 => (optC (S.l20Net_t c_1.fst c_1.snd 9) (fun c_2 => (leaf0_ c_2.snd.snd)) fail_)) fail_)
theorem S.DrawFewestAllEternal_tree_nat {α γ : Type} (g : α → γ) (code : List Int) (leaf0_ : List Int → α) (fail_ : α) : g (S.DrawFewestAllEternal_tree code leaf0_ fail_) = S.DrawFewestAllEternal_tree code (fun d => g (leaf0_ d)) (g fail_) := by
  unfold S.DrawFewestAllEternal_tree; simp only [apply_cnd g, apply_optC g, apply_sumC g]
noncomputable def S.DrawFewestAllEternal_t (code : List Int) : Option (List Int) := S.DrawFewestAllEternal_tree code (fun d => some d) none
theorem S.DrawFewestAllEternal_den (code : List Int) (κ : V → List E → R) : S.DrawFewestAllEternal_F [.ro true (.ints .u8 code)] [] κ = optC (S.DrawFewestAllEternal_t code) (fun (r : List Int) => κ (.own 0) [.row (.ints .i64 r)]) none := by
  have hu : S.DrawFewestAllEternal_F [.ro true (.ints .u8 code)] [] κ = S.DrawFewestAllEternal_tree code (fun d => κ (.own 0) [.row (.ints .i64 d)]) none := by
    kernel_rfl
  rw [hu]
  exact (S.DrawFewestAllEternal_tree_nat (fun o => optC o (fun (r : List Int) => κ (.own 0) [.row (.ints .i64 r)]) none) code (fun d => some d) none).symm
noncomputable def S.DrawFewestAllEternal_s : D.Spec where
  keep := true
  pure := false
  ds := [.int .u8]
  sp := fun args h κ => match args, h with
    | [.ro true (.ints .u8 code)], [] => optC (S.DrawFewestAllEternal_t code) (fun (r : List Int) => κ (.own 0) [.row (.ints .i64 r)]) none
    | _, _ => none
theorem S.DrawFewestAllEternal_ok : SpecOk Try.prog 26 S.DrawFewestAllEternal_s := by
  refine SpecOk.of TDok mixed (T := S.DrawFewestAllEternal_T) ?_ (ann := S.DrawFewestAllEternal_ann) Try.func26 rfl (by decide +kernel) ?_ ?_ ?_
  · intro p hp
    simp only [S.DrawFewestAllEternal_T, List.mem_cons, List.not_mem_nil, or_false] at hp
    rcases hp with rfl | rfl
    · exact S.l20Open_ok
    · exact S.l20Net_ok
  · intro args h κ r hh
    simp only [S.DrawFewestAllEternal_s] at hh
    split at hh
    · exact (S.DrawFewestAllEternal_den _ κ).trans hh
    · cases hh
  · intro args h κ r hh
    simp only [S.DrawFewestAllEternal_s] at hh ⊢
    split at hh
    · exact optC_law2 (F := fun (r : List Int) κ => κ (.own 0) [.row (.ints .i64 r)]) (fun b κ r hb => ⟨_, _, hb, fun _ => rfl⟩) hh
    · cases hh
  · intro hh; cases hh

-- loop.example/guardsonnets/impl.fewerOf
noncomputable def I.fewerOf_T : List (Nat × D.Spec) := []
def I.fewerOf_ann : Nat → List Nat × List Nat
  | _ => ([], [])
noncomputable def I.fewerOf_F (args : List V) (h : List E) (κ : V → List E → R) : R := funC TD (tableK I.fewerOf_T) I.fewerOf_ann (drawOk (tableP I.fewerOf_T)) FUEL Try.f63 args h κ
noncomputable def I.fewerOf_tree {α : Type} (fewest : Int) (number : Int) (leaf0_ : Int → α) (fail_ : α) : α :=
  (bif decide (fewest < 0) then (leaf0_ number) else (bif decide (number < fewest) then (leaf0_ number) else (leaf0_ fewest)))
theorem I.fewerOf_tree_nat {α γ : Type} (g : α → γ) (fewest : Int) (number : Int) (leaf0_ : Int → α) (fail_ : α) : g (I.fewerOf_tree fewest number leaf0_ fail_) = I.fewerOf_tree fewest number (fun d => g (leaf0_ d)) (g fail_) := by
  unfold I.fewerOf_tree; simp only [apply_cnd g, apply_optC g, apply_sumC g]
noncomputable def I.fewerOf_t (fewest : Int) (number : Int) : Option (Int) := I.fewerOf_tree fewest number (fun d => some d) none
theorem I.fewerOf_den (fewest : Int) (number : Int) (κ : V → List E → R) : I.fewerOf_F [.int .i64 fewest, .int .i64 number] [] κ = optC (I.fewerOf_t fewest number) (fun (r : Int) => κ (.int .i64 r) []) none := by
  have hu : I.fewerOf_F [.int .i64 fewest, .int .i64 number] [] κ = I.fewerOf_tree fewest number (fun d => κ (.int .i64 d) []) none := by
    kernel_rfl
  rw [hu]
  exact (I.fewerOf_tree_nat (fun o => optC o (fun (r : Int) => κ (.int .i64 r) []) none) fewest number (fun d => some d) none).symm
noncomputable def I.fewerOf_s : D.Spec where
  keep := false
  pure := true
  ds := [.invalid, .invalid]
  sp := fun args h κ => match args, h with
    | [.int .i64 fewest, .int .i64 number], [] => optC (I.fewerOf_t fewest number) (fun (r : Int) => κ (.int .i64 r) []) none
    | _, _ => none
theorem I.fewerOf_ok : SpecOk Try.prog 63 I.fewerOf_s := by
  refine SpecOk.of TDok mixed (T := I.fewerOf_T) ?_ (ann := I.fewerOf_ann) Try.func63 rfl (by decide +kernel) ?_ ?_ ?_
  · intro p hp; cases hp
  · intro args h κ r hh
    simp only [I.fewerOf_s] at hh
    split at hh
    · exact (I.fewerOf_den _ _ κ).trans hh
    · cases hh
  · intro args h κ r hh
    simp only [I.fewerOf_s] at hh ⊢
    split at hh
    · exact optC_law2 (F := fun (r : Int) κ => κ (.int .i64 r) []) (fun b κ r hb => ⟨_, _, hb, fun _ => rfl⟩) hh
    · cases hh
  · intro _ args h κ r hh
    simp only [I.fewerOf_s] at hh
    split at hh
    · exact ⟨rfl, fun _ => rfl⟩
    · cases hh

-- loop.example/guardsonnets/impl.fewestIn
noncomputable def I.fewestIn_T : List (Nat × D.Spec) := [(64, I.sizeOf_s), (63, I.fewerOf_s)]
def I.fewestIn_ann : Nat → List Nat × List Nat
  | 3 => ([0, 3, 4], [3])
  | _ => ([], [])
noncomputable def I.fewestIn_F (args : List V) (h : List E) (κ : V → List E → R) : R := funC TD (tableK I.fewestIn_T) I.fewestIn_ann (drawOk (tableP I.fewestIn_T)) FUEL Try.f57 args h κ
noncomputable def I.fewestIn_L3 (n : Nat) (σ : St) (k : X → St → R) : R := iterC 0 (fun σ k => denC TD (tableK I.fewestIn_T) I.fewestIn_ann (drawOk (tableP I.fewestIn_T)) 0 FUEL ((findLoop 3 (Try.f57.body.getD .skip)).getD .skip) σ k) [0, 3, 4] [3] n σ k
noncomputable def I.fewestIn_k3 (κ : V → List E → R) : X → St → R := (afterC TD (tableK I.fewestIn_T) I.fewestIn_ann (drawOk (tableP I.fewestIn_T)) 0 FUEL 3 (Try.f57.body.getD .skip) (finC TD 0 Try.f57 κ)).getD (fun _ _ => none)
noncomputable def I.fewestIn_step3 {α : Type} (x0 : List Bool) (x3 : Int) (x4 : Int) (next_ : Int × Int → α) (out0_ : Int → α) (fail_ : α) : α :=
  (bif decide (x4 < (↑x0.length : Int)) then (bif decide (0 ≤ x4) && decide (x4 < (↑x0.length : Int)) then (bif elb x0 x4.toNat then (optC (I.sizeOf_t x4) (fun c_1 => (optC (I.fewerOf_t x3 c_1) (fun c_2 => (next_ (c_2, IntKind.i64.wrap (x4 + 1)))) fail_)) fail_) else (next_ (x3, IntKind.i64.wrap (x4 + 1)))) else fail_) else (out0_ x3))
theorem I.fewestIn_step3_nat {α γ : Type} (g : α → γ) (x0 : List Bool) (x3 : Int) (x4 : Int) (next_ : Int × Int → α) (out0_ : Int → α) (fail_ : α) : g (I.fewestIn_step3 x0 x3 x4 next_ out0_ fail_) = I.fewestIn_step3 x0 x3 x4 (fun s => g (next_ s)) (fun d => g (out0_ d)) (g fail_) := by
  unfold I.fewestIn_step3; simp only [apply_cnd g, apply_optC g, apply_sumC g]
noncomputable def I.fewestIn_run3 (x0 : List Bool) : Nat → Int × Int → Option (Int)
  | 0, _ => none
  | n + 1, s_ => I.fewestIn_step3 x0 s_.1 s_.2 (I.fewestIn_run3 x0 n) (fun d => some d) none
theorem I.fewestIn_L3_run (x0 : List Bool) (n : Nat) (s_ : Int × Int) (k : X → St → R) : I.fewestIn_L3 n { n := 20, t := [(0, (.ro false (.bools x0))), (3, (.int .i64 s_.1)), (4, (.int .i64 s_.2))], h := [] } k = optC (I.fewestIn_run3 x0 n s_) (fun (r : Int) => k (.exit 0) { n := 20, t := [(3, (.int .i64 r))], h := [] }) none := by
  induction n generalizing s_ with
  | zero => rfl
  | succ n ih =>
    have hu : I.fewestIn_L3 (n + 1) { n := 20, t := [(0, (.ro false (.bools x0))), (3, (.int .i64 s_.1)), (4, (.int .i64 s_.2))], h := [] } k = I.fewestIn_step3 x0 s_.1 s_.2 (fun s_ => I.fewestIn_L3 n { n := 20, t := [(0, (.ro false (.bools x0))), (3, (.int .i64 s_.1)), (4, (.int .i64 s_.2))], h := [] } k) (fun d => k (.exit 0) { n := 20, t := [(3, (.int .i64 d))], h := [] }) none := by
      kernel_rfl
    have hs : (fun s_ : Int × Int => I.fewestIn_L3 n { n := 20, t := [(0, (.ro false (.bools x0))), (3, (.int .i64 s_.1)), (4, (.int .i64 s_.2))], h := [] } k) = fun s_ => optC (I.fewestIn_run3 x0 n s_) (fun (r : Int) => k (.exit 0) { n := 20, t := [(3, (.int .i64 r))], h := [] }) none := funext ih
    rw [hu, hs]
    exact (I.fewestIn_step3_nat (fun o => optC o (fun (r : Int) => k (.exit 0) { n := 20, t := [(3, (.int .i64 r))], h := [] }) none) x0 s_.1 s_.2 (I.fewestIn_run3 x0 n) (fun d => some d) none).symm
noncomputable def I.fewestIn_tree {α : Type} (lasting : List Bool) (leaf0_ : Int → α) (fail_ : α) : α :=
  (optC (I.fewestIn_run3 lasting FUEL (-1, 0)) (fun qy_3 => (leaf0_ qy_3)) fail_)
theorem I.fewestIn_tree_nat {α γ : Type} (g : α → γ) (lasting : List Bool) (leaf0_ : Int → α) (fail_ : α) : g (I.fewestIn_tree lasting leaf0_ fail_) = I.fewestIn_tree lasting (fun d => g (leaf0_ d)) (g fail_) := by
  unfold I.fewestIn_tree; simp only [apply_cnd g, apply_optC g, apply_sumC g]
noncomputable def I.fewestIn_t (lasting : List Bool) : Option (Int) := I.fewestIn_tree lasting (fun d => some d) none
theorem I.fewestIn_den (lasting : List Bool) (κ : V → List E → R) : I.fewestIn_F [.ro false (.bools lasting)] [] κ = optC (I.fewestIn_t lasting) (fun (r : Int) => κ (.int .i64 r) []) none := by
  have hu : I.fewestIn_F [.ro false (.bools lasting)] [] κ = I.fewestIn_tree lasting (fun d => κ (.int .i64 d) []) none := by
    refine Eq.trans (show I.fewestIn_F [.ro false (.bools lasting)] [] κ = (I.fewestIn_L3 FUEL { n := 20, t := [(0, (.ro false (.bools lasting))), (3, (.int .i64 (-1))), (4, (.int .i64 0))], h := [] } (I.fewestIn_k3 κ)) by kernel_rfl) ?_
    refine (I.fewestIn_L3_run lasting FUEL (-1, 0) (I.fewestIn_k3 κ)).trans (optC_congr (fun qy_3 => ?_))
    kernel_rfl
  rw [hu]
  exact (I.fewestIn_tree_nat (fun o => optC o (fun (r : Int) => κ (.int .i64 r) []) none) lasting (fun d => some d) none).symm
noncomputable def I.fewestIn_s : D.Spec where
  keep := false
  pure := true
  ds := [.bool]
  sp := fun args h κ => match args, h with
    | [.ro false (.bools lasting)], [] => optC (I.fewestIn_t lasting) (fun (r : Int) => κ (.int .i64 r) []) none
    | _, _ => none
theorem I.fewestIn_ok : SpecOk Try.prog 57 I.fewestIn_s := by
  refine SpecOk.of TDok mixed (T := I.fewestIn_T) ?_ (ann := I.fewestIn_ann) Try.func57 rfl (by decide +kernel) ?_ ?_ ?_
  · intro p hp
    simp only [I.fewestIn_T, List.mem_cons, List.not_mem_nil, or_false] at hp
    rcases hp with rfl | rfl
    · exact I.sizeOf_ok
    · exact I.fewerOf_ok
  · intro args h κ r hh
    simp only [I.fewestIn_s] at hh
    split at hh
    · exact (I.fewestIn_den _ κ).trans hh
    · cases hh
  · intro args h κ r hh
    simp only [I.fewestIn_s] at hh ⊢
    split at hh
    · exact optC_law2 (F := fun (r : Int) κ => κ (.int .i64 r) []) (fun b κ r hb => ⟨_, _, hb, fun _ => rfl⟩) hh
    · cases hh
  · intro _ args h κ r hh
    simp only [I.fewestIn_s] at hh
    split at hh
    · exact ⟨rfl, fun _ => rfl⟩
    · cases hh

-- loop.example/guardsonnets/impl.FewestAllEternal
noncomputable def I.FewestAllEternal_T : List (Nat × D.Spec) := [(29, I.NetOk_s), (50, I.allEternalIn_s), (57, I.fewestIn_s)]
def I.FewestAllEternal_ann : Nat → List Nat × List Nat
  | _ => ([], [])
noncomputable def I.FewestAllEternal_F (args : List V) (h : List E) (κ : V → List E → R) : R := funC TD (tableK I.FewestAllEternal_T) I.FewestAllEternal_ann (drawOk (tableP I.FewestAllEternal_T)) FUEL Try.f27 args h κ
noncomputable def I.FewestAllEternal_tree {α : Type} (net : List Int) (leaf0_ : Int → α) (fail_ : α) : α :=
  (optC (I.NetOk_t net) (fun c_1 => (bif !c_1 then (leaf0_ (-1)) else (optC (I.allEternalIn_t net) (fun c_2 => (optC (I.fewestIn_t c_2) (fun c_3 => (leaf0_ c_3)) fail_)) fail_))) fail_)
theorem I.FewestAllEternal_tree_nat {α γ : Type} (g : α → γ) (net : List Int) (leaf0_ : Int → α) (fail_ : α) : g (I.FewestAllEternal_tree net leaf0_ fail_) = I.FewestAllEternal_tree net (fun d => g (leaf0_ d)) (g fail_) := by
  unfold I.FewestAllEternal_tree; simp only [apply_cnd g, apply_optC g, apply_sumC g]
noncomputable def I.FewestAllEternal_t (net : List Int) : Option (Int) := I.FewestAllEternal_tree net (fun d => some d) none
theorem I.FewestAllEternal_den (net : List Int) (κ : V → List E → R) : I.FewestAllEternal_F [.ro false (.ints .i64 net)] [] κ = optC (I.FewestAllEternal_t net) (fun (r : Int) => κ (.int .i64 r) []) none := by
  have hu : I.FewestAllEternal_F [.ro false (.ints .i64 net)] [] κ = I.FewestAllEternal_tree net (fun d => κ (.int .i64 d) []) none := by
    kernel_rfl
  rw [hu]
  exact (I.FewestAllEternal_tree_nat (fun o => optC o (fun (r : Int) => κ (.int .i64 r) []) none) net (fun d => some d) none).symm
noncomputable def I.FewestAllEternal_s : D.Spec where
  keep := false
  pure := true
  ds := [.int .i64]
  sp := fun args h κ => match args, h with
    | [.ro false (.ints .i64 net)], [] => optC (I.FewestAllEternal_t net) (fun (r : Int) => κ (.int .i64 r) []) none
    | _, _ => none
theorem I.FewestAllEternal_ok : SpecOk Try.prog 27 I.FewestAllEternal_s := by
  refine SpecOk.of TDok mixed (T := I.FewestAllEternal_T) ?_ (ann := I.FewestAllEternal_ann) Try.func27 rfl (by decide +kernel) ?_ ?_ ?_
  · intro p hp
    simp only [I.FewestAllEternal_T, List.mem_cons, List.not_mem_nil, or_false] at hp
    rcases hp with rfl | rfl | rfl
    · exact I.NetOk_ok
    · exact I.allEternalIn_ok
    · exact I.fewestIn_ok
  · intro args h κ r hh
    simp only [I.FewestAllEternal_s] at hh
    split at hh
    · exact (I.FewestAllEternal_den _ κ).trans hh
    · cases hh
  · intro args h κ r hh
    simp only [I.FewestAllEternal_s] at hh ⊢
    split at hh
    · exact optC_law2 (F := fun (r : Int) κ => κ (.int .i64 r) []) (fun b κ r hb => ⟨_, _, hb, fun _ => rfl⟩) hh
    · cases hh
  · intro _ args h κ r hh
    simp only [I.FewestAllEternal_s] at hh
    split at hh
    · exact ⟨rfl, fun _ => rfl⟩
    · cases hh

-- loop.example/guardsonnets/spec.FewestAllEternal
noncomputable def S.FewestAllEternal_T : List (Nat × D.Spec) := [(58, S.NetOk_s), (51, S.l10Lasts_s), (43, S.l1Size_s)]
def S.FewestAllEternal_ann : Nat → List Nat × List Nat
  | 6 => ([3, 4, 5], [3])
  | _ => ([], [])
noncomputable def S.FewestAllEternal_F (args : List V) (h : List E) (κ : V → List E → R) : R := funC TD (tableK S.FewestAllEternal_T) S.FewestAllEternal_ann (drawOk (tableP S.FewestAllEternal_T)) FUEL Try.f28 args h κ
noncomputable def S.FewestAllEternal_L6 (n : Nat) (σ : St) (k : X → St → R) : R := iterC 0 (fun σ k => denC TD (tableK S.FewestAllEternal_T) S.FewestAllEternal_ann (drawOk (tableP S.FewestAllEternal_T)) 0 FUEL ((findLoop 6 (Try.f28.body.getD .skip)).getD .skip) σ k) [3, 4, 5] [3] n σ k
noncomputable def S.FewestAllEternal_k6 (κ : V → List E → R) : X → St → R := (afterC TD (tableK S.FewestAllEternal_T) S.FewestAllEternal_ann (drawOk (tableP S.FewestAllEternal_T)) 0 FUEL 6 (Try.f28.body.getD .skip) (finC TD 0 Try.f28 κ)).getD (fun _ _ => none)
noncomputable def S.FewestAllEternal_step6 {α : Type} (x3 : Int) (x5 : Int) (r0 : List Bool) (next_ : Int × Int × (List Bool) → α) (out0_ : Int → α) (fail_ : α) : α :=
  (bif decide (x5 < (↑r0.length : Int)) then (bif decide (0 ≤ x5) && decide (x5 < (↑r0.length : Int)) then (bif decide (x5.toNat < r0.length) then (bif elb r0 x5.toNat then (optC (S.l1Size_t x5) (fun c_3 => (next_ (if c_3 < x3 then c_3 else x3, IntKind.i64.wrap (x5 + 1), r0))) fail_) else (next_ (x3, IntKind.i64.wrap (x5 + 1), r0))) else fail_) else fail_) else (out0_ x3))
theorem S.FewestAllEternal_step6_nat {α γ : Type} (g : α → γ) (x3 : Int) (x5 : Int) (r0 : List Bool) (next_ : Int × Int × (List Bool) → α) (out0_ : Int → α) (fail_ : α) : g (S.FewestAllEternal_step6 x3 x5 r0 next_ out0_ fail_) = S.FewestAllEternal_step6 x3 x5 r0 (fun s => g (next_ s)) (fun d => g (out0_ d)) (g fail_) := by
  unfold S.FewestAllEternal_step6; simp only [apply_cnd g, apply_optC g, apply_sumC g]
noncomputable def S.FewestAllEternal_run6 : Nat → Int × Int × (List Bool) → Option (Int)
  | 0, _ => none
  | n + 1, s_ => S.FewestAllEternal_step6 s_.1 s_.2.1 s_.2.2 (S.FewestAllEternal_run6 n) (fun d => some d) none
theorem S.FewestAllEternal_L6_run (n : Nat) (s_ : Int × Int × (List Bool)) (k : X → St → R) : S.FewestAllEternal_L6 n { n := 28, t := [(3, (.int .i64 s_.1)), (4, (.own 0)), (5, (.int .i64 s_.2.1))], h := [.row (.bools s_.2.2)] } k = optC (S.FewestAllEternal_run6 n s_) (fun (r : Int) => k (.exit 0) { n := 28, t := [(3, (.int .i64 r))], h := [] }) none := by
  induction n generalizing s_ with
  | zero => rfl
  | succ n ih =>
    have hu : S.FewestAllEternal_L6 (n + 1) { n := 28, t := [(3, (.int .i64 s_.1)), (4, (.own 0)), (5, (.int .i64 s_.2.1))], h := [.row (.bools s_.2.2)] } k = S.FewestAllEternal_step6 s_.1 s_.2.1 s_.2.2 (fun s_ => S.FewestAllEternal_L6 n { n := 28, t := [(3, (.int .i64 s_.1)), (4, (.own 0)), (5, (.int .i64 s_.2.1))], h := [.row (.bools s_.2.2)] } k) (fun d => k (.exit 0) { n := 28, t := [(3, (.int .i64 d))], h := [] }) none := by
      kernel_rfl
    have hs : (fun s_ : Int × Int × (List Bool) => S.FewestAllEternal_L6 n { n := 28, t := [(3, (.int .i64 s_.1)), (4, (.own 0)), (5, (.int .i64 s_.2.1))], h := [.row (.bools s_.2.2)] } k) = fun s_ => optC (S.FewestAllEternal_run6 n s_) (fun (r : Int) => k (.exit 0) { n := 28, t := [(3, (.int .i64 r))], h := [] }) none := funext ih
    rw [hu, hs]
    exact (S.FewestAllEternal_step6_nat (fun o => optC o (fun (r : Int) => k (.exit 0) { n := 28, t := [(3, (.int .i64 r))], h := [] }) none) s_.1 s_.2.1 s_.2.2 (S.FewestAllEternal_run6 n) (fun d => some d) none).symm
noncomputable def S.FewestAllEternal_tree {α : Type} (net : List Int) (leaf0_ : Int → α) (fail_ : α) : α :=
  (optC (S.NetOk_t net) (fun c_1 => (bif !c_1 then (leaf0_ (-1)) else (optC (S.l10Lasts_t net) (fun c_2 => (optC (S.FewestAllEternal_run6 FUEL ((↑net.length : Int), 0, c_2)) (fun qy_4 => (leaf0_ qy_4)) fail_)) fail_))) fail_)
theorem S.FewestAllEternal_tree_nat {α γ : Type} (g : α → γ) (net : List Int) (leaf0_ : Int → α) (fail_ : α) : g (S.FewestAllEternal_tree net leaf0_ fail_) = S.FewestAllEternal_tree net (fun d => g (leaf0_ d)) (g fail_) := by
  unfold S.FewestAllEternal_tree; simp only [apply_cnd g, apply_optC g, apply_sumC g]
noncomputable def S.FewestAllEternal_t (net : List Int) : Option (Int) := S.FewestAllEternal_tree net (fun d => some d) none
theorem S.FewestAllEternal_den (net : List Int) (κ : V → List E → R) : S.FewestAllEternal_F [.ro false (.ints .i64 net)] [] κ = optC (S.FewestAllEternal_t net) (fun (r : Int) => κ (.int .i64 r) []) none := by
  have hu : S.FewestAllEternal_F [.ro false (.ints .i64 net)] [] κ = S.FewestAllEternal_tree net (fun d => κ (.int .i64 d) []) none := by
    refine Eq.trans (show S.FewestAllEternal_F [.ro false (.ints .i64 net)] [] κ = (optC (S.NetOk_t net) (fun c_1 => (bif !c_1 then (κ (.int .i64 (-1)) []) else (optC (S.l10Lasts_t net) (fun c_2 => (S.FewestAllEternal_L6 FUEL { n := 28, t := [(3, (.int .i64 ((↑net.length : Int)))), (4, (.own 0)), (5, (.int .i64 0))], h := [.row (.bools c_2)] } (S.FewestAllEternal_k6 κ))) none))) none) by kernel_rfl) ?_
    refine optC_congr (fun c_1 => ?_)
    refine cnd_congr ?_ ?_
    · kernel_rfl
    · refine optC_congr (fun c_2 => ?_)
      refine (S.FewestAllEternal_L6_run FUEL ((↑net.length : Int), 0, c_2) (S.FewestAllEternal_k6 κ)).trans (optC_congr (fun qy_4 => ?_))
      kernel_rfl
  rw [hu]
  exact (S.FewestAllEternal_tree_nat (fun o => optC o (fun (r : Int) => κ (.int .i64 r) []) none) net (fun d => some d) none).symm
noncomputable def S.FewestAllEternal_s : D.Spec where
  keep := false
  pure := true
  ds := [.int .i64]
  sp := fun args h κ => match args, h with
    | [.ro false (.ints .i64 net)], [] => optC (S.FewestAllEternal_t net) (fun (r : Int) => κ (.int .i64 r) []) none
    | _, _ => none
theorem S.FewestAllEternal_ok : SpecOk Try.prog 28 S.FewestAllEternal_s := by
  refine SpecOk.of TDok mixed (T := S.FewestAllEternal_T) ?_ (ann := S.FewestAllEternal_ann) Try.func28 rfl (by decide +kernel) ?_ ?_ ?_
  · intro p hp
    simp only [S.FewestAllEternal_T, List.mem_cons, List.not_mem_nil, or_false] at hp
    rcases hp with rfl | rfl | rfl
    · exact S.NetOk_ok
    · exact S.l10Lasts_ok
    · exact S.l1Size_ok
  · intro args h κ r hh
    simp only [S.FewestAllEternal_s] at hh
    split at hh
    · exact (S.FewestAllEternal_den _ κ).trans hh
    · cases hh
  · intro args h κ r hh
    simp only [S.FewestAllEternal_s] at hh ⊢
    split at hh
    · exact optC_law2 (F := fun (r : Int) κ => κ (.int .i64 r) []) (fun b κ r hb => ⟨_, _, hb, fun _ => rfl⟩) hh
    · cases hh
  · intro _ args h κ r hh
    simp only [S.FewestAllEternal_s] at hh
    split at hh
    · exact ⟨rfl, fun _ => rfl⟩
    · cases hh

-- loop.example/guardsonnets/impl.partIn
noncomputable def I.partIn_T : List (Nat × D.Spec) := [(45, I.seenIn_s)]
def I.partIn_ann : Nat → List Nat × List Nat
  | 3 => ([0, 5, 6], [5])
  | _ => ([], [])
noncomputable def I.partIn_F (args : List V) (h : List E) (κ : V → List E → R) : R := funC TD (tableK I.partIn_T) I.partIn_ann (drawOk (tableP I.partIn_T)) FUEL Try.f60 args h κ
noncomputable def I.partIn_L3 (n : Nat) (σ : St) (k : X → St → R) : R := iterC 0 (fun σ k => denC TD (tableK I.partIn_T) I.partIn_ann (drawOk (tableP I.partIn_T)) 0 FUEL ((findLoop 3 (Try.f60.body.getD .skip)).getD .skip) σ k) [0, 5, 6] [5] n σ k
noncomputable def I.partIn_k3 (κ : V → List E → R) : X → St → R := (afterC TD (tableK I.partIn_T) I.partIn_ann (drawOk (tableP I.partIn_T)) 0 FUEL 3 (Try.f60.body.getD .skip) (finC TD 0 Try.f60 κ)).getD (fun _ _ => none)
noncomputable def I.partIn_step3 {α : Type} (x0 : List Int) (x5 : Int) (x6 : Int) (next_ : Int × Int → α) (out0_ : Int → α) (fail_ : α) : α :=
  (bif decide (x6 < (↑x0.length : Int)) then (optC (I.seenIn_t x0 x5) (fun c_1 => (next_ (c_1, IntKind.i64.wrap (x6 + 1)))) fail_) else (out0_ x5))
theorem I.partIn_step3_nat {α γ : Type} (g : α → γ) (x0 : List Int) (x5 : Int) (x6 : Int) (next_ : Int × Int → α) (out0_ : Int → α) (fail_ : α) : g (I.partIn_step3 x0 x5 x6 next_ out0_ fail_) = I.partIn_step3 x0 x5 x6 (fun s => g (next_ s)) (fun d => g (out0_ d)) (g fail_) := by
  unfold I.partIn_step3; simp only [apply_cnd g, apply_optC g, apply_sumC g]
noncomputable def I.partIn_run3 (x0 : List Int) : Nat → Int × Int → Option (Int)
  | 0, _ => none
  | n + 1, s_ => I.partIn_step3 x0 s_.1 s_.2 (I.partIn_run3 x0 n) (fun d => some d) none
theorem I.partIn_L3_run (x0 : List Int) (n : Nat) (s_ : Int × Int) (k : X → St → R) : I.partIn_L3 n { n := 19, t := [(0, (.ro false (.ints .i64 x0))), (5, (.int .i64 s_.1)), (6, (.int .i64 s_.2))], h := [] } k = optC (I.partIn_run3 x0 n s_) (fun (r : Int) => k (.exit 0) { n := 19, t := [(5, (.int .i64 r))], h := [] }) none := by
  induction n generalizing s_ with
  | zero => rfl
  | succ n ih =>
    have hu : I.partIn_L3 (n + 1) { n := 19, t := [(0, (.ro false (.ints .i64 x0))), (5, (.int .i64 s_.1)), (6, (.int .i64 s_.2))], h := [] } k = I.partIn_step3 x0 s_.1 s_.2 (fun s_ => I.partIn_L3 n { n := 19, t := [(0, (.ro false (.ints .i64 x0))), (5, (.int .i64 s_.1)), (6, (.int .i64 s_.2))], h := [] } k) (fun d => k (.exit 0) { n := 19, t := [(5, (.int .i64 d))], h := [] }) none := by
      kernel_rfl
    have hs : (fun s_ : Int × Int => I.partIn_L3 n { n := 19, t := [(0, (.ro false (.ints .i64 x0))), (5, (.int .i64 s_.1)), (6, (.int .i64 s_.2))], h := [] } k) = fun s_ => optC (I.partIn_run3 x0 n s_) (fun (r : Int) => k (.exit 0) { n := 19, t := [(5, (.int .i64 r))], h := [] }) none := funext ih
    rw [hu, hs]
    exact (I.partIn_step3_nat (fun o => optC o (fun (r : Int) => k (.exit 0) { n := 19, t := [(5, (.int .i64 r))], h := [] }) none) x0 s_.1 s_.2 (I.partIn_run3 x0 n) (fun d => some d) none).symm
noncomputable def I.partIn_tree {α : Type} (net : List Int) (place : Int) (leaf0_ : Int → α) (fail_ : α) : α :=
  (bif decide (place < 0) then fail_ else (optC (I.partIn_run3 net FUEL (IntKind.i64.wrap (1 * 2 ^ min place.toNat IntKind.i64.bits), 1)) (fun qy_2 => (leaf0_ qy_2)) fail_))
theorem I.partIn_tree_nat {α γ : Type} (g : α → γ) (net : List Int) (place : Int) (leaf0_ : Int → α) (fail_ : α) : g (I.partIn_tree net place leaf0_ fail_) = I.partIn_tree net place (fun d => g (leaf0_ d)) (g fail_) := by
  unfold I.partIn_tree; simp only [apply_cnd g, apply_optC g, apply_sumC g]
noncomputable def I.partIn_t (net : List Int) (place : Int) : Option (Int) := I.partIn_tree net place (fun d => some d) none
theorem I.partIn_den (net : List Int) (place : Int) (κ : V → List E → R) : I.partIn_F [.ro false (.ints .i64 net), .int .i64 place] [] κ = optC (I.partIn_t net place) (fun (r : Int) => κ (.int .i64 r) []) none := by
  have hu : I.partIn_F [.ro false (.ints .i64 net), .int .i64 place] [] κ = I.partIn_tree net place (fun d => κ (.int .i64 d) []) none := by
    refine Eq.trans (show I.partIn_F [.ro false (.ints .i64 net), .int .i64 place] [] κ = (bif decide (place < 0) then none else (I.partIn_L3 FUEL { n := 19, t := [(0, (.ro false (.ints .i64 net))), (5, (.int .i64 (IntKind.i64.wrap (1 * 2 ^ min place.toNat IntKind.i64.bits)))), (6, (.int .i64 1))], h := [] } (I.partIn_k3 κ))) by kernel_rfl) ?_
    refine cnd_congr ?_ ?_
    · kernel_rfl
    · refine (I.partIn_L3_run net FUEL (IntKind.i64.wrap (1 * 2 ^ min place.toNat IntKind.i64.bits), 1) (I.partIn_k3 κ)).trans (optC_congr (fun qy_2 => ?_))
      kernel_rfl
  rw [hu]
  exact (I.partIn_tree_nat (fun o => optC o (fun (r : Int) => κ (.int .i64 r) []) none) net place (fun d => some d) none).symm
noncomputable def I.partIn_s : D.Spec where
  keep := false
  pure := true
  ds := [.int .i64, .invalid]
  sp := fun args h κ => match args, h with
    | [.ro false (.ints .i64 net), .int .i64 place], [] => optC (I.partIn_t net place) (fun (r : Int) => κ (.int .i64 r) []) none
    | _, _ => none
theorem I.partIn_ok : SpecOk Try.prog 60 I.partIn_s := by
  refine SpecOk.of TDok mixed (T := I.partIn_T) ?_ (ann := I.partIn_ann) Try.func60 rfl (by decide +kernel) ?_ ?_ ?_
  · intro p hp
    simp only [I.partIn_T, List.mem_cons, List.not_mem_nil, or_false] at hp
    rcases hp with rfl
    · exact I.seenIn_ok
  · intro args h κ r hh
    simp only [I.partIn_s] at hh
    split at hh
    · exact (I.partIn_den _ _ κ).trans hh
    · cases hh
  · intro args h κ r hh
    simp only [I.partIn_s] at hh ⊢
    split at hh
    · exact optC_law2 (F := fun (r : Int) κ => κ (.int .i64 r) []) (fun b κ r hb => ⟨_, _, hb, fun _ => rfl⟩) hh
    · cases hh
  · intro _ args h κ r hh
    simp only [I.partIn_s] at hh
    split at hh
    · exact ⟨rfl, fun _ => rfl⟩
    · cases hh

-- loop.example/guardsonnets/impl.PartMany
noncomputable def I.PartMany_T : List (Nat × D.Spec) := [(29, I.NetOk_s), (53, I.hasPlace_s), (60, I.partIn_s)]
def I.PartMany_ann : Nat → List Nat × List Nat
  | 6 => ([0, 3, 4, 5], [3])
  | _ => ([], [])
noncomputable def I.PartMany_F (args : List V) (h : List E) (κ : V → List E → R) : R := funC TD (tableK I.PartMany_T) I.PartMany_ann (drawOk (tableP I.PartMany_T)) FUEL Try.f30 args h κ
noncomputable def I.PartMany_L6 (n : Nat) (σ : St) (k : X → St → R) : R := iterC 0 (fun σ k => denC TD (tableK I.PartMany_T) I.PartMany_ann (drawOk (tableP I.PartMany_T)) 0 FUEL ((findLoop 6 (Try.f30.body.getD .skip)).getD .skip) σ k) [0, 3, 4, 5] [3] n σ k
noncomputable def I.PartMany_k6 (κ : V → List E → R) : X → St → R := (afterC TD (tableK I.PartMany_T) I.PartMany_ann (drawOk (tableP I.PartMany_T)) 0 FUEL 6 (Try.f30.body.getD .skip) (finC TD 0 Try.f30 κ)).getD (fun _ _ => none)
noncomputable def I.PartMany_step6 {α : Type} (x0 : List Int) (x3 : Int) (x4 : Int) (x5 : Int) (next_ : Int × Int × Int → α) (out0_ : Int → α) (fail_ : α) : α :=
  (bif decide (x5 < (↑x0.length : Int)) then (optC (I.hasPlace_t x4 x5) (fun c_2 => (bif !c_2 then (optC (I.partIn_t x0 x5) (fun c_3 => (next_ (IntKind.i64.wrap (x3 + 1), bits BinOp.or IntKind.i64 x4 c_3, IntKind.i64.wrap (x5 + 1)))) fail_) else (next_ (x3, x4, IntKind.i64.wrap (x5 + 1))))) fail_) else (out0_ x3))
theorem I.PartMany_step6_nat {α γ : Type} (g : α → γ) (x0 : List Int) (x3 : Int) (x4 : Int) (x5 : Int) (next_ : Int × Int × Int → α) (out0_ : Int → α) (fail_ : α) : g (I.PartMany_step6 x0 x3 x4 x5 next_ out0_ fail_) = I.PartMany_step6 x0 x3 x4 x5 (fun s => g (next_ s)) (fun d => g (out0_ d)) (g fail_) := by
  unfold I.PartMany_step6; simp only [apply_cnd g, apply_optC g, apply_sumC g]
noncomputable def I.PartMany_run6 (x0 : List Int) : Nat → Int × Int × Int → Option (Int)
  | 0, _ => none
  | n + 1, s_ => I.PartMany_step6 x0 s_.1 s_.2.1 s_.2.2 (I.PartMany_run6 x0 n) (fun d => some d) none
theorem I.PartMany_L6_run (x0 : List Int) (n : Nat) (s_ : Int × Int × Int) (k : X → St → R) : I.PartMany_L6 n { n := 27, t := [(0, (.ro false (.ints .i64 x0))), (3, (.int .i64 s_.1)), (4, (.int .i64 s_.2.1)), (5, (.int .i64 s_.2.2))], h := [] } k = optC (I.PartMany_run6 x0 n s_) (fun (r : Int) => k (.exit 0) { n := 27, t := [(3, (.int .i64 r))], h := [] }) none := by
  induction n generalizing s_ with
  | zero => rfl
  | succ n ih =>
    have hu : I.PartMany_L6 (n + 1) { n := 27, t := [(0, (.ro false (.ints .i64 x0))), (3, (.int .i64 s_.1)), (4, (.int .i64 s_.2.1)), (5, (.int .i64 s_.2.2))], h := [] } k = I.PartMany_step6 x0 s_.1 s_.2.1 s_.2.2 (fun s_ => I.PartMany_L6 n { n := 27, t := [(0, (.ro false (.ints .i64 x0))), (3, (.int .i64 s_.1)), (4, (.int .i64 s_.2.1)), (5, (.int .i64 s_.2.2))], h := [] } k) (fun d => k (.exit 0) { n := 27, t := [(3, (.int .i64 d))], h := [] }) none := by
      kernel_rfl
    have hs : (fun s_ : Int × Int × Int => I.PartMany_L6 n { n := 27, t := [(0, (.ro false (.ints .i64 x0))), (3, (.int .i64 s_.1)), (4, (.int .i64 s_.2.1)), (5, (.int .i64 s_.2.2))], h := [] } k) = fun s_ => optC (I.PartMany_run6 x0 n s_) (fun (r : Int) => k (.exit 0) { n := 27, t := [(3, (.int .i64 r))], h := [] }) none := funext ih
    rw [hu, hs]
    exact (I.PartMany_step6_nat (fun o => optC o (fun (r : Int) => k (.exit 0) { n := 27, t := [(3, (.int .i64 r))], h := [] }) none) x0 s_.1 s_.2.1 s_.2.2 (I.PartMany_run6 x0 n) (fun d => some d) none).symm
noncomputable def I.PartMany_tree {α : Type} (net : List Int) (leaf0_ : Int → α) (fail_ : α) : α :=
  (optC (I.NetOk_t net) (fun c_1 => (bif !c_1 then (leaf0_ (-1)) else (optC (I.PartMany_run6 net FUEL (0, 0, 0)) (fun qy_4 => (leaf0_ qy_4)) fail_))) fail_)
theorem I.PartMany_tree_nat {α γ : Type} (g : α → γ) (net : List Int) (leaf0_ : Int → α) (fail_ : α) : g (I.PartMany_tree net leaf0_ fail_) = I.PartMany_tree net (fun d => g (leaf0_ d)) (g fail_) := by
  unfold I.PartMany_tree; simp only [apply_cnd g, apply_optC g, apply_sumC g]
noncomputable def I.PartMany_t (net : List Int) : Option (Int) := I.PartMany_tree net (fun d => some d) none
theorem I.PartMany_den (net : List Int) (κ : V → List E → R) : I.PartMany_F [.ro false (.ints .i64 net)] [] κ = optC (I.PartMany_t net) (fun (r : Int) => κ (.int .i64 r) []) none := by
  have hu : I.PartMany_F [.ro false (.ints .i64 net)] [] κ = I.PartMany_tree net (fun d => κ (.int .i64 d) []) none := by
    refine Eq.trans (show I.PartMany_F [.ro false (.ints .i64 net)] [] κ = (optC (I.NetOk_t net) (fun c_1 => (bif !c_1 then (κ (.int .i64 (-1)) []) else (I.PartMany_L6 FUEL { n := 27, t := [(0, (.ro false (.ints .i64 net))), (3, (.int .i64 0)), (4, (.int .i64 0)), (5, (.int .i64 0))], h := [] } (I.PartMany_k6 κ)))) none) by kernel_rfl) ?_
    refine optC_congr (fun c_1 => ?_)
    refine cnd_congr ?_ ?_
    · kernel_rfl
    · refine (I.PartMany_L6_run net FUEL (0, 0, 0) (I.PartMany_k6 κ)).trans (optC_congr (fun qy_4 => ?_))
      kernel_rfl
  rw [hu]
  exact (I.PartMany_tree_nat (fun o => optC o (fun (r : Int) => κ (.int .i64 r) []) none) net (fun d => some d) none).symm
noncomputable def I.PartMany_s : D.Spec where
  keep := false
  pure := true
  ds := [.int .i64]
  sp := fun args h κ => match args, h with
    | [.ro false (.ints .i64 net)], [] => optC (I.PartMany_t net) (fun (r : Int) => κ (.int .i64 r) []) none
    | _, _ => none
theorem I.PartMany_ok : SpecOk Try.prog 30 I.PartMany_s := by
  refine SpecOk.of TDok mixed (T := I.PartMany_T) ?_ (ann := I.PartMany_ann) Try.func30 rfl (by decide +kernel) ?_ ?_ ?_
  · intro p hp
    simp only [I.PartMany_T, List.mem_cons, List.not_mem_nil, or_false] at hp
    rcases hp with rfl | rfl | rfl
    · exact I.NetOk_ok
    · exact I.hasPlace_ok
    · exact I.partIn_ok
  · intro args h κ r hh
    simp only [I.PartMany_s] at hh
    split at hh
    · exact (I.PartMany_den _ κ).trans hh
    · cases hh
  · intro args h κ r hh
    simp only [I.PartMany_s] at hh ⊢
    split at hh
    · exact optC_law2 (F := fun (r : Int) κ => κ (.int .i64 r) []) (fun b κ r hb => ⟨_, _, hb, fun _ => rfl⟩) hh
    · cases hh
  · intro _ args h κ r hh
    simp only [I.PartMany_s] at hh
    split at hh
    · exact ⟨rfl, fun _ => rfl⟩
    · cases hh

-- loop.example/guardsonnets/impl.nextTo
noncomputable def I.nextTo_T : List (Nat × D.Spec) := [(53, I.hasPlace_s)]
def I.nextTo_ann : Nat → List Nat × List Nat
  | 3 => ([0, 1, 5, 6], [5])
  | _ => ([], [])
noncomputable def I.nextTo_F (args : List V) (h : List E) (κ : V → List E → R) : R := funC TD (tableK I.nextTo_T) I.nextTo_ann (drawOk (tableP I.nextTo_T)) FUEL Try.f79 args h κ
noncomputable def I.nextTo_L3 (n : Nat) (σ : St) (k : X → St → R) : R := iterC 0 (fun σ k => denC TD (tableK I.nextTo_T) I.nextTo_ann (drawOk (tableP I.nextTo_T)) 0 FUEL ((findLoop 3 (Try.f79.body.getD .skip)).getD .skip) σ k) [0, 1, 5, 6] [5] n σ k
noncomputable def I.nextTo_k3 (κ : V → List E → R) : X → St → R := (afterC TD (tableK I.nextTo_T) I.nextTo_ann (drawOk (tableP I.nextTo_T)) 0 FUEL 3 (Try.f79.body.getD .skip) (finC TD 0 Try.f79 κ)).getD (fun _ _ => none)
noncomputable def I.nextTo_step3 {α : Type} (x0 : List Int) (x1 : Int) (x5 : Int) (x6 : Int) (next_ : Int × Int → α) (out0_ : Int → α) (fail_ : α) : α :=
  (bif decide (x6 < (↑x0.length : Int)) then (optC (I.hasPlace_t x1 x6) (fun c_1 => (bif c_1 then (bif decide (0 ≤ x6) && decide (x6 < (↑x0.length : Int)) then (next_ (bits BinOp.or IntKind.i64 x5 (eli x0 x6.toNat), IntKind.i64.wrap (x6 + 1))) else fail_) else (next_ (x5, IntKind.i64.wrap (x6 + 1))))) fail_) else (out0_ x5))
theorem I.nextTo_step3_nat {α γ : Type} (g : α → γ) (x0 : List Int) (x1 : Int) (x5 : Int) (x6 : Int) (next_ : Int × Int → α) (out0_ : Int → α) (fail_ : α) : g (I.nextTo_step3 x0 x1 x5 x6 next_ out0_ fail_) = I.nextTo_step3 x0 x1 x5 x6 (fun s => g (next_ s)) (fun d => g (out0_ d)) (g fail_) := by
  unfold I.nextTo_step3; simp only [apply_cnd g, apply_optC g, apply_sumC g]
noncomputable def I.nextTo_run3 (x0 : List Int) (x1 : Int) : Nat → Int × Int → Option (Int)
  | 0, _ => none
  | n + 1, s_ => I.nextTo_step3 x0 x1 s_.1 s_.2 (I.nextTo_run3 x0 x1 n) (fun d => some d) none
theorem I.nextTo_L3_run (x0 : List Int) (x1 : Int) (n : Nat) (s_ : Int × Int) (k : X → St → R) : I.nextTo_L3 n { n := 23, t := [(0, (.ro false (.ints .i64 x0))), (1, (.int .i64 x1)), (5, (.int .i64 s_.1)), (6, (.int .i64 s_.2))], h := [] } k = optC (I.nextTo_run3 x0 x1 n s_) (fun (r : Int) => k (.exit 0) { n := 23, t := [(5, (.int .i64 r))], h := [] }) none := by
  induction n generalizing s_ with
  | zero => rfl
  | succ n ih =>
    have hu : I.nextTo_L3 (n + 1) { n := 23, t := [(0, (.ro false (.ints .i64 x0))), (1, (.int .i64 x1)), (5, (.int .i64 s_.1)), (6, (.int .i64 s_.2))], h := [] } k = I.nextTo_step3 x0 x1 s_.1 s_.2 (fun s_ => I.nextTo_L3 n { n := 23, t := [(0, (.ro false (.ints .i64 x0))), (1, (.int .i64 x1)), (5, (.int .i64 s_.1)), (6, (.int .i64 s_.2))], h := [] } k) (fun d => k (.exit 0) { n := 23, t := [(5, (.int .i64 d))], h := [] }) none := by
      kernel_rfl
    have hs : (fun s_ : Int × Int => I.nextTo_L3 n { n := 23, t := [(0, (.ro false (.ints .i64 x0))), (1, (.int .i64 x1)), (5, (.int .i64 s_.1)), (6, (.int .i64 s_.2))], h := [] } k) = fun s_ => optC (I.nextTo_run3 x0 x1 n s_) (fun (r : Int) => k (.exit 0) { n := 23, t := [(5, (.int .i64 r))], h := [] }) none := funext ih
    rw [hu, hs]
    exact (I.nextTo_step3_nat (fun o => optC o (fun (r : Int) => k (.exit 0) { n := 23, t := [(5, (.int .i64 r))], h := [] }) none) x0 x1 s_.1 s_.2 (I.nextTo_run3 x0 x1 n) (fun d => some d) none).symm
noncomputable def I.nextTo_tree {α : Type} (net : List Int) (set_ : Int) (leaf0_ : Int → α) (fail_ : α) : α :=
  (optC (I.nextTo_run3 net set_ FUEL (0, 0)) (fun qy_2 => (leaf0_ qy_2)) fail_)
theorem I.nextTo_tree_nat {α γ : Type} (g : α → γ) (net : List Int) (set_ : Int) (leaf0_ : Int → α) (fail_ : α) : g (I.nextTo_tree net set_ leaf0_ fail_) = I.nextTo_tree net set_ (fun d => g (leaf0_ d)) (g fail_) := by
  unfold I.nextTo_tree; simp only [apply_cnd g, apply_optC g, apply_sumC g]
noncomputable def I.nextTo_t (net : List Int) (set_ : Int) : Option (Int) := I.nextTo_tree net set_ (fun d => some d) none
theorem I.nextTo_den (net : List Int) (set_ : Int) (κ : V → List E → R) : I.nextTo_F [.ro false (.ints .i64 net), .int .i64 set_] [] κ = optC (I.nextTo_t net set_) (fun (r : Int) => κ (.int .i64 r) []) none := by
  have hu : I.nextTo_F [.ro false (.ints .i64 net), .int .i64 set_] [] κ = I.nextTo_tree net set_ (fun d => κ (.int .i64 d) []) none := by
    refine Eq.trans (show I.nextTo_F [.ro false (.ints .i64 net), .int .i64 set_] [] κ = (I.nextTo_L3 FUEL { n := 23, t := [(0, (.ro false (.ints .i64 net))), (1, (.int .i64 set_)), (5, (.int .i64 0)), (6, (.int .i64 0))], h := [] } (I.nextTo_k3 κ)) by kernel_rfl) ?_
    refine (I.nextTo_L3_run net set_ FUEL (0, 0) (I.nextTo_k3 κ)).trans (optC_congr (fun qy_2 => ?_))
    kernel_rfl
  rw [hu]
  exact (I.nextTo_tree_nat (fun o => optC o (fun (r : Int) => κ (.int .i64 r) []) none) net set_ (fun d => some d) none).symm
noncomputable def I.nextTo_s : D.Spec where
  keep := false
  pure := true
  ds := [.int .i64, .invalid]
  sp := fun args h κ => match args, h with
    | [.ro false (.ints .i64 net), .int .i64 set_], [] => optC (I.nextTo_t net set_) (fun (r : Int) => κ (.int .i64 r) []) none
    | _, _ => none
theorem I.nextTo_ok : SpecOk Try.prog 79 I.nextTo_s := by
  refine SpecOk.of TDok mixed (T := I.nextTo_T) ?_ (ann := I.nextTo_ann) Try.func79 rfl (by decide +kernel) ?_ ?_ ?_
  · intro p hp
    simp only [I.nextTo_T, List.mem_cons, List.not_mem_nil, or_false] at hp
    rcases hp with rfl
    · exact I.hasPlace_ok
  · intro args h κ r hh
    simp only [I.nextTo_s] at hh
    split at hh
    · exact (I.nextTo_den _ _ κ).trans hh
    · cases hh
  · intro args h κ r hh
    simp only [I.nextTo_s] at hh ⊢
    split at hh
    · exact optC_law2 (F := fun (r : Int) κ => κ (.int .i64 r) []) (fun b κ r hb => ⟨_, _, hb, fun _ => rfl⟩) hh
    · cases hh
  · intro _ args h κ r hh
    simp only [I.nextTo_s] at hh
    split at hh
    · exact ⟨rfl, fun _ => rfl⟩
    · cases hh

-- loop.example/guardsonnets/impl.reachedIn
noncomputable def I.reachedIn_T : List (Nat × D.Spec) := [(79, I.nextTo_s)]
def I.reachedIn_ann : Nat → List Nat × List Nat
  | 3 => ([0, 1, 5, 6], [5])
  | _ => ([], [])
noncomputable def I.reachedIn_F (args : List V) (h : List E) (κ : V → List E → R) : R := funC TD (tableK I.reachedIn_T) I.reachedIn_ann (drawOk (tableP I.reachedIn_T)) FUEL Try.f85 args h κ
noncomputable def I.reachedIn_L3 (n : Nat) (σ : St) (k : X → St → R) : R := iterC 0 (fun σ k => denC TD (tableK I.reachedIn_T) I.reachedIn_ann (drawOk (tableP I.reachedIn_T)) 0 FUEL ((findLoop 3 (Try.f85.body.getD .skip)).getD .skip) σ k) [0, 1, 5, 6] [5] n σ k
noncomputable def I.reachedIn_k3 (κ : V → List E → R) : X → St → R := (afterC TD (tableK I.reachedIn_T) I.reachedIn_ann (drawOk (tableP I.reachedIn_T)) 0 FUEL 3 (Try.f85.body.getD .skip) (finC TD 0 Try.f85 κ)).getD (fun _ _ => none)
noncomputable def I.reachedIn_step3 {α : Type} (x0 : List Int) (x1 : Int) (x5 : Int) (x6 : Int) (next_ : Int × Int → α) (out0_ : Int → α) (fail_ : α) : α :=
  (bif decide (x6 < (↑x0.length : Int)) then (optC (I.nextTo_t x0 x5) (fun c_1 => (next_ (bits BinOp.or IntKind.i64 x5 (bits BinOp.and IntKind.i64 x1 c_1), IntKind.i64.wrap (x6 + 1)))) fail_) else (out0_ x5))
theorem I.reachedIn_step3_nat {α γ : Type} (g : α → γ) (x0 : List Int) (x1 : Int) (x5 : Int) (x6 : Int) (next_ : Int × Int → α) (out0_ : Int → α) (fail_ : α) : g (I.reachedIn_step3 x0 x1 x5 x6 next_ out0_ fail_) = I.reachedIn_step3 x0 x1 x5 x6 (fun s => g (next_ s)) (fun d => g (out0_ d)) (g fail_) := by
  unfold I.reachedIn_step3; simp only [apply_cnd g, apply_optC g, apply_sumC g]
noncomputable def I.reachedIn_run3 (x0 : List Int) (x1 : Int) : Nat → Int × Int → Option (Int)
  | 0, _ => none
  | n + 1, s_ => I.reachedIn_step3 x0 x1 s_.1 s_.2 (I.reachedIn_run3 x0 x1 n) (fun d => some d) none
theorem I.reachedIn_L3_run (x0 : List Int) (x1 : Int) (n : Nat) (s_ : Int × Int) (k : X → St → R) : I.reachedIn_L3 n { n := 25, t := [(0, (.ro false (.ints .i64 x0))), (1, (.int .i64 x1)), (5, (.int .i64 s_.1)), (6, (.int .i64 s_.2))], h := [] } k = optC (I.reachedIn_run3 x0 x1 n s_) (fun (r : Int) => k (.exit 0) { n := 25, t := [(5, (.int .i64 r))], h := [] }) none := by
  induction n generalizing s_ with
  | zero => rfl
  | succ n ih =>
    have hu : I.reachedIn_L3 (n + 1) { n := 25, t := [(0, (.ro false (.ints .i64 x0))), (1, (.int .i64 x1)), (5, (.int .i64 s_.1)), (6, (.int .i64 s_.2))], h := [] } k = I.reachedIn_step3 x0 x1 s_.1 s_.2 (fun s_ => I.reachedIn_L3 n { n := 25, t := [(0, (.ro false (.ints .i64 x0))), (1, (.int .i64 x1)), (5, (.int .i64 s_.1)), (6, (.int .i64 s_.2))], h := [] } k) (fun d => k (.exit 0) { n := 25, t := [(5, (.int .i64 d))], h := [] }) none := by
      kernel_rfl
    have hs : (fun s_ : Int × Int => I.reachedIn_L3 n { n := 25, t := [(0, (.ro false (.ints .i64 x0))), (1, (.int .i64 x1)), (5, (.int .i64 s_.1)), (6, (.int .i64 s_.2))], h := [] } k) = fun s_ => optC (I.reachedIn_run3 x0 x1 n s_) (fun (r : Int) => k (.exit 0) { n := 25, t := [(5, (.int .i64 r))], h := [] }) none := funext ih
    rw [hu, hs]
    exact (I.reachedIn_step3_nat (fun o => optC o (fun (r : Int) => k (.exit 0) { n := 25, t := [(5, (.int .i64 r))], h := [] }) none) x0 x1 s_.1 s_.2 (I.reachedIn_run3 x0 x1 n) (fun d => some d) none).symm
noncomputable def I.reachedIn_tree {α : Type} (net : List Int) (set_ : Int) (leaf0_ : Int → α) (fail_ : α) : α :=
  (optC (I.reachedIn_run3 net set_ FUEL (bits BinOp.and IntKind.i64 set_ (IntKind.i64.wrap (0 - set_)), 1)) (fun qy_2 => (leaf0_ qy_2)) fail_)
theorem I.reachedIn_tree_nat {α γ : Type} (g : α → γ) (net : List Int) (set_ : Int) (leaf0_ : Int → α) (fail_ : α) : g (I.reachedIn_tree net set_ leaf0_ fail_) = I.reachedIn_tree net set_ (fun d => g (leaf0_ d)) (g fail_) := by
  unfold I.reachedIn_tree; simp only [apply_cnd g, apply_optC g, apply_sumC g]
noncomputable def I.reachedIn_t (net : List Int) (set_ : Int) : Option (Int) := I.reachedIn_tree net set_ (fun d => some d) none
theorem I.reachedIn_den (net : List Int) (set_ : Int) (κ : V → List E → R) : I.reachedIn_F [.ro false (.ints .i64 net), .int .i64 set_] [] κ = optC (I.reachedIn_t net set_) (fun (r : Int) => κ (.int .i64 r) []) none := by
  have hu : I.reachedIn_F [.ro false (.ints .i64 net), .int .i64 set_] [] κ = I.reachedIn_tree net set_ (fun d => κ (.int .i64 d) []) none := by
    refine Eq.trans (show I.reachedIn_F [.ro false (.ints .i64 net), .int .i64 set_] [] κ = (I.reachedIn_L3 FUEL { n := 25, t := [(0, (.ro false (.ints .i64 net))), (1, (.int .i64 set_)), (5, (.int .i64 (bits BinOp.and IntKind.i64 set_ (IntKind.i64.wrap (0 - set_))))), (6, (.int .i64 1))], h := [] } (I.reachedIn_k3 κ)) by kernel_rfl) ?_
    refine (I.reachedIn_L3_run net set_ FUEL (bits BinOp.and IntKind.i64 set_ (IntKind.i64.wrap (0 - set_)), 1) (I.reachedIn_k3 κ)).trans (optC_congr (fun qy_2 => ?_))
    kernel_rfl
  rw [hu]
  exact (I.reachedIn_tree_nat (fun o => optC o (fun (r : Int) => κ (.int .i64 r) []) none) net set_ (fun d => some d) none).symm
noncomputable def I.reachedIn_s : D.Spec where
  keep := false
  pure := true
  ds := [.int .i64, .invalid]
  sp := fun args h κ => match args, h with
    | [.ro false (.ints .i64 net), .int .i64 set_], [] => optC (I.reachedIn_t net set_) (fun (r : Int) => κ (.int .i64 r) []) none
    | _, _ => none
theorem I.reachedIn_ok : SpecOk Try.prog 85 I.reachedIn_s := by
  refine SpecOk.of TDok mixed (T := I.reachedIn_T) ?_ (ann := I.reachedIn_ann) Try.func85 rfl (by decide +kernel) ?_ ?_ ?_
  · intro p hp
    simp only [I.reachedIn_T, List.mem_cons, List.not_mem_nil, or_false] at hp
    rcases hp with rfl
    · exact I.nextTo_ok
  · intro args h κ r hh
    simp only [I.reachedIn_s] at hh
    split at hh
    · exact (I.reachedIn_den _ _ κ).trans hh
    · cases hh
  · intro args h κ r hh
    simp only [I.reachedIn_s] at hh ⊢
    split at hh
    · exact optC_law2 (F := fun (r : Int) κ => κ (.int .i64 r) []) (fun b κ r hb => ⟨_, _, hb, fun _ => rfl⟩) hh
    · cases hh
  · intro _ args h κ r hh
    simp only [I.reachedIn_s] at hh
    split at hh
    · exact ⟨rfl, fun _ => rfl⟩
    · cases hh

-- loop.example/guardsonnets/impl.togetherIn
noncomputable def I.togetherIn_T : List (Nat × D.Spec) := [(85, I.reachedIn_s)]
def I.togetherIn_ann : Nat → List Nat × List Nat
  | _ => ([], [])
noncomputable def I.togetherIn_F (args : List V) (h : List E) (κ : V → List E → R) : R := funC TD (tableK I.togetherIn_T) I.togetherIn_ann (drawOk (tableP I.togetherIn_T)) FUEL Try.f78 args h κ
noncomputable def I.togetherIn_tree {α : Type} (net : List Int) (set_ : Int) (leaf0_ : Bool → α) (fail_ : α) : α :=
  (bif !set_ == 0 then (optC (I.reachedIn_t net set_) (fun c_1 => (leaf0_ (c_1 == set_))) fail_) else (leaf0_ false))
theorem I.togetherIn_tree_nat {α γ : Type} (g : α → γ) (net : List Int) (set_ : Int) (leaf0_ : Bool → α) (fail_ : α) : g (I.togetherIn_tree net set_ leaf0_ fail_) = I.togetherIn_tree net set_ (fun d => g (leaf0_ d)) (g fail_) := by
  unfold I.togetherIn_tree; simp only [apply_cnd g, apply_optC g, apply_sumC g]
noncomputable def I.togetherIn_t (net : List Int) (set_ : Int) : Option (Bool) := I.togetherIn_tree net set_ (fun d => some d) none
theorem I.togetherIn_den (net : List Int) (set_ : Int) (κ : V → List E → R) : I.togetherIn_F [.ro false (.ints .i64 net), .int .i64 set_] [] κ = optC (I.togetherIn_t net set_) (fun (r : Bool) => κ (.bool r) []) none := by
  have hu : I.togetherIn_F [.ro false (.ints .i64 net), .int .i64 set_] [] κ = I.togetherIn_tree net set_ (fun d => κ (.bool d) []) none := by
    kernel_rfl
  rw [hu]
  exact (I.togetherIn_tree_nat (fun o => optC o (fun (r : Bool) => κ (.bool r) []) none) net set_ (fun d => some d) none).symm
noncomputable def I.togetherIn_s : D.Spec where
  keep := false
  pure := true
  ds := [.int .i64, .invalid]
  sp := fun args h κ => match args, h with
    | [.ro false (.ints .i64 net), .int .i64 set_], [] => optC (I.togetherIn_t net set_) (fun (r : Bool) => κ (.bool r) []) none
    | _, _ => none
theorem I.togetherIn_ok : SpecOk Try.prog 78 I.togetherIn_s := by
  refine SpecOk.of TDok mixed (T := I.togetherIn_T) ?_ (ann := I.togetherIn_ann) Try.func78 rfl (by decide +kernel) ?_ ?_ ?_
  · intro p hp
    simp only [I.togetherIn_T, List.mem_cons, List.not_mem_nil, or_false] at hp
    rcases hp with rfl
    · exact I.reachedIn_ok
  · intro args h κ r hh
    simp only [I.togetherIn_s] at hh
    split at hh
    · exact (I.togetherIn_den _ _ κ).trans hh
    · cases hh
  · intro args h κ r hh
    simp only [I.togetherIn_s] at hh ⊢
    split at hh
    · exact optC_law2 (F := fun (r : Bool) κ => κ (.bool r) []) (fun b κ r hb => ⟨_, _, hb, fun _ => rfl⟩) hh
    · cases hh
  · intro _ args h κ r hh
    simp only [I.togetherIn_s] at hh
    split at hh
    · exact ⟨rfl, fun _ => rfl⟩
    · cases hh

-- loop.example/guardsonnets/impl.joinedWatchIn
noncomputable def I.joinedWatchIn_T : List (Nat × D.Spec) := [(78, I.togetherIn_s), (55, I.watchIn_s)]
def I.joinedWatchIn_ann : Nat → List Nat × List Nat
  | _ => ([], [])
noncomputable def I.joinedWatchIn_F (args : List V) (h : List E) (κ : V → List E → R) : R := funC TD (tableK I.joinedWatchIn_T) I.joinedWatchIn_ann (drawOk (tableP I.joinedWatchIn_T)) FUEL Try.f62 args h κ
noncomputable def I.joinedWatchIn_tree {α : Type} (net : List Int) (set_ : Int) (leaf0_ : Bool → α) (fail_ : α) : α :=
  (optC (I.togetherIn_t net set_) (fun c_1 => (bif c_1 then (optC (I.watchIn_t net set_) (fun c_2 => (leaf0_ c_2)) fail_) else (leaf0_ false))) fail_)
theorem I.joinedWatchIn_tree_nat {α γ : Type} (g : α → γ) (net : List Int) (set_ : Int) (leaf0_ : Bool → α) (fail_ : α) : g (I.joinedWatchIn_tree net set_ leaf0_ fail_) = I.joinedWatchIn_tree net set_ (fun d => g (leaf0_ d)) (g fail_) := by
  unfold I.joinedWatchIn_tree; simp only [apply_cnd g, apply_optC g, apply_sumC g]
noncomputable def I.joinedWatchIn_t (net : List Int) (set_ : Int) : Option (Bool) := I.joinedWatchIn_tree net set_ (fun d => some d) none
theorem I.joinedWatchIn_den (net : List Int) (set_ : Int) (κ : V → List E → R) : I.joinedWatchIn_F [.ro false (.ints .i64 net), .int .i64 set_] [] κ = optC (I.joinedWatchIn_t net set_) (fun (r : Bool) => κ (.bool r) []) none := by
  have hu : I.joinedWatchIn_F [.ro false (.ints .i64 net), .int .i64 set_] [] κ = I.joinedWatchIn_tree net set_ (fun d => κ (.bool d) []) none := by
    kernel_rfl
  rw [hu]
  exact (I.joinedWatchIn_tree_nat (fun o => optC o (fun (r : Bool) => κ (.bool r) []) none) net set_ (fun d => some d) none).symm
noncomputable def I.joinedWatchIn_s : D.Spec where
  keep := false
  pure := true
  ds := [.int .i64, .invalid]
  sp := fun args h κ => match args, h with
    | [.ro false (.ints .i64 net), .int .i64 set_], [] => optC (I.joinedWatchIn_t net set_) (fun (r : Bool) => κ (.bool r) []) none
    | _, _ => none
theorem I.joinedWatchIn_ok : SpecOk Try.prog 62 I.joinedWatchIn_s := by
  refine SpecOk.of TDok mixed (T := I.joinedWatchIn_T) ?_ (ann := I.joinedWatchIn_ann) Try.func62 rfl (by decide +kernel) ?_ ?_ ?_
  · intro p hp
    simp only [I.joinedWatchIn_T, List.mem_cons, List.not_mem_nil, or_false] at hp
    rcases hp with rfl | rfl
    · exact I.togetherIn_ok
    · exact I.watchIn_ok
  · intro args h κ r hh
    simp only [I.joinedWatchIn_s] at hh
    split at hh
    · exact (I.joinedWatchIn_den _ _ κ).trans hh
    · cases hh
  · intro args h κ r hh
    simp only [I.joinedWatchIn_s] at hh ⊢
    split at hh
    · exact optC_law2 (F := fun (r : Bool) κ => κ (.bool r) []) (fun b κ r hb => ⟨_, _, hb, fun _ => rfl⟩) hh
    · cases hh
  · intro _ args h κ r hh
    simp only [I.joinedWatchIn_s] at hh
    split at hh
    · exact ⟨rfl, fun _ => rfl⟩
    · cases hh

-- loop.example/guardsonnets/impl.FewestJoined
noncomputable def I.FewestJoined_T : List (Nat × D.Spec) := [(29, I.NetOk_s), (61, I.allOf_s), (62, I.joinedWatchIn_s), (64, I.sizeOf_s), (63, I.fewerOf_s)]
def I.FewestJoined_ann : Nat → List Nat × List Nat
  | 5 => ([0, 3, 4], [3])
  | _ => ([], [])
noncomputable def I.FewestJoined_F (args : List V) (h : List E) (κ : V → List E → R) : R := funC TD (tableK I.FewestJoined_T) I.FewestJoined_ann (drawOk (tableP I.FewestJoined_T)) FUEL Try.f31 args h κ
noncomputable def I.FewestJoined_L5 (n : Nat) (σ : St) (k : X → St → R) : R := iterC 0 (fun σ k => denC TD (tableK I.FewestJoined_T) I.FewestJoined_ann (drawOk (tableP I.FewestJoined_T)) 0 FUEL ((findLoop 5 (Try.f31.body.getD .skip)).getD .skip) σ k) [0, 3, 4] [3] n σ k
noncomputable def I.FewestJoined_k5 (κ : V → List E → R) : X → St → R := (afterC TD (tableK I.FewestJoined_T) I.FewestJoined_ann (drawOk (tableP I.FewestJoined_T)) 0 FUEL 5 (Try.f31.body.getD .skip) (finC TD 0 Try.f31 κ)).getD (fun _ _ => none)
noncomputable def I.FewestJoined_step5 {α : Type} (x0 : List Int) (x3 : Int) (x4 : Int) (next_ : Int × Int → α) (out0_ : Int → α) (fail_ : α) : α :=
  (optC (I.allOf_t x0) (fun c_2 => (bif decide (x4 ≤ c_2) then (optC (I.joinedWatchIn_t x0 x4) (fun c_3 => (bif c_3 then (optC (I.sizeOf_t x4) (fun c_4 => (optC (I.fewerOf_t x3 c_4) (fun c_5 => (next_ (c_5, IntKind.i64.wrap (x4 + 1)))) fail_)) fail_) else (next_ (x3, IntKind.i64.wrap (x4 + 1))))) fail_) else (out0_ x3))) fail_)
theorem I.FewestJoined_step5_nat {α γ : Type} (g : α → γ) (x0 : List Int) (x3 : Int) (x4 : Int) (next_ : Int × Int → α) (out0_ : Int → α) (fail_ : α) : g (I.FewestJoined_step5 x0 x3 x4 next_ out0_ fail_) = I.FewestJoined_step5 x0 x3 x4 (fun s => g (next_ s)) (fun d => g (out0_ d)) (g fail_) := by
  unfold I.FewestJoined_step5; simp only [apply_cnd g, apply_optC g, apply_sumC g]
noncomputable def I.FewestJoined_run5 (x0 : List Int) : Nat → Int × Int → Option (Int)
  | 0, _ => none
  | n + 1, s_ => I.FewestJoined_step5 x0 s_.1 s_.2 (I.FewestJoined_run5 x0 n) (fun d => some d) none
theorem I.FewestJoined_L5_run (x0 : List Int) (n : Nat) (s_ : Int × Int) (k : X → St → R) : I.FewestJoined_L5 n { n := 22, t := [(0, (.ro false (.ints .i64 x0))), (3, (.int .i64 s_.1)), (4, (.int .i64 s_.2))], h := [] } k = optC (I.FewestJoined_run5 x0 n s_) (fun (r : Int) => k (.exit 0) { n := 22, t := [(3, (.int .i64 r))], h := [] }) none := by
  induction n generalizing s_ with
  | zero => rfl
  | succ n ih =>
    have hu : I.FewestJoined_L5 (n + 1) { n := 22, t := [(0, (.ro false (.ints .i64 x0))), (3, (.int .i64 s_.1)), (4, (.int .i64 s_.2))], h := [] } k = I.FewestJoined_step5 x0 s_.1 s_.2 (fun s_ => I.FewestJoined_L5 n { n := 22, t := [(0, (.ro false (.ints .i64 x0))), (3, (.int .i64 s_.1)), (4, (.int .i64 s_.2))], h := [] } k) (fun d => k (.exit 0) { n := 22, t := [(3, (.int .i64 d))], h := [] }) none := by
      kernel_rfl
    have hs : (fun s_ : Int × Int => I.FewestJoined_L5 n { n := 22, t := [(0, (.ro false (.ints .i64 x0))), (3, (.int .i64 s_.1)), (4, (.int .i64 s_.2))], h := [] } k) = fun s_ => optC (I.FewestJoined_run5 x0 n s_) (fun (r : Int) => k (.exit 0) { n := 22, t := [(3, (.int .i64 r))], h := [] }) none := funext ih
    rw [hu, hs]
    exact (I.FewestJoined_step5_nat (fun o => optC o (fun (r : Int) => k (.exit 0) { n := 22, t := [(3, (.int .i64 r))], h := [] }) none) x0 s_.1 s_.2 (I.FewestJoined_run5 x0 n) (fun d => some d) none).symm
noncomputable def I.FewestJoined_tree {α : Type} (net : List Int) (leaf0_ : Int → α) (fail_ : α) : α :=
  (optC (I.NetOk_t net) (fun c_1 => (bif !c_1 then (leaf0_ (-1)) else (optC (I.FewestJoined_run5 net FUEL (-1, 0)) (fun qy_6 => (leaf0_ qy_6)) fail_))) fail_)
theorem I.FewestJoined_tree_nat {α γ : Type} (g : α → γ) (net : List Int) (leaf0_ : Int → α) (fail_ : α) : g (I.FewestJoined_tree net leaf0_ fail_) = I.FewestJoined_tree net (fun d => g (leaf0_ d)) (g fail_) := by
  unfold I.FewestJoined_tree; simp only [apply_cnd g, apply_optC g, apply_sumC g]
noncomputable def I.FewestJoined_t (net : List Int) : Option (Int) := I.FewestJoined_tree net (fun d => some d) none
theorem I.FewestJoined_den (net : List Int) (κ : V → List E → R) : I.FewestJoined_F [.ro false (.ints .i64 net)] [] κ = optC (I.FewestJoined_t net) (fun (r : Int) => κ (.int .i64 r) []) none := by
  have hu : I.FewestJoined_F [.ro false (.ints .i64 net)] [] κ = I.FewestJoined_tree net (fun d => κ (.int .i64 d) []) none := by
    refine Eq.trans (show I.FewestJoined_F [.ro false (.ints .i64 net)] [] κ = (optC (I.NetOk_t net) (fun c_1 => (bif !c_1 then (κ (.int .i64 (-1)) []) else (I.FewestJoined_L5 FUEL { n := 22, t := [(0, (.ro false (.ints .i64 net))), (3, (.int .i64 (-1))), (4, (.int .i64 0))], h := [] } (I.FewestJoined_k5 κ)))) none) by kernel_rfl) ?_
    refine optC_congr (fun c_1 => ?_)
    refine cnd_congr ?_ ?_
    · kernel_rfl
    · refine (I.FewestJoined_L5_run net FUEL (-1, 0) (I.FewestJoined_k5 κ)).trans (optC_congr (fun qy_6 => ?_))
      kernel_rfl
  rw [hu]
  exact (I.FewestJoined_tree_nat (fun o => optC o (fun (r : Int) => κ (.int .i64 r) []) none) net (fun d => some d) none).symm
noncomputable def I.FewestJoined_s : D.Spec where
  keep := false
  pure := true
  ds := [.int .i64]
  sp := fun args h κ => match args, h with
    | [.ro false (.ints .i64 net)], [] => optC (I.FewestJoined_t net) (fun (r : Int) => κ (.int .i64 r) []) none
    | _, _ => none
theorem I.FewestJoined_ok : SpecOk Try.prog 31 I.FewestJoined_s := by
  refine SpecOk.of TDok mixed (T := I.FewestJoined_T) ?_ (ann := I.FewestJoined_ann) Try.func31 rfl (by decide +kernel) ?_ ?_ ?_
  · intro p hp
    simp only [I.FewestJoined_T, List.mem_cons, List.not_mem_nil, or_false] at hp
    rcases hp with rfl | rfl | rfl | rfl | rfl
    · exact I.NetOk_ok
    · exact I.allOf_ok
    · exact I.joinedWatchIn_ok
    · exact I.sizeOf_ok
    · exact I.fewerOf_ok
  · intro args h κ r hh
    simp only [I.FewestJoined_s] at hh
    split at hh
    · exact (I.FewestJoined_den _ κ).trans hh
    · cases hh
  · intro args h κ r hh
    simp only [I.FewestJoined_s] at hh ⊢
    split at hh
    · exact optC_law2 (F := fun (r : Int) κ => κ (.int .i64 r) []) (fun b κ r hb => ⟨_, _, hb, fun _ => rfl⟩) hh
    · cases hh
  · intro _ args h κ r hh
    simp only [I.FewestJoined_s] at hh
    split at hh
    · exact ⟨rfl, fun _ => rfl⟩
    · cases hh

-- loop.example/guardsonnets/impl.smallWatchIn
noncomputable def I.smallWatchIn_T : List (Nat × D.Spec) := [(61, I.allOf_s), (64, I.sizeOf_s), (55, I.watchIn_s)]
def I.smallWatchIn_ann : Nat → List Nat × List Nat
  | 3 => ([0, 3, 4], [3])
  | _ => ([], [])
noncomputable def I.smallWatchIn_F (args : List V) (h : List E) (κ : V → List E → R) : R := funC TD (tableK I.smallWatchIn_T) I.smallWatchIn_ann (drawOk (tableP I.smallWatchIn_T)) FUEL Try.f65 args h κ
noncomputable def I.smallWatchIn_L3 (n : Nat) (σ : St) (k : X → St → R) : R := iterC 0 (fun σ k => denC TD (tableK I.smallWatchIn_T) I.smallWatchIn_ann (drawOk (tableP I.smallWatchIn_T)) 0 FUEL ((findLoop 3 (Try.f65.body.getD .skip)).getD .skip) σ k) [0, 3, 4] [3] n σ k
noncomputable def I.smallWatchIn_k3 (κ : V → List E → R) : X → St → R := (afterC TD (tableK I.smallWatchIn_T) I.smallWatchIn_ann (drawOk (tableP I.smallWatchIn_T)) 0 FUEL 3 (Try.f65.body.getD .skip) (finC TD 0 Try.f65 κ)).getD (fun _ _ => none)
noncomputable def I.smallWatchIn_step3 {α : Type} (x0 : List Int) (x3 : Int) (x4 : Int) (next_ : Int × Int → α) (out0_ : Int → α) (fail_ : α) : α :=
  (optC (I.allOf_t x0) (fun c_2 => (bif decide (x4 < c_2) then (optC (I.sizeOf_t x4) (fun c_3 => (optC (I.sizeOf_t x3) (fun c_4 => (bif decide (c_3 < c_4) then (optC (I.watchIn_t x0 x4) (fun c_5 => (bif c_5 then (next_ (x4, IntKind.i64.wrap (x4 + 1))) else (next_ (x3, IntKind.i64.wrap (x4 + 1))))) fail_) else (next_ (x3, IntKind.i64.wrap (x4 + 1))))) fail_)) fail_) else (out0_ x3))) fail_)
theorem I.smallWatchIn_step3_nat {α γ : Type} (g : α → γ) (x0 : List Int) (x3 : Int) (x4 : Int) (next_ : Int × Int → α) (out0_ : Int → α) (fail_ : α) : g (I.smallWatchIn_step3 x0 x3 x4 next_ out0_ fail_) = I.smallWatchIn_step3 x0 x3 x4 (fun s => g (next_ s)) (fun d => g (out0_ d)) (g fail_) := by
  unfold I.smallWatchIn_step3; simp only [apply_cnd g, apply_optC g, apply_sumC g]
noncomputable def I.smallWatchIn_run3 (x0 : List Int) : Nat → Int × Int → Option (Int)
  | 0, _ => none
  | n + 1, s_ => I.smallWatchIn_step3 x0 s_.1 s_.2 (I.smallWatchIn_run3 x0 n) (fun d => some d) none
theorem I.smallWatchIn_L3_run (x0 : List Int) (n : Nat) (s_ : Int × Int) (k : X → St → R) : I.smallWatchIn_L3 n { n := 25, t := [(0, (.ro false (.ints .i64 x0))), (3, (.int .i64 s_.1)), (4, (.int .i64 s_.2))], h := [] } k = optC (I.smallWatchIn_run3 x0 n s_) (fun (r : Int) => k (.exit 0) { n := 25, t := [(3, (.int .i64 r))], h := [] }) none := by
  induction n generalizing s_ with
  | zero => rfl
  | succ n ih =>
    have hu : I.smallWatchIn_L3 (n + 1) { n := 25, t := [(0, (.ro false (.ints .i64 x0))), (3, (.int .i64 s_.1)), (4, (.int .i64 s_.2))], h := [] } k = I.smallWatchIn_step3 x0 s_.1 s_.2 (fun s_ => I.smallWatchIn_L3 n { n := 25, t := [(0, (.ro false (.ints .i64 x0))), (3, (.int .i64 s_.1)), (4, (.int .i64 s_.2))], h := [] } k) (fun d => k (.exit 0) { n := 25, t := [(3, (.int .i64 d))], h := [] }) none := by
      kernel_rfl
    have hs : (fun s_ : Int × Int => I.smallWatchIn_L3 n { n := 25, t := [(0, (.ro false (.ints .i64 x0))), (3, (.int .i64 s_.1)), (4, (.int .i64 s_.2))], h := [] } k) = fun s_ => optC (I.smallWatchIn_run3 x0 n s_) (fun (r : Int) => k (.exit 0) { n := 25, t := [(3, (.int .i64 r))], h := [] }) none := funext ih
    rw [hu, hs]
    exact (I.smallWatchIn_step3_nat (fun o => optC o (fun (r : Int) => k (.exit 0) { n := 25, t := [(3, (.int .i64 r))], h := [] }) none) x0 s_.1 s_.2 (I.smallWatchIn_run3 x0 n) (fun d => some d) none).symm
noncomputable def I.smallWatchIn_tree {α : Type} (net : List Int) (leaf0_ : Int → α) (fail_ : α) : α :=
  (optC (I.allOf_t net) (fun c_1 => (optC (I.smallWatchIn_run3 net FUEL (c_1, 0)) (fun qy_6 => (leaf0_ qy_6)) fail_)) fail_)
theorem I.smallWatchIn_tree_nat {α γ : Type} (g : α → γ) (net : List Int) (leaf0_ : Int → α) (fail_ : α) : g (I.smallWatchIn_tree net leaf0_ fail_) = I.smallWatchIn_tree net (fun d => g (leaf0_ d)) (g fail_) := by
  unfold I.smallWatchIn_tree; simp only [apply_cnd g, apply_optC g, apply_sumC g]
noncomputable def I.smallWatchIn_t (net : List Int) : Option (Int) := I.smallWatchIn_tree net (fun d => some d) none
theorem I.smallWatchIn_den (net : List Int) (κ : V → List E → R) : I.smallWatchIn_F [.ro false (.ints .i64 net)] [] κ = optC (I.smallWatchIn_t net) (fun (r : Int) => κ (.int .i64 r) []) none := by
  have hu : I.smallWatchIn_F [.ro false (.ints .i64 net)] [] κ = I.smallWatchIn_tree net (fun d => κ (.int .i64 d) []) none := by
    refine Eq.trans (show I.smallWatchIn_F [.ro false (.ints .i64 net)] [] κ = (optC (I.allOf_t net) (fun c_1 => (I.smallWatchIn_L3 FUEL { n := 25, t := [(0, (.ro false (.ints .i64 net))), (3, (.int .i64 c_1)), (4, (.int .i64 0))], h := [] } (I.smallWatchIn_k3 κ))) none) by kernel_rfl) ?_
    refine optC_congr (fun c_1 => ?_)
    refine (I.smallWatchIn_L3_run net FUEL (c_1, 0) (I.smallWatchIn_k3 κ)).trans (optC_congr (fun qy_6 => ?_))
    kernel_rfl
  rw [hu]
  exact (I.smallWatchIn_tree_nat (fun o => optC o (fun (r : Int) => κ (.int .i64 r) []) none) net (fun d => some d) none).symm
noncomputable def I.smallWatchIn_s : D.Spec where
  keep := false
  pure := true
  ds := [.int .i64]
  sp := fun args h κ => match args, h with
    | [.ro false (.ints .i64 net)], [] => optC (I.smallWatchIn_t net) (fun (r : Int) => κ (.int .i64 r) []) none
    | _, _ => none
theorem I.smallWatchIn_ok : SpecOk Try.prog 65 I.smallWatchIn_s := by
  refine SpecOk.of TDok mixed (T := I.smallWatchIn_T) ?_ (ann := I.smallWatchIn_ann) Try.func65 rfl (by decide +kernel) ?_ ?_ ?_
  · intro p hp
    simp only [I.smallWatchIn_T, List.mem_cons, List.not_mem_nil, or_false] at hp
    rcases hp with rfl | rfl | rfl
    · exact I.allOf_ok
    · exact I.sizeOf_ok
    · exact I.watchIn_ok
  · intro args h κ r hh
    simp only [I.smallWatchIn_s] at hh
    split at hh
    · exact (I.smallWatchIn_den _ κ).trans hh
    · cases hh
  · intro args h κ r hh
    simp only [I.smallWatchIn_s] at hh ⊢
    split at hh
    · exact optC_law2 (F := fun (r : Int) κ => κ (.int .i64 r) []) (fun b κ r hb => ⟨_, _, hb, fun _ => rfl⟩) hh
    · cases hh
  · intro _ args h κ r hh
    simp only [I.smallWatchIn_s] at hh
    split at hh
    · exact ⟨rfl, fun _ => rfl⟩
    · cases hh

-- loop.example/guardsonnets/impl.FewestWatch
noncomputable def I.FewestWatch_T : List (Nat × D.Spec) := [(29, I.NetOk_s), (65, I.smallWatchIn_s), (64, I.sizeOf_s)]
def I.FewestWatch_ann : Nat → List Nat × List Nat
  | _ => ([], [])
noncomputable def I.FewestWatch_F (args : List V) (h : List E) (κ : V → List E → R) : R := funC TD (tableK I.FewestWatch_T) I.FewestWatch_ann (drawOk (tableP I.FewestWatch_T)) FUEL Try.f32 args h κ
noncomputable def I.FewestWatch_tree {α : Type} (net : List Int) (leaf0_ : Int → α) (fail_ : α) : α :=
  (optC (I.NetOk_t net) (fun c_1 => (bif !c_1 then (leaf0_ (-1)) else (optC (I.smallWatchIn_t net) (fun c_2 => (optC (I.sizeOf_t c_2) (fun c_3 => (leaf0_ c_3)) fail_)) fail_))) fail_)
theorem I.FewestWatch_tree_nat {α γ : Type} (g : α → γ) (net : List Int) (leaf0_ : Int → α) (fail_ : α) : g (I.FewestWatch_tree net leaf0_ fail_) = I.FewestWatch_tree net (fun d => g (leaf0_ d)) (g fail_) := by
  unfold I.FewestWatch_tree; simp only [apply_cnd g, apply_optC g, apply_sumC g]
noncomputable def I.FewestWatch_t (net : List Int) : Option (Int) := I.FewestWatch_tree net (fun d => some d) none
theorem I.FewestWatch_den (net : List Int) (κ : V → List E → R) : I.FewestWatch_F [.ro false (.ints .i64 net)] [] κ = optC (I.FewestWatch_t net) (fun (r : Int) => κ (.int .i64 r) []) none := by
  have hu : I.FewestWatch_F [.ro false (.ints .i64 net)] [] κ = I.FewestWatch_tree net (fun d => κ (.int .i64 d) []) none := by
    kernel_rfl
  rw [hu]
  exact (I.FewestWatch_tree_nat (fun o => optC o (fun (r : Int) => κ (.int .i64 r) []) none) net (fun d => some d) none).symm
noncomputable def I.FewestWatch_s : D.Spec where
  keep := false
  pure := true
  ds := [.int .i64]
  sp := fun args h κ => match args, h with
    | [.ro false (.ints .i64 net)], [] => optC (I.FewestWatch_t net) (fun (r : Int) => κ (.int .i64 r) []) none
    | _, _ => none
theorem I.FewestWatch_ok : SpecOk Try.prog 32 I.FewestWatch_s := by
  refine SpecOk.of TDok mixed (T := I.FewestWatch_T) ?_ (ann := I.FewestWatch_ann) Try.func32 rfl (by decide +kernel) ?_ ?_ ?_
  · intro p hp
    simp only [I.FewestWatch_T, List.mem_cons, List.not_mem_nil, or_false] at hp
    rcases hp with rfl | rfl | rfl
    · exact I.NetOk_ok
    · exact I.smallWatchIn_ok
    · exact I.sizeOf_ok
  · intro args h κ r hh
    simp only [I.FewestWatch_s] at hh
    split at hh
    · exact (I.FewestWatch_den _ κ).trans hh
    · cases hh
  · intro args h κ r hh
    simp only [I.FewestWatch_s] at hh ⊢
    split at hh
    · exact optC_law2 (F := fun (r : Int) κ => κ (.int .i64 r) []) (fun b κ r hb => ⟨_, _, hb, fun _ => rfl⟩) hh
    · cases hh
  · intro _ args h κ r hh
    simp only [I.FewestWatch_s] at hh
    split at hh
    · exact ⟨rfl, fun _ => rfl⟩
    · cases hh

-- loop.example/guardsonnets/impl.apartIn
noncomputable def I.apartIn_T : List (Nat × D.Spec) := [(79, I.nextTo_s)]
def I.apartIn_ann : Nat → List Nat × List Nat
  | _ => ([], [])
noncomputable def I.apartIn_F (args : List V) (h : List E) (κ : V → List E → R) : R := funC TD (tableK I.apartIn_T) I.apartIn_ann (drawOk (tableP I.apartIn_T)) FUEL Try.f66 args h κ
noncomputable def I.apartIn_tree {α : Type} (net : List Int) (set_ : Int) (leaf0_ : Bool → α) (fail_ : α) : α :=
  (optC (I.nextTo_t net set_) (fun c_1 => (leaf0_ (bits BinOp.and IntKind.i64 set_ c_1 == 0))) fail_)
theorem I.apartIn_tree_nat {α γ : Type} (g : α → γ) (net : List Int) (set_ : Int) (leaf0_ : Bool → α) (fail_ : α) : g (I.apartIn_tree net set_ leaf0_ fail_) = I.apartIn_tree net set_ (fun d => g (leaf0_ d)) (g fail_) := by
  unfold I.apartIn_tree; simp only [apply_cnd g, apply_optC g, apply_sumC g]
noncomputable def I.apartIn_t (net : List Int) (set_ : Int) : Option (Bool) := I.apartIn_tree net set_ (fun d => some d) none
theorem I.apartIn_den (net : List Int) (set_ : Int) (κ : V → List E → R) : I.apartIn_F [.ro false (.ints .i64 net), .int .i64 set_] [] κ = optC (I.apartIn_t net set_) (fun (r : Bool) => κ (.bool r) []) none := by
  have hu : I.apartIn_F [.ro false (.ints .i64 net), .int .i64 set_] [] κ = I.apartIn_tree net set_ (fun d => κ (.bool d) []) none := by
    kernel_rfl
  rw [hu]
  exact (I.apartIn_tree_nat (fun o => optC o (fun (r : Bool) => κ (.bool r) []) none) net set_ (fun d => some d) none).symm
noncomputable def I.apartIn_s : D.Spec where
  keep := false
  pure := true
  ds := [.int .i64, .invalid]
  sp := fun args h κ => match args, h with
    | [.ro false (.ints .i64 net), .int .i64 set_], [] => optC (I.apartIn_t net set_) (fun (r : Bool) => κ (.bool r) []) none
    | _, _ => none
theorem I.apartIn_ok : SpecOk Try.prog 66 I.apartIn_s := by
  refine SpecOk.of TDok mixed (T := I.apartIn_T) ?_ (ann := I.apartIn_ann) Try.func66 rfl (by decide +kernel) ?_ ?_ ?_
  · intro p hp
    simp only [I.apartIn_T, List.mem_cons, List.not_mem_nil, or_false] at hp
    rcases hp with rfl
    · exact I.nextTo_ok
  · intro args h κ r hh
    simp only [I.apartIn_s] at hh
    split at hh
    · exact (I.apartIn_den _ _ κ).trans hh
    · cases hh
  · intro args h κ r hh
    simp only [I.apartIn_s] at hh ⊢
    split at hh
    · exact optC_law2 (F := fun (r : Bool) κ => κ (.bool r) []) (fun b κ r hb => ⟨_, _, hb, fun _ => rfl⟩) hh
    · cases hh
  · intro _ args h κ r hh
    simp only [I.apartIn_s] at hh
    split at hh
    · exact ⟨rfl, fun _ => rfl⟩
    · cases hh

-- loop.example/guardsonnets/impl.MostApart
noncomputable def I.MostApart_T : List (Nat × D.Spec) := [(29, I.NetOk_s), (61, I.allOf_s), (64, I.sizeOf_s), (66, I.apartIn_s)]
def I.MostApart_ann : Nat → List Nat × List Nat
  | 5 => ([0, 3, 4], [3])
  | _ => ([], [])
noncomputable def I.MostApart_F (args : List V) (h : List E) (κ : V → List E → R) : R := funC TD (tableK I.MostApart_T) I.MostApart_ann (drawOk (tableP I.MostApart_T)) FUEL Try.f33 args h κ
noncomputable def I.MostApart_L5 (n : Nat) (σ : St) (k : X → St → R) : R := iterC 0 (fun σ k => denC TD (tableK I.MostApart_T) I.MostApart_ann (drawOk (tableP I.MostApart_T)) 0 FUEL ((findLoop 5 (Try.f33.body.getD .skip)).getD .skip) σ k) [0, 3, 4] [3] n σ k
noncomputable def I.MostApart_k5 (κ : V → List E → R) : X → St → R := (afterC TD (tableK I.MostApart_T) I.MostApart_ann (drawOk (tableP I.MostApart_T)) 0 FUEL 5 (Try.f33.body.getD .skip) (finC TD 0 Try.f33 κ)).getD (fun _ _ => none)
noncomputable def I.MostApart_step5 {α : Type} (x0 : List Int) (x3 : Int) (x4 : Int) (next_ : Int × Int → α) (out0_ : Int → α) (fail_ : α) : α :=
  (optC (I.allOf_t x0) (fun c_2 => (bif decide (x4 ≤ c_2) then (optC (I.sizeOf_t x4) (fun c_3 => (bif decide (c_3 > x3) then (optC (I.apartIn_t x0 x4) (fun c_4 => (bif c_4 then (optC (I.sizeOf_t x4) (fun c_5 => (next_ (c_5, IntKind.i64.wrap (x4 + 1)))) fail_) else (next_ (x3, IntKind.i64.wrap (x4 + 1))))) fail_) else (next_ (x3, IntKind.i64.wrap (x4 + 1))))) fail_) else (out0_ x3))) fail_)
theorem I.MostApart_step5_nat {α γ : Type} (g : α → γ) (x0 : List Int) (x3 : Int) (x4 : Int) (next_ : Int × Int → α) (out0_ : Int → α) (fail_ : α) : g (I.MostApart_step5 x0 x3 x4 next_ out0_ fail_) = I.MostApart_step5 x0 x3 x4 (fun s => g (next_ s)) (fun d => g (out0_ d)) (g fail_) := by
  unfold I.MostApart_step5; simp only [apply_cnd g, apply_optC g, apply_sumC g]
noncomputable def I.MostApart_run5 (x0 : List Int) : Nat → Int × Int → Option (Int)
  | 0, _ => none
  | n + 1, s_ => I.MostApart_step5 x0 s_.1 s_.2 (I.MostApart_run5 x0 n) (fun d => some d) none
theorem I.MostApart_L5_run (x0 : List Int) (n : Nat) (s_ : Int × Int) (k : X → St → R) : I.MostApart_L5 n { n := 26, t := [(0, (.ro false (.ints .i64 x0))), (3, (.int .i64 s_.1)), (4, (.int .i64 s_.2))], h := [] } k = optC (I.MostApart_run5 x0 n s_) (fun (r : Int) => k (.exit 0) { n := 26, t := [(3, (.int .i64 r))], h := [] }) none := by
  induction n generalizing s_ with
  | zero => rfl
  | succ n ih =>
    have hu : I.MostApart_L5 (n + 1) { n := 26, t := [(0, (.ro false (.ints .i64 x0))), (3, (.int .i64 s_.1)), (4, (.int .i64 s_.2))], h := [] } k = I.MostApart_step5 x0 s_.1 s_.2 (fun s_ => I.MostApart_L5 n { n := 26, t := [(0, (.ro false (.ints .i64 x0))), (3, (.int .i64 s_.1)), (4, (.int .i64 s_.2))], h := [] } k) (fun d => k (.exit 0) { n := 26, t := [(3, (.int .i64 d))], h := [] }) none := by
      kernel_rfl
    have hs : (fun s_ : Int × Int => I.MostApart_L5 n { n := 26, t := [(0, (.ro false (.ints .i64 x0))), (3, (.int .i64 s_.1)), (4, (.int .i64 s_.2))], h := [] } k) = fun s_ => optC (I.MostApart_run5 x0 n s_) (fun (r : Int) => k (.exit 0) { n := 26, t := [(3, (.int .i64 r))], h := [] }) none := funext ih
    rw [hu, hs]
    exact (I.MostApart_step5_nat (fun o => optC o (fun (r : Int) => k (.exit 0) { n := 26, t := [(3, (.int .i64 r))], h := [] }) none) x0 s_.1 s_.2 (I.MostApart_run5 x0 n) (fun d => some d) none).symm
noncomputable def I.MostApart_tree {α : Type} (net : List Int) (leaf0_ : Int → α) (fail_ : α) : α :=
  (optC (I.NetOk_t net) (fun c_1 => (bif !c_1 then (leaf0_ (-1)) else (optC (I.MostApart_run5 net FUEL (0, 0)) (fun qy_6 => (leaf0_ qy_6)) fail_))) fail_)
theorem I.MostApart_tree_nat {α γ : Type} (g : α → γ) (net : List Int) (leaf0_ : Int → α) (fail_ : α) : g (I.MostApart_tree net leaf0_ fail_) = I.MostApart_tree net (fun d => g (leaf0_ d)) (g fail_) := by
  unfold I.MostApart_tree; simp only [apply_cnd g, apply_optC g, apply_sumC g]
noncomputable def I.MostApart_t (net : List Int) : Option (Int) := I.MostApart_tree net (fun d => some d) none
theorem I.MostApart_den (net : List Int) (κ : V → List E → R) : I.MostApart_F [.ro false (.ints .i64 net)] [] κ = optC (I.MostApart_t net) (fun (r : Int) => κ (.int .i64 r) []) none := by
  have hu : I.MostApart_F [.ro false (.ints .i64 net)] [] κ = I.MostApart_tree net (fun d => κ (.int .i64 d) []) none := by
    refine Eq.trans (show I.MostApart_F [.ro false (.ints .i64 net)] [] κ = (optC (I.NetOk_t net) (fun c_1 => (bif !c_1 then (κ (.int .i64 (-1)) []) else (I.MostApart_L5 FUEL { n := 26, t := [(0, (.ro false (.ints .i64 net))), (3, (.int .i64 0)), (4, (.int .i64 0))], h := [] } (I.MostApart_k5 κ)))) none) by kernel_rfl) ?_
    refine optC_congr (fun c_1 => ?_)
    refine cnd_congr ?_ ?_
    · kernel_rfl
    · refine (I.MostApart_L5_run net FUEL (0, 0) (I.MostApart_k5 κ)).trans (optC_congr (fun qy_6 => ?_))
      kernel_rfl
  rw [hu]
  exact (I.MostApart_tree_nat (fun o => optC o (fun (r : Int) => κ (.int .i64 r) []) none) net (fun d => some d) none).symm
noncomputable def I.MostApart_s : D.Spec where
  keep := false
  pure := true
  ds := [.int .i64]
  sp := fun args h κ => match args, h with
    | [.ro false (.ints .i64 net)], [] => optC (I.MostApart_t net) (fun (r : Int) => κ (.int .i64 r) []) none
    | _, _ => none
theorem I.MostApart_ok : SpecOk Try.prog 33 I.MostApart_s := by
  refine SpecOk.of TDok mixed (T := I.MostApart_T) ?_ (ann := I.MostApart_ann) Try.func33 rfl (by decide +kernel) ?_ ?_ ?_
  · intro p hp
    simp only [I.MostApart_T, List.mem_cons, List.not_mem_nil, or_false] at hp
    rcases hp with rfl | rfl | rfl | rfl
    · exact I.NetOk_ok
    · exact I.allOf_ok
    · exact I.sizeOf_ok
    · exact I.apartIn_ok
  · intro args h κ r hh
    simp only [I.MostApart_s] at hh
    split at hh
    · exact (I.MostApart_den _ κ).trans hh
    · cases hh
  · intro args h κ r hh
    simp only [I.MostApart_s] at hh ⊢
    split at hh
    · exact optC_law2 (F := fun (r : Int) κ => κ (.int .i64 r) []) (fun b κ r hb => ⟨_, _, hb, fun _ => rfl⟩) hh
    · cases hh
  · intro _ args h κ r hh
    simp only [I.MostApart_s] at hh
    split at hh
    · exact ⟨rfl, fun _ => rfl⟩
    · cases hh

-- loop.example/guardsonnets/laws.FnFewestAllEternal
noncomputable def L.FnFewestAllEternal_T : List (Nat × D.Spec) := [(26, S.DrawFewestAllEternal_s), (27, I.FewestAllEternal_s), (28, S.FewestAllEternal_s), (29, I.NetOk_s), (15, L.alive_s), (30, I.PartMany_s), (31, I.FewestJoined_s), (32, I.FewestWatch_s), (33, I.MostApart_s)]
def L.FnFewestAllEternal_ann : Nat → List Nat × List Nat
  | _ => ([], [])
noncomputable def L.FnFewestAllEternal_F (args : List V) (h : List E) (κ : V → List E → R) : R := funC TD (tableK L.FnFewestAllEternal_T) L.FnFewestAllEternal_ann (drawOk (tableP L.FnFewestAllEternal_T)) FUEL Try.f7 args h κ
noncomputable def L.FnFewestAllEternal_tree {α : Type} (code : List Int) (leaf0_ : Bool → α) (fail_ : α) : α :=
  (bif decide ((↑code.length : Int) > 1048576) then (leaf0_ true) else (optC (S.DrawFewestAllEternal_t code) (fun c_1 => (optC (I.FewestAllEternal_t c_1) (fun c_2 => (optC (S.FewestAllEternal_t c_1) (fun c_3 => (bif !c_2 == c_3 then (leaf0_ false) else (bif decide (c_2 < 0) then (bif c_2 == -1 then (optC (I.NetOk_t c_1) (fun c_4 => (bif !c_4 then (optC (L.alive_t) (fun c_5 => (leaf0_ c_5)) fail_) else (leaf0_ false))) fail_) else (leaf0_ false)) else (optC (I.PartMany_t c_1) (fun c_6 => (bif c_6 == 1 then (optC (I.FewestJoined_t c_1) (fun c_7 => (bif decide (c_2 > IntKind.i64.wrap (c_7 + 1)) then (leaf0_ false) else (optC (I.FewestWatch_t c_1) (fun c_8 => (bif decide (c_2 ≥ c_8) then (optC (I.MostApart_t c_1) (fun c_9 => (leaf0_ (decide (c_2 ≤ c_9)))) fail_) else (leaf0_ false))) fail_))) fail_) else (optC (I.FewestWatch_t c_1) (fun c_10 => (bif decide (c_2 ≥ c_10) then (optC (I.MostApart_t c_1) (fun c_11 => (leaf0_ (decide (c_2 ≤ c_11)))) fail_) else (leaf0_ false))) fail_))) fail_)))) fail_)) fail_)) fail_))
theorem L.FnFewestAllEternal_tree_nat {α γ : Type} (g : α → γ) (code : List Int) (leaf0_ : Bool → α) (fail_ : α) : g (L.FnFewestAllEternal_tree code leaf0_ fail_) = L.FnFewestAllEternal_tree code (fun d => g (leaf0_ d)) (g fail_) := by
  unfold L.FnFewestAllEternal_tree; simp only [apply_cnd g, apply_optC g, apply_sumC g]
noncomputable def L.FnFewestAllEternal_t (code : List Int) : Option (Bool) := L.FnFewestAllEternal_tree code (fun d => some d) none
theorem L.FnFewestAllEternal_den (code : List Int) (κ : V → List E → R) : L.FnFewestAllEternal_F [.ro true (.ints .u8 code)] [] κ = optC (L.FnFewestAllEternal_t code) (fun (r : Bool) => κ (.bool r) []) none := by
  have hu : L.FnFewestAllEternal_F [.ro true (.ints .u8 code)] [] κ = L.FnFewestAllEternal_tree code (fun d => κ (.bool d) []) none := by
    kernel_rfl
  rw [hu]
  exact (L.FnFewestAllEternal_tree_nat (fun o => optC o (fun (r : Bool) => κ (.bool r) []) none) code (fun d => some d) none).symm
noncomputable def L.FnFewestAllEternal_s : D.Spec where
  keep := true
  pure := true
  ds := [.int .u8]
  sp := fun args h κ => match args, h with
    | [.ro true (.ints .u8 code)], [] => optC (L.FnFewestAllEternal_t code) (fun (r : Bool) => κ (.bool r) []) none
    | _, _ => none
theorem L.FnFewestAllEternal_ok : SpecOk Try.prog 7 L.FnFewestAllEternal_s := by
  refine SpecOk.of TDok mixed (T := L.FnFewestAllEternal_T) ?_ (ann := L.FnFewestAllEternal_ann) Try.func7 rfl (by decide +kernel) ?_ ?_ ?_
  · intro p hp
    simp only [L.FnFewestAllEternal_T, List.mem_cons, List.not_mem_nil, or_false] at hp
    rcases hp with rfl | rfl | rfl | rfl | rfl | rfl | rfl | rfl | rfl
    · exact S.DrawFewestAllEternal_ok
    · exact I.FewestAllEternal_ok
    · exact S.FewestAllEternal_ok
    · exact I.NetOk_ok
    · exact L.alive_ok
    · exact I.PartMany_ok
    · exact I.FewestJoined_ok
    · exact I.FewestWatch_ok
    · exact I.MostApart_ok
  · intro args h κ r hh
    simp only [L.FnFewestAllEternal_s] at hh
    split at hh
    · exact (L.FnFewestAllEternal_den _ κ).trans hh
    · cases hh
  · intro args h κ r hh
    simp only [L.FnFewestAllEternal_s] at hh ⊢
    split at hh
    · exact optC_law2 (F := fun (r : Bool) κ => κ (.bool r) []) (fun b κ r hb => ⟨_, _, hb, fun _ => rfl⟩) hh
    · cases hh
  · intro _ args h κ r hh
    simp only [L.FnFewestAllEternal_s] at hh
    split at hh
    · exact ⟨rfl, fun _ => rfl⟩
    · cases hh

-- loop.example/guardsonnets/laws.FnExactFewestAllEternal
noncomputable def L.FnExactFewestAllEternal_T : List (Nat × D.Spec) := [(18, L.toIntS_s), (28, S.FewestAllEternal_s), (27, I.FewestAllEternal_s), (19, L.eqIntS_s)]
def L.FnExactFewestAllEternal_ann : Nat → List Nat × List Nat
  | _ => ([], [])
noncomputable def L.FnExactFewestAllEternal_F (args : List V) (h : List E) (κ : V → List E → R) : R := funC TD (tableK L.FnExactFewestAllEternal_T) L.FnExactFewestAllEternal_ann (drawOk (tableP L.FnExactFewestAllEternal_T)) FUEL Try.f8 args h κ
noncomputable def L.FnExactFewestAllEternal_tree {α : Type} (aNet : List Int) (leaf0_ : Bool → α) (fail_ : α) : α :=
  (bif decide ((↑aNet.length : Int) > 1048576) then (leaf0_ true) else (optC (L.toIntS_t aNet) (fun c_1 => (optC (S.FewestAllEternal_t c_1) (fun c_2 => (optC (L.toIntS_t aNet) (fun c_3 => (optC (I.FewestAllEternal_t c_3) (fun c_4 => (bif !c_4 == c_2 then (leaf0_ false) else (optC (L.toIntS_t aNet) (fun c_5 => (optC (L.eqIntS_t c_3 c_5) (fun c_6 => (bif !c_6 then (leaf0_ false) else (leaf0_ true))) fail_)) fail_))) fail_)) fail_)) fail_)) fail_))
theorem L.FnExactFewestAllEternal_tree_nat {α γ : Type} (g : α → γ) (aNet : List Int) (leaf0_ : Bool → α) (fail_ : α) : g (L.FnExactFewestAllEternal_tree aNet leaf0_ fail_) = L.FnExactFewestAllEternal_tree aNet (fun d => g (leaf0_ d)) (g fail_) := by
  unfold L.FnExactFewestAllEternal_tree; simp only [apply_cnd g, apply_optC g, apply_sumC g]
noncomputable def L.FnExactFewestAllEternal_t (aNet : List Int) : Option (Bool) := L.FnExactFewestAllEternal_tree aNet (fun d => some d) none
theorem L.FnExactFewestAllEternal_den (aNet : List Int) (κ : V → List E → R) : L.FnExactFewestAllEternal_F [.ro true (.ints .i64 aNet)] [] κ = optC (L.FnExactFewestAllEternal_t aNet) (fun (r : Bool) => κ (.bool r) []) none := by
  have hu : L.FnExactFewestAllEternal_F [.ro true (.ints .i64 aNet)] [] κ = L.FnExactFewestAllEternal_tree aNet (fun d => κ (.bool d) []) none := by
    kernel_rfl
  rw [hu]
  exact (L.FnExactFewestAllEternal_tree_nat (fun o => optC o (fun (r : Bool) => κ (.bool r) []) none) aNet (fun d => some d) none).symm
noncomputable def L.FnExactFewestAllEternal_s : D.Spec where
  keep := true
  pure := true
  ds := [.int .i64]
  sp := fun args h κ => match args, h with
    | [.ro true (.ints .i64 aNet)], [] => optC (L.FnExactFewestAllEternal_t aNet) (fun (r : Bool) => κ (.bool r) []) none
    | _, _ => none
theorem L.FnExactFewestAllEternal_ok : SpecOk Try.prog 8 L.FnExactFewestAllEternal_s := by
  refine SpecOk.of TDok mixed (T := L.FnExactFewestAllEternal_T) ?_ (ann := L.FnExactFewestAllEternal_ann) Try.func8 rfl (by decide +kernel) ?_ ?_ ?_
  · intro p hp
    simp only [L.FnExactFewestAllEternal_T, List.mem_cons, List.not_mem_nil, or_false] at hp
    rcases hp with rfl | rfl | rfl | rfl
    · exact L.toIntS_ok
    · exact S.FewestAllEternal_ok
    · exact I.FewestAllEternal_ok
    · exact L.eqIntS_ok
  · intro args h κ r hh
    simp only [L.FnExactFewestAllEternal_s] at hh
    split at hh
    · exact (L.FnExactFewestAllEternal_den _ κ).trans hh
    · cases hh
  · intro args h κ r hh
    simp only [L.FnExactFewestAllEternal_s] at hh ⊢
    split at hh
    · exact optC_law2 (F := fun (r : Bool) κ => κ (.bool r) []) (fun b κ r hb => ⟨_, _, hb, fun _ => rfl⟩) hh
    · cases hh
  · intro _ args h κ r hh
    simp only [L.FnExactFewestAllEternal_s] at hh
    split at hh
    · exact ⟨rfl, fun _ => rfl⟩
    · cases hh

-- loop.example/guardsonnets/spec.DrawAllAnswerOf
noncomputable def S.DrawAllAnswerOf_T : List (Nat × D.Spec) := [(36, S.l20Open_s), (49, S.l20Guarded_s), (38, S.l20Rd_pick_s)]
def S.DrawAllAnswerOf_ann : Nat → List Nat × List Nat
  | _ => ([], [])
noncomputable def S.DrawAllAnswerOf_F (args : List V) (h : List E) (κ : V → List E → R) : R := funC TD (tableK S.DrawAllAnswerOf_T) S.DrawAllAnswerOf_ann (drawOk (tableP S.DrawAllAnswerOf_T)) FUEL Try.f34 args h κ
noncomputable def S.DrawAllAnswerOf_tree {α : Type} (code : List Int) (leaf0_ : Int × Int × (List Int) → α) (fail_ : α) : α :=
  (optC (S.l20Open_t code) (fun c_1 => (optC (S.l20Guarded_t c_1.fst c_1.snd 12) (fun c_2 => (optC (S.l20Rd_pick_t c_2.snd.fst c_2.snd.snd.fst (if 1 > (↑c_2.snd.snd.snd.length : Int) then 1 else (↑c_2.snd.snd.snd.length : Int))) (fun c_3 => (optC (S.l20Rd_pick_t c_3.snd.fst c_3.snd.snd 40) (fun c_4 => (leaf0_ (c_2.fst, IntKind.i64.wrap (c_3.fst + IntKind.i64.wrap (IntKind.i64.wrap (c_4.fst.tdiv 39) * 6)), c_2.snd.snd.snd))) fail_)) fail_)) fail_)) fail_)
theorem S.DrawAllAnswerOf_tree_nat {α γ : Type} (g : α → γ) (code : List Int) (leaf0_ : Int × Int × (List Int) → α) (fail_ : α) : g (S.DrawAllAnswerOf_tree code leaf0_ fail_) = S.DrawAllAnswerOf_tree code (fun d => g (leaf0_ d)) (g fail_) := by
  unfold S.DrawAllAnswerOf_tree; simp only [apply_cnd g, apply_optC g, apply_sumC g]
noncomputable def S.DrawAllAnswerOf_t (code : List Int) : Option (Int × Int × (List Int)) := S.DrawAllAnswerOf_tree code (fun d => some d) none
theorem S.DrawAllAnswerOf_den (code : List Int) (κ : V → List E → R) : S.DrawAllAnswerOf_F [.ro true (.ints .u8 code)] [] κ = optC (S.DrawAllAnswerOf_t code) (fun (r : Int × Int × (List Int)) => κ (.tup [(.own 0), (.int .i64 r.1), (.int .i64 r.2.1)]) [.row (.ints .i64 r.2.2)]) none := by
  have hu : S.DrawAllAnswerOf_F [.ro true (.ints .u8 code)] [] κ = S.DrawAllAnswerOf_tree code (fun d => κ (.tup [(.own 0), (.int .i64 d.1), (.int .i64 d.2.1)]) [.row (.ints .i64 d.2.2)]) none := by
    kernel_rfl
  rw [hu]
  exact (S.DrawAllAnswerOf_tree_nat (fun o => optC o (fun (r : Int × Int × (List Int)) => κ (.tup [(.own 0), (.int .i64 r.1), (.int .i64 r.2.1)]) [.row (.ints .i64 r.2.2)]) none) code (fun d => some d) none).symm
noncomputable def S.DrawAllAnswerOf_s : D.Spec where
  keep := true
  pure := false
  ds := [.int .u8]
  sp := fun args h κ => match args, h with
    | [.ro true (.ints .u8 code)], [] => optC (S.DrawAllAnswerOf_t code) (fun (r : Int × Int × (List Int)) => κ (.tup [(.own 0), (.int .i64 r.1), (.int .i64 r.2.1)]) [.row (.ints .i64 r.2.2)]) none
    | _, _ => none
theorem S.DrawAllAnswerOf_ok : SpecOk Try.prog 34 S.DrawAllAnswerOf_s := by
  refine SpecOk.of TDok mixed (T := S.DrawAllAnswerOf_T) ?_ (ann := S.DrawAllAnswerOf_ann) Try.func34 rfl (by decide +kernel) ?_ ?_ ?_
  · intro p hp
    simp only [S.DrawAllAnswerOf_T, List.mem_cons, List.not_mem_nil, or_false] at hp
    rcases hp with rfl | rfl | rfl
    · exact S.l20Open_ok
    · exact S.l20Guarded_ok
    · exact S.l20Rd_pick_ok
  · intro args h κ r hh
    simp only [S.DrawAllAnswerOf_s] at hh
    split at hh
    · exact (S.DrawAllAnswerOf_den _ κ).trans hh
    · cases hh
  · intro args h κ r hh
    simp only [S.DrawAllAnswerOf_s] at hh ⊢
    split at hh
    · exact optC_law2 (F := fun (r : Int × Int × (List Int)) κ => κ (.tup [(.own 0), (.int .i64 r.1), (.int .i64 r.2.1)]) [.row (.ints .i64 r.2.2)]) (fun b κ r hb => ⟨_, _, hb, fun _ => rfl⟩) hh
    · cases hh
  · intro hh; cases hh

-- loop.example/guardsonnets/spec.AllAnswerOf
noncomputable def S.AllAnswerOf_T : List (Nat × D.Spec) := [(22, S.AllEternalOk_s), (67, S.l1In_s), (51, S.l10Lasts_s), (68, S.l10Answer_s)]
def S.AllAnswerOf_ann : Nat → List Nat × List Nat
  | _ => ([], [])
noncomputable def S.AllAnswerOf_F (args : List V) (h : List E) (κ : V → List E → R) : R := funC TD (tableK S.AllAnswerOf_T) S.AllAnswerOf_ann (drawOk (tableP S.AllAnswerOf_T)) FUEL Try.f35 args h κ
noncomputable def S.AllAnswerOf_tree {α : Type} (net : List Int) (set_ : Int) (place : Int) (leaf0_ : Int → α) (fail_ : α) : α :=
  (optC (S.AllEternalOk_t net set_) (fun c_1 => (bif !c_1 then (leaf0_ (-1)) else (optC (S.l1In_t place 0 (IntKind.i64.wrap ((↑net.length : Int) - 1))) (fun c_2 => (bif !c_2 then (leaf0_ (-1)) else (bif decide (place < 0) then fail_ else (bif (set_.fdiv (2 ^ min place.toNat IntKind.i64.bits)).tmod 2 == 1 then (leaf0_ (-1)) else (optC (S.l10Lasts_t net) (fun c_3 => (optC (S.l10Answer_t net c_3 set_ place) (fun c_4 => (leaf0_ c_4)) fail_)) fail_))))) fail_))) fail_)
theorem S.AllAnswerOf_tree_nat {α γ : Type} (g : α → γ) (net : List Int) (set_ : Int) (place : Int) (leaf0_ : Int → α) (fail_ : α) : g (S.AllAnswerOf_tree net set_ place leaf0_ fail_) = S.AllAnswerOf_tree net set_ place (fun d => g (leaf0_ d)) (g fail_) := by
  unfold S.AllAnswerOf_tree; simp only [apply_cnd g, apply_optC g, apply_sumC g]
noncomputable def S.AllAnswerOf_t (net : List Int) (set_ : Int) (place : Int) : Option (Int) := S.AllAnswerOf_tree net set_ place (fun d => some d) none
theorem S.AllAnswerOf_den (net : List Int) (set_ : Int) (place : Int) (κ : V → List E → R) : S.AllAnswerOf_F [.ro false (.ints .i64 net), .int .i64 set_, .int .i64 place] [] κ = optC (S.AllAnswerOf_t net set_ place) (fun (r : Int) => κ (.int .i64 r) []) none := by
  have hu : S.AllAnswerOf_F [.ro false (.ints .i64 net), .int .i64 set_, .int .i64 place] [] κ = S.AllAnswerOf_tree net set_ place (fun d => κ (.int .i64 d) []) none := by
    kernel_rfl
  rw [hu]
  exact (S.AllAnswerOf_tree_nat (fun o => optC o (fun (r : Int) => κ (.int .i64 r) []) none) net set_ place (fun d => some d) none).symm
noncomputable def S.AllAnswerOf_s : D.Spec where
  keep := false
  pure := true
  ds := [.int .i64, .invalid, .invalid]
  sp := fun args h κ => match args, h with
    | [.ro false (.ints .i64 net), .int .i64 set_, .int .i64 place], [] => optC (S.AllAnswerOf_t net set_ place) (fun (r : Int) => κ (.int .i64 r) []) none
    | _, _ => none
theorem S.AllAnswerOf_ok : SpecOk Try.prog 35 S.AllAnswerOf_s := by
  refine SpecOk.of TDok mixed (T := S.AllAnswerOf_T) ?_ (ann := S.AllAnswerOf_ann) Try.func35 rfl (by decide +kernel) ?_ ?_ ?_
  · intro p hp
    simp only [S.AllAnswerOf_T, List.mem_cons, List.not_mem_nil, or_false] at hp
    rcases hp with rfl | rfl | rfl | rfl
    · exact S.AllEternalOk_ok
    · exact S.l1In_ok
    · exact S.l10Lasts_ok
    · exact S.l10Answer_ok
  · intro args h κ r hh
    simp only [S.AllAnswerOf_s] at hh
    split at hh
    · exact (S.AllAnswerOf_den _ _ _ κ).trans hh
    · cases hh
  · intro args h κ r hh
    simp only [S.AllAnswerOf_s] at hh ⊢
    split at hh
    · exact optC_law2 (F := fun (r : Int) κ => κ (.int .i64 r) []) (fun b κ r hb => ⟨_, _, hb, fun _ => rfl⟩) hh
    · cases hh
  · intro _ args h κ r hh
    simp only [S.AllAnswerOf_s] at hh
    split at hh
    · exact ⟨rfl, fun _ => rfl⟩
    · cases hh

-- loop.example/guardsonnets/laws.FnAllAnswerOf
noncomputable def L.FnAllAnswerOf_T : List (Nat × D.Spec) := [(34, S.DrawAllAnswerOf_s), (24, I.AllAnswerOf_s), (35, S.AllAnswerOf_s), (15, L.alive_s), (12, I.AllMoveOk_s), (21, I.AllEternalOk_s)]
def L.FnAllAnswerOf_ann : Nat → List Nat × List Nat
  | _ => ([], [])
noncomputable def L.FnAllAnswerOf_F (args : List V) (h : List E) (κ : V → List E → R) : R := funC TD (tableK L.FnAllAnswerOf_T) L.FnAllAnswerOf_ann (drawOk (tableP L.FnAllAnswerOf_T)) FUEL Try.f9 args h κ
noncomputable def L.FnAllAnswerOf_tree {α : Type} (code : List Int) (leaf0_ : Bool → α) (fail_ : α) : α :=
  (bif decide ((↑code.length : Int) > 1048576) then (leaf0_ true) else (optC (S.DrawAllAnswerOf_t code) (fun c_1 => (optC (I.AllAnswerOf_t c_1.snd.snd c_1.fst c_1.snd.fst) (fun c_2 => (optC (S.AllAnswerOf_t c_1.snd.snd c_1.fst c_1.snd.fst) (fun c_3 => (bif !c_2 == c_3 then (leaf0_ false) else (bif decide (c_2 < 0) then (bif c_2 == -1 then (optC (L.alive_t) (fun c_4 => (leaf0_ c_4)) fail_) else (leaf0_ false)) else (bif decide (c_1.snd.fst < 0) then fail_ else (bif (c_2.fdiv (2 ^ min c_1.snd.fst.toNat IntKind.i64.bits)).tmod 2 == 1 then (optC (I.AllMoveOk_t c_1.snd.snd c_1.fst c_2) (fun c_5 => (bif c_5 then (optC (I.AllEternalOk_t c_1.snd.snd c_2) (fun c_6 => (leaf0_ c_6)) fail_) else (leaf0_ false))) fail_) else (leaf0_ false)))))) fail_)) fail_)) fail_))
theorem L.FnAllAnswerOf_tree_nat {α γ : Type} (g : α → γ) (code : List Int) (leaf0_ : Bool → α) (fail_ : α) : g (L.FnAllAnswerOf_tree code leaf0_ fail_) = L.FnAllAnswerOf_tree code (fun d => g (leaf0_ d)) (g fail_) := by
  unfold L.FnAllAnswerOf_tree; simp only [apply_cnd g, apply_optC g, apply_sumC g]
noncomputable def L.FnAllAnswerOf_t (code : List Int) : Option (Bool) := L.FnAllAnswerOf_tree code (fun d => some d) none
theorem L.FnAllAnswerOf_den (code : List Int) (κ : V → List E → R) : L.FnAllAnswerOf_F [.ro true (.ints .u8 code)] [] κ = optC (L.FnAllAnswerOf_t code) (fun (r : Bool) => κ (.bool r) []) none := by
  have hu : L.FnAllAnswerOf_F [.ro true (.ints .u8 code)] [] κ = L.FnAllAnswerOf_tree code (fun d => κ (.bool d) []) none := by
    kernel_rfl
  rw [hu]
  exact (L.FnAllAnswerOf_tree_nat (fun o => optC o (fun (r : Bool) => κ (.bool r) []) none) code (fun d => some d) none).symm
noncomputable def L.FnAllAnswerOf_s : D.Spec where
  keep := true
  pure := true
  ds := [.int .u8]
  sp := fun args h κ => match args, h with
    | [.ro true (.ints .u8 code)], [] => optC (L.FnAllAnswerOf_t code) (fun (r : Bool) => κ (.bool r) []) none
    | _, _ => none
theorem L.FnAllAnswerOf_ok : SpecOk Try.prog 9 L.FnAllAnswerOf_s := by
  refine SpecOk.of TDok mixed (T := L.FnAllAnswerOf_T) ?_ (ann := L.FnAllAnswerOf_ann) Try.func9 rfl (by decide +kernel) ?_ ?_ ?_
  · intro p hp
    simp only [L.FnAllAnswerOf_T, List.mem_cons, List.not_mem_nil, or_false] at hp
    rcases hp with rfl | rfl | rfl | rfl | rfl | rfl
    · exact S.DrawAllAnswerOf_ok
    · exact I.AllAnswerOf_ok
    · exact S.AllAnswerOf_ok
    · exact L.alive_ok
    · exact I.AllMoveOk_ok
    · exact I.AllEternalOk_ok
  · intro args h κ r hh
    simp only [L.FnAllAnswerOf_s] at hh
    split at hh
    · exact (L.FnAllAnswerOf_den _ κ).trans hh
    · cases hh
  · intro args h κ r hh
    simp only [L.FnAllAnswerOf_s] at hh ⊢
    split at hh
    · exact optC_law2 (F := fun (r : Bool) κ => κ (.bool r) []) (fun b κ r hb => ⟨_, _, hb, fun _ => rfl⟩) hh
    · cases hh
  · intro _ args h κ r hh
    simp only [L.FnAllAnswerOf_s] at hh
    split at hh
    · exact ⟨rfl, fun _ => rfl⟩
    · cases hh

-- loop.example/guardsonnets/laws.FnExactAllAnswerOf
noncomputable def L.FnExactAllAnswerOf_T : List (Nat × D.Spec) := [(18, L.toIntS_s), (35, S.AllAnswerOf_s), (24, I.AllAnswerOf_s), (19, L.eqIntS_s)]
def L.FnExactAllAnswerOf_ann : Nat → List Nat × List Nat
  | _ => ([], [])
noncomputable def L.FnExactAllAnswerOf_F (args : List V) (h : List E) (κ : V → List E → R) : R := funC TD (tableK L.FnExactAllAnswerOf_T) L.FnExactAllAnswerOf_ann (drawOk (tableP L.FnExactAllAnswerOf_T)) FUEL Try.f10 args h κ
noncomputable def L.FnExactAllAnswerOf_tree {α : Type} (aNet : List Int) (aSet : Int) (aPlace : Int) (leaf0_ : Bool → α) (fail_ : α) : α :=
  (bif decide ((↑aNet.length : Int) > 1048576) then (leaf0_ true) else (optC (L.toIntS_t aNet) (fun c_1 => (optC (S.AllAnswerOf_t c_1 aSet aPlace) (fun c_2 => (optC (L.toIntS_t aNet) (fun c_3 => (optC (I.AllAnswerOf_t c_3 aSet aPlace) (fun c_4 => (bif !c_4 == c_2 then (leaf0_ false) else (optC (L.toIntS_t aNet) (fun c_5 => (optC (L.eqIntS_t c_3 c_5) (fun c_6 => (bif !c_6 then (leaf0_ false) else (leaf0_ true))) fail_)) fail_))) fail_)) fail_)) fail_)) fail_))
theorem L.FnExactAllAnswerOf_tree_nat {α γ : Type} (g : α → γ) (aNet : List Int) (aSet : Int) (aPlace : Int) (leaf0_ : Bool → α) (fail_ : α) : g (L.FnExactAllAnswerOf_tree aNet aSet aPlace leaf0_ fail_) = L.FnExactAllAnswerOf_tree aNet aSet aPlace (fun d => g (leaf0_ d)) (g fail_) := by
  unfold L.FnExactAllAnswerOf_tree; simp only [apply_cnd g, apply_optC g, apply_sumC g]
noncomputable def L.FnExactAllAnswerOf_t (aNet : List Int) (aSet : Int) (aPlace : Int) : Option (Bool) := L.FnExactAllAnswerOf_tree aNet aSet aPlace (fun d => some d) none
theorem L.FnExactAllAnswerOf_den (aNet : List Int) (aSet : Int) (aPlace : Int) (κ : V → List E → R) : L.FnExactAllAnswerOf_F [.ro true (.ints .i64 aNet), .int .i64 aSet, .int .i64 aPlace] [] κ = optC (L.FnExactAllAnswerOf_t aNet aSet aPlace) (fun (r : Bool) => κ (.bool r) []) none := by
  have hu : L.FnExactAllAnswerOf_F [.ro true (.ints .i64 aNet), .int .i64 aSet, .int .i64 aPlace] [] κ = L.FnExactAllAnswerOf_tree aNet aSet aPlace (fun d => κ (.bool d) []) none := by
    kernel_rfl
  rw [hu]
  exact (L.FnExactAllAnswerOf_tree_nat (fun o => optC o (fun (r : Bool) => κ (.bool r) []) none) aNet aSet aPlace (fun d => some d) none).symm
noncomputable def L.FnExactAllAnswerOf_s : D.Spec where
  keep := true
  pure := true
  ds := [.int .i64, .invalid, .invalid]
  sp := fun args h κ => match args, h with
    | [.ro true (.ints .i64 aNet), .int .i64 aSet, .int .i64 aPlace], [] => optC (L.FnExactAllAnswerOf_t aNet aSet aPlace) (fun (r : Bool) => κ (.bool r) []) none
    | _, _ => none
theorem L.FnExactAllAnswerOf_ok : SpecOk Try.prog 10 L.FnExactAllAnswerOf_s := by
  refine SpecOk.of TDok mixed (T := L.FnExactAllAnswerOf_T) ?_ (ann := L.FnExactAllAnswerOf_ann) Try.func10 rfl (by decide +kernel) ?_ ?_ ?_
  · intro p hp
    simp only [L.FnExactAllAnswerOf_T, List.mem_cons, List.not_mem_nil, or_false] at hp
    rcases hp with rfl | rfl | rfl | rfl
    · exact L.toIntS_ok
    · exact S.AllAnswerOf_ok
    · exact I.AllAnswerOf_ok
    · exact L.eqIntS_ok
  · intro args h κ r hh
    simp only [L.FnExactAllAnswerOf_s] at hh
    split at hh
    · exact (L.FnExactAllAnswerOf_den _ _ _ κ).trans hh
    · cases hh
  · intro args h κ r hh
    simp only [L.FnExactAllAnswerOf_s] at hh ⊢
    split at hh
    · exact optC_law2 (F := fun (r : Bool) κ => κ (.bool r) []) (fun b κ r hb => ⟨_, _, hb, fun _ => rfl⟩) hh
    · cases hh
  · intro _ args h κ r hh
    simp only [L.FnExactAllAnswerOf_s] at hh
    split at hh
    · exact ⟨rfl, fun _ => rfl⟩
    · cases hh


end Go.Proofs.Ytgocpgkhbamkcaa
