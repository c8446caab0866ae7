/- Twins of the translated functions, with their proofs. Conditions: none. -/
import Derived.Test.YtonbbeplmjidnaaT1
set_option linter.unusedVariables false
set_option linter.unusedSimpArgs false
namespace Go.Proofs.Ytonbbeplmjidnaa
open D Go.RowKit
-- loop.example/guardsonnets/spec.DrawMostApart
noncomputable def S.DrawMostApart_T : List (Nat × D.Spec) := [(60, S.l20Open_s), (59, S.l20Net_s)]
def S.DrawMostApart_ann : Nat → List Nat × List Nat
  | _ => ([], [])
noncomputable def S.DrawMostApart_F (args : List V) (h : List E) (κ : V → List E → R) : R := funC TD (tableK S.DrawMostApart_T) S.DrawMostApart_ann (drawOk (tableP S.DrawMostApart_T)) FUEL Try.f28 args h κ
noncomputable def S.DrawMostApart_tree {α : Type} (code : List Int) (leaf0_ : List Int → α) (fail_ : α) : α :=
  (optC (S.l20Open_t code) (fun c_1 => (optC (S.l20Net_t c_1.fst c_1.snd 9) (fun c_2 => (leaf0_ c_2.snd.snd)) fail_)) fail_)
theorem S.DrawMostApart_tree_nat {α γ : Type} (g : α → γ) (code : List Int) (leaf0_ : List Int → α) (fail_ : α) : g (S.DrawMostApart_tree code leaf0_ fail_) = S.DrawMostApart_tree code (fun d => g (leaf0_ d)) (g fail_) := by
  unfold S.DrawMostApart_tree; simp only [apply_cnd g, apply_optC g, apply_sumC g]
noncomputable def S.DrawMostApart_t (code : List Int) : Option (List Int) := S.DrawMostApart_tree code (fun d => some d) none
theorem S.DrawMostApart_den (code : List Int) (κ : V → List E → R) : S.DrawMostApart_F [.ro true (.ints .u8 code)] [] κ = optC (S.DrawMostApart_t code) (fun (r : List Int) => κ (.own 0) [.row (.ints .i64 r)]) none := by
  have hu : S.DrawMostApart_F [.ro true (.ints .u8 code)] [] κ = S.DrawMostApart_tree code (fun d => κ (.own 0) [.row (.ints .i64 d)]) none := by
    kernel_rfl
  rw [hu]
  exact (S.DrawMostApart_tree_nat (fun o => optC o (fun (r : List Int) => κ (.own 0) [.row (.ints .i64 r)]) none) code (fun d => some d) none).symm
noncomputable def S.DrawMostApart_s : D.Spec where
  keep := true
  pure := false
  ds := [.int .u8]
  sp := fun args h κ => match args, h with
    | [.ro true (.ints .u8 code)], [] => optC (S.DrawMostApart_t code) (fun (r : List Int) => κ (.own 0) [.row (.ints .i64 r)]) none
    | _, _ => none
theorem S.DrawMostApart_ok : SpecOk Try.prog 28 S.DrawMostApart_s := by
  refine SpecOk.of TDok mixed (T := S.DrawMostApart_T) ?_ (ann := S.DrawMostApart_ann) Try.func28 rfl (by decide +kernel) ?_ ?_ ?_
  · intro p hp
    simp only [S.DrawMostApart_T, List.mem_cons, List.not_mem_nil, or_false] at hp
    rcases hp with rfl | rfl
    · exact S.l20Open_ok
    · exact S.l20Net_ok
  · intro args h κ r hh
    simp only [S.DrawMostApart_s] at hh
    split at hh
    · exact (S.DrawMostApart_den _ κ).trans hh
    · cases hh
  · intro args h κ r hh
    simp only [S.DrawMostApart_s] at hh ⊢
    split at hh
    · exact optC_law2 (F := fun (r : List Int) κ => κ (.own 0) [.row (.ints .i64 r)]) (fun b κ r hb => ⟨_, _, hb, fun _ => rfl⟩) hh
    · cases hh
  · intro hh; cases hh

-- loop.example/guardsonnets/spec.MostApart
noncomputable def S.MostApart_T : List (Nat × D.Spec) := [(58, S.NetOk_s), (71, S.l4Apart_s), (65, S.l1Size_s)]
def S.MostApart_ann : Nat → List Nat × List Nat
  | 5 => ([0, 3, 4], [3])
  | _ => ([], [])
noncomputable def S.MostApart_F (args : List V) (h : List E) (κ : V → List E → R) : R := funC TD (tableK S.MostApart_T) S.MostApart_ann (drawOk (tableP S.MostApart_T)) FUEL Try.f29 args h κ
noncomputable def S.MostApart_L5 (n : Nat) (σ : St) (k : X → St → R) : R := iterC 0 (fun σ k => denC TD (tableK S.MostApart_T) S.MostApart_ann (drawOk (tableP S.MostApart_T)) 0 FUEL ((findLoop 5 (Try.f29.body.getD .skip)).getD .skip) σ k) [0, 3, 4] [3] n σ k
noncomputable def S.MostApart_k5 (κ : V → List E → R) : X → St → R := (afterC TD (tableK S.MostApart_T) S.MostApart_ann (drawOk (tableP S.MostApart_T)) 0 FUEL 5 (Try.f29.body.getD .skip) (finC TD 0 Try.f29 κ)).getD (fun _ _ => none)
noncomputable def S.MostApart_step5 {α : Type} (x0 : List Int) (x3 : Int) (x4 : Int) (next_ : Int × Int → α) (out0_ : Int → α) (fail_ : α) : α :=
  (bif decide (x4 < IntKind.i64.wrap (1 * 2 ^ min (↑x0.length : Int).toNat IntKind.i64.bits)) then (optC (S.l4Apart_t x0 x4) (fun c_2 => (bif c_2 then (optC (S.l1Size_t x4) (fun c_3 => (next_ (if c_3 > x3 then c_3 else x3, IntKind.i64.wrap (x4 + 1)))) fail_) else (next_ (x3, IntKind.i64.wrap (x4 + 1))))) fail_) else (out0_ x3))
theorem S.MostApart_step5_nat {α γ : Type} (g : α → γ) (x0 : List Int) (x3 : Int) (x4 : Int) (next_ : Int × Int → α) (out0_ : Int → α) (fail_ : α) : g (S.MostApart_step5 x0 x3 x4 next_ out0_ fail_) = S.MostApart_step5 x0 x3 x4 (fun s => g (next_ s)) (fun d => g (out0_ d)) (g fail_) := by
  unfold S.MostApart_step5; simp only [apply_cnd g, apply_optC g, apply_sumC g]
noncomputable def S.MostApart_run5 (x0 : List Int) : Nat → Int × Int → Option (Int)
  | 0, _ => none
  | n + 1, s_ => S.MostApart_step5 x0 s_.1 s_.2 (S.MostApart_run5 x0 n) (fun d => some d) none
theorem S.MostApart_L5_run (x0 : List Int) (n : Nat) (s_ : Int × Int) (k : X → St → R) : S.MostApart_L5 n { n := 23, t := [(0, (.ro false (.ints .i64 x0))), (3, (.int .i64 s_.1)), (4, (.int .i64 s_.2))], h := [] } k = optC (S.MostApart_run5 x0 n s_) (fun (r : Int) => k (.exit 0) { n := 23, t := [(3, (.int .i64 r))], h := [] }) none := by
  induction n generalizing s_ with
  | zero => rfl
  | succ n ih =>
    have hu : S.MostApart_L5 (n + 1) { n := 23, t := [(0, (.ro false (.ints .i64 x0))), (3, (.int .i64 s_.1)), (4, (.int .i64 s_.2))], h := [] } k = S.MostApart_step5 x0 s_.1 s_.2 (fun s_ => S.MostApart_L5 n { n := 23, t := [(0, (.ro false (.ints .i64 x0))), (3, (.int .i64 s_.1)), (4, (.int .i64 s_.2))], h := [] } k) (fun d => k (.exit 0) { n := 23, t := [(3, (.int .i64 d))], h := [] }) none := by
      kernel_rfl
    have hs : (fun s_ : Int × Int => S.MostApart_L5 n { n := 23, t := [(0, (.ro false (.ints .i64 x0))), (3, (.int .i64 s_.1)), (4, (.int .i64 s_.2))], h := [] } k) = fun s_ => optC (S.MostApart_run5 x0 n s_) (fun (r : Int) => k (.exit 0) { n := 23, t := [(3, (.int .i64 r))], h := [] }) none := funext ih
    rw [hu, hs]
    exact (S.MostApart_step5_nat (fun o => optC o (fun (r : Int) => k (.exit 0) { n := 23, t := [(3, (.int .i64 r))], h := [] }) none) x0 s_.1 s_.2 (S.MostApart_run5 x0 n) (fun d => some d) none).symm
noncomputable def S.MostApart_tree {α : Type} (net : List Int) (leaf0_ : Int → α) (fail_ : α) : α :=
  (optC (S.NetOk_t net) (fun c_1 => (bif !c_1 then (leaf0_ (-1)) else (optC (S.MostApart_run5 net FUEL (0, 0)) (fun qy_4 => (leaf0_ qy_4)) fail_))) fail_)
theorem S.MostApart_tree_nat {α γ : Type} (g : α → γ) (net : List Int) (leaf0_ : Int → α) (fail_ : α) : g (S.MostApart_tree net leaf0_ fail_) = S.MostApart_tree net (fun d => g (leaf0_ d)) (g fail_) := by
  unfold S.MostApart_tree; simp only [apply_cnd g, apply_optC g, apply_sumC g]
noncomputable def S.MostApart_t (net : List Int) : Option (Int) := S.MostApart_tree net (fun d => some d) none
theorem S.MostApart_den (net : List Int) (κ : V → List E → R) : S.MostApart_F [.ro false (.ints .i64 net)] [] κ = optC (S.MostApart_t net) (fun (r : Int) => κ (.int .i64 r) []) none := by
  have hu : S.MostApart_F [.ro false (.ints .i64 net)] [] κ = S.MostApart_tree net (fun d => κ (.int .i64 d) []) none := by
    refine Eq.trans (show S.MostApart_F [.ro false (.ints .i64 net)] [] κ = (optC (S.NetOk_t net) (fun c_1 => (bif !c_1 then (κ (.int .i64 (-1)) []) else (S.MostApart_L5 FUEL { n := 23, t := [(0, (.ro false (.ints .i64 net))), (3, (.int .i64 0)), (4, (.int .i64 0))], h := [] } (S.MostApart_k5 κ)))) none) by kernel_rfl) ?_
    refine optC_congr (fun c_1 => ?_)
    refine cnd_congr ?_ ?_
    · kernel_rfl
    · refine (S.MostApart_L5_run net FUEL (0, 0) (S.MostApart_k5 κ)).trans (optC_congr (fun qy_4 => ?_))
      kernel_rfl
  rw [hu]
  exact (S.MostApart_tree_nat (fun o => optC o (fun (r : Int) => κ (.int .i64 r) []) none) net (fun d => some d) none).symm
noncomputable def S.MostApart_s : D.Spec where
  keep := false
  pure := true
  ds := [.int .i64]
  sp := fun args h κ => match args, h with
    | [.ro false (.ints .i64 net)], [] => optC (S.MostApart_t net) (fun (r : Int) => κ (.int .i64 r) []) none
    | _, _ => none
theorem S.MostApart_ok : SpecOk Try.prog 29 S.MostApart_s := by
  refine SpecOk.of TDok mixed (T := S.MostApart_T) ?_ (ann := S.MostApart_ann) Try.func29 rfl (by decide +kernel) ?_ ?_ ?_
  · intro p hp
    simp only [S.MostApart_T, List.mem_cons, List.not_mem_nil, or_false] at hp
    rcases hp with rfl | rfl | rfl
    · exact S.NetOk_ok
    · exact S.l4Apart_ok
    · exact S.l1Size_ok
  · intro args h κ r hh
    simp only [S.MostApart_s] at hh
    split at hh
    · exact (S.MostApart_den _ κ).trans hh
    · cases hh
  · intro args h κ r hh
    simp only [S.MostApart_s] at hh ⊢
    split at hh
    · exact optC_law2 (F := fun (r : Int) κ => κ (.int .i64 r) []) (fun b κ r hb => ⟨_, _, hb, fun _ => rfl⟩) hh
    · cases hh
  · intro _ args h κ r hh
    simp only [S.MostApart_s] at hh
    split at hh
    · exact ⟨rfl, fun _ => rfl⟩
    · cases hh

-- loop.example/guardsonnets/laws.sizeOf
noncomputable def L.sizeOf_T : List (Nat × D.Spec) := []
def L.sizeOf_ann : Nat → List Nat × List Nat
  | 2 => ([0, 3], [3])
  | _ => ([], [])
noncomputable def L.sizeOf_F (args : List V) (h : List E) (κ : V → List E → R) : R := funC TD (tableK L.sizeOf_T) L.sizeOf_ann (drawOk (tableP L.sizeOf_T)) FUEL Try.f30 args h κ
noncomputable def L.sizeOf_L2 (n : Nat) (σ : St) (k : X → St → R) : R := iterC 0 (fun σ k => denC TD (tableK L.sizeOf_T) L.sizeOf_ann (drawOk (tableP L.sizeOf_T)) 0 FUEL ((findLoop 2 (Try.f30.body.getD .skip)).getD .skip) σ k) [0, 3] [3] n σ k
noncomputable def L.sizeOf_k2 (κ : V → List E → R) : X → St → R := (afterC TD (tableK L.sizeOf_T) L.sizeOf_ann (drawOk (tableP L.sizeOf_T)) 0 FUEL 2 (Try.f30.body.getD .skip) (finC TD 0 Try.f30 κ)).getD (fun _ _ => none)
noncomputable def L.sizeOf_step2 {α : Type} (x0 : Int) (x3 : Int) (next_ : Int × Int → α) (out0_ : Int → α) (fail_ : α) : α :=
  (bif decide (x0 > 0) then (next_ (IntKind.i64.wrap (x0.tdiv 2), IntKind.i64.wrap (x3 + x0.tmod 2))) else (out0_ x3))
theorem L.sizeOf_step2_nat {α γ : Type} (g : α → γ) (x0 : Int) (x3 : Int) (next_ : Int × Int → α) (out0_ : Int → α) (fail_ : α) : g (L.sizeOf_step2 x0 x3 next_ out0_ fail_) = L.sizeOf_step2 x0 x3 (fun s => g (next_ s)) (fun d => g (out0_ d)) (g fail_) := by
  unfold L.sizeOf_step2; simp only [apply_cnd g, apply_optC g, apply_sumC g]
noncomputable def L.sizeOf_run2 : Nat → Int × Int → Option (Int)
  | 0, _ => none
  | n + 1, s_ => L.sizeOf_step2 s_.1 s_.2 (L.sizeOf_run2 n) (fun d => some d) none
theorem L.sizeOf_L2_run (n : Nat) (s_ : Int × Int) (k : X → St → R) : L.sizeOf_L2 n { n := 13, t := [(0, (.int .i64 s_.1)), (3, (.int .i64 s_.2))], h := [] } k = optC (L.sizeOf_run2 n s_) (fun (r : Int) => k (.exit 0) { n := 13, t := [(3, (.int .i64 r))], h := [] }) none := by
  induction n generalizing s_ with
  | zero => rfl
  | succ n ih =>
    have hu : L.sizeOf_L2 (n + 1) { n := 13, t := [(0, (.int .i64 s_.1)), (3, (.int .i64 s_.2))], h := [] } k = L.sizeOf_step2 s_.1 s_.2 (fun s_ => L.sizeOf_L2 n { n := 13, t := [(0, (.int .i64 s_.1)), (3, (.int .i64 s_.2))], h := [] } k) (fun d => k (.exit 0) { n := 13, t := [(3, (.int .i64 d))], h := [] }) none := by
      kernel_rfl
    have hs : (fun s_ : Int × Int => L.sizeOf_L2 n { n := 13, t := [(0, (.int .i64 s_.1)), (3, (.int .i64 s_.2))], h := [] } k) = fun s_ => optC (L.sizeOf_run2 n s_) (fun (r : Int) => k (.exit 0) { n := 13, t := [(3, (.int .i64 r))], h := [] }) none := funext ih
    rw [hu, hs]
    exact (L.sizeOf_step2_nat (fun o => optC o (fun (r : Int) => k (.exit 0) { n := 13, t := [(3, (.int .i64 r))], h := [] }) none) s_.1 s_.2 (L.sizeOf_run2 n) (fun d => some d) none).symm
noncomputable def L.sizeOf_tree {α : Type} (n_ : Int) (leaf0_ : Int → α) (fail_ : α) : α :=
  (optC (L.sizeOf_run2 FUEL (n_, 0)) (fun qy_1 => (leaf0_ qy_1)) fail_)
theorem L.sizeOf_tree_nat {α γ : Type} (g : α → γ) (n_ : Int) (leaf0_ : Int → α) (fail_ : α) : g (L.sizeOf_tree n_ leaf0_ fail_) = L.sizeOf_tree n_ (fun d => g (leaf0_ d)) (g fail_) := by
  unfold L.sizeOf_tree; simp only [apply_cnd g, apply_optC g, apply_sumC g]
noncomputable def L.sizeOf_t (n_ : Int) : Option (Int) := L.sizeOf_tree n_ (fun d => some d) none
theorem L.sizeOf_den (n_ : Int) (κ : V → List E → R) : L.sizeOf_F [.int .i64 n_] [] κ = optC (L.sizeOf_t n_) (fun (r : Int) => κ (.int .i64 r) []) none := by
  have hu : L.sizeOf_F [.int .i64 n_] [] κ = L.sizeOf_tree n_ (fun d => κ (.int .i64 d) []) none := by
    refine Eq.trans (show L.sizeOf_F [.int .i64 n_] [] κ = (L.sizeOf_L2 FUEL { n := 13, t := [(0, (.int .i64 n_)), (3, (.int .i64 0))], h := [] } (L.sizeOf_k2 κ)) by kernel_rfl) ?_
    refine (L.sizeOf_L2_run FUEL (n_, 0) (L.sizeOf_k2 κ)).trans (optC_congr (fun qy_1 => ?_))
    kernel_rfl
  rw [hu]
  exact (L.sizeOf_tree_nat (fun o => optC o (fun (r : Int) => κ (.int .i64 r) []) none) n_ (fun d => some d) none).symm
noncomputable def L.sizeOf_s : D.Spec where
  keep := false
  pure := true
  ds := [.invalid]
  sp := fun args h κ => match args, h with
    | [.int .i64 n_], [] => optC (L.sizeOf_t n_) (fun (r : Int) => κ (.int .i64 r) []) none
    | _, _ => none
theorem L.sizeOf_ok : SpecOk Try.prog 30 L.sizeOf_s := by
  refine SpecOk.of TDok mixed (T := L.sizeOf_T) ?_ (ann := L.sizeOf_ann) Try.func30 rfl (by decide +kernel) ?_ ?_ ?_
  · intro p hp; cases hp
  · intro args h κ r hh
    simp only [L.sizeOf_s] at hh
    split at hh
    · exact (L.sizeOf_den _ κ).trans hh
    · cases hh
  · intro args h κ r hh
    simp only [L.sizeOf_s] at hh ⊢
    split at hh
    · exact optC_law2 (F := fun (r : Int) κ => κ (.int .i64 r) []) (fun b κ r hb => ⟨_, _, hb, fun _ => rfl⟩) hh
    · cases hh
  · intro _ args h κ r hh
    simp only [L.sizeOf_s] at hh
    split at hh
    · exact ⟨rfl, fun _ => rfl⟩
    · cases hh

-- loop.example/guardsonnets/impl.ApartOk
noncomputable def I.ApartOk_T : List (Nat × D.Spec) := [(22, I.NetOk_s), (66, I.setIn_s), (70, I.apartIn_s)]
def I.ApartOk_ann : Nat → List Nat × List Nat
  | _ => ([], [])
noncomputable def I.ApartOk_F (args : List V) (h : List E) (κ : V → List E → R) : R := funC TD (tableK I.ApartOk_T) I.ApartOk_ann (drawOk (tableP I.ApartOk_T)) FUEL Try.f31 args h κ
noncomputable def I.ApartOk_tree {α : Type} (net : List Int) (set_ : Int) (leaf0_ : Bool → α) (fail_ : α) : α :=
  (optC (I.NetOk_t net) (fun c_1 => (bif c_1 then (optC (I.setIn_t net set_) (fun c_2 => (bif c_2 then (optC (I.apartIn_t net set_) (fun c_3 => (leaf0_ c_3)) fail_) else (leaf0_ false))) fail_) else (leaf0_ false))) fail_)
theorem I.ApartOk_tree_nat {α γ : Type} (g : α → γ) (net : List Int) (set_ : Int) (leaf0_ : Bool → α) (fail_ : α) : g (I.ApartOk_tree net set_ leaf0_ fail_) = I.ApartOk_tree net set_ (fun d => g (leaf0_ d)) (g fail_) := by
  unfold I.ApartOk_tree; simp only [apply_cnd g, apply_optC g, apply_sumC g]
noncomputable def I.ApartOk_t (net : List Int) (set_ : Int) : Option (Bool) := I.ApartOk_tree net set_ (fun d => some d) none
theorem I.ApartOk_den (net : List Int) (set_ : Int) (κ : V → List E → R) : I.ApartOk_F [.ro false (.ints .i64 net), .int .i64 set_] [] κ = optC (I.ApartOk_t net set_) (fun (r : Bool) => κ (.bool r) []) none := by
  have hu : I.ApartOk_F [.ro false (.ints .i64 net), .int .i64 set_] [] κ = I.ApartOk_tree net set_ (fun d => κ (.bool d) []) none := by
    kernel_rfl
  rw [hu]
  exact (I.ApartOk_tree_nat (fun o => optC o (fun (r : Bool) => κ (.bool r) []) none) net set_ (fun d => some d) none).symm
noncomputable def I.ApartOk_s : D.Spec where
  keep := false
  pure := true
  ds := [.int .i64, .invalid]
  sp := fun args h κ => match args, h with
    | [.ro false (.ints .i64 net), .int .i64 set_], [] => optC (I.ApartOk_t net set_) (fun (r : Bool) => κ (.bool r) []) none
    | _, _ => none
theorem I.ApartOk_ok : SpecOk Try.prog 31 I.ApartOk_s := by
  refine SpecOk.of TDok mixed (T := I.ApartOk_T) ?_ (ann := I.ApartOk_ann) Try.func31 rfl (by decide +kernel) ?_ ?_ ?_
  · intro p hp
    simp only [I.ApartOk_T, List.mem_cons, List.not_mem_nil, or_false] at hp
    rcases hp with rfl | rfl | rfl
    · exact I.NetOk_ok
    · exact I.setIn_ok
    · exact I.apartIn_ok
  · intro args h κ r hh
    simp only [I.ApartOk_s] at hh
    split at hh
    · exact (I.ApartOk_den _ _ κ).trans hh
    · cases hh
  · intro args h κ r hh
    simp only [I.ApartOk_s] at hh ⊢
    split at hh
    · exact optC_law2 (F := fun (r : Bool) κ => κ (.bool r) []) (fun b κ r hb => ⟨_, _, hb, fun _ => rfl⟩) hh
    · cases hh
  · intro _ args h κ r hh
    simp only [I.ApartOk_s] at hh
    split at hh
    · exact ⟨rfl, fun _ => rfl⟩
    · cases hh

-- loop.example/guardsonnets/impl.FullApartOk
noncomputable def I.FullApartOk_T : List (Nat × D.Spec) := [(22, I.NetOk_s), (66, I.setIn_s), (63, I.fullApartIn_s)]
def I.FullApartOk_ann : Nat → List Nat × List Nat
  | _ => ([], [])
noncomputable def I.FullApartOk_F (args : List V) (h : List E) (κ : V → List E → R) : R := funC TD (tableK I.FullApartOk_T) I.FullApartOk_ann (drawOk (tableP I.FullApartOk_T)) FUEL Try.f32 args h κ
noncomputable def I.FullApartOk_tree {α : Type} (net : List Int) (set_ : Int) (leaf0_ : Bool → α) (fail_ : α) : α :=
  (optC (I.NetOk_t net) (fun c_1 => (bif c_1 then (optC (I.setIn_t net set_) (fun c_2 => (bif c_2 then (optC (I.fullApartIn_t net set_) (fun c_3 => (leaf0_ c_3)) fail_) else (leaf0_ false))) fail_) else (leaf0_ false))) fail_)
theorem I.FullApartOk_tree_nat {α γ : Type} (g : α → γ) (net : List Int) (set_ : Int) (leaf0_ : Bool → α) (fail_ : α) : g (I.FullApartOk_tree net set_ leaf0_ fail_) = I.FullApartOk_tree net set_ (fun d => g (leaf0_ d)) (g fail_) := by
  unfold I.FullApartOk_tree; simp only [apply_cnd g, apply_optC g, apply_sumC g]
noncomputable def I.FullApartOk_t (net : List Int) (set_ : Int) : Option (Bool) := I.FullApartOk_tree net set_ (fun d => some d) none
theorem I.FullApartOk_den (net : List Int) (set_ : Int) (κ : V → List E → R) : I.FullApartOk_F [.ro false (.ints .i64 net), .int .i64 set_] [] κ = optC (I.FullApartOk_t net set_) (fun (r : Bool) => κ (.bool r) []) none := by
  have hu : I.FullApartOk_F [.ro false (.ints .i64 net), .int .i64 set_] [] κ = I.FullApartOk_tree net set_ (fun d => κ (.bool d) []) none := by
    kernel_rfl
  rw [hu]
  exact (I.FullApartOk_tree_nat (fun o => optC o (fun (r : Bool) => κ (.bool r) []) none) net set_ (fun d => some d) none).symm
noncomputable def I.FullApartOk_s : D.Spec where
  keep := false
  pure := true
  ds := [.int .i64, .invalid]
  sp := fun args h κ => match args, h with
    | [.ro false (.ints .i64 net), .int .i64 set_], [] => optC (I.FullApartOk_t net set_) (fun (r : Bool) => κ (.bool r) []) none
    | _, _ => none
theorem I.FullApartOk_ok : SpecOk Try.prog 32 I.FullApartOk_s := by
  refine SpecOk.of TDok mixed (T := I.FullApartOk_T) ?_ (ann := I.FullApartOk_ann) Try.func32 rfl (by decide +kernel) ?_ ?_ ?_
  · intro p hp
    simp only [I.FullApartOk_T, List.mem_cons, List.not_mem_nil, or_false] at hp
    rcases hp with rfl | rfl | rfl
    · exact I.NetOk_ok
    · exact I.setIn_ok
    · exact I.fullApartIn_ok
  · intro args h κ r hh
    simp only [I.FullApartOk_s] at hh
    split at hh
    · exact (I.FullApartOk_den _ _ κ).trans hh
    · cases hh
  · intro args h κ r hh
    simp only [I.FullApartOk_s] at hh ⊢
    split at hh
    · exact optC_law2 (F := fun (r : Bool) κ => κ (.bool r) []) (fun b κ r hb => ⟨_, _, hb, fun _ => rfl⟩) hh
    · cases hh
  · intro _ args h κ r hh
    simp only [I.FullApartOk_s] at hh
    split at hh
    · exact ⟨rfl, fun _ => rfl⟩
    · cases hh

-- loop.example/guardsonnets/impl.partIn
noncomputable def I.partIn_T : List (Nat × D.Spec) := [(88, I.seenIn_s)]
def I.partIn_ann : Nat → List Nat × List Nat
  | 3 => ([0, 5, 6], [5])
  | _ => ([], [])
noncomputable def I.partIn_F (args : List V) (h : List E) (κ : V → List E → R) : R := funC TD (tableK I.partIn_T) I.partIn_ann (drawOk (tableP I.partIn_T)) FUEL Try.f72 args h κ
noncomputable def I.partIn_L3 (n : Nat) (σ : St) (k : X → St → R) : R := iterC 0 (fun σ k => denC TD (tableK I.partIn_T) I.partIn_ann (drawOk (tableP I.partIn_T)) 0 FUEL ((findLoop 3 (Try.f72.body.getD .skip)).getD .skip) σ k) [0, 5, 6] [5] n σ k
noncomputable def I.partIn_k3 (κ : V → List E → R) : X → St → R := (afterC TD (tableK I.partIn_T) I.partIn_ann (drawOk (tableP I.partIn_T)) 0 FUEL 3 (Try.f72.body.getD .skip) (finC TD 0 Try.f72 κ)).getD (fun _ _ => none)
noncomputable def I.partIn_step3 {α : Type} (x0 : List Int) (x5 : Int) (x6 : Int) (next_ : Int × Int → α) (out0_ : Int → α) (fail_ : α) : α :=
  (bif decide (x6 < (↑x0.length : Int)) then (optC (I.seenIn_t x0 x5) (fun c_1 => (next_ (c_1, IntKind.i64.wrap (x6 + 1)))) fail_) else (out0_ x5))
theorem I.partIn_step3_nat {α γ : Type} (g : α → γ) (x0 : List Int) (x5 : Int) (x6 : Int) (next_ : Int × Int → α) (out0_ : Int → α) (fail_ : α) : g (I.partIn_step3 x0 x5 x6 next_ out0_ fail_) = I.partIn_step3 x0 x5 x6 (fun s => g (next_ s)) (fun d => g (out0_ d)) (g fail_) := by
  unfold I.partIn_step3; simp only [apply_cnd g, apply_optC g, apply_sumC g]
noncomputable def I.partIn_run3 (x0 : List Int) : Nat → Int × Int → Option (Int)
  | 0, _ => none
  | n + 1, s_ => I.partIn_step3 x0 s_.1 s_.2 (I.partIn_run3 x0 n) (fun d => some d) none
theorem I.partIn_L3_run (x0 : List Int) (n : Nat) (s_ : Int × Int) (k : X → St → R) : I.partIn_L3 n { n := 19, t := [(0, (.ro false (.ints .i64 x0))), (5, (.int .i64 s_.1)), (6, (.int .i64 s_.2))], h := [] } k = optC (I.partIn_run3 x0 n s_) (fun (r : Int) => k (.exit 0) { n := 19, t := [(5, (.int .i64 r))], h := [] }) none := by
  induction n generalizing s_ with
  | zero => rfl
  | succ n ih =>
    have hu : I.partIn_L3 (n + 1) { n := 19, t := [(0, (.ro false (.ints .i64 x0))), (5, (.int .i64 s_.1)), (6, (.int .i64 s_.2))], h := [] } k = I.partIn_step3 x0 s_.1 s_.2 (fun s_ => I.partIn_L3 n { n := 19, t := [(0, (.ro false (.ints .i64 x0))), (5, (.int .i64 s_.1)), (6, (.int .i64 s_.2))], h := [] } k) (fun d => k (.exit 0) { n := 19, t := [(5, (.int .i64 d))], h := [] }) none := by
      kernel_rfl
    have hs : (fun s_ : Int × Int => I.partIn_L3 n { n := 19, t := [(0, (.ro false (.ints .i64 x0))), (5, (.int .i64 s_.1)), (6, (.int .i64 s_.2))], h := [] } k) = fun s_ => optC (I.partIn_run3 x0 n s_) (fun (r : Int) => k (.exit 0) { n := 19, t := [(5, (.int .i64 r))], h := [] }) none := funext ih
    rw [hu, hs]
    exact (I.partIn_step3_nat (fun o => optC o (fun (r : Int) => k (.exit 0) { n := 19, t := [(5, (.int .i64 r))], h := [] }) none) x0 s_.1 s_.2 (I.partIn_run3 x0 n) (fun d => some d) none).symm
noncomputable def I.partIn_tree {α : Type} (net : List Int) (place : Int) (leaf0_ : Int → α) (fail_ : α) : α :=
  (bif decide (place < 0) then fail_ else (optC (I.partIn_run3 net FUEL (IntKind.i64.wrap (1 * 2 ^ min place.toNat IntKind.i64.bits), 1)) (fun qy_2 => (leaf0_ qy_2)) fail_))
theorem I.partIn_tree_nat {α γ : Type} (g : α → γ) (net : List Int) (place : Int) (leaf0_ : Int → α) (fail_ : α) : g (I.partIn_tree net place leaf0_ fail_) = I.partIn_tree net place (fun d => g (leaf0_ d)) (g fail_) := by
  unfold I.partIn_tree; simp only [apply_cnd g, apply_optC g, apply_sumC g]
noncomputable def I.partIn_t (net : List Int) (place : Int) : Option (Int) := I.partIn_tree net place (fun d => some d) none
theorem I.partIn_den (net : List Int) (place : Int) (κ : V → List E → R) : I.partIn_F [.ro false (.ints .i64 net), .int .i64 place] [] κ = optC (I.partIn_t net place) (fun (r : Int) => κ (.int .i64 r) []) none := by
  have hu : I.partIn_F [.ro false (.ints .i64 net), .int .i64 place] [] κ = I.partIn_tree net place (fun d => κ (.int .i64 d) []) none := by
    refine Eq.trans (show I.partIn_F [.ro false (.ints .i64 net), .int .i64 place] [] κ = (bif decide (place < 0) then none else (I.partIn_L3 FUEL { n := 19, t := [(0, (.ro false (.ints .i64 net))), (5, (.int .i64 (IntKind.i64.wrap (1 * 2 ^ min place.toNat IntKind.i64.bits)))), (6, (.int .i64 1))], h := [] } (I.partIn_k3 κ))) by kernel_rfl) ?_
    refine cnd_congr ?_ ?_
    · kernel_rfl
    · refine (I.partIn_L3_run net FUEL (IntKind.i64.wrap (1 * 2 ^ min place.toNat IntKind.i64.bits), 1) (I.partIn_k3 κ)).trans (optC_congr (fun qy_2 => ?_))
      kernel_rfl
  rw [hu]
  exact (I.partIn_tree_nat (fun o => optC o (fun (r : Int) => κ (.int .i64 r) []) none) net place (fun d => some d) none).symm
noncomputable def I.partIn_s : D.Spec where
  keep := false
  pure := true
  ds := [.int .i64, .invalid]
  sp := fun args h κ => match args, h with
    | [.ro false (.ints .i64 net), .int .i64 place], [] => optC (I.partIn_t net place) (fun (r : Int) => κ (.int .i64 r) []) none
    | _, _ => none
theorem I.partIn_ok : SpecOk Try.prog 72 I.partIn_s := by
  refine SpecOk.of TDok mixed (T := I.partIn_T) ?_ (ann := I.partIn_ann) Try.func72 rfl (by decide +kernel) ?_ ?_ ?_
  · intro p hp
    simp only [I.partIn_T, List.mem_cons, List.not_mem_nil, or_false] at hp
    rcases hp with rfl
    · exact I.seenIn_ok
  · intro args h κ r hh
    simp only [I.partIn_s] at hh
    split at hh
    · exact (I.partIn_den _ _ κ).trans hh
    · cases hh
  · intro args h κ r hh
    simp only [I.partIn_s] at hh ⊢
    split at hh
    · exact optC_law2 (F := fun (r : Int) κ => κ (.int .i64 r) []) (fun b κ r hb => ⟨_, _, hb, fun _ => rfl⟩) hh
    · cases hh
  · intro _ args h κ r hh
    simp only [I.partIn_s] at hh
    split at hh
    · exact ⟨rfl, fun _ => rfl⟩
    · cases hh

-- loop.example/guardsonnets/impl.PartMany
noncomputable def I.PartMany_T : List (Nat × D.Spec) := [(22, I.NetOk_s), (67, I.hasPlace_s), (72, I.partIn_s)]
def I.PartMany_ann : Nat → List Nat × List Nat
  | 6 => ([0, 3, 4, 5], [3])
  | _ => ([], [])
noncomputable def I.PartMany_F (args : List V) (h : List E) (κ : V → List E → R) : R := funC TD (tableK I.PartMany_T) I.PartMany_ann (drawOk (tableP I.PartMany_T)) FUEL Try.f33 args h κ
noncomputable def I.PartMany_L6 (n : Nat) (σ : St) (k : X → St → R) : R := iterC 0 (fun σ k => denC TD (tableK I.PartMany_T) I.PartMany_ann (drawOk (tableP I.PartMany_T)) 0 FUEL ((findLoop 6 (Try.f33.body.getD .skip)).getD .skip) σ k) [0, 3, 4, 5] [3] n σ k
noncomputable def I.PartMany_k6 (κ : V → List E → R) : X → St → R := (afterC TD (tableK I.PartMany_T) I.PartMany_ann (drawOk (tableP I.PartMany_T)) 0 FUEL 6 (Try.f33.body.getD .skip) (finC TD 0 Try.f33 κ)).getD (fun _ _ => none)
noncomputable def I.PartMany_step6 {α : Type} (x0 : List Int) (x3 : Int) (x4 : Int) (x5 : Int) (next_ : Int × Int × Int → α) (out0_ : Int → α) (fail_ : α) : α :=
  (bif decide (x5 < (↑x0.length : Int)) then (optC (I.hasPlace_t x4 x5) (fun c_2 => (bif !c_2 then (optC (I.partIn_t x0 x5) (fun c_3 => (next_ (IntKind.i64.wrap (x3 + 1), bits BinOp.or IntKind.i64 x4 c_3, IntKind.i64.wrap (x5 + 1)))) fail_) else (next_ (x3, x4, IntKind.i64.wrap (x5 + 1))))) fail_) else (out0_ x3))
theorem I.PartMany_step6_nat {α γ : Type} (g : α → γ) (x0 : List Int) (x3 : Int) (x4 : Int) (x5 : Int) (next_ : Int × Int × Int → α) (out0_ : Int → α) (fail_ : α) : g (I.PartMany_step6 x0 x3 x4 x5 next_ out0_ fail_) = I.PartMany_step6 x0 x3 x4 x5 (fun s => g (next_ s)) (fun d => g (out0_ d)) (g fail_) := by
  unfold I.PartMany_step6; simp only [apply_cnd g, apply_optC g, apply_sumC g]
noncomputable def I.PartMany_run6 (x0 : List Int) : Nat → Int × Int × Int → Option (Int)
  | 0, _ => none
  | n + 1, s_ => I.PartMany_step6 x0 s_.1 s_.2.1 s_.2.2 (I.PartMany_run6 x0 n) (fun d => some d) none
theorem I.PartMany_L6_run (x0 : List Int) (n : Nat) (s_ : Int × Int × Int) (k : X → St → R) : I.PartMany_L6 n { n := 27, t := [(0, (.ro false (.ints .i64 x0))), (3, (.int .i64 s_.1)), (4, (.int .i64 s_.2.1)), (5, (.int .i64 s_.2.2))], h := [] } k = optC (I.PartMany_run6 x0 n s_) (fun (r : Int) => k (.exit 0) { n := 27, t := [(3, (.int .i64 r))], h := [] }) none := by
  induction n generalizing s_ with
  | zero => rfl
  | succ n ih =>
    have hu : I.PartMany_L6 (n + 1) { n := 27, t := [(0, (.ro false (.ints .i64 x0))), (3, (.int .i64 s_.1)), (4, (.int .i64 s_.2.1)), (5, (.int .i64 s_.2.2))], h := [] } k = I.PartMany_step6 x0 s_.1 s_.2.1 s_.2.2 (fun s_ => I.PartMany_L6 n { n := 27, t := [(0, (.ro false (.ints .i64 x0))), (3, (.int .i64 s_.1)), (4, (.int .i64 s_.2.1)), (5, (.int .i64 s_.2.2))], h := [] } k) (fun d => k (.exit 0) { n := 27, t := [(3, (.int .i64 d))], h := [] }) none := by
      kernel_rfl
    have hs : (fun s_ : Int × Int × Int => I.PartMany_L6 n { n := 27, t := [(0, (.ro false (.ints .i64 x0))), (3, (.int .i64 s_.1)), (4, (.int .i64 s_.2.1)), (5, (.int .i64 s_.2.2))], h := [] } k) = fun s_ => optC (I.PartMany_run6 x0 n s_) (fun (r : Int) => k (.exit 0) { n := 27, t := [(3, (.int .i64 r))], h := [] }) none := funext ih
    rw [hu, hs]
    exact (I.PartMany_step6_nat (fun o => optC o (fun (r : Int) => k (.exit 0) { n := 27, t := [(3, (.int .i64 r))], h := [] }) none) x0 s_.1 s_.2.1 s_.2.2 (I.PartMany_run6 x0 n) (fun d => some d) none).symm
noncomputable def I.PartMany_tree {α : Type} (net : List Int) (leaf0_ : Int → α) (fail_ : α) : α :=
  (optC (I.NetOk_t net) (fun c_1 => (bif !c_1 then (leaf0_ (-1)) else (optC (I.PartMany_run6 net FUEL (0, 0, 0)) (fun qy_4 => (leaf0_ qy_4)) fail_))) fail_)
theorem I.PartMany_tree_nat {α γ : Type} (g : α → γ) (net : List Int) (leaf0_ : Int → α) (fail_ : α) : g (I.PartMany_tree net leaf0_ fail_) = I.PartMany_tree net (fun d => g (leaf0_ d)) (g fail_) := by
  unfold I.PartMany_tree; simp only [apply_cnd g, apply_optC g, apply_sumC g]
noncomputable def I.PartMany_t (net : List Int) : Option (Int) := I.PartMany_tree net (fun d => some d) none
theorem I.PartMany_den (net : List Int) (κ : V → List E → R) : I.PartMany_F [.ro false (.ints .i64 net)] [] κ = optC (I.PartMany_t net) (fun (r : Int) => κ (.int .i64 r) []) none := by
  have hu : I.PartMany_F [.ro false (.ints .i64 net)] [] κ = I.PartMany_tree net (fun d => κ (.int .i64 d) []) none := by
    refine Eq.trans (show I.PartMany_F [.ro false (.ints .i64 net)] [] κ = (optC (I.NetOk_t net) (fun c_1 => (bif !c_1 then (κ (.int .i64 (-1)) []) else (I.PartMany_L6 FUEL { n := 27, t := [(0, (.ro false (.ints .i64 net))), (3, (.int .i64 0)), (4, (.int .i64 0)), (5, (.int .i64 0))], h := [] } (I.PartMany_k6 κ)))) none) by kernel_rfl) ?_
    refine optC_congr (fun c_1 => ?_)
    refine cnd_congr ?_ ?_
    · kernel_rfl
    · refine (I.PartMany_L6_run net FUEL (0, 0, 0) (I.PartMany_k6 κ)).trans (optC_congr (fun qy_4 => ?_))
      kernel_rfl
  rw [hu]
  exact (I.PartMany_tree_nat (fun o => optC o (fun (r : Int) => κ (.int .i64 r) []) none) net (fun d => some d) none).symm
noncomputable def I.PartMany_s : D.Spec where
  keep := false
  pure := true
  ds := [.int .i64]
  sp := fun args h κ => match args, h with
    | [.ro false (.ints .i64 net)], [] => optC (I.PartMany_t net) (fun (r : Int) => κ (.int .i64 r) []) none
    | _, _ => none
theorem I.PartMany_ok : SpecOk Try.prog 33 I.PartMany_s := by
  refine SpecOk.of TDok mixed (T := I.PartMany_T) ?_ (ann := I.PartMany_ann) Try.func33 rfl (by decide +kernel) ?_ ?_ ?_
  · intro p hp
    simp only [I.PartMany_T, List.mem_cons, List.not_mem_nil, or_false] at hp
    rcases hp with rfl | rfl | rfl
    · exact I.NetOk_ok
    · exact I.hasPlace_ok
    · exact I.partIn_ok
  · intro args h κ r hh
    simp only [I.PartMany_s] at hh
    split at hh
    · exact (I.PartMany_den _ κ).trans hh
    · cases hh
  · intro args h κ r hh
    simp only [I.PartMany_s] at hh ⊢
    split at hh
    · exact optC_law2 (F := fun (r : Int) κ => κ (.int .i64 r) []) (fun b κ r hb => ⟨_, _, hb, fun _ => rfl⟩) hh
    · cases hh
  · intro _ args h κ r hh
    simp only [I.PartMany_s] at hh
    split at hh
    · exact ⟨rfl, fun _ => rfl⟩
    · cases hh

-- loop.example/guardsonnets/impl.WiresOf
noncomputable def I.WiresOf_T : List (Nat × D.Spec) := [(22, I.NetOk_s), (62, I.sizeOf_s)]
def I.WiresOf_ann : Nat → List Nat × List Nat
  | 5 => ([0, 3, 4], [3])
  | _ => ([], [])
noncomputable def I.WiresOf_F (args : List V) (h : List E) (κ : V → List E → R) : R := funC TD (tableK I.WiresOf_T) I.WiresOf_ann (drawOk (tableP I.WiresOf_T)) FUEL Try.f34 args h κ
noncomputable def I.WiresOf_L5 (n : Nat) (σ : St) (k : X → St → R) : R := iterC 0 (fun σ k => denC TD (tableK I.WiresOf_T) I.WiresOf_ann (drawOk (tableP I.WiresOf_T)) 0 FUEL ((findLoop 5 (Try.f34.body.getD .skip)).getD .skip) σ k) [0, 3, 4] [3] n σ k
noncomputable def I.WiresOf_k5 (κ : V → List E → R) : X → St → R := (afterC TD (tableK I.WiresOf_T) I.WiresOf_ann (drawOk (tableP I.WiresOf_T)) 0 FUEL 5 (Try.f34.body.getD .skip) (finC TD 0 Try.f34 κ)).getD (fun _ _ => none)
noncomputable def I.WiresOf_step5 {α : Type} (x0 : List Int) (x3 : Int) (x4 : Int) (next_ : Int × Int → α) (out0_ : Int → α) (fail_ : α) : α :=
  (bif decide (x4 < (↑x0.length : Int)) then (bif decide (0 ≤ x4) && decide (x4 < (↑x0.length : Int)) then (optC (I.sizeOf_t (eli x0 x4.toNat)) (fun c_2 => (next_ (IntKind.i64.wrap (x3 + c_2), IntKind.i64.wrap (x4 + 1)))) fail_) else fail_) else (out0_ x3))
theorem I.WiresOf_step5_nat {α γ : Type} (g : α → γ) (x0 : List Int) (x3 : Int) (x4 : Int) (next_ : Int × Int → α) (out0_ : Int → α) (fail_ : α) : g (I.WiresOf_step5 x0 x3 x4 next_ out0_ fail_) = I.WiresOf_step5 x0 x3 x4 (fun s => g (next_ s)) (fun d => g (out0_ d)) (g fail_) := by
  unfold I.WiresOf_step5; simp only [apply_cnd g, apply_optC g, apply_sumC g]
noncomputable def I.WiresOf_run5 (x0 : List Int) : Nat → Int × Int → Option (Int)
  | 0, _ => none
  | n + 1, s_ => I.WiresOf_step5 x0 s_.1 s_.2 (I.WiresOf_run5 x0 n) (fun d => some d) none
theorem I.WiresOf_L5_run (x0 : List Int) (n : Nat) (s_ : Int × Int) (k : X → St → R) : I.WiresOf_L5 n { n := 23, t := [(0, (.ro false (.ints .i64 x0))), (3, (.int .i64 s_.1)), (4, (.int .i64 s_.2))], h := [] } k = optC (I.WiresOf_run5 x0 n s_) (fun (r : Int) => k (.exit 0) { n := 23, t := [(3, (.int .i64 r))], h := [] }) none := by
  induction n generalizing s_ with
  | zero => rfl
  | succ n ih =>
    have hu : I.WiresOf_L5 (n + 1) { n := 23, t := [(0, (.ro false (.ints .i64 x0))), (3, (.int .i64 s_.1)), (4, (.int .i64 s_.2))], h := [] } k = I.WiresOf_step5 x0 s_.1 s_.2 (fun s_ => I.WiresOf_L5 n { n := 23, t := [(0, (.ro false (.ints .i64 x0))), (3, (.int .i64 s_.1)), (4, (.int .i64 s_.2))], h := [] } k) (fun d => k (.exit 0) { n := 23, t := [(3, (.int .i64 d))], h := [] }) none := by
      kernel_rfl
    have hs : (fun s_ : Int × Int => I.WiresOf_L5 n { n := 23, t := [(0, (.ro false (.ints .i64 x0))), (3, (.int .i64 s_.1)), (4, (.int .i64 s_.2))], h := [] } k) = fun s_ => optC (I.WiresOf_run5 x0 n s_) (fun (r : Int) => k (.exit 0) { n := 23, t := [(3, (.int .i64 r))], h := [] }) none := funext ih
    rw [hu, hs]
    exact (I.WiresOf_step5_nat (fun o => optC o (fun (r : Int) => k (.exit 0) { n := 23, t := [(3, (.int .i64 r))], h := [] }) none) x0 s_.1 s_.2 (I.WiresOf_run5 x0 n) (fun d => some d) none).symm
noncomputable def I.WiresOf_tree {α : Type} (net : List Int) (leaf0_ : Int → α) (fail_ : α) : α :=
  (optC (I.NetOk_t net) (fun c_1 => (bif !c_1 then (leaf0_ (-1)) else (optC (I.WiresOf_run5 net FUEL (0, 0)) (fun qy_3 => (leaf0_ (IntKind.i64.wrap (qy_3.tdiv 2)))) fail_))) fail_)
theorem I.WiresOf_tree_nat {α γ : Type} (g : α → γ) (net : List Int) (leaf0_ : Int → α) (fail_ : α) : g (I.WiresOf_tree net leaf0_ fail_) = I.WiresOf_tree net (fun d => g (leaf0_ d)) (g fail_) := by
  unfold I.WiresOf_tree; simp only [apply_cnd g, apply_optC g, apply_sumC g]
noncomputable def I.WiresOf_t (net : List Int) : Option (Int) := I.WiresOf_tree net (fun d => some d) none
theorem I.WiresOf_den (net : List Int) (κ : V → List E → R) : I.WiresOf_F [.ro false (.ints .i64 net)] [] κ = optC (I.WiresOf_t net) (fun (r : Int) => κ (.int .i64 r) []) none := by
  have hu : I.WiresOf_F [.ro false (.ints .i64 net)] [] κ = I.WiresOf_tree net (fun d => κ (.int .i64 d) []) none := by
    refine Eq.trans (show I.WiresOf_F [.ro false (.ints .i64 net)] [] κ = (optC (I.NetOk_t net) (fun c_1 => (bif !c_1 then (κ (.int .i64 (-1)) []) else (I.WiresOf_L5 FUEL { n := 23, t := [(0, (.ro false (.ints .i64 net))), (3, (.int .i64 0)), (4, (.int .i64 0))], h := [] } (I.WiresOf_k5 κ)))) none) by kernel_rfl) ?_
    refine optC_congr (fun c_1 => ?_)
    refine cnd_congr ?_ ?_
    · kernel_rfl
    · refine (I.WiresOf_L5_run net FUEL (0, 0) (I.WiresOf_k5 κ)).trans (optC_congr (fun qy_3 => ?_))
      kernel_rfl
  rw [hu]
  exact (I.WiresOf_tree_nat (fun o => optC o (fun (r : Int) => κ (.int .i64 r) []) none) net (fun d => some d) none).symm
noncomputable def I.WiresOf_s : D.Spec where
  keep := false
  pure := true
  ds := [.int .i64]
  sp := fun args h κ => match args, h with
    | [.ro false (.ints .i64 net)], [] => optC (I.WiresOf_t net) (fun (r : Int) => κ (.int .i64 r) []) none
    | _, _ => none
theorem I.WiresOf_ok : SpecOk Try.prog 34 I.WiresOf_s := by
  refine SpecOk.of TDok mixed (T := I.WiresOf_T) ?_ (ann := I.WiresOf_ann) Try.func34 rfl (by decide +kernel) ?_ ?_ ?_
  · intro p hp
    simp only [I.WiresOf_T, List.mem_cons, List.not_mem_nil, or_false] at hp
    rcases hp with rfl | rfl
    · exact I.NetOk_ok
    · exact I.sizeOf_ok
  · intro args h κ r hh
    simp only [I.WiresOf_s] at hh
    split at hh
    · exact (I.WiresOf_den _ κ).trans hh
    · cases hh
  · intro args h κ r hh
    simp only [I.WiresOf_s] at hh ⊢
    split at hh
    · exact optC_law2 (F := fun (r : Int) κ => κ (.int .i64 r) []) (fun b κ r hb => ⟨_, _, hb, fun _ => rfl⟩) hh
    · cases hh
  · intro _ args h κ r hh
    simp only [I.WiresOf_s] at hh
    split at hh
    · exact ⟨rfl, fun _ => rfl⟩
    · cases hh

-- loop.example/guardsonnets/laws.FnMostApart
noncomputable def L.FnMostApart_T : List (Nat × D.Spec) := [(28, S.DrawMostApart_s), (25, I.MostApart_s), (29, S.MostApart_s), (22, I.NetOk_s), (23, L.alive_s), (30, L.sizeOf_s), (31, I.ApartOk_s), (32, I.FullApartOk_s), (33, I.PartMany_s), (34, I.WiresOf_s)]
def L.FnMostApart_ann : Nat → List Nat × List Nat
  | 10 => ([3, 4, 5], [2, 3, 4])
  | _ => ([], [])
noncomputable def L.FnMostApart_F (args : List V) (h : List E) (κ : V → List E → R) : R := funC TD (tableK L.FnMostApart_T) L.FnMostApart_ann (drawOk (tableP L.FnMostApart_T)) FUEL Try.f5 args h κ
noncomputable def L.FnMostApart_L10 (n : Nat) (σ : St) (k : X → St → R) : R := iterC 0 (fun σ k => denC TD (tableK L.FnMostApart_T) L.FnMostApart_ann (drawOk (tableP L.FnMostApart_T)) 0 FUEL ((findLoop 10 (Try.f5.body.getD .skip)).getD .skip) σ k) [3, 4, 5] [2, 3, 4] n σ k
noncomputable def L.FnMostApart_k10 (κ : V → List E → R) : X → St → R := (afterC TD (tableK L.FnMostApart_T) L.FnMostApart_ann (drawOk (tableP L.FnMostApart_T)) 0 FUEL 10 (Try.f5.body.getD .skip) (finC TD 0 Try.f5 κ)).getD (fun _ _ => none)
noncomputable def L.FnMostApart_step10 {α : Type} (x4 : Int) (x5 : Int) (r0 : List Int) (next_ : Int × (List Int) → α) (out0_ : Bool × (List Int) → α) (out1_ : List Int → α) (fail_ : α) : α :=
  (bif decide (x5 < IntKind.i64.wrap (1 * 2 ^ min (↑r0.length : Int).toNat IntKind.i64.bits)) then (optC (L.sizeOf_t x5) (fun c_6 => (bif c_6 == x4 then (optC (I.ApartOk_t r0 x5) (fun c_7 => (bif c_7 then (optC (I.FullApartOk_t r0 x5) (fun c_8 => (bif !c_8 then (out0_ (false, r0)) else (optC (L.sizeOf_t x5) (fun c_9 => (bif decide (c_9 > x4) then (optC (I.ApartOk_t r0 x5) (fun c_10 => (bif c_10 then (out0_ (false, r0)) else (next_ (IntKind.i64.wrap (x5 + 1), r0)))) fail_) else (next_ (IntKind.i64.wrap (x5 + 1), r0)))) fail_))) fail_) else (optC (L.sizeOf_t x5) (fun c_11 => (bif decide (c_11 > x4) then (optC (I.ApartOk_t r0 x5) (fun c_12 => (bif c_12 then (out0_ (false, r0)) else (next_ (IntKind.i64.wrap (x5 + 1), r0)))) fail_) else (next_ (IntKind.i64.wrap (x5 + 1), r0)))) fail_))) fail_) else (optC (L.sizeOf_t x5) (fun c_13 => (bif decide (c_13 > x4) then (optC (I.ApartOk_t r0 x5) (fun c_14 => (bif c_14 then (out0_ (false, r0)) else (next_ (IntKind.i64.wrap (x5 + 1), r0)))) fail_) else (next_ (IntKind.i64.wrap (x5 + 1), r0)))) fail_))) fail_) else (out1_ r0))
theorem L.FnMostApart_step10_nat {α γ : Type} (g : α → γ) (x4 : Int) (x5 : Int) (r0 : List Int) (next_ : Int × (List Int) → α) (out0_ : Bool × (List Int) → α) (out1_ : List Int → α) (fail_ : α) : g (L.FnMostApart_step10 x4 x5 r0 next_ out0_ out1_ fail_) = L.FnMostApart_step10 x4 x5 r0 (fun s => g (next_ s)) (fun d => g (out0_ d)) (fun d => g (out1_ d)) (g fail_) := by
  unfold L.FnMostApart_step10; simp only [apply_cnd g, apply_optC g, apply_sumC g]
noncomputable def L.FnMostApart_run10 (x4 : Int) : Nat → Int × (List Int) → Option ((Bool × (List Int)) ⊕ (List Int))
  | 0, _ => none
  | n + 1, s_ => L.FnMostApart_step10 x4 s_.1 s_.2 (L.FnMostApart_run10 x4 n) (fun d => some ((Sum.inl d))) (fun d => some ((Sum.inr d))) none
theorem L.FnMostApart_L10_run (x4 : Int) (n : Nat) (s_ : Int × (List Int)) (k : X → St → R) : L.FnMostApart_L10 n { n := 76, t := [(3, (.own 0)), (4, (.int .i64 x4)), (5, (.int .i64 s_.1))], h := [.row (.ints .i64 s_.2)] } k = optC (L.FnMostApart_run10 x4 n s_) (fun (r : (Bool × (List Int)) ⊕ (List Int)) => (sumC r (fun (r : Bool × (List Int)) => k (.ret) { n := 76, t := [(2, (.bool r.1)), (3, (.own 0)), (4, (.int .i64 x4))], h := [.row (.ints .i64 r.2)] }) (fun (r : List Int) => k (.exit 0) { n := 76, t := [(2, .junk), (3, (.own 0)), (4, (.int .i64 x4))], h := [.row (.ints .i64 r)] }))) none := by
  induction n generalizing s_ with
  | zero => rfl
  | succ n ih =>
    have hu : L.FnMostApart_L10 (n + 1) { n := 76, t := [(3, (.own 0)), (4, (.int .i64 x4)), (5, (.int .i64 s_.1))], h := [.row (.ints .i64 s_.2)] } k = L.FnMostApart_step10 x4 s_.1 s_.2 (fun s_ => L.FnMostApart_L10 n { n := 76, t := [(3, (.own 0)), (4, (.int .i64 x4)), (5, (.int .i64 s_.1))], h := [.row (.ints .i64 s_.2)] } k) (fun d => k (.ret) { n := 76, t := [(2, (.bool d.1)), (3, (.own 0)), (4, (.int .i64 x4))], h := [.row (.ints .i64 d.2)] }) (fun d => k (.exit 0) { n := 76, t := [(2, .junk), (3, (.own 0)), (4, (.int .i64 x4))], h := [.row (.ints .i64 d)] }) none := by
      kernel_rfl
    have hs : (fun s_ : Int × (List Int) => L.FnMostApart_L10 n { n := 76, t := [(3, (.own 0)), (4, (.int .i64 x4)), (5, (.int .i64 s_.1))], h := [.row (.ints .i64 s_.2)] } k) = fun s_ => optC (L.FnMostApart_run10 x4 n s_) (fun (r : (Bool × (List Int)) ⊕ (List Int)) => (sumC r (fun (r : Bool × (List Int)) => k (.ret) { n := 76, t := [(2, (.bool r.1)), (3, (.own 0)), (4, (.int .i64 x4))], h := [.row (.ints .i64 r.2)] }) (fun (r : List Int) => k (.exit 0) { n := 76, t := [(2, .junk), (3, (.own 0)), (4, (.int .i64 x4))], h := [.row (.ints .i64 r)] }))) none := funext ih
    rw [hu, hs]
    exact (L.FnMostApart_step10_nat (fun o => optC o (fun (r : (Bool × (List Int)) ⊕ (List Int)) => (sumC r (fun (r : Bool × (List Int)) => k (.ret) { n := 76, t := [(2, (.bool r.1)), (3, (.own 0)), (4, (.int .i64 x4))], h := [.row (.ints .i64 r.2)] }) (fun (r : List Int) => k (.exit 0) { n := 76, t := [(2, .junk), (3, (.own 0)), (4, (.int .i64 x4))], h := [.row (.ints .i64 r)] }))) none) x4 s_.1 s_.2 (L.FnMostApart_run10 x4 n) (fun d => some ((Sum.inl d))) (fun d => some ((Sum.inr d))) none).symm
noncomputable def L.FnMostApart_tree {α : Type} (code : List Int) (leaf0_ : Bool → α) (fail_ : α) : α :=
  (bif decide ((↑code.length : Int) > 1048576) then (leaf0_ true) else (optC (S.DrawMostApart_t code) (fun c_1 => (optC (I.MostApart_t c_1) (fun c_2 => (optC (S.MostApart_t c_1) (fun c_3 => (bif !c_2 == c_3 then (leaf0_ false) else (bif decide (c_2 < 0) then (bif c_2 == -1 then (optC (I.NetOk_t c_1) (fun c_4 => (bif !c_4 then (optC (L.alive_t) (fun c_5 => (leaf0_ c_5)) fail_) else (leaf0_ false))) fail_) else (leaf0_ false)) else (optC (L.FnMostApart_run10 c_2 FUEL (0, c_1)) (fun qy_15 => (sumC qy_15 (fun (qy_15 : Bool × (List Int)) => (leaf0_ qy_15.1)) (fun (qy_15 : List Int) => (optC (I.PartMany_t qy_15) (fun c_16 => (bif decide (c_2 ≥ c_16) then (optC (I.WiresOf_t qy_15) (fun c_17 => (leaf0_ ((c_17 == 0) == (c_2 == (↑qy_15.length : Int))))) fail_) else (leaf0_ false))) fail_)))) fail_)))) fail_)) fail_)) fail_))
theorem L.FnMostApart_tree_nat {α γ : Type} (g : α → γ) (code : List Int) (leaf0_ : Bool → α) (fail_ : α) : g (L.FnMostApart_tree code leaf0_ fail_) = L.FnMostApart_tree code (fun d => g (leaf0_ d)) (g fail_) := by
  unfold L.FnMostApart_tree; simp only [apply_cnd g, apply_optC g, apply_sumC g]
noncomputable def L.FnMostApart_t (code : List Int) : Option (Bool) := L.FnMostApart_tree code (fun d => some d) none
theorem L.FnMostApart_den (code : List Int) (κ : V → List E → R) : L.FnMostApart_F [.ro true (.ints .u8 code)] [] κ = optC (L.FnMostApart_t code) (fun (r : Bool) => κ (.bool r) []) none := by
  have hu : L.FnMostApart_F [.ro true (.ints .u8 code)] [] κ = L.FnMostApart_tree code (fun d => κ (.bool d) []) none := by
    refine Eq.trans (show L.FnMostApart_F [.ro true (.ints .u8 code)] [] κ = (bif decide ((↑code.length : Int) > 1048576) then (κ (.bool true) []) else (optC (S.DrawMostApart_t code) (fun c_1 => (optC (I.MostApart_t c_1) (fun c_2 => (optC (S.MostApart_t c_1) (fun c_3 => (bif !c_2 == c_3 then (κ (.bool false) []) else (bif decide (c_2 < 0) then (bif c_2 == -1 then (optC (I.NetOk_t c_1) (fun c_4 => (bif !c_4 then (optC (L.alive_t) (fun c_5 => (κ (.bool c_5) [])) none) else (κ (.bool false) []))) none) else (κ (.bool false) [])) else (L.FnMostApart_L10 FUEL { n := 76, t := [(3, (.own 0)), (4, (.int .i64 c_2)), (5, (.int .i64 0))], h := [.row (.ints .i64 c_1)] } (L.FnMostApart_k10 κ))))) none)) none)) none)) by kernel_rfl) ?_
    refine cnd_congr ?_ ?_
    · kernel_rfl
    · refine optC_congr (fun c_1 => ?_)
      refine optC_congr (fun c_2 => ?_)
      refine optC_congr (fun c_3 => ?_)
      refine cnd_congr ?_ ?_
      · kernel_rfl
      · refine cnd_congr ?_ ?_
        · kernel_rfl
        · refine (L.FnMostApart_L10_run c_2 FUEL (0, c_1) (L.FnMostApart_k10 κ)).trans (optC_congr (fun qy_15 => ?_))
          rcases qy_15 with qy_15 | qy_15
          · kernel_rfl
          · kernel_rfl
  rw [hu]
  exact (L.FnMostApart_tree_nat (fun o => optC o (fun (r : Bool) => κ (.bool r) []) none) code (fun d => some d) none).symm
noncomputable def L.FnMostApart_s : D.Spec where
  keep := true
  pure := true
  ds := [.int .u8]
  sp := fun args h κ => match args, h with
    | [.ro true (.ints .u8 code)], [] => optC (L.FnMostApart_t code) (fun (r : Bool) => κ (.bool r) []) none
    | _, _ => none
theorem L.FnMostApart_ok : SpecOk Try.prog 5 L.FnMostApart_s := by
  refine SpecOk.of TDok mixed (T := L.FnMostApart_T) ?_ (ann := L.FnMostApart_ann) Try.func5 rfl (by decide +kernel) ?_ ?_ ?_
  · intro p hp
    simp only [L.FnMostApart_T, List.mem_cons, List.not_mem_nil, or_false] at hp
    rcases hp with rfl | rfl | rfl | rfl | rfl | rfl | rfl | rfl | rfl | rfl
    · exact S.DrawMostApart_ok
    · exact I.MostApart_ok
    · exact S.MostApart_ok
    · exact I.NetOk_ok
    · exact L.alive_ok
    · exact L.sizeOf_ok
    · exact I.ApartOk_ok
    · exact I.FullApartOk_ok
    · exact I.PartMany_ok
    · exact I.WiresOf_ok
  · intro args h κ r hh
    simp only [L.FnMostApart_s] at hh
    split at hh
    · exact (L.FnMostApart_den _ κ).trans hh
    · cases hh
  · intro args h κ r hh
    simp only [L.FnMostApart_s] at hh ⊢
    split at hh
    · exact optC_law2 (F := fun (r : Bool) κ => κ (.bool r) []) (fun b κ r hb => ⟨_, _, hb, fun _ => rfl⟩) hh
    · cases hh
  · intro _ args h κ r hh
    simp only [L.FnMostApart_s] at hh
    split at hh
    · exact ⟨rfl, fun _ => rfl⟩
    · cases hh

-- loop.example/guardsonnets/laws.FnExactMostApart
noncomputable def L.FnExactMostApart_T : List (Nat × D.Spec) := [(26, L.toIntS_s), (29, S.MostApart_s), (25, I.MostApart_s), (27, L.eqIntS_s)]
def L.FnExactMostApart_ann : Nat → List Nat × List Nat
  | _ => ([], [])
noncomputable def L.FnExactMostApart_F (args : List V) (h : List E) (κ : V → List E → R) : R := funC TD (tableK L.FnExactMostApart_T) L.FnExactMostApart_ann (drawOk (tableP L.FnExactMostApart_T)) FUEL Try.f6 args h κ
noncomputable def L.FnExactMostApart_tree {α : Type} (aNet : List Int) (leaf0_ : Bool → α) (fail_ : α) : α :=
  (bif decide ((↑aNet.length : Int) > 1048576) then (leaf0_ true) else (optC (L.toIntS_t aNet) (fun c_1 => (optC (S.MostApart_t c_1) (fun c_2 => (optC (L.toIntS_t aNet) (fun c_3 => (optC (I.MostApart_t c_3) (fun c_4 => (bif !c_4 == c_2 then (leaf0_ false) else (optC (L.toIntS_t aNet) (fun c_5 => (optC (L.eqIntS_t c_3 c_5) (fun c_6 => (bif !c_6 then (leaf0_ false) else (leaf0_ true))) fail_)) fail_))) fail_)) fail_)) fail_)) fail_))
theorem L.FnExactMostApart_tree_nat {α γ : Type} (g : α → γ) (aNet : List Int) (leaf0_ : Bool → α) (fail_ : α) : g (L.FnExactMostApart_tree aNet leaf0_ fail_) = L.FnExactMostApart_tree aNet (fun d => g (leaf0_ d)) (g fail_) := by
  unfold L.FnExactMostApart_tree; simp only [apply_cnd g, apply_optC g, apply_sumC g]
noncomputable def L.FnExactMostApart_t (aNet : List Int) : Option (Bool) := L.FnExactMostApart_tree aNet (fun d => some d) none
theorem L.FnExactMostApart_den (aNet : List Int) (κ : V → List E → R) : L.FnExactMostApart_F [.ro true (.ints .i64 aNet)] [] κ = optC (L.FnExactMostApart_t aNet) (fun (r : Bool) => κ (.bool r) []) none := by
  have hu : L.FnExactMostApart_F [.ro true (.ints .i64 aNet)] [] κ = L.FnExactMostApart_tree aNet (fun d => κ (.bool d) []) none := by
    kernel_rfl
  rw [hu]
  exact (L.FnExactMostApart_tree_nat (fun o => optC o (fun (r : Bool) => κ (.bool r) []) none) aNet (fun d => some d) none).symm
noncomputable def L.FnExactMostApart_s : D.Spec where
  keep := true
  pure := true
  ds := [.int .i64]
  sp := fun args h κ => match args, h with
    | [.ro true (.ints .i64 aNet)], [] => optC (L.FnExactMostApart_t aNet) (fun (r : Bool) => κ (.bool r) []) none
    | _, _ => none
theorem L.FnExactMostApart_ok : SpecOk Try.prog 6 L.FnExactMostApart_s := by
  refine SpecOk.of TDok mixed (T := L.FnExactMostApart_T) ?_ (ann := L.FnExactMostApart_ann) Try.func6 rfl (by decide +kernel) ?_ ?_ ?_
  · intro p hp
    simp only [L.FnExactMostApart_T, List.mem_cons, List.not_mem_nil, or_false] at hp
    rcases hp with rfl | rfl | rfl | rfl
    · exact L.toIntS_ok
    · exact S.MostApart_ok
    · exact I.MostApart_ok
    · exact L.eqIntS_ok
  · intro args h κ r hh
    simp only [L.FnExactMostApart_s] at hh
    split at hh
    · exact (L.FnExactMostApart_den _ κ).trans hh
    · cases hh
  · intro args h κ r hh
    simp only [L.FnExactMostApart_s] at hh ⊢
    split at hh
    · exact optC_law2 (F := fun (r : Bool) κ => κ (.bool r) []) (fun b κ r hb => ⟨_, _, hb, fun _ => rfl⟩) hh
    · cases hh
  · intro _ args h κ r hh
    simp only [L.FnExactMostApart_s] at hh
    split at hh
    · exact ⟨rfl, fun _ => rfl⟩
    · cases hh

-- loop.example/guardsonnets/spec.DrawApartCount
noncomputable def S.DrawApartCount_T : List (Nat × D.Spec) := [(60, S.l20Open_s), (59, S.l20Net_s)]
def S.DrawApartCount_ann : Nat → List Nat × List Nat
  | _ => ([], [])
noncomputable def S.DrawApartCount_F (args : List V) (h : List E) (κ : V → List E → R) : R := funC TD (tableK S.DrawApartCount_T) S.DrawApartCount_ann (drawOk (tableP S.DrawApartCount_T)) FUEL Try.f35 args h κ
noncomputable def S.DrawApartCount_tree {α : Type} (code : List Int) (leaf0_ : List Int → α) (fail_ : α) : α :=
  (optC (S.l20Open_t code) (fun c_1 => (optC (S.l20Net_t c_1.fst c_1.snd 9) (fun c_2 => (leaf0_ c_2.snd.snd)) fail_)) fail_)
theorem S.DrawApartCount_tree_nat {α γ : Type} (g : α → γ) (code : List Int) (leaf0_ : List Int → α) (fail_ : α) : g (S.DrawApartCount_tree code leaf0_ fail_) = S.DrawApartCount_tree code (fun d => g (leaf0_ d)) (g fail_) := by
  unfold S.DrawApartCount_tree; simp only [apply_cnd g, apply_optC g, apply_sumC g]
noncomputable def S.DrawApartCount_t (code : List Int) : Option (List Int) := S.DrawApartCount_tree code (fun d => some d) none
theorem S.DrawApartCount_den (code : List Int) (κ : V → List E → R) : S.DrawApartCount_F [.ro true (.ints .u8 code)] [] κ = optC (S.DrawApartCount_t code) (fun (r : List Int) => κ (.own 0) [.row (.ints .i64 r)]) none := by
  have hu : S.DrawApartCount_F [.ro true (.ints .u8 code)] [] κ = S.DrawApartCount_tree code (fun d => κ (.own 0) [.row (.ints .i64 d)]) none := by
    kernel_rfl
  rw [hu]
  exact (S.DrawApartCount_tree_nat (fun o => optC o (fun (r : List Int) => κ (.own 0) [.row (.ints .i64 r)]) none) code (fun d => some d) none).symm
noncomputable def S.DrawApartCount_s : D.Spec where
  keep := true
  pure := false
  ds := [.int .u8]
  sp := fun args h κ => match args, h with
    | [.ro true (.ints .u8 code)], [] => optC (S.DrawApartCount_t code) (fun (r : List Int) => κ (.own 0) [.row (.ints .i64 r)]) none
    | _, _ => none
theorem S.DrawApartCount_ok : SpecOk Try.prog 35 S.DrawApartCount_s := by
  refine SpecOk.of TDok mixed (T := S.DrawApartCount_T) ?_ (ann := S.DrawApartCount_ann) Try.func35 rfl (by decide +kernel) ?_ ?_ ?_
  · intro p hp
    simp only [S.DrawApartCount_T, List.mem_cons, List.not_mem_nil, or_false] at hp
    rcases hp with rfl | rfl
    · exact S.l20Open_ok
    · exact S.l20Net_ok
  · intro args h κ r hh
    simp only [S.DrawApartCount_s] at hh
    split at hh
    · exact (S.DrawApartCount_den _ κ).trans hh
    · cases hh
  · intro args h κ r hh
    simp only [S.DrawApartCount_s] at hh ⊢
    split at hh
    · exact optC_law2 (F := fun (r : List Int) κ => κ (.own 0) [.row (.ints .i64 r)]) (fun b κ r hb => ⟨_, _, hb, fun _ => rfl⟩) hh
    · cases hh
  · intro hh; cases hh

-- loop.example/guardsonnets/impl.ApartCount
noncomputable def I.ApartCount_T : List (Nat × D.Spec) := [(22, I.NetOk_s), (61, I.allOf_s), (70, I.apartIn_s)]
def I.ApartCount_ann : Nat → List Nat × List Nat
  | 5 => ([0, 3, 4], [3])
  | _ => ([], [])
noncomputable def I.ApartCount_F (args : List V) (h : List E) (κ : V → List E → R) : R := funC TD (tableK I.ApartCount_T) I.ApartCount_ann (drawOk (tableP I.ApartCount_T)) FUEL Try.f36 args h κ
noncomputable def I.ApartCount_L5 (n : Nat) (σ : St) (k : X → St → R) : R := iterC 0 (fun σ k => denC TD (tableK I.ApartCount_T) I.ApartCount_ann (drawOk (tableP I.ApartCount_T)) 0 FUEL ((findLoop 5 (Try.f36.body.getD .skip)).getD .skip) σ k) [0, 3, 4] [3] n σ k
noncomputable def I.ApartCount_k5 (κ : V → List E → R) : X → St → R := (afterC TD (tableK I.ApartCount_T) I.ApartCount_ann (drawOk (tableP I.ApartCount_T)) 0 FUEL 5 (Try.f36.body.getD .skip) (finC TD 0 Try.f36 κ)).getD (fun _ _ => none)
noncomputable def I.ApartCount_step5 {α : Type} (x0 : List Int) (x3 : Int) (x4 : Int) (next_ : Int × Int → α) (out0_ : Int → α) (fail_ : α) : α :=
  (optC (I.allOf_t x0) (fun c_2 => (bif decide (x4 ≤ c_2) then (optC (I.apartIn_t x0 x4) (fun c_3 => (bif c_3 then (next_ (IntKind.i64.wrap (x3 + 1), IntKind.i64.wrap (x4 + 1))) else (next_ (x3, IntKind.i64.wrap (x4 + 1))))) fail_) else (out0_ x3))) fail_)
theorem I.ApartCount_step5_nat {α γ : Type} (g : α → γ) (x0 : List Int) (x3 : Int) (x4 : Int) (next_ : Int × Int → α) (out0_ : Int → α) (fail_ : α) : g (I.ApartCount_step5 x0 x3 x4 next_ out0_ fail_) = I.ApartCount_step5 x0 x3 x4 (fun s => g (next_ s)) (fun d => g (out0_ d)) (g fail_) := by
  unfold I.ApartCount_step5; simp only [apply_cnd g, apply_optC g, apply_sumC g]
noncomputable def I.ApartCount_run5 (x0 : List Int) : Nat → Int × Int → Option (Int)
  | 0, _ => none
  | n + 1, s_ => I.ApartCount_step5 x0 s_.1 s_.2 (I.ApartCount_run5 x0 n) (fun d => some d) none
theorem I.ApartCount_L5_run (x0 : List Int) (n : Nat) (s_ : Int × Int) (k : X → St → R) : I.ApartCount_L5 n { n := 20, t := [(0, (.ro false (.ints .i64 x0))), (3, (.int .i64 s_.1)), (4, (.int .i64 s_.2))], h := [] } k = optC (I.ApartCount_run5 x0 n s_) (fun (r : Int) => k (.exit 0) { n := 20, t := [(3, (.int .i64 r))], h := [] }) none := by
  induction n generalizing s_ with
  | zero => rfl
  | succ n ih =>
    have hu : I.ApartCount_L5 (n + 1) { n := 20, t := [(0, (.ro false (.ints .i64 x0))), (3, (.int .i64 s_.1)), (4, (.int .i64 s_.2))], h := [] } k = I.ApartCount_step5 x0 s_.1 s_.2 (fun s_ => I.ApartCount_L5 n { n := 20, t := [(0, (.ro false (.ints .i64 x0))), (3, (.int .i64 s_.1)), (4, (.int .i64 s_.2))], h := [] } k) (fun d => k (.exit 0) { n := 20, t := [(3, (.int .i64 d))], h := [] }) none := by
      kernel_rfl
    have hs : (fun s_ : Int × Int => I.ApartCount_L5 n { n := 20, t := [(0, (.ro false (.ints .i64 x0))), (3, (.int .i64 s_.1)), (4, (.int .i64 s_.2))], h := [] } k) = fun s_ => optC (I.ApartCount_run5 x0 n s_) (fun (r : Int) => k (.exit 0) { n := 20, t := [(3, (.int .i64 r))], h := [] }) none := funext ih
    rw [hu, hs]
    exact (I.ApartCount_step5_nat (fun o => optC o (fun (r : Int) => k (.exit 0) { n := 20, t := [(3, (.int .i64 r))], h := [] }) none) x0 s_.1 s_.2 (I.ApartCount_run5 x0 n) (fun d => some d) none).symm
noncomputable def I.ApartCount_tree {α : Type} (net : List Int) (leaf0_ : Int → α) (fail_ : α) : α :=
  (optC (I.NetOk_t net) (fun c_1 => (bif !c_1 then (leaf0_ (-1)) else (optC (I.ApartCount_run5 net FUEL (0, 0)) (fun qy_4 => (leaf0_ qy_4)) fail_))) fail_)
theorem I.ApartCount_tree_nat {α γ : Type} (g : α → γ) (net : List Int) (leaf0_ : Int → α) (fail_ : α) : g (I.ApartCount_tree net leaf0_ fail_) = I.ApartCount_tree net (fun d => g (leaf0_ d)) (g fail_) := by
  unfold I.ApartCount_tree; simp only [apply_cnd g, apply_optC g, apply_sumC g]
noncomputable def I.ApartCount_t (net : List Int) : Option (Int) := I.ApartCount_tree net (fun d => some d) none
theorem I.ApartCount_den (net : List Int) (κ : V → List E → R) : I.ApartCount_F [.ro false (.ints .i64 net)] [] κ = optC (I.ApartCount_t net) (fun (r : Int) => κ (.int .i64 r) []) none := by
  have hu : I.ApartCount_F [.ro false (.ints .i64 net)] [] κ = I.ApartCount_tree net (fun d => κ (.int .i64 d) []) none := by
    refine Eq.trans (show I.ApartCount_F [.ro false (.ints .i64 net)] [] κ = (optC (I.NetOk_t net) (fun c_1 => (bif !c_1 then (κ (.int .i64 (-1)) []) else (I.ApartCount_L5 FUEL { n := 20, t := [(0, (.ro false (.ints .i64 net))), (3, (.int .i64 0)), (4, (.int .i64 0))], h := [] } (I.ApartCount_k5 κ)))) none) by kernel_rfl) ?_
    refine optC_congr (fun c_1 => ?_)
    refine cnd_congr ?_ ?_
    · kernel_rfl
    · refine (I.ApartCount_L5_run net FUEL (0, 0) (I.ApartCount_k5 κ)).trans (optC_congr (fun qy_4 => ?_))
      kernel_rfl
  rw [hu]
  exact (I.ApartCount_tree_nat (fun o => optC o (fun (r : Int) => κ (.int .i64 r) []) none) net (fun d => some d) none).symm
noncomputable def I.ApartCount_s : D.Spec where
  keep := false
  pure := true
  ds := [.int .i64]
  sp := fun args h κ => match args, h with
    | [.ro false (.ints .i64 net)], [] => optC (I.ApartCount_t net) (fun (r : Int) => κ (.int .i64 r) []) none
    | _, _ => none
theorem I.ApartCount_ok : SpecOk Try.prog 36 I.ApartCount_s := by
  refine SpecOk.of TDok mixed (T := I.ApartCount_T) ?_ (ann := I.ApartCount_ann) Try.func36 rfl (by decide +kernel) ?_ ?_ ?_
  · intro p hp
    simp only [I.ApartCount_T, List.mem_cons, List.not_mem_nil, or_false] at hp
    rcases hp with rfl | rfl | rfl
    · exact I.NetOk_ok
    · exact I.allOf_ok
    · exact I.apartIn_ok
  · intro args h κ r hh
    simp only [I.ApartCount_s] at hh
    split at hh
    · exact (I.ApartCount_den _ κ).trans hh
    · cases hh
  · intro args h κ r hh
    simp only [I.ApartCount_s] at hh ⊢
    split at hh
    · exact optC_law2 (F := fun (r : Int) κ => κ (.int .i64 r) []) (fun b κ r hb => ⟨_, _, hb, fun _ => rfl⟩) hh
    · cases hh
  · intro _ args h κ r hh
    simp only [I.ApartCount_s] at hh
    split at hh
    · exact ⟨rfl, fun _ => rfl⟩
    · cases hh

-- loop.example/guardsonnets/spec.ApartCount
noncomputable def S.ApartCount_T : List (Nat × D.Spec) := [(58, S.NetOk_s), (71, S.l4Apart_s)]
def S.ApartCount_ann : Nat → List Nat × List Nat
  | 5 => ([0, 3, 4], [3])
  | _ => ([], [])
noncomputable def S.ApartCount_F (args : List V) (h : List E) (κ : V → List E → R) : R := funC TD (tableK S.ApartCount_T) S.ApartCount_ann (drawOk (tableP S.ApartCount_T)) FUEL Try.f37 args h κ
noncomputable def S.ApartCount_L5 (n : Nat) (σ : St) (k : X → St → R) : R := iterC 0 (fun σ k => denC TD (tableK S.ApartCount_T) S.ApartCount_ann (drawOk (tableP S.ApartCount_T)) 0 FUEL ((findLoop 5 (Try.f37.body.getD .skip)).getD .skip) σ k) [0, 3, 4] [3] n σ k
noncomputable def S.ApartCount_k5 (κ : V → List E → R) : X → St → R := (afterC TD (tableK S.ApartCount_T) S.ApartCount_ann (drawOk (tableP S.ApartCount_T)) 0 FUEL 5 (Try.f37.body.getD .skip) (finC TD 0 Try.f37 κ)).getD (fun _ _ => none)
noncomputable def S.ApartCount_step5 {α : Type} (x0 : List Int) (x3 : Int) (x4 : Int) (next_ : Int × Int → α) (out0_ : Int → α) (fail_ : α) : α :=
  (bif decide (x4 < IntKind.i64.wrap (1 * 2 ^ min (↑x0.length : Int).toNat IntKind.i64.bits)) then (optC (S.l4Apart_t x0 x4) (fun c_2 => (bif c_2 then (next_ (IntKind.i64.wrap (x3 + 1), IntKind.i64.wrap (x4 + 1))) else (next_ (x3, IntKind.i64.wrap (x4 + 1))))) fail_) else (out0_ x3))
theorem S.ApartCount_step5_nat {α γ : Type} (g : α → γ) (x0 : List Int) (x3 : Int) (x4 : Int) (next_ : Int × Int → α) (out0_ : Int → α) (fail_ : α) : g (S.ApartCount_step5 x0 x3 x4 next_ out0_ fail_) = S.ApartCount_step5 x0 x3 x4 (fun s => g (next_ s)) (fun d => g (out0_ d)) (g fail_) := by
  unfold S.ApartCount_step5; simp only [apply_cnd g, apply_optC g, apply_sumC g]
noncomputable def S.ApartCount_run5 (x0 : List Int) : Nat → Int × Int → Option (Int)
  | 0, _ => none
  | n + 1, s_ => S.ApartCount_step5 x0 s_.1 s_.2 (S.ApartCount_run5 x0 n) (fun d => some d) none
theorem S.ApartCount_L5_run (x0 : List Int) (n : Nat) (s_ : Int × Int) (k : X → St → R) : S.ApartCount_L5 n { n := 21, t := [(0, (.ro false (.ints .i64 x0))), (3, (.int .i64 s_.1)), (4, (.int .i64 s_.2))], h := [] } k = optC (S.ApartCount_run5 x0 n s_) (fun (r : Int) => k (.exit 0) { n := 21, t := [(3, (.int .i64 r))], h := [] }) none := by
  induction n generalizing s_ with
  | zero => rfl
  | succ n ih =>
    have hu : S.ApartCount_L5 (n + 1) { n := 21, t := [(0, (.ro false (.ints .i64 x0))), (3, (.int .i64 s_.1)), (4, (.int .i64 s_.2))], h := [] } k = S.ApartCount_step5 x0 s_.1 s_.2 (fun s_ => S.ApartCount_L5 n { n := 21, t := [(0, (.ro false (.ints .i64 x0))), (3, (.int .i64 s_.1)), (4, (.int .i64 s_.2))], h := [] } k) (fun d => k (.exit 0) { n := 21, t := [(3, (.int .i64 d))], h := [] }) none := by
      kernel_rfl
    have hs : (fun s_ : Int × Int => S.ApartCount_L5 n { n := 21, t := [(0, (.ro false (.ints .i64 x0))), (3, (.int .i64 s_.1)), (4, (.int .i64 s_.2))], h := [] } k) = fun s_ => optC (S.ApartCount_run5 x0 n s_) (fun (r : Int) => k (.exit 0) { n := 21, t := [(3, (.int .i64 r))], h := [] }) none := funext ih
    rw [hu, hs]
    exact (S.ApartCount_step5_nat (fun o => optC o (fun (r : Int) => k (.exit 0) { n := 21, t := [(3, (.int .i64 r))], h := [] }) none) x0 s_.1 s_.2 (S.ApartCount_run5 x0 n) (fun d => some d) none).symm
noncomputable def S.ApartCount_tree {α : Type} (net : List Int) (leaf0_ : Int → α) (fail_ : α) : α :=
  (optC (S.NetOk_t net) (fun c_1 => (bif !c_1 then (leaf0_ (-1)) else (optC (S.ApartCount_run5 net FUEL (0, 0)) (fun qy_3 => (leaf0_ qy_3)) fail_))) fail_)
theorem S.ApartCount_tree_nat {α γ : Type} (g : α → γ) (net : List Int) (leaf0_ : Int → α) (fail_ : α) : g (S.ApartCount_tree net leaf0_ fail_) = S.ApartCount_tree net (fun d => g (leaf0_ d)) (g fail_) := by
  unfold S.ApartCount_tree; simp only [apply_cnd g, apply_optC g, apply_sumC g]
noncomputable def S.ApartCount_t (net : List Int) : Option (Int) := S.ApartCount_tree net (fun d => some d) none
theorem S.ApartCount_den (net : List Int) (κ : V → List E → R) : S.ApartCount_F [.ro false (.ints .i64 net)] [] κ = optC (S.ApartCount_t net) (fun (r : Int) => κ (.int .i64 r) []) none := by
  have hu : S.ApartCount_F [.ro false (.ints .i64 net)] [] κ = S.ApartCount_tree net (fun d => κ (.int .i64 d) []) none := by
    refine Eq.trans (show S.ApartCount_F [.ro false (.ints .i64 net)] [] κ = (optC (S.NetOk_t net) (fun c_1 => (bif !c_1 then (κ (.int .i64 (-1)) []) else (S.ApartCount_L5 FUEL { n := 21, t := [(0, (.ro false (.ints .i64 net))), (3, (.int .i64 0)), (4, (.int .i64 0))], h := [] } (S.ApartCount_k5 κ)))) none) by kernel_rfl) ?_
    refine optC_congr (fun c_1 => ?_)
    refine cnd_congr ?_ ?_
    · kernel_rfl
    · refine (S.ApartCount_L5_run net FUEL (0, 0) (S.ApartCount_k5 κ)).trans (optC_congr (fun qy_3 => ?_))
      kernel_rfl
  rw [hu]
  exact (S.ApartCount_tree_nat (fun o => optC o (fun (r : Int) => κ (.int .i64 r) []) none) net (fun d => some d) none).symm
noncomputable def S.ApartCount_s : D.Spec where
  keep := false
  pure := true
  ds := [.int .i64]
  sp := fun args h κ => match args, h with
    | [.ro false (.ints .i64 net)], [] => optC (S.ApartCount_t net) (fun (r : Int) => κ (.int .i64 r) []) none
    | _, _ => none
theorem S.ApartCount_ok : SpecOk Try.prog 37 S.ApartCount_s := by
  refine SpecOk.of TDok mixed (T := S.ApartCount_T) ?_ (ann := S.ApartCount_ann) Try.func37 rfl (by decide +kernel) ?_ ?_ ?_
  · intro p hp
    simp only [S.ApartCount_T, List.mem_cons, List.not_mem_nil, or_false] at hp
    rcases hp with rfl | rfl
    · exact S.NetOk_ok
    · exact S.l4Apart_ok
  · intro args h κ r hh
    simp only [S.ApartCount_s] at hh
    split at hh
    · exact (S.ApartCount_den _ κ).trans hh
    · cases hh
  · intro args h κ r hh
    simp only [S.ApartCount_s] at hh ⊢
    split at hh
    · exact optC_law2 (F := fun (r : Int) κ => κ (.int .i64 r) []) (fun b κ r hb => ⟨_, _, hb, fun _ => rfl⟩) hh
    · cases hh
  · intro _ args h κ r hh
    simp only [S.ApartCount_s] at hh
    split at hh
    · exact ⟨rfl, fun _ => rfl⟩
    · cases hh

-- loop.example/guardsonnets/laws.FnApartCount
noncomputable def L.FnApartCount_T : List (Nat × D.Spec) := [(35, S.DrawApartCount_s), (36, I.ApartCount_s), (37, S.ApartCount_s), (22, I.NetOk_s), (23, L.alive_s), (34, I.WiresOf_s)]
def L.FnApartCount_ann : Nat → List Nat × List Nat
  | _ => ([], [])
noncomputable def L.FnApartCount_F (args : List V) (h : List E) (κ : V → List E → R) : R := funC TD (tableK L.FnApartCount_T) L.FnApartCount_ann (drawOk (tableP L.FnApartCount_T)) FUEL Try.f7 args h κ
noncomputable def L.FnApartCount_tree {α : Type} (code : List Int) (leaf0_ : Bool → α) (fail_ : α) : α :=
  (bif decide ((↑code.length : Int) > 1048576) then (leaf0_ true) else (optC (S.DrawApartCount_t code) (fun c_1 => (optC (I.ApartCount_t c_1) (fun c_2 => (optC (S.ApartCount_t c_1) (fun c_3 => (bif !c_2 == c_3 then (leaf0_ false) else (bif decide (c_2 < 0) then (bif c_2 == -1 then (optC (I.NetOk_t c_1) (fun c_4 => (bif !c_4 then (optC (L.alive_t) (fun c_5 => (leaf0_ c_5)) fail_) else (leaf0_ false))) fail_) else (leaf0_ false)) else (bif decide (c_2 ≥ IntKind.i64.wrap ((↑c_1.length : Int) + 1)) then (optC (I.WiresOf_t c_1) (fun c_6 => (bif (c_2 == IntKind.i64.wrap (1 * 2 ^ min (↑c_1.length : Int).toNat IntKind.i64.bits)) == (c_6 == 0) then (leaf0_ (decide (c_2 ≤ IntKind.i64.wrap (1 * 2 ^ min (↑c_1.length : Int).toNat IntKind.i64.bits)))) else (leaf0_ false))) fail_) else (leaf0_ false))))) fail_)) fail_)) fail_))
theorem L.FnApartCount_tree_nat {α γ : Type} (g : α → γ) (code : List Int) (leaf0_ : Bool → α) (fail_ : α) : g (L.FnApartCount_tree code leaf0_ fail_) = L.FnApartCount_tree code (fun d => g (leaf0_ d)) (g fail_) := by
  unfold L.FnApartCount_tree; simp only [apply_cnd g, apply_optC g, apply_sumC g]
noncomputable def L.FnApartCount_t (code : List Int) : Option (Bool) := L.FnApartCount_tree code (fun d => some d) none
theorem L.FnApartCount_den (code : List Int) (κ : V → List E → R) : L.FnApartCount_F [.ro true (.ints .u8 code)] [] κ = optC (L.FnApartCount_t code) (fun (r : Bool) => κ (.bool r) []) none := by
  have hu : L.FnApartCount_F [.ro true (.ints .u8 code)] [] κ = L.FnApartCount_tree code (fun d => κ (.bool d) []) none := by
    kernel_rfl
  rw [hu]
  exact (L.FnApartCount_tree_nat (fun o => optC o (fun (r : Bool) => κ (.bool r) []) none) code (fun d => some d) none).symm
noncomputable def L.FnApartCount_s : D.Spec where
  keep := true
  pure := true
  ds := [.int .u8]
  sp := fun args h κ => match args, h with
    | [.ro true (.ints .u8 code)], [] => optC (L.FnApartCount_t code) (fun (r : Bool) => κ (.bool r) []) none
    | _, _ => none
theorem L.FnApartCount_ok : SpecOk Try.prog 7 L.FnApartCount_s := by
  refine SpecOk.of TDok mixed (T := L.FnApartCount_T) ?_ (ann := L.FnApartCount_ann) Try.func7 rfl (by decide +kernel) ?_ ?_ ?_
  · intro p hp
    simp only [L.FnApartCount_T, List.mem_cons, List.not_mem_nil, or_false] at hp
    rcases hp with rfl | rfl | rfl | rfl | rfl | rfl
    · exact S.DrawApartCount_ok
    · exact I.ApartCount_ok
    · exact S.ApartCount_ok
    · exact I.NetOk_ok
    · exact L.alive_ok
    · exact I.WiresOf_ok
  · intro args h κ r hh
    simp only [L.FnApartCount_s] at hh
    split at hh
    · exact (L.FnApartCount_den _ κ).trans hh
    · cases hh
  · intro args h κ r hh
    simp only [L.FnApartCount_s] at hh ⊢
    split at hh
    · exact optC_law2 (F := fun (r : Bool) κ => κ (.bool r) []) (fun b κ r hb => ⟨_, _, hb, fun _ => rfl⟩) hh
    · cases hh
  · intro _ args h κ r hh
    simp only [L.FnApartCount_s] at hh
    split at hh
    · exact ⟨rfl, fun _ => rfl⟩
    · cases hh

-- loop.example/guardsonnets/laws.FnExactApartCount
noncomputable def L.FnExactApartCount_T : List (Nat × D.Spec) := [(26, L.toIntS_s), (37, S.ApartCount_s), (36, I.ApartCount_s), (27, L.eqIntS_s)]
def L.FnExactApartCount_ann : Nat → List Nat × List Nat
  | _ => ([], [])
noncomputable def L.FnExactApartCount_F (args : List V) (h : List E) (κ : V → List E → R) : R := funC TD (tableK L.FnExactApartCount_T) L.FnExactApartCount_ann (drawOk (tableP L.FnExactApartCount_T)) FUEL Try.f8 args h κ
noncomputable def L.FnExactApartCount_tree {α : Type} (aNet : List Int) (leaf0_ : Bool → α) (fail_ : α) : α :=
  (bif decide ((↑aNet.length : Int) > 1048576) then (leaf0_ true) else (optC (L.toIntS_t aNet) (fun c_1 => (optC (S.ApartCount_t c_1) (fun c_2 => (optC (L.toIntS_t aNet) (fun c_3 => (optC (I.ApartCount_t c_3) (fun c_4 => (bif !c_4 == c_2 then (leaf0_ false) else (optC (L.toIntS_t aNet) (fun c_5 => (optC (L.eqIntS_t c_3 c_5) (fun c_6 => (bif !c_6 then (leaf0_ false) else (leaf0_ true))) fail_)) fail_))) fail_)) fail_)) fail_)) fail_))
theorem L.FnExactApartCount_tree_nat {α γ : Type} (g : α → γ) (aNet : List Int) (leaf0_ : Bool → α) (fail_ : α) : g (L.FnExactApartCount_tree aNet leaf0_ fail_) = L.FnExactApartCount_tree aNet (fun d => g (leaf0_ d)) (g fail_) := by
  unfold L.FnExactApartCount_tree; simp only [apply_cnd g, apply_optC g, apply_sumC g]
noncomputable def L.FnExactApartCount_t (aNet : List Int) : Option (Bool) := L.FnExactApartCount_tree aNet (fun d => some d) none
theorem L.FnExactApartCount_den (aNet : List Int) (κ : V → List E → R) : L.FnExactApartCount_F [.ro true (.ints .i64 aNet)] [] κ = optC (L.FnExactApartCount_t aNet) (fun (r : Bool) => κ (.bool r) []) none := by
  have hu : L.FnExactApartCount_F [.ro true (.ints .i64 aNet)] [] κ = L.FnExactApartCount_tree aNet (fun d => κ (.bool d) []) none := by
    kernel_rfl
  rw [hu]
  exact (L.FnExactApartCount_tree_nat (fun o => optC o (fun (r : Bool) => κ (.bool r) []) none) aNet (fun d => some d) none).symm
noncomputable def L.FnExactApartCount_s : D.Spec where
  keep := true
  pure := true
  ds := [.int .i64]
  sp := fun args h κ => match args, h with
    | [.ro true (.ints .i64 aNet)], [] => optC (L.FnExactApartCount_t aNet) (fun (r : Bool) => κ (.bool r) []) none
    | _, _ => none
theorem L.FnExactApartCount_ok : SpecOk Try.prog 8 L.FnExactApartCount_s := by
  refine SpecOk.of TDok mixed (T := L.FnExactApartCount_T) ?_ (ann := L.FnExactApartCount_ann) Try.func8 rfl (by decide +kernel) ?_ ?_ ?_
  · intro p hp
    simp only [L.FnExactApartCount_T, List.mem_cons, List.not_mem_nil, or_false] at hp
    rcases hp with rfl | rfl | rfl | rfl
    · exact L.toIntS_ok
    · exact S.ApartCount_ok
    · exact I.ApartCount_ok
    · exact L.eqIntS_ok
  · intro args h κ r hh
    simp only [L.FnExactApartCount_s] at hh
    split at hh
    · exact (L.FnExactApartCount_den _ κ).trans hh
    · cases hh
  · intro args h κ r hh
    simp only [L.FnExactApartCount_s] at hh ⊢
    split at hh
    · exact optC_law2 (F := fun (r : Bool) κ => κ (.bool r) []) (fun b κ r hb => ⟨_, _, hb, fun _ => rfl⟩) hh
    · cases hh
  · intro _ args h κ r hh
    simp only [L.FnExactApartCount_s] at hh
    split at hh
    · exact ⟨rfl, fun _ => rfl⟩
    · cases hh

-- loop.example/guardsonnets/spec.DrawFewestNeeds
noncomputable def S.DrawFewestNeeds_T : List (Nat × D.Spec) := [(60, S.l20Open_s), (59, S.l20Net_s)]
def S.DrawFewestNeeds_ann : Nat → List Nat × List Nat
  | _ => ([], [])
noncomputable def S.DrawFewestNeeds_F (args : List V) (h : List E) (κ : V → List E → R) : R := funC TD (tableK S.DrawFewestNeeds_T) S.DrawFewestNeeds_ann (drawOk (tableP S.DrawFewestNeeds_T)) FUEL Try.f38 args h κ
noncomputable def S.DrawFewestNeeds_tree {α : Type} (code : List Int) (leaf0_ : List Int → α) (fail_ : α) : α :=
  (optC (S.l20Open_t code) (fun c_1 => (optC (S.l20Net_t c_1.fst c_1.snd 9) (fun c_2 => (leaf0_ c_2.snd.snd)) fail_)) fail_)
theorem S.DrawFewestNeeds_tree_nat {α γ : Type} (g : α → γ) (code : List Int) (leaf0_ : List Int → α) (fail_ : α) : g (S.DrawFewestNeeds_tree code leaf0_ fail_) = S.DrawFewestNeeds_tree code (fun d => g (leaf0_ d)) (g fail_) := by
  unfold S.DrawFewestNeeds_tree; simp only [apply_cnd g, apply_optC g, apply_sumC g]
noncomputable def S.DrawFewestNeeds_t (code : List Int) : Option (List Int) := S.DrawFewestNeeds_tree code (fun d => some d) none
theorem S.DrawFewestNeeds_den (code : List Int) (κ : V → List E → R) : S.DrawFewestNeeds_F [.ro true (.ints .u8 code)] [] κ = optC (S.DrawFewestNeeds_t code) (fun (r : List Int) => κ (.own 0) [.row (.ints .i64 r)]) none := by
  have hu : S.DrawFewestNeeds_F [.ro true (.ints .u8 code)] [] κ = S.DrawFewestNeeds_tree code (fun d => κ (.own 0) [.row (.ints .i64 d)]) none := by
    kernel_rfl
  rw [hu]
  exact (S.DrawFewestNeeds_tree_nat (fun o => optC o (fun (r : List Int) => κ (.own 0) [.row (.ints .i64 r)]) none) code (fun d => some d) none).symm
noncomputable def S.DrawFewestNeeds_s : D.Spec where
  keep := true
  pure := false
  ds := [.int .u8]
  sp := fun args h κ => match args, h with
    | [.ro true (.ints .u8 code)], [] => optC (S.DrawFewestNeeds_t code) (fun (r : List Int) => κ (.own 0) [.row (.ints .i64 r)]) none
    | _, _ => none
theorem S.DrawFewestNeeds_ok : SpecOk Try.prog 38 S.DrawFewestNeeds_s := by
  refine SpecOk.of TDok mixed (T := S.DrawFewestNeeds_T) ?_ (ann := S.DrawFewestNeeds_ann) Try.func38 rfl (by decide +kernel) ?_ ?_ ?_
  · intro p hp
    simp only [S.DrawFewestNeeds_T, List.mem_cons, List.not_mem_nil, or_false] at hp
    rcases hp with rfl | rfl
    · exact S.l20Open_ok
    · exact S.l20Net_ok
  · intro args h κ r hh
    simp only [S.DrawFewestNeeds_s] at hh
    split at hh
    · exact (S.DrawFewestNeeds_den _ κ).trans hh
    · cases hh
  · intro args h κ r hh
    simp only [S.DrawFewestNeeds_s] at hh ⊢
    split at hh
    · exact optC_law2 (F := fun (r : List Int) κ => κ (.own 0) [.row (.ints .i64 r)]) (fun b κ r hb => ⟨_, _, hb, fun _ => rfl⟩) hh
    · cases hh
  · intro hh; cases hh

-- loop.example/guardsonnets/impl.twiceIn
noncomputable def I.twiceIn_T : List (Nat × D.Spec) := [(67, I.hasPlace_s), (77, I.ballIn_s)]
def I.twiceIn_ann : Nat → List Nat × List Nat
  | 4 => ([0, 1, 5, 6, 7], [6])
  | _ => ([], [])
noncomputable def I.twiceIn_F (args : List V) (h : List E) (κ : V → List E → R) : R := funC TD (tableK I.twiceIn_T) I.twiceIn_ann (drawOk (tableP I.twiceIn_T)) FUEL Try.f97 args h κ
noncomputable def I.twiceIn_L4 (n : Nat) (σ : St) (k : X → St → R) : R := iterC 0 (fun σ k => denC TD (tableK I.twiceIn_T) I.twiceIn_ann (drawOk (tableP I.twiceIn_T)) 0 FUEL ((findLoop 4 (Try.f97.body.getD .skip)).getD .skip) σ k) [0, 1, 5, 6, 7] [6] n σ k
noncomputable def I.twiceIn_k4 (κ : V → List E → R) : X → St → R := (afterC TD (tableK I.twiceIn_T) I.twiceIn_ann (drawOk (tableP I.twiceIn_T)) 0 FUEL 4 (Try.f97.body.getD .skip) (finC TD 0 Try.f97 κ)).getD (fun _ _ => none)
noncomputable def I.twiceIn_step4 {α : Type} (x0 : List Int) (x1 : Int) (x5 : Int) (x6 : Int) (x7 : Int) (next_ : Int × Int × Int → α) (out0_ : Int → α) (fail_ : α) : α :=
  (bif decide (x7 < (↑x0.length : Int)) then (optC (I.hasPlace_t x1 x7) (fun c_1 => (bif c_1 then (optC (I.ballIn_t x0 x7) (fun c_2 => (optC (I.ballIn_t x0 x7) (fun c_3 => (next_ (bits BinOp.or IntKind.i64 x5 c_3, bits BinOp.or IntKind.i64 x6 (bits BinOp.and IntKind.i64 x5 c_2), IntKind.i64.wrap (x7 + 1)))) fail_)) fail_) else (next_ (x5, x6, IntKind.i64.wrap (x7 + 1))))) fail_) else (out0_ x6))
theorem I.twiceIn_step4_nat {α γ : Type} (g : α → γ) (x0 : List Int) (x1 : Int) (x5 : Int) (x6 : Int) (x7 : Int) (next_ : Int × Int × Int → α) (out0_ : Int → α) (fail_ : α) : g (I.twiceIn_step4 x0 x1 x5 x6 x7 next_ out0_ fail_) = I.twiceIn_step4 x0 x1 x5 x6 x7 (fun s => g (next_ s)) (fun d => g (out0_ d)) (g fail_) := by
  unfold I.twiceIn_step4; simp only [apply_cnd g, apply_optC g, apply_sumC g]
noncomputable def I.twiceIn_run4 (x0 : List Int) (x1 : Int) : Nat → Int × Int × Int → Option (Int)
  | 0, _ => none
  | n + 1, s_ => I.twiceIn_step4 x0 x1 s_.1 s_.2.1 s_.2.2 (I.twiceIn_run4 x0 x1 n) (fun d => some d) none
theorem I.twiceIn_L4_run (x0 : List Int) (x1 : Int) (n : Nat) (s_ : Int × Int × Int) (k : X → St → R) : I.twiceIn_L4 n { n := 30, t := [(0, (.ro false (.ints .i64 x0))), (1, (.int .i64 x1)), (5, (.int .i64 s_.1)), (6, (.int .i64 s_.2.1)), (7, (.int .i64 s_.2.2))], h := [] } k = optC (I.twiceIn_run4 x0 x1 n s_) (fun (r : Int) => k (.exit 0) { n := 30, t := [(6, (.int .i64 r))], h := [] }) none := by
  induction n generalizing s_ with
  | zero => rfl
  | succ n ih =>
    have hu : I.twiceIn_L4 (n + 1) { n := 30, t := [(0, (.ro false (.ints .i64 x0))), (1, (.int .i64 x1)), (5, (.int .i64 s_.1)), (6, (.int .i64 s_.2.1)), (7, (.int .i64 s_.2.2))], h := [] } k = I.twiceIn_step4 x0 x1 s_.1 s_.2.1 s_.2.2 (fun s_ => I.twiceIn_L4 n { n := 30, t := [(0, (.ro false (.ints .i64 x0))), (1, (.int .i64 x1)), (5, (.int .i64 s_.1)), (6, (.int .i64 s_.2.1)), (7, (.int .i64 s_.2.2))], h := [] } k) (fun d => k (.exit 0) { n := 30, t := [(6, (.int .i64 d))], h := [] }) none := by
      kernel_rfl
    have hs : (fun s_ : Int × Int × Int => I.twiceIn_L4 n { n := 30, t := [(0, (.ro false (.ints .i64 x0))), (1, (.int .i64 x1)), (5, (.int .i64 s_.1)), (6, (.int .i64 s_.2.1)), (7, (.int .i64 s_.2.2))], h := [] } k) = fun s_ => optC (I.twiceIn_run4 x0 x1 n s_) (fun (r : Int) => k (.exit 0) { n := 30, t := [(6, (.int .i64 r))], h := [] }) none := funext ih
    rw [hu, hs]
    exact (I.twiceIn_step4_nat (fun o => optC o (fun (r : Int) => k (.exit 0) { n := 30, t := [(6, (.int .i64 r))], h := [] }) none) x0 x1 s_.1 s_.2.1 s_.2.2 (I.twiceIn_run4 x0 x1 n) (fun d => some d) none).symm
noncomputable def I.twiceIn_tree {α : Type} (net : List Int) (set_ : Int) (leaf0_ : Int → α) (fail_ : α) : α :=
  (optC (I.twiceIn_run4 net set_ FUEL (0, 0, 0)) (fun qy_4 => (leaf0_ qy_4)) fail_)
theorem I.twiceIn_tree_nat {α γ : Type} (g : α → γ) (net : List Int) (set_ : Int) (leaf0_ : Int → α) (fail_ : α) : g (I.twiceIn_tree net set_ leaf0_ fail_) = I.twiceIn_tree net set_ (fun d => g (leaf0_ d)) (g fail_) := by
  unfold I.twiceIn_tree; simp only [apply_cnd g, apply_optC g, apply_sumC g]
noncomputable def I.twiceIn_t (net : List Int) (set_ : Int) : Option (Int) := I.twiceIn_tree net set_ (fun d => some d) none
theorem I.twiceIn_den (net : List Int) (set_ : Int) (κ : V → List E → R) : I.twiceIn_F [.ro false (.ints .i64 net), .int .i64 set_] [] κ = optC (I.twiceIn_t net set_) (fun (r : Int) => κ (.int .i64 r) []) none := by
  have hu : I.twiceIn_F [.ro false (.ints .i64 net), .int .i64 set_] [] κ = I.twiceIn_tree net set_ (fun d => κ (.int .i64 d) []) none := by
    refine Eq.trans (show I.twiceIn_F [.ro false (.ints .i64 net), .int .i64 set_] [] κ = (I.twiceIn_L4 FUEL { n := 30, t := [(0, (.ro false (.ints .i64 net))), (1, (.int .i64 set_)), (5, (.int .i64 0)), (6, (.int .i64 0)), (7, (.int .i64 0))], h := [] } (I.twiceIn_k4 κ)) by kernel_rfl) ?_
    refine (I.twiceIn_L4_run net set_ FUEL (0, 0, 0) (I.twiceIn_k4 κ)).trans (optC_congr (fun qy_4 => ?_))
    kernel_rfl
  rw [hu]
  exact (I.twiceIn_tree_nat (fun o => optC o (fun (r : Int) => κ (.int .i64 r) []) none) net set_ (fun d => some d) none).symm
noncomputable def I.twiceIn_s : D.Spec where
  keep := false
  pure := true
  ds := [.int .i64, .invalid]
  sp := fun args h κ => match args, h with
    | [.ro false (.ints .i64 net), .int .i64 set_], [] => optC (I.twiceIn_t net set_) (fun (r : Int) => κ (.int .i64 r) []) none
    | _, _ => none
theorem I.twiceIn_ok : SpecOk Try.prog 97 I.twiceIn_s := by
  refine SpecOk.of TDok mixed (T := I.twiceIn_T) ?_ (ann := I.twiceIn_ann) Try.func97 rfl (by decide +kernel) ?_ ?_ ?_
  · intro p hp
    simp only [I.twiceIn_T, List.mem_cons, List.not_mem_nil, or_false] at hp
    rcases hp with rfl | rfl
    · exact I.hasPlace_ok
    · exact I.ballIn_ok
  · intro args h κ r hh
    simp only [I.twiceIn_s] at hh
    split at hh
    · exact (I.twiceIn_den _ _ κ).trans hh
    · cases hh
  · intro args h κ r hh
    simp only [I.twiceIn_s] at hh ⊢
    split at hh
    · exact optC_law2 (F := fun (r : Int) κ => κ (.int .i64 r) []) (fun b κ r hb => ⟨_, _, hb, fun _ => rfl⟩) hh
    · cases hh
  · intro _ args h κ r hh
    simp only [I.twiceIn_s] at hh
    split at hh
    · exact ⟨rfl, fun _ => rfl⟩
    · cases hh

-- loop.example/guardsonnets/impl.needsAllIn
noncomputable def I.needsAllIn_T : List (Nat × D.Spec) := [(97, I.twiceIn_s), (67, I.hasPlace_s), (77, I.ballIn_s)]
def I.needsAllIn_ann : Nat → List Nat × List Nat
  | 3 => ([0, 1, 5, 6], [4])
  | _ => ([], [])
noncomputable def I.needsAllIn_F (args : List V) (h : List E) (κ : V → List E → R) : R := funC TD (tableK I.needsAllIn_T) I.needsAllIn_ann (drawOk (tableP I.needsAllIn_T)) FUEL Try.f95 args h κ
noncomputable def I.needsAllIn_L3 (n : Nat) (σ : St) (k : X → St → R) : R := iterC 0 (fun σ k => denC TD (tableK I.needsAllIn_T) I.needsAllIn_ann (drawOk (tableP I.needsAllIn_T)) 0 FUEL ((findLoop 3 (Try.f95.body.getD .skip)).getD .skip) σ k) [0, 1, 5, 6] [4] n σ k
noncomputable def I.needsAllIn_k3 (κ : V → List E → R) : X → St → R := (afterC TD (tableK I.needsAllIn_T) I.needsAllIn_ann (drawOk (tableP I.needsAllIn_T)) 0 FUEL 3 (Try.f95.body.getD .skip) (finC TD 0 Try.f95 κ)).getD (fun _ _ => none)
noncomputable def I.needsAllIn_step3 {α : Type} (x0 : List Int) (x1 : Int) (x5 : Int) (x6 : Int) (next_ : Int → α) (out0_ : Bool → α) (out1_ : Unit → α) (fail_ : α) : α :=
  (bif decide (x6 < (↑x0.length : Int)) then (optC (I.hasPlace_t x1 x6) (fun c_2 => (bif c_2 then (optC (I.ballIn_t x0 x6) (fun c_3 => (bif bits BinOp.andNot IntKind.i64 c_3 x5 == 0 then (out0_ false) else (next_ (IntKind.i64.wrap (x6 + 1))))) fail_) else (next_ (IntKind.i64.wrap (x6 + 1))))) fail_) else (out1_ ()))
theorem I.needsAllIn_step3_nat {α γ : Type} (g : α → γ) (x0 : List Int) (x1 : Int) (x5 : Int) (x6 : Int) (next_ : Int → α) (out0_ : Bool → α) (out1_ : Unit → α) (fail_ : α) : g (I.needsAllIn_step3 x0 x1 x5 x6 next_ out0_ out1_ fail_) = I.needsAllIn_step3 x0 x1 x5 x6 (fun s => g (next_ s)) (fun d => g (out0_ d)) (fun d => g (out1_ d)) (g fail_) := by
  unfold I.needsAllIn_step3; simp only [apply_cnd g, apply_optC g, apply_sumC g]
noncomputable def I.needsAllIn_run3 (x0 : List Int) (x1 : Int) (x5 : Int) : Nat → Int → Option ((Bool) ⊕ (Unit))
  | 0, _ => none
  | n + 1, s_ => I.needsAllIn_step3 x0 x1 x5 s_ (I.needsAllIn_run3 x0 x1 x5 n) (fun d => some ((Sum.inl d))) (fun d => some ((Sum.inr d))) none
theorem I.needsAllIn_L3_run (x0 : List Int) (x1 : Int) (x5 : Int) (n : Nat) (s_ : Int) (k : X → St → R) : I.needsAllIn_L3 n { n := 27, t := [(0, (.ro false (.ints .i64 x0))), (1, (.int .i64 x1)), (5, (.int .i64 x5)), (6, (.int .i64 s_))], h := [] } k = optC (I.needsAllIn_run3 x0 x1 x5 n s_) (fun (r : (Bool) ⊕ (Unit)) => (sumC r (fun (r : Bool) => k (.ret) { n := 27, t := [(4, (.bool r))], h := [] }) (fun (r : Unit) => k (.exit 0) { n := 27, t := [(4, .junk)], h := [] }))) none := by
  induction n generalizing s_ with
  | zero => rfl
  | succ n ih =>
    have hu : I.needsAllIn_L3 (n + 1) { n := 27, t := [(0, (.ro false (.ints .i64 x0))), (1, (.int .i64 x1)), (5, (.int .i64 x5)), (6, (.int .i64 s_))], h := [] } k = I.needsAllIn_step3 x0 x1 x5 s_ (fun s_ => I.needsAllIn_L3 n { n := 27, t := [(0, (.ro false (.ints .i64 x0))), (1, (.int .i64 x1)), (5, (.int .i64 x5)), (6, (.int .i64 s_))], h := [] } k) (fun d => k (.ret) { n := 27, t := [(4, (.bool d))], h := [] }) (fun d => k (.exit 0) { n := 27, t := [(4, .junk)], h := [] }) none := by
      kernel_rfl
    have hs : (fun s_ : Int => I.needsAllIn_L3 n { n := 27, t := [(0, (.ro false (.ints .i64 x0))), (1, (.int .i64 x1)), (5, (.int .i64 x5)), (6, (.int .i64 s_))], h := [] } k) = fun s_ => optC (I.needsAllIn_run3 x0 x1 x5 n s_) (fun (r : (Bool) ⊕ (Unit)) => (sumC r (fun (r : Bool) => k (.ret) { n := 27, t := [(4, (.bool r))], h := [] }) (fun (r : Unit) => k (.exit 0) { n := 27, t := [(4, .junk)], h := [] }))) none := funext ih
    rw [hu, hs]
    exact (I.needsAllIn_step3_nat (fun o => optC o (fun (r : (Bool) ⊕ (Unit)) => (sumC r (fun (r : Bool) => k (.ret) { n := 27, t := [(4, (.bool r))], h := [] }) (fun (r : Unit) => k (.exit 0) { n := 27, t := [(4, .junk)], h := [] }))) none) x0 x1 x5 s_ (I.needsAllIn_run3 x0 x1 x5 n) (fun d => some ((Sum.inl d))) (fun d => some ((Sum.inr d))) none).symm
noncomputable def I.needsAllIn_tree {α : Type} (net : List Int) (set_ : Int) (leaf0_ : Bool → α) (fail_ : α) : α :=
  (optC (I.twiceIn_t net set_) (fun c_1 => (optC (I.needsAllIn_run3 net set_ c_1 FUEL 0) (fun qy_4 => (sumC qy_4 (fun (qy_4 : Bool) => (leaf0_ qy_4)) (fun (qy_4 : Unit) => (leaf0_ true)))) fail_)) fail_)
theorem I.needsAllIn_tree_nat {α γ : Type} (g : α → γ) (net : List Int) (set_ : Int) (leaf0_ : Bool → α) (fail_ : α) : g (I.needsAllIn_tree net set_ leaf0_ fail_) = I.needsAllIn_tree net set_ (fun d => g (leaf0_ d)) (g fail_) := by
  unfold I.needsAllIn_tree; simp only [apply_cnd g, apply_optC g, apply_sumC g]
noncomputable def I.needsAllIn_t (net : List Int) (set_ : Int) : Option (Bool) := I.needsAllIn_tree net set_ (fun d => some d) none
theorem I.needsAllIn_den (net : List Int) (set_ : Int) (κ : V → List E → R) : I.needsAllIn_F [.ro false (.ints .i64 net), .int .i64 set_] [] κ = optC (I.needsAllIn_t net set_) (fun (r : Bool) => κ (.bool r) []) none := by
  have hu : I.needsAllIn_F [.ro false (.ints .i64 net), .int .i64 set_] [] κ = I.needsAllIn_tree net set_ (fun d => κ (.bool d) []) none := by
    refine Eq.trans (show I.needsAllIn_F [.ro false (.ints .i64 net), .int .i64 set_] [] κ = (optC (I.twiceIn_t net set_) (fun c_1 => (I.needsAllIn_L3 FUEL { n := 27, t := [(0, (.ro false (.ints .i64 net))), (1, (.int .i64 set_)), (5, (.int .i64 c_1)), (6, (.int .i64 0))], h := [] } (I.needsAllIn_k3 κ))) none) by kernel_rfl) ?_
    refine optC_congr (fun c_1 => ?_)
    refine (I.needsAllIn_L3_run net set_ c_1 FUEL 0 (I.needsAllIn_k3 κ)).trans (optC_congr (fun qy_4 => ?_))
    rcases qy_4 with qy_4 | qy_4
    · kernel_rfl
    · kernel_rfl
  rw [hu]
  exact (I.needsAllIn_tree_nat (fun o => optC o (fun (r : Bool) => κ (.bool r) []) none) net set_ (fun d => some d) none).symm
noncomputable def I.needsAllIn_s : D.Spec where
  keep := false
  pure := true
  ds := [.int .i64, .invalid]
  sp := fun args h κ => match args, h with
    | [.ro false (.ints .i64 net), .int .i64 set_], [] => optC (I.needsAllIn_t net set_) (fun (r : Bool) => κ (.bool r) []) none
    | _, _ => none
theorem I.needsAllIn_ok : SpecOk Try.prog 95 I.needsAllIn_s := by
  refine SpecOk.of TDok mixed (T := I.needsAllIn_T) ?_ (ann := I.needsAllIn_ann) Try.func95 rfl (by decide +kernel) ?_ ?_ ?_
  · intro p hp
    simp only [I.needsAllIn_T, List.mem_cons, List.not_mem_nil, or_false] at hp
    rcases hp with rfl | rfl | rfl
    · exact I.twiceIn_ok
    · exact I.hasPlace_ok
    · exact I.ballIn_ok
  · intro args h κ r hh
    simp only [I.needsAllIn_s] at hh
    split at hh
    · exact (I.needsAllIn_den _ _ κ).trans hh
    · cases hh
  · intro args h κ r hh
    simp only [I.needsAllIn_s] at hh ⊢
    split at hh
    · exact optC_law2 (F := fun (r : Bool) κ => κ (.bool r) []) (fun b κ r hb => ⟨_, _, hb, fun _ => rfl⟩) hh
    · cases hh
  · intro _ args h κ r hh
    simp only [I.needsAllIn_s] at hh
    split at hh
    · exact ⟨rfl, fun _ => rfl⟩
    · cases hh

-- loop.example/guardsonnets/impl.with
noncomputable def I.with_T : List (Nat × D.Spec) := []
def I.with_ann : Nat → List Nat × List Nat
  | _ => ([], [])
noncomputable def I.with_F (args : List V) (h : List E) (κ : V → List E → R) : R := funC TD (tableK I.with_T) I.with_ann (drawOk (tableP I.with_T)) FUEL Try.f96 args h κ
noncomputable def I.with_tree {α : Type} (set_ : Int) (place : Int) (leaf0_ : Int → α) (fail_ : α) : α :=
  (bif decide (place < 0) then fail_ else (leaf0_ (bits BinOp.or IntKind.i64 set_ (IntKind.i64.wrap (1 * 2 ^ min place.toNat IntKind.i64.bits)))))
theorem I.with_tree_nat {α γ : Type} (g : α → γ) (set_ : Int) (place : Int) (leaf0_ : Int → α) (fail_ : α) : g (I.with_tree set_ place leaf0_ fail_) = I.with_tree set_ place (fun d => g (leaf0_ d)) (g fail_) := by
  unfold I.with_tree; simp only [apply_cnd g, apply_optC g, apply_sumC g]
noncomputable def I.with_t (set_ : Int) (place : Int) : Option (Int) := I.with_tree set_ place (fun d => some d) none
theorem I.with_den (set_ : Int) (place : Int) (κ : V → List E → R) : I.with_F [.int .i64 set_, .int .i64 place] [] κ = optC (I.with_t set_ place) (fun (r : Int) => κ (.int .i64 r) []) none := by
  have hu : I.with_F [.int .i64 set_, .int .i64 place] [] κ = I.with_tree set_ place (fun d => κ (.int .i64 d) []) none := by
    kernel_rfl
  rw [hu]
  exact (I.with_tree_nat (fun o => optC o (fun (r : Int) => κ (.int .i64 r) []) none) set_ place (fun d => some d) none).symm
noncomputable def I.with_s : D.Spec where
  keep := false
  pure := true
  ds := [.invalid, .invalid]
  sp := fun args h κ => match args, h with
    | [.int .i64 set_, .int .i64 place], [] => optC (I.with_t set_ place) (fun (r : Int) => κ (.int .i64 r) []) none
    | _, _ => none
theorem I.with_ok : SpecOk Try.prog 96 I.with_s := by
  refine SpecOk.of TDok mixed (T := I.with_T) ?_ (ann := I.with_ann) Try.func96 rfl (by decide +kernel) ?_ ?_ ?_
  · intro p hp; cases hp
  · intro args h κ r hh
    simp only [I.with_s] at hh
    split at hh
    · exact (I.with_den _ _ κ).trans hh
    · cases hh
  · intro args h κ r hh
    simp only [I.with_s] at hh ⊢
    split at hh
    · exact optC_law2 (F := fun (r : Int) κ => κ (.int .i64 r) []) (fun b κ r hb => ⟨_, _, hb, fun _ => rfl⟩) hh
    · cases hh
  · intro _ args h κ r hh
    simp only [I.with_s] at hh
    split at hh
    · exact ⟨rfl, fun _ => rfl⟩
    · cases hh

-- loop.example/guardsonnets/impl.fullNeedsIn
noncomputable def I.fullNeedsIn_T : List (Nat × D.Spec) := [(95, I.needsAllIn_s), (67, I.hasPlace_s), (96, I.with_s)]
def I.fullNeedsIn_ann : Nat → List Nat × List Nat
  | 4 => ([0, 1, 5], [4])
  | _ => ([], [])
noncomputable def I.fullNeedsIn_F (args : List V) (h : List E) (κ : V → List E → R) : R := funC TD (tableK I.fullNeedsIn_T) I.fullNeedsIn_ann (drawOk (tableP I.fullNeedsIn_T)) FUEL Try.f94 args h κ
noncomputable def I.fullNeedsIn_L4 (n : Nat) (σ : St) (k : X → St → R) : R := iterC 0 (fun σ k => denC TD (tableK I.fullNeedsIn_T) I.fullNeedsIn_ann (drawOk (tableP I.fullNeedsIn_T)) 0 FUEL ((findLoop 4 (Try.f94.body.getD .skip)).getD .skip) σ k) [0, 1, 5] [4] n σ k
noncomputable def I.fullNeedsIn_k4 (κ : V → List E → R) : X → St → R := (afterC TD (tableK I.fullNeedsIn_T) I.fullNeedsIn_ann (drawOk (tableP I.fullNeedsIn_T)) 0 FUEL 4 (Try.f94.body.getD .skip) (finC TD 0 Try.f94 κ)).getD (fun _ _ => none)
noncomputable def I.fullNeedsIn_step4 {α : Type} (x0 : List Int) (x1 : Int) (x5 : Int) (next_ : Int → α) (out0_ : Bool → α) (out1_ : Unit → α) (fail_ : α) : α :=
  (bif decide (x5 < (↑x0.length : Int)) then (optC (I.hasPlace_t x1 x5) (fun c_2 => (bif !c_2 then (optC (I.with_t x1 x5) (fun c_3 => (optC (I.needsAllIn_t x0 c_3) (fun c_4 => (bif c_4 then (out0_ false) else (next_ (IntKind.i64.wrap (x5 + 1))))) fail_)) fail_) else (next_ (IntKind.i64.wrap (x5 + 1))))) fail_) else (out1_ ()))
theorem I.fullNeedsIn_step4_nat {α γ : Type} (g : α → γ) (x0 : List Int) (x1 : Int) (x5 : Int) (next_ : Int → α) (out0_ : Bool → α) (out1_ : Unit → α) (fail_ : α) : g (I.fullNeedsIn_step4 x0 x1 x5 next_ out0_ out1_ fail_) = I.fullNeedsIn_step4 x0 x1 x5 (fun s => g (next_ s)) (fun d => g (out0_ d)) (fun d => g (out1_ d)) (g fail_) := by
  unfold I.fullNeedsIn_step4; simp only [apply_cnd g, apply_optC g, apply_sumC g]
noncomputable def I.fullNeedsIn_run4 (x0 : List Int) (x1 : Int) : Nat → Int → Option ((Bool) ⊕ (Unit))
  | 0, _ => none
  | n + 1, s_ => I.fullNeedsIn_step4 x0 x1 s_ (I.fullNeedsIn_run4 x0 x1 n) (fun d => some ((Sum.inl d))) (fun d => some ((Sum.inr d))) none
theorem I.fullNeedsIn_L4_run (x0 : List Int) (x1 : Int) (n : Nat) (s_ : Int) (k : X → St → R) : I.fullNeedsIn_L4 n { n := 27, t := [(0, (.ro false (.ints .i64 x0))), (1, (.int .i64 x1)), (5, (.int .i64 s_))], h := [] } k = optC (I.fullNeedsIn_run4 x0 x1 n s_) (fun (r : (Bool) ⊕ (Unit)) => (sumC r (fun (r : Bool) => k (.ret) { n := 27, t := [(4, (.bool r))], h := [] }) (fun (r : Unit) => k (.exit 0) { n := 27, t := [(4, .junk)], h := [] }))) none := by
  induction n generalizing s_ with
  | zero => rfl
  | succ n ih =>
    have hu : I.fullNeedsIn_L4 (n + 1) { n := 27, t := [(0, (.ro false (.ints .i64 x0))), (1, (.int .i64 x1)), (5, (.int .i64 s_))], h := [] } k = I.fullNeedsIn_step4 x0 x1 s_ (fun s_ => I.fullNeedsIn_L4 n { n := 27, t := [(0, (.ro false (.ints .i64 x0))), (1, (.int .i64 x1)), (5, (.int .i64 s_))], h := [] } k) (fun d => k (.ret) { n := 27, t := [(4, (.bool d))], h := [] }) (fun d => k (.exit 0) { n := 27, t := [(4, .junk)], h := [] }) none := by
      kernel_rfl
    have hs : (fun s_ : Int => I.fullNeedsIn_L4 n { n := 27, t := [(0, (.ro false (.ints .i64 x0))), (1, (.int .i64 x1)), (5, (.int .i64 s_))], h := [] } k) = fun s_ => optC (I.fullNeedsIn_run4 x0 x1 n s_) (fun (r : (Bool) ⊕ (Unit)) => (sumC r (fun (r : Bool) => k (.ret) { n := 27, t := [(4, (.bool r))], h := [] }) (fun (r : Unit) => k (.exit 0) { n := 27, t := [(4, .junk)], h := [] }))) none := funext ih
    rw [hu, hs]
    exact (I.fullNeedsIn_step4_nat (fun o => optC o (fun (r : (Bool) ⊕ (Unit)) => (sumC r (fun (r : Bool) => k (.ret) { n := 27, t := [(4, (.bool r))], h := [] }) (fun (r : Unit) => k (.exit 0) { n := 27, t := [(4, .junk)], h := [] }))) none) x0 x1 s_ (I.fullNeedsIn_run4 x0 x1 n) (fun d => some ((Sum.inl d))) (fun d => some ((Sum.inr d))) none).symm
noncomputable def I.fullNeedsIn_tree {α : Type} (net : List Int) (set_ : Int) (leaf0_ : Bool → α) (fail_ : α) : α :=
  (optC (I.needsAllIn_t net set_) (fun c_1 => (bif !c_1 then (leaf0_ false) else (optC (I.fullNeedsIn_run4 net set_ FUEL 0) (fun qy_5 => (sumC qy_5 (fun (qy_5 : Bool) => (leaf0_ qy_5)) (fun (qy_5 : Unit) => (leaf0_ true)))) fail_))) fail_)
theorem I.fullNeedsIn_tree_nat {α γ : Type} (g : α → γ) (net : List Int) (set_ : Int) (leaf0_ : Bool → α) (fail_ : α) : g (I.fullNeedsIn_tree net set_ leaf0_ fail_) = I.fullNeedsIn_tree net set_ (fun d => g (leaf0_ d)) (g fail_) := by
  unfold I.fullNeedsIn_tree; simp only [apply_cnd g, apply_optC g, apply_sumC g]
noncomputable def I.fullNeedsIn_t (net : List Int) (set_ : Int) : Option (Bool) := I.fullNeedsIn_tree net set_ (fun d => some d) none
theorem I.fullNeedsIn_den (net : List Int) (set_ : Int) (κ : V → List E → R) : I.fullNeedsIn_F [.ro false (.ints .i64 net), .int .i64 set_] [] κ = optC (I.fullNeedsIn_t net set_) (fun (r : Bool) => κ (.bool r) []) none := by
  have hu : I.fullNeedsIn_F [.ro false (.ints .i64 net), .int .i64 set_] [] κ = I.fullNeedsIn_tree net set_ (fun d => κ (.bool d) []) none := by
    refine Eq.trans (show I.fullNeedsIn_F [.ro false (.ints .i64 net), .int .i64 set_] [] κ = (optC (I.needsAllIn_t net set_) (fun c_1 => (bif !c_1 then (κ (.bool false) []) else (I.fullNeedsIn_L4 FUEL { n := 27, t := [(0, (.ro false (.ints .i64 net))), (1, (.int .i64 set_)), (5, (.int .i64 0))], h := [] } (I.fullNeedsIn_k4 κ)))) none) by kernel_rfl) ?_
    refine optC_congr (fun c_1 => ?_)
    refine cnd_congr ?_ ?_
    · kernel_rfl
    · refine (I.fullNeedsIn_L4_run net set_ FUEL 0 (I.fullNeedsIn_k4 κ)).trans (optC_congr (fun qy_5 => ?_))
      rcases qy_5 with qy_5 | qy_5
      · kernel_rfl
      · kernel_rfl
  rw [hu]
  exact (I.fullNeedsIn_tree_nat (fun o => optC o (fun (r : Bool) => κ (.bool r) []) none) net set_ (fun d => some d) none).symm
noncomputable def I.fullNeedsIn_s : D.Spec where
  keep := false
  pure := true
  ds := [.int .i64, .invalid]
  sp := fun args h κ => match args, h with
    | [.ro false (.ints .i64 net), .int .i64 set_], [] => optC (I.fullNeedsIn_t net set_) (fun (r : Bool) => κ (.bool r) []) none
    | _, _ => none
theorem I.fullNeedsIn_ok : SpecOk Try.prog 94 I.fullNeedsIn_s := by
  refine SpecOk.of TDok mixed (T := I.fullNeedsIn_T) ?_ (ann := I.fullNeedsIn_ann) Try.func94 rfl (by decide +kernel) ?_ ?_ ?_
  · intro p hp
    simp only [I.fullNeedsIn_T, List.mem_cons, List.not_mem_nil, or_false] at hp
    rcases hp with rfl | rfl | rfl
    · exact I.needsAllIn_ok
    · exact I.hasPlace_ok
    · exact I.with_ok
  · intro args h κ r hh
    simp only [I.fullNeedsIn_s] at hh
    split at hh
    · exact (I.fullNeedsIn_den _ _ κ).trans hh
    · cases hh
  · intro args h κ r hh
    simp only [I.fullNeedsIn_s] at hh ⊢
    split at hh
    · exact optC_law2 (F := fun (r : Bool) κ => κ (.bool r) []) (fun b κ r hb => ⟨_, _, hb, fun _ => rfl⟩) hh
    · cases hh
  · intro _ args h κ r hh
    simp only [I.fullNeedsIn_s] at hh
    split at hh
    · exact ⟨rfl, fun _ => rfl⟩
    · cases hh

-- loop.example/guardsonnets/impl.without
noncomputable def I.without_T : List (Nat × D.Spec) := []
def I.without_ann : Nat → List Nat × List Nat
  | _ => ([], [])
noncomputable def I.without_F (args : List V) (h : List E) (κ : V → List E → R) : R := funC TD (tableK I.without_T) I.without_ann (drawOk (tableP I.without_T)) FUEL Try.f92 args h κ
noncomputable def I.without_tree {α : Type} (set_ : Int) (place : Int) (leaf0_ : Int → α) (fail_ : α) : α :=
  (bif decide (place < 0) then fail_ else (leaf0_ (bits BinOp.andNot IntKind.i64 set_ (IntKind.i64.wrap (1 * 2 ^ min place.toNat IntKind.i64.bits)))))
theorem I.without_tree_nat {α γ : Type} (g : α → γ) (set_ : Int) (place : Int) (leaf0_ : Int → α) (fail_ : α) : g (I.without_tree set_ place leaf0_ fail_) = I.without_tree set_ place (fun d => g (leaf0_ d)) (g fail_) := by
  unfold I.without_tree; simp only [apply_cnd g, apply_optC g, apply_sumC g]
noncomputable def I.without_t (set_ : Int) (place : Int) : Option (Int) := I.without_tree set_ place (fun d => some d) none
theorem I.without_den (set_ : Int) (place : Int) (κ : V → List E → R) : I.without_F [.int .i64 set_, .int .i64 place] [] κ = optC (I.without_t set_ place) (fun (r : Int) => κ (.int .i64 r) []) none := by
  have hu : I.without_F [.int .i64 set_, .int .i64 place] [] κ = I.without_tree set_ place (fun d => κ (.int .i64 d) []) none := by
    kernel_rfl
  rw [hu]
  exact (I.without_tree_nat (fun o => optC o (fun (r : Int) => κ (.int .i64 r) []) none) set_ place (fun d => some d) none).symm
noncomputable def I.without_s : D.Spec where
  keep := false
  pure := true
  ds := [.invalid, .invalid]
  sp := fun args h κ => match args, h with
    | [.int .i64 set_, .int .i64 place], [] => optC (I.without_t set_ place) (fun (r : Int) => κ (.int .i64 r) []) none
    | _, _ => none
theorem I.without_ok : SpecOk Try.prog 92 I.without_s := by
  refine SpecOk.of TDok mixed (T := I.without_T) ?_ (ann := I.without_ann) Try.func92 rfl (by decide +kernel) ?_ ?_ ?_
  · intro p hp; cases hp
  · intro args h κ r hh
    simp only [I.without_s] at hh
    split at hh
    · exact (I.without_den _ _ κ).trans hh
    · cases hh
  · intro args h κ r hh
    simp only [I.without_s] at hh ⊢
    split at hh
    · exact optC_law2 (F := fun (r : Int) κ => κ (.int .i64 r) []) (fun b κ r hb => ⟨_, _, hb, fun _ => rfl⟩) hh
    · cases hh
  · intro _ args h κ r hh
    simp only [I.without_s] at hh
    split at hh
    · exact ⟨rfl, fun _ => rfl⟩
    · cases hh

-- loop.example/guardsonnets/impl.leastWatchIn
noncomputable def I.leastWatchIn_T : List (Nat × D.Spec) := [(86, I.watchIn_s), (67, I.hasPlace_s), (92, I.without_s)]
def I.leastWatchIn_ann : Nat → List Nat × List Nat
  | 4 => ([0, 1, 5], [4])
  | _ => ([], [])
noncomputable def I.leastWatchIn_F (args : List V) (h : List E) (κ : V → List E → R) : R := funC TD (tableK I.leastWatchIn_T) I.leastWatchIn_ann (drawOk (tableP I.leastWatchIn_T)) FUEL Try.f79 args h κ
noncomputable def I.leastWatchIn_L4 (n : Nat) (σ : St) (k : X → St → R) : R := iterC 0 (fun σ k => denC TD (tableK I.leastWatchIn_T) I.leastWatchIn_ann (drawOk (tableP I.leastWatchIn_T)) 0 FUEL ((findLoop 4 (Try.f79.body.getD .skip)).getD .skip) σ k) [0, 1, 5] [4] n σ k
noncomputable def I.leastWatchIn_k4 (κ : V → List E → R) : X → St → R := (afterC TD (tableK I.leastWatchIn_T) I.leastWatchIn_ann (drawOk (tableP I.leastWatchIn_T)) 0 FUEL 4 (Try.f79.body.getD .skip) (finC TD 0 Try.f79 κ)).getD (fun _ _ => none)
noncomputable def I.leastWatchIn_step4 {α : Type} (x0 : List Int) (x1 : Int) (x5 : Int) (next_ : Int → α) (out0_ : Bool → α) (out1_ : Unit → α) (fail_ : α) : α :=
  (bif decide (x5 < (↑x0.length : Int)) then (optC (I.hasPlace_t x1 x5) (fun c_2 => (bif c_2 then (optC (I.without_t x1 x5) (fun c_3 => (optC (I.watchIn_t x0 c_3) (fun c_4 => (bif c_4 then (out0_ false) else (next_ (IntKind.i64.wrap (x5 + 1))))) fail_)) fail_) else (next_ (IntKind.i64.wrap (x5 + 1))))) fail_) else (out1_ ()))
theorem I.leastWatchIn_step4_nat {α γ : Type} (g : α → γ) (x0 : List Int) (x1 : Int) (x5 : Int) (next_ : Int → α) (out0_ : Bool → α) (out1_ : Unit → α) (fail_ : α) : g (I.leastWatchIn_step4 x0 x1 x5 next_ out0_ out1_ fail_) = I.leastWatchIn_step4 x0 x1 x5 (fun s => g (next_ s)) (fun d => g (out0_ d)) (fun d => g (out1_ d)) (g fail_) := by
  unfold I.leastWatchIn_step4; simp only [apply_cnd g, apply_optC g, apply_sumC g]
noncomputable def I.leastWatchIn_run4 (x0 : List Int) (x1 : Int) : Nat → Int → Option ((Bool) ⊕ (Unit))
  | 0, _ => none
  | n + 1, s_ => I.leastWatchIn_step4 x0 x1 s_ (I.leastWatchIn_run4 x0 x1 n) (fun d => some ((Sum.inl d))) (fun d => some ((Sum.inr d))) none
theorem I.leastWatchIn_L4_run (x0 : List Int) (x1 : Int) (n : Nat) (s_ : Int) (k : X → St → R) : I.leastWatchIn_L4 n { n := 26, t := [(0, (.ro false (.ints .i64 x0))), (1, (.int .i64 x1)), (5, (.int .i64 s_))], h := [] } k = optC (I.leastWatchIn_run4 x0 x1 n s_) (fun (r : (Bool) ⊕ (Unit)) => (sumC r (fun (r : Bool) => k (.ret) { n := 26, t := [(4, (.bool r))], h := [] }) (fun (r : Unit) => k (.exit 0) { n := 26, t := [(4, .junk)], h := [] }))) none := by
  induction n generalizing s_ with
  | zero => rfl
  | succ n ih =>
    have hu : I.leastWatchIn_L4 (n + 1) { n := 26, t := [(0, (.ro false (.ints .i64 x0))), (1, (.int .i64 x1)), (5, (.int .i64 s_))], h := [] } k = I.leastWatchIn_step4 x0 x1 s_ (fun s_ => I.leastWatchIn_L4 n { n := 26, t := [(0, (.ro false (.ints .i64 x0))), (1, (.int .i64 x1)), (5, (.int .i64 s_))], h := [] } k) (fun d => k (.ret) { n := 26, t := [(4, (.bool d))], h := [] }) (fun d => k (.exit 0) { n := 26, t := [(4, .junk)], h := [] }) none := by
      kernel_rfl
    have hs : (fun s_ : Int => I.leastWatchIn_L4 n { n := 26, t := [(0, (.ro false (.ints .i64 x0))), (1, (.int .i64 x1)), (5, (.int .i64 s_))], h := [] } k) = fun s_ => optC (I.leastWatchIn_run4 x0 x1 n s_) (fun (r : (Bool) ⊕ (Unit)) => (sumC r (fun (r : Bool) => k (.ret) { n := 26, t := [(4, (.bool r))], h := [] }) (fun (r : Unit) => k (.exit 0) { n := 26, t := [(4, .junk)], h := [] }))) none := funext ih
    rw [hu, hs]
    exact (I.leastWatchIn_step4_nat (fun o => optC o (fun (r : (Bool) ⊕ (Unit)) => (sumC r (fun (r : Bool) => k (.ret) { n := 26, t := [(4, (.bool r))], h := [] }) (fun (r : Unit) => k (.exit 0) { n := 26, t := [(4, .junk)], h := [] }))) none) x0 x1 s_ (I.leastWatchIn_run4 x0 x1 n) (fun d => some ((Sum.inl d))) (fun d => some ((Sum.inr d))) none).symm
noncomputable def I.leastWatchIn_tree {α : Type} (net : List Int) (set_ : Int) (leaf0_ : Bool → α) (fail_ : α) : α :=
  (optC (I.watchIn_t net set_) (fun c_1 => (bif !c_1 then (leaf0_ false) else (optC (I.leastWatchIn_run4 net set_ FUEL 0) (fun qy_5 => (sumC qy_5 (fun (qy_5 : Bool) => (leaf0_ qy_5)) (fun (qy_5 : Unit) => (leaf0_ true)))) fail_))) fail_)
theorem I.leastWatchIn_tree_nat {α γ : Type} (g : α → γ) (net : List Int) (set_ : Int) (leaf0_ : Bool → α) (fail_ : α) : g (I.leastWatchIn_tree net set_ leaf0_ fail_) = I.leastWatchIn_tree net set_ (fun d => g (leaf0_ d)) (g fail_) := by
  unfold I.leastWatchIn_tree; simp only [apply_cnd g, apply_optC g, apply_sumC g]
noncomputable def I.leastWatchIn_t (net : List Int) (set_ : Int) : Option (Bool) := I.leastWatchIn_tree net set_ (fun d => some d) none
theorem I.leastWatchIn_den (net : List Int) (set_ : Int) (κ : V → List E → R) : I.leastWatchIn_F [.ro false (.ints .i64 net), .int .i64 set_] [] κ = optC (I.leastWatchIn_t net set_) (fun (r : Bool) => κ (.bool r) []) none := by
  have hu : I.leastWatchIn_F [.ro false (.ints .i64 net), .int .i64 set_] [] κ = I.leastWatchIn_tree net set_ (fun d => κ (.bool d) []) none := by
    refine Eq.trans (show I.leastWatchIn_F [.ro false (.ints .i64 net), .int .i64 set_] [] κ = (optC (I.watchIn_t net set_) (fun c_1 => (bif !c_1 then (κ (.bool false) []) else (I.leastWatchIn_L4 FUEL { n := 26, t := [(0, (.ro false (.ints .i64 net))), (1, (.int .i64 set_)), (5, (.int .i64 0))], h := [] } (I.leastWatchIn_k4 κ)))) none) by kernel_rfl) ?_
    refine optC_congr (fun c_1 => ?_)
    refine cnd_congr ?_ ?_
    · kernel_rfl
    · refine (I.leastWatchIn_L4_run net set_ FUEL 0 (I.leastWatchIn_k4 κ)).trans (optC_congr (fun qy_5 => ?_))
      rcases qy_5 with qy_5 | qy_5
      · kernel_rfl
      · kernel_rfl
  rw [hu]
  exact (I.leastWatchIn_tree_nat (fun o => optC o (fun (r : Bool) => κ (.bool r) []) none) net set_ (fun d => some d) none).symm
noncomputable def I.leastWatchIn_s : D.Spec where
  keep := false
  pure := true
  ds := [.int .i64, .invalid]
  sp := fun args h κ => match args, h with
    | [.ro false (.ints .i64 net), .int .i64 set_], [] => optC (I.leastWatchIn_t net set_) (fun (r : Bool) => κ (.bool r) []) none
    | _, _ => none
theorem I.leastWatchIn_ok : SpecOk Try.prog 79 I.leastWatchIn_s := by
  refine SpecOk.of TDok mixed (T := I.leastWatchIn_T) ?_ (ann := I.leastWatchIn_ann) Try.func79 rfl (by decide +kernel) ?_ ?_ ?_
  · intro p hp
    simp only [I.leastWatchIn_T, List.mem_cons, List.not_mem_nil, or_false] at hp
    rcases hp with rfl | rfl | rfl
    · exact I.watchIn_ok
    · exact I.hasPlace_ok
    · exact I.without_ok
  · intro args h κ r hh
    simp only [I.leastWatchIn_s] at hh
    split at hh
    · exact (I.leastWatchIn_den _ _ κ).trans hh
    · cases hh
  · intro args h κ r hh
    simp only [I.leastWatchIn_s] at hh ⊢
    split at hh
    · exact optC_law2 (F := fun (r : Bool) κ => κ (.bool r) []) (fun b κ r hb => ⟨_, _, hb, fun _ => rfl⟩) hh
    · cases hh
  · intro _ args h κ r hh
    simp only [I.leastWatchIn_s] at hh
    split at hh
    · exact ⟨rfl, fun _ => rfl⟩
    · cases hh

-- loop.example/guardsonnets/impl.chainWith
noncomputable def I.chainWith_T : List (Nat × D.Spec) := [(62, I.sizeOf_s), (94, I.fullNeedsIn_s), (86, I.watchIn_s), (63, I.fullApartIn_s), (70, I.apartIn_s), (79, I.leastWatchIn_s), (95, I.needsAllIn_s)]
def I.chainWith_ann : Nat → List Nat × List Nat
  | 100001 => ([1, 2, 3, 6], [1])
  | 100002 => ([1, 2, 3, 6, 7], [1])
  | 100004 => ([1, 2, 3, 6, 7], [1])
  | 100006 => ([1, 2, 3, 6, 7], [1])
  | 100008 => ([1, 2, 3, 6, 7], [1])
  | 100010 => ([1, 2, 3, 6, 7], [1])
  | 100012 => ([1, 2, 3, 6, 7], [1])
  | 100014 => ([3, 6], [1])
  | _ => ([], [])
noncomputable def I.chainWith_F (args : List V) (h : List E) (κ : V → List E → R) : R := funC TD (tableK I.chainWith_T) I.chainWith_ann (drawOk (tableP I.chainWith_T)) FUEL Try.f89 args h κ
noncomputable def I.chainWith_J0 (σ : St) (κ : V → List E → R) : R := denC TD (tableK I.chainWith_T) I.chainWith_ann (drawOk (tableP I.chainWith_T)) 0 FUEL (.seq (headsC 0 (Try.f89.body.getD .skip)) (tailsC 1 (Try.f89.body.getD .skip))) σ (finC TD 0 Try.f89 κ)
noncomputable def I.chainWith_J1 (σ : St) (κ : V → List E → R) : R := denC TD (tableK I.chainWith_T) I.chainWith_ann (drawOk (tableP I.chainWith_T)) 0 FUEL (.seq (headsC 1 (Try.f89.body.getD .skip)) (tailsC 2 (Try.f89.body.getD .skip))) σ (finC TD 0 Try.f89 κ)
noncomputable def I.chainWith_J2 (σ : St) (κ : V → List E → R) : R := denC TD (tableK I.chainWith_T) I.chainWith_ann (drawOk (tableP I.chainWith_T)) 0 FUEL (.seq (headsC 2 (Try.f89.body.getD .skip)) (tailsC 3 (Try.f89.body.getD .skip))) σ (finC TD 0 Try.f89 κ)
noncomputable def I.chainWith_J3 (σ : St) (κ : V → List E → R) : R := denC TD (tableK I.chainWith_T) I.chainWith_ann (drawOk (tableP I.chainWith_T)) 0 FUEL (.seq (headsC 3 (Try.f89.body.getD .skip)) (tailsC 4 (Try.f89.body.getD .skip))) σ (finC TD 0 Try.f89 κ)
noncomputable def I.chainWith_J4 (σ : St) (κ : V → List E → R) : R := denC TD (tableK I.chainWith_T) I.chainWith_ann (drawOk (tableP I.chainWith_T)) 0 FUEL (.seq (headsC 4 (Try.f89.body.getD .skip)) (tailsC 5 (Try.f89.body.getD .skip))) σ (finC TD 0 Try.f89 κ)
noncomputable def I.chainWith_J5 (σ : St) (κ : V → List E → R) : R := denC TD (tableK I.chainWith_T) I.chainWith_ann (drawOk (tableP I.chainWith_T)) 0 FUEL (.seq (headsC 5 (Try.f89.body.getD .skip)) (tailsC 6 (Try.f89.body.getD .skip))) σ (finC TD 0 Try.f89 κ)
noncomputable def I.chainWith_J6 (σ : St) (κ : V → List E → R) : R := denC TD (tableK I.chainWith_T) I.chainWith_ann (drawOk (tableP I.chainWith_T)) 0 FUEL (.seq (headsC 6 (Try.f89.body.getD .skip)) (tailsC 7 (Try.f89.body.getD .skip))) σ (finC TD 0 Try.f89 κ)
noncomputable def I.chainWith_J7 (σ : St) (κ : V → List E → R) : R := denC TD (tableK I.chainWith_T) I.chainWith_ann (drawOk (tableP I.chainWith_T)) 0 FUEL (.seq (headsC 7 (Try.f89.body.getD .skip)) (tailsC 8 (Try.f89.body.getD .skip))) σ (finC TD 0 Try.f89 κ)
noncomputable def I.chainWith_J8 (σ : St) (κ : V → List E → R) : R := denC TD (tableK I.chainWith_T) I.chainWith_ann (drawOk (tableP I.chainWith_T)) 0 FUEL (tailsC 8 (Try.f89.body.getD .skip)) σ (finC TD 0 Try.f89 κ)
noncomputable def I.chainWith_j8 {α : Type} (r0_0 : Int) (r0_1 : Int) (r0_2 : Int) (r0_3 : Int) (r0_4 : Int) (r0_5 : Int) (r1_0 : Int) (r1_1 : Int) (r1_2 : Int) (r1_3 : Int) (r1_4 : Int) (r1_5 : Int) (leaf0_ : Int × Int × Int × Int × Int × Int → α) (fail_ : α) : α :=
  (leaf0_ (r0_0, r0_1, r0_2, r0_3, r0_4, r0_5))
theorem I.chainWith_j8_nat {α γ : Type} (g : α → γ) (r0_0 : Int) (r0_1 : Int) (r0_2 : Int) (r0_3 : Int) (r0_4 : Int) (r0_5 : Int) (r1_0 : Int) (r1_1 : Int) (r1_2 : Int) (r1_3 : Int) (r1_4 : Int) (r1_5 : Int) (leaf0_ : Int × Int × Int × Int × Int × Int → α) (fail_ : α) : g (I.chainWith_j8 r0_0 r0_1 r0_2 r0_3 r0_4 r0_5 r1_0 r1_1 r1_2 r1_3 r1_4 r1_5 leaf0_ fail_) = I.chainWith_j8 r0_0 r0_1 r0_2 r0_3 r0_4 r0_5 r1_0 r1_1 r1_2 r1_3 r1_4 r1_5 (fun d => g (leaf0_ d)) (g fail_) := by
  unfold I.chainWith_j8; simp only [apply_cnd g, apply_optC g, apply_sumC g]
theorem I.chainWith_J8_is (r0_0 : Int) (r0_1 : Int) (r0_2 : Int) (r0_3 : Int) (r0_4 : Int) (r0_5 : Int) (r1_0 : Int) (r1_1 : Int) (r1_2 : Int) (r1_3 : Int) (r1_4 : Int) (r1_5 : Int) (κ : V → List E → R) : I.chainWith_J8 { n := 77, t := [(3, (.ptr 0 0)), (6, (.ptr 1 0))], h := [.cells [(.int .i64 r0_0), (.int .i64 r0_1), (.int .i64 r0_2), (.int .i64 r0_3), (.int .i64 r0_4), (.int .i64 r0_5)], .cells [(.int .i64 r1_0), (.int .i64 r1_1), (.int .i64 r1_2), (.int .i64 r1_3), (.int .i64 r1_4), (.int .i64 r1_5)]] } κ = I.chainWith_j8 r0_0 r0_1 r0_2 r0_3 r0_4 r0_5 r1_0 r1_1 r1_2 r1_3 r1_4 r1_5 (fun d => κ (.agg [(.int .i64 d.1), (.int .i64 d.2.1), (.int .i64 d.2.2.1), (.int .i64 d.2.2.2.1), (.int .i64 d.2.2.2.2.1), (.int .i64 d.2.2.2.2.2)]) []) none := by
  kernel_rfl
noncomputable def I.chainWith_j7 {α : Type} (x1 : List Int) (x2 : Int) (x7 : Int) (r0_0 : Int) (r0_1 : Int) (r0_2 : Int) (r0_3 : Int) (r0_4 : Int) (r0_5 : Int) (r1_0 : Int) (r1_1 : Int) (r1_2 : Int) (r1_3 : Int) (r1_4 : Int) (r1_5 : Int) (leaf0_ : Int × Int × Int × Int × Int × Int → α) (fail_ : α) : α :=
  (bif decide (x7 > r0_5) then (optC (I.needsAllIn_t x1 x2) (fun c_7 => (bif c_7 then (I.chainWith_j8 r0_0 r0_1 r0_2 r0_3 r0_4 x7 r1_0 r1_1 r1_2 r1_3 r1_4 r1_5 leaf0_ fail_) else (I.chainWith_j8 r0_0 r0_1 r0_2 r0_3 r0_4 r0_5 r1_0 r1_1 r1_2 r1_3 r1_4 r1_5 leaf0_ fail_))) fail_) else (I.chainWith_j8 r0_0 r0_1 r0_2 r0_3 r0_4 r0_5 r1_0 r1_1 r1_2 r1_3 r1_4 r1_5 leaf0_ fail_))
theorem I.chainWith_j7_nat {α γ : Type} (g : α → γ) (x1 : List Int) (x2 : Int) (x7 : Int) (r0_0 : Int) (r0_1 : Int) (r0_2 : Int) (r0_3 : Int) (r0_4 : Int) (r0_5 : Int) (r1_0 : Int) (r1_1 : Int) (r1_2 : Int) (r1_3 : Int) (r1_4 : Int) (r1_5 : Int) (leaf0_ : Int × Int × Int × Int × Int × Int → α) (fail_ : α) : g (I.chainWith_j7 x1 x2 x7 r0_0 r0_1 r0_2 r0_3 r0_4 r0_5 r1_0 r1_1 r1_2 r1_3 r1_4 r1_5 leaf0_ fail_) = I.chainWith_j7 x1 x2 x7 r0_0 r0_1 r0_2 r0_3 r0_4 r0_5 r1_0 r1_1 r1_2 r1_3 r1_4 r1_5 (fun d => g (leaf0_ d)) (g fail_) := by
  unfold I.chainWith_j7; simp only [apply_cnd g, apply_optC g, apply_sumC g, I.chainWith_j8_nat g]
theorem I.chainWith_S7 (x1 : List Int) (x2 : Int) (x7 : Int) (r0_0 : Int) (r0_1 : Int) (r0_2 : Int) (r0_3 : Int) (r0_4 : Int) (r0_5 : Int) (r1_0 : Int) (r1_1 : Int) (r1_2 : Int) (r1_3 : Int) (r1_4 : Int) (r1_5 : Int) (K_ : St → R) (κ : V → List E → R) : denC TD (tableK I.chainWith_T) I.chainWith_ann (drawOk (tableP I.chainWith_T)) 0 FUEL (headsC 7 (Try.f89.body.getD .skip)) { n := 77, t := [(1, (.ro false (.ints .i64 x1))), (2, (.int .i64 x2)), (3, (.ptr 0 0)), (6, (.ptr 1 0)), (7, (.int .i64 x7))], h := [.cells [(.int .i64 r0_0), (.int .i64 r0_1), (.int .i64 r0_2), (.int .i64 r0_3), (.int .i64 r0_4), (.int .i64 r0_5)], .cells [(.int .i64 r1_0), (.int .i64 r1_1), (.int .i64 r1_2), (.int .i64 r1_3), (.int .i64 r1_4), (.int .i64 r1_5)]] } (seqK I.chainWith_ann 0 (tailsC 8 (Try.f89.body.getD .skip)) K_ (finC TD 0 Try.f89 κ)) = (bif decide (x7 > r0_5) then (optC (I.needsAllIn_t x1 x2) (fun c_7 => (bif c_7 then (K_ { n := 77, t := [(3, (.ptr 0 0)), (6, (.ptr 1 0))], h := [.cells [(.int .i64 r0_0), (.int .i64 r0_1), (.int .i64 r0_2), (.int .i64 r0_3), (.int .i64 r0_4), (.int .i64 x7)], .cells [(.int .i64 r1_0), (.int .i64 r1_1), (.int .i64 r1_2), (.int .i64 r1_3), (.int .i64 r1_4), (.int .i64 r1_5)]] }) else (K_ { n := 77, t := [(3, (.ptr 0 0)), (6, (.ptr 1 0))], h := [.cells [(.int .i64 r0_0), (.int .i64 r0_1), (.int .i64 r0_2), (.int .i64 r0_3), (.int .i64 r0_4), (.int .i64 r0_5)], .cells [(.int .i64 r1_0), (.int .i64 r1_1), (.int .i64 r1_2), (.int .i64 r1_3), (.int .i64 r1_4), (.int .i64 r1_5)]] }))) none) else (K_ { n := 77, t := [(3, (.ptr 0 0)), (6, (.ptr 1 0))], h := [.cells [(.int .i64 r0_0), (.int .i64 r0_1), (.int .i64 r0_2), (.int .i64 r0_3), (.int .i64 r0_4), (.int .i64 r0_5)], .cells [(.int .i64 r1_0), (.int .i64 r1_1), (.int .i64 r1_2), (.int .i64 r1_3), (.int .i64 r1_4), (.int .i64 r1_5)]] })) := by
  kernel_rfl
theorem I.chainWith_J7_is (x1 : List Int) (x2 : Int) (x7 : Int) (r0_0 : Int) (r0_1 : Int) (r0_2 : Int) (r0_3 : Int) (r0_4 : Int) (r0_5 : Int) (r1_0 : Int) (r1_1 : Int) (r1_2 : Int) (r1_3 : Int) (r1_4 : Int) (r1_5 : Int) (κ : V → List E → R) : I.chainWith_J7 { n := 77, t := [(1, (.ro false (.ints .i64 x1))), (2, (.int .i64 x2)), (3, (.ptr 0 0)), (6, (.ptr 1 0)), (7, (.int .i64 x7))], h := [.cells [(.int .i64 r0_0), (.int .i64 r0_1), (.int .i64 r0_2), (.int .i64 r0_3), (.int .i64 r0_4), (.int .i64 r0_5)], .cells [(.int .i64 r1_0), (.int .i64 r1_1), (.int .i64 r1_2), (.int .i64 r1_3), (.int .i64 r1_4), (.int .i64 r1_5)]] } κ = I.chainWith_j7 x1 x2 x7 r0_0 r0_1 r0_2 r0_3 r0_4 r0_5 r1_0 r1_1 r1_2 r1_3 r1_4 r1_5 (fun d => κ (.agg [(.int .i64 d.1), (.int .i64 d.2.1), (.int .i64 d.2.2.1), (.int .i64 d.2.2.2.1), (.int .i64 d.2.2.2.2.1), (.int .i64 d.2.2.2.2.2)]) []) none := by
  refine (denC_seqJ _ _ _ _).trans ((I.chainWith_S7 x1 x2 x7 r0_0 r0_1 r0_2 r0_3 r0_4 r0_5 r1_0 r1_1 r1_2 r1_3 r1_4 r1_5 (fun σ => I.chainWith_J8 σ κ) κ).trans ?_)
  refine cnd_congr ?_ ?_
  · refine optC_congr (fun c_7 => ?_)
    refine cnd_congr ?_ ?_
    · exact I.chainWith_J8_is r0_0 r0_1 r0_2 r0_3 r0_4 x7 r1_0 r1_1 r1_2 r1_3 r1_4 r1_5 κ
    · exact I.chainWith_J8_is r0_0 r0_1 r0_2 r0_3 r0_4 r0_5 r1_0 r1_1 r1_2 r1_3 r1_4 r1_5 κ
  · exact I.chainWith_J8_is r0_0 r0_1 r0_2 r0_3 r0_4 r0_5 r1_0 r1_1 r1_2 r1_3 r1_4 r1_5 κ
noncomputable def I.chainWith_j6 {α : Type} (x1 : List Int) (x2 : Int) (x7 : Int) (r0_0 : Int) (r0_1 : Int) (r0_2 : Int) (r0_3 : Int) (r0_4 : Int) (r0_5 : Int) (r1_0 : Int) (r1_1 : Int) (r1_2 : Int) (r1_3 : Int) (r1_4 : Int) (r1_5 : Int) (leaf0_ : Int × Int × Int × Int × Int × Int → α) (fail_ : α) : α :=
  (bif decide (x7 > r0_4) then (optC (I.leastWatchIn_t x1 x2) (fun c_6 => (bif c_6 then (I.chainWith_j7 x1 x2 x7 r0_0 r0_1 r0_2 r0_3 x7 r0_5 r1_0 r1_1 r1_2 r1_3 r1_4 r1_5 leaf0_ fail_) else (I.chainWith_j7 x1 x2 x7 r0_0 r0_1 r0_2 r0_3 r0_4 r0_5 r1_0 r1_1 r1_2 r1_3 r1_4 r1_5 leaf0_ fail_))) fail_) else (I.chainWith_j7 x1 x2 x7 r0_0 r0_1 r0_2 r0_3 r0_4 r0_5 r1_0 r1_1 r1_2 r1_3 r1_4 r1_5 leaf0_ fail_))
theorem I.chainWith_j6_nat {α γ : Type} (g : α → γ) (x1 : List Int) (x2 : Int) (x7 : Int) (r0_0 : Int) (r0_1 : Int) (r0_2 : Int) (r0_3 : Int) (r0_4 : Int) (r0_5 : Int) (r1_0 : Int) (r1_1 : Int) (r1_2 : Int) (r1_3 : Int) (r1_4 : Int) (r1_5 : Int) (leaf0_ : Int × Int × Int × Int × Int × Int → α) (fail_ : α) : g (I.chainWith_j6 x1 x2 x7 r0_0 r0_1 r0_2 r0_3 r0_4 r0_5 r1_0 r1_1 r1_2 r1_3 r1_4 r1_5 leaf0_ fail_) = I.chainWith_j6 x1 x2 x7 r0_0 r0_1 r0_2 r0_3 r0_4 r0_5 r1_0 r1_1 r1_2 r1_3 r1_4 r1_5 (fun d => g (leaf0_ d)) (g fail_) := by
  unfold I.chainWith_j6; simp only [apply_cnd g, apply_optC g, apply_sumC g, I.chainWith_j7_nat g]
theorem I.chainWith_S6 (x1 : List Int) (x2 : Int) (x7 : Int) (r0_0 : Int) (r0_1 : Int) (r0_2 : Int) (r0_3 : Int) (r0_4 : Int) (r0_5 : Int) (r1_0 : Int) (r1_1 : Int) (r1_2 : Int) (r1_3 : Int) (r1_4 : Int) (r1_5 : Int) (K_ : St → R) (κ : V → List E → R) : denC TD (tableK I.chainWith_T) I.chainWith_ann (drawOk (tableP I.chainWith_T)) 0 FUEL (headsC 6 (Try.f89.body.getD .skip)) { n := 77, t := [(1, (.ro false (.ints .i64 x1))), (2, (.int .i64 x2)), (3, (.ptr 0 0)), (6, (.ptr 1 0)), (7, (.int .i64 x7))], h := [.cells [(.int .i64 r0_0), (.int .i64 r0_1), (.int .i64 r0_2), (.int .i64 r0_3), (.int .i64 r0_4), (.int .i64 r0_5)], .cells [(.int .i64 r1_0), (.int .i64 r1_1), (.int .i64 r1_2), (.int .i64 r1_3), (.int .i64 r1_4), (.int .i64 r1_5)]] } (seqK I.chainWith_ann 0 (tailsC 7 (Try.f89.body.getD .skip)) K_ (finC TD 0 Try.f89 κ)) = (bif decide (x7 > r0_4) then (optC (I.leastWatchIn_t x1 x2) (fun c_6 => (bif c_6 then (K_ { n := 77, t := [(1, (.ro false (.ints .i64 x1))), (2, (.int .i64 x2)), (3, (.ptr 0 0)), (6, (.ptr 1 0)), (7, (.int .i64 x7))], h := [.cells [(.int .i64 r0_0), (.int .i64 r0_1), (.int .i64 r0_2), (.int .i64 r0_3), (.int .i64 x7), (.int .i64 r0_5)], .cells [(.int .i64 r1_0), (.int .i64 r1_1), (.int .i64 r1_2), (.int .i64 r1_3), (.int .i64 r1_4), (.int .i64 r1_5)]] }) else (K_ { n := 77, t := [(1, (.ro false (.ints .i64 x1))), (2, (.int .i64 x2)), (3, (.ptr 0 0)), (6, (.ptr 1 0)), (7, (.int .i64 x7))], h := [.cells [(.int .i64 r0_0), (.int .i64 r0_1), (.int .i64 r0_2), (.int .i64 r0_3), (.int .i64 r0_4), (.int .i64 r0_5)], .cells [(.int .i64 r1_0), (.int .i64 r1_1), (.int .i64 r1_2), (.int .i64 r1_3), (.int .i64 r1_4), (.int .i64 r1_5)]] }))) none) else (K_ { n := 77, t := [(1, (.ro false (.ints .i64 x1))), (2, (.int .i64 x2)), (3, (.ptr 0 0)), (6, (.ptr 1 0)), (7, (.int .i64 x7))], h := [.cells [(.int .i64 r0_0), (.int .i64 r0_1), (.int .i64 r0_2), (.int .i64 r0_3), (.int .i64 r0_4), (.int .i64 r0_5)], .cells [(.int .i64 r1_0), (.int .i64 r1_1), (.int .i64 r1_2), (.int .i64 r1_3), (.int .i64 r1_4), (.int .i64 r1_5)]] })) := by
  kernel_rfl
theorem I.chainWith_J6_is (x1 : List Int) (x2 : Int) (x7 : Int) (r0_0 : Int) (r0_1 : Int) (r0_2 : Int) (r0_3 : Int) (r0_4 : Int) (r0_5 : Int) (r1_0 : Int) (r1_1 : Int) (r1_2 : Int) (r1_3 : Int) (r1_4 : Int) (r1_5 : Int) (κ : V → List E → R) : I.chainWith_J6 { n := 77, t := [(1, (.ro false (.ints .i64 x1))), (2, (.int .i64 x2)), (3, (.ptr 0 0)), (6, (.ptr 1 0)), (7, (.int .i64 x7))], h := [.cells [(.int .i64 r0_0), (.int .i64 r0_1), (.int .i64 r0_2), (.int .i64 r0_3), (.int .i64 r0_4), (.int .i64 r0_5)], .cells [(.int .i64 r1_0), (.int .i64 r1_1), (.int .i64 r1_2), (.int .i64 r1_3), (.int .i64 r1_4), (.int .i64 r1_5)]] } κ = I.chainWith_j6 x1 x2 x7 r0_0 r0_1 r0_2 r0_3 r0_4 r0_5 r1_0 r1_1 r1_2 r1_3 r1_4 r1_5 (fun d => κ (.agg [(.int .i64 d.1), (.int .i64 d.2.1), (.int .i64 d.2.2.1), (.int .i64 d.2.2.2.1), (.int .i64 d.2.2.2.2.1), (.int .i64 d.2.2.2.2.2)]) []) none := by
  refine (denC_seqJ _ _ _ _).trans ((I.chainWith_S6 x1 x2 x7 r0_0 r0_1 r0_2 r0_3 r0_4 r0_5 r1_0 r1_1 r1_2 r1_3 r1_4 r1_5 (fun σ => I.chainWith_J7 σ κ) κ).trans ?_)
  refine cnd_congr ?_ ?_
  · refine optC_congr (fun c_6 => ?_)
    refine cnd_congr ?_ ?_
    · exact I.chainWith_J7_is x1 x2 x7 r0_0 r0_1 r0_2 r0_3 x7 r0_5 r1_0 r1_1 r1_2 r1_3 r1_4 r1_5 κ
    · exact I.chainWith_J7_is x1 x2 x7 r0_0 r0_1 r0_2 r0_3 r0_4 r0_5 r1_0 r1_1 r1_2 r1_3 r1_4 r1_5 κ
  · exact I.chainWith_J7_is x1 x2 x7 r0_0 r0_1 r0_2 r0_3 r0_4 r0_5 r1_0 r1_1 r1_2 r1_3 r1_4 r1_5 κ
noncomputable def I.chainWith_j5 {α : Type} (x1 : List Int) (x2 : Int) (x7 : Int) (r0_0 : Int) (r0_1 : Int) (r0_2 : Int) (r0_3 : Int) (r0_4 : Int) (r0_5 : Int) (r1_0 : Int) (r1_1 : Int) (r1_2 : Int) (r1_3 : Int) (r1_4 : Int) (r1_5 : Int) (leaf0_ : Int × Int × Int × Int × Int × Int → α) (fail_ : α) : α :=
  (bif decide (x7 > r0_3) then (optC (I.apartIn_t x1 x2) (fun c_5 => (bif c_5 then (I.chainWith_j6 x1 x2 x7 r0_0 r0_1 r0_2 x7 r0_4 r0_5 r1_0 r1_1 r1_2 r1_3 r1_4 r1_5 leaf0_ fail_) else (I.chainWith_j6 x1 x2 x7 r0_0 r0_1 r0_2 r0_3 r0_4 r0_5 r1_0 r1_1 r1_2 r1_3 r1_4 r1_5 leaf0_ fail_))) fail_) else (I.chainWith_j6 x1 x2 x7 r0_0 r0_1 r0_2 r0_3 r0_4 r0_5 r1_0 r1_1 r1_2 r1_3 r1_4 r1_5 leaf0_ fail_))
theorem I.chainWith_j5_nat {α γ : Type} (g : α → γ) (x1 : List Int) (x2 : Int) (x7 : Int) (r0_0 : Int) (r0_1 : Int) (r0_2 : Int) (r0_3 : Int) (r0_4 : Int) (r0_5 : Int) (r1_0 : Int) (r1_1 : Int) (r1_2 : Int) (r1_3 : Int) (r1_4 : Int) (r1_5 : Int) (leaf0_ : Int × Int × Int × Int × Int × Int → α) (fail_ : α) : g (I.chainWith_j5 x1 x2 x7 r0_0 r0_1 r0_2 r0_3 r0_4 r0_5 r1_0 r1_1 r1_2 r1_3 r1_4 r1_5 leaf0_ fail_) = I.chainWith_j5 x1 x2 x7 r0_0 r0_1 r0_2 r0_3 r0_4 r0_5 r1_0 r1_1 r1_2 r1_3 r1_4 r1_5 (fun d => g (leaf0_ d)) (g fail_) := by
  unfold I.chainWith_j5; simp only [apply_cnd g, apply_optC g, apply_sumC g, I.chainWith_j6_nat g]
theorem I.chainWith_S5 (x1 : List Int) (x2 : Int) (x7 : Int) (r0_0 : Int) (r0_1 : Int) (r0_2 : Int) (r0_3 : Int) (r0_4 : Int) (r0_5 : Int) (r1_0 : Int) (r1_1 : Int) (r1_2 : Int) (r1_3 : Int) (r1_4 : Int) (r1_5 : Int) (K_ : St → R) (κ : V → List E → R) : denC TD (tableK I.chainWith_T) I.chainWith_ann (drawOk (tableP I.chainWith_T)) 0 FUEL (headsC 5 (Try.f89.body.getD .skip)) { n := 77, t := [(1, (.ro false (.ints .i64 x1))), (2, (.int .i64 x2)), (3, (.ptr 0 0)), (6, (.ptr 1 0)), (7, (.int .i64 x7))], h := [.cells [(.int .i64 r0_0), (.int .i64 r0_1), (.int .i64 r0_2), (.int .i64 r0_3), (.int .i64 r0_4), (.int .i64 r0_5)], .cells [(.int .i64 r1_0), (.int .i64 r1_1), (.int .i64 r1_2), (.int .i64 r1_3), (.int .i64 r1_4), (.int .i64 r1_5)]] } (seqK I.chainWith_ann 0 (tailsC 6 (Try.f89.body.getD .skip)) K_ (finC TD 0 Try.f89 κ)) = (bif decide (x7 > r0_3) then (optC (I.apartIn_t x1 x2) (fun c_5 => (bif c_5 then (K_ { n := 77, t := [(1, (.ro false (.ints .i64 x1))), (2, (.int .i64 x2)), (3, (.ptr 0 0)), (6, (.ptr 1 0)), (7, (.int .i64 x7))], h := [.cells [(.int .i64 r0_0), (.int .i64 r0_1), (.int .i64 r0_2), (.int .i64 x7), (.int .i64 r0_4), (.int .i64 r0_5)], .cells [(.int .i64 r1_0), (.int .i64 r1_1), (.int .i64 r1_2), (.int .i64 r1_3), (.int .i64 r1_4), (.int .i64 r1_5)]] }) else (K_ { n := 77, t := [(1, (.ro false (.ints .i64 x1))), (2, (.int .i64 x2)), (3, (.ptr 0 0)), (6, (.ptr 1 0)), (7, (.int .i64 x7))], h := [.cells [(.int .i64 r0_0), (.int .i64 r0_1), (.int .i64 r0_2), (.int .i64 r0_3), (.int .i64 r0_4), (.int .i64 r0_5)], .cells [(.int .i64 r1_0), (.int .i64 r1_1), (.int .i64 r1_2), (.int .i64 r1_3), (.int .i64 r1_4), (.int .i64 r1_5)]] }))) none) else (K_ { n := 77, t := [(1, (.ro false (.ints .i64 x1))), (2, (.int .i64 x2)), (3, (.ptr 0 0)), (6, (.ptr 1 0)), (7, (.int .i64 x7))], h := [.cells [(.int .i64 r0_0), (.int .i64 r0_1), (.int .i64 r0_2), (.int .i64 r0_3), (.int .i64 r0_4), (.int .i64 r0_5)], .cells [(.int .i64 r1_0), (.int .i64 r1_1), (.int .i64 r1_2), (.int .i64 r1_3), (.int .i64 r1_4), (.int .i64 r1_5)]] })) := by
  kernel_rfl
theorem I.chainWith_J5_is (x1 : List Int) (x2 : Int) (x7 : Int) (r0_0 : Int) (r0_1 : Int) (r0_2 : Int) (r0_3 : Int) (r0_4 : Int) (r0_5 : Int) (r1_0 : Int) (r1_1 : Int) (r1_2 : Int) (r1_3 : Int) (r1_4 : Int) (r1_5 : Int) (κ : V → List E → R) : I.chainWith_J5 { n := 77, t := [(1, (.ro false (.ints .i64 x1))), (2, (.int .i64 x2)), (3, (.ptr 0 0)), (6, (.ptr 1 0)), (7, (.int .i64 x7))], h := [.cells [(.int .i64 r0_0), (.int .i64 r0_1), (.int .i64 r0_2), (.int .i64 r0_3), (.int .i64 r0_4), (.int .i64 r0_5)], .cells [(.int .i64 r1_0), (.int .i64 r1_1), (.int .i64 r1_2), (.int .i64 r1_3), (.int .i64 r1_4), (.int .i64 r1_5)]] } κ = I.chainWith_j5 x1 x2 x7 r0_0 r0_1 r0_2 r0_3 r0_4 r0_5 r1_0 r1_1 r1_2 r1_3 r1_4 r1_5 (fun d => κ (.agg [(.int .i64 d.1), (.int .i64 d.2.1), (.int .i64 d.2.2.1), (.int .i64 d.2.2.2.1), (.int .i64 d.2.2.2.2.1), (.int .i64 d.2.2.2.2.2)]) []) none := by
  refine (denC_seqJ _ _ _ _).trans ((I.chainWith_S5 x1 x2 x7 r0_0 r0_1 r0_2 r0_3 r0_4 r0_5 r1_0 r1_1 r1_2 r1_3 r1_4 r1_5 (fun σ => I.chainWith_J6 σ κ) κ).trans ?_)
  refine cnd_congr ?_ ?_
  · refine optC_congr (fun c_5 => ?_)
    refine cnd_congr ?_ ?_
    · exact I.chainWith_J6_is x1 x2 x7 r0_0 r0_1 r0_2 x7 r0_4 r0_5 r1_0 r1_1 r1_2 r1_3 r1_4 r1_5 κ
    · exact I.chainWith_J6_is x1 x2 x7 r0_0 r0_1 r0_2 r0_3 r0_4 r0_5 r1_0 r1_1 r1_2 r1_3 r1_4 r1_5 κ
  · exact I.chainWith_J6_is x1 x2 x7 r0_0 r0_1 r0_2 r0_3 r0_4 r0_5 r1_0 r1_1 r1_2 r1_3 r1_4 r1_5 κ
noncomputable def I.chainWith_j4 {α : Type} (x1 : List Int) (x2 : Int) (x7 : Int) (r0_0 : Int) (r0_1 : Int) (r0_2 : Int) (r0_3 : Int) (r0_4 : Int) (r0_5 : Int) (r1_0 : Int) (r1_1 : Int) (r1_2 : Int) (r1_3 : Int) (r1_4 : Int) (r1_5 : Int) (leaf0_ : Int × Int × Int × Int × Int × Int → α) (fail_ : α) : α :=
  (bif decide (x7 < r0_2) then (optC (I.fullApartIn_t x1 x2) (fun c_4 => (bif c_4 then (I.chainWith_j5 x1 x2 x7 r0_0 r0_1 x7 r0_3 r0_4 r0_5 r1_0 r1_1 r1_2 r1_3 r1_4 r1_5 leaf0_ fail_) else (I.chainWith_j5 x1 x2 x7 r0_0 r0_1 r0_2 r0_3 r0_4 r0_5 r1_0 r1_1 r1_2 r1_3 r1_4 r1_5 leaf0_ fail_))) fail_) else (I.chainWith_j5 x1 x2 x7 r0_0 r0_1 r0_2 r0_3 r0_4 r0_5 r1_0 r1_1 r1_2 r1_3 r1_4 r1_5 leaf0_ fail_))
theorem I.chainWith_j4_nat {α γ : Type} (g : α → γ) (x1 : List Int) (x2 : Int) (x7 : Int) (r0_0 : Int) (r0_1 : Int) (r0_2 : Int) (r0_3 : Int) (r0_4 : Int) (r0_5 : Int) (r1_0 : Int) (r1_1 : Int) (r1_2 : Int) (r1_3 : Int) (r1_4 : Int) (r1_5 : Int) (leaf0_ : Int × Int × Int × Int × Int × Int → α) (fail_ : α) : g (I.chainWith_j4 x1 x2 x7 r0_0 r0_1 r0_2 r0_3 r0_4 r0_5 r1_0 r1_1 r1_2 r1_3 r1_4 r1_5 leaf0_ fail_) = I.chainWith_j4 x1 x2 x7 r0_0 r0_1 r0_2 r0_3 r0_4 r0_5 r1_0 r1_1 r1_2 r1_3 r1_4 r1_5 (fun d => g (leaf0_ d)) (g fail_) := by
  unfold I.chainWith_j4; simp only [apply_cnd g, apply_optC g, apply_sumC g, I.chainWith_j5_nat g]
theorem I.chainWith_S4 (x1 : List Int) (x2 : Int) (x7 : Int) (r0_0 : Int) (r0_1 : Int) (r0_2 : Int) (r0_3 : Int) (r0_4 : Int) (r0_5 : Int) (r1_0 : Int) (r1_1 : Int) (r1_2 : Int) (r1_3 : Int) (r1_4 : Int) (r1_5 : Int) (K_ : St → R) (κ : V → List E → R) : denC TD (tableK I.chainWith_T) I.chainWith_ann (drawOk (tableP I.chainWith_T)) 0 FUEL (headsC 4 (Try.f89.body.getD .skip)) { n := 77, t := [(1, (.ro false (.ints .i64 x1))), (2, (.int .i64 x2)), (3, (.ptr 0 0)), (6, (.ptr 1 0)), (7, (.int .i64 x7))], h := [.cells [(.int .i64 r0_0), (.int .i64 r0_1), (.int .i64 r0_2), (.int .i64 r0_3), (.int .i64 r0_4), (.int .i64 r0_5)], .cells [(.int .i64 r1_0), (.int .i64 r1_1), (.int .i64 r1_2), (.int .i64 r1_3), (.int .i64 r1_4), (.int .i64 r1_5)]] } (seqK I.chainWith_ann 0 (tailsC 5 (Try.f89.body.getD .skip)) K_ (finC TD 0 Try.f89 κ)) = (bif decide (x7 < r0_2) then (optC (I.fullApartIn_t x1 x2) (fun c_4 => (bif c_4 then (K_ { n := 77, t := [(1, (.ro false (.ints .i64 x1))), (2, (.int .i64 x2)), (3, (.ptr 0 0)), (6, (.ptr 1 0)), (7, (.int .i64 x7))], h := [.cells [(.int .i64 r0_0), (.int .i64 r0_1), (.int .i64 x7), (.int .i64 r0_3), (.int .i64 r0_4), (.int .i64 r0_5)], .cells [(.int .i64 r1_0), (.int .i64 r1_1), (.int .i64 r1_2), (.int .i64 r1_3), (.int .i64 r1_4), (.int .i64 r1_5)]] }) else (K_ { n := 77, t := [(1, (.ro false (.ints .i64 x1))), (2, (.int .i64 x2)), (3, (.ptr 0 0)), (6, (.ptr 1 0)), (7, (.int .i64 x7))], h := [.cells [(.int .i64 r0_0), (.int .i64 r0_1), (.int .i64 r0_2), (.int .i64 r0_3), (.int .i64 r0_4), (.int .i64 r0_5)], .cells [(.int .i64 r1_0), (.int .i64 r1_1), (.int .i64 r1_2), (.int .i64 r1_3), (.int .i64 r1_4), (.int .i64 r1_5)]] }))) none) else (K_ { n := 77, t := [(1, (.ro false (.ints .i64 x1))), (2, (.int .i64 x2)), (3, (.ptr 0 0)), (6, (.ptr 1 0)), (7, (.int .i64 x7))], h := [.cells [(.int .i64 r0_0), (.int .i64 r0_1), (.int .i64 r0_2), (.int .i64 r0_3), (.int .i64 r0_4), (.int .i64 r0_5)], .cells [(.int .i64 r1_0), (.int .i64 r1_1), (.int .i64 r1_2), (.int .i64 r1_3), (.int .i64 r1_4), (.int .i64 r1_5)]] })) := by
  kernel_rfl
theorem I.chainWith_J4_is (x1 : List Int) (x2 : Int) (x7 : Int) (r0_0 : Int) (r0_1 : Int) (r0_2 : Int) (r0_3 : Int) (r0_4 : Int) (r0_5 : Int) (r1_0 : Int) (r1_1 : Int) (r1_2 : Int) (r1_3 : Int) (r1_4 : Int) (r1_5 : Int) (κ : V → List E → R) : I.chainWith_J4 { n := 77, t := [(1, (.ro false (.ints .i64 x1))), (2, (.int .i64 x2)), (3, (.ptr 0 0)), (6, (.ptr 1 0)), (7, (.int .i64 x7))], h := [.cells [(.int .i64 r0_0), (.int .i64 r0_1), (.int .i64 r0_2), (.int .i64 r0_3), (.int .i64 r0_4), (.int .i64 r0_5)], .cells [(.int .i64 r1_0), (.int .i64 r1_1), (.int .i64 r1_2), (.int .i64 r1_3), (.int .i64 r1_4), (.int .i64 r1_5)]] } κ = I.chainWith_j4 x1 x2 x7 r0_0 r0_1 r0_2 r0_3 r0_4 r0_5 r1_0 r1_1 r1_2 r1_3 r1_4 r1_5 (fun d => κ (.agg [(.int .i64 d.1), (.int .i64 d.2.1), (.int .i64 d.2.2.1), (.int .i64 d.2.2.2.1), (.int .i64 d.2.2.2.2.1), (.int .i64 d.2.2.2.2.2)]) []) none := by
  refine (denC_seqJ _ _ _ _).trans ((I.chainWith_S4 x1 x2 x7 r0_0 r0_1 r0_2 r0_3 r0_4 r0_5 r1_0 r1_1 r1_2 r1_3 r1_4 r1_5 (fun σ => I.chainWith_J5 σ κ) κ).trans ?_)
  refine cnd_congr ?_ ?_
  · refine optC_congr (fun c_4 => ?_)
    refine cnd_congr ?_ ?_
    · exact I.chainWith_J5_is x1 x2 x7 r0_0 r0_1 x7 r0_3 r0_4 r0_5 r1_0 r1_1 r1_2 r1_3 r1_4 r1_5 κ
    · exact I.chainWith_J5_is x1 x2 x7 r0_0 r0_1 r0_2 r0_3 r0_4 r0_5 r1_0 r1_1 r1_2 r1_3 r1_4 r1_5 κ
  · exact I.chainWith_J5_is x1 x2 x7 r0_0 r0_1 r0_2 r0_3 r0_4 r0_5 r1_0 r1_1 r1_2 r1_3 r1_4 r1_5 κ
noncomputable def I.chainWith_j3 {α : Type} (x1 : List Int) (x2 : Int) (x7 : Int) (r0_0 : Int) (r0_1 : Int) (r0_2 : Int) (r0_3 : Int) (r0_4 : Int) (r0_5 : Int) (r1_0 : Int) (r1_1 : Int) (r1_2 : Int) (r1_3 : Int) (r1_4 : Int) (r1_5 : Int) (leaf0_ : Int × Int × Int × Int × Int × Int → α) (fail_ : α) : α :=
  (bif decide (x7 < r0_1) then (optC (I.watchIn_t x1 x2) (fun c_3 => (bif c_3 then (I.chainWith_j4 x1 x2 x7 r0_0 x7 r0_2 r0_3 r0_4 r0_5 r1_0 r1_1 r1_2 r1_3 r1_4 r1_5 leaf0_ fail_) else (I.chainWith_j4 x1 x2 x7 r0_0 r0_1 r0_2 r0_3 r0_4 r0_5 r1_0 r1_1 r1_2 r1_3 r1_4 r1_5 leaf0_ fail_))) fail_) else (I.chainWith_j4 x1 x2 x7 r0_0 r0_1 r0_2 r0_3 r0_4 r0_5 r1_0 r1_1 r1_2 r1_3 r1_4 r1_5 leaf0_ fail_))
theorem I.chainWith_j3_nat {α γ : Type} (g : α → γ) (x1 : List Int) (x2 : Int) (x7 : Int) (r0_0 : Int) (r0_1 : Int) (r0_2 : Int) (r0_3 : Int) (r0_4 : Int) (r0_5 : Int) (r1_0 : Int) (r1_1 : Int) (r1_2 : Int) (r1_3 : Int) (r1_4 : Int) (r1_5 : Int) (leaf0_ : Int × Int × Int × Int × Int × Int → α) (fail_ : α) : g (I.chainWith_j3 x1 x2 x7 r0_0 r0_1 r0_2 r0_3 r0_4 r0_5 r1_0 r1_1 r1_2 r1_3 r1_4 r1_5 leaf0_ fail_) = I.chainWith_j3 x1 x2 x7 r0_0 r0_1 r0_2 r0_3 r0_4 r0_5 r1_0 r1_1 r1_2 r1_3 r1_4 r1_5 (fun d => g (leaf0_ d)) (g fail_) := by
  unfold I.chainWith_j3; simp only [apply_cnd g, apply_optC g, apply_sumC g, I.chainWith_j4_nat g]
theorem I.chainWith_S3 (x1 : List Int) (x2 : Int) (x7 : Int) (r0_0 : Int) (r0_1 : Int) (r0_2 : Int) (r0_3 : Int) (r0_4 : Int) (r0_5 : Int) (r1_0 : Int) (r1_1 : Int) (r1_2 : Int) (r1_3 : Int) (r1_4 : Int) (r1_5 : Int) (K_ : St → R) (κ : V → List E → R) : denC TD (tableK I.chainWith_T) I.chainWith_ann (drawOk (tableP I.chainWith_T)) 0 FUEL (headsC 3 (Try.f89.body.getD .skip)) { n := 77, t := [(1, (.ro false (.ints .i64 x1))), (2, (.int .i64 x2)), (3, (.ptr 0 0)), (6, (.ptr 1 0)), (7, (.int .i64 x7))], h := [.cells [(.int .i64 r0_0), (.int .i64 r0_1), (.int .i64 r0_2), (.int .i64 r0_3), (.int .i64 r0_4), (.int .i64 r0_5)], .cells [(.int .i64 r1_0), (.int .i64 r1_1), (.int .i64 r1_2), (.int .i64 r1_3), (.int .i64 r1_4), (.int .i64 r1_5)]] } (seqK I.chainWith_ann 0 (tailsC 4 (Try.f89.body.getD .skip)) K_ (finC TD 0 Try.f89 κ)) = (bif decide (x7 < r0_1) then (optC (I.watchIn_t x1 x2) (fun c_3 => (bif c_3 then (K_ { n := 77, t := [(1, (.ro false (.ints .i64 x1))), (2, (.int .i64 x2)), (3, (.ptr 0 0)), (6, (.ptr 1 0)), (7, (.int .i64 x7))], h := [.cells [(.int .i64 r0_0), (.int .i64 x7), (.int .i64 r0_2), (.int .i64 r0_3), (.int .i64 r0_4), (.int .i64 r0_5)], .cells [(.int .i64 r1_0), (.int .i64 r1_1), (.int .i64 r1_2), (.int .i64 r1_3), (.int .i64 r1_4), (.int .i64 r1_5)]] }) else (K_ { n := 77, t := [(1, (.ro false (.ints .i64 x1))), (2, (.int .i64 x2)), (3, (.ptr 0 0)), (6, (.ptr 1 0)), (7, (.int .i64 x7))], h := [.cells [(.int .i64 r0_0), (.int .i64 r0_1), (.int .i64 r0_2), (.int .i64 r0_3), (.int .i64 r0_4), (.int .i64 r0_5)], .cells [(.int .i64 r1_0), (.int .i64 r1_1), (.int .i64 r1_2), (.int .i64 r1_3), (.int .i64 r1_4), (.int .i64 r1_5)]] }))) none) else (K_ { n := 77, t := [(1, (.ro false (.ints .i64 x1))), (2, (.int .i64 x2)), (3, (.ptr 0 0)), (6, (.ptr 1 0)), (7, (.int .i64 x7))], h := [.cells [(.int .i64 r0_0), (.int .i64 r0_1), (.int .i64 r0_2), (.int .i64 r0_3), (.int .i64 r0_4), (.int .i64 r0_5)], .cells [(.int .i64 r1_0), (.int .i64 r1_1), (.int .i64 r1_2), (.int .i64 r1_3), (.int .i64 r1_4), (.int .i64 r1_5)]] })) := by
  kernel_rfl
theorem I.chainWith_J3_is (x1 : List Int) (x2 : Int) (x7 : Int) (r0_0 : Int) (r0_1 : Int) (r0_2 : Int) (r0_3 : Int) (r0_4 : Int) (r0_5 : Int) (r1_0 : Int) (r1_1 : Int) (r1_2 : Int) (r1_3 : Int) (r1_4 : Int) (r1_5 : Int) (κ : V → List E → R) : I.chainWith_J3 { n := 77, t := [(1, (.ro false (.ints .i64 x1))), (2, (.int .i64 x2)), (3, (.ptr 0 0)), (6, (.ptr 1 0)), (7, (.int .i64 x7))], h := [.cells [(.int .i64 r0_0), (.int .i64 r0_1), (.int .i64 r0_2), (.int .i64 r0_3), (.int .i64 r0_4), (.int .i64 r0_5)], .cells [(.int .i64 r1_0), (.int .i64 r1_1), (.int .i64 r1_2), (.int .i64 r1_3), (.int .i64 r1_4), (.int .i64 r1_5)]] } κ = I.chainWith_j3 x1 x2 x7 r0_0 r0_1 r0_2 r0_3 r0_4 r0_5 r1_0 r1_1 r1_2 r1_3 r1_4 r1_5 (fun d => κ (.agg [(.int .i64 d.1), (.int .i64 d.2.1), (.int .i64 d.2.2.1), (.int .i64 d.2.2.2.1), (.int .i64 d.2.2.2.2.1), (.int .i64 d.2.2.2.2.2)]) []) none := by
  refine (denC_seqJ _ _ _ _).trans ((I.chainWith_S3 x1 x2 x7 r0_0 r0_1 r0_2 r0_3 r0_4 r0_5 r1_0 r1_1 r1_2 r1_3 r1_4 r1_5 (fun σ => I.chainWith_J4 σ κ) κ).trans ?_)
  refine cnd_congr ?_ ?_
  · refine optC_congr (fun c_3 => ?_)
    refine cnd_congr ?_ ?_
    · exact I.chainWith_J4_is x1 x2 x7 r0_0 x7 r0_2 r0_3 r0_4 r0_5 r1_0 r1_1 r1_2 r1_3 r1_4 r1_5 κ
    · exact I.chainWith_J4_is x1 x2 x7 r0_0 r0_1 r0_2 r0_3 r0_4 r0_5 r1_0 r1_1 r1_2 r1_3 r1_4 r1_5 κ
  · exact I.chainWith_J4_is x1 x2 x7 r0_0 r0_1 r0_2 r0_3 r0_4 r0_5 r1_0 r1_1 r1_2 r1_3 r1_4 r1_5 κ
noncomputable def I.chainWith_j2 {α : Type} (x1 : List Int) (x2 : Int) (x7 : Int) (r0_0 : Int) (r0_1 : Int) (r0_2 : Int) (r0_3 : Int) (r0_4 : Int) (r0_5 : Int) (r1_0 : Int) (r1_1 : Int) (r1_2 : Int) (r1_3 : Int) (r1_4 : Int) (r1_5 : Int) (leaf0_ : Int × Int × Int × Int × Int × Int → α) (fail_ : α) : α :=
  (bif decide (x7 < r0_0) then (optC (I.fullNeedsIn_t x1 x2) (fun c_2 => (bif c_2 then (I.chainWith_j3 x1 x2 x7 x7 r0_1 r0_2 r0_3 r0_4 r0_5 r1_0 r1_1 r1_2 r1_3 r1_4 r1_5 leaf0_ fail_) else (I.chainWith_j3 x1 x2 x7 r0_0 r0_1 r0_2 r0_3 r0_4 r0_5 r1_0 r1_1 r1_2 r1_3 r1_4 r1_5 leaf0_ fail_))) fail_) else (I.chainWith_j3 x1 x2 x7 r0_0 r0_1 r0_2 r0_3 r0_4 r0_5 r1_0 r1_1 r1_2 r1_3 r1_4 r1_5 leaf0_ fail_))
theorem I.chainWith_j2_nat {α γ : Type} (g : α → γ) (x1 : List Int) (x2 : Int) (x7 : Int) (r0_0 : Int) (r0_1 : Int) (r0_2 : Int) (r0_3 : Int) (r0_4 : Int) (r0_5 : Int) (r1_0 : Int) (r1_1 : Int) (r1_2 : Int) (r1_3 : Int) (r1_4 : Int) (r1_5 : Int) (leaf0_ : Int × Int × Int × Int × Int × Int → α) (fail_ : α) : g (I.chainWith_j2 x1 x2 x7 r0_0 r0_1 r0_2 r0_3 r0_4 r0_5 r1_0 r1_1 r1_2 r1_3 r1_4 r1_5 leaf0_ fail_) = I.chainWith_j2 x1 x2 x7 r0_0 r0_1 r0_2 r0_3 r0_4 r0_5 r1_0 r1_1 r1_2 r1_3 r1_4 r1_5 (fun d => g (leaf0_ d)) (g fail_) := by
  unfold I.chainWith_j2; simp only [apply_cnd g, apply_optC g, apply_sumC g, I.chainWith_j3_nat g]
theorem I.chainWith_S2 (x1 : List Int) (x2 : Int) (x7 : Int) (r0_0 : Int) (r0_1 : Int) (r0_2 : Int) (r0_3 : Int) (r0_4 : Int) (r0_5 : Int) (r1_0 : Int) (r1_1 : Int) (r1_2 : Int) (r1_3 : Int) (r1_4 : Int) (r1_5 : Int) (K_ : St → R) (κ : V → List E → R) : denC TD (tableK I.chainWith_T) I.chainWith_ann (drawOk (tableP I.chainWith_T)) 0 FUEL (headsC 2 (Try.f89.body.getD .skip)) { n := 77, t := [(1, (.ro false (.ints .i64 x1))), (2, (.int .i64 x2)), (3, (.ptr 0 0)), (6, (.ptr 1 0)), (7, (.int .i64 x7))], h := [.cells [(.int .i64 r0_0), (.int .i64 r0_1), (.int .i64 r0_2), (.int .i64 r0_3), (.int .i64 r0_4), (.int .i64 r0_5)], .cells [(.int .i64 r1_0), (.int .i64 r1_1), (.int .i64 r1_2), (.int .i64 r1_3), (.int .i64 r1_4), (.int .i64 r1_5)]] } (seqK I.chainWith_ann 0 (tailsC 3 (Try.f89.body.getD .skip)) K_ (finC TD 0 Try.f89 κ)) = (bif decide (x7 < r0_0) then (optC (I.fullNeedsIn_t x1 x2) (fun c_2 => (bif c_2 then (K_ { n := 77, t := [(1, (.ro false (.ints .i64 x1))), (2, (.int .i64 x2)), (3, (.ptr 0 0)), (6, (.ptr 1 0)), (7, (.int .i64 x7))], h := [.cells [(.int .i64 x7), (.int .i64 r0_1), (.int .i64 r0_2), (.int .i64 r0_3), (.int .i64 r0_4), (.int .i64 r0_5)], .cells [(.int .i64 r1_0), (.int .i64 r1_1), (.int .i64 r1_2), (.int .i64 r1_3), (.int .i64 r1_4), (.int .i64 r1_5)]] }) else (K_ { n := 77, t := [(1, (.ro false (.ints .i64 x1))), (2, (.int .i64 x2)), (3, (.ptr 0 0)), (6, (.ptr 1 0)), (7, (.int .i64 x7))], h := [.cells [(.int .i64 r0_0), (.int .i64 r0_1), (.int .i64 r0_2), (.int .i64 r0_3), (.int .i64 r0_4), (.int .i64 r0_5)], .cells [(.int .i64 r1_0), (.int .i64 r1_1), (.int .i64 r1_2), (.int .i64 r1_3), (.int .i64 r1_4), (.int .i64 r1_5)]] }))) none) else (K_ { n := 77, t := [(1, (.ro false (.ints .i64 x1))), (2, (.int .i64 x2)), (3, (.ptr 0 0)), (6, (.ptr 1 0)), (7, (.int .i64 x7))], h := [.cells [(.int .i64 r0_0), (.int .i64 r0_1), (.int .i64 r0_2), (.int .i64 r0_3), (.int .i64 r0_4), (.int .i64 r0_5)], .cells [(.int .i64 r1_0), (.int .i64 r1_1), (.int .i64 r1_2), (.int .i64 r1_3), (.int .i64 r1_4), (.int .i64 r1_5)]] })) := by
  kernel_rfl
theorem I.chainWith_J2_is (x1 : List Int) (x2 : Int) (x7 : Int) (r0_0 : Int) (r0_1 : Int) (r0_2 : Int) (r0_3 : Int) (r0_4 : Int) (r0_5 : Int) (r1_0 : Int) (r1_1 : Int) (r1_2 : Int) (r1_3 : Int) (r1_4 : Int) (r1_5 : Int) (κ : V → List E → R) : I.chainWith_J2 { n := 77, t := [(1, (.ro false (.ints .i64 x1))), (2, (.int .i64 x2)), (3, (.ptr 0 0)), (6, (.ptr 1 0)), (7, (.int .i64 x7))], h := [.cells [(.int .i64 r0_0), (.int .i64 r0_1), (.int .i64 r0_2), (.int .i64 r0_3), (.int .i64 r0_4), (.int .i64 r0_5)], .cells [(.int .i64 r1_0), (.int .i64 r1_1), (.int .i64 r1_2), (.int .i64 r1_3), (.int .i64 r1_4), (.int .i64 r1_5)]] } κ = I.chainWith_j2 x1 x2 x7 r0_0 r0_1 r0_2 r0_3 r0_4 r0_5 r1_0 r1_1 r1_2 r1_3 r1_4 r1_5 (fun d => κ (.agg [(.int .i64 d.1), (.int .i64 d.2.1), (.int .i64 d.2.2.1), (.int .i64 d.2.2.2.1), (.int .i64 d.2.2.2.2.1), (.int .i64 d.2.2.2.2.2)]) []) none := by
  refine (denC_seqJ _ _ _ _).trans ((I.chainWith_S2 x1 x2 x7 r0_0 r0_1 r0_2 r0_3 r0_4 r0_5 r1_0 r1_1 r1_2 r1_3 r1_4 r1_5 (fun σ => I.chainWith_J3 σ κ) κ).trans ?_)
  refine cnd_congr ?_ ?_
  · refine optC_congr (fun c_2 => ?_)
    refine cnd_congr ?_ ?_
    · exact I.chainWith_J3_is x1 x2 x7 x7 r0_1 r0_2 r0_3 r0_4 r0_5 r1_0 r1_1 r1_2 r1_3 r1_4 r1_5 κ
    · exact I.chainWith_J3_is x1 x2 x7 r0_0 r0_1 r0_2 r0_3 r0_4 r0_5 r1_0 r1_1 r1_2 r1_3 r1_4 r1_5 κ
  · exact I.chainWith_J3_is x1 x2 x7 r0_0 r0_1 r0_2 r0_3 r0_4 r0_5 r1_0 r1_1 r1_2 r1_3 r1_4 r1_5 κ
noncomputable def I.chainWith_j1 {α : Type} (x1 : List Int) (x2 : Int) (r0_0 : Int) (r0_1 : Int) (r0_2 : Int) (r0_3 : Int) (r0_4 : Int) (r0_5 : Int) (r1_0 : Int) (r1_1 : Int) (r1_2 : Int) (r1_3 : Int) (r1_4 : Int) (r1_5 : Int) (leaf0_ : Int × Int × Int × Int × Int × Int → α) (fail_ : α) : α :=
  (optC (I.sizeOf_t x2) (fun c_1 => (I.chainWith_j2 x1 x2 c_1 r0_0 r0_1 r0_2 r0_3 r0_4 r0_5 r1_0 r1_1 r1_2 r1_3 r1_4 r1_5 leaf0_ fail_)) fail_)
theorem I.chainWith_j1_nat {α γ : Type} (g : α → γ) (x1 : List Int) (x2 : Int) (r0_0 : Int) (r0_1 : Int) (r0_2 : Int) (r0_3 : Int) (r0_4 : Int) (r0_5 : Int) (r1_0 : Int) (r1_1 : Int) (r1_2 : Int) (r1_3 : Int) (r1_4 : Int) (r1_5 : Int) (leaf0_ : Int × Int × Int × Int × Int × Int → α) (fail_ : α) : g (I.chainWith_j1 x1 x2 r0_0 r0_1 r0_2 r0_3 r0_4 r0_5 r1_0 r1_1 r1_2 r1_3 r1_4 r1_5 leaf0_ fail_) = I.chainWith_j1 x1 x2 r0_0 r0_1 r0_2 r0_3 r0_4 r0_5 r1_0 r1_1 r1_2 r1_3 r1_4 r1_5 (fun d => g (leaf0_ d)) (g fail_) := by
  unfold I.chainWith_j1; simp only [apply_cnd g, apply_optC g, apply_sumC g, I.chainWith_j2_nat g]
theorem I.chainWith_S1 (x1 : List Int) (x2 : Int) (r0_0 : Int) (r0_1 : Int) (r0_2 : Int) (r0_3 : Int) (r0_4 : Int) (r0_5 : Int) (r1_0 : Int) (r1_1 : Int) (r1_2 : Int) (r1_3 : Int) (r1_4 : Int) (r1_5 : Int) (K_ : St → R) (κ : V → List E → R) : denC TD (tableK I.chainWith_T) I.chainWith_ann (drawOk (tableP I.chainWith_T)) 0 FUEL (headsC 1 (Try.f89.body.getD .skip)) { n := 77, t := [(1, (.ro false (.ints .i64 x1))), (2, (.int .i64 x2)), (3, (.ptr 0 0)), (6, (.ptr 1 0))], h := [.cells [(.int .i64 r0_0), (.int .i64 r0_1), (.int .i64 r0_2), (.int .i64 r0_3), (.int .i64 r0_4), (.int .i64 r0_5)], .cells [(.int .i64 r1_0), (.int .i64 r1_1), (.int .i64 r1_2), (.int .i64 r1_3), (.int .i64 r1_4), (.int .i64 r1_5)]] } (seqK I.chainWith_ann 0 (tailsC 2 (Try.f89.body.getD .skip)) K_ (finC TD 0 Try.f89 κ)) = (optC (I.sizeOf_t x2) (fun c_1 => (K_ { n := 77, t := [(1, (.ro false (.ints .i64 x1))), (2, (.int .i64 x2)), (3, (.ptr 0 0)), (6, (.ptr 1 0)), (7, (.int .i64 c_1))], h := [.cells [(.int .i64 r0_0), (.int .i64 r0_1), (.int .i64 r0_2), (.int .i64 r0_3), (.int .i64 r0_4), (.int .i64 r0_5)], .cells [(.int .i64 r1_0), (.int .i64 r1_1), (.int .i64 r1_2), (.int .i64 r1_3), (.int .i64 r1_4), (.int .i64 r1_5)]] })) none) := by
  kernel_rfl
theorem I.chainWith_J1_is (x1 : List Int) (x2 : Int) (r0_0 : Int) (r0_1 : Int) (r0_2 : Int) (r0_3 : Int) (r0_4 : Int) (r0_5 : Int) (r1_0 : Int) (r1_1 : Int) (r1_2 : Int) (r1_3 : Int) (r1_4 : Int) (r1_5 : Int) (κ : V → List E → R) : I.chainWith_J1 { n := 77, t := [(1, (.ro false (.ints .i64 x1))), (2, (.int .i64 x2)), (3, (.ptr 0 0)), (6, (.ptr 1 0))], h := [.cells [(.int .i64 r0_0), (.int .i64 r0_1), (.int .i64 r0_2), (.int .i64 r0_3), (.int .i64 r0_4), (.int .i64 r0_5)], .cells [(.int .i64 r1_0), (.int .i64 r1_1), (.int .i64 r1_2), (.int .i64 r1_3), (.int .i64 r1_4), (.int .i64 r1_5)]] } κ = I.chainWith_j1 x1 x2 r0_0 r0_1 r0_2 r0_3 r0_4 r0_5 r1_0 r1_1 r1_2 r1_3 r1_4 r1_5 (fun d => κ (.agg [(.int .i64 d.1), (.int .i64 d.2.1), (.int .i64 d.2.2.1), (.int .i64 d.2.2.2.1), (.int .i64 d.2.2.2.2.1), (.int .i64 d.2.2.2.2.2)]) []) none := by
  refine (denC_seqJ _ _ _ _).trans ((I.chainWith_S1 x1 x2 r0_0 r0_1 r0_2 r0_3 r0_4 r0_5 r1_0 r1_1 r1_2 r1_3 r1_4 r1_5 (fun σ => I.chainWith_J2 σ κ) κ).trans ?_)
  refine optC_congr (fun c_1 => ?_)
  exact I.chainWith_J2_is x1 x2 c_1 r0_0 r0_1 r0_2 r0_3 r0_4 r0_5 r1_0 r1_1 r1_2 r1_3 r1_4 r1_5 κ
noncomputable def I.chainWith_j0 {α : Type} (x0_0 : Int) (x0_1 : Int) (x0_2 : Int) (x0_3 : Int) (x0_4 : Int) (x0_5 : Int) (x1 : List Int) (x2 : Int) (leaf0_ : Int × Int × Int × Int × Int × Int → α) (fail_ : α) : α :=
  (I.chainWith_j1 x1 x2 x0_0 x0_1 x0_2 x0_3 x0_4 x0_5 0 0 0 0 0 0 leaf0_ fail_)
theorem I.chainWith_j0_nat {α γ : Type} (g : α → γ) (x0_0 : Int) (x0_1 : Int) (x0_2 : Int) (x0_3 : Int) (x0_4 : Int) (x0_5 : Int) (x1 : List Int) (x2 : Int) (leaf0_ : Int × Int × Int × Int × Int × Int → α) (fail_ : α) : g (I.chainWith_j0 x0_0 x0_1 x0_2 x0_3 x0_4 x0_5 x1 x2 leaf0_ fail_) = I.chainWith_j0 x0_0 x0_1 x0_2 x0_3 x0_4 x0_5 x1 x2 (fun d => g (leaf0_ d)) (g fail_) := by
  unfold I.chainWith_j0; simp only [apply_cnd g, apply_optC g, apply_sumC g, I.chainWith_j1_nat g]
theorem I.chainWith_S0 (x0_0 : Int) (x0_1 : Int) (x0_2 : Int) (x0_3 : Int) (x0_4 : Int) (x0_5 : Int) (x1 : List Int) (x2 : Int) (K_ : St → R) (κ : V → List E → R) : denC TD (tableK I.chainWith_T) I.chainWith_ann (drawOk (tableP I.chainWith_T)) 0 FUEL (headsC 0 (Try.f89.body.getD .skip)) { n := 77, t := [(0, (.agg [(.int .i64 x0_0), (.int .i64 x0_1), (.int .i64 x0_2), (.int .i64 x0_3), (.int .i64 x0_4), (.int .i64 x0_5)])), (1, (.ro false (.ints .i64 x1))), (2, (.int .i64 x2))], h := [] } (seqK I.chainWith_ann 0 (tailsC 1 (Try.f89.body.getD .skip)) K_ (finC TD 0 Try.f89 κ)) = (K_ { n := 77, t := [(1, (.ro false (.ints .i64 x1))), (2, (.int .i64 x2)), (3, (.ptr 0 0)), (6, (.ptr 1 0))], h := [.cells [(.int .i64 x0_0), (.int .i64 x0_1), (.int .i64 x0_2), (.int .i64 x0_3), (.int .i64 x0_4), (.int .i64 x0_5)], .cells [(.int .i64 0), (.int .i64 0), (.int .i64 0), (.int .i64 0), (.int .i64 0), (.int .i64 0)]] }) := by
  kernel_rfl
theorem I.chainWith_J0_is (x0_0 : Int) (x0_1 : Int) (x0_2 : Int) (x0_3 : Int) (x0_4 : Int) (x0_5 : Int) (x1 : List Int) (x2 : Int) (κ : V → List E → R) : I.chainWith_J0 { n := 77, t := [(0, (.agg [(.int .i64 x0_0), (.int .i64 x0_1), (.int .i64 x0_2), (.int .i64 x0_3), (.int .i64 x0_4), (.int .i64 x0_5)])), (1, (.ro false (.ints .i64 x1))), (2, (.int .i64 x2))], h := [] } κ = I.chainWith_j0 x0_0 x0_1 x0_2 x0_3 x0_4 x0_5 x1 x2 (fun d => κ (.agg [(.int .i64 d.1), (.int .i64 d.2.1), (.int .i64 d.2.2.1), (.int .i64 d.2.2.2.1), (.int .i64 d.2.2.2.2.1), (.int .i64 d.2.2.2.2.2)]) []) none := by
  refine (denC_seqJ _ _ _ _).trans ((I.chainWith_S0 x0_0 x0_1 x0_2 x0_3 x0_4 x0_5 x1 x2 (fun σ => I.chainWith_J1 σ κ) κ).trans ?_)
  exact I.chainWith_J1_is x1 x2 x0_0 x0_1 x0_2 x0_3 x0_4 x0_5 0 0 0 0 0 0 κ
noncomputable def I.chainWith_tree {α : Type} (found0 : Int) (found1 : Int) (found2 : Int) (found3 : Int) (found4 : Int) (found5 : Int) (net : List Int) (set_ : Int) (leaf0_ : Int × Int × Int × Int × Int × Int → α) (fail_ : α) : α :=
  (I.chainWith_j0 found0 found1 found2 found3 found4 found5 net set_ leaf0_ fail_)
theorem I.chainWith_tree_nat {α γ : Type} (g : α → γ) (found0 : Int) (found1 : Int) (found2 : Int) (found3 : Int) (found4 : Int) (found5 : Int) (net : List Int) (set_ : Int) (leaf0_ : Int × Int × Int × Int × Int × Int → α) (fail_ : α) : g (I.chainWith_tree found0 found1 found2 found3 found4 found5 net set_ leaf0_ fail_) = I.chainWith_tree found0 found1 found2 found3 found4 found5 net set_ (fun d => g (leaf0_ d)) (g fail_) := by
  unfold I.chainWith_tree; simp only [apply_cnd g, apply_optC g, apply_sumC g, I.chainWith_j0_nat g]
noncomputable def I.chainWith_t (found0 : Int) (found1 : Int) (found2 : Int) (found3 : Int) (found4 : Int) (found5 : Int) (net : List Int) (set_ : Int) : Option (Int × Int × Int × Int × Int × Int) := I.chainWith_tree found0 found1 found2 found3 found4 found5 net set_ (fun d => some d) none
theorem I.chainWith_den (found0 : Int) (found1 : Int) (found2 : Int) (found3 : Int) (found4 : Int) (found5 : Int) (net : List Int) (set_ : Int) (κ : V → List E → R) : I.chainWith_F [.agg [.int .i64 found0, .int .i64 found1, .int .i64 found2, .int .i64 found3, .int .i64 found4, .int .i64 found5], .ro false (.ints .i64 net), .int .i64 set_] [] κ = optC (I.chainWith_t found0 found1 found2 found3 found4 found5 net set_) (fun (r : Int × Int × Int × Int × Int × Int) => κ (.agg [(.int .i64 r.1), (.int .i64 r.2.1), (.int .i64 r.2.2.1), (.int .i64 r.2.2.2.1), (.int .i64 r.2.2.2.2.1), (.int .i64 r.2.2.2.2.2)]) []) none := by
  have hu : I.chainWith_F [.agg [.int .i64 found0, .int .i64 found1, .int .i64 found2, .int .i64 found3, .int .i64 found4, .int .i64 found5], .ro false (.ints .i64 net), .int .i64 set_] [] κ = I.chainWith_tree found0 found1 found2 found3 found4 found5 net set_ (fun d => κ (.agg [(.int .i64 d.1), (.int .i64 d.2.1), (.int .i64 d.2.2.1), (.int .i64 d.2.2.2.1), (.int .i64 d.2.2.2.2.1), (.int .i64 d.2.2.2.2.2)]) []) none := by
    refine Eq.trans (show I.chainWith_F [.agg [.int .i64 found0, .int .i64 found1, .int .i64 found2, .int .i64 found3, .int .i64 found4, .int .i64 found5], .ro false (.ints .i64 net), .int .i64 set_] [] κ = I.chainWith_J0 { n := 77, t := [(0, (.agg [(.int .i64 found0), (.int .i64 found1), (.int .i64 found2), (.int .i64 found3), (.int .i64 found4), (.int .i64 found5)])), (1, (.ro false (.ints .i64 net))), (2, (.int .i64 set_))], h := [] } κ by kernel_rfl) ?_
    exact I.chainWith_J0_is found0 found1 found2 found3 found4 found5 net set_ κ
  rw [hu]
  exact (I.chainWith_tree_nat (fun o => optC o (fun (r : Int × Int × Int × Int × Int × Int) => κ (.agg [(.int .i64 r.1), (.int .i64 r.2.1), (.int .i64 r.2.2.1), (.int .i64 r.2.2.2.1), (.int .i64 r.2.2.2.2.1), (.int .i64 r.2.2.2.2.2)]) []) none) found0 found1 found2 found3 found4 found5 net set_ (fun d => some d) none).symm
noncomputable def I.chainWith_s : D.Spec where
  keep := false
  pure := true
  ds := [.invalid, .int .i64, .invalid]
  sp := fun args h κ => match args, h with
    | [.agg [.int .i64 found0, .int .i64 found1, .int .i64 found2, .int .i64 found3, .int .i64 found4, .int .i64 found5], .ro false (.ints .i64 net), .int .i64 set_], [] => optC (I.chainWith_t found0 found1 found2 found3 found4 found5 net set_) (fun (r : Int × Int × Int × Int × Int × Int) => κ (.agg [(.int .i64 r.1), (.int .i64 r.2.1), (.int .i64 r.2.2.1), (.int .i64 r.2.2.2.1), (.int .i64 r.2.2.2.2.1), (.int .i64 r.2.2.2.2.2)]) []) none
    | _, _ => none
theorem I.chainWith_ok : SpecOk Try.prog 89 I.chainWith_s := by
  refine SpecOk.of TDok mixed (T := I.chainWith_T) ?_ (ann := I.chainWith_ann) Try.func89 rfl (by decide +kernel) ?_ ?_ ?_
  · intro p hp
    simp only [I.chainWith_T, List.mem_cons, List.not_mem_nil, or_false] at hp
    rcases hp with rfl | rfl | rfl | rfl | rfl | rfl | rfl
    · exact I.sizeOf_ok
    · exact I.fullNeedsIn_ok
    · exact I.watchIn_ok
    · exact I.fullApartIn_ok
    · exact I.apartIn_ok
    · exact I.leastWatchIn_ok
    · exact I.needsAllIn_ok
  · intro args h κ r hh
    simp only [I.chainWith_s] at hh
    split at hh
    · exact (I.chainWith_den _ _ _ _ _ _ _ _ κ).trans hh
    · cases hh
  · intro args h κ r hh
    simp only [I.chainWith_s] at hh ⊢
    split at hh
    · exact optC_law2 (F := fun (r : Int × Int × Int × Int × Int × Int) κ => κ (.agg [(.int .i64 r.1), (.int .i64 r.2.1), (.int .i64 r.2.2.1), (.int .i64 r.2.2.2.1), (.int .i64 r.2.2.2.2.1), (.int .i64 r.2.2.2.2.2)]) []) (fun b κ r hb => ⟨_, _, hb, fun _ => rfl⟩) hh
    · cases hh
  · intro _ args h κ r hh
    simp only [I.chainWith_s] at hh
    split at hh
    · exact ⟨rfl, fun _ => rfl⟩
    · cases hh

-- loop.example/guardsonnets/impl.chainIn
noncomputable def I.chainIn_T : List (Nat × D.Spec) := [(61, I.allOf_s), (89, I.chainWith_s)]
def I.chainIn_ann : Nat → List Nat × List Nat
  | 4 => ([0, 2, 4, 5], [2, 4])
  | _ => ([], [])
noncomputable def I.chainIn_F (args : List V) (h : List E) (κ : V → List E → R) : R := funC TD (tableK I.chainIn_T) I.chainIn_ann (drawOk (tableP I.chainIn_T)) FUEL Try.f73 args h κ
noncomputable def I.chainIn_L4 (n : Nat) (σ : St) (k : X → St → R) : R := iterC 0 (fun σ k => denC TD (tableK I.chainIn_T) I.chainIn_ann (drawOk (tableP I.chainIn_T)) 0 FUEL ((findLoop 4 (Try.f73.body.getD .skip)).getD .skip) σ k) [0, 2, 4, 5] [2, 4] n σ k
noncomputable def I.chainIn_k4 (κ : V → List E → R) : X → St → R := (afterC TD (tableK I.chainIn_T) I.chainIn_ann (drawOk (tableP I.chainIn_T)) 0 FUEL 4 (Try.f73.body.getD .skip) (finC TD 0 Try.f73 κ)).getD (fun _ _ => none)
noncomputable def I.chainIn_step4 {α : Type} (x0 : List Int) (x5 : Int) (r0_0 : Int) (r0_1 : Int) (r0_2 : Int) (r0_3 : Int) (r0_4 : Int) (r0_5 : Int) (r1_0 : Int) (r1_1 : Int) (r1_2 : Int) (r1_3 : Int) (r1_4 : Int) (r1_5 : Int) (next_ : Int × Int × Int × Int × Int × Int × Int × Int × Int × Int × Int × Int × Int → α) (out0_ : Int × Int × Int × Int × Int × Int × Int × Int × Int × Int × Int × Int → α) (fail_ : α) : α :=
  (optC (I.allOf_t x0) (fun c_1 => (bif decide (x5 ≤ c_1) then (optC (I.chainWith_t r1_0 r1_1 r1_2 r1_3 r1_4 r1_5 x0 x5) (fun c_2 => (next_ (IntKind.i64.wrap (x5 + 1), r0_0, r0_1, r0_2, r0_3, r0_4, r0_5, c_2.fst, c_2.snd.fst, c_2.snd.snd.fst, c_2.snd.snd.snd.fst, c_2.snd.snd.snd.snd.fst, c_2.snd.snd.snd.snd.snd))) fail_) else (out0_ (r0_0, r0_1, r0_2, r0_3, r0_4, r0_5, r1_0, r1_1, r1_2, r1_3, r1_4, r1_5)))) fail_)
theorem I.chainIn_step4_nat {α γ : Type} (g : α → γ) (x0 : List Int) (x5 : Int) (r0_0 : Int) (r0_1 : Int) (r0_2 : Int) (r0_3 : Int) (r0_4 : Int) (r0_5 : Int) (r1_0 : Int) (r1_1 : Int) (r1_2 : Int) (r1_3 : Int) (r1_4 : Int) (r1_5 : Int) (next_ : Int × Int × Int × Int × Int × Int × Int × Int × Int × Int × Int × Int × Int → α) (out0_ : Int × Int × Int × Int × Int × Int × Int × Int × Int × Int × Int × Int → α) (fail_ : α) : g (I.chainIn_step4 x0 x5 r0_0 r0_1 r0_2 r0_3 r0_4 r0_5 r1_0 r1_1 r1_2 r1_3 r1_4 r1_5 next_ out0_ fail_) = I.chainIn_step4 x0 x5 r0_0 r0_1 r0_2 r0_3 r0_4 r0_5 r1_0 r1_1 r1_2 r1_3 r1_4 r1_5 (fun s => g (next_ s)) (fun d => g (out0_ d)) (g fail_) := by
  unfold I.chainIn_step4; simp only [apply_cnd g, apply_optC g, apply_sumC g]
noncomputable def I.chainIn_run4 (x0 : List Int) : Nat → Int × Int × Int × Int × Int × Int × Int × Int × Int × Int × Int × Int × Int → Option (Int × Int × Int × Int × Int × Int × Int × Int × Int × Int × Int × Int)
  | 0, _ => none
  | n + 1, s_ => I.chainIn_step4 x0 s_.1 s_.2.1 s_.2.2.1 s_.2.2.2.1 s_.2.2.2.2.1 s_.2.2.2.2.2.1 s_.2.2.2.2.2.2.1 s_.2.2.2.2.2.2.2.1 s_.2.2.2.2.2.2.2.2.1 s_.2.2.2.2.2.2.2.2.2.1 s_.2.2.2.2.2.2.2.2.2.2.1 s_.2.2.2.2.2.2.2.2.2.2.2.1 s_.2.2.2.2.2.2.2.2.2.2.2.2 (I.chainIn_run4 x0 n) (fun d => some d) none
theorem I.chainIn_L4_run (x0 : List Int) (n : Nat) (s_ : Int × Int × Int × Int × Int × Int × Int × Int × Int × Int × Int × Int × Int) (k : X → St → R) : I.chainIn_L4 n { n := 23, t := [(0, (.ro false (.ints .i64 x0))), (2, (.ptr 0 0)), (4, (.ptr 1 0)), (5, (.int .i64 s_.1))], h := [.cells [(.int .i64 s_.2.1), (.int .i64 s_.2.2.1), (.int .i64 s_.2.2.2.1), (.int .i64 s_.2.2.2.2.1), (.int .i64 s_.2.2.2.2.2.1), (.int .i64 s_.2.2.2.2.2.2.1)], .cells [(.int .i64 s_.2.2.2.2.2.2.2.1), (.int .i64 s_.2.2.2.2.2.2.2.2.1), (.int .i64 s_.2.2.2.2.2.2.2.2.2.1), (.int .i64 s_.2.2.2.2.2.2.2.2.2.2.1), (.int .i64 s_.2.2.2.2.2.2.2.2.2.2.2.1), (.int .i64 s_.2.2.2.2.2.2.2.2.2.2.2.2)]] } k = optC (I.chainIn_run4 x0 n s_) (fun (r : Int × Int × Int × Int × Int × Int × Int × Int × Int × Int × Int × Int) => k (.exit 0) { n := 23, t := [(2, (.ptr 0 0)), (4, (.ptr 1 0))], h := [.cells [(.int .i64 r.1), (.int .i64 r.2.1), (.int .i64 r.2.2.1), (.int .i64 r.2.2.2.1), (.int .i64 r.2.2.2.2.1), (.int .i64 r.2.2.2.2.2.1)], .cells [(.int .i64 r.2.2.2.2.2.2.1), (.int .i64 r.2.2.2.2.2.2.2.1), (.int .i64 r.2.2.2.2.2.2.2.2.1), (.int .i64 r.2.2.2.2.2.2.2.2.2.1), (.int .i64 r.2.2.2.2.2.2.2.2.2.2.1), (.int .i64 r.2.2.2.2.2.2.2.2.2.2.2)]] }) none := by
  induction n generalizing s_ with
  | zero => rfl
  | succ n ih =>
    have hu : I.chainIn_L4 (n + 1) { n := 23, t := [(0, (.ro false (.ints .i64 x0))), (2, (.ptr 0 0)), (4, (.ptr 1 0)), (5, (.int .i64 s_.1))], h := [.cells [(.int .i64 s_.2.1), (.int .i64 s_.2.2.1), (.int .i64 s_.2.2.2.1), (.int .i64 s_.2.2.2.2.1), (.int .i64 s_.2.2.2.2.2.1), (.int .i64 s_.2.2.2.2.2.2.1)], .cells [(.int .i64 s_.2.2.2.2.2.2.2.1), (.int .i64 s_.2.2.2.2.2.2.2.2.1), (.int .i64 s_.2.2.2.2.2.2.2.2.2.1), (.int .i64 s_.2.2.2.2.2.2.2.2.2.2.1), (.int .i64 s_.2.2.2.2.2.2.2.2.2.2.2.1), (.int .i64 s_.2.2.2.2.2.2.2.2.2.2.2.2)]] } k = I.chainIn_step4 x0 s_.1 s_.2.1 s_.2.2.1 s_.2.2.2.1 s_.2.2.2.2.1 s_.2.2.2.2.2.1 s_.2.2.2.2.2.2.1 s_.2.2.2.2.2.2.2.1 s_.2.2.2.2.2.2.2.2.1 s_.2.2.2.2.2.2.2.2.2.1 s_.2.2.2.2.2.2.2.2.2.2.1 s_.2.2.2.2.2.2.2.2.2.2.2.1 s_.2.2.2.2.2.2.2.2.2.2.2.2 (fun s_ => I.chainIn_L4 n { n := 23, t := [(0, (.ro false (.ints .i64 x0))), (2, (.ptr 0 0)), (4, (.ptr 1 0)), (5, (.int .i64 s_.1))], h := [.cells [(.int .i64 s_.2.1), (.int .i64 s_.2.2.1), (.int .i64 s_.2.2.2.1), (.int .i64 s_.2.2.2.2.1), (.int .i64 s_.2.2.2.2.2.1), (.int .i64 s_.2.2.2.2.2.2.1)], .cells [(.int .i64 s_.2.2.2.2.2.2.2.1), (.int .i64 s_.2.2.2.2.2.2.2.2.1), (.int .i64 s_.2.2.2.2.2.2.2.2.2.1), (.int .i64 s_.2.2.2.2.2.2.2.2.2.2.1), (.int .i64 s_.2.2.2.2.2.2.2.2.2.2.2.1), (.int .i64 s_.2.2.2.2.2.2.2.2.2.2.2.2)]] } k) (fun d => k (.exit 0) { n := 23, t := [(2, (.ptr 0 0)), (4, (.ptr 1 0))], h := [.cells [(.int .i64 d.1), (.int .i64 d.2.1), (.int .i64 d.2.2.1), (.int .i64 d.2.2.2.1), (.int .i64 d.2.2.2.2.1), (.int .i64 d.2.2.2.2.2.1)], .cells [(.int .i64 d.2.2.2.2.2.2.1), (.int .i64 d.2.2.2.2.2.2.2.1), (.int .i64 d.2.2.2.2.2.2.2.2.1), (.int .i64 d.2.2.2.2.2.2.2.2.2.1), (.int .i64 d.2.2.2.2.2.2.2.2.2.2.1), (.int .i64 d.2.2.2.2.2.2.2.2.2.2.2)]] }) none := by
      kernel_rfl
    have hs : (fun s_ : Int × Int × Int × Int × Int × Int × Int × Int × Int × Int × Int × Int × Int => I.chainIn_L4 n { n := 23, t := [(0, (.ro false (.ints .i64 x0))), (2, (.ptr 0 0)), (4, (.ptr 1 0)), (5, (.int .i64 s_.1))], h := [.cells [(.int .i64 s_.2.1), (.int .i64 s_.2.2.1), (.int .i64 s_.2.2.2.1), (.int .i64 s_.2.2.2.2.1), (.int .i64 s_.2.2.2.2.2.1), (.int .i64 s_.2.2.2.2.2.2.1)], .cells [(.int .i64 s_.2.2.2.2.2.2.2.1), (.int .i64 s_.2.2.2.2.2.2.2.2.1), (.int .i64 s_.2.2.2.2.2.2.2.2.2.1), (.int .i64 s_.2.2.2.2.2.2.2.2.2.2.1), (.int .i64 s_.2.2.2.2.2.2.2.2.2.2.2.1), (.int .i64 s_.2.2.2.2.2.2.2.2.2.2.2.2)]] } k) = fun s_ => optC (I.chainIn_run4 x0 n s_) (fun (r : Int × Int × Int × Int × Int × Int × Int × Int × Int × Int × Int × Int) => k (.exit 0) { n := 23, t := [(2, (.ptr 0 0)), (4, (.ptr 1 0))], h := [.cells [(.int .i64 r.1), (.int .i64 r.2.1), (.int .i64 r.2.2.1), (.int .i64 r.2.2.2.1), (.int .i64 r.2.2.2.2.1), (.int .i64 r.2.2.2.2.2.1)], .cells [(.int .i64 r.2.2.2.2.2.2.1), (.int .i64 r.2.2.2.2.2.2.2.1), (.int .i64 r.2.2.2.2.2.2.2.2.1), (.int .i64 r.2.2.2.2.2.2.2.2.2.1), (.int .i64 r.2.2.2.2.2.2.2.2.2.2.1), (.int .i64 r.2.2.2.2.2.2.2.2.2.2.2)]] }) none := funext ih
    rw [hu, hs]
    exact (I.chainIn_step4_nat (fun o => optC o (fun (r : Int × Int × Int × Int × Int × Int × Int × Int × Int × Int × Int × Int) => k (.exit 0) { n := 23, t := [(2, (.ptr 0 0)), (4, (.ptr 1 0))], h := [.cells [(.int .i64 r.1), (.int .i64 r.2.1), (.int .i64 r.2.2.1), (.int .i64 r.2.2.2.1), (.int .i64 r.2.2.2.2.1), (.int .i64 r.2.2.2.2.2.1)], .cells [(.int .i64 r.2.2.2.2.2.2.1), (.int .i64 r.2.2.2.2.2.2.2.1), (.int .i64 r.2.2.2.2.2.2.2.2.1), (.int .i64 r.2.2.2.2.2.2.2.2.2.1), (.int .i64 r.2.2.2.2.2.2.2.2.2.2.1), (.int .i64 r.2.2.2.2.2.2.2.2.2.2.2)]] }) none) x0 s_.1 s_.2.1 s_.2.2.1 s_.2.2.2.1 s_.2.2.2.2.1 s_.2.2.2.2.2.1 s_.2.2.2.2.2.2.1 s_.2.2.2.2.2.2.2.1 s_.2.2.2.2.2.2.2.2.1 s_.2.2.2.2.2.2.2.2.2.1 s_.2.2.2.2.2.2.2.2.2.2.1 s_.2.2.2.2.2.2.2.2.2.2.2.1 s_.2.2.2.2.2.2.2.2.2.2.2.2 (I.chainIn_run4 x0 n) (fun d => some d) none).symm
noncomputable def I.chainIn_tree {α : Type} (net : List Int) (leaf0_ : Int × Int × Int × Int × Int × Int → α) (fail_ : α) : α :=
  (optC (I.chainIn_run4 net FUEL (0, 0, 0, 0, 0, 0, 0, (↑net.length : Int), (↑net.length : Int), (↑net.length : Int), 0, 0, 0)) (fun qy_3 => (leaf0_ (qy_3.2.2.2.2.2.2.1, qy_3.2.2.2.2.2.2.2.1, qy_3.2.2.2.2.2.2.2.2.1, qy_3.2.2.2.2.2.2.2.2.2.1, qy_3.2.2.2.2.2.2.2.2.2.2.1, qy_3.2.2.2.2.2.2.2.2.2.2.2))) fail_)
theorem I.chainIn_tree_nat {α γ : Type} (g : α → γ) (net : List Int) (leaf0_ : Int × Int × Int × Int × Int × Int → α) (fail_ : α) : g (I.chainIn_tree net leaf0_ fail_) = I.chainIn_tree net (fun d => g (leaf0_ d)) (g fail_) := by
  unfold I.chainIn_tree; simp only [apply_cnd g, apply_optC g, apply_sumC g]
noncomputable def I.chainIn_t (net : List Int) : Option (Int × Int × Int × Int × Int × Int) := I.chainIn_tree net (fun d => some d) none
theorem I.chainIn_den (net : List Int) (κ : V → List E → R) : I.chainIn_F [.ro false (.ints .i64 net)] [] κ = optC (I.chainIn_t net) (fun (r : Int × Int × Int × Int × Int × Int) => κ (.agg [(.int .i64 r.1), (.int .i64 r.2.1), (.int .i64 r.2.2.1), (.int .i64 r.2.2.2.1), (.int .i64 r.2.2.2.2.1), (.int .i64 r.2.2.2.2.2)]) []) none := by
  have hu : I.chainIn_F [.ro false (.ints .i64 net)] [] κ = I.chainIn_tree net (fun d => κ (.agg [(.int .i64 d.1), (.int .i64 d.2.1), (.int .i64 d.2.2.1), (.int .i64 d.2.2.2.1), (.int .i64 d.2.2.2.2.1), (.int .i64 d.2.2.2.2.2)]) []) none := by
    refine Eq.trans (show I.chainIn_F [.ro false (.ints .i64 net)] [] κ = (I.chainIn_L4 FUEL { n := 23, t := [(0, (.ro false (.ints .i64 net))), (2, (.ptr 0 0)), (4, (.ptr 1 0)), (5, (.int .i64 0))], h := [.cells [(.int .i64 0), (.int .i64 0), (.int .i64 0), (.int .i64 0), (.int .i64 0), (.int .i64 0)], .cells [(.int .i64 ((↑net.length : Int))), (.int .i64 ((↑net.length : Int))), (.int .i64 ((↑net.length : Int))), (.int .i64 0), (.int .i64 0), (.int .i64 0)]] } (I.chainIn_k4 κ)) by kernel_rfl) ?_
    refine (I.chainIn_L4_run net FUEL (0, 0, 0, 0, 0, 0, 0, (↑net.length : Int), (↑net.length : Int), (↑net.length : Int), 0, 0, 0) (I.chainIn_k4 κ)).trans (optC_congr (fun qy_3 => ?_))
    kernel_rfl
  rw [hu]
  exact (I.chainIn_tree_nat (fun o => optC o (fun (r : Int × Int × Int × Int × Int × Int) => κ (.agg [(.int .i64 r.1), (.int .i64 r.2.1), (.int .i64 r.2.2.1), (.int .i64 r.2.2.2.1), (.int .i64 r.2.2.2.2.1), (.int .i64 r.2.2.2.2.2)]) []) none) net (fun d => some d) none).symm
noncomputable def I.chainIn_s : D.Spec where
  keep := false
  pure := true
  ds := [.int .i64]
  sp := fun args h κ => match args, h with
    | [.ro false (.ints .i64 net)], [] => optC (I.chainIn_t net) (fun (r : Int × Int × Int × Int × Int × Int) => κ (.agg [(.int .i64 r.1), (.int .i64 r.2.1), (.int .i64 r.2.2.1), (.int .i64 r.2.2.2.1), (.int .i64 r.2.2.2.2.1), (.int .i64 r.2.2.2.2.2)]) []) none
    | _, _ => none
theorem I.chainIn_ok : SpecOk Try.prog 73 I.chainIn_s := by
  refine SpecOk.of TDok mixed (T := I.chainIn_T) ?_ (ann := I.chainIn_ann) Try.func73 rfl (by decide +kernel) ?_ ?_ ?_
  · intro p hp
    simp only [I.chainIn_T, List.mem_cons, List.not_mem_nil, or_false] at hp
    rcases hp with rfl | rfl
    · exact I.allOf_ok
    · exact I.chainWith_ok
  · intro args h κ r hh
    simp only [I.chainIn_s] at hh
    split at hh
    · exact (I.chainIn_den _ κ).trans hh
    · cases hh
  · intro args h κ r hh
    simp only [I.chainIn_s] at hh ⊢
    split at hh
    · exact optC_law2 (F := fun (r : Int × Int × Int × Int × Int × Int) κ => κ (.agg [(.int .i64 r.1), (.int .i64 r.2.1), (.int .i64 r.2.2.1), (.int .i64 r.2.2.2.1), (.int .i64 r.2.2.2.2.1), (.int .i64 r.2.2.2.2.2)]) []) (fun b κ r hb => ⟨_, _, hb, fun _ => rfl⟩) hh
    · cases hh
  · intro _ args h κ r hh
    simp only [I.chainIn_s] at hh
    split at hh
    · exact ⟨rfl, fun _ => rfl⟩
    · cases hh

-- loop.example/guardsonnets/impl.FewestNeeds
noncomputable def I.FewestNeeds_T : List (Nat × D.Spec) := [(22, I.NetOk_s), (73, I.chainIn_s)]
def I.FewestNeeds_ann : Nat → List Nat × List Nat
  | _ => ([], [])
noncomputable def I.FewestNeeds_F (args : List V) (h : List E) (κ : V → List E → R) : R := funC TD (tableK I.FewestNeeds_T) I.FewestNeeds_ann (drawOk (tableP I.FewestNeeds_T)) FUEL Try.f39 args h κ
noncomputable def I.FewestNeeds_tree {α : Type} (net : List Int) (leaf0_ : Int → α) (fail_ : α) : α :=
  (optC (I.NetOk_t net) (fun c_1 => (bif !c_1 then (leaf0_ (-1)) else (optC (I.chainIn_t net) (fun c_2 => (leaf0_ c_2.fst)) fail_))) fail_)
theorem I.FewestNeeds_tree_nat {α γ : Type} (g : α → γ) (net : List Int) (leaf0_ : Int → α) (fail_ : α) : g (I.FewestNeeds_tree net leaf0_ fail_) = I.FewestNeeds_tree net (fun d => g (leaf0_ d)) (g fail_) := by
  unfold I.FewestNeeds_tree; simp only [apply_cnd g, apply_optC g, apply_sumC g]
noncomputable def I.FewestNeeds_t (net : List Int) : Option (Int) := I.FewestNeeds_tree net (fun d => some d) none
theorem I.FewestNeeds_den (net : List Int) (κ : V → List E → R) : I.FewestNeeds_F [.ro false (.ints .i64 net)] [] κ = optC (I.FewestNeeds_t net) (fun (r : Int) => κ (.int .i64 r) []) none := by
  have hu : I.FewestNeeds_F [.ro false (.ints .i64 net)] [] κ = I.FewestNeeds_tree net (fun d => κ (.int .i64 d) []) none := by
    kernel_rfl
  rw [hu]
  exact (I.FewestNeeds_tree_nat (fun o => optC o (fun (r : Int) => κ (.int .i64 r) []) none) net (fun d => some d) none).symm
noncomputable def I.FewestNeeds_s : D.Spec where
  keep := false
  pure := true
  ds := [.int .i64]
  sp := fun args h κ => match args, h with
    | [.ro false (.ints .i64 net)], [] => optC (I.FewestNeeds_t net) (fun (r : Int) => κ (.int .i64 r) []) none
    | _, _ => none
theorem I.FewestNeeds_ok : SpecOk Try.prog 39 I.FewestNeeds_s := by
  refine SpecOk.of TDok mixed (T := I.FewestNeeds_T) ?_ (ann := I.FewestNeeds_ann) Try.func39 rfl (by decide +kernel) ?_ ?_ ?_
  · intro p hp
    simp only [I.FewestNeeds_T, List.mem_cons, List.not_mem_nil, or_false] at hp
    rcases hp with rfl | rfl
    · exact I.NetOk_ok
    · exact I.chainIn_ok
  · intro args h κ r hh
    simp only [I.FewestNeeds_s] at hh
    split at hh
    · exact (I.FewestNeeds_den _ κ).trans hh
    · cases hh
  · intro args h κ r hh
    simp only [I.FewestNeeds_s] at hh ⊢
    split at hh
    · exact optC_law2 (F := fun (r : Int) κ => κ (.int .i64 r) []) (fun b κ r hb => ⟨_, _, hb, fun _ => rfl⟩) hh
    · cases hh
  · intro _ args h κ r hh
    simp only [I.FewestNeeds_s] at hh
    split at hh
    · exact ⟨rfl, fun _ => rfl⟩
    · cases hh

-- loop.example/guardsonnets/spec.l3Private
noncomputable def S.l3Private_T : List (Nat × D.Spec) := [(87, S.l1Near_s)]
def S.l3Private_ann : Nat → List Nat × List Nat
  | _ => ([], [])
noncomputable def S.l3Private_F (args : List V) (h : List E) (κ : V → List E → R) : R := funC TD (tableK S.l3Private_T) S.l3Private_ann (drawOk (tableP S.l3Private_T)) FUEL Try.f90 args h κ
noncomputable def S.l3Private_tree {α : Type} (net : List Int) (set_ : Int) (guard : Int) (leaf0_ : Int → α) (fail_ : α) : α :=
  (bif decide (guard < 0) then fail_ else (bif decide (0 ≤ guard) && decide (guard < (↑net.length : Int)) then (bif decide (guard < 0) then fail_ else (optC (S.l1Near_t net (bits BinOp.andNot IntKind.i64 set_ (IntKind.i64.wrap (1 * 2 ^ min guard.toNat IntKind.i64.bits)))) (fun c_1 => (leaf0_ (bits BinOp.andNot IntKind.i64 (bits BinOp.or IntKind.i64 (eli net guard.toNat) (IntKind.i64.wrap (1 * 2 ^ min guard.toNat IntKind.i64.bits))) (bits BinOp.or IntKind.i64 (bits BinOp.andNot IntKind.i64 set_ (IntKind.i64.wrap (1 * 2 ^ min guard.toNat IntKind.i64.bits))) c_1)))) fail_)) else fail_))
theorem S.l3Private_tree_nat {α γ : Type} (g : α → γ) (net : List Int) (set_ : Int) (guard : Int) (leaf0_ : Int → α) (fail_ : α) : g (S.l3Private_tree net set_ guard leaf0_ fail_) = S.l3Private_tree net set_ guard (fun d => g (leaf0_ d)) (g fail_) := by
  unfold S.l3Private_tree; simp only [apply_cnd g, apply_optC g, apply_sumC g]
noncomputable def S.l3Private_t (net : List Int) (set_ : Int) (guard : Int) : Option (Int) := S.l3Private_tree net set_ guard (fun d => some d) none
theorem S.l3Private_den (net : List Int) (set_ : Int) (guard : Int) (κ : V → List E → R) : S.l3Private_F [.ro false (.ints .i64 net), .int .i64 set_, .int .i64 guard] [] κ = optC (S.l3Private_t net set_ guard) (fun (r : Int) => κ (.int .i64 r) []) none := by
  have hu : S.l3Private_F [.ro false (.ints .i64 net), .int .i64 set_, .int .i64 guard] [] κ = S.l3Private_tree net set_ guard (fun d => κ (.int .i64 d) []) none := by
    kernel_rfl
  rw [hu]
  exact (S.l3Private_tree_nat (fun o => optC o (fun (r : Int) => κ (.int .i64 r) []) none) net set_ guard (fun d => some d) none).symm
noncomputable def S.l3Private_s : D.Spec where
  keep := false
  pure := true
  ds := [.int .i64, .invalid, .invalid]
  sp := fun args h κ => match args, h with
    | [.ro false (.ints .i64 net), .int .i64 set_, .int .i64 guard], [] => optC (S.l3Private_t net set_ guard) (fun (r : Int) => κ (.int .i64 r) []) none
    | _, _ => none
theorem S.l3Private_ok : SpecOk Try.prog 90 S.l3Private_s := by
  refine SpecOk.of TDok mixed (T := S.l3Private_T) ?_ (ann := S.l3Private_ann) Try.func90 rfl (by decide +kernel) ?_ ?_ ?_
  · intro p hp
    simp only [S.l3Private_T, List.mem_cons, List.not_mem_nil, or_false] at hp
    rcases hp with rfl
    · exact S.l1Near_ok
  · intro args h κ r hh
    simp only [S.l3Private_s] at hh
    split at hh
    · exact (S.l3Private_den _ _ _ κ).trans hh
    · cases hh
  · intro args h κ r hh
    simp only [S.l3Private_s] at hh ⊢
    split at hh
    · exact optC_law2 (F := fun (r : Int) κ => κ (.int .i64 r) []) (fun b κ r hb => ⟨_, _, hb, fun _ => rfl⟩) hh
    · cases hh
  · intro _ args h κ r hh
    simp only [S.l3Private_s] at hh
    split at hh
    · exact ⟨rfl, fun _ => rfl⟩
    · cases hh

-- loop.example/guardsonnets/spec.l3Needs
noncomputable def S.l3Needs_T : List (Nat × D.Spec) := [(90, S.l3Private_s)]
def S.l3Needs_ann : Nat → List Nat × List Nat
  | 2 => ([0, 1, 5], [4])
  | _ => ([], [])
noncomputable def S.l3Needs_F (args : List V) (h : List E) (κ : V → List E → R) : R := funC TD (tableK S.l3Needs_T) S.l3Needs_ann (drawOk (tableP S.l3Needs_T)) FUEL Try.f75 args h κ
noncomputable def S.l3Needs_L2 (n : Nat) (σ : St) (k : X → St → R) : R := iterC 0 (fun σ k => denC TD (tableK S.l3Needs_T) S.l3Needs_ann (drawOk (tableP S.l3Needs_T)) 0 FUEL ((findLoop 2 (Try.f75.body.getD .skip)).getD .skip) σ k) [0, 1, 5] [4] n σ k
noncomputable def S.l3Needs_k2 (κ : V → List E → R) : X → St → R := (afterC TD (tableK S.l3Needs_T) S.l3Needs_ann (drawOk (tableP S.l3Needs_T)) 0 FUEL 2 (Try.f75.body.getD .skip) (finC TD 0 Try.f75 κ)).getD (fun _ _ => none)
noncomputable def S.l3Needs_step2 {α : Type} (x0 : List Int) (x1 : Int) (x5 : Int) (next_ : Int → α) (out0_ : Bool → α) (out1_ : Unit → α) (fail_ : α) : α :=
  (bif decide (x5 < (↑x0.length : Int)) then (bif decide (x5 < 0) then fail_ else (bif (x1.fdiv (2 ^ min x5.toNat IntKind.i64.bits)).tmod 2 == 1 then (optC (S.l3Private_t x0 x1 x5) (fun c_1 => (bif c_1 == 0 then (out0_ false) else (next_ (IntKind.i64.wrap (x5 + 1))))) fail_) else (next_ (IntKind.i64.wrap (x5 + 1))))) else (out1_ ()))
theorem S.l3Needs_step2_nat {α γ : Type} (g : α → γ) (x0 : List Int) (x1 : Int) (x5 : Int) (next_ : Int → α) (out0_ : Bool → α) (out1_ : Unit → α) (fail_ : α) : g (S.l3Needs_step2 x0 x1 x5 next_ out0_ out1_ fail_) = S.l3Needs_step2 x0 x1 x5 (fun s => g (next_ s)) (fun d => g (out0_ d)) (fun d => g (out1_ d)) (g fail_) := by
  unfold S.l3Needs_step2; simp only [apply_cnd g, apply_optC g, apply_sumC g]
noncomputable def S.l3Needs_run2 (x0 : List Int) (x1 : Int) : Nat → Int → Option ((Bool) ⊕ (Unit))
  | 0, _ => none
  | n + 1, s_ => S.l3Needs_step2 x0 x1 s_ (S.l3Needs_run2 x0 x1 n) (fun d => some ((Sum.inl d))) (fun d => some ((Sum.inr d))) none
theorem S.l3Needs_L2_run (x0 : List Int) (x1 : Int) (n : Nat) (s_ : Int) (k : X → St → R) : S.l3Needs_L2 n { n := 24, t := [(0, (.ro false (.ints .i64 x0))), (1, (.int .i64 x1)), (5, (.int .i64 s_))], h := [] } k = optC (S.l3Needs_run2 x0 x1 n s_) (fun (r : (Bool) ⊕ (Unit)) => (sumC r (fun (r : Bool) => k (.ret) { n := 24, t := [(4, (.bool r))], h := [] }) (fun (r : Unit) => k (.exit 0) { n := 24, t := [(4, .junk)], h := [] }))) none := by
  induction n generalizing s_ with
  | zero => rfl
  | succ n ih =>
    have hu : S.l3Needs_L2 (n + 1) { n := 24, t := [(0, (.ro false (.ints .i64 x0))), (1, (.int .i64 x1)), (5, (.int .i64 s_))], h := [] } k = S.l3Needs_step2 x0 x1 s_ (fun s_ => S.l3Needs_L2 n { n := 24, t := [(0, (.ro false (.ints .i64 x0))), (1, (.int .i64 x1)), (5, (.int .i64 s_))], h := [] } k) (fun d => k (.ret) { n := 24, t := [(4, (.bool d))], h := [] }) (fun d => k (.exit 0) { n := 24, t := [(4, .junk)], h := [] }) none := by
      kernel_rfl
    have hs : (fun s_ : Int => S.l3Needs_L2 n { n := 24, t := [(0, (.ro false (.ints .i64 x0))), (1, (.int .i64 x1)), (5, (.int .i64 s_))], h := [] } k) = fun s_ => optC (S.l3Needs_run2 x0 x1 n s_) (fun (r : (Bool) ⊕ (Unit)) => (sumC r (fun (r : Bool) => k (.ret) { n := 24, t := [(4, (.bool r))], h := [] }) (fun (r : Unit) => k (.exit 0) { n := 24, t := [(4, .junk)], h := [] }))) none := funext ih
    rw [hu, hs]
    exact (S.l3Needs_step2_nat (fun o => optC o (fun (r : (Bool) ⊕ (Unit)) => (sumC r (fun (r : Bool) => k (.ret) { n := 24, t := [(4, (.bool r))], h := [] }) (fun (r : Unit) => k (.exit 0) { n := 24, t := [(4, .junk)], h := [] }))) none) x0 x1 s_ (S.l3Needs_run2 x0 x1 n) (fun d => some ((Sum.inl d))) (fun d => some ((Sum.inr d))) none).symm
noncomputable def S.l3Needs_tree {α : Type} (net : List Int) (set_ : Int) (leaf0_ : Bool → α) (fail_ : α) : α :=
  (optC (S.l3Needs_run2 net set_ FUEL 0) (fun qy_2 => (sumC qy_2 (fun (qy_2 : Bool) => (leaf0_ qy_2)) (fun (qy_2 : Unit) => (leaf0_ true)))) fail_)
theorem S.l3Needs_tree_nat {α γ : Type} (g : α → γ) (net : List Int) (set_ : Int) (leaf0_ : Bool → α) (fail_ : α) : g (S.l3Needs_tree net set_ leaf0_ fail_) = S.l3Needs_tree net set_ (fun d => g (leaf0_ d)) (g fail_) := by
  unfold S.l3Needs_tree; simp only [apply_cnd g, apply_optC g, apply_sumC g]
noncomputable def S.l3Needs_t (net : List Int) (set_ : Int) : Option (Bool) := S.l3Needs_tree net set_ (fun d => some d) none
theorem S.l3Needs_den (net : List Int) (set_ : Int) (κ : V → List E → R) : S.l3Needs_F [.ro false (.ints .i64 net), .int .i64 set_] [] κ = optC (S.l3Needs_t net set_) (fun (r : Bool) => κ (.bool r) []) none := by
  have hu : S.l3Needs_F [.ro false (.ints .i64 net), .int .i64 set_] [] κ = S.l3Needs_tree net set_ (fun d => κ (.bool d) []) none := by
    refine Eq.trans (show S.l3Needs_F [.ro false (.ints .i64 net), .int .i64 set_] [] κ = (S.l3Needs_L2 FUEL { n := 24, t := [(0, (.ro false (.ints .i64 net))), (1, (.int .i64 set_)), (5, (.int .i64 0))], h := [] } (S.l3Needs_k2 κ)) by kernel_rfl) ?_
    refine (S.l3Needs_L2_run net set_ FUEL 0 (S.l3Needs_k2 κ)).trans (optC_congr (fun qy_2 => ?_))
    rcases qy_2 with qy_2 | qy_2
    · kernel_rfl
    · kernel_rfl
  rw [hu]
  exact (S.l3Needs_tree_nat (fun o => optC o (fun (r : Bool) => κ (.bool r) []) none) net set_ (fun d => some d) none).symm
noncomputable def S.l3Needs_s : D.Spec where
  keep := false
  pure := true
  ds := [.int .i64, .invalid]
  sp := fun args h κ => match args, h with
    | [.ro false (.ints .i64 net), .int .i64 set_], [] => optC (S.l3Needs_t net set_) (fun (r : Bool) => κ (.bool r) []) none
    | _, _ => none
theorem S.l3Needs_ok : SpecOk Try.prog 75 S.l3Needs_s := by
  refine SpecOk.of TDok mixed (T := S.l3Needs_T) ?_ (ann := S.l3Needs_ann) Try.func75 rfl (by decide +kernel) ?_ ?_ ?_
  · intro p hp
    simp only [S.l3Needs_T, List.mem_cons, List.not_mem_nil, or_false] at hp
    rcases hp with rfl
    · exact S.l3Private_ok
  · intro args h κ r hh
    simp only [S.l3Needs_s] at hh
    split at hh
    · exact (S.l3Needs_den _ _ κ).trans hh
    · cases hh
  · intro args h κ r hh
    simp only [S.l3Needs_s] at hh ⊢
    split at hh
    · exact optC_law2 (F := fun (r : Bool) κ => κ (.bool r) []) (fun b κ r hb => ⟨_, _, hb, fun _ => rfl⟩) hh
    · cases hh
  · intro _ args h κ r hh
    simp only [S.l3Needs_s] at hh
    split at hh
    · exact ⟨rfl, fun _ => rfl⟩
    · cases hh


end Go.Proofs.Ytonbbeplmjidnaa
