/- Twins of the translated functions, with their proofs. Conditions: none. -/
import Derived.Test.YtgpgifpblchjjaaBzT2
set_option linter.unusedVariables false
set_option linter.unusedSimpArgs false
set_option linter.unusedSectionVars false
namespace Go.Proofs.Ytgpgifpblchjjaa
open D Go.RowKit
-- loop.example/guardsonnets/impl.PostAsk
noncomputable def I.PostAsk_T : List (Nat × D.Spec) := [(12, I.PostOk_s), (52, I.placeIn_s), (42, I.LogPlaces_s), (50, I.eternalIn_s), (53, I.answeredIn_s), (54, I.LogOf_s)]
def I.PostAsk_ann : Nat → List Nat × List Nat
  | _ => ([], [])
noncomputable def I.PostAsk_F (args : List V) (h : List E) (κ : V → List E → R) : R := funC TD (tableK I.PostAsk_T) I.PostAsk_ann (drawAny TD (tableP I.PostAsk_T)) FUEL Try.f19 args h κ
noncomputable def I.PostAsk_tree {α : Type} (p0 : List Int) (p1 : Int) (p2 : List Int) (place : Int) (leaf0_ : Int × Bool × (List Int) × (List Int) → α) (fail_ : α) : α :=
  (optC (I.PostOk_t p0 p1 p2) (fun c_1 => (bif !c_1 then (leaf0_ (0, false, [], [])) else (optC (I.placeIn_t p0 place) (fun c_2 => (bif !c_2 then (leaf0_ (0, false, [], [])) else (bif (↑p2.length : Int) == 120 then (leaf0_ (0, false, [], [])) else (optC (I.LogPlaces_t p2) (fun c_3 => (bif small ([] ++ p0).length then (optC (I.eternalIn_t p0) (fun c_4 => (optC (I.answeredIn_t p0 c_4 p1 place) (fun c_5 => (bif small (c_3.snd ++ [place]).length then (optC (I.LogOf_t (c_3.snd ++ [place])) (fun c_6 => (leaf0_ (c_5, true, [] ++ p0, c_6))) fail_) else fail_)) fail_)) fail_) else fail_)) fail_)))) fail_))) fail_)
theorem I.PostAsk_tree_nat {α γ : Type} (g : α → γ) (p0 : List Int) (p1 : Int) (p2 : List Int) (place : Int) (leaf0_ : Int × Bool × (List Int) × (List Int) → α) (fail_ : α) : g (I.PostAsk_tree p0 p1 p2 place leaf0_ fail_) = I.PostAsk_tree p0 p1 p2 place (fun d => g (leaf0_ d)) (g fail_) := by
  unfold I.PostAsk_tree; simp only [apply_cnd g, apply_optC g, apply_sumC g]
noncomputable def I.PostAsk_t (p0 : List Int) (p1 : Int) (p2 : List Int) (place : Int) : Option (Int × Bool × (List Int) × (List Int)) := I.PostAsk_tree p0 p1 p2 place (fun d => some d) none
theorem I.PostAsk_den (p0 : List Int) (p1 : Int) (p2 : List Int) (place : Int) (κ : V → List E → R) : I.PostAsk_F [.agg [.ro false (.ints .i64 p0), .int .i64 p1, .ro false (.ints .u8 p2)], .int .i64 place] [] κ = optC (I.PostAsk_t p0 p1 p2 place) (fun (r : Int × Bool × (List Int) × (List Int)) => κ (.tup [(.agg [(.own 0), (.int .i64 r.1), (.own 1)]), (.bool r.2.1)]) [.row (.ints .i64 r.2.2.1), .row (.ints .u8 r.2.2.2)]) none := by
  have hu : I.PostAsk_F [.agg [.ro false (.ints .i64 p0), .int .i64 p1, .ro false (.ints .u8 p2)], .int .i64 place] [] κ = I.PostAsk_tree p0 p1 p2 place (fun d => κ (.tup [(.agg [(.own 0), (.int .i64 d.1), (.own 1)]), (.bool d.2.1)]) [.row (.ints .i64 d.2.2.1), .row (.ints .u8 d.2.2.2)]) none := by
    kernel_rfl
  rw [hu]
  exact (I.PostAsk_tree_nat (fun o => optC o (fun (r : Int × Bool × (List Int) × (List Int)) => κ (.tup [(.agg [(.own 0), (.int .i64 r.1), (.own 1)]), (.bool r.2.1)]) [.row (.ints .i64 r.2.2.1), .row (.ints .u8 r.2.2.2)]) none) p0 p1 p2 place (fun d => some d) none).symm
noncomputable def I.PostAsk_s : D.Spec where
  keep := false
  pure := false
  add := true
  ds := [.tuple #[1, 0, 2], .invalid]
  sp := fun args h κ => match args, h with
    | [.agg [.ro false (.ints .i64 p0), .int .i64 p1, .ro false (.ints .u8 p2)], .int .i64 place], [] => optC (I.PostAsk_t p0 p1 p2 place) (fun (r : Int × Bool × (List Int) × (List Int)) => κ (.tup [(.agg [(.own 0), (.int .i64 r.1), (.own 1)]), (.bool r.2.1)]) [.row (.ints .i64 r.2.2.1), .row (.ints .u8 r.2.2.2)]) none
    | _, _ => none
theorem I.PostAsk_ok : SpecOk Try.prog 19 I.PostAsk_s := by
  refine SpecOk.of TDok mixed (T := I.PostAsk_T) ?_ (ann := I.PostAsk_ann) Try.func19 rfl (by decide +kernel) ?_ ?_ ?_ ?_
  · intro p hp
    simp only [I.PostAsk_T, List.mem_cons, List.not_mem_nil, or_false] at hp
    rcases hp with rfl | rfl | rfl | rfl | rfl | rfl
    · exact I.PostOk_ok
    · exact I.placeIn_ok
    · exact I.LogPlaces_ok
    · exact I.eternalIn_ok
    · exact I.answeredIn_ok
    · exact I.LogOf_ok
  · intro args h κ r hh
    simp only [I.PostAsk_s] at hh
    split at hh
    · exact (I.PostAsk_den _ _ _ _ κ).trans hh
    · cases hh
  · intro args h κ r hh
    simp only [I.PostAsk_s] at hh ⊢
    split at hh
    · exact optC_law2 (F := fun (r : Int × Bool × (List Int) × (List Int)) κ => κ (.tup [(.agg [(.own 0), (.int .i64 r.1), (.own 1)]), (.bool r.2.1)]) [.row (.ints .i64 r.2.2.1), .row (.ints .u8 r.2.2.2)]) (fun b κ r hb => ⟨_, _, hb, fun _ => rfl⟩) hh
    · cases hh
  · intro hh; cases hh
  · intro _ args h κ r hh
    simp only [I.PostAsk_s] at hh
    split at hh
    · rfl
    · cases hh


-- loop.example/guardsonnets/spec.PostAsk
noncomputable def S.PostAsk_T : List (Nat × D.Spec) := [(13, S.PostOk_s), (55, S.l1In_s), (25, S.LogPlaces_s), (47, S.l17Last_s), (56, S.LogOf_s)]
def S.PostAsk_ann : Nat → List Nat × List Nat
  | _ => ([], [])
noncomputable def S.PostAsk_F (args : List V) (h : List E) (κ : V → List E → R) : R := funC TD (tableK S.PostAsk_T) S.PostAsk_ann (drawAny TD (tableP S.PostAsk_T)) FUEL Try.f20 args h κ
noncomputable def S.PostAsk_tree {α : Type} (p0 : List Int) (p1 : Int) (p2 : List Int) (place : Int) (leaf0_ : Int × Bool × (List Int) × (List Int) → α) (fail_ : α) : α :=
  (optC (S.PostOk_t p0 p1 p2) (fun c_1 => (bif !c_1 then (leaf0_ (0, false, [], [])) else (optC (S.l1In_t place 0 (IntKind.i64.wrap ((↑p0.length : Int) - 1))) (fun c_2 => (bif !c_2 then (leaf0_ (0, false, [], [])) else (bif (↑p2.length : Int) == 120 then (leaf0_ (0, false, [], [])) else (optC (S.LogPlaces_t p2) (fun c_3 => (bif small (c_3.snd ++ [place]).length then (bif small ([] ++ p0).length then (optC (S.l17Last_t p0 (c_3.snd ++ [place])) (fun c_4 => (optC (S.LogOf_t (c_3.snd ++ [place])) (fun c_5 => (leaf0_ (c_4, true, [] ++ p0, c_5))) fail_)) fail_) else fail_) else fail_)) fail_)))) fail_))) fail_)
theorem S.PostAsk_tree_nat {α γ : Type} (g : α → γ) (p0 : List Int) (p1 : Int) (p2 : List Int) (place : Int) (leaf0_ : Int × Bool × (List Int) × (List Int) → α) (fail_ : α) : g (S.PostAsk_tree p0 p1 p2 place leaf0_ fail_) = S.PostAsk_tree p0 p1 p2 place (fun d => g (leaf0_ d)) (g fail_) := by
  unfold S.PostAsk_tree; simp only [apply_cnd g, apply_optC g, apply_sumC g]
noncomputable def S.PostAsk_t (p0 : List Int) (p1 : Int) (p2 : List Int) (place : Int) : Option (Int × Bool × (List Int) × (List Int)) := S.PostAsk_tree p0 p1 p2 place (fun d => some d) none
theorem S.PostAsk_den (p0 : List Int) (p1 : Int) (p2 : List Int) (place : Int) (κ : V → List E → R) : S.PostAsk_F [.agg [.ro false (.ints .i64 p0), .int .i64 p1, .ro false (.ints .u8 p2)], .int .i64 place] [] κ = optC (S.PostAsk_t p0 p1 p2 place) (fun (r : Int × Bool × (List Int) × (List Int)) => κ (.tup [(.agg [(.own 0), (.int .i64 r.1), (.own 1)]), (.bool r.2.1)]) [.row (.ints .i64 r.2.2.1), .row (.ints .u8 r.2.2.2)]) none := by
  have hu : S.PostAsk_F [.agg [.ro false (.ints .i64 p0), .int .i64 p1, .ro false (.ints .u8 p2)], .int .i64 place] [] κ = S.PostAsk_tree p0 p1 p2 place (fun d => κ (.tup [(.agg [(.own 0), (.int .i64 d.1), (.own 1)]), (.bool d.2.1)]) [.row (.ints .i64 d.2.2.1), .row (.ints .u8 d.2.2.2)]) none := by
    kernel_rfl
  rw [hu]
  exact (S.PostAsk_tree_nat (fun o => optC o (fun (r : Int × Bool × (List Int) × (List Int)) => κ (.tup [(.agg [(.own 0), (.int .i64 r.1), (.own 1)]), (.bool r.2.1)]) [.row (.ints .i64 r.2.2.1), .row (.ints .u8 r.2.2.2)]) none) p0 p1 p2 place (fun d => some d) none).symm
noncomputable def S.PostAsk_s : D.Spec where
  keep := false
  pure := false
  add := true
  ds := [.tuple #[1, 0, 2], .invalid]
  sp := fun args h κ => match args, h with
    | [.agg [.ro false (.ints .i64 p0), .int .i64 p1, .ro false (.ints .u8 p2)], .int .i64 place], [] => optC (S.PostAsk_t p0 p1 p2 place) (fun (r : Int × Bool × (List Int) × (List Int)) => κ (.tup [(.agg [(.own 0), (.int .i64 r.1), (.own 1)]), (.bool r.2.1)]) [.row (.ints .i64 r.2.2.1), .row (.ints .u8 r.2.2.2)]) none
    | _, _ => none
theorem S.PostAsk_ok : SpecOk Try.prog 20 S.PostAsk_s := by
  refine SpecOk.of TDok mixed (T := S.PostAsk_T) ?_ (ann := S.PostAsk_ann) Try.func20 rfl (by decide +kernel) ?_ ?_ ?_ ?_
  · intro p hp
    simp only [S.PostAsk_T, List.mem_cons, List.not_mem_nil, or_false] at hp
    rcases hp with rfl | rfl | rfl | rfl | rfl
    · exact S.PostOk_ok
    · exact S.l1In_ok
    · exact S.LogPlaces_ok
    · exact S.l17Last_ok
    · exact S.LogOf_ok
  · intro args h κ r hh
    simp only [S.PostAsk_s] at hh
    split at hh
    · exact (S.PostAsk_den _ _ _ _ κ).trans hh
    · cases hh
  · intro args h κ r hh
    simp only [S.PostAsk_s] at hh ⊢
    split at hh
    · exact optC_law2 (F := fun (r : Int × Bool × (List Int) × (List Int)) κ => κ (.tup [(.agg [(.own 0), (.int .i64 r.1), (.own 1)]), (.bool r.2.1)]) [.row (.ints .i64 r.2.2.1), .row (.ints .u8 r.2.2.2)]) (fun b κ r hb => ⟨_, _, hb, fun _ => rfl⟩) hh
    · cases hh
  · intro hh; cases hh
  · intro _ args h κ r hh
    simp only [S.PostAsk_s] at hh
    split at hh
    · rfl
    · cases hh


-- loop.example/guardsonnets/laws.sizeOf
noncomputable def L.sizeOf_T : List (Nat × D.Spec) := []
def L.sizeOf_ann : Nat → List Nat × List Nat
  | 2 => ([0, 3], [3])
  | _ => ([], [])
noncomputable def L.sizeOf_F (args : List V) (h : List E) (κ : V → List E → R) : R := funC TD (tableK L.sizeOf_T) L.sizeOf_ann (drawAny TD (tableP L.sizeOf_T)) FUEL Try.f21 args h κ
noncomputable def L.sizeOf_L2 (n : Nat) (σ : St) (k : X → St → R) : R := iterC 0 (fun σ k => denC TD (tableK L.sizeOf_T) L.sizeOf_ann (drawAny TD (tableP L.sizeOf_T)) 0 FUEL ((findLoop 2 (Try.f21.body.getD .skip)).getD .skip) σ k) [0, 3] [3] n σ k
noncomputable def L.sizeOf_k2 (κ : V → List E → R) : X → St → R := (afterC TD (tableK L.sizeOf_T) L.sizeOf_ann (drawAny TD (tableP L.sizeOf_T)) 0 FUEL 2 (Try.f21.body.getD .skip) (finC TD 0 Try.f21 κ)).getD (fun _ _ => none)
noncomputable def L.sizeOf_step2 {α : Type} (x0 : Int) (x3 : Int) (next_ : Int × Int → α) (out0_ : Int → α) (fail_ : α) : α :=
  (bif decide (x0 > 0) then (next_ (IntKind.i64.wrap (x0.tdiv 2), IntKind.i64.wrap (x3 + x0.tmod 2))) else (out0_ x3))
theorem L.sizeOf_step2_nat {α γ : Type} (g : α → γ) (x0 : Int) (x3 : Int) (next_ : Int × Int → α) (out0_ : Int → α) (fail_ : α) : g (L.sizeOf_step2 x0 x3 next_ out0_ fail_) = L.sizeOf_step2 x0 x3 (fun s => g (next_ s)) (fun d => g (out0_ d)) (g fail_) := by
  unfold L.sizeOf_step2; simp only [apply_cnd g, apply_optC g, apply_sumC g]
noncomputable def L.sizeOf_run2 : Nat → Int × Int → Option (Int)
  | 0, _ => none
  | n + 1, s_ => L.sizeOf_step2 s_.1 s_.2 (L.sizeOf_run2 n) (fun d => some d) none
theorem L.sizeOf_L2_run (n : Nat) (s_ : Int × Int) (k : X → St → R) : L.sizeOf_L2 n { n := 13, t := [(0, (.int .i64 s_.1)), (3, (.int .i64 s_.2))], h := [] } k = optC (L.sizeOf_run2 n s_) (fun (r : Int) => k (.exit 0) { n := 13, t := [(3, (.int .i64 r))], h := [] }) none := by
  induction n generalizing s_ with
  | zero => rfl
  | succ n ih =>
    have hu : L.sizeOf_L2 (n + 1) { n := 13, t := [(0, (.int .i64 s_.1)), (3, (.int .i64 s_.2))], h := [] } k = L.sizeOf_step2 s_.1 s_.2 (fun s_ => L.sizeOf_L2 n { n := 13, t := [(0, (.int .i64 s_.1)), (3, (.int .i64 s_.2))], h := [] } k) (fun d => k (.exit 0) { n := 13, t := [(3, (.int .i64 d))], h := [] }) none := by
      kernel_rfl
    have hs : (fun s_ : Int × Int => L.sizeOf_L2 n { n := 13, t := [(0, (.int .i64 s_.1)), (3, (.int .i64 s_.2))], h := [] } k) = fun s_ => optC (L.sizeOf_run2 n s_) (fun (r : Int) => k (.exit 0) { n := 13, t := [(3, (.int .i64 r))], h := [] }) none := funext ih
    rw [hu, hs]
    exact (L.sizeOf_step2_nat (fun o => optC o (fun (r : Int) => k (.exit 0) { n := 13, t := [(3, (.int .i64 r))], h := [] }) none) s_.1 s_.2 (L.sizeOf_run2 n) (fun d => some d) none).symm
noncomputable def L.sizeOf_tree {α : Type} (n_ : Int) (leaf0_ : Int → α) (fail_ : α) : α :=
  (optC (L.sizeOf_run2 FUEL (n_, 0)) (fun qy_1 => (leaf0_ qy_1)) fail_)
theorem L.sizeOf_tree_nat {α γ : Type} (g : α → γ) (n_ : Int) (leaf0_ : Int → α) (fail_ : α) : g (L.sizeOf_tree n_ leaf0_ fail_) = L.sizeOf_tree n_ (fun d => g (leaf0_ d)) (g fail_) := by
  unfold L.sizeOf_tree; simp only [apply_cnd g, apply_optC g, apply_sumC g]
noncomputable def L.sizeOf_t (n_ : Int) : Option (Int) := L.sizeOf_tree n_ (fun d => some d) none
theorem L.sizeOf_den (n_ : Int) (κ : V → List E → R) : L.sizeOf_F [.int .i64 n_] [] κ = optC (L.sizeOf_t n_) (fun (r : Int) => κ (.int .i64 r) []) none := by
  have hu : L.sizeOf_F [.int .i64 n_] [] κ = L.sizeOf_tree n_ (fun d => κ (.int .i64 d) []) none := by
    refine Eq.trans (show L.sizeOf_F [.int .i64 n_] [] κ = (L.sizeOf_L2 FUEL { n := 13, t := [(0, (.int .i64 n_)), (3, (.int .i64 0))], h := [] } (L.sizeOf_k2 κ)) by kernel_rfl) ?_
    refine (L.sizeOf_L2_run FUEL (n_, 0) (L.sizeOf_k2 κ)).trans (optC_congr (fun qy_1 => ?_))
    kernel_rfl
  rw [hu]
  exact (L.sizeOf_tree_nat (fun o => optC o (fun (r : Int) => κ (.int .i64 r) []) none) n_ (fun d => some d) none).symm
noncomputable def L.sizeOf_s : D.Spec where
  keep := false
  pure := true
  add := true
  ds := [.invalid]
  sp := fun args h κ => match args, h with
    | [.int .i64 n_], [] => optC (L.sizeOf_t n_) (fun (r : Int) => κ (.int .i64 r) []) none
    | _, _ => none
theorem L.sizeOf_ok : SpecOk Try.prog 21 L.sizeOf_s := by
  refine SpecOk.of TDok mixed (T := L.sizeOf_T) ?_ (ann := L.sizeOf_ann) Try.func21 rfl (by decide +kernel) ?_ ?_ ?_ ?_
  · intro p hp; cases hp
  · intro args h κ r hh
    simp only [L.sizeOf_s] at hh
    split at hh
    · exact (L.sizeOf_den _ κ).trans hh
    · cases hh
  · intro args h κ r hh
    simp only [L.sizeOf_s] at hh ⊢
    split at hh
    · exact optC_law2 (F := fun (r : Int) κ => κ (.int .i64 r) []) (fun b κ r hb => ⟨_, _, hb, fun _ => rfl⟩) hh
    · cases hh
  · intro _ args h κ r hh
    simp only [L.sizeOf_s] at hh
    split at hh
    · exact ⟨rfl, fun _ => rfl⟩
    · cases hh
  · intro _ args h κ r hh
    simp only [L.sizeOf_s] at hh
    split at hh
    · rfl
    · cases hh


-- loop.example/guardsonnets/impl.bytesLeft
noncomputable def I.bytesLeft_T : List (Nat × D.Spec) := []
def I.bytesLeft_ann : Nat → List Nat × List Nat
  | _ => ([], [])
noncomputable def I.bytesLeft_F (args : List V) (h : List E) (κ : V → List E → R) : R := funC TD (tableK I.bytesLeft_T) I.bytesLeft_ann (drawAny TD (tableP I.bytesLeft_T)) FUEL Try.f57 args h κ
noncomputable def I.bytesLeft_tree {α : Type} (log : List Int) (bytes : Int) (leaf0_ : Int → α) (fail_ : α) : α :=
  (bif decide (bytes < 0) then (leaf0_ 0) else (bif decide (bytes > (↑log.length : Int)) then (leaf0_ ((↑log.length : Int))) else (leaf0_ bytes)))
theorem I.bytesLeft_tree_nat {α γ : Type} (g : α → γ) (log : List Int) (bytes : Int) (leaf0_ : Int → α) (fail_ : α) : g (I.bytesLeft_tree log bytes leaf0_ fail_) = I.bytesLeft_tree log bytes (fun d => g (leaf0_ d)) (g fail_) := by
  unfold I.bytesLeft_tree; simp only [apply_cnd g, apply_optC g, apply_sumC g]
noncomputable def I.bytesLeft_t (log : List Int) (bytes : Int) : Option (Int) := I.bytesLeft_tree log bytes (fun d => some d) none
theorem I.bytesLeft_den (log : List Int) (bytes : Int) (κ : V → List E → R) : I.bytesLeft_F [.ro false (.ints .u8 log), .int .i64 bytes] [] κ = optC (I.bytesLeft_t log bytes) (fun (r : Int) => κ (.int .i64 r) []) none := by
  have hu : I.bytesLeft_F [.ro false (.ints .u8 log), .int .i64 bytes] [] κ = I.bytesLeft_tree log bytes (fun d => κ (.int .i64 d) []) none := by
    kernel_rfl
  rw [hu]
  exact (I.bytesLeft_tree_nat (fun o => optC o (fun (r : Int) => κ (.int .i64 r) []) none) log bytes (fun d => some d) none).symm
noncomputable def I.bytesLeft_s : D.Spec where
  keep := false
  pure := true
  add := true
  ds := [.int .u8, .invalid]
  sp := fun args h κ => match args, h with
    | [.ro false (.ints .u8 log), .int .i64 bytes], [] => optC (I.bytesLeft_t log bytes) (fun (r : Int) => κ (.int .i64 r) []) none
    | _, _ => none
theorem I.bytesLeft_ok : SpecOk Try.prog 57 I.bytesLeft_s := by
  refine SpecOk.of TDok mixed (T := I.bytesLeft_T) ?_ (ann := I.bytesLeft_ann) Try.func57 rfl (by decide +kernel) ?_ ?_ ?_ ?_
  · intro p hp; cases hp
  · intro args h κ r hh
    simp only [I.bytesLeft_s] at hh
    split at hh
    · exact (I.bytesLeft_den _ _ κ).trans hh
    · cases hh
  · intro args h κ r hh
    simp only [I.bytesLeft_s] at hh ⊢
    split at hh
    · exact optC_law2 (F := fun (r : Int) κ => κ (.int .i64 r) []) (fun b κ r hb => ⟨_, _, hb, fun _ => rfl⟩) hh
    · cases hh
  · intro _ args h κ r hh
    simp only [I.bytesLeft_s] at hh
    split at hh
    · exact ⟨rfl, fun _ => rfl⟩
    · cases hh
  · intro _ args h κ r hh
    simp only [I.bytesLeft_s] at hh
    split at hh
    · rfl
    · cases hh


-- loop.example/guardsonnets/impl.PostCut
noncomputable def I.PostCut_T : List (Nat × D.Spec) := [(12, I.PostOk_s), (57, I.bytesLeft_s), (14, I.PostRise_s)]
def I.PostCut_ann : Nat → List Nat × List Nat
  | _ => ([], [])
noncomputable def I.PostCut_F (args : List V) (h : List E) (κ : V → List E → R) : R := funC TD (tableK I.PostCut_T) I.PostCut_ann (drawAny TD (tableP I.PostCut_T)) FUEL Try.f23 args h κ
noncomputable def I.PostCut_tree {α : Type} (p0 : List Int) (p1 : Int) (p2 : List Int) (bytes : Int) (leaf0_ : Int × Bool × (List Int) × (List Int) → α) (fail_ : α) : α :=
  (optC (I.PostOk_t p0 p1 p2) (fun c_1 => (bif !c_1 then (leaf0_ (0, false, [], [])) else (optC (I.bytesLeft_t p2 bytes) (fun c_2 => (bif decide (0 ≤ c_2) && decide (c_2 ≤ (↑p2.length : Int)) then (optC (I.PostRise_t p0 (List.take c_2.toNat (List.drop 0 p2))) (fun c_3 => (leaf0_ (c_3.fst, c_3.snd.fst, c_3.snd.snd.fst, c_3.snd.snd.snd))) fail_) else fail_)) fail_))) fail_)
theorem I.PostCut_tree_nat {α γ : Type} (g : α → γ) (p0 : List Int) (p1 : Int) (p2 : List Int) (bytes : Int) (leaf0_ : Int × Bool × (List Int) × (List Int) → α) (fail_ : α) : g (I.PostCut_tree p0 p1 p2 bytes leaf0_ fail_) = I.PostCut_tree p0 p1 p2 bytes (fun d => g (leaf0_ d)) (g fail_) := by
  unfold I.PostCut_tree; simp only [apply_cnd g, apply_optC g, apply_sumC g]
noncomputable def I.PostCut_t (p0 : List Int) (p1 : Int) (p2 : List Int) (bytes : Int) : Option (Int × Bool × (List Int) × (List Int)) := I.PostCut_tree p0 p1 p2 bytes (fun d => some d) none
theorem I.PostCut_den (p0 : List Int) (p1 : Int) (p2 : List Int) (bytes : Int) (κ : V → List E → R) : I.PostCut_F [.agg [.ro false (.ints .i64 p0), .int .i64 p1, .ro false (.ints .u8 p2)], .int .i64 bytes] [] κ = optC (I.PostCut_t p0 p1 p2 bytes) (fun (r : Int × Bool × (List Int) × (List Int)) => κ (.tup [(.agg [(.own 0), (.int .i64 r.1), (.own 1)]), (.bool r.2.1)]) [.row (.ints .i64 r.2.2.1), .row (.ints .u8 r.2.2.2)]) none := by
  have hu : I.PostCut_F [.agg [.ro false (.ints .i64 p0), .int .i64 p1, .ro false (.ints .u8 p2)], .int .i64 bytes] [] κ = I.PostCut_tree p0 p1 p2 bytes (fun d => κ (.tup [(.agg [(.own 0), (.int .i64 d.1), (.own 1)]), (.bool d.2.1)]) [.row (.ints .i64 d.2.2.1), .row (.ints .u8 d.2.2.2)]) none := by
    kernel_rfl
  rw [hu]
  exact (I.PostCut_tree_nat (fun o => optC o (fun (r : Int × Bool × (List Int) × (List Int)) => κ (.tup [(.agg [(.own 0), (.int .i64 r.1), (.own 1)]), (.bool r.2.1)]) [.row (.ints .i64 r.2.2.1), .row (.ints .u8 r.2.2.2)]) none) p0 p1 p2 bytes (fun d => some d) none).symm
noncomputable def I.PostCut_s : D.Spec where
  keep := false
  pure := false
  add := true
  ds := [.tuple #[1, 0, 2], .invalid]
  sp := fun args h κ => match args, h with
    | [.agg [.ro false (.ints .i64 p0), .int .i64 p1, .ro false (.ints .u8 p2)], .int .i64 bytes], [] => optC (I.PostCut_t p0 p1 p2 bytes) (fun (r : Int × Bool × (List Int) × (List Int)) => κ (.tup [(.agg [(.own 0), (.int .i64 r.1), (.own 1)]), (.bool r.2.1)]) [.row (.ints .i64 r.2.2.1), .row (.ints .u8 r.2.2.2)]) none
    | _, _ => none
theorem I.PostCut_ok : SpecOk Try.prog 23 I.PostCut_s := by
  refine SpecOk.of TDok mixed (T := I.PostCut_T) ?_ (ann := I.PostCut_ann) Try.func23 rfl (by decide +kernel) ?_ ?_ ?_ ?_
  · intro p hp
    simp only [I.PostCut_T, List.mem_cons, List.not_mem_nil, or_false] at hp
    rcases hp with rfl | rfl | rfl
    · exact I.PostOk_ok
    · exact I.bytesLeft_ok
    · exact I.PostRise_ok
  · intro args h κ r hh
    simp only [I.PostCut_s] at hh
    split at hh
    · exact (I.PostCut_den _ _ _ _ κ).trans hh
    · cases hh
  · intro args h κ r hh
    simp only [I.PostCut_s] at hh ⊢
    split at hh
    · exact optC_law2 (F := fun (r : Int × Bool × (List Int) × (List Int)) κ => κ (.tup [(.agg [(.own 0), (.int .i64 r.1), (.own 1)]), (.bool r.2.1)]) [.row (.ints .i64 r.2.2.1), .row (.ints .u8 r.2.2.2)]) (fun b κ r hb => ⟨_, _, hb, fun _ => rfl⟩) hh
    · cases hh
  · intro hh; cases hh
  · intro _ args h κ r hh
    simp only [I.PostCut_s] at hh
    split at hh
    · rfl
    · cases hh


-- loop.example/guardsonnets/spec.PostCut
noncomputable def S.PostCut_T : List (Nat × D.Spec) := [(13, S.PostOk_s), (36, S.PostRise_s)]
def S.PostCut_ann : Nat → List Nat × List Nat
  | _ => ([], [])
noncomputable def S.PostCut_F (args : List V) (h : List E) (κ : V → List E → R) : R := funC TD (tableK S.PostCut_T) S.PostCut_ann (drawAny TD (tableP S.PostCut_T)) FUEL Try.f24 args h κ
noncomputable def S.PostCut_tree {α : Type} (p0 : List Int) (p1 : Int) (p2 : List Int) (bytes : Int) (leaf0_ : Int × Bool × (List Int) × (List Int) → α) (fail_ : α) : α :=
  (optC (S.PostOk_t p0 p1 p2) (fun c_1 => (bif !c_1 then (leaf0_ (0, false, [], [])) else (bif decide (0 ≤ if (↑p2.length : Int) < if 0 > bytes then 0 else bytes then (↑p2.length : Int) else if 0 > bytes then 0 else bytes) && decide ((if (↑p2.length : Int) < if 0 > bytes then 0 else bytes then (↑p2.length : Int) else if 0 > bytes then 0 else bytes) ≤ (↑p2.length : Int)) then (optC (S.PostRise_t p0 (List.take (if (↑p2.length : Int) < if 0 > bytes then 0 else bytes then (↑p2.length : Int) else if 0 > bytes then 0 else bytes).toNat (List.drop 0 p2))) (fun c_2 => (leaf0_ (c_2.fst, c_2.snd.fst, c_2.snd.snd.fst, c_2.snd.snd.snd))) fail_) else fail_))) fail_)
theorem S.PostCut_tree_nat {α γ : Type} (g : α → γ) (p0 : List Int) (p1 : Int) (p2 : List Int) (bytes : Int) (leaf0_ : Int × Bool × (List Int) × (List Int) → α) (fail_ : α) : g (S.PostCut_tree p0 p1 p2 bytes leaf0_ fail_) = S.PostCut_tree p0 p1 p2 bytes (fun d => g (leaf0_ d)) (g fail_) := by
  unfold S.PostCut_tree; simp only [apply_cnd g, apply_optC g, apply_sumC g]
noncomputable def S.PostCut_t (p0 : List Int) (p1 : Int) (p2 : List Int) (bytes : Int) : Option (Int × Bool × (List Int) × (List Int)) := S.PostCut_tree p0 p1 p2 bytes (fun d => some d) none
theorem S.PostCut_den (p0 : List Int) (p1 : Int) (p2 : List Int) (bytes : Int) (κ : V → List E → R) : S.PostCut_F [.agg [.ro false (.ints .i64 p0), .int .i64 p1, .ro false (.ints .u8 p2)], .int .i64 bytes] [] κ = optC (S.PostCut_t p0 p1 p2 bytes) (fun (r : Int × Bool × (List Int) × (List Int)) => κ (.tup [(.agg [(.own 0), (.int .i64 r.1), (.own 1)]), (.bool r.2.1)]) [.row (.ints .i64 r.2.2.1), .row (.ints .u8 r.2.2.2)]) none := by
  have hu : S.PostCut_F [.agg [.ro false (.ints .i64 p0), .int .i64 p1, .ro false (.ints .u8 p2)], .int .i64 bytes] [] κ = S.PostCut_tree p0 p1 p2 bytes (fun d => κ (.tup [(.agg [(.own 0), (.int .i64 d.1), (.own 1)]), (.bool d.2.1)]) [.row (.ints .i64 d.2.2.1), .row (.ints .u8 d.2.2.2)]) none := by
    kernel_rfl
  rw [hu]
  exact (S.PostCut_tree_nat (fun o => optC o (fun (r : Int × Bool × (List Int) × (List Int)) => κ (.tup [(.agg [(.own 0), (.int .i64 r.1), (.own 1)]), (.bool r.2.1)]) [.row (.ints .i64 r.2.2.1), .row (.ints .u8 r.2.2.2)]) none) p0 p1 p2 bytes (fun d => some d) none).symm
noncomputable def S.PostCut_s : D.Spec where
  keep := false
  pure := false
  add := true
  ds := [.tuple #[1, 0, 2], .invalid]
  sp := fun args h κ => match args, h with
    | [.agg [.ro false (.ints .i64 p0), .int .i64 p1, .ro false (.ints .u8 p2)], .int .i64 bytes], [] => optC (S.PostCut_t p0 p1 p2 bytes) (fun (r : Int × Bool × (List Int) × (List Int)) => κ (.tup [(.agg [(.own 0), (.int .i64 r.1), (.own 1)]), (.bool r.2.1)]) [.row (.ints .i64 r.2.2.1), .row (.ints .u8 r.2.2.2)]) none
    | _, _ => none
theorem S.PostCut_ok : SpecOk Try.prog 24 S.PostCut_s := by
  refine SpecOk.of TDok mixed (T := S.PostCut_T) ?_ (ann := S.PostCut_ann) Try.func24 rfl (by decide +kernel) ?_ ?_ ?_ ?_
  · intro p hp
    simp only [S.PostCut_T, List.mem_cons, List.not_mem_nil, or_false] at hp
    rcases hp with rfl | rfl
    · exact S.PostOk_ok
    · exact S.PostRise_ok
  · intro args h κ r hh
    simp only [S.PostCut_s] at hh
    split at hh
    · exact (S.PostCut_den _ _ _ _ κ).trans hh
    · cases hh
  · intro args h κ r hh
    simp only [S.PostCut_s] at hh ⊢
    split at hh
    · exact optC_law2 (F := fun (r : Int × Bool × (List Int) × (List Int)) κ => κ (.tup [(.agg [(.own 0), (.int .i64 r.1), (.own 1)]), (.bool r.2.1)]) [.row (.ints .i64 r.2.2.1), .row (.ints .u8 r.2.2.2)]) (fun b κ r hb => ⟨_, _, hb, fun _ => rfl⟩) hh
    · cases hh
  · intro hh; cases hh
  · intro _ args h κ r hh
    simp only [S.PostCut_s] at hh
    split at hh
    · rfl
    · cases hh


-- loop.example/guardsonnets/impl.PostNew
noncomputable def I.PostNew_T : List (Nat × D.Spec) := [(14, I.PostRise_s)]
def I.PostNew_ann : Nat → List Nat × List Nat
  | _ => ([], [])
noncomputable def I.PostNew_F (args : List V) (h : List E) (κ : V → List E → R) : R := funC TD (tableK I.PostNew_T) I.PostNew_ann (drawAny TD (tableP I.PostNew_T)) FUEL Try.f26 args h κ
noncomputable def I.PostNew_tree {α : Type} (net : List Int) (leaf0_ : Int × Bool × (List Int) × (List Int) → α) (fail_ : α) : α :=
  (optC (I.PostRise_t net []) (fun c_1 => (leaf0_ (c_1.fst, c_1.snd.fst, c_1.snd.snd.fst, c_1.snd.snd.snd))) fail_)
theorem I.PostNew_tree_nat {α γ : Type} (g : α → γ) (net : List Int) (leaf0_ : Int × Bool × (List Int) × (List Int) → α) (fail_ : α) : g (I.PostNew_tree net leaf0_ fail_) = I.PostNew_tree net (fun d => g (leaf0_ d)) (g fail_) := by
  unfold I.PostNew_tree; simp only [apply_cnd g, apply_optC g, apply_sumC g]
noncomputable def I.PostNew_t (net : List Int) : Option (Int × Bool × (List Int) × (List Int)) := I.PostNew_tree net (fun d => some d) none
theorem I.PostNew_den (net : List Int) (κ : V → List E → R) : I.PostNew_F [.ro false (.ints .i64 net)] [] κ = optC (I.PostNew_t net) (fun (r : Int × Bool × (List Int) × (List Int)) => κ (.tup [(.agg [(.own 0), (.int .i64 r.1), (.own 1)]), (.bool r.2.1)]) [.row (.ints .i64 r.2.2.1), .row (.ints .u8 r.2.2.2)]) none := by
  have hu : I.PostNew_F [.ro false (.ints .i64 net)] [] κ = I.PostNew_tree net (fun d => κ (.tup [(.agg [(.own 0), (.int .i64 d.1), (.own 1)]), (.bool d.2.1)]) [.row (.ints .i64 d.2.2.1), .row (.ints .u8 d.2.2.2)]) none := by
    kernel_rfl
  rw [hu]
  exact (I.PostNew_tree_nat (fun o => optC o (fun (r : Int × Bool × (List Int) × (List Int)) => κ (.tup [(.agg [(.own 0), (.int .i64 r.1), (.own 1)]), (.bool r.2.1)]) [.row (.ints .i64 r.2.2.1), .row (.ints .u8 r.2.2.2)]) none) net (fun d => some d) none).symm
noncomputable def I.PostNew_s : D.Spec where
  keep := false
  pure := false
  add := true
  ds := [.int .i64]
  sp := fun args h κ => match args, h with
    | [.ro false (.ints .i64 net)], [] => optC (I.PostNew_t net) (fun (r : Int × Bool × (List Int) × (List Int)) => κ (.tup [(.agg [(.own 0), (.int .i64 r.1), (.own 1)]), (.bool r.2.1)]) [.row (.ints .i64 r.2.2.1), .row (.ints .u8 r.2.2.2)]) none
    | _, _ => none
theorem I.PostNew_ok : SpecOk Try.prog 26 I.PostNew_s := by
  refine SpecOk.of TDok mixed (T := I.PostNew_T) ?_ (ann := I.PostNew_ann) Try.func26 rfl (by decide +kernel) ?_ ?_ ?_ ?_
  · intro p hp
    simp only [I.PostNew_T, List.mem_cons, List.not_mem_nil, or_false] at hp
    rcases hp with rfl
    · exact I.PostRise_ok
  · intro args h κ r hh
    simp only [I.PostNew_s] at hh
    split at hh
    · exact (I.PostNew_den _ κ).trans hh
    · cases hh
  · intro args h κ r hh
    simp only [I.PostNew_s] at hh ⊢
    split at hh
    · exact optC_law2 (F := fun (r : Int × Bool × (List Int) × (List Int)) κ => κ (.tup [(.agg [(.own 0), (.int .i64 r.1), (.own 1)]), (.bool r.2.1)]) [.row (.ints .i64 r.2.2.1), .row (.ints .u8 r.2.2.2)]) (fun b κ r hb => ⟨_, _, hb, fun _ => rfl⟩) hh
    · cases hh
  · intro hh; cases hh
  · intro _ args h κ r hh
    simp only [I.PostNew_s] at hh
    split at hh
    · rfl
    · cases hh


-- loop.example/guardsonnets/laws.toIntS
noncomputable def L.toIntS_T : List (Nat × D.Spec) := []
def L.toIntS_ann : Nat → List Nat × List Nat
  | 3 => ([0, 3, 4], [3])
  | _ => ([], [])
noncomputable def L.toIntS_F (args : List V) (h : List E) (κ : V → List E → R) : R := funC TD (tableK L.toIntS_T) L.toIntS_ann (drawAny TD (tableP L.toIntS_T)) FUEL Try.f28 args h κ
noncomputable def L.toIntS_L3 (n : Nat) (σ : St) (k : X → St → R) : R := iterC 0 (fun σ k => denC TD (tableK L.toIntS_T) L.toIntS_ann (drawAny TD (tableP L.toIntS_T)) 0 FUEL ((findLoop 3 (Try.f28.body.getD .skip)).getD .skip) σ k) [0, 3, 4] [3] n σ k
noncomputable def L.toIntS_k3 (κ : V → List E → R) : X → St → R := (afterC TD (tableK L.toIntS_T) L.toIntS_ann (drawAny TD (tableP L.toIntS_T)) 0 FUEL 3 (Try.f28.body.getD .skip) (finC TD 0 Try.f28 κ)).getD (fun _ _ => none)
noncomputable def L.toIntS_step3 {α : Type} (x0 : List Int) (x4 : Int) (r0 : List Int) (next_ : Int × (List Int) → α) (out0_ : List Int → α) (fail_ : α) : α :=
  (bif decide (x4 < (↑x0.length : Int)) then (bif decide (0 ≤ x4) && decide (x4 < (↑x0.length : Int)) then (bif decide (0 ≤ x4) && decide (x4 < (↑r0.length : Int)) then (bif decide (x4.toNat < r0.length) then (next_ (IntKind.i64.wrap (x4 + 1), r0.set x4.toNat (eli x0 x4.toNat))) else fail_) else fail_) else fail_) else (out0_ r0))
theorem L.toIntS_step3_nat {α γ : Type} (g : α → γ) (x0 : List Int) (x4 : Int) (r0 : List Int) (next_ : Int × (List Int) → α) (out0_ : List Int → α) (fail_ : α) : g (L.toIntS_step3 x0 x4 r0 next_ out0_ fail_) = L.toIntS_step3 x0 x4 r0 (fun s => g (next_ s)) (fun d => g (out0_ d)) (g fail_) := by
  unfold L.toIntS_step3; simp only [apply_cnd g, apply_optC g, apply_sumC g]
noncomputable def L.toIntS_run3 (x0 : List Int) : Nat → Int × (List Int) → Option (List Int)
  | 0, _ => none
  | n + 1, s_ => L.toIntS_step3 x0 s_.1 s_.2 (L.toIntS_run3 x0 n) (fun d => some d) none
theorem L.toIntS_L3_run (x0 : List Int) (n : Nat) (s_ : Int × (List Int)) (k : X → St → R) : L.toIntS_L3 n { n := 22, t := [(0, (.ro false (.ints .i64 x0))), (3, (.own 0)), (4, (.int .i64 s_.1))], h := [.row (.ints .i64 s_.2)] } k = optC (L.toIntS_run3 x0 n s_) (fun (r : List Int) => k (.exit 0) { n := 22, t := [(3, (.own 0))], h := [.row (.ints .i64 r)] }) none := by
  induction n generalizing s_ with
  | zero => rfl
  | succ n ih =>
    have hu : L.toIntS_L3 (n + 1) { n := 22, t := [(0, (.ro false (.ints .i64 x0))), (3, (.own 0)), (4, (.int .i64 s_.1))], h := [.row (.ints .i64 s_.2)] } k = L.toIntS_step3 x0 s_.1 s_.2 (fun s_ => L.toIntS_L3 n { n := 22, t := [(0, (.ro false (.ints .i64 x0))), (3, (.own 0)), (4, (.int .i64 s_.1))], h := [.row (.ints .i64 s_.2)] } k) (fun d => k (.exit 0) { n := 22, t := [(3, (.own 0))], h := [.row (.ints .i64 d)] }) none := by
      kernel_rfl
    have hs : (fun s_ : Int × (List Int) => L.toIntS_L3 n { n := 22, t := [(0, (.ro false (.ints .i64 x0))), (3, (.own 0)), (4, (.int .i64 s_.1))], h := [.row (.ints .i64 s_.2)] } k) = fun s_ => optC (L.toIntS_run3 x0 n s_) (fun (r : List Int) => k (.exit 0) { n := 22, t := [(3, (.own 0))], h := [.row (.ints .i64 r)] }) none := funext ih
    rw [hu, hs]
    exact (L.toIntS_step3_nat (fun o => optC o (fun (r : List Int) => k (.exit 0) { n := 22, t := [(3, (.own 0))], h := [.row (.ints .i64 r)] }) none) x0 s_.1 s_.2 (L.toIntS_run3 x0 n) (fun d => some d) none).symm
noncomputable def L.toIntS_tree {α : Type} (a : List Int) (leaf0_ : List Int → α) (fail_ : α) : α :=
  (bif small (↑a.length : Int).toNat && true then (optC (L.toIntS_run3 a FUEL (0, List.replicate (↑a.length : Int).toNat 0)) (fun qy_1 => (leaf0_ qy_1)) fail_) else fail_)
theorem L.toIntS_tree_nat {α γ : Type} (g : α → γ) (a : List Int) (leaf0_ : List Int → α) (fail_ : α) : g (L.toIntS_tree a leaf0_ fail_) = L.toIntS_tree a (fun d => g (leaf0_ d)) (g fail_) := by
  unfold L.toIntS_tree; simp only [apply_cnd g, apply_optC g, apply_sumC g]
noncomputable def L.toIntS_t (a : List Int) : Option (List Int) := L.toIntS_tree a (fun d => some d) none
theorem L.toIntS_den (a : List Int) (κ : V → List E → R) : L.toIntS_F [.ro false (.ints .i64 a)] [] κ = optC (L.toIntS_t a) (fun (r : List Int) => κ (.own 0) [.row (.ints .i64 r)]) none := by
  have hu : L.toIntS_F [.ro false (.ints .i64 a)] [] κ = L.toIntS_tree a (fun d => κ (.own 0) [.row (.ints .i64 d)]) none := by
    refine Eq.trans (show L.toIntS_F [.ro false (.ints .i64 a)] [] κ = (bif small (↑a.length : Int).toNat && true then (L.toIntS_L3 FUEL { n := 22, t := [(0, (.ro false (.ints .i64 a))), (3, (.own 0)), (4, (.int .i64 0))], h := [.row (.ints .i64 (List.replicate (↑a.length : Int).toNat 0))] } (L.toIntS_k3 κ)) else none) by kernel_rfl) ?_
    refine cnd_congr ?_ ?_
    · refine (L.toIntS_L3_run a FUEL (0, List.replicate (↑a.length : Int).toNat 0) (L.toIntS_k3 κ)).trans (optC_congr (fun qy_1 => ?_))
      kernel_rfl
    · kernel_rfl
  rw [hu]
  exact (L.toIntS_tree_nat (fun o => optC o (fun (r : List Int) => κ (.own 0) [.row (.ints .i64 r)]) none) a (fun d => some d) none).symm
noncomputable def L.toIntS_s : D.Spec where
  keep := false
  pure := false
  add := true
  ds := [.int .i64]
  sp := fun args h κ => match args, h with
    | [.ro false (.ints .i64 a)], [] => optC (L.toIntS_t a) (fun (r : List Int) => κ (.own 0) [.row (.ints .i64 r)]) none
    | _, _ => none
theorem L.toIntS_ok : SpecOk Try.prog 28 L.toIntS_s := by
  refine SpecOk.of TDok mixed (T := L.toIntS_T) ?_ (ann := L.toIntS_ann) Try.func28 rfl (by decide +kernel) ?_ ?_ ?_ ?_
  · intro p hp; cases hp
  · intro args h κ r hh
    simp only [L.toIntS_s] at hh
    split at hh
    · exact (L.toIntS_den _ κ).trans hh
    · cases hh
  · intro args h κ r hh
    simp only [L.toIntS_s] at hh ⊢
    split at hh
    · exact optC_law2 (F := fun (r : List Int) κ => κ (.own 0) [.row (.ints .i64 r)]) (fun b κ r hb => ⟨_, _, hb, fun _ => rfl⟩) hh
    · cases hh
  · intro hh; cases hh
  · intro _ args h κ r hh
    simp only [L.toIntS_s] at hh
    split at hh
    · rfl
    · cases hh


-- loop.example/guardsonnets/spec.PostNew
noncomputable def S.PostNew_T : List (Nat × D.Spec) := [(46, S.NetOk_s), (59, S.FirstPost_s)]
def S.PostNew_ann : Nat → List Nat × List Nat
  | _ => ([], [])
noncomputable def S.PostNew_F (args : List V) (h : List E) (κ : V → List E → R) : R := funC TD (tableK S.PostNew_T) S.PostNew_ann (drawAny TD (tableP S.PostNew_T)) FUEL Try.f27 args h κ
noncomputable def S.PostNew_tree {α : Type} (net : List Int) (leaf0_ : Int × Bool × (List Int) × (List Int) → α) (fail_ : α) : α :=
  (optC (S.NetOk_t net) (fun c_1 => (bif !c_1 then (leaf0_ (0, false, [], [])) else (bif small ([] ++ net).length then (optC (S.FirstPost_t net) (fun c_2 => (leaf0_ (c_2, true, [] ++ net, []))) fail_) else fail_))) fail_)
theorem S.PostNew_tree_nat {α γ : Type} (g : α → γ) (net : List Int) (leaf0_ : Int × Bool × (List Int) × (List Int) → α) (fail_ : α) : g (S.PostNew_tree net leaf0_ fail_) = S.PostNew_tree net (fun d => g (leaf0_ d)) (g fail_) := by
  unfold S.PostNew_tree; simp only [apply_cnd g, apply_optC g, apply_sumC g]
noncomputable def S.PostNew_t (net : List Int) : Option (Int × Bool × (List Int) × (List Int)) := S.PostNew_tree net (fun d => some d) none
theorem S.PostNew_den (net : List Int) (κ : V → List E → R) : S.PostNew_F [.ro false (.ints .i64 net)] [] κ = optC (S.PostNew_t net) (fun (r : Int × Bool × (List Int) × (List Int)) => κ (.tup [(.agg [(.own 0), (.int .i64 r.1), (.own 1)]), (.bool r.2.1)]) [.row (.ints .i64 r.2.2.1), .row (.ints .u8 r.2.2.2)]) none := by
  have hu : S.PostNew_F [.ro false (.ints .i64 net)] [] κ = S.PostNew_tree net (fun d => κ (.tup [(.agg [(.own 0), (.int .i64 d.1), (.own 1)]), (.bool d.2.1)]) [.row (.ints .i64 d.2.2.1), .row (.ints .u8 d.2.2.2)]) none := by
    kernel_rfl
  rw [hu]
  exact (S.PostNew_tree_nat (fun o => optC o (fun (r : Int × Bool × (List Int) × (List Int)) => κ (.tup [(.agg [(.own 0), (.int .i64 r.1), (.own 1)]), (.bool r.2.1)]) [.row (.ints .i64 r.2.2.1), .row (.ints .u8 r.2.2.2)]) none) net (fun d => some d) none).symm
noncomputable def S.PostNew_s : D.Spec where
  keep := false
  pure := false
  add := true
  ds := [.int .i64]
  sp := fun args h κ => match args, h with
    | [.ro false (.ints .i64 net)], [] => optC (S.PostNew_t net) (fun (r : Int × Bool × (List Int) × (List Int)) => κ (.tup [(.agg [(.own 0), (.int .i64 r.1), (.own 1)]), (.bool r.2.1)]) [.row (.ints .i64 r.2.2.1), .row (.ints .u8 r.2.2.2)]) none
    | _, _ => none
theorem S.PostNew_ok : SpecOk Try.prog 27 S.PostNew_s := by
  refine SpecOk.of TDok mixed (T := S.PostNew_T) ?_ (ann := S.PostNew_ann) Try.func27 rfl (by decide +kernel) ?_ ?_ ?_ ?_
  · intro p hp
    simp only [S.PostNew_T, List.mem_cons, List.not_mem_nil, or_false] at hp
    rcases hp with rfl | rfl
    · exact S.NetOk_ok
    · exact S.FirstPost_ok
  · intro args h κ r hh
    simp only [S.PostNew_s] at hh
    split at hh
    · exact (S.PostNew_den _ κ).trans hh
    · cases hh
  · intro args h κ r hh
    simp only [S.PostNew_s] at hh ⊢
    split at hh
    · exact optC_law2 (F := fun (r : Int × Bool × (List Int) × (List Int)) κ => κ (.tup [(.agg [(.own 0), (.int .i64 r.1), (.own 1)]), (.bool r.2.1)]) [.row (.ints .i64 r.2.2.1), .row (.ints .u8 r.2.2.2)]) (fun b κ r hb => ⟨_, _, hb, fun _ => rfl⟩) hh
    · cases hh
  · intro hh; cases hh
  · intro _ args h κ r hh
    simp only [S.PostNew_s] at hh
    split at hh
    · rfl
    · cases hh


-- loop.example/guardsonnets/laws.eqIntS
noncomputable def L.eqIntS_T : List (Nat × D.Spec) := []
def L.eqIntS_ann : Nat → List Nat × List Nat
  | 4 => ([0, 1, 5], [4])
  | _ => ([], [])
noncomputable def L.eqIntS_F (args : List V) (h : List E) (κ : V → List E → R) : R := funC TD (tableK L.eqIntS_T) L.eqIntS_ann (drawAny TD (tableP L.eqIntS_T)) FUEL Try.f30 args h κ
noncomputable def L.eqIntS_L4 (n : Nat) (σ : St) (k : X → St → R) : R := iterC 0 (fun σ k => denC TD (tableK L.eqIntS_T) L.eqIntS_ann (drawAny TD (tableP L.eqIntS_T)) 0 FUEL ((findLoop 4 (Try.f30.body.getD .skip)).getD .skip) σ k) [0, 1, 5] [4] n σ k
noncomputable def L.eqIntS_k4 (κ : V → List E → R) : X → St → R := (afterC TD (tableK L.eqIntS_T) L.eqIntS_ann (drawAny TD (tableP L.eqIntS_T)) 0 FUEL 4 (Try.f30.body.getD .skip) (finC TD 0 Try.f30 κ)).getD (fun _ _ => none)
noncomputable def L.eqIntS_step4 {α : Type} (x0 : List Int) (x1 : List Int) (x5 : Int) (next_ : Int → α) (out0_ : Bool → α) (out1_ : Unit → α) (fail_ : α) : α :=
  (bif decide (x5 < (↑x0.length : Int)) then (bif decide (0 ≤ x5) && decide (x5 < (↑x0.length : Int)) then (bif decide (0 ≤ x5) && decide (x5 < (↑x1.length : Int)) then (bif !eli x0 x5.toNat == eli x1 x5.toNat then (out0_ false) else (next_ (IntKind.i64.wrap (x5 + 1)))) else fail_) else fail_) else (out1_ ()))
theorem L.eqIntS_step4_nat {α γ : Type} (g : α → γ) (x0 : List Int) (x1 : List Int) (x5 : Int) (next_ : Int → α) (out0_ : Bool → α) (out1_ : Unit → α) (fail_ : α) : g (L.eqIntS_step4 x0 x1 x5 next_ out0_ out1_ fail_) = L.eqIntS_step4 x0 x1 x5 (fun s => g (next_ s)) (fun d => g (out0_ d)) (fun d => g (out1_ d)) (g fail_) := by
  unfold L.eqIntS_step4; simp only [apply_cnd g, apply_optC g, apply_sumC g]
noncomputable def L.eqIntS_run4 (x0 : List Int) (x1 : List Int) : Nat → Int → Option ((Bool) ⊕ (Unit))
  | 0, _ => none
  | n + 1, s_ => L.eqIntS_step4 x0 x1 s_ (L.eqIntS_run4 x0 x1 n) (fun d => some ((Sum.inl d))) (fun d => some ((Sum.inr d))) none
theorem L.eqIntS_L4_run (x0 : List Int) (x1 : List Int) (n : Nat) (s_ : Int) (k : X → St → R) : L.eqIntS_L4 n { n := 26, t := [(0, (.ro false (.ints .i64 x0))), (1, (.ro false (.ints .i64 x1))), (5, (.int .i64 s_))], h := [] } k = optC (L.eqIntS_run4 x0 x1 n s_) (fun (r : (Bool) ⊕ (Unit)) => (sumC r (fun (r : Bool) => k (.ret) { n := 26, t := [(4, (.bool r))], h := [] }) (fun (r : Unit) => k (.exit 0) { n := 26, t := [(4, .junk)], h := [] }))) none := by
  induction n generalizing s_ with
  | zero => rfl
  | succ n ih =>
    have hu : L.eqIntS_L4 (n + 1) { n := 26, t := [(0, (.ro false (.ints .i64 x0))), (1, (.ro false (.ints .i64 x1))), (5, (.int .i64 s_))], h := [] } k = L.eqIntS_step4 x0 x1 s_ (fun s_ => L.eqIntS_L4 n { n := 26, t := [(0, (.ro false (.ints .i64 x0))), (1, (.ro false (.ints .i64 x1))), (5, (.int .i64 s_))], h := [] } k) (fun d => k (.ret) { n := 26, t := [(4, (.bool d))], h := [] }) (fun d => k (.exit 0) { n := 26, t := [(4, .junk)], h := [] }) none := by
      kernel_rfl
    have hs : (fun s_ : Int => L.eqIntS_L4 n { n := 26, t := [(0, (.ro false (.ints .i64 x0))), (1, (.ro false (.ints .i64 x1))), (5, (.int .i64 s_))], h := [] } k) = fun s_ => optC (L.eqIntS_run4 x0 x1 n s_) (fun (r : (Bool) ⊕ (Unit)) => (sumC r (fun (r : Bool) => k (.ret) { n := 26, t := [(4, (.bool r))], h := [] }) (fun (r : Unit) => k (.exit 0) { n := 26, t := [(4, .junk)], h := [] }))) none := funext ih
    rw [hu, hs]
    exact (L.eqIntS_step4_nat (fun o => optC o (fun (r : (Bool) ⊕ (Unit)) => (sumC r (fun (r : Bool) => k (.ret) { n := 26, t := [(4, (.bool r))], h := [] }) (fun (r : Unit) => k (.exit 0) { n := 26, t := [(4, .junk)], h := [] }))) none) x0 x1 s_ (L.eqIntS_run4 x0 x1 n) (fun d => some ((Sum.inl d))) (fun d => some ((Sum.inr d))) none).symm
noncomputable def L.eqIntS_tree {α : Type} (a : List Int) (b_ : List Int) (leaf0_ : Bool → α) (fail_ : α) : α :=
  (bif !(↑a.length : Int) == (↑b_.length : Int) then (leaf0_ false) else (optC (L.eqIntS_run4 a b_ FUEL 0) (fun qy_1 => (sumC qy_1 (fun (qy_1 : Bool) => (leaf0_ qy_1)) (fun (qy_1 : Unit) => (leaf0_ true)))) fail_))
theorem L.eqIntS_tree_nat {α γ : Type} (g : α → γ) (a : List Int) (b_ : List Int) (leaf0_ : Bool → α) (fail_ : α) : g (L.eqIntS_tree a b_ leaf0_ fail_) = L.eqIntS_tree a b_ (fun d => g (leaf0_ d)) (g fail_) := by
  unfold L.eqIntS_tree; simp only [apply_cnd g, apply_optC g, apply_sumC g]
noncomputable def L.eqIntS_t (a : List Int) (b_ : List Int) : Option (Bool) := L.eqIntS_tree a b_ (fun d => some d) none
theorem L.eqIntS_den (a : List Int) (b_ : List Int) (κ : V → List E → R) : L.eqIntS_F [.ro false (.ints .i64 a), .ro false (.ints .i64 b_)] [] κ = optC (L.eqIntS_t a b_) (fun (r : Bool) => κ (.bool r) []) none := by
  have hu : L.eqIntS_F [.ro false (.ints .i64 a), .ro false (.ints .i64 b_)] [] κ = L.eqIntS_tree a b_ (fun d => κ (.bool d) []) none := by
    refine Eq.trans (show L.eqIntS_F [.ro false (.ints .i64 a), .ro false (.ints .i64 b_)] [] κ = (bif !(↑a.length : Int) == (↑b_.length : Int) then (κ (.bool false) []) else (L.eqIntS_L4 FUEL { n := 26, t := [(0, (.ro false (.ints .i64 a))), (1, (.ro false (.ints .i64 b_))), (5, (.int .i64 0))], h := [] } (L.eqIntS_k4 κ))) by kernel_rfl) ?_
    refine cnd_congr ?_ ?_
    · kernel_rfl
    · refine (L.eqIntS_L4_run a b_ FUEL 0 (L.eqIntS_k4 κ)).trans (optC_congr (fun qy_1 => ?_))
      rcases qy_1 with qy_1 | qy_1
      · kernel_rfl
      · kernel_rfl
  rw [hu]
  exact (L.eqIntS_tree_nat (fun o => optC o (fun (r : Bool) => κ (.bool r) []) none) a b_ (fun d => some d) none).symm
noncomputable def L.eqIntS_s : D.Spec where
  keep := false
  pure := true
  add := true
  ds := [.int .i64, .int .i64]
  sp := fun args h κ => match args, h with
    | [.ro false (.ints .i64 a), .ro false (.ints .i64 b_)], [] => optC (L.eqIntS_t a b_) (fun (r : Bool) => κ (.bool r) []) none
    | _, _ => none
theorem L.eqIntS_ok : SpecOk Try.prog 30 L.eqIntS_s := by
  refine SpecOk.of TDok mixed (T := L.eqIntS_T) ?_ (ann := L.eqIntS_ann) Try.func30 rfl (by decide +kernel) ?_ ?_ ?_ ?_
  · intro p hp; cases hp
  · intro args h κ r hh
    simp only [L.eqIntS_s] at hh
    split at hh
    · exact (L.eqIntS_den _ _ κ).trans hh
    · cases hh
  · intro args h κ r hh
    simp only [L.eqIntS_s] at hh ⊢
    split at hh
    · exact optC_law2 (F := fun (r : Bool) κ => κ (.bool r) []) (fun b κ r hb => ⟨_, _, hb, fun _ => rfl⟩) hh
    · cases hh
  · intro _ args h κ r hh
    simp only [L.eqIntS_s] at hh
    split at hh
    · exact ⟨rfl, fun _ => rfl⟩
    · cases hh
  · intro _ args h κ r hh
    simp only [L.eqIntS_s] at hh
    split at hh
    · rfl
    · cases hh


-- loop.example/guardsonnets/laws.eqByteS
noncomputable def L.eqByteS_T : List (Nat × D.Spec) := []
def L.eqByteS_ann : Nat → List Nat × List Nat
  | 4 => ([0, 1, 5], [4])
  | _ => ([], [])
noncomputable def L.eqByteS_F (args : List V) (h : List E) (κ : V → List E → R) : R := funC TD (tableK L.eqByteS_T) L.eqByteS_ann (drawAny TD (tableP L.eqByteS_T)) FUEL Try.f38 args h κ
noncomputable def L.eqByteS_L4 (n : Nat) (σ : St) (k : X → St → R) : R := iterC 0 (fun σ k => denC TD (tableK L.eqByteS_T) L.eqByteS_ann (drawAny TD (tableP L.eqByteS_T)) 0 FUEL ((findLoop 4 (Try.f38.body.getD .skip)).getD .skip) σ k) [0, 1, 5] [4] n σ k
noncomputable def L.eqByteS_k4 (κ : V → List E → R) : X → St → R := (afterC TD (tableK L.eqByteS_T) L.eqByteS_ann (drawAny TD (tableP L.eqByteS_T)) 0 FUEL 4 (Try.f38.body.getD .skip) (finC TD 0 Try.f38 κ)).getD (fun _ _ => none)
noncomputable def L.eqByteS_step4 {α : Type} (x0 : List Int) (x1 : List Int) (x5 : Int) (next_ : Int → α) (out0_ : Bool → α) (out1_ : Unit → α) (fail_ : α) : α :=
  (bif decide (x5 < (↑x0.length : Int)) then (bif decide (0 ≤ x5) && decide (x5 < (↑x0.length : Int)) then (bif decide (0 ≤ x5) && decide (x5 < (↑x1.length : Int)) then (bif !eli x0 x5.toNat == eli x1 x5.toNat then (out0_ false) else (next_ (IntKind.i64.wrap (x5 + 1)))) else fail_) else fail_) else (out1_ ()))
theorem L.eqByteS_step4_nat {α γ : Type} (g : α → γ) (x0 : List Int) (x1 : List Int) (x5 : Int) (next_ : Int → α) (out0_ : Bool → α) (out1_ : Unit → α) (fail_ : α) : g (L.eqByteS_step4 x0 x1 x5 next_ out0_ out1_ fail_) = L.eqByteS_step4 x0 x1 x5 (fun s => g (next_ s)) (fun d => g (out0_ d)) (fun d => g (out1_ d)) (g fail_) := by
  unfold L.eqByteS_step4; simp only [apply_cnd g, apply_optC g, apply_sumC g]
noncomputable def L.eqByteS_run4 (x0 : List Int) (x1 : List Int) : Nat → Int → Option ((Bool) ⊕ (Unit))
  | 0, _ => none
  | n + 1, s_ => L.eqByteS_step4 x0 x1 s_ (L.eqByteS_run4 x0 x1 n) (fun d => some ((Sum.inl d))) (fun d => some ((Sum.inr d))) none
theorem L.eqByteS_L4_run (x0 : List Int) (x1 : List Int) (n : Nat) (s_ : Int) (k : X → St → R) : L.eqByteS_L4 n { n := 26, t := [(0, (.ro false (.ints .u8 x0))), (1, (.ro false (.ints .u8 x1))), (5, (.int .i64 s_))], h := [] } k = optC (L.eqByteS_run4 x0 x1 n s_) (fun (r : (Bool) ⊕ (Unit)) => (sumC r (fun (r : Bool) => k (.ret) { n := 26, t := [(4, (.bool r))], h := [] }) (fun (r : Unit) => k (.exit 0) { n := 26, t := [(4, .junk)], h := [] }))) none := by
  induction n generalizing s_ with
  | zero => rfl
  | succ n ih =>
    have hu : L.eqByteS_L4 (n + 1) { n := 26, t := [(0, (.ro false (.ints .u8 x0))), (1, (.ro false (.ints .u8 x1))), (5, (.int .i64 s_))], h := [] } k = L.eqByteS_step4 x0 x1 s_ (fun s_ => L.eqByteS_L4 n { n := 26, t := [(0, (.ro false (.ints .u8 x0))), (1, (.ro false (.ints .u8 x1))), (5, (.int .i64 s_))], h := [] } k) (fun d => k (.ret) { n := 26, t := [(4, (.bool d))], h := [] }) (fun d => k (.exit 0) { n := 26, t := [(4, .junk)], h := [] }) none := by
      kernel_rfl
    have hs : (fun s_ : Int => L.eqByteS_L4 n { n := 26, t := [(0, (.ro false (.ints .u8 x0))), (1, (.ro false (.ints .u8 x1))), (5, (.int .i64 s_))], h := [] } k) = fun s_ => optC (L.eqByteS_run4 x0 x1 n s_) (fun (r : (Bool) ⊕ (Unit)) => (sumC r (fun (r : Bool) => k (.ret) { n := 26, t := [(4, (.bool r))], h := [] }) (fun (r : Unit) => k (.exit 0) { n := 26, t := [(4, .junk)], h := [] }))) none := funext ih
    rw [hu, hs]
    exact (L.eqByteS_step4_nat (fun o => optC o (fun (r : (Bool) ⊕ (Unit)) => (sumC r (fun (r : Bool) => k (.ret) { n := 26, t := [(4, (.bool r))], h := [] }) (fun (r : Unit) => k (.exit 0) { n := 26, t := [(4, .junk)], h := [] }))) none) x0 x1 s_ (L.eqByteS_run4 x0 x1 n) (fun d => some ((Sum.inl d))) (fun d => some ((Sum.inr d))) none).symm
noncomputable def L.eqByteS_tree {α : Type} (a : List Int) (b_ : List Int) (leaf0_ : Bool → α) (fail_ : α) : α :=
  (bif !(↑a.length : Int) == (↑b_.length : Int) then (leaf0_ false) else (optC (L.eqByteS_run4 a b_ FUEL 0) (fun qy_1 => (sumC qy_1 (fun (qy_1 : Bool) => (leaf0_ qy_1)) (fun (qy_1 : Unit) => (leaf0_ true)))) fail_))
theorem L.eqByteS_tree_nat {α γ : Type} (g : α → γ) (a : List Int) (b_ : List Int) (leaf0_ : Bool → α) (fail_ : α) : g (L.eqByteS_tree a b_ leaf0_ fail_) = L.eqByteS_tree a b_ (fun d => g (leaf0_ d)) (g fail_) := by
  unfold L.eqByteS_tree; simp only [apply_cnd g, apply_optC g, apply_sumC g]
noncomputable def L.eqByteS_t (a : List Int) (b_ : List Int) : Option (Bool) := L.eqByteS_tree a b_ (fun d => some d) none
theorem L.eqByteS_den (a : List Int) (b_ : List Int) (κ : V → List E → R) : L.eqByteS_F [.ro false (.ints .u8 a), .ro false (.ints .u8 b_)] [] κ = optC (L.eqByteS_t a b_) (fun (r : Bool) => κ (.bool r) []) none := by
  have hu : L.eqByteS_F [.ro false (.ints .u8 a), .ro false (.ints .u8 b_)] [] κ = L.eqByteS_tree a b_ (fun d => κ (.bool d) []) none := by
    refine Eq.trans (show L.eqByteS_F [.ro false (.ints .u8 a), .ro false (.ints .u8 b_)] [] κ = (bif !(↑a.length : Int) == (↑b_.length : Int) then (κ (.bool false) []) else (L.eqByteS_L4 FUEL { n := 26, t := [(0, (.ro false (.ints .u8 a))), (1, (.ro false (.ints .u8 b_))), (5, (.int .i64 0))], h := [] } (L.eqByteS_k4 κ))) by kernel_rfl) ?_
    refine cnd_congr ?_ ?_
    · kernel_rfl
    · refine (L.eqByteS_L4_run a b_ FUEL 0 (L.eqByteS_k4 κ)).trans (optC_congr (fun qy_1 => ?_))
      rcases qy_1 with qy_1 | qy_1
      · kernel_rfl
      · kernel_rfl
  rw [hu]
  exact (L.eqByteS_tree_nat (fun o => optC o (fun (r : Bool) => κ (.bool r) []) none) a b_ (fun d => some d) none).symm
noncomputable def L.eqByteS_s : D.Spec where
  keep := false
  pure := true
  add := true
  ds := [.int .u8, .int .u8]
  sp := fun args h κ => match args, h with
    | [.ro false (.ints .u8 a), .ro false (.ints .u8 b_)], [] => optC (L.eqByteS_t a b_) (fun (r : Bool) => κ (.bool r) []) none
    | _, _ => none
theorem L.eqByteS_ok : SpecOk Try.prog 38 L.eqByteS_s := by
  refine SpecOk.of TDok mixed (T := L.eqByteS_T) ?_ (ann := L.eqByteS_ann) Try.func38 rfl (by decide +kernel) ?_ ?_ ?_ ?_
  · intro p hp; cases hp
  · intro args h κ r hh
    simp only [L.eqByteS_s] at hh
    split at hh
    · exact (L.eqByteS_den _ _ κ).trans hh
    · cases hh
  · intro args h κ r hh
    simp only [L.eqByteS_s] at hh ⊢
    split at hh
    · exact optC_law2 (F := fun (r : Bool) κ => κ (.bool r) []) (fun b κ r hb => ⟨_, _, hb, fun _ => rfl⟩) hh
    · cases hh
  · intro _ args h κ r hh
    simp only [L.eqByteS_s] at hh
    split at hh
    · exact ⟨rfl, fun _ => rfl⟩
    · cases hh
  · intro _ args h κ r hh
    simp only [L.eqByteS_s] at hh
    split at hh
    · rfl
    · cases hh


-- loop.example/guardsonnets/laws.eqPost
noncomputable def L.eqPost_T : List (Nat × D.Spec) := [(30, L.eqIntS_s), (38, L.eqByteS_s)]
def L.eqPost_ann : Nat → List Nat × List Nat
  | _ => ([], [])
noncomputable def L.eqPost_F (args : List V) (h : List E) (κ : V → List E → R) : R := funC TD (tableK L.eqPost_T) L.eqPost_ann (drawAny TD (tableP L.eqPost_T)) FUEL Try.f29 args h κ
noncomputable def L.eqPost_tree {α : Type} (a0 : List Int) (a1 : Int) (a2 : List Int) (b_0 : List Int) (b_1 : Int) (b_2 : List Int) (leaf0_ : Bool → α) (fail_ : α) : α :=
  (optC (L.eqIntS_t a0 b_0) (fun c_1 => (bif !c_1 then (leaf0_ false) else (bif !a1 == b_1 then (leaf0_ false) else (optC (L.eqByteS_t a2 b_2) (fun c_2 => (bif !c_2 then (leaf0_ false) else (leaf0_ true))) fail_)))) fail_)
theorem L.eqPost_tree_nat {α γ : Type} (g : α → γ) (a0 : List Int) (a1 : Int) (a2 : List Int) (b_0 : List Int) (b_1 : Int) (b_2 : List Int) (leaf0_ : Bool → α) (fail_ : α) : g (L.eqPost_tree a0 a1 a2 b_0 b_1 b_2 leaf0_ fail_) = L.eqPost_tree a0 a1 a2 b_0 b_1 b_2 (fun d => g (leaf0_ d)) (g fail_) := by
  unfold L.eqPost_tree; simp only [apply_cnd g, apply_optC g, apply_sumC g]
noncomputable def L.eqPost_t (a0 : List Int) (a1 : Int) (a2 : List Int) (b_0 : List Int) (b_1 : Int) (b_2 : List Int) : Option (Bool) := L.eqPost_tree a0 a1 a2 b_0 b_1 b_2 (fun d => some d) none
theorem L.eqPost_den (a0 : List Int) (a1 : Int) (a2 : List Int) (b_0 : List Int) (b_1 : Int) (b_2 : List Int) (κ : V → List E → R) : L.eqPost_F [.agg [.ro false (.ints .i64 a0), .int .i64 a1, .ro false (.ints .u8 a2)], .agg [.ro false (.ints .i64 b_0), .int .i64 b_1, .ro false (.ints .u8 b_2)]] [] κ = optC (L.eqPost_t a0 a1 a2 b_0 b_1 b_2) (fun (r : Bool) => κ (.bool r) []) none := by
  have hu : L.eqPost_F [.agg [.ro false (.ints .i64 a0), .int .i64 a1, .ro false (.ints .u8 a2)], .agg [.ro false (.ints .i64 b_0), .int .i64 b_1, .ro false (.ints .u8 b_2)]] [] κ = L.eqPost_tree a0 a1 a2 b_0 b_1 b_2 (fun d => κ (.bool d) []) none := by
    kernel_rfl
  rw [hu]
  exact (L.eqPost_tree_nat (fun o => optC o (fun (r : Bool) => κ (.bool r) []) none) a0 a1 a2 b_0 b_1 b_2 (fun d => some d) none).symm
noncomputable def L.eqPost_s : D.Spec where
  keep := false
  pure := true
  add := true
  ds := [.tuple #[1, 0, 2], .tuple #[1, 0, 2]]
  sp := fun args h κ => match args, h with
    | [.agg [.ro false (.ints .i64 a0), .int .i64 a1, .ro false (.ints .u8 a2)], .agg [.ro false (.ints .i64 b_0), .int .i64 b_1, .ro false (.ints .u8 b_2)]], [] => optC (L.eqPost_t a0 a1 a2 b_0 b_1 b_2) (fun (r : Bool) => κ (.bool r) []) none
    | _, _ => none
theorem L.eqPost_ok : SpecOk Try.prog 29 L.eqPost_s := by
  refine SpecOk.of TDok mixed (T := L.eqPost_T) ?_ (ann := L.eqPost_ann) Try.func29 rfl (by decide +kernel) ?_ ?_ ?_ ?_
  · intro p hp
    simp only [L.eqPost_T, List.mem_cons, List.not_mem_nil, or_false] at hp
    rcases hp with rfl | rfl
    · exact L.eqIntS_ok
    · exact L.eqByteS_ok
  · intro args h κ r hh
    simp only [L.eqPost_s] at hh
    split at hh
    · exact (L.eqPost_den _ _ _ _ _ _ κ).trans hh
    · cases hh
  · intro args h κ r hh
    simp only [L.eqPost_s] at hh ⊢
    split at hh
    · exact optC_law2 (F := fun (r : Bool) κ => κ (.bool r) []) (fun b κ r hb => ⟨_, _, hb, fun _ => rfl⟩) hh
    · cases hh
  · intro _ args h κ r hh
    simp only [L.eqPost_s] at hh
    split at hh
    · exact ⟨rfl, fun _ => rfl⟩
    · cases hh
  · intro _ args h κ r hh
    simp only [L.eqPost_s] at hh
    split at hh
    · rfl
    · cases hh


-- loop.example/guardsonnets/laws.markIntS
noncomputable def L.markIntS_T : List (Nat × D.Spec) := []
def L.markIntS_ann : Nat → List Nat × List Nat
  | 2 => ([0, 1, 5], [1])
  | _ => ([], [])
noncomputable def L.markIntS_F (args : List V) (h : List E) (κ : V → List E → R) : R := funC TD (tableK L.markIntS_T) L.markIntS_ann (drawAny TD (tableP L.markIntS_T)) FUEL Try.f31 args h κ
noncomputable def L.markIntS_L2 (n : Nat) (σ : St) (k : X → St → R) : R := iterC 1 (fun σ k => denC TD (tableK L.markIntS_T) L.markIntS_ann (drawAny TD (tableP L.markIntS_T)) 1 FUEL ((findLoop 2 (Try.f31.body.getD .skip)).getD .skip) σ k) [0, 1, 5] [1] n σ k
noncomputable def L.markIntS_k2 (κ : V → List E → R) : X → St → R := (afterC TD (tableK L.markIntS_T) L.markIntS_ann (drawAny TD (tableP L.markIntS_T)) 1 FUEL 2 (Try.f31.body.getD .skip) (finC TD 1 Try.f31 κ)).getD (fun _ _ => none)
noncomputable def L.markIntS_step2 {α : Type} (x1 : Int) (x5 : Int) (r0 : List Int) (next_ : Int × Int × (List Int) → α) (out0_ : Int × (List Int) → α) (fail_ : α) : α :=
  (bif decide (x5 < (↑r0.length : Int)) then (bif decide (0 ≤ x5) && decide (x5 < (↑r0.length : Int)) then (bif decide (x5.toNat < r0.length) then (next_ (IntKind.i64.wrap (x1 + 1), IntKind.i64.wrap (x5 + 1), r0.set x5.toNat x1)) else fail_) else fail_) else (out0_ (x1, r0)))
theorem L.markIntS_step2_nat {α γ : Type} (g : α → γ) (x1 : Int) (x5 : Int) (r0 : List Int) (next_ : Int × Int × (List Int) → α) (out0_ : Int × (List Int) → α) (fail_ : α) : g (L.markIntS_step2 x1 x5 r0 next_ out0_ fail_) = L.markIntS_step2 x1 x5 r0 (fun s => g (next_ s)) (fun d => g (out0_ d)) (g fail_) := by
  unfold L.markIntS_step2; simp only [apply_cnd g, apply_optC g, apply_sumC g]
noncomputable def L.markIntS_run2 : Nat → Int × Int × (List Int) → Option (Int × (List Int))
  | 0, _ => none
  | n + 1, s_ => L.markIntS_step2 s_.1 s_.2.1 s_.2.2 (L.markIntS_run2 n) (fun d => some d) none
theorem L.markIntS_L2_run (n : Nat) (s_ : Int × Int × (List Int)) (k : X → St → R) : L.markIntS_L2 n { n := 19, t := [(0, (.own 0)), (1, (.int .i64 s_.1)), (5, (.int .i64 s_.2.1))], h := [.row (.ints .i64 s_.2.2)] } k = optC (L.markIntS_run2 n s_) (fun (r : Int × (List Int)) => k (.exit 0) { n := 19, t := [(1, (.int .i64 r.1))], h := [.row (.ints .i64 r.2)] }) none := by
  induction n generalizing s_ with
  | zero => rfl
  | succ n ih =>
    have hu : L.markIntS_L2 (n + 1) { n := 19, t := [(0, (.own 0)), (1, (.int .i64 s_.1)), (5, (.int .i64 s_.2.1))], h := [.row (.ints .i64 s_.2.2)] } k = L.markIntS_step2 s_.1 s_.2.1 s_.2.2 (fun s_ => L.markIntS_L2 n { n := 19, t := [(0, (.own 0)), (1, (.int .i64 s_.1)), (5, (.int .i64 s_.2.1))], h := [.row (.ints .i64 s_.2.2)] } k) (fun d => k (.exit 0) { n := 19, t := [(1, (.int .i64 d.1))], h := [.row (.ints .i64 d.2)] }) none := by
      kernel_rfl
    have hs : (fun s_ : Int × Int × (List Int) => L.markIntS_L2 n { n := 19, t := [(0, (.own 0)), (1, (.int .i64 s_.1)), (5, (.int .i64 s_.2.1))], h := [.row (.ints .i64 s_.2.2)] } k) = fun s_ => optC (L.markIntS_run2 n s_) (fun (r : Int × (List Int)) => k (.exit 0) { n := 19, t := [(1, (.int .i64 r.1))], h := [.row (.ints .i64 r.2)] }) none := funext ih
    rw [hu, hs]
    exact (L.markIntS_step2_nat (fun o => optC o (fun (r : Int × (List Int)) => k (.exit 0) { n := 19, t := [(1, (.int .i64 r.1))], h := [.row (.ints .i64 r.2)] }) none) s_.1 s_.2.1 s_.2.2 (L.markIntS_run2 n) (fun d => some d) none).symm
noncomputable def L.markIntS_tree {α : Type} (a : List Int) (k_ : Int) (leaf0_ : Int × (List Int) → α) (fail_ : α) : α :=
  (optC (L.markIntS_run2 FUEL (k_, 0, a)) (fun qy_1 => (leaf0_ (qy_1.1, qy_1.2))) fail_)
theorem L.markIntS_tree_nat {α γ : Type} (g : α → γ) (a : List Int) (k_ : Int) (leaf0_ : Int × (List Int) → α) (fail_ : α) : g (L.markIntS_tree a k_ leaf0_ fail_) = L.markIntS_tree a k_ (fun d => g (leaf0_ d)) (g fail_) := by
  unfold L.markIntS_tree; simp only [apply_cnd g, apply_optC g, apply_sumC g]
noncomputable def L.markIntS_t (a : List Int) (k_ : Int) : Option (Int × (List Int)) := L.markIntS_tree a k_ (fun d => some d) none
theorem L.markIntS_den (a : List Int) (k_ : Int) (κ : V → List E → R) : L.markIntS_F [.own 0, .int .i64 k_] [.row (.ints .i64 a)] κ = optC (L.markIntS_t a k_) (fun (r : Int × (List Int)) => κ (.int .i64 r.1) [.row (.ints .i64 r.2)]) none := by
  have hu : L.markIntS_F [.own 0, .int .i64 k_] [.row (.ints .i64 a)] κ = L.markIntS_tree a k_ (fun d => κ (.int .i64 d.1) [.row (.ints .i64 d.2)]) none := by
    refine Eq.trans (show L.markIntS_F [.own 0, .int .i64 k_] [.row (.ints .i64 a)] κ = (L.markIntS_L2 FUEL { n := 19, t := [(0, (.own 0)), (1, (.int .i64 k_)), (5, (.int .i64 0))], h := [.row (.ints .i64 a)] } (L.markIntS_k2 κ)) by kernel_rfl) ?_
    refine (L.markIntS_L2_run FUEL (k_, 0, a) (L.markIntS_k2 κ)).trans (optC_congr (fun qy_1 => ?_))
    kernel_rfl
  rw [hu]
  exact (L.markIntS_tree_nat (fun o => optC o (fun (r : Int × (List Int)) => κ (.int .i64 r.1) [.row (.ints .i64 r.2)]) none) a k_ (fun d => some d) none).symm
noncomputable def L.markIntS_s : D.Spec where
  keep := false
  pure := false
  add := false
  ds := [.pointer 0, .invalid]
  sp := fun args h κ => match args, h with
    | [.own 0, .int .i64 k_], [.row (.ints .i64 a)] => optC (L.markIntS_t a k_) (fun (r : Int × (List Int)) => κ (.int .i64 r.1) [.row (.ints .i64 r.2)]) none
    | _, _ => none
theorem L.markIntS_ok : SpecOk Try.prog 31 L.markIntS_s := by
  refine SpecOk.of TDok mixed (T := L.markIntS_T) ?_ (ann := L.markIntS_ann) Try.func31 rfl (by decide +kernel) ?_ ?_ ?_ ?_
  · intro p hp; cases hp
  · intro args h κ r hh
    simp only [L.markIntS_s] at hh
    split at hh
    · exact (L.markIntS_den _ _ κ).trans hh
    · cases hh
  · intro args h κ r hh
    simp only [L.markIntS_s] at hh ⊢
    split at hh
    · exact optC_law2 (F := fun (r : Int × (List Int)) κ => κ (.int .i64 r.1) [.row (.ints .i64 r.2)]) (fun b κ r hb => ⟨_, _, hb, fun _ => rfl⟩) hh
    · cases hh
  · intro hh; cases hh
  · intro hh; cases hh


-- loop.example/guardsonnets/laws.markByteS
noncomputable def L.markByteS_T : List (Nat × D.Spec) := []
def L.markByteS_ann : Nat → List Nat × List Nat
  | 2 => ([0, 1, 5], [1])
  | _ => ([], [])
noncomputable def L.markByteS_F (args : List V) (h : List E) (κ : V → List E → R) : R := funC TD (tableK L.markByteS_T) L.markByteS_ann (drawAny TD (tableP L.markByteS_T)) FUEL Try.f39 args h κ
noncomputable def L.markByteS_L2 (n : Nat) (σ : St) (k : X → St → R) : R := iterC 1 (fun σ k => denC TD (tableK L.markByteS_T) L.markByteS_ann (drawAny TD (tableP L.markByteS_T)) 1 FUEL ((findLoop 2 (Try.f39.body.getD .skip)).getD .skip) σ k) [0, 1, 5] [1] n σ k
noncomputable def L.markByteS_k2 (κ : V → List E → R) : X → St → R := (afterC TD (tableK L.markByteS_T) L.markByteS_ann (drawAny TD (tableP L.markByteS_T)) 1 FUEL 2 (Try.f39.body.getD .skip) (finC TD 1 Try.f39 κ)).getD (fun _ _ => none)
noncomputable def L.markByteS_step2 {α : Type} (x1 : Int) (x5 : Int) (r0 : List Int) (next_ : Int × Int × (List Int) → α) (out0_ : Int × (List Int) → α) (fail_ : α) : α :=
  (bif decide (x5 < (↑r0.length : Int)) then (bif decide (0 ≤ x5) && decide (x5 < (↑r0.length : Int)) then (bif decide (x5.toNat < r0.length) then (next_ (IntKind.i64.wrap (x1 + 1), IntKind.i64.wrap (x5 + 1), r0.set x5.toNat (IntKind.u8.wrap x1))) else fail_) else fail_) else (out0_ (x1, r0)))
theorem L.markByteS_step2_nat {α γ : Type} (g : α → γ) (x1 : Int) (x5 : Int) (r0 : List Int) (next_ : Int × Int × (List Int) → α) (out0_ : Int × (List Int) → α) (fail_ : α) : g (L.markByteS_step2 x1 x5 r0 next_ out0_ fail_) = L.markByteS_step2 x1 x5 r0 (fun s => g (next_ s)) (fun d => g (out0_ d)) (g fail_) := by
  unfold L.markByteS_step2; simp only [apply_cnd g, apply_optC g, apply_sumC g]
noncomputable def L.markByteS_run2 : Nat → Int × Int × (List Int) → Option (Int × (List Int))
  | 0, _ => none
  | n + 1, s_ => L.markByteS_step2 s_.1 s_.2.1 s_.2.2 (L.markByteS_run2 n) (fun d => some d) none
theorem L.markByteS_L2_run (n : Nat) (s_ : Int × Int × (List Int)) (k : X → St → R) : L.markByteS_L2 n { n := 20, t := [(0, (.own 0)), (1, (.int .i64 s_.1)), (5, (.int .i64 s_.2.1))], h := [.row (.ints .u8 s_.2.2)] } k = optC (L.markByteS_run2 n s_) (fun (r : Int × (List Int)) => k (.exit 0) { n := 20, t := [(1, (.int .i64 r.1))], h := [.row (.ints .u8 r.2)] }) none := by
  induction n generalizing s_ with
  | zero => rfl
  | succ n ih =>
    have hu : L.markByteS_L2 (n + 1) { n := 20, t := [(0, (.own 0)), (1, (.int .i64 s_.1)), (5, (.int .i64 s_.2.1))], h := [.row (.ints .u8 s_.2.2)] } k = L.markByteS_step2 s_.1 s_.2.1 s_.2.2 (fun s_ => L.markByteS_L2 n { n := 20, t := [(0, (.own 0)), (1, (.int .i64 s_.1)), (5, (.int .i64 s_.2.1))], h := [.row (.ints .u8 s_.2.2)] } k) (fun d => k (.exit 0) { n := 20, t := [(1, (.int .i64 d.1))], h := [.row (.ints .u8 d.2)] }) none := by
      kernel_rfl
    have hs : (fun s_ : Int × Int × (List Int) => L.markByteS_L2 n { n := 20, t := [(0, (.own 0)), (1, (.int .i64 s_.1)), (5, (.int .i64 s_.2.1))], h := [.row (.ints .u8 s_.2.2)] } k) = fun s_ => optC (L.markByteS_run2 n s_) (fun (r : Int × (List Int)) => k (.exit 0) { n := 20, t := [(1, (.int .i64 r.1))], h := [.row (.ints .u8 r.2)] }) none := funext ih
    rw [hu, hs]
    exact (L.markByteS_step2_nat (fun o => optC o (fun (r : Int × (List Int)) => k (.exit 0) { n := 20, t := [(1, (.int .i64 r.1))], h := [.row (.ints .u8 r.2)] }) none) s_.1 s_.2.1 s_.2.2 (L.markByteS_run2 n) (fun d => some d) none).symm
noncomputable def L.markByteS_tree {α : Type} (a : List Int) (k_ : Int) (leaf0_ : Int × (List Int) → α) (fail_ : α) : α :=
  (optC (L.markByteS_run2 FUEL (k_, 0, a)) (fun qy_1 => (leaf0_ (qy_1.1, qy_1.2))) fail_)
theorem L.markByteS_tree_nat {α γ : Type} (g : α → γ) (a : List Int) (k_ : Int) (leaf0_ : Int × (List Int) → α) (fail_ : α) : g (L.markByteS_tree a k_ leaf0_ fail_) = L.markByteS_tree a k_ (fun d => g (leaf0_ d)) (g fail_) := by
  unfold L.markByteS_tree; simp only [apply_cnd g, apply_optC g, apply_sumC g]
noncomputable def L.markByteS_t (a : List Int) (k_ : Int) : Option (Int × (List Int)) := L.markByteS_tree a k_ (fun d => some d) none
theorem L.markByteS_den (a : List Int) (k_ : Int) (κ : V → List E → R) : L.markByteS_F [.own 0, .int .i64 k_] [.row (.ints .u8 a)] κ = optC (L.markByteS_t a k_) (fun (r : Int × (List Int)) => κ (.int .i64 r.1) [.row (.ints .u8 r.2)]) none := by
  have hu : L.markByteS_F [.own 0, .int .i64 k_] [.row (.ints .u8 a)] κ = L.markByteS_tree a k_ (fun d => κ (.int .i64 d.1) [.row (.ints .u8 d.2)]) none := by
    refine Eq.trans (show L.markByteS_F [.own 0, .int .i64 k_] [.row (.ints .u8 a)] κ = (L.markByteS_L2 FUEL { n := 20, t := [(0, (.own 0)), (1, (.int .i64 k_)), (5, (.int .i64 0))], h := [.row (.ints .u8 a)] } (L.markByteS_k2 κ)) by kernel_rfl) ?_
    refine (L.markByteS_L2_run FUEL (k_, 0, a) (L.markByteS_k2 κ)).trans (optC_congr (fun qy_1 => ?_))
    kernel_rfl
  rw [hu]
  exact (L.markByteS_tree_nat (fun o => optC o (fun (r : Int × (List Int)) => κ (.int .i64 r.1) [.row (.ints .u8 r.2)]) none) a k_ (fun d => some d) none).symm
noncomputable def L.markByteS_s : D.Spec where
  keep := false
  pure := false
  add := false
  ds := [.pointer 0, .invalid]
  sp := fun args h κ => match args, h with
    | [.own 0, .int .i64 k_], [.row (.ints .u8 a)] => optC (L.markByteS_t a k_) (fun (r : Int × (List Int)) => κ (.int .i64 r.1) [.row (.ints .u8 r.2)]) none
    | _, _ => none
theorem L.markByteS_ok : SpecOk Try.prog 39 L.markByteS_s := by
  refine SpecOk.of TDok mixed (T := L.markByteS_T) ?_ (ann := L.markByteS_ann) Try.func39 rfl (by decide +kernel) ?_ ?_ ?_ ?_
  · intro p hp; cases hp
  · intro args h κ r hh
    simp only [L.markByteS_s] at hh
    split at hh
    · exact (L.markByteS_den _ _ κ).trans hh
    · cases hh
  · intro args h κ r hh
    simp only [L.markByteS_s] at hh ⊢
    split at hh
    · exact optC_law2 (F := fun (r : Int × (List Int)) κ => κ (.int .i64 r.1) [.row (.ints .u8 r.2)]) (fun b κ r hb => ⟨_, _, hb, fun _ => rfl⟩) hh
    · cases hh
  · intro hh; cases hh
  · intro hh; cases hh


-- loop.example/guardsonnets/laws.markPost
noncomputable def L.markPost_T : List (Nat × D.Spec) := [(31, L.markIntS_s), (39, L.markByteS_s)]
def L.markPost_ann : Nat → List Nat × List Nat
  | _ => ([], [])
noncomputable def L.markPost_F (args : List V) (h : List E) (κ : V → List E → R) : R := funC TD (tableK L.markPost_T) L.markPost_ann (drawAny TD (tableP L.markPost_T)) FUEL Try.f32 args h κ
noncomputable def L.markPost_tree {α : Type} (a0 : List Int) (a1 : Int) (a2 : List Int) (k_ : Int) (leaf0_ : Int × (List Int) × (List Int) → α) (fail_ : α) : α :=
  (optC (L.markIntS_t a0 k_) (fun c_1 => (optC (L.markByteS_t a2 c_1.fst) (fun c_2 => (leaf0_ (c_2.fst, c_1.snd, c_2.snd))) fail_)) fail_)
theorem L.markPost_tree_nat {α γ : Type} (g : α → γ) (a0 : List Int) (a1 : Int) (a2 : List Int) (k_ : Int) (leaf0_ : Int × (List Int) × (List Int) → α) (fail_ : α) : g (L.markPost_tree a0 a1 a2 k_ leaf0_ fail_) = L.markPost_tree a0 a1 a2 k_ (fun d => g (leaf0_ d)) (g fail_) := by
  unfold L.markPost_tree; simp only [apply_cnd g, apply_optC g, apply_sumC g]
noncomputable def L.markPost_t (a0 : List Int) (a1 : Int) (a2 : List Int) (k_ : Int) : Option (Int × (List Int) × (List Int)) := L.markPost_tree a0 a1 a2 k_ (fun d => some d) none
theorem L.markPost_den (a0 : List Int) (a1 : Int) (a2 : List Int) (k_ : Int) (κ : V → List E → R) : L.markPost_F [.agg [.own 0, .int .i64 a1, .own 1], .int .i64 k_] [.row (.ints .i64 a0), .row (.ints .u8 a2)] κ = optC (L.markPost_t a0 a1 a2 k_) (fun (r : Int × (List Int) × (List Int)) => κ (.int .i64 r.1) [.row (.ints .i64 r.2.1), .row (.ints .u8 r.2.2)]) none := by
  have hu : L.markPost_F [.agg [.own 0, .int .i64 a1, .own 1], .int .i64 k_] [.row (.ints .i64 a0), .row (.ints .u8 a2)] κ = L.markPost_tree a0 a1 a2 k_ (fun d => κ (.int .i64 d.1) [.row (.ints .i64 d.2.1), .row (.ints .u8 d.2.2)]) none := by
    kernel_rfl
  rw [hu]
  exact (L.markPost_tree_nat (fun o => optC o (fun (r : Int × (List Int) × (List Int)) => κ (.int .i64 r.1) [.row (.ints .i64 r.2.1), .row (.ints .u8 r.2.2)]) none) a0 a1 a2 k_ (fun d => some d) none).symm
noncomputable def L.markPost_s : D.Spec where
  keep := false
  pure := false
  add := false
  ds := [.func #[1, 0, 2] #[] true, .invalid]
  sp := fun args h κ => match args, h with
    | [.agg [.own 0, .int .i64 a1, .own 1], .int .i64 k_], [.row (.ints .i64 a0), .row (.ints .u8 a2)] => optC (L.markPost_t a0 a1 a2 k_) (fun (r : Int × (List Int) × (List Int)) => κ (.int .i64 r.1) [.row (.ints .i64 r.2.1), .row (.ints .u8 r.2.2)]) none
    | _, _ => none
theorem L.markPost_ok : SpecOk Try.prog 32 L.markPost_s := by
  refine SpecOk.of TDok mixed (T := L.markPost_T) ?_ (ann := L.markPost_ann) Try.func32 rfl (by decide +kernel) ?_ ?_ ?_ ?_
  · intro p hp
    simp only [L.markPost_T, List.mem_cons, List.not_mem_nil, or_false] at hp
    rcases hp with rfl | rfl
    · exact L.markIntS_ok
    · exact L.markByteS_ok
  · intro args h κ r hh
    simp only [L.markPost_s] at hh
    split at hh
    · exact (L.markPost_den _ _ _ _ κ).trans hh
    · cases hh
  · intro args h κ r hh
    simp only [L.markPost_s] at hh ⊢
    split at hh
    · exact optC_law2 (F := fun (r : Int × (List Int) × (List Int)) κ => κ (.int .i64 r.1) [.row (.ints .i64 r.2.1), .row (.ints .u8 r.2.2)]) (fun b κ r hb => ⟨_, _, hb, fun _ => rfl⟩) hh
    · cases hh
  · intro hh; cases hh
  · intro hh; cases hh


-- loop.example/guardsonnets/laws.heldIntS
noncomputable def L.heldIntS_T : List (Nat × D.Spec) := []
def L.heldIntS_ann : Nat → List Nat × List Nat
  | 2 => ([0, 1, 5], [1, 4])
  | _ => ([], [])
noncomputable def L.heldIntS_F (args : List V) (h : List E) (κ : V → List E → R) : R := funC TD (tableK L.heldIntS_T) L.heldIntS_ann (drawAny TD (tableP L.heldIntS_T)) FUEL Try.f60 args h κ
noncomputable def L.heldIntS_L2 (n : Nat) (σ : St) (k : X → St → R) : R := iterC 0 (fun σ k => denC TD (tableK L.heldIntS_T) L.heldIntS_ann (drawAny TD (tableP L.heldIntS_T)) 0 FUEL ((findLoop 2 (Try.f60.body.getD .skip)).getD .skip) σ k) [0, 1, 5] [1, 4] n σ k
noncomputable def L.heldIntS_k2 (κ : V → List E → R) : X → St → R := (afterC TD (tableK L.heldIntS_T) L.heldIntS_ann (drawAny TD (tableP L.heldIntS_T)) 0 FUEL 2 (Try.f60.body.getD .skip) (finC TD 0 Try.f60 κ)).getD (fun _ _ => none)
noncomputable def L.heldIntS_step2 {α : Type} (x0 : List Int) (x1 : Int) (x5 : Int) (next_ : Int × Int → α) (out0_ : Int × Int → α) (out1_ : Int → α) (fail_ : α) : α :=
  (bif decide (x5 < (↑x0.length : Int)) then (bif decide (0 ≤ x5) && decide (x5 < (↑x0.length : Int)) then (bif !eli x0 x5.toNat == x1 then (out0_ (x1, -1)) else (next_ (IntKind.i64.wrap (x1 + 1), IntKind.i64.wrap (x5 + 1)))) else fail_) else (out1_ x1))
theorem L.heldIntS_step2_nat {α γ : Type} (g : α → γ) (x0 : List Int) (x1 : Int) (x5 : Int) (next_ : Int × Int → α) (out0_ : Int × Int → α) (out1_ : Int → α) (fail_ : α) : g (L.heldIntS_step2 x0 x1 x5 next_ out0_ out1_ fail_) = L.heldIntS_step2 x0 x1 x5 (fun s => g (next_ s)) (fun d => g (out0_ d)) (fun d => g (out1_ d)) (g fail_) := by
  unfold L.heldIntS_step2; simp only [apply_cnd g, apply_optC g, apply_sumC g]
noncomputable def L.heldIntS_run2 (x0 : List Int) : Nat → Int × Int → Option ((Int × Int) ⊕ (Int))
  | 0, _ => none
  | n + 1, s_ => L.heldIntS_step2 x0 s_.1 s_.2 (L.heldIntS_run2 x0 n) (fun d => some ((Sum.inl d))) (fun d => some ((Sum.inr d))) none
theorem L.heldIntS_L2_run (x0 : List Int) (n : Nat) (s_ : Int × Int) (k : X → St → R) : L.heldIntS_L2 n { n := 21, t := [(0, (.ro false (.ints .i64 x0))), (1, (.int .i64 s_.1)), (5, (.int .i64 s_.2))], h := [] } k = optC (L.heldIntS_run2 x0 n s_) (fun (r : (Int × Int) ⊕ (Int)) => (sumC r (fun (r : Int × Int) => k (.ret) { n := 21, t := [(1, (.int .i64 r.1)), (4, (.int .i64 r.2))], h := [] }) (fun (r : Int) => k (.exit 0) { n := 21, t := [(1, (.int .i64 r)), (4, .junk)], h := [] }))) none := by
  induction n generalizing s_ with
  | zero => rfl
  | succ n ih =>
    have hu : L.heldIntS_L2 (n + 1) { n := 21, t := [(0, (.ro false (.ints .i64 x0))), (1, (.int .i64 s_.1)), (5, (.int .i64 s_.2))], h := [] } k = L.heldIntS_step2 x0 s_.1 s_.2 (fun s_ => L.heldIntS_L2 n { n := 21, t := [(0, (.ro false (.ints .i64 x0))), (1, (.int .i64 s_.1)), (5, (.int .i64 s_.2))], h := [] } k) (fun d => k (.ret) { n := 21, t := [(1, (.int .i64 d.1)), (4, (.int .i64 d.2))], h := [] }) (fun d => k (.exit 0) { n := 21, t := [(1, (.int .i64 d)), (4, .junk)], h := [] }) none := by
      kernel_rfl
    have hs : (fun s_ : Int × Int => L.heldIntS_L2 n { n := 21, t := [(0, (.ro false (.ints .i64 x0))), (1, (.int .i64 s_.1)), (5, (.int .i64 s_.2))], h := [] } k) = fun s_ => optC (L.heldIntS_run2 x0 n s_) (fun (r : (Int × Int) ⊕ (Int)) => (sumC r (fun (r : Int × Int) => k (.ret) { n := 21, t := [(1, (.int .i64 r.1)), (4, (.int .i64 r.2))], h := [] }) (fun (r : Int) => k (.exit 0) { n := 21, t := [(1, (.int .i64 r)), (4, .junk)], h := [] }))) none := funext ih
    rw [hu, hs]
    exact (L.heldIntS_step2_nat (fun o => optC o (fun (r : (Int × Int) ⊕ (Int)) => (sumC r (fun (r : Int × Int) => k (.ret) { n := 21, t := [(1, (.int .i64 r.1)), (4, (.int .i64 r.2))], h := [] }) (fun (r : Int) => k (.exit 0) { n := 21, t := [(1, (.int .i64 r)), (4, .junk)], h := [] }))) none) x0 s_.1 s_.2 (L.heldIntS_run2 x0 n) (fun d => some ((Sum.inl d))) (fun d => some ((Sum.inr d))) none).symm
noncomputable def L.heldIntS_tree {α : Type} (a : List Int) (k_ : Int) (leaf0_ : Int → α) (fail_ : α) : α :=
  (optC (L.heldIntS_run2 a FUEL (k_, 0)) (fun qy_1 => (sumC qy_1 (fun (qy_1 : Int × Int) => (leaf0_ qy_1.2)) (fun (qy_1 : Int) => (leaf0_ qy_1)))) fail_)
theorem L.heldIntS_tree_nat {α γ : Type} (g : α → γ) (a : List Int) (k_ : Int) (leaf0_ : Int → α) (fail_ : α) : g (L.heldIntS_tree a k_ leaf0_ fail_) = L.heldIntS_tree a k_ (fun d => g (leaf0_ d)) (g fail_) := by
  unfold L.heldIntS_tree; simp only [apply_cnd g, apply_optC g, apply_sumC g]
noncomputable def L.heldIntS_t (a : List Int) (k_ : Int) : Option (Int) := L.heldIntS_tree a k_ (fun d => some d) none
theorem L.heldIntS_den (a : List Int) (k_ : Int) (κ : V → List E → R) : L.heldIntS_F [.ro false (.ints .i64 a), .int .i64 k_] [] κ = optC (L.heldIntS_t a k_) (fun (r : Int) => κ (.int .i64 r) []) none := by
  have hu : L.heldIntS_F [.ro false (.ints .i64 a), .int .i64 k_] [] κ = L.heldIntS_tree a k_ (fun d => κ (.int .i64 d) []) none := by
    refine Eq.trans (show L.heldIntS_F [.ro false (.ints .i64 a), .int .i64 k_] [] κ = (L.heldIntS_L2 FUEL { n := 21, t := [(0, (.ro false (.ints .i64 a))), (1, (.int .i64 k_)), (5, (.int .i64 0))], h := [] } (L.heldIntS_k2 κ)) by kernel_rfl) ?_
    refine (L.heldIntS_L2_run a FUEL (k_, 0) (L.heldIntS_k2 κ)).trans (optC_congr (fun qy_1 => ?_))
    rcases qy_1 with qy_1 | qy_1
    · kernel_rfl
    · kernel_rfl
  rw [hu]
  exact (L.heldIntS_tree_nat (fun o => optC o (fun (r : Int) => κ (.int .i64 r) []) none) a k_ (fun d => some d) none).symm
noncomputable def L.heldIntS_s : D.Spec where
  keep := false
  pure := true
  add := true
  ds := [.int .i64, .invalid]
  sp := fun args h κ => match args, h with
    | [.ro false (.ints .i64 a), .int .i64 k_], [] => optC (L.heldIntS_t a k_) (fun (r : Int) => κ (.int .i64 r) []) none
    | _, _ => none
theorem L.heldIntS_ok : SpecOk Try.prog 60 L.heldIntS_s := by
  refine SpecOk.of TDok mixed (T := L.heldIntS_T) ?_ (ann := L.heldIntS_ann) Try.func60 rfl (by decide +kernel) ?_ ?_ ?_ ?_
  · intro p hp; cases hp
  · intro args h κ r hh
    simp only [L.heldIntS_s] at hh
    split at hh
    · exact (L.heldIntS_den _ _ κ).trans hh
    · cases hh
  · intro args h κ r hh
    simp only [L.heldIntS_s] at hh ⊢
    split at hh
    · exact optC_law2 (F := fun (r : Int) κ => κ (.int .i64 r) []) (fun b κ r hb => ⟨_, _, hb, fun _ => rfl⟩) hh
    · cases hh
  · intro _ args h κ r hh
    simp only [L.heldIntS_s] at hh
    split at hh
    · exact ⟨rfl, fun _ => rfl⟩
    · cases hh
  · intro _ args h κ r hh
    simp only [L.heldIntS_s] at hh
    split at hh
    · rfl
    · cases hh


-- loop.example/guardsonnets/laws.heldByteS
noncomputable def L.heldByteS_T : List (Nat × D.Spec) := []
def L.heldByteS_ann : Nat → List Nat × List Nat
  | 2 => ([0, 1, 5], [1, 4])
  | _ => ([], [])
noncomputable def L.heldByteS_F (args : List V) (h : List E) (κ : V → List E → R) : R := funC TD (tableK L.heldByteS_T) L.heldByteS_ann (drawAny TD (tableP L.heldByteS_T)) FUEL Try.f61 args h κ
noncomputable def L.heldByteS_L2 (n : Nat) (σ : St) (k : X → St → R) : R := iterC 0 (fun σ k => denC TD (tableK L.heldByteS_T) L.heldByteS_ann (drawAny TD (tableP L.heldByteS_T)) 0 FUEL ((findLoop 2 (Try.f61.body.getD .skip)).getD .skip) σ k) [0, 1, 5] [1, 4] n σ k
noncomputable def L.heldByteS_k2 (κ : V → List E → R) : X → St → R := (afterC TD (tableK L.heldByteS_T) L.heldByteS_ann (drawAny TD (tableP L.heldByteS_T)) 0 FUEL 2 (Try.f61.body.getD .skip) (finC TD 0 Try.f61 κ)).getD (fun _ _ => none)
noncomputable def L.heldByteS_step2 {α : Type} (x0 : List Int) (x1 : Int) (x5 : Int) (next_ : Int × Int → α) (out0_ : Int × Int → α) (out1_ : Int → α) (fail_ : α) : α :=
  (bif decide (x5 < (↑x0.length : Int)) then (bif decide (0 ≤ x5) && decide (x5 < (↑x0.length : Int)) then (bif !eli x0 x5.toNat == IntKind.u8.wrap x1 then (out0_ (x1, -1)) else (next_ (IntKind.i64.wrap (x1 + 1), IntKind.i64.wrap (x5 + 1)))) else fail_) else (out1_ x1))
theorem L.heldByteS_step2_nat {α γ : Type} (g : α → γ) (x0 : List Int) (x1 : Int) (x5 : Int) (next_ : Int × Int → α) (out0_ : Int × Int → α) (out1_ : Int → α) (fail_ : α) : g (L.heldByteS_step2 x0 x1 x5 next_ out0_ out1_ fail_) = L.heldByteS_step2 x0 x1 x5 (fun s => g (next_ s)) (fun d => g (out0_ d)) (fun d => g (out1_ d)) (g fail_) := by
  unfold L.heldByteS_step2; simp only [apply_cnd g, apply_optC g, apply_sumC g]
noncomputable def L.heldByteS_run2 (x0 : List Int) : Nat → Int × Int → Option ((Int × Int) ⊕ (Int))
  | 0, _ => none
  | n + 1, s_ => L.heldByteS_step2 x0 s_.1 s_.2 (L.heldByteS_run2 x0 n) (fun d => some ((Sum.inl d))) (fun d => some ((Sum.inr d))) none
theorem L.heldByteS_L2_run (x0 : List Int) (n : Nat) (s_ : Int × Int) (k : X → St → R) : L.heldByteS_L2 n { n := 22, t := [(0, (.ro false (.ints .u8 x0))), (1, (.int .i64 s_.1)), (5, (.int .i64 s_.2))], h := [] } k = optC (L.heldByteS_run2 x0 n s_) (fun (r : (Int × Int) ⊕ (Int)) => (sumC r (fun (r : Int × Int) => k (.ret) { n := 22, t := [(1, (.int .i64 r.1)), (4, (.int .i64 r.2))], h := [] }) (fun (r : Int) => k (.exit 0) { n := 22, t := [(1, (.int .i64 r)), (4, .junk)], h := [] }))) none := by
  induction n generalizing s_ with
  | zero => rfl
  | succ n ih =>
    have hu : L.heldByteS_L2 (n + 1) { n := 22, t := [(0, (.ro false (.ints .u8 x0))), (1, (.int .i64 s_.1)), (5, (.int .i64 s_.2))], h := [] } k = L.heldByteS_step2 x0 s_.1 s_.2 (fun s_ => L.heldByteS_L2 n { n := 22, t := [(0, (.ro false (.ints .u8 x0))), (1, (.int .i64 s_.1)), (5, (.int .i64 s_.2))], h := [] } k) (fun d => k (.ret) { n := 22, t := [(1, (.int .i64 d.1)), (4, (.int .i64 d.2))], h := [] }) (fun d => k (.exit 0) { n := 22, t := [(1, (.int .i64 d)), (4, .junk)], h := [] }) none := by
      kernel_rfl
    have hs : (fun s_ : Int × Int => L.heldByteS_L2 n { n := 22, t := [(0, (.ro false (.ints .u8 x0))), (1, (.int .i64 s_.1)), (5, (.int .i64 s_.2))], h := [] } k) = fun s_ => optC (L.heldByteS_run2 x0 n s_) (fun (r : (Int × Int) ⊕ (Int)) => (sumC r (fun (r : Int × Int) => k (.ret) { n := 22, t := [(1, (.int .i64 r.1)), (4, (.int .i64 r.2))], h := [] }) (fun (r : Int) => k (.exit 0) { n := 22, t := [(1, (.int .i64 r)), (4, .junk)], h := [] }))) none := funext ih
    rw [hu, hs]
    exact (L.heldByteS_step2_nat (fun o => optC o (fun (r : (Int × Int) ⊕ (Int)) => (sumC r (fun (r : Int × Int) => k (.ret) { n := 22, t := [(1, (.int .i64 r.1)), (4, (.int .i64 r.2))], h := [] }) (fun (r : Int) => k (.exit 0) { n := 22, t := [(1, (.int .i64 r)), (4, .junk)], h := [] }))) none) x0 s_.1 s_.2 (L.heldByteS_run2 x0 n) (fun d => some ((Sum.inl d))) (fun d => some ((Sum.inr d))) none).symm
noncomputable def L.heldByteS_tree {α : Type} (a : List Int) (k_ : Int) (leaf0_ : Int → α) (fail_ : α) : α :=
  (optC (L.heldByteS_run2 a FUEL (k_, 0)) (fun qy_1 => (sumC qy_1 (fun (qy_1 : Int × Int) => (leaf0_ qy_1.2)) (fun (qy_1 : Int) => (leaf0_ qy_1)))) fail_)
theorem L.heldByteS_tree_nat {α γ : Type} (g : α → γ) (a : List Int) (k_ : Int) (leaf0_ : Int → α) (fail_ : α) : g (L.heldByteS_tree a k_ leaf0_ fail_) = L.heldByteS_tree a k_ (fun d => g (leaf0_ d)) (g fail_) := by
  unfold L.heldByteS_tree; simp only [apply_cnd g, apply_optC g, apply_sumC g]
noncomputable def L.heldByteS_t (a : List Int) (k_ : Int) : Option (Int) := L.heldByteS_tree a k_ (fun d => some d) none
theorem L.heldByteS_den (a : List Int) (k_ : Int) (κ : V → List E → R) : L.heldByteS_F [.ro false (.ints .u8 a), .int .i64 k_] [] κ = optC (L.heldByteS_t a k_) (fun (r : Int) => κ (.int .i64 r) []) none := by
  have hu : L.heldByteS_F [.ro false (.ints .u8 a), .int .i64 k_] [] κ = L.heldByteS_tree a k_ (fun d => κ (.int .i64 d) []) none := by
    refine Eq.trans (show L.heldByteS_F [.ro false (.ints .u8 a), .int .i64 k_] [] κ = (L.heldByteS_L2 FUEL { n := 22, t := [(0, (.ro false (.ints .u8 a))), (1, (.int .i64 k_)), (5, (.int .i64 0))], h := [] } (L.heldByteS_k2 κ)) by kernel_rfl) ?_
    refine (L.heldByteS_L2_run a FUEL (k_, 0) (L.heldByteS_k2 κ)).trans (optC_congr (fun qy_1 => ?_))
    rcases qy_1 with qy_1 | qy_1
    · kernel_rfl
    · kernel_rfl
  rw [hu]
  exact (L.heldByteS_tree_nat (fun o => optC o (fun (r : Int) => κ (.int .i64 r) []) none) a k_ (fun d => some d) none).symm
noncomputable def L.heldByteS_s : D.Spec where
  keep := false
  pure := true
  add := true
  ds := [.int .u8, .invalid]
  sp := fun args h κ => match args, h with
    | [.ro false (.ints .u8 a), .int .i64 k_], [] => optC (L.heldByteS_t a k_) (fun (r : Int) => κ (.int .i64 r) []) none
    | _, _ => none
theorem L.heldByteS_ok : SpecOk Try.prog 61 L.heldByteS_s := by
  refine SpecOk.of TDok mixed (T := L.heldByteS_T) ?_ (ann := L.heldByteS_ann) Try.func61 rfl (by decide +kernel) ?_ ?_ ?_ ?_
  · intro p hp; cases hp
  · intro args h κ r hh
    simp only [L.heldByteS_s] at hh
    split at hh
    · exact (L.heldByteS_den _ _ κ).trans hh
    · cases hh
  · intro args h κ r hh
    simp only [L.heldByteS_s] at hh ⊢
    split at hh
    · exact optC_law2 (F := fun (r : Int) κ => κ (.int .i64 r) []) (fun b κ r hb => ⟨_, _, hb, fun _ => rfl⟩) hh
    · cases hh
  · intro _ args h κ r hh
    simp only [L.heldByteS_s] at hh
    split at hh
    · exact ⟨rfl, fun _ => rfl⟩
    · cases hh
  · intro _ args h κ r hh
    simp only [L.heldByteS_s] at hh
    split at hh
    · rfl
    · cases hh


-- loop.example/guardsonnets/laws.heldPost
noncomputable def L.heldPost_T : List (Nat × D.Spec) := [(60, L.heldIntS_s), (61, L.heldByteS_s)]
def L.heldPost_ann : Nat → List Nat × List Nat
  | _ => ([], [])
noncomputable def L.heldPost_F (args : List V) (h : List E) (κ : V → List E → R) : R := funC TD (tableK L.heldPost_T) L.heldPost_ann (drawAny TD (tableP L.heldPost_T)) FUEL Try.f33 args h κ
noncomputable def L.heldPost_tree {α : Type} (a0 : List Int) (a1 : Int) (a2 : List Int) (k_ : Int) (leaf0_ : Int → α) (fail_ : α) : α :=
  (optC (L.heldIntS_t a0 k_) (fun c_1 => (bif decide (c_1 < 0) then (leaf0_ (-1)) else (optC (L.heldByteS_t a2 c_1) (fun c_2 => (bif decide (c_2 < 0) then (leaf0_ (-1)) else (leaf0_ c_2))) fail_))) fail_)
theorem L.heldPost_tree_nat {α γ : Type} (g : α → γ) (a0 : List Int) (a1 : Int) (a2 : List Int) (k_ : Int) (leaf0_ : Int → α) (fail_ : α) : g (L.heldPost_tree a0 a1 a2 k_ leaf0_ fail_) = L.heldPost_tree a0 a1 a2 k_ (fun d => g (leaf0_ d)) (g fail_) := by
  unfold L.heldPost_tree; simp only [apply_cnd g, apply_optC g, apply_sumC g]
noncomputable def L.heldPost_t (a0 : List Int) (a1 : Int) (a2 : List Int) (k_ : Int) : Option (Int) := L.heldPost_tree a0 a1 a2 k_ (fun d => some d) none
theorem L.heldPost_den (a0 : List Int) (a1 : Int) (a2 : List Int) (k_ : Int) (κ : V → List E → R) : L.heldPost_F [.agg [.ro false (.ints .i64 a0), .int .i64 a1, .ro false (.ints .u8 a2)], .int .i64 k_] [] κ = optC (L.heldPost_t a0 a1 a2 k_) (fun (r : Int) => κ (.int .i64 r) []) none := by
  have hu : L.heldPost_F [.agg [.ro false (.ints .i64 a0), .int .i64 a1, .ro false (.ints .u8 a2)], .int .i64 k_] [] κ = L.heldPost_tree a0 a1 a2 k_ (fun d => κ (.int .i64 d) []) none := by
    kernel_rfl
  rw [hu]
  exact (L.heldPost_tree_nat (fun o => optC o (fun (r : Int) => κ (.int .i64 r) []) none) a0 a1 a2 k_ (fun d => some d) none).symm
noncomputable def L.heldPost_s : D.Spec where
  keep := false
  pure := true
  add := true
  ds := [.tuple #[1, 0, 2], .invalid]
  sp := fun args h κ => match args, h with
    | [.agg [.ro false (.ints .i64 a0), .int .i64 a1, .ro false (.ints .u8 a2)], .int .i64 k_], [] => optC (L.heldPost_t a0 a1 a2 k_) (fun (r : Int) => κ (.int .i64 r) []) none
    | _, _ => none
theorem L.heldPost_ok : SpecOk Try.prog 33 L.heldPost_s := by
  refine SpecOk.of TDok mixed (T := L.heldPost_T) ?_ (ann := L.heldPost_ann) Try.func33 rfl (by decide +kernel) ?_ ?_ ?_ ?_
  · intro p hp
    simp only [L.heldPost_T, List.mem_cons, List.not_mem_nil, or_false] at hp
    rcases hp with rfl | rfl
    · exact L.heldIntS_ok
    · exact L.heldByteS_ok
  · intro args h κ r hh
    simp only [L.heldPost_s] at hh
    split at hh
    · exact (L.heldPost_den _ _ _ _ κ).trans hh
    · cases hh
  · intro args h κ r hh
    simp only [L.heldPost_s] at hh ⊢
    split at hh
    · exact optC_law2 (F := fun (r : Int) κ => κ (.int .i64 r) []) (fun b κ r hb => ⟨_, _, hb, fun _ => rfl⟩) hh
    · cases hh
  · intro _ args h κ r hh
    simp only [L.heldPost_s] at hh
    split at hh
    · exact ⟨rfl, fun _ => rfl⟩
    · cases hh
  · intro _ args h κ r hh
    simp only [L.heldPost_s] at hh
    split at hh
    · rfl
    · cases hh


-- loop.example/guardsonnets/laws.FnExactPostNew
noncomputable def L.FnExactPostNew_T : List (Nat × D.Spec) := [(28, L.toIntS_s), (27, S.PostNew_s), (26, I.PostNew_s), (29, L.eqPost_s), (30, L.eqIntS_s), (31, L.markIntS_s), (32, L.markPost_s), (33, L.heldPost_s)]
def L.FnExactPostNew_ann : Nat → List Nat × List Nat
  | _ => ([], [])
noncomputable def L.FnExactPostNew_F (args : List V) (h : List E) (κ : V → List E → R) : R := funC TD (tableK L.FnExactPostNew_T) L.FnExactPostNew_ann (drawAny TD (tableP L.FnExactPostNew_T)) FUEL Try.f6 args h κ
noncomputable def L.FnExactPostNew_tree {α : Type} (aNet : List Int) (leaf0_ : Bool → α) (fail_ : α) : α :=
  (bif decide ((↑aNet.length : Int) > 1048576) then (leaf0_ true) else (optC (L.toIntS_t aNet) (fun c_1 => (optC (S.PostNew_t c_1) (fun c_2 => (optC (L.toIntS_t aNet) (fun c_3 => (optC (I.PostNew_t c_3) (fun c_4 => (optC (L.eqPost_t c_4.snd.snd.fst c_4.fst c_4.snd.snd.snd c_2.snd.snd.fst c_2.fst c_2.snd.snd.snd) (fun c_5 => (bif !c_5 then (leaf0_ false) else (bif !c_4.snd.fst == c_2.snd.fst then (leaf0_ false) else (optC (L.toIntS_t aNet) (fun c_6 => (optC (L.eqIntS_t c_3 c_6) (fun c_7 => (bif !c_7 then (leaf0_ false) else (optC (L.markIntS_t c_3 1) (fun c_8 => (bif decide (c_8.fst < 0) then (leaf0_ false) else (optC (L.eqPost_t c_4.snd.snd.fst c_4.fst c_4.snd.snd.snd c_2.snd.snd.fst c_2.fst c_2.snd.snd.snd) (fun c_9 => (bif !c_9 then (leaf0_ false) else (bif !c_4.snd.fst == c_2.snd.fst then (leaf0_ false) else (optC (L.markPost_t c_4.snd.snd.fst c_4.fst c_4.snd.snd.snd 1) (fun c_10 => (optC (L.heldPost_t c_10.snd.fst c_4.fst c_10.snd.snd 1) (fun c_11 => (bif decide (c_11 < 0) then (leaf0_ false) else (bif !c_11 == c_10.fst then (leaf0_ false) else (optC (L.toIntS_t aNet) (fun c_12 => (optC (I.PostNew_t c_12) (fun c_13 => (optC (L.eqPost_t c_13.snd.snd.fst c_13.fst c_13.snd.snd.snd c_2.snd.snd.fst c_2.fst c_2.snd.snd.snd) (fun c_14 => (bif !c_14 then (leaf0_ false) else (bif !c_13.snd.fst == c_2.snd.fst then (leaf0_ false) else (optC (L.heldPost_t c_10.snd.fst c_4.fst c_10.snd.snd 1) (fun c_15 => (bif decide (c_15 < 0) then (leaf0_ false) else (bif !c_15 == c_10.fst then (leaf0_ false) else (leaf0_ true)))) fail_)))) fail_)) fail_)) fail_)))) fail_)) fail_)))) fail_))) fail_))) fail_)) fail_)))) fail_)) fail_)) fail_)) fail_)) fail_))
theorem L.FnExactPostNew_tree_nat {α γ : Type} (g : α → γ) (aNet : List Int) (leaf0_ : Bool → α) (fail_ : α) : g (L.FnExactPostNew_tree aNet leaf0_ fail_) = L.FnExactPostNew_tree aNet (fun d => g (leaf0_ d)) (g fail_) := by
  unfold L.FnExactPostNew_tree; simp only [apply_cnd g, apply_optC g, apply_sumC g]
noncomputable def L.FnExactPostNew_t (aNet : List Int) : Option (Bool) := L.FnExactPostNew_tree aNet (fun d => some d) none
theorem L.FnExactPostNew_den (aNet : List Int) (κ : V → List E → R) : L.FnExactPostNew_F [.ro true (.ints .i64 aNet)] [] κ = optC (L.FnExactPostNew_t aNet) (fun (r : Bool) => κ (.bool r) []) none := by
  have hu : L.FnExactPostNew_F [.ro true (.ints .i64 aNet)] [] κ = L.FnExactPostNew_tree aNet (fun d => κ (.bool d) []) none := by
    kernel_rfl
  rw [hu]
  exact (L.FnExactPostNew_tree_nat (fun o => optC o (fun (r : Bool) => κ (.bool r) []) none) aNet (fun d => some d) none).symm
noncomputable def L.FnExactPostNew_s : D.Spec where
  keep := true
  pure := true
  add := true
  ds := [.int .i64]
  sp := fun args h κ => match args, h with
    | [.ro true (.ints .i64 aNet)], [] => optC (L.FnExactPostNew_t aNet) (fun (r : Bool) => κ (.bool r) []) none
    | _, _ => none
theorem L.FnExactPostNew_ok : SpecOk Try.prog 6 L.FnExactPostNew_s := by
  refine SpecOk.of TDok mixed (T := L.FnExactPostNew_T) ?_ (ann := L.FnExactPostNew_ann) Try.func6 rfl (by decide +kernel) ?_ ?_ ?_ ?_
  · intro p hp
    simp only [L.FnExactPostNew_T, List.mem_cons, List.not_mem_nil, or_false] at hp
    rcases hp with rfl | rfl | rfl | rfl | rfl | rfl | rfl | rfl
    · exact L.toIntS_ok
    · exact S.PostNew_ok
    · exact I.PostNew_ok
    · exact L.eqPost_ok
    · exact L.eqIntS_ok
    · exact L.markIntS_ok
    · exact L.markPost_ok
    · exact L.heldPost_ok
  · intro args h κ r hh
    simp only [L.FnExactPostNew_s] at hh
    split at hh
    · exact (L.FnExactPostNew_den _ κ).trans hh
    · cases hh
  · intro args h κ r hh
    simp only [L.FnExactPostNew_s] at hh ⊢
    split at hh
    · exact optC_law2 (F := fun (r : Bool) κ => κ (.bool r) []) (fun b κ r hb => ⟨_, _, hb, fun _ => rfl⟩) hh
    · cases hh
  · intro _ args h κ r hh
    simp only [L.FnExactPostNew_s] at hh
    split at hh
    · exact ⟨rfl, fun _ => rfl⟩
    · cases hh
  · intro _ args h κ r hh
    simp only [L.FnExactPostNew_s] at hh
    split at hh
    · rfl
    · cases hh


-- loop.example/guardsonnets/laws.szIntS
noncomputable def L.szIntS_T : List (Nat × D.Spec) := []
def L.szIntS_ann : Nat → List Nat × List Nat
  | _ => ([], [])
noncomputable def L.szIntS_F (args : List V) (h : List E) (κ : V → List E → R) : R := funC TD (tableK L.szIntS_T) L.szIntS_ann (drawAny TD (tableP L.szIntS_T)) FUEL Try.f62 args h κ
noncomputable def L.szIntS_tree {α : Type} (a : List Int) (left_ : Int) (leaf0_ : Int → α) (fail_ : α) : α :=
  (bif decide (IntKind.i64.wrap (left_ - (↑a.length : Int)) < 0) then (leaf0_ (-1)) else (leaf0_ (IntKind.i64.wrap (left_ - (↑a.length : Int)))))
theorem L.szIntS_tree_nat {α γ : Type} (g : α → γ) (a : List Int) (left_ : Int) (leaf0_ : Int → α) (fail_ : α) : g (L.szIntS_tree a left_ leaf0_ fail_) = L.szIntS_tree a left_ (fun d => g (leaf0_ d)) (g fail_) := by
  unfold L.szIntS_tree; simp only [apply_cnd g, apply_optC g, apply_sumC g]
noncomputable def L.szIntS_t (a : List Int) (left_ : Int) : Option (Int) := L.szIntS_tree a left_ (fun d => some d) none
theorem L.szIntS_den (a : List Int) (left_ : Int) (κ : V → List E → R) : L.szIntS_F [.ro false (.ints .i64 a), .int .i64 left_] [] κ = optC (L.szIntS_t a left_) (fun (r : Int) => κ (.int .i64 r) []) none := by
  have hu : L.szIntS_F [.ro false (.ints .i64 a), .int .i64 left_] [] κ = L.szIntS_tree a left_ (fun d => κ (.int .i64 d) []) none := by
    kernel_rfl
  rw [hu]
  exact (L.szIntS_tree_nat (fun o => optC o (fun (r : Int) => κ (.int .i64 r) []) none) a left_ (fun d => some d) none).symm
noncomputable def L.szIntS_s : D.Spec where
  keep := false
  pure := true
  add := true
  ds := [.int .i64, .invalid]
  sp := fun args h κ => match args, h with
    | [.ro false (.ints .i64 a), .int .i64 left_], [] => optC (L.szIntS_t a left_) (fun (r : Int) => κ (.int .i64 r) []) none
    | _, _ => none
theorem L.szIntS_ok : SpecOk Try.prog 62 L.szIntS_s := by
  refine SpecOk.of TDok mixed (T := L.szIntS_T) ?_ (ann := L.szIntS_ann) Try.func62 rfl (by decide +kernel) ?_ ?_ ?_ ?_
  · intro p hp; cases hp
  · intro args h κ r hh
    simp only [L.szIntS_s] at hh
    split at hh
    · exact (L.szIntS_den _ _ κ).trans hh
    · cases hh
  · intro args h κ r hh
    simp only [L.szIntS_s] at hh ⊢
    split at hh
    · exact optC_law2 (F := fun (r : Int) κ => κ (.int .i64 r) []) (fun b κ r hb => ⟨_, _, hb, fun _ => rfl⟩) hh
    · cases hh
  · intro _ args h κ r hh
    simp only [L.szIntS_s] at hh
    split at hh
    · exact ⟨rfl, fun _ => rfl⟩
    · cases hh
  · intro _ args h κ r hh
    simp only [L.szIntS_s] at hh
    split at hh
    · rfl
    · cases hh


-- loop.example/guardsonnets/laws.szByteS
noncomputable def L.szByteS_T : List (Nat × D.Spec) := []
def L.szByteS_ann : Nat → List Nat × List Nat
  | _ => ([], [])
noncomputable def L.szByteS_F (args : List V) (h : List E) (κ : V → List E → R) : R := funC TD (tableK L.szByteS_T) L.szByteS_ann (drawAny TD (tableP L.szByteS_T)) FUEL Try.f63 args h κ
noncomputable def L.szByteS_tree {α : Type} (a : List Int) (left_ : Int) (leaf0_ : Int → α) (fail_ : α) : α :=
  (bif decide (IntKind.i64.wrap (left_ - (↑a.length : Int)) < 0) then (leaf0_ (-1)) else (leaf0_ (IntKind.i64.wrap (left_ - (↑a.length : Int)))))
theorem L.szByteS_tree_nat {α γ : Type} (g : α → γ) (a : List Int) (left_ : Int) (leaf0_ : Int → α) (fail_ : α) : g (L.szByteS_tree a left_ leaf0_ fail_) = L.szByteS_tree a left_ (fun d => g (leaf0_ d)) (g fail_) := by
  unfold L.szByteS_tree; simp only [apply_cnd g, apply_optC g, apply_sumC g]
noncomputable def L.szByteS_t (a : List Int) (left_ : Int) : Option (Int) := L.szByteS_tree a left_ (fun d => some d) none
theorem L.szByteS_den (a : List Int) (left_ : Int) (κ : V → List E → R) : L.szByteS_F [.ro false (.ints .u8 a), .int .i64 left_] [] κ = optC (L.szByteS_t a left_) (fun (r : Int) => κ (.int .i64 r) []) none := by
  have hu : L.szByteS_F [.ro false (.ints .u8 a), .int .i64 left_] [] κ = L.szByteS_tree a left_ (fun d => κ (.int .i64 d) []) none := by
    kernel_rfl
  rw [hu]
  exact (L.szByteS_tree_nat (fun o => optC o (fun (r : Int) => κ (.int .i64 r) []) none) a left_ (fun d => some d) none).symm
noncomputable def L.szByteS_s : D.Spec where
  keep := false
  pure := true
  add := true
  ds := [.int .u8, .invalid]
  sp := fun args h κ => match args, h with
    | [.ro false (.ints .u8 a), .int .i64 left_], [] => optC (L.szByteS_t a left_) (fun (r : Int) => κ (.int .i64 r) []) none
    | _, _ => none
theorem L.szByteS_ok : SpecOk Try.prog 63 L.szByteS_s := by
  refine SpecOk.of TDok mixed (T := L.szByteS_T) ?_ (ann := L.szByteS_ann) Try.func63 rfl (by decide +kernel) ?_ ?_ ?_ ?_
  · intro p hp; cases hp
  · intro args h κ r hh
    simp only [L.szByteS_s] at hh
    split at hh
    · exact (L.szByteS_den _ _ κ).trans hh
    · cases hh
  · intro args h κ r hh
    simp only [L.szByteS_s] at hh ⊢
    split at hh
    · exact optC_law2 (F := fun (r : Int) κ => κ (.int .i64 r) []) (fun b κ r hb => ⟨_, _, hb, fun _ => rfl⟩) hh
    · cases hh
  · intro _ args h κ r hh
    simp only [L.szByteS_s] at hh
    split at hh
    · exact ⟨rfl, fun _ => rfl⟩
    · cases hh
  · intro _ args h κ r hh
    simp only [L.szByteS_s] at hh
    split at hh
    · rfl
    · cases hh


-- loop.example/guardsonnets/laws.szPost
noncomputable def L.szPost_T : List (Nat × D.Spec) := [(62, L.szIntS_s), (63, L.szByteS_s)]
def L.szPost_ann : Nat → List Nat × List Nat
  | _ => ([], [])
noncomputable def L.szPost_F (args : List V) (h : List E) (κ : V → List E → R) : R := funC TD (tableK L.szPost_T) L.szPost_ann (drawAny TD (tableP L.szPost_T)) FUEL Try.f34 args h κ
noncomputable def L.szPost_tree {α : Type} (a0 : List Int) (a1 : Int) (a2 : List Int) (left_ : Int) (leaf0_ : Int → α) (fail_ : α) : α :=
  (optC (L.szIntS_t a0 left_) (fun c_1 => (bif decide (c_1 < 0) then (leaf0_ (-1)) else (optC (L.szByteS_t a2 c_1) (fun c_2 => (bif decide (c_2 < 0) then (leaf0_ (-1)) else (leaf0_ c_2))) fail_))) fail_)
theorem L.szPost_tree_nat {α γ : Type} (g : α → γ) (a0 : List Int) (a1 : Int) (a2 : List Int) (left_ : Int) (leaf0_ : Int → α) (fail_ : α) : g (L.szPost_tree a0 a1 a2 left_ leaf0_ fail_) = L.szPost_tree a0 a1 a2 left_ (fun d => g (leaf0_ d)) (g fail_) := by
  unfold L.szPost_tree; simp only [apply_cnd g, apply_optC g, apply_sumC g]
noncomputable def L.szPost_t (a0 : List Int) (a1 : Int) (a2 : List Int) (left_ : Int) : Option (Int) := L.szPost_tree a0 a1 a2 left_ (fun d => some d) none
theorem L.szPost_den (a0 : List Int) (a1 : Int) (a2 : List Int) (left_ : Int) (κ : V → List E → R) : L.szPost_F [.agg [.ro false (.ints .i64 a0), .int .i64 a1, .ro false (.ints .u8 a2)], .int .i64 left_] [] κ = optC (L.szPost_t a0 a1 a2 left_) (fun (r : Int) => κ (.int .i64 r) []) none := by
  have hu : L.szPost_F [.agg [.ro false (.ints .i64 a0), .int .i64 a1, .ro false (.ints .u8 a2)], .int .i64 left_] [] κ = L.szPost_tree a0 a1 a2 left_ (fun d => κ (.int .i64 d) []) none := by
    kernel_rfl
  rw [hu]
  exact (L.szPost_tree_nat (fun o => optC o (fun (r : Int) => κ (.int .i64 r) []) none) a0 a1 a2 left_ (fun d => some d) none).symm
noncomputable def L.szPost_s : D.Spec where
  keep := false
  pure := true
  add := true
  ds := [.tuple #[1, 0, 2], .invalid]
  sp := fun args h κ => match args, h with
    | [.agg [.ro false (.ints .i64 a0), .int .i64 a1, .ro false (.ints .u8 a2)], .int .i64 left_], [] => optC (L.szPost_t a0 a1 a2 left_) (fun (r : Int) => κ (.int .i64 r) []) none
    | _, _ => none
theorem L.szPost_ok : SpecOk Try.prog 34 L.szPost_s := by
  refine SpecOk.of TDok mixed (T := L.szPost_T) ?_ (ann := L.szPost_ann) Try.func34 rfl (by decide +kernel) ?_ ?_ ?_ ?_
  · intro p hp
    simp only [L.szPost_T, List.mem_cons, List.not_mem_nil, or_false] at hp
    rcases hp with rfl | rfl
    · exact L.szIntS_ok
    · exact L.szByteS_ok
  · intro args h κ r hh
    simp only [L.szPost_s] at hh
    split at hh
    · exact (L.szPost_den _ _ _ _ κ).trans hh
    · cases hh
  · intro args h κ r hh
    simp only [L.szPost_s] at hh ⊢
    split at hh
    · exact optC_law2 (F := fun (r : Int) κ => κ (.int .i64 r) []) (fun b κ r hb => ⟨_, _, hb, fun _ => rfl⟩) hh
    · cases hh
  · intro _ args h κ r hh
    simp only [L.szPost_s] at hh
    split at hh
    · exact ⟨rfl, fun _ => rfl⟩
    · cases hh
  · intro _ args h κ r hh
    simp only [L.szPost_s] at hh
    split at hh
    · rfl
    · cases hh


-- loop.example/guardsonnets/laws.toByteS
noncomputable def L.toByteS_T : List (Nat × D.Spec) := []
def L.toByteS_ann : Nat → List Nat × List Nat
  | 3 => ([0, 3, 4], [3])
  | _ => ([], [])
noncomputable def L.toByteS_F (args : List V) (h : List E) (κ : V → List E → R) : R := funC TD (tableK L.toByteS_T) L.toByteS_ann (drawAny TD (tableP L.toByteS_T)) FUEL Try.f37 args h κ
noncomputable def L.toByteS_L3 (n : Nat) (σ : St) (k : X → St → R) : R := iterC 0 (fun σ k => denC TD (tableK L.toByteS_T) L.toByteS_ann (drawAny TD (tableP L.toByteS_T)) 0 FUEL ((findLoop 3 (Try.f37.body.getD .skip)).getD .skip) σ k) [0, 3, 4] [3] n σ k
noncomputable def L.toByteS_k3 (κ : V → List E → R) : X → St → R := (afterC TD (tableK L.toByteS_T) L.toByteS_ann (drawAny TD (tableP L.toByteS_T)) 0 FUEL 3 (Try.f37.body.getD .skip) (finC TD 0 Try.f37 κ)).getD (fun _ _ => none)
noncomputable def L.toByteS_step3 {α : Type} (x0 : List Int) (x4 : Int) (r0 : List Int) (next_ : Int × (List Int) → α) (out0_ : List Int → α) (fail_ : α) : α :=
  (bif decide (x4 < (↑x0.length : Int)) then (bif decide (0 ≤ x4) && decide (x4 < (↑x0.length : Int)) then (bif decide (0 ≤ x4) && decide (x4 < (↑r0.length : Int)) then (bif decide (x4.toNat < r0.length) then (next_ (IntKind.i64.wrap (x4 + 1), r0.set x4.toNat (eli x0 x4.toNat))) else fail_) else fail_) else fail_) else (out0_ r0))
theorem L.toByteS_step3_nat {α γ : Type} (g : α → γ) (x0 : List Int) (x4 : Int) (r0 : List Int) (next_ : Int × (List Int) → α) (out0_ : List Int → α) (fail_ : α) : g (L.toByteS_step3 x0 x4 r0 next_ out0_ fail_) = L.toByteS_step3 x0 x4 r0 (fun s => g (next_ s)) (fun d => g (out0_ d)) (g fail_) := by
  unfold L.toByteS_step3; simp only [apply_cnd g, apply_optC g, apply_sumC g]
noncomputable def L.toByteS_run3 (x0 : List Int) : Nat → Int × (List Int) → Option (List Int)
  | 0, _ => none
  | n + 1, s_ => L.toByteS_step3 x0 s_.1 s_.2 (L.toByteS_run3 x0 n) (fun d => some d) none
theorem L.toByteS_L3_run (x0 : List Int) (n : Nat) (s_ : Int × (List Int)) (k : X → St → R) : L.toByteS_L3 n { n := 22, t := [(0, (.ro false (.ints .u8 x0))), (3, (.own 0)), (4, (.int .i64 s_.1))], h := [.row (.ints .u8 s_.2)] } k = optC (L.toByteS_run3 x0 n s_) (fun (r : List Int) => k (.exit 0) { n := 22, t := [(3, (.own 0))], h := [.row (.ints .u8 r)] }) none := by
  induction n generalizing s_ with
  | zero => rfl
  | succ n ih =>
    have hu : L.toByteS_L3 (n + 1) { n := 22, t := [(0, (.ro false (.ints .u8 x0))), (3, (.own 0)), (4, (.int .i64 s_.1))], h := [.row (.ints .u8 s_.2)] } k = L.toByteS_step3 x0 s_.1 s_.2 (fun s_ => L.toByteS_L3 n { n := 22, t := [(0, (.ro false (.ints .u8 x0))), (3, (.own 0)), (4, (.int .i64 s_.1))], h := [.row (.ints .u8 s_.2)] } k) (fun d => k (.exit 0) { n := 22, t := [(3, (.own 0))], h := [.row (.ints .u8 d)] }) none := by
      kernel_rfl
    have hs : (fun s_ : Int × (List Int) => L.toByteS_L3 n { n := 22, t := [(0, (.ro false (.ints .u8 x0))), (3, (.own 0)), (4, (.int .i64 s_.1))], h := [.row (.ints .u8 s_.2)] } k) = fun s_ => optC (L.toByteS_run3 x0 n s_) (fun (r : List Int) => k (.exit 0) { n := 22, t := [(3, (.own 0))], h := [.row (.ints .u8 r)] }) none := funext ih
    rw [hu, hs]
    exact (L.toByteS_step3_nat (fun o => optC o (fun (r : List Int) => k (.exit 0) { n := 22, t := [(3, (.own 0))], h := [.row (.ints .u8 r)] }) none) x0 s_.1 s_.2 (L.toByteS_run3 x0 n) (fun d => some d) none).symm
noncomputable def L.toByteS_tree {α : Type} (a : List Int) (leaf0_ : List Int → α) (fail_ : α) : α :=
  (bif small (↑a.length : Int).toNat && true then (optC (L.toByteS_run3 a FUEL (0, List.replicate (↑a.length : Int).toNat 0)) (fun qy_1 => (leaf0_ qy_1)) fail_) else fail_)
theorem L.toByteS_tree_nat {α γ : Type} (g : α → γ) (a : List Int) (leaf0_ : List Int → α) (fail_ : α) : g (L.toByteS_tree a leaf0_ fail_) = L.toByteS_tree a (fun d => g (leaf0_ d)) (g fail_) := by
  unfold L.toByteS_tree; simp only [apply_cnd g, apply_optC g, apply_sumC g]
noncomputable def L.toByteS_t (a : List Int) : Option (List Int) := L.toByteS_tree a (fun d => some d) none
theorem L.toByteS_den (a : List Int) (κ : V → List E → R) : L.toByteS_F [.ro false (.ints .u8 a)] [] κ = optC (L.toByteS_t a) (fun (r : List Int) => κ (.own 0) [.row (.ints .u8 r)]) none := by
  have hu : L.toByteS_F [.ro false (.ints .u8 a)] [] κ = L.toByteS_tree a (fun d => κ (.own 0) [.row (.ints .u8 d)]) none := by
    refine Eq.trans (show L.toByteS_F [.ro false (.ints .u8 a)] [] κ = (bif small (↑a.length : Int).toNat && true then (L.toByteS_L3 FUEL { n := 22, t := [(0, (.ro false (.ints .u8 a))), (3, (.own 0)), (4, (.int .i64 0))], h := [.row (.ints .u8 (List.replicate (↑a.length : Int).toNat 0))] } (L.toByteS_k3 κ)) else none) by kernel_rfl) ?_
    refine cnd_congr ?_ ?_
    · refine (L.toByteS_L3_run a FUEL (0, List.replicate (↑a.length : Int).toNat 0) (L.toByteS_k3 κ)).trans (optC_congr (fun qy_1 => ?_))
      kernel_rfl
    · kernel_rfl
  rw [hu]
  exact (L.toByteS_tree_nat (fun o => optC o (fun (r : List Int) => κ (.own 0) [.row (.ints .u8 r)]) none) a (fun d => some d) none).symm
noncomputable def L.toByteS_s : D.Spec where
  keep := false
  pure := false
  add := true
  ds := [.int .u8]
  sp := fun args h κ => match args, h with
    | [.ro false (.ints .u8 a)], [] => optC (L.toByteS_t a) (fun (r : List Int) => κ (.own 0) [.row (.ints .u8 r)]) none
    | _, _ => none
theorem L.toByteS_ok : SpecOk Try.prog 37 L.toByteS_s := by
  refine SpecOk.of TDok mixed (T := L.toByteS_T) ?_ (ann := L.toByteS_ann) Try.func37 rfl (by decide +kernel) ?_ ?_ ?_ ?_
  · intro p hp; cases hp
  · intro args h κ r hh
    simp only [L.toByteS_s] at hh
    split at hh
    · exact (L.toByteS_den _ κ).trans hh
    · cases hh
  · intro args h κ r hh
    simp only [L.toByteS_s] at hh ⊢
    split at hh
    · exact optC_law2 (F := fun (r : List Int) κ => κ (.own 0) [.row (.ints .u8 r)]) (fun b κ r hb => ⟨_, _, hb, fun _ => rfl⟩) hh
    · cases hh
  · intro hh; cases hh
  · intro _ args h κ r hh
    simp only [L.toByteS_s] at hh
    split at hh
    · rfl
    · cases hh


-- loop.example/guardsonnets/laws.toPost
noncomputable def L.toPost_T : List (Nat × D.Spec) := [(28, L.toIntS_s), (37, L.toByteS_s)]
def L.toPost_ann : Nat → List Nat × List Nat
  | _ => ([], [])
noncomputable def L.toPost_F (args : List V) (h : List E) (κ : V → List E → R) : R := funC TD (tableK L.toPost_T) L.toPost_ann (drawAny TD (tableP L.toPost_T)) FUEL Try.f35 args h κ
noncomputable def L.toPost_tree {α : Type} (a0 : List Int) (a1 : Int) (a2 : List Int) (leaf0_ : Int × (List Int) × (List Int) → α) (fail_ : α) : α :=
  (optC (L.toIntS_t a0) (fun c_1 => (optC (L.toByteS_t a2) (fun c_2 => (leaf0_ (a1, c_1, c_2))) fail_)) fail_)
theorem L.toPost_tree_nat {α γ : Type} (g : α → γ) (a0 : List Int) (a1 : Int) (a2 : List Int) (leaf0_ : Int × (List Int) × (List Int) → α) (fail_ : α) : g (L.toPost_tree a0 a1 a2 leaf0_ fail_) = L.toPost_tree a0 a1 a2 (fun d => g (leaf0_ d)) (g fail_) := by
  unfold L.toPost_tree; simp only [apply_cnd g, apply_optC g, apply_sumC g]
noncomputable def L.toPost_t (a0 : List Int) (a1 : Int) (a2 : List Int) : Option (Int × (List Int) × (List Int)) := L.toPost_tree a0 a1 a2 (fun d => some d) none
theorem L.toPost_den (a0 : List Int) (a1 : Int) (a2 : List Int) (κ : V → List E → R) : L.toPost_F [.agg [.ro false (.ints .i64 a0), .int .i64 a1, .ro false (.ints .u8 a2)]] [] κ = optC (L.toPost_t a0 a1 a2) (fun (r : Int × (List Int) × (List Int)) => κ (.agg [(.own 0), (.int .i64 r.1), (.own 1)]) [.row (.ints .i64 r.2.1), .row (.ints .u8 r.2.2)]) none := by
  have hu : L.toPost_F [.agg [.ro false (.ints .i64 a0), .int .i64 a1, .ro false (.ints .u8 a2)]] [] κ = L.toPost_tree a0 a1 a2 (fun d => κ (.agg [(.own 0), (.int .i64 d.1), (.own 1)]) [.row (.ints .i64 d.2.1), .row (.ints .u8 d.2.2)]) none := by
    kernel_rfl
  rw [hu]
  exact (L.toPost_tree_nat (fun o => optC o (fun (r : Int × (List Int) × (List Int)) => κ (.agg [(.own 0), (.int .i64 r.1), (.own 1)]) [.row (.ints .i64 r.2.1), .row (.ints .u8 r.2.2)]) none) a0 a1 a2 (fun d => some d) none).symm
noncomputable def L.toPost_s : D.Spec where
  keep := false
  pure := false
  add := true
  ds := [.tuple #[1, 0, 2]]
  sp := fun args h κ => match args, h with
    | [.agg [.ro false (.ints .i64 a0), .int .i64 a1, .ro false (.ints .u8 a2)]], [] => optC (L.toPost_t a0 a1 a2) (fun (r : Int × (List Int) × (List Int)) => κ (.agg [(.own 0), (.int .i64 r.1), (.own 1)]) [.row (.ints .i64 r.2.1), .row (.ints .u8 r.2.2)]) none
    | _, _ => none
theorem L.toPost_ok : SpecOk Try.prog 35 L.toPost_s := by
  refine SpecOk.of TDok mixed (T := L.toPost_T) ?_ (ann := L.toPost_ann) Try.func35 rfl (by decide +kernel) ?_ ?_ ?_ ?_
  · intro p hp
    simp only [L.toPost_T, List.mem_cons, List.not_mem_nil, or_false] at hp
    rcases hp with rfl | rfl
    · exact L.toIntS_ok
    · exact L.toByteS_ok
  · intro args h κ r hh
    simp only [L.toPost_s] at hh
    split at hh
    · exact (L.toPost_den _ _ _ κ).trans hh
    · cases hh
  · intro args h κ r hh
    simp only [L.toPost_s] at hh ⊢
    split at hh
    · exact optC_law2 (F := fun (r : Int × (List Int) × (List Int)) κ => κ (.agg [(.own 0), (.int .i64 r.1), (.own 1)]) [.row (.ints .i64 r.2.1), .row (.ints .u8 r.2.2)]) (fun b κ r hb => ⟨_, _, hb, fun _ => rfl⟩) hh
    · cases hh
  · intro hh; cases hh
  · intro _ args h κ r hh
    simp only [L.toPost_s] at hh
    split at hh
    · rfl
    · cases hh


-- loop.example/guardsonnets/laws.FnExactPostOk
noncomputable def L.FnExactPostOk_T : List (Nat × D.Spec) := [(34, L.szPost_s), (35, L.toPost_s), (13, S.PostOk_s), (12, I.PostOk_s), (29, L.eqPost_s)]
def L.FnExactPostOk_ann : Nat → List Nat × List Nat
  | _ => ([], [])
noncomputable def L.FnExactPostOk_F (args : List V) (h : List E) (κ : V → List E → R) : R := funC TD (tableK L.FnExactPostOk_T) L.FnExactPostOk_ann (drawAny TD (tableP L.FnExactPostOk_T)) FUEL Try.f7 args h κ
noncomputable def L.FnExactPostOk_tree {α : Type} (aP0 : List Int) (aP1 : Int) (aP2 : List Int) (leaf0_ : Bool → α) (fail_ : α) : α :=
  (optC (L.szPost_t aP0 aP1 aP2 1048576) (fun c_1 => (bif decide (c_1 < 0) then (leaf0_ true) else (optC (L.toPost_t aP0 aP1 aP2) (fun c_2 => (optC (S.PostOk_t c_2.snd.fst c_2.fst c_2.snd.snd) (fun c_3 => (optC (L.toPost_t aP0 aP1 aP2) (fun c_4 => (optC (I.PostOk_t c_4.snd.fst c_4.fst c_4.snd.snd) (fun c_5 => (bif !c_5 == c_3 then (leaf0_ false) else (optC (L.toPost_t aP0 aP1 aP2) (fun c_6 => (optC (L.eqPost_t c_4.snd.fst c_4.fst c_4.snd.snd c_6.snd.fst c_6.fst c_6.snd.snd) (fun c_7 => (bif !c_7 then (leaf0_ false) else (leaf0_ true))) fail_)) fail_))) fail_)) fail_)) fail_)) fail_))) fail_)
theorem L.FnExactPostOk_tree_nat {α γ : Type} (g : α → γ) (aP0 : List Int) (aP1 : Int) (aP2 : List Int) (leaf0_ : Bool → α) (fail_ : α) : g (L.FnExactPostOk_tree aP0 aP1 aP2 leaf0_ fail_) = L.FnExactPostOk_tree aP0 aP1 aP2 (fun d => g (leaf0_ d)) (g fail_) := by
  unfold L.FnExactPostOk_tree; simp only [apply_cnd g, apply_optC g, apply_sumC g]
noncomputable def L.FnExactPostOk_t (aP0 : List Int) (aP1 : Int) (aP2 : List Int) : Option (Bool) := L.FnExactPostOk_tree aP0 aP1 aP2 (fun d => some d) none
theorem L.FnExactPostOk_den (aP0 : List Int) (aP1 : Int) (aP2 : List Int) (κ : V → List E → R) : L.FnExactPostOk_F [.agg [.ro true (.ints .i64 aP0), .int .i64 aP1, .ro true (.ints .u8 aP2)]] [] κ = optC (L.FnExactPostOk_t aP0 aP1 aP2) (fun (r : Bool) => κ (.bool r) []) none := by
  have hu : L.FnExactPostOk_F [.agg [.ro true (.ints .i64 aP0), .int .i64 aP1, .ro true (.ints .u8 aP2)]] [] κ = L.FnExactPostOk_tree aP0 aP1 aP2 (fun d => κ (.bool d) []) none := by
    kernel_rfl
  rw [hu]
  exact (L.FnExactPostOk_tree_nat (fun o => optC o (fun (r : Bool) => κ (.bool r) []) none) aP0 aP1 aP2 (fun d => some d) none).symm
noncomputable def L.FnExactPostOk_s : D.Spec where
  keep := true
  pure := true
  add := true
  ds := [.tuple #[1, 0, 2]]
  sp := fun args h κ => match args, h with
    | [.agg [.ro true (.ints .i64 aP0), .int .i64 aP1, .ro true (.ints .u8 aP2)]], [] => optC (L.FnExactPostOk_t aP0 aP1 aP2) (fun (r : Bool) => κ (.bool r) []) none
    | _, _ => none
theorem L.FnExactPostOk_ok : SpecOk Try.prog 7 L.FnExactPostOk_s := by
  refine SpecOk.of TDok mixed (T := L.FnExactPostOk_T) ?_ (ann := L.FnExactPostOk_ann) Try.func7 rfl (by decide +kernel) ?_ ?_ ?_ ?_
  · intro p hp
    simp only [L.FnExactPostOk_T, List.mem_cons, List.not_mem_nil, or_false] at hp
    rcases hp with rfl | rfl | rfl | rfl | rfl
    · exact L.szPost_ok
    · exact L.toPost_ok
    · exact S.PostOk_ok
    · exact I.PostOk_ok
    · exact L.eqPost_ok
  · intro args h κ r hh
    simp only [L.FnExactPostOk_s] at hh
    split at hh
    · exact (L.FnExactPostOk_den _ _ _ κ).trans hh
    · cases hh
  · intro args h κ r hh
    simp only [L.FnExactPostOk_s] at hh ⊢
    split at hh
    · exact optC_law2 (F := fun (r : Bool) κ => κ (.bool r) []) (fun b κ r hb => ⟨_, _, hb, fun _ => rfl⟩) hh
    · cases hh
  · intro _ args h κ r hh
    simp only [L.FnExactPostOk_s] at hh
    split at hh
    · exact ⟨rfl, fun _ => rfl⟩
    · cases hh
  · intro _ args h κ r hh
    simp only [L.FnExactPostOk_s] at hh
    split at hh
    · rfl
    · cases hh


-- loop.example/guardsonnets/laws.FnExactPostAsk
noncomputable def L.FnExactPostAsk_T : List (Nat × D.Spec) := [(34, L.szPost_s), (35, L.toPost_s), (20, S.PostAsk_s), (19, I.PostAsk_s), (29, L.eqPost_s), (32, L.markPost_s), (33, L.heldPost_s)]
def L.FnExactPostAsk_ann : Nat → List Nat × List Nat
  | _ => ([], [])
noncomputable def L.FnExactPostAsk_F (args : List V) (h : List E) (κ : V → List E → R) : R := funC TD (tableK L.FnExactPostAsk_T) L.FnExactPostAsk_ann (drawAny TD (tableP L.FnExactPostAsk_T)) FUEL Try.f8 args h κ
noncomputable def L.FnExactPostAsk_tree {α : Type} (aP0 : List Int) (aP1 : Int) (aP2 : List Int) (aPlace : Int) (leaf0_ : Bool → α) (fail_ : α) : α :=
  (optC (L.szPost_t aP0 aP1 aP2 1048576) (fun c_1 => (bif decide (c_1 < 0) then (leaf0_ true) else (optC (L.toPost_t aP0 aP1 aP2) (fun c_2 => (optC (S.PostAsk_t c_2.snd.fst c_2.fst c_2.snd.snd aPlace) (fun c_3 => (optC (L.toPost_t aP0 aP1 aP2) (fun c_4 => (optC (I.PostAsk_t c_4.snd.fst c_4.fst c_4.snd.snd aPlace) (fun c_5 => (optC (L.eqPost_t c_5.snd.snd.fst c_5.fst c_5.snd.snd.snd c_3.snd.snd.fst c_3.fst c_3.snd.snd.snd) (fun c_6 => (bif !c_6 then (leaf0_ false) else (bif !c_5.snd.fst == c_3.snd.fst then (leaf0_ false) else (optC (L.toPost_t aP0 aP1 aP2) (fun c_7 => (optC (L.eqPost_t c_4.snd.fst c_4.fst c_4.snd.snd c_7.snd.fst c_7.fst c_7.snd.snd) (fun c_8 => (bif !c_8 then (leaf0_ false) else (optC (L.markPost_t c_4.snd.fst c_4.fst c_4.snd.snd 1) (fun c_9 => (bif decide (c_9.fst < 0) then (leaf0_ false) else (optC (L.eqPost_t c_5.snd.snd.fst c_5.fst c_5.snd.snd.snd c_3.snd.snd.fst c_3.fst c_3.snd.snd.snd) (fun c_10 => (bif !c_10 then (leaf0_ false) else (bif !c_5.snd.fst == c_3.snd.fst then (leaf0_ false) else (optC (L.markPost_t c_5.snd.snd.fst c_5.fst c_5.snd.snd.snd 1) (fun c_11 => (optC (L.heldPost_t c_11.snd.fst c_5.fst c_11.snd.snd 1) (fun c_12 => (bif decide (c_12 < 0) then (leaf0_ false) else (bif !c_12 == c_11.fst then (leaf0_ false) else (optC (L.toPost_t aP0 aP1 aP2) (fun c_13 => (optC (I.PostAsk_t c_13.snd.fst c_13.fst c_13.snd.snd aPlace) (fun c_14 => (optC (L.eqPost_t c_14.snd.snd.fst c_14.fst c_14.snd.snd.snd c_3.snd.snd.fst c_3.fst c_3.snd.snd.snd) (fun c_15 => (bif !c_15 then (leaf0_ false) else (bif !c_14.snd.fst == c_3.snd.fst then (leaf0_ false) else (optC (L.heldPost_t c_11.snd.fst c_5.fst c_11.snd.snd 1) (fun c_16 => (bif decide (c_16 < 0) then (leaf0_ false) else (bif !c_16 == c_11.fst then (leaf0_ false) else (leaf0_ true)))) fail_)))) fail_)) fail_)) fail_)))) fail_)) fail_)))) fail_))) fail_))) fail_)) fail_)))) fail_)) fail_)) fail_)) fail_)) fail_))) fail_)
theorem L.FnExactPostAsk_tree_nat {α γ : Type} (g : α → γ) (aP0 : List Int) (aP1 : Int) (aP2 : List Int) (aPlace : Int) (leaf0_ : Bool → α) (fail_ : α) : g (L.FnExactPostAsk_tree aP0 aP1 aP2 aPlace leaf0_ fail_) = L.FnExactPostAsk_tree aP0 aP1 aP2 aPlace (fun d => g (leaf0_ d)) (g fail_) := by
  unfold L.FnExactPostAsk_tree; simp only [apply_cnd g, apply_optC g, apply_sumC g]
noncomputable def L.FnExactPostAsk_t (aP0 : List Int) (aP1 : Int) (aP2 : List Int) (aPlace : Int) : Option (Bool) := L.FnExactPostAsk_tree aP0 aP1 aP2 aPlace (fun d => some d) none
theorem L.FnExactPostAsk_den (aP0 : List Int) (aP1 : Int) (aP2 : List Int) (aPlace : Int) (κ : V → List E → R) : L.FnExactPostAsk_F [.agg [.ro true (.ints .i64 aP0), .int .i64 aP1, .ro true (.ints .u8 aP2)], .int .i64 aPlace] [] κ = optC (L.FnExactPostAsk_t aP0 aP1 aP2 aPlace) (fun (r : Bool) => κ (.bool r) []) none := by
  have hu : L.FnExactPostAsk_F [.agg [.ro true (.ints .i64 aP0), .int .i64 aP1, .ro true (.ints .u8 aP2)], .int .i64 aPlace] [] κ = L.FnExactPostAsk_tree aP0 aP1 aP2 aPlace (fun d => κ (.bool d) []) none := by
    kernel_rfl
  rw [hu]
  exact (L.FnExactPostAsk_tree_nat (fun o => optC o (fun (r : Bool) => κ (.bool r) []) none) aP0 aP1 aP2 aPlace (fun d => some d) none).symm
noncomputable def L.FnExactPostAsk_s : D.Spec where
  keep := true
  pure := true
  add := true
  ds := [.tuple #[1, 0, 2], .invalid]
  sp := fun args h κ => match args, h with
    | [.agg [.ro true (.ints .i64 aP0), .int .i64 aP1, .ro true (.ints .u8 aP2)], .int .i64 aPlace], [] => optC (L.FnExactPostAsk_t aP0 aP1 aP2 aPlace) (fun (r : Bool) => κ (.bool r) []) none
    | _, _ => none
theorem L.FnExactPostAsk_ok : SpecOk Try.prog 8 L.FnExactPostAsk_s := by
  refine SpecOk.of TDok mixed (T := L.FnExactPostAsk_T) ?_ (ann := L.FnExactPostAsk_ann) Try.func8 rfl (by decide +kernel) ?_ ?_ ?_ ?_
  · intro p hp
    simp only [L.FnExactPostAsk_T, List.mem_cons, List.not_mem_nil, or_false] at hp
    rcases hp with rfl | rfl | rfl | rfl | rfl | rfl | rfl
    · exact L.szPost_ok
    · exact L.toPost_ok
    · exact S.PostAsk_ok
    · exact I.PostAsk_ok
    · exact L.eqPost_ok
    · exact L.markPost_ok
    · exact L.heldPost_ok
  · intro args h κ r hh
    simp only [L.FnExactPostAsk_s] at hh
    split at hh
    · exact (L.FnExactPostAsk_den _ _ _ _ κ).trans hh
    · cases hh
  · intro args h κ r hh
    simp only [L.FnExactPostAsk_s] at hh ⊢
    split at hh
    · exact optC_law2 (F := fun (r : Bool) κ => κ (.bool r) []) (fun b κ r hb => ⟨_, _, hb, fun _ => rfl⟩) hh
    · cases hh
  · intro _ args h κ r hh
    simp only [L.FnExactPostAsk_s] at hh
    split at hh
    · exact ⟨rfl, fun _ => rfl⟩
    · cases hh
  · intro _ args h κ r hh
    simp only [L.FnExactPostAsk_s] at hh
    split at hh
    · rfl
    · cases hh


-- loop.example/guardsonnets/laws.FnExactPostRise
noncomputable def L.FnExactPostRise_T : List (Nat × D.Spec) := [(28, L.toIntS_s), (37, L.toByteS_s), (36, S.PostRise_s), (14, I.PostRise_s), (29, L.eqPost_s), (30, L.eqIntS_s), (38, L.eqByteS_s), (31, L.markIntS_s), (39, L.markByteS_s), (32, L.markPost_s), (33, L.heldPost_s)]
def L.FnExactPostRise_ann : Nat → List Nat × List Nat
  | _ => ([], [])
noncomputable def L.FnExactPostRise_F (args : List V) (h : List E) (κ : V → List E → R) : R := funC TD (tableK L.FnExactPostRise_T) L.FnExactPostRise_ann (drawAny TD (tableP L.FnExactPostRise_T)) FUEL Try.f9 args h κ
noncomputable def L.FnExactPostRise_tree {α : Type} (aNet : List Int) (aLog : List Int) (leaf0_ : Bool → α) (fail_ : α) : α :=
  (bif decide ((↑aNet.length : Int) > 1048576) then (leaf0_ true) else (bif decide ((↑aLog.length : Int) > 1048576) then (leaf0_ true) else (optC (L.toIntS_t aNet) (fun c_1 => (optC (L.toByteS_t aLog) (fun c_2 => (optC (S.PostRise_t c_1 c_2) (fun c_3 => (optC (L.toIntS_t aNet) (fun c_4 => (optC (L.toByteS_t aLog) (fun c_5 => (optC (I.PostRise_t c_4 c_5) (fun c_6 => (optC (L.eqPost_t c_6.snd.snd.fst c_6.fst c_6.snd.snd.snd c_3.snd.snd.fst c_3.fst c_3.snd.snd.snd) (fun c_7 => (bif !c_7 then (leaf0_ false) else (bif !c_6.snd.fst == c_3.snd.fst then (leaf0_ false) else (optC (L.toIntS_t aNet) (fun c_8 => (optC (L.eqIntS_t c_4 c_8) (fun c_9 => (bif !c_9 then (leaf0_ false) else (optC (L.toByteS_t aLog) (fun c_10 => (optC (L.eqByteS_t c_5 c_10) (fun c_11 => (bif !c_11 then (leaf0_ false) else (optC (L.markIntS_t c_4 1) (fun c_12 => (optC (L.markByteS_t c_5 c_12.fst) (fun c_13 => (bif decide (c_13.fst < 0) then (leaf0_ false) else (optC (L.eqPost_t c_6.snd.snd.fst c_6.fst c_6.snd.snd.snd c_3.snd.snd.fst c_3.fst c_3.snd.snd.snd) (fun c_14 => (bif !c_14 then (leaf0_ false) else (bif !c_6.snd.fst == c_3.snd.fst then (leaf0_ false) else (optC (L.markPost_t c_6.snd.snd.fst c_6.fst c_6.snd.snd.snd 1) (fun c_15 => (optC (L.heldPost_t c_15.snd.fst c_6.fst c_15.snd.snd 1) (fun c_16 => (bif decide (c_16 < 0) then (leaf0_ false) else (bif !c_16 == c_15.fst then (leaf0_ false) else (optC (L.toIntS_t aNet) (fun c_17 => (optC (L.toByteS_t aLog) (fun c_18 => (optC (I.PostRise_t c_17 c_18) (fun c_19 => (optC (L.eqPost_t c_19.snd.snd.fst c_19.fst c_19.snd.snd.snd c_3.snd.snd.fst c_3.fst c_3.snd.snd.snd) (fun c_20 => (bif !c_20 then (leaf0_ false) else (bif !c_19.snd.fst == c_3.snd.fst then (leaf0_ false) else (optC (L.heldPost_t c_15.snd.fst c_6.fst c_15.snd.snd 1) (fun c_21 => (bif decide (c_21 < 0) then (leaf0_ false) else (bif !c_21 == c_15.fst then (leaf0_ false) else (leaf0_ true)))) fail_)))) fail_)) fail_)) fail_)) fail_)))) fail_)) fail_)))) fail_))) fail_)) fail_))) fail_)) fail_))) fail_)) fail_)))) fail_)) fail_)) fail_)) fail_)) fail_)) fail_)) fail_)))
theorem L.FnExactPostRise_tree_nat {α γ : Type} (g : α → γ) (aNet : List Int) (aLog : List Int) (leaf0_ : Bool → α) (fail_ : α) : g (L.FnExactPostRise_tree aNet aLog leaf0_ fail_) = L.FnExactPostRise_tree aNet aLog (fun d => g (leaf0_ d)) (g fail_) := by
  unfold L.FnExactPostRise_tree; simp only [apply_cnd g, apply_optC g, apply_sumC g]
noncomputable def L.FnExactPostRise_t (aNet : List Int) (aLog : List Int) : Option (Bool) := L.FnExactPostRise_tree aNet aLog (fun d => some d) none
theorem L.FnExactPostRise_den (aNet : List Int) (aLog : List Int) (κ : V → List E → R) : L.FnExactPostRise_F [.ro true (.ints .i64 aNet), .ro true (.ints .u8 aLog)] [] κ = optC (L.FnExactPostRise_t aNet aLog) (fun (r : Bool) => κ (.bool r) []) none := by
  have hu : L.FnExactPostRise_F [.ro true (.ints .i64 aNet), .ro true (.ints .u8 aLog)] [] κ = L.FnExactPostRise_tree aNet aLog (fun d => κ (.bool d) []) none := by
    kernel_rfl
  rw [hu]
  exact (L.FnExactPostRise_tree_nat (fun o => optC o (fun (r : Bool) => κ (.bool r) []) none) aNet aLog (fun d => some d) none).symm
noncomputable def L.FnExactPostRise_s : D.Spec where
  keep := true
  pure := true
  add := true
  ds := [.int .i64, .int .u8]
  sp := fun args h κ => match args, h with
    | [.ro true (.ints .i64 aNet), .ro true (.ints .u8 aLog)], [] => optC (L.FnExactPostRise_t aNet aLog) (fun (r : Bool) => κ (.bool r) []) none
    | _, _ => none
theorem L.FnExactPostRise_ok : SpecOk Try.prog 9 L.FnExactPostRise_s := by
  refine SpecOk.of TDok mixed (T := L.FnExactPostRise_T) ?_ (ann := L.FnExactPostRise_ann) Try.func9 rfl (by decide +kernel) ?_ ?_ ?_ ?_
  · intro p hp
    simp only [L.FnExactPostRise_T, List.mem_cons, List.not_mem_nil, or_false] at hp
    rcases hp with rfl | rfl | rfl | rfl | rfl | rfl | rfl | rfl | rfl | rfl | rfl
    · exact L.toIntS_ok
    · exact L.toByteS_ok
    · exact S.PostRise_ok
    · exact I.PostRise_ok
    · exact L.eqPost_ok
    · exact L.eqIntS_ok
    · exact L.eqByteS_ok
    · exact L.markIntS_ok
    · exact L.markByteS_ok
    · exact L.markPost_ok
    · exact L.heldPost_ok
  · intro args h κ r hh
    simp only [L.FnExactPostRise_s] at hh
    split at hh
    · exact (L.FnExactPostRise_den _ _ κ).trans hh
    · cases hh
  · intro args h κ r hh
    simp only [L.FnExactPostRise_s] at hh ⊢
    split at hh
    · exact optC_law2 (F := fun (r : Bool) κ => κ (.bool r) []) (fun b κ r hb => ⟨_, _, hb, fun _ => rfl⟩) hh
    · cases hh
  · intro _ args h κ r hh
    simp only [L.FnExactPostRise_s] at hh
    split at hh
    · exact ⟨rfl, fun _ => rfl⟩
    · cases hh
  · intro _ args h κ r hh
    simp only [L.FnExactPostRise_s] at hh
    split at hh
    · rfl
    · cases hh


-- loop.example/guardsonnets/laws.FnExactPostCut
noncomputable def L.FnExactPostCut_T : List (Nat × D.Spec) := [(34, L.szPost_s), (35, L.toPost_s), (24, S.PostCut_s), (23, I.PostCut_s), (29, L.eqPost_s), (32, L.markPost_s), (33, L.heldPost_s)]
def L.FnExactPostCut_ann : Nat → List Nat × List Nat
  | _ => ([], [])
noncomputable def L.FnExactPostCut_F (args : List V) (h : List E) (κ : V → List E → R) : R := funC TD (tableK L.FnExactPostCut_T) L.FnExactPostCut_ann (drawAny TD (tableP L.FnExactPostCut_T)) FUEL Try.f10 args h κ
noncomputable def L.FnExactPostCut_tree {α : Type} (aP0 : List Int) (aP1 : Int) (aP2 : List Int) (aBytes : Int) (leaf0_ : Bool → α) (fail_ : α) : α :=
  (optC (L.szPost_t aP0 aP1 aP2 1048576) (fun c_1 => (bif decide (c_1 < 0) then (leaf0_ true) else (optC (L.toPost_t aP0 aP1 aP2) (fun c_2 => (optC (S.PostCut_t c_2.snd.fst c_2.fst c_2.snd.snd aBytes) (fun c_3 => (optC (L.toPost_t aP0 aP1 aP2) (fun c_4 => (optC (I.PostCut_t c_4.snd.fst c_4.fst c_4.snd.snd aBytes) (fun c_5 => (optC (L.eqPost_t c_5.snd.snd.fst c_5.fst c_5.snd.snd.snd c_3.snd.snd.fst c_3.fst c_3.snd.snd.snd) (fun c_6 => (bif !c_6 then (leaf0_ false) else (bif !c_5.snd.fst == c_3.snd.fst then (leaf0_ false) else (optC (L.toPost_t aP0 aP1 aP2) (fun c_7 => (optC (L.eqPost_t c_4.snd.fst c_4.fst c_4.snd.snd c_7.snd.fst c_7.fst c_7.snd.snd) (fun c_8 => (bif !c_8 then (leaf0_ false) else (optC (L.markPost_t c_4.snd.fst c_4.fst c_4.snd.snd 1) (fun c_9 => (bif decide (c_9.fst < 0) then (leaf0_ false) else (optC (L.eqPost_t c_5.snd.snd.fst c_5.fst c_5.snd.snd.snd c_3.snd.snd.fst c_3.fst c_3.snd.snd.snd) (fun c_10 => (bif !c_10 then (leaf0_ false) else (bif !c_5.snd.fst == c_3.snd.fst then (leaf0_ false) else (optC (L.markPost_t c_5.snd.snd.fst c_5.fst c_5.snd.snd.snd 1) (fun c_11 => (optC (L.heldPost_t c_11.snd.fst c_5.fst c_11.snd.snd 1) (fun c_12 => (bif decide (c_12 < 0) then (leaf0_ false) else (bif !c_12 == c_11.fst then (leaf0_ false) else (optC (L.toPost_t aP0 aP1 aP2) (fun c_13 => (optC (I.PostCut_t c_13.snd.fst c_13.fst c_13.snd.snd aBytes) (fun c_14 => (optC (L.eqPost_t c_14.snd.snd.fst c_14.fst c_14.snd.snd.snd c_3.snd.snd.fst c_3.fst c_3.snd.snd.snd) (fun c_15 => (bif !c_15 then (leaf0_ false) else (bif !c_14.snd.fst == c_3.snd.fst then (leaf0_ false) else (optC (L.heldPost_t c_11.snd.fst c_5.fst c_11.snd.snd 1) (fun c_16 => (bif decide (c_16 < 0) then (leaf0_ false) else (bif !c_16 == c_11.fst then (leaf0_ false) else (leaf0_ true)))) fail_)))) fail_)) fail_)) fail_)))) fail_)) fail_)))) fail_))) fail_))) fail_)) fail_)))) fail_)) fail_)) fail_)) fail_)) fail_))) fail_)
theorem L.FnExactPostCut_tree_nat {α γ : Type} (g : α → γ) (aP0 : List Int) (aP1 : Int) (aP2 : List Int) (aBytes : Int) (leaf0_ : Bool → α) (fail_ : α) : g (L.FnExactPostCut_tree aP0 aP1 aP2 aBytes leaf0_ fail_) = L.FnExactPostCut_tree aP0 aP1 aP2 aBytes (fun d => g (leaf0_ d)) (g fail_) := by
  unfold L.FnExactPostCut_tree; simp only [apply_cnd g, apply_optC g, apply_sumC g]
noncomputable def L.FnExactPostCut_t (aP0 : List Int) (aP1 : Int) (aP2 : List Int) (aBytes : Int) : Option (Bool) := L.FnExactPostCut_tree aP0 aP1 aP2 aBytes (fun d => some d) none
theorem L.FnExactPostCut_den (aP0 : List Int) (aP1 : Int) (aP2 : List Int) (aBytes : Int) (κ : V → List E → R) : L.FnExactPostCut_F [.agg [.ro true (.ints .i64 aP0), .int .i64 aP1, .ro true (.ints .u8 aP2)], .int .i64 aBytes] [] κ = optC (L.FnExactPostCut_t aP0 aP1 aP2 aBytes) (fun (r : Bool) => κ (.bool r) []) none := by
  have hu : L.FnExactPostCut_F [.agg [.ro true (.ints .i64 aP0), .int .i64 aP1, .ro true (.ints .u8 aP2)], .int .i64 aBytes] [] κ = L.FnExactPostCut_tree aP0 aP1 aP2 aBytes (fun d => κ (.bool d) []) none := by
    kernel_rfl
  rw [hu]
  exact (L.FnExactPostCut_tree_nat (fun o => optC o (fun (r : Bool) => κ (.bool r) []) none) aP0 aP1 aP2 aBytes (fun d => some d) none).symm
noncomputable def L.FnExactPostCut_s : D.Spec where
  keep := true
  pure := true
  add := true
  ds := [.tuple #[1, 0, 2], .invalid]
  sp := fun args h κ => match args, h with
    | [.agg [.ro true (.ints .i64 aP0), .int .i64 aP1, .ro true (.ints .u8 aP2)], .int .i64 aBytes], [] => optC (L.FnExactPostCut_t aP0 aP1 aP2 aBytes) (fun (r : Bool) => κ (.bool r) []) none
    | _, _ => none
theorem L.FnExactPostCut_ok : SpecOk Try.prog 10 L.FnExactPostCut_s := by
  refine SpecOk.of TDok mixed (T := L.FnExactPostCut_T) ?_ (ann := L.FnExactPostCut_ann) Try.func10 rfl (by decide +kernel) ?_ ?_ ?_ ?_
  · intro p hp
    simp only [L.FnExactPostCut_T, List.mem_cons, List.not_mem_nil, or_false] at hp
    rcases hp with rfl | rfl | rfl | rfl | rfl | rfl | rfl
    · exact L.szPost_ok
    · exact L.toPost_ok
    · exact S.PostCut_ok
    · exact I.PostCut_ok
    · exact L.eqPost_ok
    · exact L.markPost_ok
    · exact L.heldPost_ok
  · intro args h κ r hh
    simp only [L.FnExactPostCut_s] at hh
    split at hh
    · exact (L.FnExactPostCut_den _ _ _ _ κ).trans hh
    · cases hh
  · intro args h κ r hh
    simp only [L.FnExactPostCut_s] at hh ⊢
    split at hh
    · exact optC_law2 (F := fun (r : Bool) κ => κ (.bool r) []) (fun b κ r hb => ⟨_, _, hb, fun _ => rfl⟩) hh
    · cases hh
  · intro _ args h κ r hh
    simp only [L.FnExactPostCut_s] at hh
    split at hh
    · exact ⟨rfl, fun _ => rfl⟩
    · cases hh
  · intro _ args h κ r hh
    simp only [L.FnExactPostCut_s] at hh
    split at hh
    · rfl
    · cases hh



end Go.Proofs.Ytgpgifpblchjjaa
