/- Twins of the translated functions, with their proofs. Conditions: none. -/
import Derived.Test.YtgpgifpblchjjaaBzT2
set_option linter.unusedVariables false
set_option linter.unusedSimpArgs false
set_option linter.unusedSectionVars false
namespace Go.Proofs.Ytgpgifpblchjjaa
open D Go.RowKit
-- loop.example/guardsonnets/spec.DrawPostAsk
noncomputable def S.DrawPostAsk_T : List (Nat × D.Spec) := [(41, S.l20Open_s), (40, S.l20Post_s), (51, S.l20Rd_pick_s)]
def S.DrawPostAsk_ann : Nat → List Nat × List Nat
  | _ => ([], [])
noncomputable def S.DrawPostAsk_F (args : List V) (h : List E) (κ : V → List E → R) : R := funC TD (tableK S.DrawPostAsk_T) S.DrawPostAsk_ann (drawAny TD (tableP S.DrawPostAsk_T)) FUEL Try.f18 args h κ
noncomputable def S.DrawPostAsk_tree {α : Type} (code : List Int) (leaf0_ : Int × Int × (List Int) × (List Int) → α) (leaf1_ : Int × Nat × Nat × Int × (List Int) × (List Int) → α) (fail_ : α) : α :=
  (optC (S.l20Open_t code) (fun c_1 => (optC (S.l20Post_t c_1.fst c_1.snd 12) (fun c_2 => (sumC c_2 (fun c_3 => (optC (S.l20Rd_pick_t c_3.snd.fst c_3.snd.snd.fst (if 1 > (↑c_3.snd.snd.snd.fst.length : Int) then 1 else (↑c_3.snd.snd.snd.fst.length : Int))) (fun c_4 => (optC (S.l20Rd_pick_t c_4.snd.fst c_4.snd.snd 40) (fun c_5 => (leaf0_ (c_3.fst, IntKind.i64.wrap (c_4.fst + IntKind.i64.wrap (IntKind.i64.wrap (c_5.fst.tdiv 39) * 6)), c_3.snd.snd.snd.fst, c_3.snd.snd.snd.snd))) fail_)) fail_)) (fun c_3 => (optC (S.l20Rd_pick_t c_3.snd.snd.snd.fst c_3.snd.snd.snd.snd.fst (if 1 > (↑c_3.snd.snd.snd.snd.snd.fst.length : Int) then 1 else (↑c_3.snd.snd.snd.snd.snd.fst.length : Int))) (fun c_6 => (optC (S.l20Rd_pick_t c_6.snd.fst c_6.snd.snd 40) (fun c_7 => (leaf1_ (c_3.fst, c_3.snd.fst, c_3.snd.snd.fst, IntKind.i64.wrap (c_6.fst + IntKind.i64.wrap (IntKind.i64.wrap (c_7.fst.tdiv 39) * 6)), c_3.snd.snd.snd.snd.snd.fst, c_3.snd.snd.snd.snd.snd.snd))) fail_)) fail_)))) fail_)) fail_)
theorem S.DrawPostAsk_tree_nat {α γ : Type} (g : α → γ) (code : List Int) (leaf0_ : Int × Int × (List Int) × (List Int) → α) (leaf1_ : Int × Nat × Nat × Int × (List Int) × (List Int) → α) (fail_ : α) : g (S.DrawPostAsk_tree code leaf0_ leaf1_ fail_) = S.DrawPostAsk_tree code (fun d => g (leaf0_ d)) (fun d => g (leaf1_ d)) (g fail_) := by
  unfold S.DrawPostAsk_tree; simp only [apply_cnd g, apply_optC g, apply_sumC g]
noncomputable def S.DrawPostAsk_t (code : List Int) : Option ((Int × Int × (List Int) × (List Int)) ⊕ (Int × Nat × Nat × Int × (List Int) × (List Int))) := S.DrawPostAsk_tree code (fun d => some ((Sum.inl d))) (fun d => some ((Sum.inr d))) none
theorem S.DrawPostAsk_den (code : List Int) (κ : V → List E → R) : S.DrawPostAsk_F [.ro true (.ints .u8 code)] [] κ = optC (S.DrawPostAsk_t code) (fun (r : (Int × Int × (List Int) × (List Int)) ⊕ (Int × Nat × Nat × Int × (List Int) × (List Int))) => (sumC r (fun (r : Int × Int × (List Int) × (List Int)) => κ (.tup [(.agg [(.own 0), (.int .i64 r.1), (.own 1)]), (.int .i64 r.2.1)]) [.row (.ints .i64 r.2.2.1), .row (.ints .u8 r.2.2.2)]) (fun (r : Int × Nat × Nat × Int × (List Int) × (List Int)) => κ (.tup [(.agg [(.own 0), (.int .i64 r.1), (.sub 1 r.2.1 r.2.2.1)]), (.int .i64 r.2.2.2.1)]) [.row (.ints .i64 r.2.2.2.2.1), .row (.ints .u8 r.2.2.2.2.2)]))) none := by
  have hu : S.DrawPostAsk_F [.ro true (.ints .u8 code)] [] κ = S.DrawPostAsk_tree code (fun d => κ (.tup [(.agg [(.own 0), (.int .i64 d.1), (.own 1)]), (.int .i64 d.2.1)]) [.row (.ints .i64 d.2.2.1), .row (.ints .u8 d.2.2.2)]) (fun d => κ (.tup [(.agg [(.own 0), (.int .i64 d.1), (.sub 1 d.2.1 d.2.2.1)]), (.int .i64 d.2.2.2.1)]) [.row (.ints .i64 d.2.2.2.2.1), .row (.ints .u8 d.2.2.2.2.2)]) none := by
    kernel_rfl
  rw [hu]
  exact (S.DrawPostAsk_tree_nat (fun o => optC o (fun (r : (Int × Int × (List Int) × (List Int)) ⊕ (Int × Nat × Nat × Int × (List Int) × (List Int))) => (sumC r (fun (r : Int × Int × (List Int) × (List Int)) => κ (.tup [(.agg [(.own 0), (.int .i64 r.1), (.own 1)]), (.int .i64 r.2.1)]) [.row (.ints .i64 r.2.2.1), .row (.ints .u8 r.2.2.2)]) (fun (r : Int × Nat × Nat × Int × (List Int) × (List Int)) => κ (.tup [(.agg [(.own 0), (.int .i64 r.1), (.sub 1 r.2.1 r.2.2.1)]), (.int .i64 r.2.2.2.1)]) [.row (.ints .i64 r.2.2.2.2.1), .row (.ints .u8 r.2.2.2.2.2)]))) none) code (fun d => some ((Sum.inl d))) (fun d => some ((Sum.inr d))) none).symm
noncomputable def S.DrawPostAsk_s : D.Spec where
  keep := true
  pure := false
  add := true
  ds := [.int .u8]
  sp := fun args h κ => match args, h with
    | [.ro true (.ints .u8 code)], [] => optC (S.DrawPostAsk_t code) (fun (r : (Int × Int × (List Int) × (List Int)) ⊕ (Int × Nat × Nat × Int × (List Int) × (List Int))) => (sumC r (fun (r : Int × Int × (List Int) × (List Int)) => κ (.tup [(.agg [(.own 0), (.int .i64 r.1), (.own 1)]), (.int .i64 r.2.1)]) [.row (.ints .i64 r.2.2.1), .row (.ints .u8 r.2.2.2)]) (fun (r : Int × Nat × Nat × Int × (List Int) × (List Int)) => κ (.tup [(.agg [(.own 0), (.int .i64 r.1), (.sub 1 r.2.1 r.2.2.1)]), (.int .i64 r.2.2.2.1)]) [.row (.ints .i64 r.2.2.2.2.1), .row (.ints .u8 r.2.2.2.2.2)]))) none
    | _, _ => none
theorem S.DrawPostAsk_ok : SpecOk Try.prog 18 S.DrawPostAsk_s := by
  refine SpecOk.of TDok mixed (T := S.DrawPostAsk_T) ?_ (ann := S.DrawPostAsk_ann) Try.func18 rfl (by decide +kernel) ?_ ?_ ?_ ?_
  · intro p hp
    simp only [S.DrawPostAsk_T, List.mem_cons, List.not_mem_nil, or_false] at hp
    rcases hp with rfl | rfl | rfl
    · exact S.l20Open_ok
    · exact S.l20Post_ok
    · exact S.l20Rd_pick_ok
  · intro args h κ r hh
    simp only [S.DrawPostAsk_s] at hh
    split at hh
    · exact (S.DrawPostAsk_den _ κ).trans hh
    · cases hh
  · intro args h κ r hh
    simp only [S.DrawPostAsk_s] at hh ⊢
    split at hh
    · exact optC_law2 (F := fun (r : (Int × Int × (List Int) × (List Int)) ⊕ (Int × Nat × Nat × Int × (List Int) × (List Int))) κ => (sumC r (fun (r : Int × Int × (List Int) × (List Int)) => κ (.tup [(.agg [(.own 0), (.int .i64 r.1), (.own 1)]), (.int .i64 r.2.1)]) [.row (.ints .i64 r.2.2.1), .row (.ints .u8 r.2.2.2)]) (fun (r : Int × Nat × Nat × Int × (List Int) × (List Int)) => κ (.tup [(.agg [(.own 0), (.int .i64 r.1), (.sub 1 r.2.1 r.2.2.1)]), (.int .i64 r.2.2.2.1)]) [.row (.ints .i64 r.2.2.2.2.1), .row (.ints .u8 r.2.2.2.2.2)]))) (fun b κ r hb => by rcases b with b | b <;> exact ⟨_, _, hb, fun _ => rfl⟩) hh
    · cases hh
  · intro hh; cases hh
  · intro _ args h κ r hh
    simp only [S.DrawPostAsk_s] at hh
    split at hh
    · rfl
    · cases hh


-- loop.example/guardsonnets/impl.PostAsk
noncomputable def I.PostAsk_T : List (Nat × D.Spec) := [(12, I.PostOk_s), (52, I.placeIn_s), (42, I.LogPlaces_s), (50, I.eternalIn_s), (53, I.answeredIn_s), (54, I.LogOf_s)]
def I.PostAsk_ann : Nat → List Nat × List Nat
  | _ => ([], [])
noncomputable def I.PostAsk_F (args : List V) (h : List E) (κ : V → List E → R) : R := funC TD (tableK I.PostAsk_T) I.PostAsk_ann (drawAny TD (tableP I.PostAsk_T)) FUEL Try.f19 args h κ
noncomputable def I.PostAsk_tree {α : Type} (p0 : List Int) (p1 : Int) (p2 : List Int) (place : Int) (leaf0_ : Int × Bool × (List Int) × (List Int) → α) (fail_ : α) : α :=
  (optC (I.PostOk_t p0 p1 p2) (fun c_1 => (bif !c_1 then (leaf0_ (0, false, [], [])) else (optC (I.placeIn_t p0 place) (fun c_2 => (bif !c_2 then (leaf0_ (0, false, [], [])) else (bif (↑p2.length : Int) == 120 then (leaf0_ (0, false, [], [])) else (optC (I.LogPlaces_t p2) (fun c_3 => (bif small ([] ++ p0).length then (optC (I.eternalIn_t p0) (fun c_4 => (optC (I.answeredIn_t p0 c_4 p1 place) (fun c_5 => (bif small (c_3.snd ++ [place]).length then (optC (I.LogOf_t (c_3.snd ++ [place])) (fun c_6 => (leaf0_ (c_5, true, [] ++ p0, c_6))) fail_) else fail_)) fail_)) fail_) else fail_)) fail_)))) fail_))) fail_)
theorem I.PostAsk_tree_nat {α γ : Type} (g : α → γ) (p0 : List Int) (p1 : Int) (p2 : List Int) (place : Int) (leaf0_ : Int × Bool × (List Int) × (List Int) → α) (fail_ : α) : g (I.PostAsk_tree p0 p1 p2 place leaf0_ fail_) = I.PostAsk_tree p0 p1 p2 place (fun d => g (leaf0_ d)) (g fail_) := by
  unfold I.PostAsk_tree; simp only [apply_cnd g, apply_optC g, apply_sumC g]
noncomputable def I.PostAsk_t (p0 : List Int) (p1 : Int) (p2 : List Int) (place : Int) : Option (Int × Bool × (List Int) × (List Int)) := I.PostAsk_tree p0 p1 p2 place (fun d => some d) none
theorem I.PostAsk_den (p0 : List Int) (p1 : Int) (p2 : List Int) (place : Int) (κ : V → List E → R) : I.PostAsk_F [.agg [.ro false (.ints .i64 p0), .int .i64 p1, .ro false (.ints .u8 p2)], .int .i64 place] [] κ = optC (I.PostAsk_t p0 p1 p2 place) (fun (r : Int × Bool × (List Int) × (List Int)) => κ (.tup [(.agg [(.own 0), (.int .i64 r.1), (.own 1)]), (.bool r.2.1)]) [.row (.ints .i64 r.2.2.1), .row (.ints .u8 r.2.2.2)]) none := by
  have hu : I.PostAsk_F [.agg [.ro false (.ints .i64 p0), .int .i64 p1, .ro false (.ints .u8 p2)], .int .i64 place] [] κ = I.PostAsk_tree p0 p1 p2 place (fun d => κ (.tup [(.agg [(.own 0), (.int .i64 d.1), (.own 1)]), (.bool d.2.1)]) [.row (.ints .i64 d.2.2.1), .row (.ints .u8 d.2.2.2)]) none := by
    kernel_rfl
  rw [hu]
  exact (I.PostAsk_tree_nat (fun o => optC o (fun (r : Int × Bool × (List Int) × (List Int)) => κ (.tup [(.agg [(.own 0), (.int .i64 r.1), (.own 1)]), (.bool r.2.1)]) [.row (.ints .i64 r.2.2.1), .row (.ints .u8 r.2.2.2)]) none) p0 p1 p2 place (fun d => some d) none).symm
noncomputable def I.PostAsk_s : D.Spec where
  keep := false
  pure := false
  add := true
  ds := [.tuple #[1, 0, 2], .invalid]
  sp := fun args h κ => match args, h with
    | [.agg [.ro false (.ints .i64 p0), .int .i64 p1, .ro false (.ints .u8 p2)], .int .i64 place], [] => optC (I.PostAsk_t p0 p1 p2 place) (fun (r : Int × Bool × (List Int) × (List Int)) => κ (.tup [(.agg [(.own 0), (.int .i64 r.1), (.own 1)]), (.bool r.2.1)]) [.row (.ints .i64 r.2.2.1), .row (.ints .u8 r.2.2.2)]) none
    | _, _ => none
theorem I.PostAsk_ok : SpecOk Try.prog 19 I.PostAsk_s := by
  refine SpecOk.of TDok mixed (T := I.PostAsk_T) ?_ (ann := I.PostAsk_ann) Try.func19 rfl (by decide +kernel) ?_ ?_ ?_ ?_
  · intro p hp
    simp only [I.PostAsk_T, List.mem_cons, List.not_mem_nil, or_false] at hp
    rcases hp with rfl | rfl | rfl | rfl | rfl | rfl
    · exact I.PostOk_ok
    · exact I.placeIn_ok
    · exact I.LogPlaces_ok
    · exact I.eternalIn_ok
    · exact I.answeredIn_ok
    · exact I.LogOf_ok
  · intro args h κ r hh
    simp only [I.PostAsk_s] at hh
    split at hh
    · exact (I.PostAsk_den _ _ _ _ κ).trans hh
    · cases hh
  · intro args h κ r hh
    simp only [I.PostAsk_s] at hh ⊢
    split at hh
    · exact optC_law2 (F := fun (r : Int × Bool × (List Int) × (List Int)) κ => κ (.tup [(.agg [(.own 0), (.int .i64 r.1), (.own 1)]), (.bool r.2.1)]) [.row (.ints .i64 r.2.2.1), .row (.ints .u8 r.2.2.2)]) (fun b κ r hb => ⟨_, _, hb, fun _ => rfl⟩) hh
    · cases hh
  · intro hh; cases hh
  · intro _ args h κ r hh
    simp only [I.PostAsk_s] at hh
    split at hh
    · rfl
    · cases hh


-- loop.example/guardsonnets/spec.PostAsk
noncomputable def S.PostAsk_T : List (Nat × D.Spec) := [(13, S.PostOk_s), (55, S.l1In_s), (25, S.LogPlaces_s), (47, S.l17Last_s), (56, S.LogOf_s)]
def S.PostAsk_ann : Nat → List Nat × List Nat
  | _ => ([], [])
noncomputable def S.PostAsk_F (args : List V) (h : List E) (κ : V → List E → R) : R := funC TD (tableK S.PostAsk_T) S.PostAsk_ann (drawAny TD (tableP S.PostAsk_T)) FUEL Try.f20 args h κ
noncomputable def S.PostAsk_tree {α : Type} (p0 : List Int) (p1 : Int) (p2 : List Int) (place : Int) (leaf0_ : Int × Bool × (List Int) × (List Int) → α) (fail_ : α) : α :=
  (optC (S.PostOk_t p0 p1 p2) (fun c_1 => (bif !c_1 then (leaf0_ (0, false, [], [])) else (optC (S.l1In_t place 0 (IntKind.i64.wrap ((↑p0.length : Int) - 1))) (fun c_2 => (bif !c_2 then (leaf0_ (0, false, [], [])) else (bif (↑p2.length : Int) == 120 then (leaf0_ (0, false, [], [])) else (optC (S.LogPlaces_t p2) (fun c_3 => (bif small (c_3.snd ++ [place]).length then (bif small ([] ++ p0).length then (optC (S.l17Last_t p0 (c_3.snd ++ [place])) (fun c_4 => (optC (S.LogOf_t (c_3.snd ++ [place])) (fun c_5 => (leaf0_ (c_4, true, [] ++ p0, c_5))) fail_)) fail_) else fail_) else fail_)) fail_)))) fail_))) fail_)
theorem S.PostAsk_tree_nat {α γ : Type} (g : α → γ) (p0 : List Int) (p1 : Int) (p2 : List Int) (place : Int) (leaf0_ : Int × Bool × (List Int) × (List Int) → α) (fail_ : α) : g (S.PostAsk_tree p0 p1 p2 place leaf0_ fail_) = S.PostAsk_tree p0 p1 p2 place (fun d => g (leaf0_ d)) (g fail_) := by
  unfold S.PostAsk_tree; simp only [apply_cnd g, apply_optC g, apply_sumC g]
noncomputable def S.PostAsk_t (p0 : List Int) (p1 : Int) (p2 : List Int) (place : Int) : Option (Int × Bool × (List Int) × (List Int)) := S.PostAsk_tree p0 p1 p2 place (fun d => some d) none
theorem S.PostAsk_den (p0 : List Int) (p1 : Int) (p2 : List Int) (place : Int) (κ : V → List E → R) : S.PostAsk_F [.agg [.ro false (.ints .i64 p0), .int .i64 p1, .ro false (.ints .u8 p2)], .int .i64 place] [] κ = optC (S.PostAsk_t p0 p1 p2 place) (fun (r : Int × Bool × (List Int) × (List Int)) => κ (.tup [(.agg [(.own 0), (.int .i64 r.1), (.own 1)]), (.bool r.2.1)]) [.row (.ints .i64 r.2.2.1), .row (.ints .u8 r.2.2.2)]) none := by
  have hu : S.PostAsk_F [.agg [.ro false (.ints .i64 p0), .int .i64 p1, .ro false (.ints .u8 p2)], .int .i64 place] [] κ = S.PostAsk_tree p0 p1 p2 place (fun d => κ (.tup [(.agg [(.own 0), (.int .i64 d.1), (.own 1)]), (.bool d.2.1)]) [.row (.ints .i64 d.2.2.1), .row (.ints .u8 d.2.2.2)]) none := by
    kernel_rfl
  rw [hu]
  exact (S.PostAsk_tree_nat (fun o => optC o (fun (r : Int × Bool × (List Int) × (List Int)) => κ (.tup [(.agg [(.own 0), (.int .i64 r.1), (.own 1)]), (.bool r.2.1)]) [.row (.ints .i64 r.2.2.1), .row (.ints .u8 r.2.2.2)]) none) p0 p1 p2 place (fun d => some d) none).symm
noncomputable def S.PostAsk_s : D.Spec where
  keep := false
  pure := false
  add := true
  ds := [.tuple #[1, 0, 2], .invalid]
  sp := fun args h κ => match args, h with
    | [.agg [.ro false (.ints .i64 p0), .int .i64 p1, .ro false (.ints .u8 p2)], .int .i64 place], [] => optC (S.PostAsk_t p0 p1 p2 place) (fun (r : Int × Bool × (List Int) × (List Int)) => κ (.tup [(.agg [(.own 0), (.int .i64 r.1), (.own 1)]), (.bool r.2.1)]) [.row (.ints .i64 r.2.2.1), .row (.ints .u8 r.2.2.2)]) none
    | _, _ => none
theorem S.PostAsk_ok : SpecOk Try.prog 20 S.PostAsk_s := by
  refine SpecOk.of TDok mixed (T := S.PostAsk_T) ?_ (ann := S.PostAsk_ann) Try.func20 rfl (by decide +kernel) ?_ ?_ ?_ ?_
  · intro p hp
    simp only [S.PostAsk_T, List.mem_cons, List.not_mem_nil, or_false] at hp
    rcases hp with rfl | rfl | rfl | rfl | rfl
    · exact S.PostOk_ok
    · exact S.l1In_ok
    · exact S.LogPlaces_ok
    · exact S.l17Last_ok
    · exact S.LogOf_ok
  · intro args h κ r hh
    simp only [S.PostAsk_s] at hh
    split at hh
    · exact (S.PostAsk_den _ _ _ _ κ).trans hh
    · cases hh
  · intro args h κ r hh
    simp only [S.PostAsk_s] at hh ⊢
    split at hh
    · exact optC_law2 (F := fun (r : Int × Bool × (List Int) × (List Int)) κ => κ (.tup [(.agg [(.own 0), (.int .i64 r.1), (.own 1)]), (.bool r.2.1)]) [.row (.ints .i64 r.2.2.1), .row (.ints .u8 r.2.2.2)]) (fun b κ r hb => ⟨_, _, hb, fun _ => rfl⟩) hh
    · cases hh
  · intro hh; cases hh
  · intro _ args h κ r hh
    simp only [S.PostAsk_s] at hh
    split at hh
    · rfl
    · cases hh


-- loop.example/guardsonnets/laws.sizeOf
noncomputable def L.sizeOf_T : List (Nat × D.Spec) := []
def L.sizeOf_ann : Nat → List Nat × List Nat
  | 2 => ([0, 3], [3])
  | _ => ([], [])
noncomputable def L.sizeOf_F (args : List V) (h : List E) (κ : V → List E → R) : R := funC TD (tableK L.sizeOf_T) L.sizeOf_ann (drawAny TD (tableP L.sizeOf_T)) FUEL Try.f21 args h κ
noncomputable def L.sizeOf_L2 (n : Nat) (σ : St) (k : X → St → R) : R := iterC 0 (fun σ k => denC TD (tableK L.sizeOf_T) L.sizeOf_ann (drawAny TD (tableP L.sizeOf_T)) 0 FUEL ((findLoop 2 (Try.f21.body.getD .skip)).getD .skip) σ k) [0, 3] [3] n σ k
noncomputable def L.sizeOf_k2 (κ : V → List E → R) : X → St → R := (afterC TD (tableK L.sizeOf_T) L.sizeOf_ann (drawAny TD (tableP L.sizeOf_T)) 0 FUEL 2 (Try.f21.body.getD .skip) (finC TD 0 Try.f21 κ)).getD (fun _ _ => none)
noncomputable def L.sizeOf_step2 {α : Type} (x0 : Int) (x3 : Int) (next_ : Int × Int → α) (out0_ : Int → α) (fail_ : α) : α :=
  (bif decide (x0 > 0) then (next_ (IntKind.i64.wrap (x0.tdiv 2), IntKind.i64.wrap (x3 + x0.tmod 2))) else (out0_ x3))
theorem L.sizeOf_step2_nat {α γ : Type} (g : α → γ) (x0 : Int) (x3 : Int) (next_ : Int × Int → α) (out0_ : Int → α) (fail_ : α) : g (L.sizeOf_step2 x0 x3 next_ out0_ fail_) = L.sizeOf_step2 x0 x3 (fun s => g (next_ s)) (fun d => g (out0_ d)) (g fail_) := by
  unfold L.sizeOf_step2; simp only [apply_cnd g, apply_optC g, apply_sumC g]
noncomputable def L.sizeOf_run2 : Nat → Int × Int → Option (Int)
  | 0, _ => none
  | n + 1, s_ => L.sizeOf_step2 s_.1 s_.2 (L.sizeOf_run2 n) (fun d => some d) none
theorem L.sizeOf_L2_run (n : Nat) (s_ : Int × Int) (k : X → St → R) : L.sizeOf_L2 n { n := 13, t := [(0, (.int .i64 s_.1)), (3, (.int .i64 s_.2))], h := [] } k = optC (L.sizeOf_run2 n s_) (fun (r : Int) => k (.exit 0) { n := 13, t := [(3, (.int .i64 r))], h := [] }) none := by
  induction n generalizing s_ with
  | zero => rfl
  | succ n ih =>
    have hu : L.sizeOf_L2 (n + 1) { n := 13, t := [(0, (.int .i64 s_.1)), (3, (.int .i64 s_.2))], h := [] } k = L.sizeOf_step2 s_.1 s_.2 (fun s_ => L.sizeOf_L2 n { n := 13, t := [(0, (.int .i64 s_.1)), (3, (.int .i64 s_.2))], h := [] } k) (fun d => k (.exit 0) { n := 13, t := [(3, (.int .i64 d))], h := [] }) none := by
      kernel_rfl
    have hs : (fun s_ : Int × Int => L.sizeOf_L2 n { n := 13, t := [(0, (.int .i64 s_.1)), (3, (.int .i64 s_.2))], h := [] } k) = fun s_ => optC (L.sizeOf_run2 n s_) (fun (r : Int) => k (.exit 0) { n := 13, t := [(3, (.int .i64 r))], h := [] }) none := funext ih
    rw [hu, hs]
    exact (L.sizeOf_step2_nat (fun o => optC o (fun (r : Int) => k (.exit 0) { n := 13, t := [(3, (.int .i64 r))], h := [] }) none) s_.1 s_.2 (L.sizeOf_run2 n) (fun d => some d) none).symm
noncomputable def L.sizeOf_tree {α : Type} (n_ : Int) (leaf0_ : Int → α) (fail_ : α) : α :=
  (optC (L.sizeOf_run2 FUEL (n_, 0)) (fun qy_1 => (leaf0_ qy_1)) fail_)
theorem L.sizeOf_tree_nat {α γ : Type} (g : α → γ) (n_ : Int) (leaf0_ : Int → α) (fail_ : α) : g (L.sizeOf_tree n_ leaf0_ fail_) = L.sizeOf_tree n_ (fun d => g (leaf0_ d)) (g fail_) := by
  unfold L.sizeOf_tree; simp only [apply_cnd g, apply_optC g, apply_sumC g]
noncomputable def L.sizeOf_t (n_ : Int) : Option (Int) := L.sizeOf_tree n_ (fun d => some d) none
theorem L.sizeOf_den (n_ : Int) (κ : V → List E → R) : L.sizeOf_F [.int .i64 n_] [] κ = optC (L.sizeOf_t n_) (fun (r : Int) => κ (.int .i64 r) []) none := by
  have hu : L.sizeOf_F [.int .i64 n_] [] κ = L.sizeOf_tree n_ (fun d => κ (.int .i64 d) []) none := by
    refine Eq.trans (show L.sizeOf_F [.int .i64 n_] [] κ = (L.sizeOf_L2 FUEL { n := 13, t := [(0, (.int .i64 n_)), (3, (.int .i64 0))], h := [] } (L.sizeOf_k2 κ)) by kernel_rfl) ?_
    refine (L.sizeOf_L2_run FUEL (n_, 0) (L.sizeOf_k2 κ)).trans (optC_congr (fun qy_1 => ?_))
    kernel_rfl
  rw [hu]
  exact (L.sizeOf_tree_nat (fun o => optC o (fun (r : Int) => κ (.int .i64 r) []) none) n_ (fun d => some d) none).symm
noncomputable def L.sizeOf_s : D.Spec where
  keep := false
  pure := true
  add := true
  ds := [.invalid]
  sp := fun args h κ => match args, h with
    | [.int .i64 n_], [] => optC (L.sizeOf_t n_) (fun (r : Int) => κ (.int .i64 r) []) none
    | _, _ => none
theorem L.sizeOf_ok : SpecOk Try.prog 21 L.sizeOf_s := by
  refine SpecOk.of TDok mixed (T := L.sizeOf_T) ?_ (ann := L.sizeOf_ann) Try.func21 rfl (by decide +kernel) ?_ ?_ ?_ ?_
  · intro p hp; cases hp
  · intro args h κ r hh
    simp only [L.sizeOf_s] at hh
    split at hh
    · exact (L.sizeOf_den _ κ).trans hh
    · cases hh
  · intro args h κ r hh
    simp only [L.sizeOf_s] at hh ⊢
    split at hh
    · exact optC_law2 (F := fun (r : Int) κ => κ (.int .i64 r) []) (fun b κ r hb => ⟨_, _, hb, fun _ => rfl⟩) hh
    · cases hh
  · intro _ args h κ r hh
    simp only [L.sizeOf_s] at hh
    split at hh
    · exact ⟨rfl, fun _ => rfl⟩
    · cases hh
  · intro _ args h κ r hh
    simp only [L.sizeOf_s] at hh
    split at hh
    · rfl
    · cases hh


-- loop.example/guardsonnets/laws.FnPostAsk
noncomputable def L.FnPostAsk_T : List (Nat × D.Spec) := [(18, S.DrawPostAsk_s), (19, I.PostAsk_s), (20, S.PostAsk_s), (15, L.samePost_s), (17, L.alive_s), (12, I.PostOk_s), (21, L.sizeOf_s)]
def L.FnPostAsk_ann : Nat → List Nat × List Nat
  | _ => ([], [])
noncomputable def L.FnPostAsk_F (args : List V) (h : List E) (κ : V → List E → R) : R := funC TD (tableK L.FnPostAsk_T) L.FnPostAsk_ann (drawAny TD (tableP L.FnPostAsk_T)) FUEL Try.f4 args h κ
noncomputable def L.FnPostAsk_tree {α : Type} (code : List Int) (leaf0_ : Bool → α) (fail_ : α) : α :=
  (bif decide ((↑code.length : Int) > 1048576) then (leaf0_ true) else (optC (S.DrawPostAsk_t code) (fun c_1 => (sumC c_1 (fun c_2 => (optC (I.PostAsk_t c_2.snd.snd.fst c_2.fst c_2.snd.snd.snd c_2.snd.fst) (fun c_3 => (optC (S.PostAsk_t c_2.snd.snd.fst c_2.fst c_2.snd.snd.snd c_2.snd.fst) (fun c_4 => (bif !c_3.snd.fst == c_4.snd.fst then (leaf0_ false) else (optC (L.samePost_t c_3.snd.snd.fst c_3.fst c_3.snd.snd.snd c_4.snd.snd.fst c_4.fst c_4.snd.snd.snd) (fun c_5 => (bif !c_5 then (leaf0_ false) else (bif !c_3.snd.fst then (optC (L.alive_t) (fun c_6 => (leaf0_ c_6)) fail_) else (optC (I.PostOk_t c_3.snd.snd.fst c_3.fst c_3.snd.snd.snd) (fun c_7 => (bif c_7 then (bif decide (c_2.snd.fst < 0) then fail_ else (bif (c_3.fst.fdiv (2 ^ min c_2.snd.fst.toNat IntKind.i64.bits)).tmod 2 == 1 then (optC (L.sizeOf_t c_3.fst) (fun c_8 => (optC (L.sizeOf_t c_2.fst) (fun c_9 => (bif c_8 == c_9 then (bif (↑c_3.snd.snd.snd.length : Int) == IntKind.i64.wrap ((↑c_2.snd.snd.snd.length : Int) + 3) then (bif decide ((↑c_2.snd.snd.snd.length : Int) ≤ (↑c_3.snd.snd.snd.length : Int)) then (leaf0_ (strEq (bytesOf (List.take (↑c_2.snd.snd.snd.length : Int).toNat (List.drop 0 c_3.snd.snd.snd))) (bytesOf c_2.snd.snd.snd))) else fail_) else (leaf0_ false)) else (leaf0_ false))) fail_)) fail_) else (leaf0_ false))) else (leaf0_ false))) fail_)))) fail_))) fail_)) fail_)) (fun c_2 => (optC (I.PostAsk_t c_2.snd.snd.snd.snd.fst c_2.fst (List.take c_2.snd.snd.fst (List.drop c_2.snd.fst c_2.snd.snd.snd.snd.snd)) c_2.snd.snd.snd.fst) (fun c_10 => (optC (S.PostAsk_t c_2.snd.snd.snd.snd.fst c_2.fst (List.take c_2.snd.snd.fst (List.drop c_2.snd.fst c_2.snd.snd.snd.snd.snd)) c_2.snd.snd.snd.fst) (fun c_11 => (bif !c_10.snd.fst == c_11.snd.fst then (leaf0_ false) else (optC (L.samePost_t c_10.snd.snd.fst c_10.fst c_10.snd.snd.snd c_11.snd.snd.fst c_11.fst c_11.snd.snd.snd) (fun c_12 => (bif !c_12 then (leaf0_ false) else (bif !c_10.snd.fst then (optC (L.alive_t) (fun c_13 => (leaf0_ c_13)) fail_) else (optC (I.PostOk_t c_10.snd.snd.fst c_10.fst c_10.snd.snd.snd) (fun c_14 => (bif c_14 then (bif decide (c_2.snd.snd.snd.fst < 0) then fail_ else (bif (c_10.fst.fdiv (2 ^ min c_2.snd.snd.snd.fst.toNat IntKind.i64.bits)).tmod 2 == 1 then (optC (L.sizeOf_t c_10.fst) (fun c_15 => (optC (L.sizeOf_t c_2.fst) (fun c_16 => (bif c_15 == c_16 then (bif (↑c_10.snd.snd.snd.length : Int) == IntKind.i64.wrap ((↑c_2.snd.snd.fst : Int) + 3) then (bif decide ((↑c_2.snd.snd.fst : Int) ≤ (↑c_10.snd.snd.snd.length : Int)) then (leaf0_ (strEq (bytesOf (List.take (↑c_2.snd.snd.fst : Int).toNat (List.drop 0 c_10.snd.snd.snd))) (bytesOf (List.take c_2.snd.snd.fst (List.drop c_2.snd.fst c_2.snd.snd.snd.snd.snd))))) else fail_) else (leaf0_ false)) else (leaf0_ false))) fail_)) fail_) else (leaf0_ false))) else (leaf0_ false))) fail_)))) fail_))) fail_)) fail_)))) fail_))
theorem L.FnPostAsk_tree_nat {α γ : Type} (g : α → γ) (code : List Int) (leaf0_ : Bool → α) (fail_ : α) : g (L.FnPostAsk_tree code leaf0_ fail_) = L.FnPostAsk_tree code (fun d => g (leaf0_ d)) (g fail_) := by
  unfold L.FnPostAsk_tree; simp only [apply_cnd g, apply_optC g, apply_sumC g]
noncomputable def L.FnPostAsk_t (code : List Int) : Option (Bool) := L.FnPostAsk_tree code (fun d => some d) none
theorem L.FnPostAsk_den (code : List Int) (κ : V → List E → R) : L.FnPostAsk_F [.ro true (.ints .u8 code)] [] κ = optC (L.FnPostAsk_t code) (fun (r : Bool) => κ (.bool r) []) none := by
  have hu : L.FnPostAsk_F [.ro true (.ints .u8 code)] [] κ = L.FnPostAsk_tree code (fun d => κ (.bool d) []) none := by
    kernel_rfl
  rw [hu]
  exact (L.FnPostAsk_tree_nat (fun o => optC o (fun (r : Bool) => κ (.bool r) []) none) code (fun d => some d) none).symm
noncomputable def L.FnPostAsk_s : D.Spec where
  keep := true
  pure := true
  add := true
  ds := [.int .u8]
  sp := fun args h κ => match args, h with
    | [.ro true (.ints .u8 code)], [] => optC (L.FnPostAsk_t code) (fun (r : Bool) => κ (.bool r) []) none
    | _, _ => none
theorem L.FnPostAsk_ok : SpecOk Try.prog 4 L.FnPostAsk_s := by
  refine SpecOk.of TDok mixed (T := L.FnPostAsk_T) ?_ (ann := L.FnPostAsk_ann) Try.func4 rfl (by decide +kernel) ?_ ?_ ?_ ?_
  · intro p hp
    simp only [L.FnPostAsk_T, List.mem_cons, List.not_mem_nil, or_false] at hp
    rcases hp with rfl | rfl | rfl | rfl | rfl | rfl | rfl
    · exact S.DrawPostAsk_ok
    · exact I.PostAsk_ok
    · exact S.PostAsk_ok
    · exact L.samePost_ok
    · exact L.alive_ok
    · exact I.PostOk_ok
    · exact L.sizeOf_ok
  · intro args h κ r hh
    simp only [L.FnPostAsk_s] at hh
    split at hh
    · exact (L.FnPostAsk_den _ κ).trans hh
    · cases hh
  · intro args h κ r hh
    simp only [L.FnPostAsk_s] at hh ⊢
    split at hh
    · exact optC_law2 (F := fun (r : Bool) κ => κ (.bool r) []) (fun b κ r hb => ⟨_, _, hb, fun _ => rfl⟩) hh
    · cases hh
  · intro _ args h κ r hh
    simp only [L.FnPostAsk_s] at hh
    split at hh
    · exact ⟨rfl, fun _ => rfl⟩
    · cases hh
  · intro _ args h κ r hh
    simp only [L.FnPostAsk_s] at hh
    split at hh
    · rfl
    · cases hh



end Go.Proofs.Ytgpgifpblchjjaa
