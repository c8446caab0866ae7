/- Twins of the translated functions, with their proofs. Conditions: none. -/
import Derived.Test.YtgpgifpblchjjaaBzT2
set_option linter.unusedVariables false
set_option linter.unusedSimpArgs false
set_option linter.unusedSectionVars false
namespace Go.Proofs.Ytgpgifpblchjjaa
open D Go.RowKit
-- loop.example/guardsonnets/spec.DrawPostAsk
noncomputable def S.DrawPostAsk_T : List (Nat × D.Spec) := [(41, S.l20Open_s), (40, S.l20Post_s), (51, S.l20Rd_pick_s)]
def S.DrawPostAsk_ann : Nat → List Nat × List Nat
  | _ => ([], [])
noncomputable def S.DrawPostAsk_F (args : List V) (h : List E) (κ : V → List E → R) : R := funC TD (tableK S.DrawPostAsk_T) S.DrawPostAsk_ann (drawAny TD (tableP S.DrawPostAsk_T)) FUEL Try.f18 args h κ
noncomputable def S.DrawPostAsk_tree {α : Type} (code : List Int) (leaf0_ : Int × Int × (List Int) × (List Int) → α) (leaf1_ : Int × Nat × Nat × Int × (List Int) × (List Int) → α) (fail_ : α) : α :=
  (optC (S.l20Open_t code) (fun c_1 => (optC (S.l20Post_t c_1.fst c_1.snd 12) (fun c_2 => (sumC c_2 (fun c_3 => (optC (S.l20Rd_pick_t c_3.snd.fst c_3.snd.snd.fst (if 1 > (↑c_3.snd.snd.snd.fst.length : Int) then 1 else (↑c_3.snd.snd.snd.fst.length : Int))) (fun c_4 => (optC (S.l20Rd_pick_t c_4.snd.fst c_4.snd.snd 40) (fun c_5 => (leaf0_ (c_3.fst, IntKind.i64.wrap (c_4.fst + IntKind.i64.wrap (IntKind.i64.wrap (c_5.fst.tdiv 39) * 6)), c_3.snd.snd.snd.fst, c_3.snd.snd.snd.snd))) fail_)) fail_)) (fun c_3 => (optC (S.l20Rd_pick_t c_3.snd.snd.snd.fst c_3.snd.snd.snd.snd.fst (if 1 > (↑c_3.snd.snd.snd.snd.snd.fst.length : Int) then 1 else (↑c_3.snd.snd.snd.snd.snd.fst.length : Int))) (fun c_6 => (optC (S.l20Rd_pick_t c_6.snd.fst c_6.snd.snd 40) (fun c_7 => (leaf1_ (c_3.fst, c_3.snd.fst, c_3.snd.snd.fst, IntKind.i64.wrap (c_6.fst + IntKind.i64.wrap (IntKind.i64.wrap (c_7.fst.tdiv 39) * 6)), c_3.snd.snd.snd.snd.snd.fst, c_3.snd.snd.snd.snd.snd.snd))) fail_)) fail_)))) fail_)) fail_)
theorem S.DrawPostAsk_tree_nat {α γ : Type} (g : α → γ) (code : List Int) (leaf0_ : Int × Int × (List Int) × (List Int) → α) (leaf1_ : Int × Nat × Nat × Int × (List Int) × (List Int) → α) (fail_ : α) : g (S.DrawPostAsk_tree code leaf0_ leaf1_ fail_) = S.DrawPostAsk_tree code (fun d => g (leaf0_ d)) (fun d => g (leaf1_ d)) (g fail_) := by
  unfold S.DrawPostAsk_tree; simp only [apply_cnd g, apply_optC g, apply_sumC g]
noncomputable def S.DrawPostAsk_t (code : List Int) : Option ((Int × Int × (List Int) × (List Int)) ⊕ (Int × Nat × Nat × Int × (List Int) × (List Int))) := S.DrawPostAsk_tree code (fun d => some ((Sum.inl d))) (fun d => some ((Sum.inr d))) none
theorem S.DrawPostAsk_den (code : List Int) (κ : V → List E → R) : S.DrawPostAsk_F [.ro true (.ints .u8 code)] [] κ = optC (S.DrawPostAsk_t code) (fun (r : (Int × Int × (List Int) × (List Int)) ⊕ (Int × Nat × Nat × Int × (List Int) × (List Int))) => (sumC r (fun (r : Int × Int × (List Int) × (List Int)) => κ (.tup [(.agg [(.own 0), (.int .i64 r.1), (.own 1)]), (.int .i64 r.2.1)]) [.row (.ints .i64 r.2.2.1), .row (.ints .u8 r.2.2.2)]) (fun (r : Int × Nat × Nat × Int × (List Int) × (List Int)) => κ (.tup [(.agg [(.own 0), (.int .i64 r.1), (.sub 1 r.2.1 r.2.2.1)]), (.int .i64 r.2.2.2.1)]) [.row (.ints .i64 r.2.2.2.2.1), .row (.ints .u8 r.2.2.2.2.2)]))) none := by
  have hu : S.DrawPostAsk_F [.ro true (.ints .u8 code)] [] κ = S.DrawPostAsk_tree code (fun d => κ (.tup [(.agg [(.own 0), (.int .i64 d.1), (.own 1)]), (.int .i64 d.2.1)]) [.row (.ints .i64 d.2.2.1), .row (.ints .u8 d.2.2.2)]) (fun d => κ (.tup [(.agg [(.own 0), (.int .i64 d.1), (.sub 1 d.2.1 d.2.2.1)]), (.int .i64 d.2.2.2.1)]) [.row (.ints .i64 d.2.2.2.2.1), .row (.ints .u8 d.2.2.2.2.2)]) none := by
    kernel_rfl
  rw [hu]
  exact (S.DrawPostAsk_tree_nat (fun o => optC o (fun (r : (Int × Int × (List Int) × (List Int)) ⊕ (Int × Nat × Nat × Int × (List Int) × (List Int))) => (sumC r (fun (r : Int × Int × (List Int) × (List Int)) => κ (.tup [(.agg [(.own 0), (.int .i64 r.1), (.own 1)]), (.int .i64 r.2.1)]) [.row (.ints .i64 r.2.2.1), .row (.ints .u8 r.2.2.2)]) (fun (r : Int × Nat × Nat × Int × (List Int) × (List Int)) => κ (.tup [(.agg [(.own 0), (.int .i64 r.1), (.sub 1 r.2.1 r.2.2.1)]), (.int .i64 r.2.2.2.1)]) [.row (.ints .i64 r.2.2.2.2.1), .row (.ints .u8 r.2.2.2.2.2)]))) none) code (fun d => some ((Sum.inl d))) (fun d => some ((Sum.inr d))) none).symm
noncomputable def S.DrawPostAsk_s : D.Spec where
  keep := true
  pure := false
  add := true
  ds := [.int .u8]
  sp := fun args h κ => match args, h with
    | [.ro true (.ints .u8 code)], [] => optC (S.DrawPostAsk_t code) (fun (r : (Int × Int × (List Int) × (List Int)) ⊕ (Int × Nat × Nat × Int × (List Int) × (List Int))) => (sumC r (fun (r : Int × Int × (List Int) × (List Int)) => κ (.tup [(.agg [(.own 0), (.int .i64 r.1), (.own 1)]), (.int .i64 r.2.1)]) [.row (.ints .i64 r.2.2.1), .row (.ints .u8 r.2.2.2)]) (fun (r : Int × Nat × Nat × Int × (List Int) × (List Int)) => κ (.tup [(.agg [(.own 0), (.int .i64 r.1), (.sub 1 r.2.1 r.2.2.1)]), (.int .i64 r.2.2.2.1)]) [.row (.ints .i64 r.2.2.2.2.1), .row (.ints .u8 r.2.2.2.2.2)]))) none
    | _, _ => none
theorem S.DrawPostAsk_ok : SpecOk Try.prog 18 S.DrawPostAsk_s := by
  refine SpecOk.of TDok mixed (T := S.DrawPostAsk_T) ?_ (ann := S.DrawPostAsk_ann) Try.func18 rfl (by decide +kernel) ?_ ?_ ?_ ?_
  · intro p hp
    simp only [S.DrawPostAsk_T, List.mem_cons, List.not_mem_nil, or_false] at hp
    rcases hp with rfl | rfl | rfl
    · exact S.l20Open_ok
    · exact S.l20Post_ok
    · exact S.l20Rd_pick_ok
  · intro args h κ r hh
    simp only [S.DrawPostAsk_s] at hh
    split at hh
    · exact (S.DrawPostAsk_den _ κ).trans hh
    · cases hh
  · intro args h κ r hh
    simp only [S.DrawPostAsk_s] at hh ⊢
    split at hh
    · exact optC_law2 (F := fun (r : (Int × Int × (List Int) × (List Int)) ⊕ (Int × Nat × Nat × Int × (List Int) × (List Int))) κ => (sumC r (fun (r : Int × Int × (List Int) × (List Int)) => κ (.tup [(.agg [(.own 0), (.int .i64 r.1), (.own 1)]), (.int .i64 r.2.1)]) [.row (.ints .i64 r.2.2.1), .row (.ints .u8 r.2.2.2)]) (fun (r : Int × Nat × Nat × Int × (List Int) × (List Int)) => κ (.tup [(.agg [(.own 0), (.int .i64 r.1), (.sub 1 r.2.1 r.2.2.1)]), (.int .i64 r.2.2.2.1)]) [.row (.ints .i64 r.2.2.2.2.1), .row (.ints .u8 r.2.2.2.2.2)]))) (fun b κ r hb => by rcases b with b | b <;> exact ⟨_, _, hb, fun _ => rfl⟩) hh
    · cases hh
  · intro hh; cases hh
  · intro _ args h κ r hh
    simp only [S.DrawPostAsk_s] at hh
    split at hh
    · rfl
    · cases hh


-- loop.example/guardsonnets/impl.PostAsk
noncomputable def I.PostAsk_T : List (Nat × D.Spec) := [(12, I.PostOk_s), (52, I.placeIn_s), (42, I.LogPlaces_s), (50, I.eternalIn_s), (53, I.answeredIn_s), (54, I.LogOf_s)]
def I.PostAsk_ann : Nat → List Nat × List Nat
  | _ => ([], [])
noncomputable def I.PostAsk_F (args : List V) (h : List E) (κ : V → List E → R) : R := funC TD (tableK I.PostAsk_T) I.PostAsk_ann (drawAny TD (tableP I.PostAsk_T)) FUEL Try.f19 args h κ
noncomputable def I.PostAsk_tree {α : Type} (p0 : List Int) (p1 : Int) (p2 : List Int) (place : Int) (leaf0_ : Int × Bool × (List Int) × (List Int) → α) (fail_ : α) : α :=
  (optC (I.PostOk_t p0 p1 p2) (fun c_1 => (bif !c_1 then (leaf0_ (0, false, [], [])) else (optC (I.placeIn_t p0 place) (fun c_2 => (bif !c_2 then (leaf0_ (0, false, [], [])) else (bif (↑p2.length : Int) == 120 then (leaf0_ (0, false, [], [])) else (optC (I.LogPlaces_t p2) (fun c_3 => (bif small ([] ++ p0).length then (optC (I.eternalIn_t p0) (fun c_4 => (optC (I.answeredIn_t p0 c_4 p1 place) (fun c_5 => (bif small (c_3.snd ++ [place]).length then (optC (I.LogOf_t (c_3.snd ++ [place])) (fun c_6 => (leaf0_ (c_5, true, [] ++ p0, c_6))) fail_) else fail_)) fail_)) fail_) else fail_)) fail_)))) fail_))) fail_)
theorem I.PostAsk_tree_nat {α γ : Type} (g : α → γ) (p0 : List Int) (p1 : Int) (p2 : List Int) (place : Int) (leaf0_ : Int × Bool × (List Int) × (List Int) → α) (fail_ : α) : g (I.PostAsk_tree p0 p1 p2 place leaf0_ fail_) = I.PostAsk_tree p0 p1 p2 place (fun d => g (leaf0_ d)) (g fail_) := by
  unfold I.PostAsk_tree; simp only [apply_cnd g, apply_optC g, apply_sumC g]
noncomputable def I.PostAsk_t (p0 : List Int) (p1 : Int) (p2 : List Int) (place : Int) : Option (Int × Bool × (List Int) × (List Int)) := I.PostAsk_tree p0 p1 p2 place (fun d => some d) none
theorem I.PostAsk_den (p0 : List Int) (p1 : Int) (p2 : List Int) (place : Int) (κ : V → List E → R) : I.PostAsk_F [.agg [.ro false (.ints .i64 p0), .int .i64 p1, .ro false (.ints .u8 p2)], .int .i64 place] [] κ = optC (I.PostAsk_t p0 p1 p2 place) (fun (r : Int × Bool × (List Int) × (List Int)) => κ (.tup [(.agg [(.own 0), (.int .i64 r.1), (.own 1)]), (.bool r.2.1)]) [.row (.ints .i64 r.2.2.1), .row (.ints .u8 r.2.2.2)]) none := by
  have hu : I.PostAsk_F [.agg [.ro false (.ints .i64 p0), .int .i64 p1, .ro false (.ints .u8 p2)], .int .i64 place] [] κ = I.PostAsk_tree p0 p1 p2 place (fun d => κ (.tup [(.agg [(.own 0), (.int .i64 d.1), (.own 1)]), (.bool d.2.1)]) [.row (.ints .i64 d.2.2.1), .row (.ints .u8 d.2.2.2)]) none := by
    kernel_rfl
  rw [hu]
  exact (I.PostAsk_tree_nat (fun o => optC o (fun (r : Int × Bool × (List Int) × (List Int)) => κ (.tup [(.agg [(.own 0), (.int .i64 r.1), (.own 1)]), (.bool r.2.1)]) [.row (.ints .i64 r.2.2.1), .row (.ints .u8 r.2.2.2)]) none) p0 p1 p2 place (fun d => some d) none).symm
noncomputable def I.PostAsk_s : D.Spec where
  keep := false
  pure := false
  add := true
  ds := [.tuple #[1, 0, 2], .invalid]
  sp := fun args h κ => match args, h with
    | [.agg [.ro false (.ints .i64 p0), .int .i64 p1, .ro false (.ints .u8 p2)], .int .i64 place], [] => optC (I.PostAsk_t p0 p1 p2 place) (fun (r : Int × Bool × (List Int) × (List Int)) => κ (.tup [(.agg [(.own 0), (.int .i64 r.1), (.own 1)]), (.bool r.2.1)]) [.row (.ints .i64 r.2.2.1), .row (.ints .u8 r.2.2.2)]) none
    | _, _ => none
theorem I.PostAsk_ok : SpecOk Try.prog 19 I.PostAsk_s := by
  refine SpecOk.of TDok mixed (T := I.PostAsk_T) ?_ (ann := I.PostAsk_ann) Try.func19 rfl (by decide +kernel) ?_ ?_ ?_ ?_
  · intro p hp
    simp only [I.PostAsk_T, List.mem_cons, List.not_mem_nil, or_false] at hp
    rcases hp with rfl | rfl | rfl | rfl | rfl | rfl
    · exact I.PostOk_ok
    · exact I.placeIn_ok
    · exact I.LogPlaces_ok
    · exact I.eternalIn_ok
    · exact I.answeredIn_ok
    · exact I.LogOf_ok
  · intro args h κ r hh
    simp only [I.PostAsk_s] at hh
    split at hh
    · exact (I.PostAsk_den _ _ _ _ κ).trans hh
    · cases hh
  · intro args h κ r hh
    simp only [I.PostAsk_s] at hh ⊢
    split at hh
    · exact optC_law2 (F := fun (r : Int × Bool × (List Int) × (List Int)) κ => κ (.tup [(.agg [(.own 0), (.int .i64 r.1), (.own 1)]), (.bool r.2.1)]) [.row (.ints .i64 r.2.2.1), .row (.ints .u8 r.2.2.2)]) (fun b κ r hb => ⟨_, _, hb, fun _ => rfl⟩) hh
    · cases hh
  · intro hh; cases hh
  · intro _ args h κ r hh
    simp only [I.PostAsk_s] at hh
    split at hh
    · rfl
    · cases hh


-- loop.example/guardsonnets/spec.PostAsk
noncomputable def S.PostAsk_T : List (Nat × D.Spec) := [(13, S.PostOk_s), (55, S.l1In_s), (25, S.LogPlaces_s), (47, S.l17Last_s), (56, S.LogOf_s)]
def S.PostAsk_ann : Nat → List Nat × List Nat
  | _ => ([], [])
noncomputable def S.PostAsk_F (args : List V) (h : List E) (κ : V → List E → R) : R := funC TD (tableK S.PostAsk_T) S.PostAsk_ann (drawAny TD (tableP S.PostAsk_T)) FUEL Try.f20 args h κ
noncomputable def S.PostAsk_tree {α : Type} (p0 : List Int) (p1 : Int) (p2 : List Int) (place : Int) (leaf0_ : Int × Bool × (List Int) × (List Int) → α) (fail_ : α) : α :=
  (optC (S.PostOk_t p0 p1 p2) (fun c_1 => (bif !c_1 then (leaf0_ (0, false, [], [])) else (optC (S.l1In_t place 0 (IntKind.i64.wrap ((↑p0.length : Int) - 1))) (fun c_2 => (bif !c_2 then (leaf0_ (0, false, [], [])) else (bif (↑p2.length : Int) == 120 then (leaf0_ (0, false, [], [])) else (optC (S.LogPlaces_t p2) (fun c_3 => (bif small (c_3.snd ++ [place]).length then (bif small ([] ++ p0).length then (optC (S.l17Last_t p0 (c_3.snd ++ [place])) (fun c_4 => (optC (S.LogOf_t (c_3.snd ++ [place])) (fun c_5 => (leaf0_ (c_4, true, [] ++ p0, c_5))) fail_)) fail_) else fail_) else fail_)) fail_)))) fail_))) fail_)
theorem S.PostAsk_tree_nat {α γ : Type} (g : α → γ) (p0 : List Int) (p1 : Int) (p2 : List Int) (place : Int) (leaf0_ : Int × Bool × (List Int) × (List Int) → α) (fail_ : α) : g (S.PostAsk_tree p0 p1 p2 place leaf0_ fail_) = S.PostAsk_tree p0 p1 p2 place (fun d => g (leaf0_ d)) (g fail_) := by
  unfold S.PostAsk_tree; simp only [apply_cnd g, apply_optC g, apply_sumC g]
noncomputable def S.PostAsk_t (p0 : List Int) (p1 : Int) (p2 : List Int) (place : Int) : Option (Int × Bool × (List Int) × (List Int)) := S.PostAsk_tree p0 p1 p2 place (fun d => some d) none
theorem S.PostAsk_den (p0 : List Int) (p1 : Int) (p2 : List Int) (place : Int) (κ : V → List E → R) : S.PostAsk_F [.agg [.ro false (.ints .i64 p0), .int .i64 p1, .ro false (.ints .u8 p2)], .int .i64 place] [] κ = optC (S.PostAsk_t p0 p1 p2 place) (fun (r : Int × Bool × (List Int) × (List Int)) => κ (.tup [(.agg [(.own 0), (.int .i64 r.1), (.own 1)]), (.bool r.2.1)]) [.row (.ints .i64 r.2.2.1), .row (.ints .u8 r.2.2.2)]) none := by
  have hu : S.PostAsk_F [.agg [.ro false (.ints .i64 p0), .int .i64 p1, .ro false (.ints .u8 p2)], .int .i64 place] [] κ = S.PostAsk_tree p0 p1 p2 place (fun d => κ (.tup [(.agg [(.own 0), (.int .i64 d.1), (.own 1)]), (.bool d.2.1)]) [.row (.ints .i64 d.2.2.1), .row (.ints .u8 d.2.2.2)]) none := by
    kernel_rfl
  rw [hu]
  exact (S.PostAsk_tree_nat (fun o => optC o (fun (r : Int × Bool × (List Int) × (List Int)) => κ (.tup [(.agg [(.own 0), (.int .i64 r.1), (.own 1)]), (.bool r.2.1)]) [.row (.ints .i64 r.2.2.1), .row (.ints .u8 r.2.2.2)]) none) p0 p1 p2 place (fun d => some d) none).symm
noncomputable def S.PostAsk_s : D.Spec where
  keep := false
  pure := false
  add := true
  ds := [.tuple #[1, 0, 2], .invalid]
  sp := fun args h κ => match args, h with
    | [.agg [.ro false (.ints .i64 p0), .int .i64 p1, .ro false (.ints .u8 p2)], .int .i64 place], [] => optC (S.PostAsk_t p0 p1 p2 place) (fun (r : Int × Bool × (List Int) × (List Int)) => κ (.tup [(.agg [(.own 0), (.int .i64 r.1), (.own 1)]), (.bool r.2.1)]) [.row (.ints .i64 r.2.2.1), .row (.ints .u8 r.2.2.2)]) none
    | _, _ => none
theorem S.PostAsk_ok : SpecOk Try.prog 20 S.PostAsk_s := by
  refine SpecOk.of TDok mixed (T := S.PostAsk_T) ?_ (ann := S.PostAsk_ann) Try.func20 rfl (by decide +kernel) ?_ ?_ ?_ ?_
  · intro p hp
    simp only [S.PostAsk_T, List.mem_cons, List.not_mem_nil, or_false] at hp
    rcases hp with rfl | rfl | rfl | rfl | rfl
    · exact S.PostOk_ok
    · exact S.l1In_ok
    · exact S.LogPlaces_ok
    · exact S.l17Last_ok
    · exact S.LogOf_ok
  · intro args h κ r hh
    simp only [S.PostAsk_s] at hh
    split at hh
    · exact (S.PostAsk_den _ _ _ _ κ).trans hh
    · cases hh
  · intro args h κ r hh
    simp only [S.PostAsk_s] at hh ⊢
    split at hh
    · exact optC_law2 (F := fun (r : Int × Bool × (List Int) × (List Int)) κ => κ (.tup [(.agg [(.own 0), (.int .i64 r.1), (.own 1)]), (.bool r.2.1)]) [.row (.ints .i64 r.2.2.1), .row (.ints .u8 r.2.2.2)]) (fun b κ r hb => ⟨_, _, hb, fun _ => rfl⟩) hh
    · cases hh
  · intro hh; cases hh
  · intro _ args h κ r hh
    simp only [S.PostAsk_s] at hh
    split at hh
    · rfl
    · cases hh


-- loop.example/guardsonnets/laws.sizeOf
noncomputable def L.sizeOf_T : List (Nat × D.Spec) := []
def L.sizeOf_ann : Nat → List Nat × List Nat
  | 2 => ([0, 3], [3])
  | _ => ([], [])
noncomputable def L.sizeOf_F (args : List V) (h : List E) (κ : V → List E → R) : R := funC TD (tableK L.sizeOf_T) L.sizeOf_ann (drawAny TD (tableP L.sizeOf_T)) FUEL Try.f21 args h κ
noncomputable def L.sizeOf_L2 (n : Nat) (σ : St) (k : X → St → R) : R := iterC 0 (fun σ k => denC TD (tableK L.sizeOf_T) L.sizeOf_ann (drawAny TD (tableP L.sizeOf_T)) 0 FUEL ((findLoop 2 (Try.f21.body.getD .skip)).getD .skip) σ k) [0, 3] [3] n σ k
noncomputable def L.sizeOf_k2 (κ : V → List E → R) : X → St → R := (afterC TD (tableK L.sizeOf_T) L.sizeOf_ann (drawAny TD (tableP L.sizeOf_T)) 0 FUEL 2 (Try.f21.body.getD .skip) (finC TD 0 Try.f21 κ)).getD (fun _ _ => none)
noncomputable def L.sizeOf_step2 {α : Type} (x0 : Int) (x3 : Int) (next_ : Int × Int → α) (out0_ : Int → α) (fail_ : α) : α :=
  (bif decide (x0 > 0) then (next_ (IntKind.i64.wrap (x0.tdiv 2), IntKind.i64.wrap (x3 + x0.tmod 2))) else (out0_ x3))
theorem L.sizeOf_step2_nat {α γ : Type} (g : α → γ) (x0 : Int) (x3 : Int) (next_ : Int × Int → α) (out0_ : Int → α) (fail_ : α) : g (L.sizeOf_step2 x0 x3 next_ out0_ fail_) = L.sizeOf_step2 x0 x3 (fun s => g (next_ s)) (fun d => g (out0_ d)) (g fail_) := by
  unfold L.sizeOf_step2; simp only [apply_cnd g, apply_optC g, apply_sumC g]
noncomputable def L.sizeOf_run2 : Nat → Int × Int → Option (Int)
  | 0, _ => none
  | n + 1, s_ => L.sizeOf_step2 s_.1 s_.2 (L.sizeOf_run2 n) (fun d => some d) none
theorem L.sizeOf_L2_run (n : Nat) (s_ : Int × Int) (k : X → St → R) : L.sizeOf_L2 n { n := 13, t := [(0, (.int .i64 s_.1)), (3, (.int .i64 s_.2))], h := [] } k = optC (L.sizeOf_run2 n s_) (fun (r : Int) => k (.exit 0) { n := 13, t := [(3, (.int .i64 r))], h := [] }) none := by
  induction n generalizing s_ with
  | zero => rfl
  | succ n ih =>
    have hu : L.sizeOf_L2 (n + 1) { n := 13, t := [(0, (.int .i64 s_.1)), (3, (.int .i64 s_.2))], h := [] } k = L.sizeOf_step2 s_.1 s_.2 (fun s_ => L.sizeOf_L2 n { n := 13, t := [(0, (.int .i64 s_.1)), (3, (.int .i64 s_.2))], h := [] } k) (fun d => k (.exit 0) { n := 13, t := [(3, (.int .i64 d))], h := [] }) none := by
      kernel_rfl
    have hs : (fun s_ : Int × Int => L.sizeOf_L2 n { n := 13, t := [(0, (.int .i64 s_.1)), (3, (.int .i64 s_.2))], h := [] } k) = fun s_ => optC (L.sizeOf_run2 n s_) (fun (r : Int) => k (.exit 0) { n := 13, t := [(3, (.int .i64 r))], h := [] }) none := funext ih
    rw [hu, hs]
    exact (L.sizeOf_step2_nat (fun o => optC o (fun (r : Int) => k (.exit 0) { n := 13, t := [(3, (.int .i64 r))], h := [] }) none) s_.1 s_.2 (L.sizeOf_run2 n) (fun d => some d) none).symm
noncomputable def L.sizeOf_tree {α : Type} (n_ : Int) (leaf0_ : Int → α) (fail_ : α) : α :=
  (optC (L.sizeOf_run2 FUEL (n_, 0)) (fun qy_1 => (leaf0_ qy_1)) fail_)
theorem L.sizeOf_tree_nat {α γ : Type} (g : α → γ) (n_ : Int) (leaf0_ : Int → α) (fail_ : α) : g (L.sizeOf_tree n_ leaf0_ fail_) = L.sizeOf_tree n_ (fun d => g (leaf0_ d)) (g fail_) := by
  unfold L.sizeOf_tree; simp only [apply_cnd g, apply_optC g, apply_sumC g]
noncomputable def L.sizeOf_t (n_ : Int) : Option (Int) := L.sizeOf_tree n_ (fun d => some d) none
theorem L.sizeOf_den (n_ : Int) (κ : V → List E → R) : L.sizeOf_F [.int .i64 n_] [] κ = optC (L.sizeOf_t n_) (fun (r : Int) => κ (.int .i64 r) []) none := by
  have hu : L.sizeOf_F [.int .i64 n_] [] κ = L.sizeOf_tree n_ (fun d => κ (.int .i64 d) []) none := by
    refine Eq.trans (show L.sizeOf_F [.int .i64 n_] [] κ = (L.sizeOf_L2 FUEL { n := 13, t := [(0, (.int .i64 n_)), (3, (.int .i64 0))], h := [] } (L.sizeOf_k2 κ)) by kernel_rfl) ?_
    refine (L.sizeOf_L2_run FUEL (n_, 0) (L.sizeOf_k2 κ)).trans (optC_congr (fun qy_1 => ?_))
    kernel_rfl
  rw [hu]
  exact (L.sizeOf_tree_nat (fun o => optC o (fun (r : Int) => κ (.int .i64 r) []) none) n_ (fun d => some d) none).symm
noncomputable def L.sizeOf_s : D.Spec where
  keep := false
  pure := true
  add := true
  ds := [.invalid]
  sp := fun args h κ => match args, h with
    | [.int .i64 n_], [] => optC (L.sizeOf_t n_) (fun (r : Int) => κ (.int .i64 r) []) none
    | _, _ => none
theorem L.sizeOf_ok : SpecOk Try.prog 21 L.sizeOf_s := by
  refine SpecOk.of TDok mixed (T := L.sizeOf_T) ?_ (ann := L.sizeOf_ann) Try.func21 rfl (by decide +kernel) ?_ ?_ ?_ ?_
  · intro p hp; cases hp
  · intro args h κ r hh
    simp only [L.sizeOf_s] at hh
    split at hh
    · exact (L.sizeOf_den _ κ).trans hh
    · cases hh
  · intro args h κ r hh
    simp only [L.sizeOf_s] at hh ⊢
    split at hh
    · exact optC_law2 (F := fun (r : Int) κ => κ (.int .i64 r) []) (fun b κ r hb => ⟨_, _, hb, fun _ => rfl⟩) hh
    · cases hh
  · intro _ args h κ r hh
    simp only [L.sizeOf_s] at hh
    split at hh
    · exact ⟨rfl, fun _ => rfl⟩
    · cases hh
  · intro _ args h κ r hh
    simp only [L.sizeOf_s] at hh
    split at hh
    · rfl
    · cases hh


-- loop.example/guardsonnets/laws.FnPostAsk
noncomputable def L.FnPostAsk_T : List (Nat × D.Spec) := [(18, S.DrawPostAsk_s), (19, I.PostAsk_s), (20, S.PostAsk_s), (15, L.samePost_s), (17, L.alive_s), (12, I.PostOk_s), (21, L.sizeOf_s)]
def L.FnPostAsk_ann : Nat → List Nat × List Nat
  | _ => ([], [])
noncomputable def L.FnPostAsk_F (args : List V) (h : List E) (κ : V → List E → R) : R := funC TD (tableK L.FnPostAsk_T) L.FnPostAsk_ann (drawAny TD (tableP L.FnPostAsk_T)) FUEL Try.f4 args h κ
noncomputable def L.FnPostAsk_tree {α : Type} (code : List Int) (leaf0_ : Bool → α) (fail_ : α) : α :=
  (bif decide ((↑code.length : Int) > 1048576) then (leaf0_ true) else (optC (S.DrawPostAsk_t code) (fun c_1 => (sumC c_1 (fun c_2 => (optC (I.PostAsk_t c_2.snd.snd.fst c_2.fst c_2.snd.snd.snd c_2.snd.fst) (fun c_3 => (optC (S.PostAsk_t c_2.snd.snd.fst c_2.fst c_2.snd.snd.snd c_2.snd.fst) (fun c_4 => (bif !c_3.snd.fst == c_4.snd.fst then (leaf0_ false) else (optC (L.samePost_t c_3.snd.snd.fst c_3.fst c_3.snd.snd.snd c_4.snd.snd.fst c_4.fst c_4.snd.snd.snd) (fun c_5 => (bif !c_5 then (leaf0_ false) else (bif !c_3.snd.fst then (optC (L.alive_t) (fun c_6 => (leaf0_ c_6)) fail_) else (optC (I.PostOk_t c_3.snd.snd.fst c_3.fst c_3.snd.snd.snd) (fun c_7 => (bif c_7 then (bif decide (c_2.snd.fst < 0) then fail_ else (bif (c_3.fst.fdiv (2 ^ min c_2.snd.fst.toNat IntKind.i64.bits)).tmod 2 == 1 then (optC (L.sizeOf_t c_3.fst) (fun c_8 => (optC (L.sizeOf_t c_2.fst) (fun c_9 => (bif c_8 == c_9 then (bif (↑c_3.snd.snd.snd.length : Int) == IntKind.i64.wrap ((↑c_2.snd.snd.snd.length : Int) + 3) then (bif decide ((↑c_2.snd.snd.snd.length : Int) ≤ (↑c_3.snd.snd.snd.length : Int)) then (leaf0_ (strEq (bytesOf (List.take (↑c_2.snd.snd.snd.length : Int).toNat (List.drop 0 c_3.snd.snd.snd))) (bytesOf c_2.snd.snd.snd))) else fail_) else (leaf0_ false)) else (leaf0_ false))) fail_)) fail_) else (leaf0_ false))) else (leaf0_ false))) fail_)))) fail_))) fail_)) fail_)) (fun c_2 => (optC (I.PostAsk_t c_2.snd.snd.snd.snd.fst c_2.fst (List.take c_2.snd.snd.fst (List.drop c_2.snd.fst c_2.snd.snd.snd.snd.snd)) c_2.snd.snd.snd.fst) (fun c_10 => (optC (S.PostAsk_t c_2.snd.snd.snd.snd.fst c_2.fst (List.take c_2.snd.snd.fst (List.drop c_2.snd.fst c_2.snd.snd.snd.snd.snd)) c_2.snd.snd.snd.fst) (fun c_11 => (bif !c_10.snd.fst == c_11.snd.fst then (leaf0_ false) else (optC (L.samePost_t c_10.snd.snd.fst c_10.fst c_10.snd.snd.snd c_11.snd.snd.fst c_11.fst c_11.snd.snd.snd) (fun c_12 => (bif !c_12 then (leaf0_ false) else (bif !c_10.snd.fst then (optC (L.alive_t) (fun c_13 => (leaf0_ c_13)) fail_) else (optC (I.PostOk_t c_10.snd.snd.fst c_10.fst c_10.snd.snd.snd) (fun c_14 => (bif c_14 then (bif decide (c_2.snd.snd.snd.fst < 0) then fail_ else (bif (c_10.fst.fdiv (2 ^ min c_2.snd.snd.snd.fst.toNat IntKind.i64.bits)).tmod 2 == 1 then (optC (L.sizeOf_t c_10.fst) (fun c_15 => (optC (L.sizeOf_t c_2.fst) (fun c_16 => (bif c_15 == c_16 then (bif (↑c_10.snd.snd.snd.length : Int) == IntKind.i64.wrap ((↑c_2.snd.snd.fst : Int) + 3) then (bif decide ((↑c_2.snd.snd.fst : Int) ≤ (↑c_10.snd.snd.snd.length : Int)) then (leaf0_ (strEq (bytesOf (List.take (↑c_2.snd.snd.fst : Int).toNat (List.drop 0 c_10.snd.snd.snd))) (bytesOf (List.take c_2.snd.snd.fst (List.drop c_2.snd.fst c_2.snd.snd.snd.snd.snd))))) else fail_) else (leaf0_ false)) else (leaf0_ false))) fail_)) fail_) else (leaf0_ false))) else (leaf0_ false))) fail_)))) fail_))) fail_)) fail_)))) fail_))
theorem L.FnPostAsk_tree_nat {α γ : Type} (g : α → γ) (code : List Int) (leaf0_ : Bool → α) (fail_ : α) : g (L.FnPostAsk_tree code leaf0_ fail_) = L.FnPostAsk_tree code (fun d => g (leaf0_ d)) (g fail_) := by
  unfold L.FnPostAsk_tree; simp only [apply_cnd g, apply_optC g, apply_sumC g]
noncomputable def L.FnPostAsk_t (code : List Int) : Option (Bool) := L.FnPostAsk_tree code (fun d => some d) none
theorem L.FnPostAsk_den (code : List Int) (κ : V → List E → R) : L.FnPostAsk_F [.ro true (.ints .u8 code)] [] κ = optC (L.FnPostAsk_t code) (fun (r : Bool) => κ (.bool r) []) none := by
  have hu : L.FnPostAsk_F [.ro true (.ints .u8 code)] [] κ = L.FnPostAsk_tree code (fun d => κ (.bool d) []) none := by
    kernel_rfl
  rw [hu]
  exact (L.FnPostAsk_tree_nat (fun o => optC o (fun (r : Bool) => κ (.bool r) []) none) code (fun d => some d) none).symm
noncomputable def L.FnPostAsk_s : D.Spec where
  keep := true
  pure := true
  add := true
  ds := [.int .u8]
  sp := fun args h κ => match args, h with
    | [.ro true (.ints .u8 code)], [] => optC (L.FnPostAsk_t code) (fun (r : Bool) => κ (.bool r) []) none
    | _, _ => none
theorem L.FnPostAsk_ok : SpecOk Try.prog 4 L.FnPostAsk_s := by
  refine SpecOk.of TDok mixed (T := L.FnPostAsk_T) ?_ (ann := L.FnPostAsk_ann) Try.func4 rfl (by decide +kernel) ?_ ?_ ?_ ?_
  · intro p hp
    simp only [L.FnPostAsk_T, List.mem_cons, List.not_mem_nil, or_false] at hp
    rcases hp with rfl | rfl | rfl | rfl | rfl | rfl | rfl
    · exact S.DrawPostAsk_ok
    · exact I.PostAsk_ok
    · exact S.PostAsk_ok
    · exact L.samePost_ok
    · exact L.alive_ok
    · exact I.PostOk_ok
    · exact L.sizeOf_ok
  · intro args h κ r hh
    simp only [L.FnPostAsk_s] at hh
    split at hh
    · exact (L.FnPostAsk_den _ κ).trans hh
    · cases hh
  · intro args h κ r hh
    simp only [L.FnPostAsk_s] at hh ⊢
    split at hh
    · exact optC_law2 (F := fun (r : Bool) κ => κ (.bool r) []) (fun b κ r hb => ⟨_, _, hb, fun _ => rfl⟩) hh
    · cases hh
  · intro _ args h κ r hh
    simp only [L.FnPostAsk_s] at hh
    split at hh
    · exact ⟨rfl, fun _ => rfl⟩
    · cases hh
  · intro _ args h κ r hh
    simp only [L.FnPostAsk_s] at hh
    split at hh
    · rfl
    · cases hh


-- loop.example/guardsonnets/spec.DrawPostCut
noncomputable def S.DrawPostCut_T : List (Nat × D.Spec) := [(41, S.l20Open_s), (40, S.l20Post_s), (51, S.l20Rd_pick_s)]
def S.DrawPostCut_ann : Nat → List Nat × List Nat
  | _ => ([], [])
noncomputable def S.DrawPostCut_F (args : List V) (h : List E) (κ : V → List E → R) : R := funC TD (tableK S.DrawPostCut_T) S.DrawPostCut_ann (drawAny TD (tableP S.DrawPostCut_T)) FUEL Try.f22 args h κ
noncomputable def S.DrawPostCut_tree {α : Type} (code : List Int) (leaf0_ : Int × Int × (List Int) × (List Int) → α) (leaf1_ : Int × Nat × Nat × Int × (List Int) × (List Int) → α) (fail_ : α) : α :=
  (optC (S.l20Open_t code) (fun c_1 => (optC (S.l20Post_t c_1.fst c_1.snd 12) (fun c_2 => (sumC c_2 (fun c_3 => (optC (S.l20Rd_pick_t c_3.snd.fst c_3.snd.snd.fst (IntKind.i64.wrap ((↑c_3.snd.snd.snd.snd.length : Int) + 4))) (fun c_4 => (leaf0_ (c_3.fst, IntKind.i64.wrap (c_4.fst - 1), c_3.snd.snd.snd.fst, c_3.snd.snd.snd.snd))) fail_)) (fun c_3 => (optC (S.l20Rd_pick_t c_3.snd.snd.snd.fst c_3.snd.snd.snd.snd.fst (IntKind.i64.wrap ((↑c_3.snd.snd.fst : Int) + 4))) (fun c_5 => (leaf1_ (c_3.fst, c_3.snd.fst, c_3.snd.snd.fst, IntKind.i64.wrap (c_5.fst - 1), c_3.snd.snd.snd.snd.snd.fst, c_3.snd.snd.snd.snd.snd.snd))) fail_)))) fail_)) fail_)
theorem S.DrawPostCut_tree_nat {α γ : Type} (g : α → γ) (code : List Int) (leaf0_ : Int × Int × (List Int) × (List Int) → α) (leaf1_ : Int × Nat × Nat × Int × (List Int) × (List Int) → α) (fail_ : α) : g (S.DrawPostCut_tree code leaf0_ leaf1_ fail_) = S.DrawPostCut_tree code (fun d => g (leaf0_ d)) (fun d => g (leaf1_ d)) (g fail_) := by
  unfold S.DrawPostCut_tree; simp only [apply_cnd g, apply_optC g, apply_sumC g]
noncomputable def S.DrawPostCut_t (code : List Int) : Option ((Int × Int × (List Int) × (List Int)) ⊕ (Int × Nat × Nat × Int × (List Int) × (List Int))) := S.DrawPostCut_tree code (fun d => some ((Sum.inl d))) (fun d => some ((Sum.inr d))) none
theorem S.DrawPostCut_den (code : List Int) (κ : V → List E → R) : S.DrawPostCut_F [.ro true (.ints .u8 code)] [] κ = optC (S.DrawPostCut_t code) (fun (r : (Int × Int × (List Int) × (List Int)) ⊕ (Int × Nat × Nat × Int × (List Int) × (List Int))) => (sumC r (fun (r : Int × Int × (List Int) × (List Int)) => κ (.tup [(.agg [(.own 0), (.int .i64 r.1), (.own 1)]), (.int .i64 r.2.1)]) [.row (.ints .i64 r.2.2.1), .row (.ints .u8 r.2.2.2)]) (fun (r : Int × Nat × Nat × Int × (List Int) × (List Int)) => κ (.tup [(.agg [(.own 0), (.int .i64 r.1), (.sub 1 r.2.1 r.2.2.1)]), (.int .i64 r.2.2.2.1)]) [.row (.ints .i64 r.2.2.2.2.1), .row (.ints .u8 r.2.2.2.2.2)]))) none := by
  have hu : S.DrawPostCut_F [.ro true (.ints .u8 code)] [] κ = S.DrawPostCut_tree code (fun d => κ (.tup [(.agg [(.own 0), (.int .i64 d.1), (.own 1)]), (.int .i64 d.2.1)]) [.row (.ints .i64 d.2.2.1), .row (.ints .u8 d.2.2.2)]) (fun d => κ (.tup [(.agg [(.own 0), (.int .i64 d.1), (.sub 1 d.2.1 d.2.2.1)]), (.int .i64 d.2.2.2.1)]) [.row (.ints .i64 d.2.2.2.2.1), .row (.ints .u8 d.2.2.2.2.2)]) none := by
    kernel_rfl
  rw [hu]
  exact (S.DrawPostCut_tree_nat (fun o => optC o (fun (r : (Int × Int × (List Int) × (List Int)) ⊕ (Int × Nat × Nat × Int × (List Int) × (List Int))) => (sumC r (fun (r : Int × Int × (List Int) × (List Int)) => κ (.tup [(.agg [(.own 0), (.int .i64 r.1), (.own 1)]), (.int .i64 r.2.1)]) [.row (.ints .i64 r.2.2.1), .row (.ints .u8 r.2.2.2)]) (fun (r : Int × Nat × Nat × Int × (List Int) × (List Int)) => κ (.tup [(.agg [(.own 0), (.int .i64 r.1), (.sub 1 r.2.1 r.2.2.1)]), (.int .i64 r.2.2.2.1)]) [.row (.ints .i64 r.2.2.2.2.1), .row (.ints .u8 r.2.2.2.2.2)]))) none) code (fun d => some ((Sum.inl d))) (fun d => some ((Sum.inr d))) none).symm
noncomputable def S.DrawPostCut_s : D.Spec where
  keep := true
  pure := false
  add := true
  ds := [.int .u8]
  sp := fun args h κ => match args, h with
    | [.ro true (.ints .u8 code)], [] => optC (S.DrawPostCut_t code) (fun (r : (Int × Int × (List Int) × (List Int)) ⊕ (Int × Nat × Nat × Int × (List Int) × (List Int))) => (sumC r (fun (r : Int × Int × (List Int) × (List Int)) => κ (.tup [(.agg [(.own 0), (.int .i64 r.1), (.own 1)]), (.int .i64 r.2.1)]) [.row (.ints .i64 r.2.2.1), .row (.ints .u8 r.2.2.2)]) (fun (r : Int × Nat × Nat × Int × (List Int) × (List Int)) => κ (.tup [(.agg [(.own 0), (.int .i64 r.1), (.sub 1 r.2.1 r.2.2.1)]), (.int .i64 r.2.2.2.1)]) [.row (.ints .i64 r.2.2.2.2.1), .row (.ints .u8 r.2.2.2.2.2)]))) none
    | _, _ => none
theorem S.DrawPostCut_ok : SpecOk Try.prog 22 S.DrawPostCut_s := by
  refine SpecOk.of TDok mixed (T := S.DrawPostCut_T) ?_ (ann := S.DrawPostCut_ann) Try.func22 rfl (by decide +kernel) ?_ ?_ ?_ ?_
  · intro p hp
    simp only [S.DrawPostCut_T, List.mem_cons, List.not_mem_nil, or_false] at hp
    rcases hp with rfl | rfl | rfl
    · exact S.l20Open_ok
    · exact S.l20Post_ok
    · exact S.l20Rd_pick_ok
  · intro args h κ r hh
    simp only [S.DrawPostCut_s] at hh
    split at hh
    · exact (S.DrawPostCut_den _ κ).trans hh
    · cases hh
  · intro args h κ r hh
    simp only [S.DrawPostCut_s] at hh ⊢
    split at hh
    · exact optC_law2 (F := fun (r : (Int × Int × (List Int) × (List Int)) ⊕ (Int × Nat × Nat × Int × (List Int) × (List Int))) κ => (sumC r (fun (r : Int × Int × (List Int) × (List Int)) => κ (.tup [(.agg [(.own 0), (.int .i64 r.1), (.own 1)]), (.int .i64 r.2.1)]) [.row (.ints .i64 r.2.2.1), .row (.ints .u8 r.2.2.2)]) (fun (r : Int × Nat × Nat × Int × (List Int) × (List Int)) => κ (.tup [(.agg [(.own 0), (.int .i64 r.1), (.sub 1 r.2.1 r.2.2.1)]), (.int .i64 r.2.2.2.1)]) [.row (.ints .i64 r.2.2.2.2.1), .row (.ints .u8 r.2.2.2.2.2)]))) (fun b κ r hb => by rcases b with b | b <;> exact ⟨_, _, hb, fun _ => rfl⟩) hh
    · cases hh
  · intro hh; cases hh
  · intro _ args h κ r hh
    simp only [S.DrawPostCut_s] at hh
    split at hh
    · rfl
    · cases hh


-- loop.example/guardsonnets/impl.bytesLeft
noncomputable def I.bytesLeft_T : List (Nat × D.Spec) := []
def I.bytesLeft_ann : Nat → List Nat × List Nat
  | _ => ([], [])
noncomputable def I.bytesLeft_F (args : List V) (h : List E) (κ : V → List E → R) : R := funC TD (tableK I.bytesLeft_T) I.bytesLeft_ann (drawAny TD (tableP I.bytesLeft_T)) FUEL Try.f57 args h κ
noncomputable def I.bytesLeft_tree {α : Type} (log : List Int) (bytes : Int) (leaf0_ : Int → α) (fail_ : α) : α :=
  (bif decide (bytes < 0) then (leaf0_ 0) else (bif decide (bytes > (↑log.length : Int)) then (leaf0_ ((↑log.length : Int))) else (leaf0_ bytes)))
theorem I.bytesLeft_tree_nat {α γ : Type} (g : α → γ) (log : List Int) (bytes : Int) (leaf0_ : Int → α) (fail_ : α) : g (I.bytesLeft_tree log bytes leaf0_ fail_) = I.bytesLeft_tree log bytes (fun d => g (leaf0_ d)) (g fail_) := by
  unfold I.bytesLeft_tree; simp only [apply_cnd g, apply_optC g, apply_sumC g]
noncomputable def I.bytesLeft_t (log : List Int) (bytes : Int) : Option (Int) := I.bytesLeft_tree log bytes (fun d => some d) none
theorem I.bytesLeft_den (log : List Int) (bytes : Int) (κ : V → List E → R) : I.bytesLeft_F [.ro false (.ints .u8 log), .int .i64 bytes] [] κ = optC (I.bytesLeft_t log bytes) (fun (r : Int) => κ (.int .i64 r) []) none := by
  have hu : I.bytesLeft_F [.ro false (.ints .u8 log), .int .i64 bytes] [] κ = I.bytesLeft_tree log bytes (fun d => κ (.int .i64 d) []) none := by
    kernel_rfl
  rw [hu]
  exact (I.bytesLeft_tree_nat (fun o => optC o (fun (r : Int) => κ (.int .i64 r) []) none) log bytes (fun d => some d) none).symm
noncomputable def I.bytesLeft_s : D.Spec where
  keep := false
  pure := true
  add := true
  ds := [.int .u8, .invalid]
  sp := fun args h κ => match args, h with
    | [.ro false (.ints .u8 log), .int .i64 bytes], [] => optC (I.bytesLeft_t log bytes) (fun (r : Int) => κ (.int .i64 r) []) none
    | _, _ => none
theorem I.bytesLeft_ok : SpecOk Try.prog 57 I.bytesLeft_s := by
  refine SpecOk.of TDok mixed (T := I.bytesLeft_T) ?_ (ann := I.bytesLeft_ann) Try.func57 rfl (by decide +kernel) ?_ ?_ ?_ ?_
  · intro p hp; cases hp
  · intro args h κ r hh
    simp only [I.bytesLeft_s] at hh
    split at hh
    · exact (I.bytesLeft_den _ _ κ).trans hh
    · cases hh
  · intro args h κ r hh
    simp only [I.bytesLeft_s] at hh ⊢
    split at hh
    · exact optC_law2 (F := fun (r : Int) κ => κ (.int .i64 r) []) (fun b κ r hb => ⟨_, _, hb, fun _ => rfl⟩) hh
    · cases hh
  · intro _ args h κ r hh
    simp only [I.bytesLeft_s] at hh
    split at hh
    · exact ⟨rfl, fun _ => rfl⟩
    · cases hh
  · intro _ args h κ r hh
    simp only [I.bytesLeft_s] at hh
    split at hh
    · rfl
    · cases hh


-- loop.example/guardsonnets/impl.PostCut
noncomputable def I.PostCut_T : List (Nat × D.Spec) := [(12, I.PostOk_s), (57, I.bytesLeft_s), (14, I.PostRise_s)]
def I.PostCut_ann : Nat → List Nat × List Nat
  | _ => ([], [])
noncomputable def I.PostCut_F (args : List V) (h : List E) (κ : V → List E → R) : R := funC TD (tableK I.PostCut_T) I.PostCut_ann (drawAny TD (tableP I.PostCut_T)) FUEL Try.f23 args h κ
noncomputable def I.PostCut_tree {α : Type} (p0 : List Int) (p1 : Int) (p2 : List Int) (bytes : Int) (leaf0_ : Int × Bool × (List Int) × (List Int) → α) (fail_ : α) : α :=
  (optC (I.PostOk_t p0 p1 p2) (fun c_1 => (bif !c_1 then (leaf0_ (0, false, [], [])) else (optC (I.bytesLeft_t p2 bytes) (fun c_2 => (bif decide (0 ≤ c_2) && decide (c_2 ≤ (↑p2.length : Int)) then (optC (I.PostRise_t p0 (List.take c_2.toNat (List.drop 0 p2))) (fun c_3 => (leaf0_ (c_3.fst, c_3.snd.fst, c_3.snd.snd.fst, c_3.snd.snd.snd))) fail_) else fail_)) fail_))) fail_)
theorem I.PostCut_tree_nat {α γ : Type} (g : α → γ) (p0 : List Int) (p1 : Int) (p2 : List Int) (bytes : Int) (leaf0_ : Int × Bool × (List Int) × (List Int) → α) (fail_ : α) : g (I.PostCut_tree p0 p1 p2 bytes leaf0_ fail_) = I.PostCut_tree p0 p1 p2 bytes (fun d => g (leaf0_ d)) (g fail_) := by
  unfold I.PostCut_tree; simp only [apply_cnd g, apply_optC g, apply_sumC g]
noncomputable def I.PostCut_t (p0 : List Int) (p1 : Int) (p2 : List Int) (bytes : Int) : Option (Int × Bool × (List Int) × (List Int)) := I.PostCut_tree p0 p1 p2 bytes (fun d => some d) none
theorem I.PostCut_den (p0 : List Int) (p1 : Int) (p2 : List Int) (bytes : Int) (κ : V → List E → R) : I.PostCut_F [.agg [.ro false (.ints .i64 p0), .int .i64 p1, .ro false (.ints .u8 p2)], .int .i64 bytes] [] κ = optC (I.PostCut_t p0 p1 p2 bytes) (fun (r : Int × Bool × (List Int) × (List Int)) => κ (.tup [(.agg [(.own 0), (.int .i64 r.1), (.own 1)]), (.bool r.2.1)]) [.row (.ints .i64 r.2.2.1), .row (.ints .u8 r.2.2.2)]) none := by
  have hu : I.PostCut_F [.agg [.ro false (.ints .i64 p0), .int .i64 p1, .ro false (.ints .u8 p2)], .int .i64 bytes] [] κ = I.PostCut_tree p0 p1 p2 bytes (fun d => κ (.tup [(.agg [(.own 0), (.int .i64 d.1), (.own 1)]), (.bool d.2.1)]) [.row (.ints .i64 d.2.2.1), .row (.ints .u8 d.2.2.2)]) none := by
    kernel_rfl
  rw [hu]
  exact (I.PostCut_tree_nat (fun o => optC o (fun (r : Int × Bool × (List Int) × (List Int)) => κ (.tup [(.agg [(.own 0), (.int .i64 r.1), (.own 1)]), (.bool r.2.1)]) [.row (.ints .i64 r.2.2.1), .row (.ints .u8 r.2.2.2)]) none) p0 p1 p2 bytes (fun d => some d) none).symm
noncomputable def I.PostCut_s : D.Spec where
  keep := false
  pure := false
  add := true
  ds := [.tuple #[1, 0, 2], .invalid]
  sp := fun args h κ => match args, h with
    | [.agg [.ro false (.ints .i64 p0), .int .i64 p1, .ro false (.ints .u8 p2)], .int .i64 bytes], [] => optC (I.PostCut_t p0 p1 p2 bytes) (fun (r : Int × Bool × (List Int) × (List Int)) => κ (.tup [(.agg [(.own 0), (.int .i64 r.1), (.own 1)]), (.bool r.2.1)]) [.row (.ints .i64 r.2.2.1), .row (.ints .u8 r.2.2.2)]) none
    | _, _ => none
theorem I.PostCut_ok : SpecOk Try.prog 23 I.PostCut_s := by
  refine SpecOk.of TDok mixed (T := I.PostCut_T) ?_ (ann := I.PostCut_ann) Try.func23 rfl (by decide +kernel) ?_ ?_ ?_ ?_
  · intro p hp
    simp only [I.PostCut_T, List.mem_cons, List.not_mem_nil, or_false] at hp
    rcases hp with rfl | rfl | rfl
    · exact I.PostOk_ok
    · exact I.bytesLeft_ok
    · exact I.PostRise_ok
  · intro args h κ r hh
    simp only [I.PostCut_s] at hh
    split at hh
    · exact (I.PostCut_den _ _ _ _ κ).trans hh
    · cases hh
  · intro args h κ r hh
    simp only [I.PostCut_s] at hh ⊢
    split at hh
    · exact optC_law2 (F := fun (r : Int × Bool × (List Int) × (List Int)) κ => κ (.tup [(.agg [(.own 0), (.int .i64 r.1), (.own 1)]), (.bool r.2.1)]) [.row (.ints .i64 r.2.2.1), .row (.ints .u8 r.2.2.2)]) (fun b κ r hb => ⟨_, _, hb, fun _ => rfl⟩) hh
    · cases hh
  · intro hh; cases hh
  · intro _ args h κ r hh
    simp only [I.PostCut_s] at hh
    split at hh
    · rfl
    · cases hh


-- loop.example/guardsonnets/spec.PostCut
noncomputable def S.PostCut_T : List (Nat × D.Spec) := [(13, S.PostOk_s), (36, S.PostRise_s)]
def S.PostCut_ann : Nat → List Nat × List Nat
  | _ => ([], [])
noncomputable def S.PostCut_F (args : List V) (h : List E) (κ : V → List E → R) : R := funC TD (tableK S.PostCut_T) S.PostCut_ann (drawAny TD (tableP S.PostCut_T)) FUEL Try.f24 args h κ
noncomputable def S.PostCut_tree {α : Type} (p0 : List Int) (p1 : Int) (p2 : List Int) (bytes : Int) (leaf0_ : Int × Bool × (List Int) × (List Int) → α) (fail_ : α) : α :=
  (optC (S.PostOk_t p0 p1 p2) (fun c_1 => (bif !c_1 then (leaf0_ (0, false, [], [])) else (bif decide (0 ≤ if (↑p2.length : Int) < if 0 > bytes then 0 else bytes then (↑p2.length : Int) else if 0 > bytes then 0 else bytes) && decide ((if (↑p2.length : Int) < if 0 > bytes then 0 else bytes then (↑p2.length : Int) else if 0 > bytes then 0 else bytes) ≤ (↑p2.length : Int)) then (optC (S.PostRise_t p0 (List.take (if (↑p2.length : Int) < if 0 > bytes then 0 else bytes then (↑p2.length : Int) else if 0 > bytes then 0 else bytes).toNat (List.drop 0 p2))) (fun c_2 => (leaf0_ (c_2.fst, c_2.snd.fst, c_2.snd.snd.fst, c_2.snd.snd.snd))) fail_) else fail_))) fail_)
theorem S.PostCut_tree_nat {α γ : Type} (g : α → γ) (p0 : List Int) (p1 : Int) (p2 : List Int) (bytes : Int) (leaf0_ : Int × Bool × (List Int) × (List Int) → α) (fail_ : α) : g (S.PostCut_tree p0 p1 p2 bytes leaf0_ fail_) = S.PostCut_tree p0 p1 p2 bytes (fun d => g (leaf0_ d)) (g fail_) := by
  unfold S.PostCut_tree; simp only [apply_cnd g, apply_optC g, apply_sumC g]
noncomputable def S.PostCut_t (p0 : List Int) (p1 : Int) (p2 : List Int) (bytes : Int) : Option (Int × Bool × (List Int) × (List Int)) := S.PostCut_tree p0 p1 p2 bytes (fun d => some d) none
theorem S.PostCut_den (p0 : List Int) (p1 : Int) (p2 : List Int) (bytes : Int) (κ : V → List E → R) : S.PostCut_F [.agg [.ro false (.ints .i64 p0), .int .i64 p1, .ro false (.ints .u8 p2)], .int .i64 bytes] [] κ = optC (S.PostCut_t p0 p1 p2 bytes) (fun (r : Int × Bool × (List Int) × (List Int)) => κ (.tup [(.agg [(.own 0), (.int .i64 r.1), (.own 1)]), (.bool r.2.1)]) [.row (.ints .i64 r.2.2.1), .row (.ints .u8 r.2.2.2)]) none := by
  have hu : S.PostCut_F [.agg [.ro false (.ints .i64 p0), .int .i64 p1, .ro false (.ints .u8 p2)], .int .i64 bytes] [] κ = S.PostCut_tree p0 p1 p2 bytes (fun d => κ (.tup [(.agg [(.own 0), (.int .i64 d.1), (.own 1)]), (.bool d.2.1)]) [.row (.ints .i64 d.2.2.1), .row (.ints .u8 d.2.2.2)]) none := by
    kernel_rfl
  rw [hu]
  exact (S.PostCut_tree_nat (fun o => optC o (fun (r : Int × Bool × (List Int) × (List Int)) => κ (.tup [(.agg [(.own 0), (.int .i64 r.1), (.own 1)]), (.bool r.2.1)]) [.row (.ints .i64 r.2.2.1), .row (.ints .u8 r.2.2.2)]) none) p0 p1 p2 bytes (fun d => some d) none).symm
noncomputable def S.PostCut_s : D.Spec where
  keep := false
  pure := false
  add := true
  ds := [.tuple #[1, 0, 2], .invalid]
  sp := fun args h κ => match args, h with
    | [.agg [.ro false (.ints .i64 p0), .int .i64 p1, .ro false (.ints .u8 p2)], .int .i64 bytes], [] => optC (S.PostCut_t p0 p1 p2 bytes) (fun (r : Int × Bool × (List Int) × (List Int)) => κ (.tup [(.agg [(.own 0), (.int .i64 r.1), (.own 1)]), (.bool r.2.1)]) [.row (.ints .i64 r.2.2.1), .row (.ints .u8 r.2.2.2)]) none
    | _, _ => none
theorem S.PostCut_ok : SpecOk Try.prog 24 S.PostCut_s := by
  refine SpecOk.of TDok mixed (T := S.PostCut_T) ?_ (ann := S.PostCut_ann) Try.func24 rfl (by decide +kernel) ?_ ?_ ?_ ?_
  · intro p hp
    simp only [S.PostCut_T, List.mem_cons, List.not_mem_nil, or_false] at hp
    rcases hp with rfl | rfl
    · exact S.PostOk_ok
    · exact S.PostRise_ok
  · intro args h κ r hh
    simp only [S.PostCut_s] at hh
    split at hh
    · exact (S.PostCut_den _ _ _ _ κ).trans hh
    · cases hh
  · intro args h κ r hh
    simp only [S.PostCut_s] at hh ⊢
    split at hh
    · exact optC_law2 (F := fun (r : Int × Bool × (List Int) × (List Int)) κ => κ (.tup [(.agg [(.own 0), (.int .i64 r.1), (.own 1)]), (.bool r.2.1)]) [.row (.ints .i64 r.2.2.1), .row (.ints .u8 r.2.2.2)]) (fun b κ r hb => ⟨_, _, hb, fun _ => rfl⟩) hh
    · cases hh
  · intro hh; cases hh
  · intro _ args h κ r hh
    simp only [S.PostCut_s] at hh
    split at hh
    · rfl
    · cases hh


-- loop.example/guardsonnets/impl.PostNew
noncomputable def I.PostNew_T : List (Nat × D.Spec) := [(14, I.PostRise_s)]
def I.PostNew_ann : Nat → List Nat × List Nat
  | _ => ([], [])
noncomputable def I.PostNew_F (args : List V) (h : List E) (κ : V → List E → R) : R := funC TD (tableK I.PostNew_T) I.PostNew_ann (drawAny TD (tableP I.PostNew_T)) FUEL Try.f26 args h κ
noncomputable def I.PostNew_tree {α : Type} (net : List Int) (leaf0_ : Int × Bool × (List Int) × (List Int) → α) (fail_ : α) : α :=
  (optC (I.PostRise_t net []) (fun c_1 => (leaf0_ (c_1.fst, c_1.snd.fst, c_1.snd.snd.fst, c_1.snd.snd.snd))) fail_)
theorem I.PostNew_tree_nat {α γ : Type} (g : α → γ) (net : List Int) (leaf0_ : Int × Bool × (List Int) × (List Int) → α) (fail_ : α) : g (I.PostNew_tree net leaf0_ fail_) = I.PostNew_tree net (fun d => g (leaf0_ d)) (g fail_) := by
  unfold I.PostNew_tree; simp only [apply_cnd g, apply_optC g, apply_sumC g]
noncomputable def I.PostNew_t (net : List Int) : Option (Int × Bool × (List Int) × (List Int)) := I.PostNew_tree net (fun d => some d) none
theorem I.PostNew_den (net : List Int) (κ : V → List E → R) : I.PostNew_F [.ro false (.ints .i64 net)] [] κ = optC (I.PostNew_t net) (fun (r : Int × Bool × (List Int) × (List Int)) => κ (.tup [(.agg [(.own 0), (.int .i64 r.1), (.own 1)]), (.bool r.2.1)]) [.row (.ints .i64 r.2.2.1), .row (.ints .u8 r.2.2.2)]) none := by
  have hu : I.PostNew_F [.ro false (.ints .i64 net)] [] κ = I.PostNew_tree net (fun d => κ (.tup [(.agg [(.own 0), (.int .i64 d.1), (.own 1)]), (.bool d.2.1)]) [.row (.ints .i64 d.2.2.1), .row (.ints .u8 d.2.2.2)]) none := by
    kernel_rfl
  rw [hu]
  exact (I.PostNew_tree_nat (fun o => optC o (fun (r : Int × Bool × (List Int) × (List Int)) => κ (.tup [(.agg [(.own 0), (.int .i64 r.1), (.own 1)]), (.bool r.2.1)]) [.row (.ints .i64 r.2.2.1), .row (.ints .u8 r.2.2.2)]) none) net (fun d => some d) none).symm
noncomputable def I.PostNew_s : D.Spec where
  keep := false
  pure := false
  add := true
  ds := [.int .i64]
  sp := fun args h κ => match args, h with
    | [.ro false (.ints .i64 net)], [] => optC (I.PostNew_t net) (fun (r : Int × Bool × (List Int) × (List Int)) => κ (.tup [(.agg [(.own 0), (.int .i64 r.1), (.own 1)]), (.bool r.2.1)]) [.row (.ints .i64 r.2.2.1), .row (.ints .u8 r.2.2.2)]) none
    | _, _ => none
theorem I.PostNew_ok : SpecOk Try.prog 26 I.PostNew_s := by
  refine SpecOk.of TDok mixed (T := I.PostNew_T) ?_ (ann := I.PostNew_ann) Try.func26 rfl (by decide +kernel) ?_ ?_ ?_ ?_
  · intro p hp
    simp only [I.PostNew_T, List.mem_cons, List.not_mem_nil, or_false] at hp
    rcases hp with rfl
    · exact I.PostRise_ok
  · intro args h κ r hh
    simp only [I.PostNew_s] at hh
    split at hh
    · exact (I.PostNew_den _ κ).trans hh
    · cases hh
  · intro args h κ r hh
    simp only [I.PostNew_s] at hh ⊢
    split at hh
    · exact optC_law2 (F := fun (r : Int × Bool × (List Int) × (List Int)) κ => κ (.tup [(.agg [(.own 0), (.int .i64 r.1), (.own 1)]), (.bool r.2.1)]) [.row (.ints .i64 r.2.2.1), .row (.ints .u8 r.2.2.2)]) (fun b κ r hb => ⟨_, _, hb, fun _ => rfl⟩) hh
    · cases hh
  · intro hh; cases hh
  · intro _ args h κ r hh
    simp only [I.PostNew_s] at hh
    split at hh
    · rfl
    · cases hh


-- loop.example/guardsonnets/laws.FnPostCut
noncomputable def L.FnPostCut_T : List (Nat × D.Spec) := [(22, S.DrawPostCut_s), (23, I.PostCut_s), (24, S.PostCut_s), (15, L.samePost_s), (12, I.PostOk_s), (17, L.alive_s), (25, S.LogPlaces_s), (26, I.PostNew_s), (19, I.PostAsk_s)]
def L.FnPostCut_ann : Nat → List Nat × List Nat
  | 13 => ([3, 4, 5, 9, 11, 13], [2, 5, 11])
  | _ => ([], [])
noncomputable def L.FnPostCut_F (args : List V) (h : List E) (κ : V → List E → R) : R := funC TD (tableK L.FnPostCut_T) L.FnPostCut_ann (drawAny TD (tableP L.FnPostCut_T)) FUEL Try.f5 args h κ
noncomputable def L.FnPostCut_L13 (n : Nat) (σ : St) (k : X → St → R) : R := iterC 0 (fun σ k => denC TD (tableK L.FnPostCut_T) L.FnPostCut_ann (drawAny TD (tableP L.FnPostCut_T)) 0 FUEL ((findLoop 13 (Try.f5.body.getD .skip)).getD .skip) σ k) [3, 4, 5, 9, 11, 13] [2, 5, 11] n σ k
noncomputable def L.FnPostCut_k13 (κ : V → List E → R) : X → St → R := (afterC TD (tableK L.FnPostCut_T) L.FnPostCut_ann (drawAny TD (tableP L.FnPostCut_T)) 0 FUEL 13 (Try.f5.body.getD .skip) (finC TD 0 Try.f5 κ)).getD (fun _ _ => none)
noncomputable def L.FnPostCut_step13 {α : Type} (x4 : Int) (x13 : Int) (r0_1 : Int) (r1_1 : Int) (r2 : List Int) (r3_1 : Int) (r4 : List Int) (r5 : List Int) (r6 : List Int) (r7 : List Int) (r8 : List Int) (r9 : List Int) (next_ : Int × Int × Int × (List Int) × Int × (List Int) × (List Int) × (List Int) × (List Int) × (List Int) × (List Int) → α) (out0_ : Bool × Int × Int × (List Int) × (List Int) × (List Int) × (List Int) → α) (out1_ : Int × Int × (List Int) × (List Int) × (List Int) × (List Int) → α) (fail_ : α) : α :=
  (bif decide (x13 < IntKind.i64.wrap ((if (↑r5.length : Int) < if 0 > x4 then 0 else x4 then (↑r5.length : Int) else if 0 > x4 then 0 else x4).tdiv 3)) then (bif decide (0 ≤ x13) && decide (x13 < (↑r2.length : Int)) then (bif decide (x13.toNat < r2.length) then (optC (I.PostAsk_t r8 r3_1 r9 (eli r2 x13.toNat)) (fun c_10 => (bif !c_10.snd.fst then (out0_ (false, r1_1, c_10.fst, r6, r7, c_10.snd.snd.fst, c_10.snd.snd.snd)) else (next_ (IntKind.i64.wrap (x13 + 1), r0_1, r1_1, r2, c_10.fst, r4, r5, r6, r7, c_10.snd.snd.fst, c_10.snd.snd.snd)))) fail_) else fail_) else fail_) else (out1_ (r1_1, r3_1, r6, r7, r8, r9)))
theorem L.FnPostCut_step13_nat {α γ : Type} (g : α → γ) (x4 : Int) (x13 : Int) (r0_1 : Int) (r1_1 : Int) (r2 : List Int) (r3_1 : Int) (r4 : List Int) (r5 : List Int) (r6 : List Int) (r7 : List Int) (r8 : List Int) (r9 : List Int) (next_ : Int × Int × Int × (List Int) × Int × (List Int) × (List Int) × (List Int) × (List Int) × (List Int) × (List Int) → α) (out0_ : Bool × Int × Int × (List Int) × (List Int) × (List Int) × (List Int) → α) (out1_ : Int × Int × (List Int) × (List Int) × (List Int) × (List Int) → α) (fail_ : α) : g (L.FnPostCut_step13 x4 x13 r0_1 r1_1 r2 r3_1 r4 r5 r6 r7 r8 r9 next_ out0_ out1_ fail_) = L.FnPostCut_step13 x4 x13 r0_1 r1_1 r2 r3_1 r4 r5 r6 r7 r8 r9 (fun s => g (next_ s)) (fun d => g (out0_ d)) (fun d => g (out1_ d)) (g fail_) := by
  unfold L.FnPostCut_step13; simp only [apply_cnd g, apply_optC g, apply_sumC g]
noncomputable def L.FnPostCut_run13 (x4 : Int) : Nat → Int × Int × Int × (List Int) × Int × (List Int) × (List Int) × (List Int) × (List Int) × (List Int) × (List Int) → Option ((Bool × Int × Int × (List Int) × (List Int) × (List Int) × (List Int)) ⊕ (Int × Int × (List Int) × (List Int) × (List Int) × (List Int)))
  | 0, _ => none
  | n + 1, s_ => L.FnPostCut_step13 x4 s_.1 s_.2.1 s_.2.2.1 s_.2.2.2.1 s_.2.2.2.2.1 s_.2.2.2.2.2.1 s_.2.2.2.2.2.2.1 s_.2.2.2.2.2.2.2.1 s_.2.2.2.2.2.2.2.2.1 s_.2.2.2.2.2.2.2.2.2.1 s_.2.2.2.2.2.2.2.2.2.2 (L.FnPostCut_run13 x4 n) (fun d => some ((Sum.inl d))) (fun d => some ((Sum.inr d))) none
theorem L.FnPostCut_L13_run (x4 : Int) (n : Nat) (s_ : Int × Int × Int × (List Int) × Int × (List Int) × (List Int) × (List Int) × (List Int) × (List Int) × (List Int)) (k : X → St → R) : L.FnPostCut_L13 n { n := 88, t := [(3, (.ptr 0 0)), (4, (.int .i64 x4)), (5, (.ptr 1 0)), (9, (.own 2)), (11, (.ptr 3 0)), (13, (.int .i64 s_.1))], h := [.cells [(.own 4), (.int .i64 s_.2.1), (.own 5)], .cells [(.own 6), (.int .i64 s_.2.2.1), (.own 7)], .row (.ints .i64 s_.2.2.2.1), .cells [(.own 8), (.int .i64 s_.2.2.2.2.1), (.own 9)], .row (.ints .i64 s_.2.2.2.2.2.1), .row (.ints .u8 s_.2.2.2.2.2.2.1), .row (.ints .i64 s_.2.2.2.2.2.2.2.1), .row (.ints .u8 s_.2.2.2.2.2.2.2.2.1), .row (.ints .i64 s_.2.2.2.2.2.2.2.2.2.1), .row (.ints .u8 s_.2.2.2.2.2.2.2.2.2.2)] } k = optC (L.FnPostCut_run13 x4 n s_) (fun (r : (Bool × Int × Int × (List Int) × (List Int) × (List Int) × (List Int)) ⊕ (Int × Int × (List Int) × (List Int) × (List Int) × (List Int))) => (sumC r (fun (r : Bool × Int × Int × (List Int) × (List Int) × (List Int) × (List Int)) => k (.ret) { n := 88, t := [(2, (.bool r.1)), (5, (.ptr 0 0)), (11, (.ptr 1 0))], h := [.cells [(.own 2), (.int .i64 r.2.1), (.own 3)], .cells [(.own 4), (.int .i64 r.2.2.1), (.own 5)], .row (.ints .i64 r.2.2.2.1), .row (.ints .u8 r.2.2.2.2.1), .row (.ints .i64 r.2.2.2.2.2.1), .row (.ints .u8 r.2.2.2.2.2.2)] }) (fun (r : Int × Int × (List Int) × (List Int) × (List Int) × (List Int)) => k (.exit 0) { n := 88, t := [(2, .junk), (5, (.ptr 0 0)), (11, (.ptr 1 0))], h := [.cells [(.own 2), (.int .i64 r.1), (.own 3)], .cells [(.own 4), (.int .i64 r.2.1), (.own 5)], .row (.ints .i64 r.2.2.1), .row (.ints .u8 r.2.2.2.1), .row (.ints .i64 r.2.2.2.2.1), .row (.ints .u8 r.2.2.2.2.2)] }))) none := by
  induction n generalizing s_ with
  | zero => rfl
  | succ n ih =>
    have hu : L.FnPostCut_L13 (n + 1) { n := 88, t := [(3, (.ptr 0 0)), (4, (.int .i64 x4)), (5, (.ptr 1 0)), (9, (.own 2)), (11, (.ptr 3 0)), (13, (.int .i64 s_.1))], h := [.cells [(.own 4), (.int .i64 s_.2.1), (.own 5)], .cells [(.own 6), (.int .i64 s_.2.2.1), (.own 7)], .row (.ints .i64 s_.2.2.2.1), .cells [(.own 8), (.int .i64 s_.2.2.2.2.1), (.own 9)], .row (.ints .i64 s_.2.2.2.2.2.1), .row (.ints .u8 s_.2.2.2.2.2.2.1), .row (.ints .i64 s_.2.2.2.2.2.2.2.1), .row (.ints .u8 s_.2.2.2.2.2.2.2.2.1), .row (.ints .i64 s_.2.2.2.2.2.2.2.2.2.1), .row (.ints .u8 s_.2.2.2.2.2.2.2.2.2.2)] } k = L.FnPostCut_step13 x4 s_.1 s_.2.1 s_.2.2.1 s_.2.2.2.1 s_.2.2.2.2.1 s_.2.2.2.2.2.1 s_.2.2.2.2.2.2.1 s_.2.2.2.2.2.2.2.1 s_.2.2.2.2.2.2.2.2.1 s_.2.2.2.2.2.2.2.2.2.1 s_.2.2.2.2.2.2.2.2.2.2 (fun s_ => L.FnPostCut_L13 n { n := 88, t := [(3, (.ptr 0 0)), (4, (.int .i64 x4)), (5, (.ptr 1 0)), (9, (.own 2)), (11, (.ptr 3 0)), (13, (.int .i64 s_.1))], h := [.cells [(.own 4), (.int .i64 s_.2.1), (.own 5)], .cells [(.own 6), (.int .i64 s_.2.2.1), (.own 7)], .row (.ints .i64 s_.2.2.2.1), .cells [(.own 8), (.int .i64 s_.2.2.2.2.1), (.own 9)], .row (.ints .i64 s_.2.2.2.2.2.1), .row (.ints .u8 s_.2.2.2.2.2.2.1), .row (.ints .i64 s_.2.2.2.2.2.2.2.1), .row (.ints .u8 s_.2.2.2.2.2.2.2.2.1), .row (.ints .i64 s_.2.2.2.2.2.2.2.2.2.1), .row (.ints .u8 s_.2.2.2.2.2.2.2.2.2.2)] } k) (fun d => k (.ret) { n := 88, t := [(2, (.bool d.1)), (5, (.ptr 0 0)), (11, (.ptr 1 0))], h := [.cells [(.own 2), (.int .i64 d.2.1), (.own 3)], .cells [(.own 4), (.int .i64 d.2.2.1), (.own 5)], .row (.ints .i64 d.2.2.2.1), .row (.ints .u8 d.2.2.2.2.1), .row (.ints .i64 d.2.2.2.2.2.1), .row (.ints .u8 d.2.2.2.2.2.2)] }) (fun d => k (.exit 0) { n := 88, t := [(2, .junk), (5, (.ptr 0 0)), (11, (.ptr 1 0))], h := [.cells [(.own 2), (.int .i64 d.1), (.own 3)], .cells [(.own 4), (.int .i64 d.2.1), (.own 5)], .row (.ints .i64 d.2.2.1), .row (.ints .u8 d.2.2.2.1), .row (.ints .i64 d.2.2.2.2.1), .row (.ints .u8 d.2.2.2.2.2)] }) none := by
      kernel_rfl
    have hs : (fun s_ : Int × Int × Int × (List Int) × Int × (List Int) × (List Int) × (List Int) × (List Int) × (List Int) × (List Int) => L.FnPostCut_L13 n { n := 88, t := [(3, (.ptr 0 0)), (4, (.int .i64 x4)), (5, (.ptr 1 0)), (9, (.own 2)), (11, (.ptr 3 0)), (13, (.int .i64 s_.1))], h := [.cells [(.own 4), (.int .i64 s_.2.1), (.own 5)], .cells [(.own 6), (.int .i64 s_.2.2.1), (.own 7)], .row (.ints .i64 s_.2.2.2.1), .cells [(.own 8), (.int .i64 s_.2.2.2.2.1), (.own 9)], .row (.ints .i64 s_.2.2.2.2.2.1), .row (.ints .u8 s_.2.2.2.2.2.2.1), .row (.ints .i64 s_.2.2.2.2.2.2.2.1), .row (.ints .u8 s_.2.2.2.2.2.2.2.2.1), .row (.ints .i64 s_.2.2.2.2.2.2.2.2.2.1), .row (.ints .u8 s_.2.2.2.2.2.2.2.2.2.2)] } k) = fun s_ => optC (L.FnPostCut_run13 x4 n s_) (fun (r : (Bool × Int × Int × (List Int) × (List Int) × (List Int) × (List Int)) ⊕ (Int × Int × (List Int) × (List Int) × (List Int) × (List Int))) => (sumC r (fun (r : Bool × Int × Int × (List Int) × (List Int) × (List Int) × (List Int)) => k (.ret) { n := 88, t := [(2, (.bool r.1)), (5, (.ptr 0 0)), (11, (.ptr 1 0))], h := [.cells [(.own 2), (.int .i64 r.2.1), (.own 3)], .cells [(.own 4), (.int .i64 r.2.2.1), (.own 5)], .row (.ints .i64 r.2.2.2.1), .row (.ints .u8 r.2.2.2.2.1), .row (.ints .i64 r.2.2.2.2.2.1), .row (.ints .u8 r.2.2.2.2.2.2)] }) (fun (r : Int × Int × (List Int) × (List Int) × (List Int) × (List Int)) => k (.exit 0) { n := 88, t := [(2, .junk), (5, (.ptr 0 0)), (11, (.ptr 1 0))], h := [.cells [(.own 2), (.int .i64 r.1), (.own 3)], .cells [(.own 4), (.int .i64 r.2.1), (.own 5)], .row (.ints .i64 r.2.2.1), .row (.ints .u8 r.2.2.2.1), .row (.ints .i64 r.2.2.2.2.1), .row (.ints .u8 r.2.2.2.2.2)] }))) none := funext ih
    rw [hu, hs]
    exact (L.FnPostCut_step13_nat (fun o => optC o (fun (r : (Bool × Int × Int × (List Int) × (List Int) × (List Int) × (List Int)) ⊕ (Int × Int × (List Int) × (List Int) × (List Int) × (List Int))) => (sumC r (fun (r : Bool × Int × Int × (List Int) × (List Int) × (List Int) × (List Int)) => k (.ret) { n := 88, t := [(2, (.bool r.1)), (5, (.ptr 0 0)), (11, (.ptr 1 0))], h := [.cells [(.own 2), (.int .i64 r.2.1), (.own 3)], .cells [(.own 4), (.int .i64 r.2.2.1), (.own 5)], .row (.ints .i64 r.2.2.2.1), .row (.ints .u8 r.2.2.2.2.1), .row (.ints .i64 r.2.2.2.2.2.1), .row (.ints .u8 r.2.2.2.2.2.2)] }) (fun (r : Int × Int × (List Int) × (List Int) × (List Int) × (List Int)) => k (.exit 0) { n := 88, t := [(2, .junk), (5, (.ptr 0 0)), (11, (.ptr 1 0))], h := [.cells [(.own 2), (.int .i64 r.1), (.own 3)], .cells [(.own 4), (.int .i64 r.2.1), (.own 5)], .row (.ints .i64 r.2.2.1), .row (.ints .u8 r.2.2.2.1), .row (.ints .i64 r.2.2.2.2.1), .row (.ints .u8 r.2.2.2.2.2)] }))) none) x4 s_.1 s_.2.1 s_.2.2.1 s_.2.2.2.1 s_.2.2.2.2.1 s_.2.2.2.2.2.1 s_.2.2.2.2.2.2.1 s_.2.2.2.2.2.2.2.1 s_.2.2.2.2.2.2.2.2.1 s_.2.2.2.2.2.2.2.2.2.1 s_.2.2.2.2.2.2.2.2.2.2 (L.FnPostCut_run13 x4 n) (fun d => some ((Sum.inl d))) (fun d => some ((Sum.inr d))) none).symm
noncomputable def L.FnPostCut_step1013 {α : Type} (x4 : Int) (x13 : Int) (r0_1 : Int) (r0_2o : Nat) (r0_2n : Nat) (r1_1 : Int) (r2 : List Int) (r3_1 : Int) (r4 : List Int) (r5 : List Int) (r6 : List Int) (r7 : List Int) (r8 : List Int) (r9 : List Int) (next_ : Int × Int × Nat × Nat × Int × (List Int) × Int × (List Int) × (List Int) × (List Int) × (List Int) × (List Int) × (List Int) → α) (out0_ : Bool × Int × Int × (List Int) × (List Int) × (List Int) × (List Int) → α) (out1_ : Int × Int × (List Int) × (List Int) × (List Int) × (List Int) → α) (fail_ : α) : α :=
  (bif decide (x13 < IntKind.i64.wrap ((if (↑r0_2n : Int) < if 0 > x4 then 0 else x4 then (↑r0_2n : Int) else if 0 > x4 then 0 else x4).tdiv 3)) then (bif decide (0 ≤ x13) && decide (x13 < (↑r2.length : Int)) then (bif decide (x13.toNat < r2.length) then (optC (I.PostAsk_t r8 r3_1 r9 (eli r2 x13.toNat)) (fun c_20 => (bif !c_20.snd.fst then (out0_ (false, r1_1, c_20.fst, r6, r7, c_20.snd.snd.fst, c_20.snd.snd.snd)) else (next_ (IntKind.i64.wrap (x13 + 1), r0_1, r0_2o, r0_2n, r1_1, r2, c_20.fst, r4, r5, r6, r7, c_20.snd.snd.fst, c_20.snd.snd.snd)))) fail_) else fail_) else fail_) else (out1_ (r1_1, r3_1, r6, r7, r8, r9)))
theorem L.FnPostCut_step1013_nat {α γ : Type} (g : α → γ) (x4 : Int) (x13 : Int) (r0_1 : Int) (r0_2o : Nat) (r0_2n : Nat) (r1_1 : Int) (r2 : List Int) (r3_1 : Int) (r4 : List Int) (r5 : List Int) (r6 : List Int) (r7 : List Int) (r8 : List Int) (r9 : List Int) (next_ : Int × Int × Nat × Nat × Int × (List Int) × Int × (List Int) × (List Int) × (List Int) × (List Int) × (List Int) × (List Int) → α) (out0_ : Bool × Int × Int × (List Int) × (List Int) × (List Int) × (List Int) → α) (out1_ : Int × Int × (List Int) × (List Int) × (List Int) × (List Int) → α) (fail_ : α) : g (L.FnPostCut_step1013 x4 x13 r0_1 r0_2o r0_2n r1_1 r2 r3_1 r4 r5 r6 r7 r8 r9 next_ out0_ out1_ fail_) = L.FnPostCut_step1013 x4 x13 r0_1 r0_2o r0_2n r1_1 r2 r3_1 r4 r5 r6 r7 r8 r9 (fun s => g (next_ s)) (fun d => g (out0_ d)) (fun d => g (out1_ d)) (g fail_) := by
  unfold L.FnPostCut_step1013; simp only [apply_cnd g, apply_optC g, apply_sumC g]
noncomputable def L.FnPostCut_run1013 (x4 : Int) : Nat → Int × Int × Nat × Nat × Int × (List Int) × Int × (List Int) × (List Int) × (List Int) × (List Int) × (List Int) × (List Int) → Option ((Bool × Int × Int × (List Int) × (List Int) × (List Int) × (List Int)) ⊕ (Int × Int × (List Int) × (List Int) × (List Int) × (List Int)))
  | 0, _ => none
  | n + 1, s_ => L.FnPostCut_step1013 x4 s_.1 s_.2.1 s_.2.2.1 s_.2.2.2.1 s_.2.2.2.2.1 s_.2.2.2.2.2.1 s_.2.2.2.2.2.2.1 s_.2.2.2.2.2.2.2.1 s_.2.2.2.2.2.2.2.2.1 s_.2.2.2.2.2.2.2.2.2.1 s_.2.2.2.2.2.2.2.2.2.2.1 s_.2.2.2.2.2.2.2.2.2.2.2.1 s_.2.2.2.2.2.2.2.2.2.2.2.2 (L.FnPostCut_run1013 x4 n) (fun d => some ((Sum.inl d))) (fun d => some ((Sum.inr d))) none
theorem L.FnPostCut_L1013_run (x4 : Int) (n : Nat) (s_ : Int × Int × Nat × Nat × Int × (List Int) × Int × (List Int) × (List Int) × (List Int) × (List Int) × (List Int) × (List Int)) (k : X → St → R) : L.FnPostCut_L13 n { n := 88, t := [(3, (.ptr 0 0)), (4, (.int .i64 x4)), (5, (.ptr 1 0)), (9, (.own 2)), (11, (.ptr 3 0)), (13, (.int .i64 s_.1))], h := [.cells [(.own 4), (.int .i64 s_.2.1), (.sub 5 s_.2.2.1 s_.2.2.2.1)], .cells [(.own 6), (.int .i64 s_.2.2.2.2.1), (.own 7)], .row (.ints .i64 s_.2.2.2.2.2.1), .cells [(.own 8), (.int .i64 s_.2.2.2.2.2.2.1), (.own 9)], .row (.ints .i64 s_.2.2.2.2.2.2.2.1), .row (.ints .u8 s_.2.2.2.2.2.2.2.2.1), .row (.ints .i64 s_.2.2.2.2.2.2.2.2.2.1), .row (.ints .u8 s_.2.2.2.2.2.2.2.2.2.2.1), .row (.ints .i64 s_.2.2.2.2.2.2.2.2.2.2.2.1), .row (.ints .u8 s_.2.2.2.2.2.2.2.2.2.2.2.2)] } k = optC (L.FnPostCut_run1013 x4 n s_) (fun (r : (Bool × Int × Int × (List Int) × (List Int) × (List Int) × (List Int)) ⊕ (Int × Int × (List Int) × (List Int) × (List Int) × (List Int))) => (sumC r (fun (r : Bool × Int × Int × (List Int) × (List Int) × (List Int) × (List Int)) => k (.ret) { n := 88, t := [(2, (.bool r.1)), (5, (.ptr 0 0)), (11, (.ptr 1 0))], h := [.cells [(.own 2), (.int .i64 r.2.1), (.own 3)], .cells [(.own 4), (.int .i64 r.2.2.1), (.own 5)], .row (.ints .i64 r.2.2.2.1), .row (.ints .u8 r.2.2.2.2.1), .row (.ints .i64 r.2.2.2.2.2.1), .row (.ints .u8 r.2.2.2.2.2.2)] }) (fun (r : Int × Int × (List Int) × (List Int) × (List Int) × (List Int)) => k (.exit 0) { n := 88, t := [(2, .junk), (5, (.ptr 0 0)), (11, (.ptr 1 0))], h := [.cells [(.own 2), (.int .i64 r.1), (.own 3)], .cells [(.own 4), (.int .i64 r.2.1), (.own 5)], .row (.ints .i64 r.2.2.1), .row (.ints .u8 r.2.2.2.1), .row (.ints .i64 r.2.2.2.2.1), .row (.ints .u8 r.2.2.2.2.2)] }))) none := by
  induction n generalizing s_ with
  | zero => rfl
  | succ n ih =>
    have hu : L.FnPostCut_L13 (n + 1) { n := 88, t := [(3, (.ptr 0 0)), (4, (.int .i64 x4)), (5, (.ptr 1 0)), (9, (.own 2)), (11, (.ptr 3 0)), (13, (.int .i64 s_.1))], h := [.cells [(.own 4), (.int .i64 s_.2.1), (.sub 5 s_.2.2.1 s_.2.2.2.1)], .cells [(.own 6), (.int .i64 s_.2.2.2.2.1), (.own 7)], .row (.ints .i64 s_.2.2.2.2.2.1), .cells [(.own 8), (.int .i64 s_.2.2.2.2.2.2.1), (.own 9)], .row (.ints .i64 s_.2.2.2.2.2.2.2.1), .row (.ints .u8 s_.2.2.2.2.2.2.2.2.1), .row (.ints .i64 s_.2.2.2.2.2.2.2.2.2.1), .row (.ints .u8 s_.2.2.2.2.2.2.2.2.2.2.1), .row (.ints .i64 s_.2.2.2.2.2.2.2.2.2.2.2.1), .row (.ints .u8 s_.2.2.2.2.2.2.2.2.2.2.2.2)] } k = L.FnPostCut_step1013 x4 s_.1 s_.2.1 s_.2.2.1 s_.2.2.2.1 s_.2.2.2.2.1 s_.2.2.2.2.2.1 s_.2.2.2.2.2.2.1 s_.2.2.2.2.2.2.2.1 s_.2.2.2.2.2.2.2.2.1 s_.2.2.2.2.2.2.2.2.2.1 s_.2.2.2.2.2.2.2.2.2.2.1 s_.2.2.2.2.2.2.2.2.2.2.2.1 s_.2.2.2.2.2.2.2.2.2.2.2.2 (fun s_ => L.FnPostCut_L13 n { n := 88, t := [(3, (.ptr 0 0)), (4, (.int .i64 x4)), (5, (.ptr 1 0)), (9, (.own 2)), (11, (.ptr 3 0)), (13, (.int .i64 s_.1))], h := [.cells [(.own 4), (.int .i64 s_.2.1), (.sub 5 s_.2.2.1 s_.2.2.2.1)], .cells [(.own 6), (.int .i64 s_.2.2.2.2.1), (.own 7)], .row (.ints .i64 s_.2.2.2.2.2.1), .cells [(.own 8), (.int .i64 s_.2.2.2.2.2.2.1), (.own 9)], .row (.ints .i64 s_.2.2.2.2.2.2.2.1), .row (.ints .u8 s_.2.2.2.2.2.2.2.2.1), .row (.ints .i64 s_.2.2.2.2.2.2.2.2.2.1), .row (.ints .u8 s_.2.2.2.2.2.2.2.2.2.2.1), .row (.ints .i64 s_.2.2.2.2.2.2.2.2.2.2.2.1), .row (.ints .u8 s_.2.2.2.2.2.2.2.2.2.2.2.2)] } k) (fun d => k (.ret) { n := 88, t := [(2, (.bool d.1)), (5, (.ptr 0 0)), (11, (.ptr 1 0))], h := [.cells [(.own 2), (.int .i64 d.2.1), (.own 3)], .cells [(.own 4), (.int .i64 d.2.2.1), (.own 5)], .row (.ints .i64 d.2.2.2.1), .row (.ints .u8 d.2.2.2.2.1), .row (.ints .i64 d.2.2.2.2.2.1), .row (.ints .u8 d.2.2.2.2.2.2)] }) (fun d => k (.exit 0) { n := 88, t := [(2, .junk), (5, (.ptr 0 0)), (11, (.ptr 1 0))], h := [.cells [(.own 2), (.int .i64 d.1), (.own 3)], .cells [(.own 4), (.int .i64 d.2.1), (.own 5)], .row (.ints .i64 d.2.2.1), .row (.ints .u8 d.2.2.2.1), .row (.ints .i64 d.2.2.2.2.1), .row (.ints .u8 d.2.2.2.2.2)] }) none := by
      kernel_rfl
    have hs : (fun s_ : Int × Int × Nat × Nat × Int × (List Int) × Int × (List Int) × (List Int) × (List Int) × (List Int) × (List Int) × (List Int) => L.FnPostCut_L13 n { n := 88, t := [(3, (.ptr 0 0)), (4, (.int .i64 x4)), (5, (.ptr 1 0)), (9, (.own 2)), (11, (.ptr 3 0)), (13, (.int .i64 s_.1))], h := [.cells [(.own 4), (.int .i64 s_.2.1), (.sub 5 s_.2.2.1 s_.2.2.2.1)], .cells [(.own 6), (.int .i64 s_.2.2.2.2.1), (.own 7)], .row (.ints .i64 s_.2.2.2.2.2.1), .cells [(.own 8), (.int .i64 s_.2.2.2.2.2.2.1), (.own 9)], .row (.ints .i64 s_.2.2.2.2.2.2.2.1), .row (.ints .u8 s_.2.2.2.2.2.2.2.2.1), .row (.ints .i64 s_.2.2.2.2.2.2.2.2.2.1), .row (.ints .u8 s_.2.2.2.2.2.2.2.2.2.2.1), .row (.ints .i64 s_.2.2.2.2.2.2.2.2.2.2.2.1), .row (.ints .u8 s_.2.2.2.2.2.2.2.2.2.2.2.2)] } k) = fun s_ => optC (L.FnPostCut_run1013 x4 n s_) (fun (r : (Bool × Int × Int × (List Int) × (List Int) × (List Int) × (List Int)) ⊕ (Int × Int × (List Int) × (List Int) × (List Int) × (List Int))) => (sumC r (fun (r : Bool × Int × Int × (List Int) × (List Int) × (List Int) × (List Int)) => k (.ret) { n := 88, t := [(2, (.bool r.1)), (5, (.ptr 0 0)), (11, (.ptr 1 0))], h := [.cells [(.own 2), (.int .i64 r.2.1), (.own 3)], .cells [(.own 4), (.int .i64 r.2.2.1), (.own 5)], .row (.ints .i64 r.2.2.2.1), .row (.ints .u8 r.2.2.2.2.1), .row (.ints .i64 r.2.2.2.2.2.1), .row (.ints .u8 r.2.2.2.2.2.2)] }) (fun (r : Int × Int × (List Int) × (List Int) × (List Int) × (List Int)) => k (.exit 0) { n := 88, t := [(2, .junk), (5, (.ptr 0 0)), (11, (.ptr 1 0))], h := [.cells [(.own 2), (.int .i64 r.1), (.own 3)], .cells [(.own 4), (.int .i64 r.2.1), (.own 5)], .row (.ints .i64 r.2.2.1), .row (.ints .u8 r.2.2.2.1), .row (.ints .i64 r.2.2.2.2.1), .row (.ints .u8 r.2.2.2.2.2)] }))) none := funext ih
    rw [hu, hs]
    exact (L.FnPostCut_step1013_nat (fun o => optC o (fun (r : (Bool × Int × Int × (List Int) × (List Int) × (List Int) × (List Int)) ⊕ (Int × Int × (List Int) × (List Int) × (List Int) × (List Int))) => (sumC r (fun (r : Bool × Int × Int × (List Int) × (List Int) × (List Int) × (List Int)) => k (.ret) { n := 88, t := [(2, (.bool r.1)), (5, (.ptr 0 0)), (11, (.ptr 1 0))], h := [.cells [(.own 2), (.int .i64 r.2.1), (.own 3)], .cells [(.own 4), (.int .i64 r.2.2.1), (.own 5)], .row (.ints .i64 r.2.2.2.1), .row (.ints .u8 r.2.2.2.2.1), .row (.ints .i64 r.2.2.2.2.2.1), .row (.ints .u8 r.2.2.2.2.2.2)] }) (fun (r : Int × Int × (List Int) × (List Int) × (List Int) × (List Int)) => k (.exit 0) { n := 88, t := [(2, .junk), (5, (.ptr 0 0)), (11, (.ptr 1 0))], h := [.cells [(.own 2), (.int .i64 r.1), (.own 3)], .cells [(.own 4), (.int .i64 r.2.1), (.own 5)], .row (.ints .i64 r.2.2.1), .row (.ints .u8 r.2.2.2.1), .row (.ints .i64 r.2.2.2.2.1), .row (.ints .u8 r.2.2.2.2.2)] }))) none) x4 s_.1 s_.2.1 s_.2.2.1 s_.2.2.2.1 s_.2.2.2.2.1 s_.2.2.2.2.2.1 s_.2.2.2.2.2.2.1 s_.2.2.2.2.2.2.2.1 s_.2.2.2.2.2.2.2.2.1 s_.2.2.2.2.2.2.2.2.2.1 s_.2.2.2.2.2.2.2.2.2.2.1 s_.2.2.2.2.2.2.2.2.2.2.2.1 s_.2.2.2.2.2.2.2.2.2.2.2.2 (L.FnPostCut_run1013 x4 n) (fun d => some ((Sum.inl d))) (fun d => some ((Sum.inr d))) none).symm
noncomputable def L.FnPostCut_tree {α : Type} (code : List Int) (leaf0_ : Bool → α) (fail_ : α) : α :=
  (bif decide ((↑code.length : Int) > 1048576) then (leaf0_ true) else (optC (S.DrawPostCut_t code) (fun c_1 => (sumC c_1 (fun c_2 => (optC (I.PostCut_t c_2.snd.snd.fst c_2.fst c_2.snd.snd.snd c_2.snd.fst) (fun c_3 => (optC (S.PostCut_t c_2.snd.snd.fst c_2.fst c_2.snd.snd.snd c_2.snd.fst) (fun c_4 => (bif !c_3.snd.fst == c_4.snd.fst then (leaf0_ false) else (optC (L.samePost_t c_3.snd.snd.fst c_3.fst c_3.snd.snd.snd c_4.snd.snd.fst c_4.fst c_4.snd.snd.snd) (fun c_5 => (bif !c_5 then (leaf0_ false) else (bif !c_3.snd.fst then (optC (I.PostOk_t c_2.snd.snd.fst c_2.fst c_2.snd.snd.snd) (fun c_6 => (bif !c_6 then (optC (L.alive_t) (fun c_7 => (leaf0_ c_7)) fail_) else (leaf0_ false))) fail_) else (optC (S.LogPlaces_t c_2.snd.snd.snd) (fun c_8 => (optC (I.PostNew_t c_2.snd.snd.fst) (fun c_9 => (optC (L.FnPostCut_run13 c_2.snd.fst FUEL (0, c_2.fst, c_3.fst, c_8.snd, c_9.fst, c_2.snd.snd.fst, c_2.snd.snd.snd, c_3.snd.snd.fst, c_3.snd.snd.snd, c_9.snd.snd.fst, c_9.snd.snd.snd)) (fun qy_11 => (sumC qy_11 (fun (qy_11 : Bool × Int × Int × (List Int) × (List Int) × (List Int) × (List Int)) => (leaf0_ qy_11.1)) (fun (qy_11 : Int × Int × (List Int) × (List Int) × (List Int) × (List Int)) => (optC (L.samePost_t qy_11.2.2.2.2.1 qy_11.2.1 qy_11.2.2.2.2.2 qy_11.2.2.1 qy_11.1 qy_11.2.2.2.1) (fun c_12 => (leaf0_ c_12)) fail_)))) fail_)) fail_)) fail_)))) fail_))) fail_)) fail_)) (fun c_2 => (optC (I.PostCut_t c_2.snd.snd.snd.snd.fst c_2.fst (List.take c_2.snd.snd.fst (List.drop c_2.snd.fst c_2.snd.snd.snd.snd.snd)) c_2.snd.snd.snd.fst) (fun c_13 => (optC (S.PostCut_t c_2.snd.snd.snd.snd.fst c_2.fst (List.take c_2.snd.snd.fst (List.drop c_2.snd.fst c_2.snd.snd.snd.snd.snd)) c_2.snd.snd.snd.fst) (fun c_14 => (bif !c_13.snd.fst == c_14.snd.fst then (leaf0_ false) else (optC (L.samePost_t c_13.snd.snd.fst c_13.fst c_13.snd.snd.snd c_14.snd.snd.fst c_14.fst c_14.snd.snd.snd) (fun c_15 => (bif !c_15 then (leaf0_ false) else (bif !c_13.snd.fst then (optC (I.PostOk_t c_2.snd.snd.snd.snd.fst c_2.fst (List.take c_2.snd.snd.fst (List.drop c_2.snd.fst c_2.snd.snd.snd.snd.snd))) (fun c_16 => (bif !c_16 then (optC (L.alive_t) (fun c_17 => (leaf0_ c_17)) fail_) else (leaf0_ false))) fail_) else (optC (S.LogPlaces_t (List.take c_2.snd.snd.fst (List.drop c_2.snd.fst c_2.snd.snd.snd.snd.snd))) (fun c_18 => (optC (I.PostNew_t c_2.snd.snd.snd.snd.fst) (fun c_19 => (optC (L.FnPostCut_run1013 c_2.snd.snd.snd.fst FUEL (0, c_2.fst, c_2.snd.fst, c_2.snd.snd.fst, c_13.fst, c_18.snd, c_19.fst, c_2.snd.snd.snd.snd.fst, c_2.snd.snd.snd.snd.snd, c_13.snd.snd.fst, c_13.snd.snd.snd, c_19.snd.snd.fst, c_19.snd.snd.snd)) (fun qy_21 => (sumC qy_21 (fun (qy_21 : Bool × Int × Int × (List Int) × (List Int) × (List Int) × (List Int)) => (leaf0_ qy_21.1)) (fun (qy_21 : Int × Int × (List Int) × (List Int) × (List Int) × (List Int)) => (optC (L.samePost_t qy_21.2.2.2.2.1 qy_21.2.1 qy_21.2.2.2.2.2 qy_21.2.2.1 qy_21.1 qy_21.2.2.2.1) (fun c_22 => (leaf0_ c_22)) fail_)))) fail_)) fail_)) fail_)))) fail_))) fail_)) fail_)))) fail_))
theorem L.FnPostCut_tree_nat {α γ : Type} (g : α → γ) (code : List Int) (leaf0_ : Bool → α) (fail_ : α) : g (L.FnPostCut_tree code leaf0_ fail_) = L.FnPostCut_tree code (fun d => g (leaf0_ d)) (g fail_) := by
  unfold L.FnPostCut_tree; simp only [apply_cnd g, apply_optC g, apply_sumC g]
noncomputable def L.FnPostCut_t (code : List Int) : Option (Bool) := L.FnPostCut_tree code (fun d => some d) none
theorem L.FnPostCut_den (code : List Int) (κ : V → List E → R) : L.FnPostCut_F [.ro true (.ints .u8 code)] [] κ = optC (L.FnPostCut_t code) (fun (r : Bool) => κ (.bool r) []) none := by
  have hu : L.FnPostCut_F [.ro true (.ints .u8 code)] [] κ = L.FnPostCut_tree code (fun d => κ (.bool d) []) none := by
    refine Eq.trans (show L.FnPostCut_F [.ro true (.ints .u8 code)] [] κ = (bif decide ((↑code.length : Int) > 1048576) then (κ (.bool true) []) else (optC (S.DrawPostCut_t code) (fun c_1 => (sumC c_1 (fun c_2 => (optC (I.PostCut_t c_2.snd.snd.fst c_2.fst c_2.snd.snd.snd c_2.snd.fst) (fun c_3 => (optC (S.PostCut_t c_2.snd.snd.fst c_2.fst c_2.snd.snd.snd c_2.snd.fst) (fun c_4 => (bif !c_3.snd.fst == c_4.snd.fst then (κ (.bool false) []) else (optC (L.samePost_t c_3.snd.snd.fst c_3.fst c_3.snd.snd.snd c_4.snd.snd.fst c_4.fst c_4.snd.snd.snd) (fun c_5 => (bif !c_5 then (κ (.bool false) []) else (bif !c_3.snd.fst then (optC (I.PostOk_t c_2.snd.snd.fst c_2.fst c_2.snd.snd.snd) (fun c_6 => (bif !c_6 then (optC (L.alive_t) (fun c_7 => (κ (.bool c_7) [])) none) else (κ (.bool false) []))) none) else (optC (S.LogPlaces_t c_2.snd.snd.snd) (fun c_8 => (optC (I.PostNew_t c_2.snd.snd.fst) (fun c_9 => (L.FnPostCut_L13 FUEL { n := 88, t := [(3, (.ptr 0 0)), (4, (.int .i64 c_2.snd.fst)), (5, (.ptr 1 0)), (9, (.own 2)), (11, (.ptr 3 0)), (13, (.int .i64 0))], h := [.cells [(.own 4), (.int .i64 c_2.fst), (.own 5)], .cells [(.own 6), (.int .i64 c_3.fst), (.own 7)], .row (.ints .i64 c_8.snd), .cells [(.own 8), (.int .i64 c_9.fst), (.own 9)], .row (.ints .i64 c_2.snd.snd.fst), .row (.ints .u8 c_2.snd.snd.snd), .row (.ints .i64 c_3.snd.snd.fst), .row (.ints .u8 c_3.snd.snd.snd), .row (.ints .i64 c_9.snd.snd.fst), .row (.ints .u8 c_9.snd.snd.snd)] } (L.FnPostCut_k13 κ))) none)) none)))) none))) none)) none)) (fun c_2 => (optC (I.PostCut_t c_2.snd.snd.snd.snd.fst c_2.fst (List.take c_2.snd.snd.fst (List.drop c_2.snd.fst c_2.snd.snd.snd.snd.snd)) c_2.snd.snd.snd.fst) (fun c_13 => (optC (S.PostCut_t c_2.snd.snd.snd.snd.fst c_2.fst (List.take c_2.snd.snd.fst (List.drop c_2.snd.fst c_2.snd.snd.snd.snd.snd)) c_2.snd.snd.snd.fst) (fun c_14 => (bif !c_13.snd.fst == c_14.snd.fst then (κ (.bool false) []) else (optC (L.samePost_t c_13.snd.snd.fst c_13.fst c_13.snd.snd.snd c_14.snd.snd.fst c_14.fst c_14.snd.snd.snd) (fun c_15 => (bif !c_15 then (κ (.bool false) []) else (bif !c_13.snd.fst then (optC (I.PostOk_t c_2.snd.snd.snd.snd.fst c_2.fst (List.take c_2.snd.snd.fst (List.drop c_2.snd.fst c_2.snd.snd.snd.snd.snd))) (fun c_16 => (bif !c_16 then (optC (L.alive_t) (fun c_17 => (κ (.bool c_17) [])) none) else (κ (.bool false) []))) none) else (optC (S.LogPlaces_t (List.take c_2.snd.snd.fst (List.drop c_2.snd.fst c_2.snd.snd.snd.snd.snd))) (fun c_18 => (optC (I.PostNew_t c_2.snd.snd.snd.snd.fst) (fun c_19 => (L.FnPostCut_L13 FUEL { n := 88, t := [(3, (.ptr 0 0)), (4, (.int .i64 c_2.snd.snd.snd.fst)), (5, (.ptr 1 0)), (9, (.own 2)), (11, (.ptr 3 0)), (13, (.int .i64 0))], h := [.cells [(.own 4), (.int .i64 c_2.fst), (.sub 5 c_2.snd.fst c_2.snd.snd.fst)], .cells [(.own 6), (.int .i64 c_13.fst), (.own 7)], .row (.ints .i64 c_18.snd), .cells [(.own 8), (.int .i64 c_19.fst), (.own 9)], .row (.ints .i64 c_2.snd.snd.snd.snd.fst), .row (.ints .u8 c_2.snd.snd.snd.snd.snd), .row (.ints .i64 c_13.snd.snd.fst), .row (.ints .u8 c_13.snd.snd.snd), .row (.ints .i64 c_19.snd.snd.fst), .row (.ints .u8 c_19.snd.snd.snd)] } (L.FnPostCut_k13 κ))) none)) none)))) none))) none)) none)))) none)) by kernel_rfl) ?_
    refine cnd_congr ?_ ?_
    · kernel_rfl
    · refine optC_congr (fun c_1 => ?_)
      refine sumC_congr (fun c_2 => ?_) (fun c_2 => ?_)
      · refine optC_congr (fun c_3 => ?_)
        refine optC_congr (fun c_4 => ?_)
        refine cnd_congr ?_ ?_
        · kernel_rfl
        · refine optC_congr (fun c_5 => ?_)
          refine cnd_congr ?_ ?_
          · kernel_rfl
          · refine cnd_congr ?_ ?_
            · kernel_rfl
            · refine optC_congr (fun c_8 => ?_)
              refine optC_congr (fun c_9 => ?_)
              refine (L.FnPostCut_L13_run c_2.snd.fst FUEL (0, c_2.fst, c_3.fst, c_8.snd, c_9.fst, c_2.snd.snd.fst, c_2.snd.snd.snd, c_3.snd.snd.fst, c_3.snd.snd.snd, c_9.snd.snd.fst, c_9.snd.snd.snd) (L.FnPostCut_k13 κ)).trans (optC_congr (fun qy_11 => ?_))
              rcases qy_11 with qy_11 | qy_11
              · kernel_rfl
              · kernel_rfl
      · refine optC_congr (fun c_13 => ?_)
        refine optC_congr (fun c_14 => ?_)
        refine cnd_congr ?_ ?_
        · kernel_rfl
        · refine optC_congr (fun c_15 => ?_)
          refine cnd_congr ?_ ?_
          · kernel_rfl
          · refine cnd_congr ?_ ?_
            · kernel_rfl
            · refine optC_congr (fun c_18 => ?_)
              refine optC_congr (fun c_19 => ?_)
              refine (L.FnPostCut_L1013_run c_2.snd.snd.snd.fst FUEL (0, c_2.fst, c_2.snd.fst, c_2.snd.snd.fst, c_13.fst, c_18.snd, c_19.fst, c_2.snd.snd.snd.snd.fst, c_2.snd.snd.snd.snd.snd, c_13.snd.snd.fst, c_13.snd.snd.snd, c_19.snd.snd.fst, c_19.snd.snd.snd) (L.FnPostCut_k13 κ)).trans (optC_congr (fun qy_21 => ?_))
              rcases qy_21 with qy_21 | qy_21
              · kernel_rfl
              · kernel_rfl
  rw [hu]
  exact (L.FnPostCut_tree_nat (fun o => optC o (fun (r : Bool) => κ (.bool r) []) none) code (fun d => some d) none).symm
noncomputable def L.FnPostCut_s : D.Spec where
  keep := true
  pure := true
  add := true
  ds := [.int .u8]
  sp := fun args h κ => match args, h with
    | [.ro true (.ints .u8 code)], [] => optC (L.FnPostCut_t code) (fun (r : Bool) => κ (.bool r) []) none
    | _, _ => none
theorem L.FnPostCut_ok : SpecOk Try.prog 5 L.FnPostCut_s := by
  refine SpecOk.of TDok mixed (T := L.FnPostCut_T) ?_ (ann := L.FnPostCut_ann) Try.func5 rfl (by decide +kernel) ?_ ?_ ?_ ?_
  · intro p hp
    simp only [L.FnPostCut_T, List.mem_cons, List.not_mem_nil, or_false] at hp
    rcases hp with rfl | rfl | rfl | rfl | rfl | rfl | rfl | rfl | rfl
    · exact S.DrawPostCut_ok
    · exact I.PostCut_ok
    · exact S.PostCut_ok
    · exact L.samePost_ok
    · exact I.PostOk_ok
    · exact L.alive_ok
    · exact S.LogPlaces_ok
    · exact I.PostNew_ok
    · exact I.PostAsk_ok
  · intro args h κ r hh
    simp only [L.FnPostCut_s] at hh
    split at hh
    · exact (L.FnPostCut_den _ κ).trans hh
    · cases hh
  · intro args h κ r hh
    simp only [L.FnPostCut_s] at hh ⊢
    split at hh
    · exact optC_law2 (F := fun (r : Bool) κ => κ (.bool r) []) (fun b κ r hb => ⟨_, _, hb, fun _ => rfl⟩) hh
    · cases hh
  · intro _ args h κ r hh
    simp only [L.FnPostCut_s] at hh
    split at hh
    · exact ⟨rfl, fun _ => rfl⟩
    · cases hh
  · intro _ args h κ r hh
    simp only [L.FnPostCut_s] at hh
    split at hh
    · rfl
    · cases hh



end Go.Proofs.Ytgpgifpblchjjaa
