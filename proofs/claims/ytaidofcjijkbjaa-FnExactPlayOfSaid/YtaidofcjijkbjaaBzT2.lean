/- Twins of the translated functions, with their proofs. Conditions: none. -/
import Derived.Test.YtaidofcjijkbjaaBzT1
set_option linter.unusedVariables false
set_option linter.unusedSimpArgs false
set_option linter.unusedSectionVars false
namespace Go.Proofs.Ytaidofcjijkbjaa
open D Go.RowKit
-- loop.example/guardsonnets/laws.eqIntS
noncomputable def L.eqIntS_T : List (Nat × D.Spec) := []
def L.eqIntS_ann : Nat → List Nat × List Nat
  | 4 => ([0, 1, 5], [4])
  | _ => ([], [])
noncomputable def L.eqIntS_F (args : List V) (h : List E) (κ : V → List E → R) : R := funC TD (tableK L.eqIntS_T) L.eqIntS_ann (drawOk TD (tableP L.eqIntS_T)) FUEL Try.f18 args h κ
noncomputable def L.eqIntS_L4 (n : Nat) (σ : St) (k : X → St → R) : R := iterC 0 (fun σ k => denC TD (tableK L.eqIntS_T) L.eqIntS_ann (drawOk TD (tableP L.eqIntS_T)) 0 FUEL ((findLoop 4 (Try.f18.body.getD .skip)).getD .skip) σ k) [0, 1, 5] [4] n σ k
noncomputable def L.eqIntS_k4 (κ : V → List E → R) : X → St → R := (afterC TD (tableK L.eqIntS_T) L.eqIntS_ann (drawOk TD (tableP L.eqIntS_T)) 0 FUEL 4 (Try.f18.body.getD .skip) (finC TD 0 Try.f18 κ)).getD (fun _ _ => none)
noncomputable def L.eqIntS_step4 {α : Type} (x0 : List Int) (x1 : List Int) (x5 : Int) (next_ : Int → α) (out0_ : Bool → α) (out1_ : Unit → α) (fail_ : α) : α :=
  (bif decide (x5 < (↑x0.length : Int)) then (bif decide (0 ≤ x5) && decide (x5 < (↑x0.length : Int)) then (bif decide (0 ≤ x5) && decide (x5 < (↑x1.length : Int)) then (bif !eli x0 x5.toNat == eli x1 x5.toNat then (out0_ false) else (next_ (IntKind.i64.wrap (x5 + 1)))) else fail_) else fail_) else (out1_ ()))
theorem L.eqIntS_step4_nat {α γ : Type} (g : α → γ) (x0 : List Int) (x1 : List Int) (x5 : Int) (next_ : Int → α) (out0_ : Bool → α) (out1_ : Unit → α) (fail_ : α) : g (L.eqIntS_step4 x0 x1 x5 next_ out0_ out1_ fail_) = L.eqIntS_step4 x0 x1 x5 (fun s => g (next_ s)) (fun d => g (out0_ d)) (fun d => g (out1_ d)) (g fail_) := by
  unfold L.eqIntS_step4; simp only [apply_cnd g, apply_optC g, apply_sumC g]
noncomputable def L.eqIntS_run4 (x0 : List Int) (x1 : List Int) : Nat → Int → Option ((Bool) ⊕ (Unit))
  | 0, _ => none
  | n + 1, s_ => L.eqIntS_step4 x0 x1 s_ (L.eqIntS_run4 x0 x1 n) (fun d => some ((Sum.inl d))) (fun d => some ((Sum.inr d))) none
theorem L.eqIntS_L4_run (x0 : List Int) (x1 : List Int) (n : Nat) (s_ : Int) (k : X → St → R) : L.eqIntS_L4 n { n := 26, t := [(0, (.ro false (.ints .i64 x0))), (1, (.ro false (.ints .i64 x1))), (5, (.int .i64 s_))], h := [] } k = optC (L.eqIntS_run4 x0 x1 n s_) (fun (r : (Bool) ⊕ (Unit)) => (sumC r (fun (r : Bool) => k (.ret) { n := 26, t := [(4, (.bool r))], h := [] }) (fun (r : Unit) => k (.exit 0) { n := 26, t := [(4, .junk)], h := [] }))) none := by
  induction n generalizing s_ with
  | zero => rfl
  | succ n ih =>
    have hu : L.eqIntS_L4 (n + 1) { n := 26, t := [(0, (.ro false (.ints .i64 x0))), (1, (.ro false (.ints .i64 x1))), (5, (.int .i64 s_))], h := [] } k = L.eqIntS_step4 x0 x1 s_ (fun s_ => L.eqIntS_L4 n { n := 26, t := [(0, (.ro false (.ints .i64 x0))), (1, (.ro false (.ints .i64 x1))), (5, (.int .i64 s_))], h := [] } k) (fun d => k (.ret) { n := 26, t := [(4, (.bool d))], h := [] }) (fun d => k (.exit 0) { n := 26, t := [(4, .junk)], h := [] }) none := by
      kernel_rfl
    have hs : (fun s_ : Int => L.eqIntS_L4 n { n := 26, t := [(0, (.ro false (.ints .i64 x0))), (1, (.ro false (.ints .i64 x1))), (5, (.int .i64 s_))], h := [] } k) = fun s_ => optC (L.eqIntS_run4 x0 x1 n s_) (fun (r : (Bool) ⊕ (Unit)) => (sumC r (fun (r : Bool) => k (.ret) { n := 26, t := [(4, (.bool r))], h := [] }) (fun (r : Unit) => k (.exit 0) { n := 26, t := [(4, .junk)], h := [] }))) none := funext ih
    rw [hu, hs]
    exact (L.eqIntS_step4_nat (fun o => optC o (fun (r : (Bool) ⊕ (Unit)) => (sumC r (fun (r : Bool) => k (.ret) { n := 26, t := [(4, (.bool r))], h := [] }) (fun (r : Unit) => k (.exit 0) { n := 26, t := [(4, .junk)], h := [] }))) none) x0 x1 s_ (L.eqIntS_run4 x0 x1 n) (fun d => some ((Sum.inl d))) (fun d => some ((Sum.inr d))) none).symm
noncomputable def L.eqIntS_tree {α : Type} (a : List Int) (b_ : List Int) (leaf0_ : Bool → α) (fail_ : α) : α :=
  (bif !(↑a.length : Int) == (↑b_.length : Int) then (leaf0_ false) else (optC (L.eqIntS_run4 a b_ FUEL 0) (fun qy_1 => (sumC qy_1 (fun (qy_1 : Bool) => (leaf0_ qy_1)) (fun (qy_1 : Unit) => (leaf0_ true)))) fail_))
theorem L.eqIntS_tree_nat {α γ : Type} (g : α → γ) (a : List Int) (b_ : List Int) (leaf0_ : Bool → α) (fail_ : α) : g (L.eqIntS_tree a b_ leaf0_ fail_) = L.eqIntS_tree a b_ (fun d => g (leaf0_ d)) (g fail_) := by
  unfold L.eqIntS_tree; simp only [apply_cnd g, apply_optC g, apply_sumC g]
noncomputable def L.eqIntS_t (a : List Int) (b_ : List Int) : Option (Bool) := L.eqIntS_tree a b_ (fun d => some d) none
theorem L.eqIntS_den (a : List Int) (b_ : List Int) (κ : V → List E → R) : L.eqIntS_F [.ro false (.ints .i64 a), .ro false (.ints .i64 b_)] [] κ = optC (L.eqIntS_t a b_) (fun (r : Bool) => κ (.bool r) []) none := by
  have hu : L.eqIntS_F [.ro false (.ints .i64 a), .ro false (.ints .i64 b_)] [] κ = L.eqIntS_tree a b_ (fun d => κ (.bool d) []) none := by
    refine Eq.trans (show L.eqIntS_F [.ro false (.ints .i64 a), .ro false (.ints .i64 b_)] [] κ = (bif !(↑a.length : Int) == (↑b_.length : Int) then (κ (.bool false) []) else (L.eqIntS_L4 FUEL { n := 26, t := [(0, (.ro false (.ints .i64 a))), (1, (.ro false (.ints .i64 b_))), (5, (.int .i64 0))], h := [] } (L.eqIntS_k4 κ))) by kernel_rfl) ?_
    refine cnd_congr ?_ ?_
    · kernel_rfl
    · refine (L.eqIntS_L4_run a b_ FUEL 0 (L.eqIntS_k4 κ)).trans (optC_congr (fun qy_1 => ?_))
      rcases qy_1 with qy_1 | qy_1
      · kernel_rfl
      · kernel_rfl
  rw [hu]
  exact (L.eqIntS_tree_nat (fun o => optC o (fun (r : Bool) => κ (.bool r) []) none) a b_ (fun d => some d) none).symm
noncomputable def L.eqIntS_s : D.Spec where
  keep := false
  pure := true
  add := true
  ds := [.int .i64, .int .i64]
  sp := fun args h κ => match args, h with
    | [.ro false (.ints .i64 a), .ro false (.ints .i64 b_)], [] => optC (L.eqIntS_t a b_) (fun (r : Bool) => κ (.bool r) []) none
    | _, _ => none
theorem L.eqIntS_ok : SpecOk Try.prog 18 L.eqIntS_s := by
  refine SpecOk.of TDok mixed (T := L.eqIntS_T) ?_ (ann := L.eqIntS_ann) Try.func18 rfl (by decide +kernel) ?_ ?_ ?_ ?_
  · intro p hp; cases hp
  · intro args h κ r hh
    simp only [L.eqIntS_s] at hh
    split at hh
    · exact (L.eqIntS_den _ _ κ).trans hh
    · cases hh
  · intro args h κ r hh
    simp only [L.eqIntS_s] at hh ⊢
    split at hh
    · exact optC_law2 (F := fun (r : Bool) κ => κ (.bool r) []) (fun b κ r hb => ⟨_, _, hb, fun _ => rfl⟩) hh
    · cases hh
  · intro _ args h κ r hh
    simp only [L.eqIntS_s] at hh
    split at hh
    · exact ⟨rfl, fun _ => rfl⟩
    · cases hh
  · intro _ args h κ r hh
    simp only [L.eqIntS_s] at hh
    split at hh
    · rfl
    · cases hh

-- loop.example/guardsonnets/laws.FnExactGameMoves
noncomputable def L.FnExactGameMoves_T : List (Nat × D.Spec) := [(17, L.toIntS_s), (13, S.GameMoves_s), (12, I.GameMoves_s), (18, L.eqIntS_s)]
def L.FnExactGameMoves_ann : Nat → List Nat × List Nat
  | _ => ([], [])
noncomputable def L.FnExactGameMoves_F (args : List V) (h : List E) (κ : V → List E → R) : R := funC TD (tableK L.FnExactGameMoves_T) L.FnExactGameMoves_ann (drawOk TD (tableP L.FnExactGameMoves_T)) FUEL Try.f4 args h κ
noncomputable def L.FnExactGameMoves_tree {α : Type} (aNet : List Int) (aSeen : Int) (aFew : Bool) (leaf0_ : Bool → α) (fail_ : α) : α :=
  (bif decide ((↑aNet.length : Int) > 1048576) then (leaf0_ true) else (optC (L.toIntS_t aNet) (fun c_1 => (optC (S.GameMoves_t c_1 aSeen aFew) (fun c_2 => (optC (L.toIntS_t aNet) (fun c_3 => (optC (I.GameMoves_t c_3 aSeen aFew) (fun c_4 => (bif !c_4 == c_2 then (leaf0_ false) else (optC (L.toIntS_t aNet) (fun c_5 => (optC (L.eqIntS_t c_3 c_5) (fun c_6 => (bif !c_6 then (leaf0_ false) else (leaf0_ true))) fail_)) fail_))) fail_)) fail_)) fail_)) fail_))
theorem L.FnExactGameMoves_tree_nat {α γ : Type} (g : α → γ) (aNet : List Int) (aSeen : Int) (aFew : Bool) (leaf0_ : Bool → α) (fail_ : α) : g (L.FnExactGameMoves_tree aNet aSeen aFew leaf0_ fail_) = L.FnExactGameMoves_tree aNet aSeen aFew (fun d => g (leaf0_ d)) (g fail_) := by
  unfold L.FnExactGameMoves_tree; simp only [apply_cnd g, apply_optC g, apply_sumC g]
noncomputable def L.FnExactGameMoves_t (aNet : List Int) (aSeen : Int) (aFew : Bool) : Option (Bool) := L.FnExactGameMoves_tree aNet aSeen aFew (fun d => some d) none
theorem L.FnExactGameMoves_den (aNet : List Int) (aSeen : Int) (aFew : Bool) (κ : V → List E → R) : L.FnExactGameMoves_F [.ro true (.ints .i64 aNet), .int .i64 aSeen, .bool aFew] [] κ = optC (L.FnExactGameMoves_t aNet aSeen aFew) (fun (r : Bool) => κ (.bool r) []) none := by
  have hu : L.FnExactGameMoves_F [.ro true (.ints .i64 aNet), .int .i64 aSeen, .bool aFew] [] κ = L.FnExactGameMoves_tree aNet aSeen aFew (fun d => κ (.bool d) []) none := by
    kernel_rfl
  rw [hu]
  exact (L.FnExactGameMoves_tree_nat (fun o => optC o (fun (r : Bool) => κ (.bool r) []) none) aNet aSeen aFew (fun d => some d) none).symm
noncomputable def L.FnExactGameMoves_s : D.Spec where
  keep := true
  pure := true
  add := true
  ds := [.int .i64, .invalid, .invalid]
  sp := fun args h κ => match args, h with
    | [.ro true (.ints .i64 aNet), .int .i64 aSeen, .bool aFew], [] => optC (L.FnExactGameMoves_t aNet aSeen aFew) (fun (r : Bool) => κ (.bool r) []) none
    | _, _ => none
theorem L.FnExactGameMoves_ok : SpecOk Try.prog 4 L.FnExactGameMoves_s := by
  refine SpecOk.of TDok mixed (T := L.FnExactGameMoves_T) ?_ (ann := L.FnExactGameMoves_ann) Try.func4 rfl (by decide +kernel) ?_ ?_ ?_ ?_
  · intro p hp
    simp only [L.FnExactGameMoves_T, List.mem_cons, List.not_mem_nil, or_false] at hp
    rcases hp with rfl | rfl | rfl | rfl
    · exact L.toIntS_ok
    · exact S.GameMoves_ok
    · exact I.GameMoves_ok
    · exact L.eqIntS_ok
  · intro args h κ r hh
    simp only [L.FnExactGameMoves_s] at hh
    split at hh
    · exact (L.FnExactGameMoves_den _ _ _ κ).trans hh
    · cases hh
  · intro args h κ r hh
    simp only [L.FnExactGameMoves_s] at hh ⊢
    split at hh
    · exact optC_law2 (F := fun (r : Bool) κ => κ (.bool r) []) (fun b κ r hb => ⟨_, _, hb, fun _ => rfl⟩) hh
    · cases hh
  · intro _ args h κ r hh
    simp only [L.FnExactGameMoves_s] at hh
    split at hh
    · exact ⟨rfl, fun _ => rfl⟩
    · cases hh
  · intro _ args h κ r hh
    simp only [L.FnExactGameMoves_s] at hh
    split at hh
    · rfl
    · cases hh

-- loop.example/guardsonnets/spec.DrawBestPlay
noncomputable def S.DrawBestPlay_T : List (Nat × D.Spec) := [(11, S.DrawGameMoves_s)]
def S.DrawBestPlay_ann : Nat → List Nat × List Nat
  | _ => ([], [])
noncomputable def S.DrawBestPlay_F (args : List V) (h : List E) (κ : V → List E → R) : R := funC TD (tableK S.DrawBestPlay_T) S.DrawBestPlay_ann (drawOk TD (tableP S.DrawBestPlay_T)) FUEL Try.f19 args h κ
noncomputable def S.DrawBestPlay_tree {α : Type} (code : List Int) (leaf0_ : Int × Bool × (List Int) → α) (fail_ : α) : α :=
  (optC (S.DrawGameMoves_t code) (fun c_1 => (leaf0_ (c_1.fst, c_1.snd.fst, c_1.snd.snd))) fail_)
theorem S.DrawBestPlay_tree_nat {α γ : Type} (g : α → γ) (code : List Int) (leaf0_ : Int × Bool × (List Int) → α) (fail_ : α) : g (S.DrawBestPlay_tree code leaf0_ fail_) = S.DrawBestPlay_tree code (fun d => g (leaf0_ d)) (g fail_) := by
  unfold S.DrawBestPlay_tree; simp only [apply_cnd g, apply_optC g, apply_sumC g]
noncomputable def S.DrawBestPlay_t (code : List Int) : Option (Int × Bool × (List Int)) := S.DrawBestPlay_tree code (fun d => some d) none
theorem S.DrawBestPlay_den (code : List Int) (κ : V → List E → R) : S.DrawBestPlay_F [.ro true (.ints .u8 code)] [] κ = optC (S.DrawBestPlay_t code) (fun (r : Int × Bool × (List Int)) => κ (.tup [(.own 0), (.int .i64 r.1), (.bool r.2.1)]) [.row (.ints .i64 r.2.2)]) none := by
  have hu : S.DrawBestPlay_F [.ro true (.ints .u8 code)] [] κ = S.DrawBestPlay_tree code (fun d => κ (.tup [(.own 0), (.int .i64 d.1), (.bool d.2.1)]) [.row (.ints .i64 d.2.2)]) none := by
    kernel_rfl
  rw [hu]
  exact (S.DrawBestPlay_tree_nat (fun o => optC o (fun (r : Int × Bool × (List Int)) => κ (.tup [(.own 0), (.int .i64 r.1), (.bool r.2.1)]) [.row (.ints .i64 r.2.2)]) none) code (fun d => some d) none).symm
noncomputable def S.DrawBestPlay_s : D.Spec where
  keep := true
  pure := false
  add := true
  ds := [.int .u8]
  sp := fun args h κ => match args, h with
    | [.ro true (.ints .u8 code)], [] => optC (S.DrawBestPlay_t code) (fun (r : Int × Bool × (List Int)) => κ (.tup [(.own 0), (.int .i64 r.1), (.bool r.2.1)]) [.row (.ints .i64 r.2.2)]) none
    | _, _ => none
theorem S.DrawBestPlay_ok : SpecOk Try.prog 19 S.DrawBestPlay_s := by
  refine SpecOk.of TDok mixed (T := S.DrawBestPlay_T) ?_ (ann := S.DrawBestPlay_ann) Try.func19 rfl (by decide +kernel) ?_ ?_ ?_ ?_
  · intro p hp
    simp only [S.DrawBestPlay_T, List.mem_cons, List.not_mem_nil, or_false] at hp
    rcases hp with rfl
    · exact S.DrawGameMoves_ok
  · intro args h κ r hh
    simp only [S.DrawBestPlay_s] at hh
    split at hh
    · exact (S.DrawBestPlay_den _ κ).trans hh
    · cases hh
  · intro args h κ r hh
    simp only [S.DrawBestPlay_s] at hh ⊢
    split at hh
    · exact optC_law2 (F := fun (r : Int × Bool × (List Int)) κ => κ (.tup [(.own 0), (.int .i64 r.1), (.bool r.2.1)]) [.row (.ints .i64 r.2.2)]) (fun b κ r hb => ⟨_, _, hb, fun _ => rfl⟩) hh
    · cases hh
  · intro hh; cases hh
  · intro _ args h κ r hh
    simp only [S.DrawBestPlay_s] at hh
    split at hh
    · rfl
    · cases hh

-- loop.example/guardsonnets/impl.bestIn
noncomputable def I.bestIn_T : List (Nat × D.Spec) := [(41, I.guardsToCome_s), (51, I.playIn_s), (52, I.ballIn_s)]
def I.bestIn_ann : Nat → List Nat × List Nat
  | 3 => ([0, 1, 2, 3, 9, 10], [8])
  | _ => ([], [])
noncomputable def I.bestIn_F (args : List V) (h : List E) (κ : V → List E → R) : R := funC TD (tableK I.bestIn_T) I.bestIn_ann (drawOk TD (tableP I.bestIn_T)) FUEL Try.f48 args h κ
noncomputable def I.bestIn_L3 (n : Nat) (σ : St) (k : X → St → R) : R := iterC 0 (fun σ k => denC TD (tableK I.bestIn_T) I.bestIn_ann (drawOk TD (tableP I.bestIn_T)) 0 FUEL ((findLoop 3 (Try.f48.body.getD .skip)).getD .skip) σ k) [0, 1, 2, 3, 9, 10] [8] n σ k
noncomputable def I.bestIn_k3 (κ : V → List E → R) : X → St → R := (afterC TD (tableK I.bestIn_T) I.bestIn_ann (drawOk TD (tableP I.bestIn_T)) 0 FUEL 3 (Try.f48.body.getD .skip) (finC TD 0 Try.f48 κ)).getD (fun _ _ => none)
noncomputable def I.bestIn_step3 {α : Type} (x0 : List Int) (x1 : List Int) (x2 : Int) (x3 : Bool) (x9 : Int) (x10 : Int) (next_ : Int → α) (out0_ : Int → α) (out1_ : Unit → α) (fail_ : α) : α :=
  (bif decide (x10 < (↑x0.length : Int)) then (optC (I.playIn_t x0 x2 x10) (fun c_2 => (bif c_2 then (optC (I.ballIn_t x0 x10) (fun c_3 => (bif decide (0 ≤ bits BinOp.or IntKind.i64 x2 c_3) && decide (bits BinOp.or IntKind.i64 x2 c_3 < (↑(x1.length / 2) : Int)) then (optC (I.guardsToCome_t (eli x1 ((bits BinOp.or IntKind.i64 x2 c_3).toNat * 2 + 0)) (eli x1 ((bits BinOp.or IntKind.i64 x2 c_3).toNat * 2 + 1)) !x3) (fun c_4 => (bif c_4 == x9 then (out0_ x10) else (next_ (IntKind.i64.wrap (x10 + 1))))) fail_) else fail_)) fail_) else (next_ (IntKind.i64.wrap (x10 + 1))))) fail_) else (out1_ ()))
theorem I.bestIn_step3_nat {α γ : Type} (g : α → γ) (x0 : List Int) (x1 : List Int) (x2 : Int) (x3 : Bool) (x9 : Int) (x10 : Int) (next_ : Int → α) (out0_ : Int → α) (out1_ : Unit → α) (fail_ : α) : g (I.bestIn_step3 x0 x1 x2 x3 x9 x10 next_ out0_ out1_ fail_) = I.bestIn_step3 x0 x1 x2 x3 x9 x10 (fun s => g (next_ s)) (fun d => g (out0_ d)) (fun d => g (out1_ d)) (g fail_) := by
  unfold I.bestIn_step3; simp only [apply_cnd g, apply_optC g, apply_sumC g]
noncomputable def I.bestIn_run3 (x0 : List Int) (x1 : List Int) (x2 : Int) (x3 : Bool) (x9 : Int) : Nat → Int → Option ((Int) ⊕ (Unit))
  | 0, _ => none
  | n + 1, s_ => I.bestIn_step3 x0 x1 x2 x3 x9 s_ (I.bestIn_run3 x0 x1 x2 x3 x9 n) (fun d => some ((Sum.inl d))) (fun d => some ((Sum.inr d))) none
theorem I.bestIn_L3_run (x0 : List Int) (x1 : List Int) (x2 : Int) (x3 : Bool) (x9 : Int) (n : Nat) (s_ : Int) (k : X → St → R) : I.bestIn_L3 n { n := 44, t := [(0, (.ro false (.ints .i64 x0))), (1, (.recs false 2 x1)), (2, (.int .i64 x2)), (3, (.bool x3)), (9, (.int .i64 x9)), (10, (.int .i64 s_))], h := [] } k = optC (I.bestIn_run3 x0 x1 x2 x3 x9 n s_) (fun (r : (Int) ⊕ (Unit)) => (sumC r (fun (r : Int) => k (.ret) { n := 44, t := [(8, (.int .i64 r))], h := [] }) (fun (r : Unit) => k (.exit 0) { n := 44, t := [(8, .junk)], h := [] }))) none := by
  induction n generalizing s_ with
  | zero => rfl
  | succ n ih =>
    have hu : I.bestIn_L3 (n + 1) { n := 44, t := [(0, (.ro false (.ints .i64 x0))), (1, (.recs false 2 x1)), (2, (.int .i64 x2)), (3, (.bool x3)), (9, (.int .i64 x9)), (10, (.int .i64 s_))], h := [] } k = I.bestIn_step3 x0 x1 x2 x3 x9 s_ (fun s_ => I.bestIn_L3 n { n := 44, t := [(0, (.ro false (.ints .i64 x0))), (1, (.recs false 2 x1)), (2, (.int .i64 x2)), (3, (.bool x3)), (9, (.int .i64 x9)), (10, (.int .i64 s_))], h := [] } k) (fun d => k (.ret) { n := 44, t := [(8, (.int .i64 d))], h := [] }) (fun d => k (.exit 0) { n := 44, t := [(8, .junk)], h := [] }) none := by
      kernel_rfl
    have hs : (fun s_ : Int => I.bestIn_L3 n { n := 44, t := [(0, (.ro false (.ints .i64 x0))), (1, (.recs false 2 x1)), (2, (.int .i64 x2)), (3, (.bool x3)), (9, (.int .i64 x9)), (10, (.int .i64 s_))], h := [] } k) = fun s_ => optC (I.bestIn_run3 x0 x1 x2 x3 x9 n s_) (fun (r : (Int) ⊕ (Unit)) => (sumC r (fun (r : Int) => k (.ret) { n := 44, t := [(8, (.int .i64 r))], h := [] }) (fun (r : Unit) => k (.exit 0) { n := 44, t := [(8, .junk)], h := [] }))) none := funext ih
    rw [hu, hs]
    exact (I.bestIn_step3_nat (fun o => optC o (fun (r : (Int) ⊕ (Unit)) => (sumC r (fun (r : Int) => k (.ret) { n := 44, t := [(8, (.int .i64 r))], h := [] }) (fun (r : Unit) => k (.exit 0) { n := 44, t := [(8, .junk)], h := [] }))) none) x0 x1 x2 x3 x9 s_ (I.bestIn_run3 x0 x1 x2 x3 x9 n) (fun d => some ((Sum.inl d))) (fun d => some ((Sum.inr d))) none).symm
noncomputable def I.bestIn_tree {α : Type} (net : List Int) (games : List Int) (seen : Int) (few : Bool) (leaf0_ : Int → α) (fail_ : α) : α :=
  (bif decide (0 ≤ seen) && decide (seen < (↑(games.length / 2) : Int)) then (optC (I.guardsToCome_t (eli games (seen.toNat * 2 + 0)) (eli games (seen.toNat * 2 + 1)) few) (fun c_1 => (optC (I.bestIn_run3 net games seen few (IntKind.i64.wrap (c_1 - 1)) FUEL 0) (fun qy_5 => (sumC qy_5 (fun (qy_5 : Int) => (leaf0_ qy_5)) (fun (qy_5 : Unit) => (leaf0_ (-1))))) fail_)) fail_) else fail_)
theorem I.bestIn_tree_nat {α γ : Type} (g : α → γ) (net : List Int) (games : List Int) (seen : Int) (few : Bool) (leaf0_ : Int → α) (fail_ : α) : g (I.bestIn_tree net games seen few leaf0_ fail_) = I.bestIn_tree net games seen few (fun d => g (leaf0_ d)) (g fail_) := by
  unfold I.bestIn_tree; simp only [apply_cnd g, apply_optC g, apply_sumC g]
noncomputable def I.bestIn_t (net : List Int) (games : List Int) (seen : Int) (few : Bool) : Option (Int) := I.bestIn_tree net games seen few (fun d => some d) none
theorem I.bestIn_den (net : List Int) (games : List Int) (seen : Int) (few : Bool) (κ : V → List E → R) : I.bestIn_F [.ro false (.ints .i64 net), .recs false 2 games, .int .i64 seen, .bool few] [] κ = optC (I.bestIn_t net games seen few) (fun (r : Int) => κ (.int .i64 r) []) none := by
  have hu : I.bestIn_F [.ro false (.ints .i64 net), .recs false 2 games, .int .i64 seen, .bool few] [] κ = I.bestIn_tree net games seen few (fun d => κ (.int .i64 d) []) none := by
    refine Eq.trans (show I.bestIn_F [.ro false (.ints .i64 net), .recs false 2 games, .int .i64 seen, .bool few] [] κ = (bif decide (0 ≤ seen) && decide (seen < (↑(games.length / 2) : Int)) then (optC (I.guardsToCome_t (eli games (seen.toNat * 2 + 0)) (eli games (seen.toNat * 2 + 1)) few) (fun c_1 => (I.bestIn_L3 FUEL { n := 44, t := [(0, (.ro false (.ints .i64 net))), (1, (.recs false 2 games)), (2, (.int .i64 seen)), (3, (.bool few)), (9, (.int .i64 (IntKind.i64.wrap (c_1 - 1)))), (10, (.int .i64 0))], h := [] } (I.bestIn_k3 κ))) none) else none) by kernel_rfl) ?_
    refine cnd_congr ?_ ?_
    · refine optC_congr (fun c_1 => ?_)
      refine (I.bestIn_L3_run net games seen few (IntKind.i64.wrap (c_1 - 1)) FUEL 0 (I.bestIn_k3 κ)).trans (optC_congr (fun qy_5 => ?_))
      rcases qy_5 with qy_5 | qy_5
      · kernel_rfl
      · kernel_rfl
    · kernel_rfl
  rw [hu]
  exact (I.bestIn_tree_nat (fun o => optC o (fun (r : Int) => κ (.int .i64 r) []) none) net games seen few (fun d => some d) none).symm
noncomputable def I.bestIn_s : D.Spec where
  keep := false
  pure := true
  add := true
  ds := [.int .i64, .invalid, .invalid, .invalid]
  sp := fun args h κ => match args, h with
    | [.ro false (.ints .i64 net), .recs false 2 games, .int .i64 seen, .bool few], [] => optC (I.bestIn_t net games seen few) (fun (r : Int) => κ (.int .i64 r) []) none
    | _, _ => none
theorem I.bestIn_ok : SpecOk Try.prog 48 I.bestIn_s := by
  refine SpecOk.of TDok mixed (T := I.bestIn_T) ?_ (ann := I.bestIn_ann) Try.func48 rfl (by decide +kernel) ?_ ?_ ?_ ?_
  · intro p hp
    simp only [I.bestIn_T, List.mem_cons, List.not_mem_nil, or_false] at hp
    rcases hp with rfl | rfl | rfl
    · exact I.guardsToCome_ok
    · exact I.playIn_ok
    · exact I.ballIn_ok
  · intro args h κ r hh
    simp only [I.bestIn_s] at hh
    split at hh
    · exact (I.bestIn_den _ _ _ _ κ).trans hh
    · cases hh
  · intro args h κ r hh
    simp only [I.bestIn_s] at hh ⊢
    split at hh
    · exact optC_law2 (F := fun (r : Int) κ => κ (.int .i64 r) []) (fun b κ r hb => ⟨_, _, hb, fun _ => rfl⟩) hh
    · cases hh
  · intro _ args h κ r hh
    simp only [I.bestIn_s] at hh
    split at hh
    · exact ⟨rfl, fun _ => rfl⟩
    · cases hh
  · intro _ args h κ r hh
    simp only [I.bestIn_s] at hh
    split at hh
    · rfl
    · cases hh

-- loop.example/guardsonnets/impl.BestPlay
noncomputable def I.BestPlay_T : List (Nat × D.Spec) := [(28, I.NetOk_s), (40, I.setIn_s), (42, I.gamesIn_s), (48, I.bestIn_s)]
def I.BestPlay_ann : Nat → List Nat × List Nat
  | _ => ([], [])
noncomputable def I.BestPlay_F (args : List V) (h : List E) (κ : V → List E → R) : R := funC TD (tableK I.BestPlay_T) I.BestPlay_ann (drawOk TD (tableP I.BestPlay_T)) FUEL Try.f20 args h κ
noncomputable def I.BestPlay_tree {α : Type} (net : List Int) (seen : Int) (few : Bool) (leaf0_ : Int → α) (fail_ : α) : α :=
  (optC (I.NetOk_t net) (fun c_1 => (bif !c_1 then (leaf0_ (-1)) else (optC (I.setIn_t net seen) (fun c_2 => (bif !c_2 then (leaf0_ (-1)) else (optC (I.gamesIn_t net) (fun c_3 => (optC (I.bestIn_t net c_3 seen few) (fun c_4 => (leaf0_ c_4)) fail_)) fail_))) fail_))) fail_)
theorem I.BestPlay_tree_nat {α γ : Type} (g : α → γ) (net : List Int) (seen : Int) (few : Bool) (leaf0_ : Int → α) (fail_ : α) : g (I.BestPlay_tree net seen few leaf0_ fail_) = I.BestPlay_tree net seen few (fun d => g (leaf0_ d)) (g fail_) := by
  unfold I.BestPlay_tree; simp only [apply_cnd g, apply_optC g, apply_sumC g]
noncomputable def I.BestPlay_t (net : List Int) (seen : Int) (few : Bool) : Option (Int) := I.BestPlay_tree net seen few (fun d => some d) none
theorem I.BestPlay_den (net : List Int) (seen : Int) (few : Bool) (κ : V → List E → R) : I.BestPlay_F [.ro false (.ints .i64 net), .int .i64 seen, .bool few] [] κ = optC (I.BestPlay_t net seen few) (fun (r : Int) => κ (.int .i64 r) []) none := by
  have hu : I.BestPlay_F [.ro false (.ints .i64 net), .int .i64 seen, .bool few] [] κ = I.BestPlay_tree net seen few (fun d => κ (.int .i64 d) []) none := by
    kernel_rfl
  rw [hu]
  exact (I.BestPlay_tree_nat (fun o => optC o (fun (r : Int) => κ (.int .i64 r) []) none) net seen few (fun d => some d) none).symm
noncomputable def I.BestPlay_s : D.Spec where
  keep := false
  pure := true
  add := true
  ds := [.int .i64, .invalid, .invalid]
  sp := fun args h κ => match args, h with
    | [.ro false (.ints .i64 net), .int .i64 seen, .bool few], [] => optC (I.BestPlay_t net seen few) (fun (r : Int) => κ (.int .i64 r) []) none
    | _, _ => none
theorem I.BestPlay_ok : SpecOk Try.prog 20 I.BestPlay_s := by
  refine SpecOk.of TDok mixed (T := I.BestPlay_T) ?_ (ann := I.BestPlay_ann) Try.func20 rfl (by decide +kernel) ?_ ?_ ?_ ?_
  · intro p hp
    simp only [I.BestPlay_T, List.mem_cons, List.not_mem_nil, or_false] at hp
    rcases hp with rfl | rfl | rfl | rfl
    · exact I.NetOk_ok
    · exact I.setIn_ok
    · exact I.gamesIn_ok
    · exact I.bestIn_ok
  · intro args h κ r hh
    simp only [I.BestPlay_s] at hh
    split at hh
    · exact (I.BestPlay_den _ _ _ κ).trans hh
    · cases hh
  · intro args h κ r hh
    simp only [I.BestPlay_s] at hh ⊢
    split at hh
    · exact optC_law2 (F := fun (r : Int) κ => κ (.int .i64 r) []) (fun b κ r hb => ⟨_, _, hb, fun _ => rfl⟩) hh
    · cases hh
  · intro _ args h κ r hh
    simp only [I.BestPlay_s] at hh
    split at hh
    · exact ⟨rfl, fun _ => rfl⟩
    · cases hh
  · intro _ args h κ r hh
    simp only [I.BestPlay_s] at hh
    split at hh
    · rfl
    · cases hh

-- loop.example/guardsonnets/spec.BestPlay
noncomputable def S.BestPlay_T : List (Nat × D.Spec) := [(43, S.l1SetOk_s), (44, S.l12Moves_s), (49, S.l12New_s)]
def S.BestPlay_ann : Nat → List Nat × List Nat
  | 5 => ([0, 1, 2, 7, 8], [6])
  | _ => ([], [])
noncomputable def S.BestPlay_F (args : List V) (h : List E) (κ : V → List E → R) : R := funC TD (tableK S.BestPlay_T) S.BestPlay_ann (drawOk TD (tableP S.BestPlay_T)) FUEL Try.f21 args h κ
noncomputable def S.BestPlay_L5 (n : Nat) (σ : St) (k : X → St → R) : R := iterC 0 (fun σ k => denC TD (tableK S.BestPlay_T) S.BestPlay_ann (drawOk TD (tableP S.BestPlay_T)) 0 FUEL ((findLoop 5 (Try.f21.body.getD .skip)).getD .skip) σ k) [0, 1, 2, 7, 8] [6] n σ k
noncomputable def S.BestPlay_k5 (κ : V → List E → R) : X → St → R := (afterC TD (tableK S.BestPlay_T) S.BestPlay_ann (drawOk TD (tableP S.BestPlay_T)) 0 FUEL 5 (Try.f21.body.getD .skip) (finC TD 0 Try.f21 κ)).getD (fun _ _ => none)
noncomputable def S.BestPlay_step5 {α : Type} (x0 : List Int) (x1 : Int) (x2 : Bool) (x7 : Int) (x8 : Int) (next_ : Int → α) (out0_ : Int → α) (out1_ : Unit → α) (fail_ : α) : α :=
  (bif decide (x8 < (↑x0.length : Int)) then (optC (S.l12New_t x0 x1 x8) (fun c_3 => (bif c_3 then (bif decide (0 ≤ x8) && decide (x8 < (↑x0.length : Int)) then (bif decide (x8 < 0) then fail_ else (optC (S.l12Moves_t x0 (bits BinOp.or IntKind.i64 (bits BinOp.or IntKind.i64 x1 (eli x0 x8.toNat)) (IntKind.i64.wrap (1 * 2 ^ min x8.toNat IntKind.i64.bits))) !x2) (fun c_4 => (bif IntKind.i64.wrap (1 + c_4) == x7 then (out0_ x8) else (next_ (IntKind.i64.wrap (x8 + 1))))) fail_)) else fail_) else (next_ (IntKind.i64.wrap (x8 + 1))))) fail_) else (out1_ ()))
theorem S.BestPlay_step5_nat {α γ : Type} (g : α → γ) (x0 : List Int) (x1 : Int) (x2 : Bool) (x7 : Int) (x8 : Int) (next_ : Int → α) (out0_ : Int → α) (out1_ : Unit → α) (fail_ : α) : g (S.BestPlay_step5 x0 x1 x2 x7 x8 next_ out0_ out1_ fail_) = S.BestPlay_step5 x0 x1 x2 x7 x8 (fun s => g (next_ s)) (fun d => g (out0_ d)) (fun d => g (out1_ d)) (g fail_) := by
  unfold S.BestPlay_step5; simp only [apply_cnd g, apply_optC g, apply_sumC g]
noncomputable def S.BestPlay_run5 (x0 : List Int) (x1 : Int) (x2 : Bool) (x7 : Int) : Nat → Int → Option ((Int) ⊕ (Unit))
  | 0, _ => none
  | n + 1, s_ => S.BestPlay_step5 x0 x1 x2 x7 s_ (S.BestPlay_run5 x0 x1 x2 x7 n) (fun d => some ((Sum.inl d))) (fun d => some ((Sum.inr d))) none
theorem S.BestPlay_L5_run (x0 : List Int) (x1 : Int) (x2 : Bool) (x7 : Int) (n : Nat) (s_ : Int) (k : X → St → R) : S.BestPlay_L5 n { n := 46, t := [(0, (.ro false (.ints .i64 x0))), (1, (.int .i64 x1)), (2, (.bool x2)), (7, (.int .i64 x7)), (8, (.int .i64 s_))], h := [] } k = optC (S.BestPlay_run5 x0 x1 x2 x7 n s_) (fun (r : (Int) ⊕ (Unit)) => (sumC r (fun (r : Int) => k (.ret) { n := 46, t := [(6, (.int .i64 r))], h := [] }) (fun (r : Unit) => k (.exit 0) { n := 46, t := [(6, .junk)], h := [] }))) none := by
  induction n generalizing s_ with
  | zero => rfl
  | succ n ih =>
    have hu : S.BestPlay_L5 (n + 1) { n := 46, t := [(0, (.ro false (.ints .i64 x0))), (1, (.int .i64 x1)), (2, (.bool x2)), (7, (.int .i64 x7)), (8, (.int .i64 s_))], h := [] } k = S.BestPlay_step5 x0 x1 x2 x7 s_ (fun s_ => S.BestPlay_L5 n { n := 46, t := [(0, (.ro false (.ints .i64 x0))), (1, (.int .i64 x1)), (2, (.bool x2)), (7, (.int .i64 x7)), (8, (.int .i64 s_))], h := [] } k) (fun d => k (.ret) { n := 46, t := [(6, (.int .i64 d))], h := [] }) (fun d => k (.exit 0) { n := 46, t := [(6, .junk)], h := [] }) none := by
      kernel_rfl
    have hs : (fun s_ : Int => S.BestPlay_L5 n { n := 46, t := [(0, (.ro false (.ints .i64 x0))), (1, (.int .i64 x1)), (2, (.bool x2)), (7, (.int .i64 x7)), (8, (.int .i64 s_))], h := [] } k) = fun s_ => optC (S.BestPlay_run5 x0 x1 x2 x7 n s_) (fun (r : (Int) ⊕ (Unit)) => (sumC r (fun (r : Int) => k (.ret) { n := 46, t := [(6, (.int .i64 r))], h := [] }) (fun (r : Unit) => k (.exit 0) { n := 46, t := [(6, .junk)], h := [] }))) none := funext ih
    rw [hu, hs]
    exact (S.BestPlay_step5_nat (fun o => optC o (fun (r : (Int) ⊕ (Unit)) => (sumC r (fun (r : Int) => k (.ret) { n := 46, t := [(6, (.int .i64 r))], h := [] }) (fun (r : Unit) => k (.exit 0) { n := 46, t := [(6, .junk)], h := [] }))) none) x0 x1 x2 x7 s_ (S.BestPlay_run5 x0 x1 x2 x7 n) (fun d => some ((Sum.inl d))) (fun d => some ((Sum.inr d))) none).symm
noncomputable def S.BestPlay_tree {α : Type} (net : List Int) (seen : Int) (few : Bool) (leaf0_ : Int → α) (fail_ : α) : α :=
  (optC (S.l1SetOk_t net seen) (fun c_1 => (bif !c_1 then (leaf0_ (-1)) else (optC (S.l12Moves_t net seen few) (fun c_2 => (optC (S.BestPlay_run5 net seen few c_2 FUEL 0) (fun qy_5 => (sumC qy_5 (fun (qy_5 : Int) => (leaf0_ qy_5)) (fun (qy_5 : Unit) => (leaf0_ (-1))))) fail_)) fail_))) fail_)
theorem S.BestPlay_tree_nat {α γ : Type} (g : α → γ) (net : List Int) (seen : Int) (few : Bool) (leaf0_ : Int → α) (fail_ : α) : g (S.BestPlay_tree net seen few leaf0_ fail_) = S.BestPlay_tree net seen few (fun d => g (leaf0_ d)) (g fail_) := by
  unfold S.BestPlay_tree; simp only [apply_cnd g, apply_optC g, apply_sumC g]
noncomputable def S.BestPlay_t (net : List Int) (seen : Int) (few : Bool) : Option (Int) := S.BestPlay_tree net seen few (fun d => some d) none
theorem S.BestPlay_den (net : List Int) (seen : Int) (few : Bool) (κ : V → List E → R) : S.BestPlay_F [.ro false (.ints .i64 net), .int .i64 seen, .bool few] [] κ = optC (S.BestPlay_t net seen few) (fun (r : Int) => κ (.int .i64 r) []) none := by
  have hu : S.BestPlay_F [.ro false (.ints .i64 net), .int .i64 seen, .bool few] [] κ = S.BestPlay_tree net seen few (fun d => κ (.int .i64 d) []) none := by
    refine Eq.trans (show S.BestPlay_F [.ro false (.ints .i64 net), .int .i64 seen, .bool few] [] κ = (optC (S.l1SetOk_t net seen) (fun c_1 => (bif !c_1 then (κ (.int .i64 (-1)) []) else (optC (S.l12Moves_t net seen few) (fun c_2 => (S.BestPlay_L5 FUEL { n := 46, t := [(0, (.ro false (.ints .i64 net))), (1, (.int .i64 seen)), (2, (.bool few)), (7, (.int .i64 c_2)), (8, (.int .i64 0))], h := [] } (S.BestPlay_k5 κ))) none))) none) by kernel_rfl) ?_
    refine optC_congr (fun c_1 => ?_)
    refine cnd_congr ?_ ?_
    · kernel_rfl
    · refine optC_congr (fun c_2 => ?_)
      refine (S.BestPlay_L5_run net seen few c_2 FUEL 0 (S.BestPlay_k5 κ)).trans (optC_congr (fun qy_5 => ?_))
      rcases qy_5 with qy_5 | qy_5
      · kernel_rfl
      · kernel_rfl
  rw [hu]
  exact (S.BestPlay_tree_nat (fun o => optC o (fun (r : Int) => κ (.int .i64 r) []) none) net seen few (fun d => some d) none).symm
noncomputable def S.BestPlay_s : D.Spec where
  keep := false
  pure := true
  add := true
  ds := [.int .i64, .invalid, .invalid]
  sp := fun args h κ => match args, h with
    | [.ro false (.ints .i64 net), .int .i64 seen, .bool few], [] => optC (S.BestPlay_t net seen few) (fun (r : Int) => κ (.int .i64 r) []) none
    | _, _ => none
theorem S.BestPlay_ok : SpecOk Try.prog 21 S.BestPlay_s := by
  refine SpecOk.of TDok mixed (T := S.BestPlay_T) ?_ (ann := S.BestPlay_ann) Try.func21 rfl (by decide +kernel) ?_ ?_ ?_ ?_
  · intro p hp
    simp only [S.BestPlay_T, List.mem_cons, List.not_mem_nil, or_false] at hp
    rcases hp with rfl | rfl | rfl
    · exact S.l1SetOk_ok
    · exact S.l12Moves_ok
    · exact S.l12New_ok
  · intro args h κ r hh
    simp only [S.BestPlay_s] at hh
    split at hh
    · exact (S.BestPlay_den _ _ _ κ).trans hh
    · cases hh
  · intro args h κ r hh
    simp only [S.BestPlay_s] at hh ⊢
    split at hh
    · exact optC_law2 (F := fun (r : Int) κ => κ (.int .i64 r) []) (fun b κ r hb => ⟨_, _, hb, fun _ => rfl⟩) hh
    · cases hh
  · intro _ args h κ r hh
    simp only [S.BestPlay_s] at hh
    split at hh
    · exact ⟨rfl, fun _ => rfl⟩
    · cases hh
  · intro _ args h κ r hh
    simp only [S.BestPlay_s] at hh
    split at hh
    · rfl
    · cases hh

-- loop.example/guardsonnets/impl.placeIn
noncomputable def I.placeIn_T : List (Nat × D.Spec) := []
def I.placeIn_ann : Nat → List Nat × List Nat
  | _ => ([], [])
noncomputable def I.placeIn_F (args : List V) (h : List E) (κ : V → List E → R) : R := funC TD (tableK I.placeIn_T) I.placeIn_ann (drawOk TD (tableP I.placeIn_T)) FUEL Try.f50 args h κ
noncomputable def I.placeIn_tree {α : Type} (net : List Int) (place : Int) (leaf0_ : Bool → α) (fail_ : α) : α :=
  (bif decide (place ≥ 0) then (leaf0_ (decide (place < (↑net.length : Int)))) else (leaf0_ false))
theorem I.placeIn_tree_nat {α γ : Type} (g : α → γ) (net : List Int) (place : Int) (leaf0_ : Bool → α) (fail_ : α) : g (I.placeIn_tree net place leaf0_ fail_) = I.placeIn_tree net place (fun d => g (leaf0_ d)) (g fail_) := by
  unfold I.placeIn_tree; simp only [apply_cnd g, apply_optC g, apply_sumC g]
noncomputable def I.placeIn_t (net : List Int) (place : Int) : Option (Bool) := I.placeIn_tree net place (fun d => some d) none
theorem I.placeIn_den (net : List Int) (place : Int) (κ : V → List E → R) : I.placeIn_F [.ro false (.ints .i64 net), .int .i64 place] [] κ = optC (I.placeIn_t net place) (fun (r : Bool) => κ (.bool r) []) none := by
  have hu : I.placeIn_F [.ro false (.ints .i64 net), .int .i64 place] [] κ = I.placeIn_tree net place (fun d => κ (.bool d) []) none := by
    kernel_rfl
  rw [hu]
  exact (I.placeIn_tree_nat (fun o => optC o (fun (r : Bool) => κ (.bool r) []) none) net place (fun d => some d) none).symm
noncomputable def I.placeIn_s : D.Spec where
  keep := false
  pure := true
  add := true
  ds := [.int .i64, .invalid]
  sp := fun args h κ => match args, h with
    | [.ro false (.ints .i64 net), .int .i64 place], [] => optC (I.placeIn_t net place) (fun (r : Bool) => κ (.bool r) []) none
    | _, _ => none
theorem I.placeIn_ok : SpecOk Try.prog 50 I.placeIn_s := by
  refine SpecOk.of TDok mixed (T := I.placeIn_T) ?_ (ann := I.placeIn_ann) Try.func50 rfl (by decide +kernel) ?_ ?_ ?_ ?_
  · intro p hp; cases hp
  · intro args h κ r hh
    simp only [I.placeIn_s] at hh
    split at hh
    · exact (I.placeIn_den _ _ κ).trans hh
    · cases hh
  · intro args h κ r hh
    simp only [I.placeIn_s] at hh ⊢
    split at hh
    · exact optC_law2 (F := fun (r : Bool) κ => κ (.bool r) []) (fun b κ r hb => ⟨_, _, hb, fun _ => rfl⟩) hh
    · cases hh
  · intro _ args h κ r hh
    simp only [I.placeIn_s] at hh
    split at hh
    · exact ⟨rfl, fun _ => rfl⟩
    · cases hh
  · intro _ args h κ r hh
    simp only [I.placeIn_s] at hh
    split at hh
    · rfl
    · cases hh

-- loop.example/guardsonnets/impl.PlayMay
noncomputable def I.PlayMay_T : List (Nat × D.Spec) := [(28, I.NetOk_s), (40, I.setIn_s), (50, I.placeIn_s), (51, I.playIn_s)]
def I.PlayMay_ann : Nat → List Nat × List Nat
  | _ => ([], [])
noncomputable def I.PlayMay_F (args : List V) (h : List E) (κ : V → List E → R) : R := funC TD (tableK I.PlayMay_T) I.PlayMay_ann (drawOk TD (tableP I.PlayMay_T)) FUEL Try.f22 args h κ
noncomputable def I.PlayMay_tree {α : Type} (net : List Int) (seen : Int) (place : Int) (leaf0_ : Bool → α) (fail_ : α) : α :=
  (optC (I.NetOk_t net) (fun c_1 => (bif c_1 then (optC (I.setIn_t net seen) (fun c_2 => (bif c_2 then (optC (I.placeIn_t net place) (fun c_3 => (bif c_3 then (optC (I.playIn_t net seen place) (fun c_4 => (leaf0_ c_4)) fail_) else (leaf0_ false))) fail_) else (leaf0_ false))) fail_) else (leaf0_ false))) fail_)
theorem I.PlayMay_tree_nat {α γ : Type} (g : α → γ) (net : List Int) (seen : Int) (place : Int) (leaf0_ : Bool → α) (fail_ : α) : g (I.PlayMay_tree net seen place leaf0_ fail_) = I.PlayMay_tree net seen place (fun d => g (leaf0_ d)) (g fail_) := by
  unfold I.PlayMay_tree; simp only [apply_cnd g, apply_optC g, apply_sumC g]
noncomputable def I.PlayMay_t (net : List Int) (seen : Int) (place : Int) : Option (Bool) := I.PlayMay_tree net seen place (fun d => some d) none
theorem I.PlayMay_den (net : List Int) (seen : Int) (place : Int) (κ : V → List E → R) : I.PlayMay_F [.ro false (.ints .i64 net), .int .i64 seen, .int .i64 place] [] κ = optC (I.PlayMay_t net seen place) (fun (r : Bool) => κ (.bool r) []) none := by
  have hu : I.PlayMay_F [.ro false (.ints .i64 net), .int .i64 seen, .int .i64 place] [] κ = I.PlayMay_tree net seen place (fun d => κ (.bool d) []) none := by
    kernel_rfl
  rw [hu]
  exact (I.PlayMay_tree_nat (fun o => optC o (fun (r : Bool) => κ (.bool r) []) none) net seen place (fun d => some d) none).symm
noncomputable def I.PlayMay_s : D.Spec where
  keep := false
  pure := true
  add := true
  ds := [.int .i64, .invalid, .invalid]
  sp := fun args h κ => match args, h with
    | [.ro false (.ints .i64 net), .int .i64 seen, .int .i64 place], [] => optC (I.PlayMay_t net seen place) (fun (r : Bool) => κ (.bool r) []) none
    | _, _ => none
theorem I.PlayMay_ok : SpecOk Try.prog 22 I.PlayMay_s := by
  refine SpecOk.of TDok mixed (T := I.PlayMay_T) ?_ (ann := I.PlayMay_ann) Try.func22 rfl (by decide +kernel) ?_ ?_ ?_ ?_
  · intro p hp
    simp only [I.PlayMay_T, List.mem_cons, List.not_mem_nil, or_false] at hp
    rcases hp with rfl | rfl | rfl | rfl
    · exact I.NetOk_ok
    · exact I.setIn_ok
    · exact I.placeIn_ok
    · exact I.playIn_ok
  · intro args h κ r hh
    simp only [I.PlayMay_s] at hh
    split at hh
    · exact (I.PlayMay_den _ _ _ κ).trans hh
    · cases hh
  · intro args h κ r hh
    simp only [I.PlayMay_s] at hh ⊢
    split at hh
    · exact optC_law2 (F := fun (r : Bool) κ => κ (.bool r) []) (fun b κ r hb => ⟨_, _, hb, fun _ => rfl⟩) hh
    · cases hh
  · intro _ args h κ r hh
    simp only [I.PlayMay_s] at hh
    split at hh
    · exact ⟨rfl, fun _ => rfl⟩
    · cases hh
  · intro _ args h κ r hh
    simp only [I.PlayMay_s] at hh
    split at hh
    · rfl
    · cases hh

-- loop.example/guardsonnets/impl.BallOf
noncomputable def I.BallOf_T : List (Nat × D.Spec) := [(28, I.NetOk_s), (50, I.placeIn_s), (52, I.ballIn_s)]
def I.BallOf_ann : Nat → List Nat × List Nat
  | _ => ([], [])
noncomputable def I.BallOf_F (args : List V) (h : List E) (κ : V → List E → R) : R := funC TD (tableK I.BallOf_T) I.BallOf_ann (drawOk TD (tableP I.BallOf_T)) FUEL Try.f23 args h κ
noncomputable def I.BallOf_tree {α : Type} (net : List Int) (place : Int) (leaf0_ : Int → α) (fail_ : α) : α :=
  (optC (I.NetOk_t net) (fun c_1 => (bif !c_1 then (leaf0_ (-1)) else (optC (I.placeIn_t net place) (fun c_2 => (bif !c_2 then (leaf0_ (-1)) else (optC (I.ballIn_t net place) (fun c_3 => (leaf0_ c_3)) fail_))) fail_))) fail_)
theorem I.BallOf_tree_nat {α γ : Type} (g : α → γ) (net : List Int) (place : Int) (leaf0_ : Int → α) (fail_ : α) : g (I.BallOf_tree net place leaf0_ fail_) = I.BallOf_tree net place (fun d => g (leaf0_ d)) (g fail_) := by
  unfold I.BallOf_tree; simp only [apply_cnd g, apply_optC g, apply_sumC g]
noncomputable def I.BallOf_t (net : List Int) (place : Int) : Option (Int) := I.BallOf_tree net place (fun d => some d) none
theorem I.BallOf_den (net : List Int) (place : Int) (κ : V → List E → R) : I.BallOf_F [.ro false (.ints .i64 net), .int .i64 place] [] κ = optC (I.BallOf_t net place) (fun (r : Int) => κ (.int .i64 r) []) none := by
  have hu : I.BallOf_F [.ro false (.ints .i64 net), .int .i64 place] [] κ = I.BallOf_tree net place (fun d => κ (.int .i64 d) []) none := by
    kernel_rfl
  rw [hu]
  exact (I.BallOf_tree_nat (fun o => optC o (fun (r : Int) => κ (.int .i64 r) []) none) net place (fun d => some d) none).symm
noncomputable def I.BallOf_s : D.Spec where
  keep := false
  pure := true
  add := true
  ds := [.int .i64, .invalid]
  sp := fun args h κ => match args, h with
    | [.ro false (.ints .i64 net), .int .i64 place], [] => optC (I.BallOf_t net place) (fun (r : Int) => κ (.int .i64 r) []) none
    | _, _ => none
theorem I.BallOf_ok : SpecOk Try.prog 23 I.BallOf_s := by
  refine SpecOk.of TDok mixed (T := I.BallOf_T) ?_ (ann := I.BallOf_ann) Try.func23 rfl (by decide +kernel) ?_ ?_ ?_ ?_
  · intro p hp
    simp only [I.BallOf_T, List.mem_cons, List.not_mem_nil, or_false] at hp
    rcases hp with rfl | rfl | rfl
    · exact I.NetOk_ok
    · exact I.placeIn_ok
    · exact I.ballIn_ok
  · intro args h κ r hh
    simp only [I.BallOf_s] at hh
    split at hh
    · exact (I.BallOf_den _ _ κ).trans hh
    · cases hh
  · intro args h κ r hh
    simp only [I.BallOf_s] at hh ⊢
    split at hh
    · exact optC_law2 (F := fun (r : Int) κ => κ (.int .i64 r) []) (fun b κ r hb => ⟨_, _, hb, fun _ => rfl⟩) hh
    · cases hh
  · intro _ args h κ r hh
    simp only [I.BallOf_s] at hh
    split at hh
    · exact ⟨rfl, fun _ => rfl⟩
    · cases hh
  · intro _ args h κ r hh
    simp only [I.BallOf_s] at hh
    split at hh
    · rfl
    · cases hh

-- loop.example/guardsonnets/laws.FnBestPlay
noncomputable def L.FnBestPlay_T : List (Nat × D.Spec) := [(19, S.DrawBestPlay_s), (20, I.BestPlay_s), (21, S.BestPlay_s), (12, I.GameMoves_s), (15, L.alive_s), (22, I.PlayMay_s), (23, I.BallOf_s)]
def L.FnBestPlay_ann : Nat → List Nat × List Nat
  | 11 => ([3, 4, 5, 6, 7, 8], [2, 3, 4, 5, 6, 7])
  | _ => ([], [])
noncomputable def L.FnBestPlay_F (args : List V) (h : List E) (κ : V → List E → R) : R := funC TD (tableK L.FnBestPlay_T) L.FnBestPlay_ann (drawOk TD (tableP L.FnBestPlay_T)) FUEL Try.f5 args h κ
noncomputable def L.FnBestPlay_L11 (n : Nat) (σ : St) (k : X → St → R) : R := iterC 0 (fun σ k => denC TD (tableK L.FnBestPlay_T) L.FnBestPlay_ann (drawOk TD (tableP L.FnBestPlay_T)) 0 FUEL ((findLoop 11 (Try.f5.body.getD .skip)).getD .skip) σ k) [3, 4, 5, 6, 7, 8] [2, 3, 4, 5, 6, 7] n σ k
noncomputable def L.FnBestPlay_k11 (κ : V → List E → R) : X → St → R := (afterC TD (tableK L.FnBestPlay_T) L.FnBestPlay_ann (drawOk TD (tableP L.FnBestPlay_T)) 0 FUEL 11 (Try.f5.body.getD .skip) (finC TD 0 Try.f5 κ)).getD (fun _ _ => none)
noncomputable def L.FnBestPlay_step11 {α : Type} (x4 : Int) (x5 : Bool) (x6 : Int) (x7 : Int) (x8 : Int) (r0 : List Int) (next_ : Int × (List Int) → α) (out0_ : Bool × (List Int) → α) (out1_ : List Int → α) (fail_ : α) : α :=
  (bif decide (x8 < x6) then (optC (I.PlayMay_t r0 x4 x8) (fun c_7 => (bif c_7 then (optC (I.BallOf_t r0 x8) (fun c_8 => (optC (I.GameMoves_t r0 (bits BinOp.or IntKind.i64 x4 c_8) !x5) (fun c_9 => (bif c_9 == IntKind.i64.wrap (x7 - 1) then (out0_ (false, r0)) else (next_ (IntKind.i64.wrap (x8 + 1), r0)))) fail_)) fail_) else (next_ (IntKind.i64.wrap (x8 + 1), r0)))) fail_) else (out1_ r0))
theorem L.FnBestPlay_step11_nat {α γ : Type} (g : α → γ) (x4 : Int) (x5 : Bool) (x6 : Int) (x7 : Int) (x8 : Int) (r0 : List Int) (next_ : Int × (List Int) → α) (out0_ : Bool × (List Int) → α) (out1_ : List Int → α) (fail_ : α) : g (L.FnBestPlay_step11 x4 x5 x6 x7 x8 r0 next_ out0_ out1_ fail_) = L.FnBestPlay_step11 x4 x5 x6 x7 x8 r0 (fun s => g (next_ s)) (fun d => g (out0_ d)) (fun d => g (out1_ d)) (g fail_) := by
  unfold L.FnBestPlay_step11; simp only [apply_cnd g, apply_optC g, apply_sumC g]
noncomputable def L.FnBestPlay_run11 (x4 : Int) (x5 : Bool) (x6 : Int) (x7 : Int) : Nat → Int × (List Int) → Option ((Bool × (List Int)) ⊕ (List Int))
  | 0, _ => none
  | n + 1, s_ => L.FnBestPlay_step11 x4 x5 x6 x7 s_.1 s_.2 (L.FnBestPlay_run11 x4 x5 x6 x7 n) (fun d => some ((Sum.inl d))) (fun d => some ((Sum.inr d))) none
theorem L.FnBestPlay_L11_run (x4 : Int) (x5 : Bool) (x6 : Int) (x7 : Int) (n : Nat) (s_ : Int × (List Int)) (k : X → St → R) : L.FnBestPlay_L11 n { n := 87, t := [(3, (.own 0)), (4, (.int .i64 x4)), (5, (.bool x5)), (6, (.int .i64 x6)), (7, (.int .i64 x7)), (8, (.int .i64 s_.1))], h := [.row (.ints .i64 s_.2)] } k = optC (L.FnBestPlay_run11 x4 x5 x6 x7 n s_) (fun (r : (Bool × (List Int)) ⊕ (List Int)) => (sumC r (fun (r : Bool × (List Int)) => k (.ret) { n := 87, t := [(2, (.bool r.1)), (3, (.own 0)), (4, (.int .i64 x4)), (5, (.bool x5)), (6, (.int .i64 x6)), (7, (.int .i64 x7))], h := [.row (.ints .i64 r.2)] }) (fun (r : List Int) => k (.exit 0) { n := 87, t := [(2, .junk), (3, (.own 0)), (4, (.int .i64 x4)), (5, (.bool x5)), (6, (.int .i64 x6)), (7, (.int .i64 x7))], h := [.row (.ints .i64 r)] }))) none := by
  induction n generalizing s_ with
  | zero => rfl
  | succ n ih =>
    have hu : L.FnBestPlay_L11 (n + 1) { n := 87, t := [(3, (.own 0)), (4, (.int .i64 x4)), (5, (.bool x5)), (6, (.int .i64 x6)), (7, (.int .i64 x7)), (8, (.int .i64 s_.1))], h := [.row (.ints .i64 s_.2)] } k = L.FnBestPlay_step11 x4 x5 x6 x7 s_.1 s_.2 (fun s_ => L.FnBestPlay_L11 n { n := 87, t := [(3, (.own 0)), (4, (.int .i64 x4)), (5, (.bool x5)), (6, (.int .i64 x6)), (7, (.int .i64 x7)), (8, (.int .i64 s_.1))], h := [.row (.ints .i64 s_.2)] } k) (fun d => k (.ret) { n := 87, t := [(2, (.bool d.1)), (3, (.own 0)), (4, (.int .i64 x4)), (5, (.bool x5)), (6, (.int .i64 x6)), (7, (.int .i64 x7))], h := [.row (.ints .i64 d.2)] }) (fun d => k (.exit 0) { n := 87, t := [(2, .junk), (3, (.own 0)), (4, (.int .i64 x4)), (5, (.bool x5)), (6, (.int .i64 x6)), (7, (.int .i64 x7))], h := [.row (.ints .i64 d)] }) none := by
      kernel_rfl
    have hs : (fun s_ : Int × (List Int) => L.FnBestPlay_L11 n { n := 87, t := [(3, (.own 0)), (4, (.int .i64 x4)), (5, (.bool x5)), (6, (.int .i64 x6)), (7, (.int .i64 x7)), (8, (.int .i64 s_.1))], h := [.row (.ints .i64 s_.2)] } k) = fun s_ => optC (L.FnBestPlay_run11 x4 x5 x6 x7 n s_) (fun (r : (Bool × (List Int)) ⊕ (List Int)) => (sumC r (fun (r : Bool × (List Int)) => k (.ret) { n := 87, t := [(2, (.bool r.1)), (3, (.own 0)), (4, (.int .i64 x4)), (5, (.bool x5)), (6, (.int .i64 x6)), (7, (.int .i64 x7))], h := [.row (.ints .i64 r.2)] }) (fun (r : List Int) => k (.exit 0) { n := 87, t := [(2, .junk), (3, (.own 0)), (4, (.int .i64 x4)), (5, (.bool x5)), (6, (.int .i64 x6)), (7, (.int .i64 x7))], h := [.row (.ints .i64 r)] }))) none := funext ih
    rw [hu, hs]
    exact (L.FnBestPlay_step11_nat (fun o => optC o (fun (r : (Bool × (List Int)) ⊕ (List Int)) => (sumC r (fun (r : Bool × (List Int)) => k (.ret) { n := 87, t := [(2, (.bool r.1)), (3, (.own 0)), (4, (.int .i64 x4)), (5, (.bool x5)), (6, (.int .i64 x6)), (7, (.int .i64 x7))], h := [.row (.ints .i64 r.2)] }) (fun (r : List Int) => k (.exit 0) { n := 87, t := [(2, .junk), (3, (.own 0)), (4, (.int .i64 x4)), (5, (.bool x5)), (6, (.int .i64 x6)), (7, (.int .i64 x7))], h := [.row (.ints .i64 r)] }))) none) x4 x5 x6 x7 s_.1 s_.2 (L.FnBestPlay_run11 x4 x5 x6 x7 n) (fun d => some ((Sum.inl d))) (fun d => some ((Sum.inr d))) none).symm
noncomputable def L.FnBestPlay_tree {α : Type} (code : List Int) (leaf0_ : Bool → α) (fail_ : α) : α :=
  (bif decide ((↑code.length : Int) > 1048576) then (leaf0_ true) else (optC (S.DrawBestPlay_t code) (fun c_1 => (optC (I.BestPlay_t c_1.snd.snd c_1.fst c_1.snd.fst) (fun c_2 => (optC (S.BestPlay_t c_1.snd.snd c_1.fst c_1.snd.fst) (fun c_3 => (bif !c_2 == c_3 then (leaf0_ false) else (bif decide (c_2 < 0) then (bif c_2 == -1 then (optC (I.GameMoves_t c_1.snd.snd c_1.fst c_1.snd.fst) (fun c_4 => (bif decide (c_4 ≤ 0) then (optC (L.alive_t) (fun c_5 => (leaf0_ c_5)) fail_) else (leaf0_ false))) fail_) else (leaf0_ false)) else (optC (I.GameMoves_t c_1.snd.snd c_1.fst c_1.snd.fst) (fun c_6 => (optC (L.FnBestPlay_run11 c_1.fst c_1.snd.fst c_2 c_6 FUEL (0, c_1.snd.snd)) (fun qy_10 => (sumC qy_10 (fun (qy_10 : Bool × (List Int)) => (leaf0_ qy_10.1)) (fun (qy_10 : List Int) => (optC (I.PlayMay_t qy_10 c_1.fst c_2) (fun c_11 => (bif c_11 then (optC (I.BallOf_t qy_10 c_2) (fun c_12 => (optC (I.GameMoves_t qy_10 (bits BinOp.or IntKind.i64 c_1.fst c_12) !c_1.snd.fst) (fun c_13 => (leaf0_ (c_13 == IntKind.i64.wrap (c_6 - 1)))) fail_)) fail_) else (leaf0_ false))) fail_)))) fail_)) fail_)))) fail_)) fail_)) fail_))
theorem L.FnBestPlay_tree_nat {α γ : Type} (g : α → γ) (code : List Int) (leaf0_ : Bool → α) (fail_ : α) : g (L.FnBestPlay_tree code leaf0_ fail_) = L.FnBestPlay_tree code (fun d => g (leaf0_ d)) (g fail_) := by
  unfold L.FnBestPlay_tree; simp only [apply_cnd g, apply_optC g, apply_sumC g]
noncomputable def L.FnBestPlay_t (code : List Int) : Option (Bool) := L.FnBestPlay_tree code (fun d => some d) none
theorem L.FnBestPlay_den (code : List Int) (κ : V → List E → R) : L.FnBestPlay_F [.ro true (.ints .u8 code)] [] κ = optC (L.FnBestPlay_t code) (fun (r : Bool) => κ (.bool r) []) none := by
  have hu : L.FnBestPlay_F [.ro true (.ints .u8 code)] [] κ = L.FnBestPlay_tree code (fun d => κ (.bool d) []) none := by
    refine Eq.trans (show L.FnBestPlay_F [.ro true (.ints .u8 code)] [] κ = (bif decide ((↑code.length : Int) > 1048576) then (κ (.bool true) []) else (optC (S.DrawBestPlay_t code) (fun c_1 => (optC (I.BestPlay_t c_1.snd.snd c_1.fst c_1.snd.fst) (fun c_2 => (optC (S.BestPlay_t c_1.snd.snd c_1.fst c_1.snd.fst) (fun c_3 => (bif !c_2 == c_3 then (κ (.bool false) []) else (bif decide (c_2 < 0) then (bif c_2 == -1 then (optC (I.GameMoves_t c_1.snd.snd c_1.fst c_1.snd.fst) (fun c_4 => (bif decide (c_4 ≤ 0) then (optC (L.alive_t) (fun c_5 => (κ (.bool c_5) [])) none) else (κ (.bool false) []))) none) else (κ (.bool false) [])) else (optC (I.GameMoves_t c_1.snd.snd c_1.fst c_1.snd.fst) (fun c_6 => (L.FnBestPlay_L11 FUEL { n := 87, t := [(3, (.own 0)), (4, (.int .i64 c_1.fst)), (5, (.bool c_1.snd.fst)), (6, (.int .i64 c_2)), (7, (.int .i64 c_6)), (8, (.int .i64 0))], h := [.row (.ints .i64 c_1.snd.snd)] } (L.FnBestPlay_k11 κ))) none)))) none)) none)) none)) by kernel_rfl) ?_
    refine cnd_congr ?_ ?_
    · kernel_rfl
    · refine optC_congr (fun c_1 => ?_)
      refine optC_congr (fun c_2 => ?_)
      refine optC_congr (fun c_3 => ?_)
      refine cnd_congr ?_ ?_
      · kernel_rfl
      · refine cnd_congr ?_ ?_
        · kernel_rfl
        · refine optC_congr (fun c_6 => ?_)
          refine (L.FnBestPlay_L11_run c_1.fst c_1.snd.fst c_2 c_6 FUEL (0, c_1.snd.snd) (L.FnBestPlay_k11 κ)).trans (optC_congr (fun qy_10 => ?_))
          rcases qy_10 with qy_10 | qy_10
          · kernel_rfl
          · kernel_rfl
  rw [hu]
  exact (L.FnBestPlay_tree_nat (fun o => optC o (fun (r : Bool) => κ (.bool r) []) none) code (fun d => some d) none).symm
noncomputable def L.FnBestPlay_s : D.Spec where
  keep := true
  pure := true
  add := true
  ds := [.int .u8]
  sp := fun args h κ => match args, h with
    | [.ro true (.ints .u8 code)], [] => optC (L.FnBestPlay_t code) (fun (r : Bool) => κ (.bool r) []) none
    | _, _ => none
theorem L.FnBestPlay_ok : SpecOk Try.prog 5 L.FnBestPlay_s := by
  refine SpecOk.of TDok mixed (T := L.FnBestPlay_T) ?_ (ann := L.FnBestPlay_ann) Try.func5 rfl (by decide +kernel) ?_ ?_ ?_ ?_
  · intro p hp
    simp only [L.FnBestPlay_T, List.mem_cons, List.not_mem_nil, or_false] at hp
    rcases hp with rfl | rfl | rfl | rfl | rfl | rfl | rfl
    · exact S.DrawBestPlay_ok
    · exact I.BestPlay_ok
    · exact S.BestPlay_ok
    · exact I.GameMoves_ok
    · exact L.alive_ok
    · exact I.PlayMay_ok
    · exact I.BallOf_ok
  · intro args h κ r hh
    simp only [L.FnBestPlay_s] at hh
    split at hh
    · exact (L.FnBestPlay_den _ κ).trans hh
    · cases hh
  · intro args h κ r hh
    simp only [L.FnBestPlay_s] at hh ⊢
    split at hh
    · exact optC_law2 (F := fun (r : Bool) κ => κ (.bool r) []) (fun b κ r hb => ⟨_, _, hb, fun _ => rfl⟩) hh
    · cases hh
  · intro _ args h κ r hh
    simp only [L.FnBestPlay_s] at hh
    split at hh
    · exact ⟨rfl, fun _ => rfl⟩
    · cases hh
  · intro _ args h κ r hh
    simp only [L.FnBestPlay_s] at hh
    split at hh
    · rfl
    · cases hh

-- loop.example/guardsonnets/laws.FnExactBestPlay
noncomputable def L.FnExactBestPlay_T : List (Nat × D.Spec) := [(17, L.toIntS_s), (21, S.BestPlay_s), (20, I.BestPlay_s), (18, L.eqIntS_s)]
def L.FnExactBestPlay_ann : Nat → List Nat × List Nat
  | _ => ([], [])
noncomputable def L.FnExactBestPlay_F (args : List V) (h : List E) (κ : V → List E → R) : R := funC TD (tableK L.FnExactBestPlay_T) L.FnExactBestPlay_ann (drawOk TD (tableP L.FnExactBestPlay_T)) FUEL Try.f6 args h κ
noncomputable def L.FnExactBestPlay_tree {α : Type} (aNet : List Int) (aSeen : Int) (aFew : Bool) (leaf0_ : Bool → α) (fail_ : α) : α :=
  (bif decide ((↑aNet.length : Int) > 1048576) then (leaf0_ true) else (optC (L.toIntS_t aNet) (fun c_1 => (optC (S.BestPlay_t c_1 aSeen aFew) (fun c_2 => (optC (L.toIntS_t aNet) (fun c_3 => (optC (I.BestPlay_t c_3 aSeen aFew) (fun c_4 => (bif !c_4 == c_2 then (leaf0_ false) else (optC (L.toIntS_t aNet) (fun c_5 => (optC (L.eqIntS_t c_3 c_5) (fun c_6 => (bif !c_6 then (leaf0_ false) else (leaf0_ true))) fail_)) fail_))) fail_)) fail_)) fail_)) fail_))
theorem L.FnExactBestPlay_tree_nat {α γ : Type} (g : α → γ) (aNet : List Int) (aSeen : Int) (aFew : Bool) (leaf0_ : Bool → α) (fail_ : α) : g (L.FnExactBestPlay_tree aNet aSeen aFew leaf0_ fail_) = L.FnExactBestPlay_tree aNet aSeen aFew (fun d => g (leaf0_ d)) (g fail_) := by
  unfold L.FnExactBestPlay_tree; simp only [apply_cnd g, apply_optC g, apply_sumC g]
noncomputable def L.FnExactBestPlay_t (aNet : List Int) (aSeen : Int) (aFew : Bool) : Option (Bool) := L.FnExactBestPlay_tree aNet aSeen aFew (fun d => some d) none
theorem L.FnExactBestPlay_den (aNet : List Int) (aSeen : Int) (aFew : Bool) (κ : V → List E → R) : L.FnExactBestPlay_F [.ro true (.ints .i64 aNet), .int .i64 aSeen, .bool aFew] [] κ = optC (L.FnExactBestPlay_t aNet aSeen aFew) (fun (r : Bool) => κ (.bool r) []) none := by
  have hu : L.FnExactBestPlay_F [.ro true (.ints .i64 aNet), .int .i64 aSeen, .bool aFew] [] κ = L.FnExactBestPlay_tree aNet aSeen aFew (fun d => κ (.bool d) []) none := by
    kernel_rfl
  rw [hu]
  exact (L.FnExactBestPlay_tree_nat (fun o => optC o (fun (r : Bool) => κ (.bool r) []) none) aNet aSeen aFew (fun d => some d) none).symm
noncomputable def L.FnExactBestPlay_s : D.Spec where
  keep := true
  pure := true
  add := true
  ds := [.int .i64, .invalid, .invalid]
  sp := fun args h κ => match args, h with
    | [.ro true (.ints .i64 aNet), .int .i64 aSeen, .bool aFew], [] => optC (L.FnExactBestPlay_t aNet aSeen aFew) (fun (r : Bool) => κ (.bool r) []) none
    | _, _ => none
theorem L.FnExactBestPlay_ok : SpecOk Try.prog 6 L.FnExactBestPlay_s := by
  refine SpecOk.of TDok mixed (T := L.FnExactBestPlay_T) ?_ (ann := L.FnExactBestPlay_ann) Try.func6 rfl (by decide +kernel) ?_ ?_ ?_ ?_
  · intro p hp
    simp only [L.FnExactBestPlay_T, List.mem_cons, List.not_mem_nil, or_false] at hp
    rcases hp with rfl | rfl | rfl | rfl
    · exact L.toIntS_ok
    · exact S.BestPlay_ok
    · exact I.BestPlay_ok
    · exact L.eqIntS_ok
  · intro args h κ r hh
    simp only [L.FnExactBestPlay_s] at hh
    split at hh
    · exact (L.FnExactBestPlay_den _ _ _ κ).trans hh
    · cases hh
  · intro args h κ r hh
    simp only [L.FnExactBestPlay_s] at hh ⊢
    split at hh
    · exact optC_law2 (F := fun (r : Bool) κ => κ (.bool r) []) (fun b κ r hb => ⟨_, _, hb, fun _ => rfl⟩) hh
    · cases hh
  · intro _ args h κ r hh
    simp only [L.FnExactBestPlay_s] at hh
    split at hh
    · exact ⟨rfl, fun _ => rfl⟩
    · cases hh
  · intro _ args h κ r hh
    simp only [L.FnExactBestPlay_s] at hh
    split at hh
    · rfl
    · cases hh

-- loop.example/guardsonnets/spec.DrawPlayOf
noncomputable def S.DrawPlayOf_T : List (Nat × D.Spec) := [(37, S.l20Open_s), (53, S.l20Net_s), (39, S.l20Rd_pick_s)]
def S.DrawPlayOf_ann : Nat → List Nat × List Nat
  | _ => ([], [])
noncomputable def S.DrawPlayOf_F (args : List V) (h : List E) (κ : V → List E → R) : R := funC TD (tableK S.DrawPlayOf_T) S.DrawPlayOf_ann (drawOk TD (tableP S.DrawPlayOf_T)) FUEL Try.f24 args h κ
noncomputable def S.DrawPlayOf_tree {α : Type} (code : List Int) (leaf0_ : Bool × (List Int) → α) (fail_ : α) : α :=
  (optC (S.l20Open_t code) (fun c_1 => (optC (S.l20Net_t c_1.fst c_1.snd 9) (fun c_2 => (optC (S.l20Rd_pick_t c_2.fst c_2.snd.fst 2) (fun c_3 => (leaf0_ (c_3.fst == 0, c_2.snd.snd))) fail_)) fail_)) fail_)
theorem S.DrawPlayOf_tree_nat {α γ : Type} (g : α → γ) (code : List Int) (leaf0_ : Bool × (List Int) → α) (fail_ : α) : g (S.DrawPlayOf_tree code leaf0_ fail_) = S.DrawPlayOf_tree code (fun d => g (leaf0_ d)) (g fail_) := by
  unfold S.DrawPlayOf_tree; simp only [apply_cnd g, apply_optC g, apply_sumC g]
noncomputable def S.DrawPlayOf_t (code : List Int) : Option (Bool × (List Int)) := S.DrawPlayOf_tree code (fun d => some d) none
theorem S.DrawPlayOf_den (code : List Int) (κ : V → List E → R) : S.DrawPlayOf_F [.ro true (.ints .u8 code)] [] κ = optC (S.DrawPlayOf_t code) (fun (r : Bool × (List Int)) => κ (.tup [(.own 0), (.bool r.1)]) [.row (.ints .i64 r.2)]) none := by
  have hu : S.DrawPlayOf_F [.ro true (.ints .u8 code)] [] κ = S.DrawPlayOf_tree code (fun d => κ (.tup [(.own 0), (.bool d.1)]) [.row (.ints .i64 d.2)]) none := by
    kernel_rfl
  rw [hu]
  exact (S.DrawPlayOf_tree_nat (fun o => optC o (fun (r : Bool × (List Int)) => κ (.tup [(.own 0), (.bool r.1)]) [.row (.ints .i64 r.2)]) none) code (fun d => some d) none).symm
noncomputable def S.DrawPlayOf_s : D.Spec where
  keep := true
  pure := false
  add := true
  ds := [.int .u8]
  sp := fun args h κ => match args, h with
    | [.ro true (.ints .u8 code)], [] => optC (S.DrawPlayOf_t code) (fun (r : Bool × (List Int)) => κ (.tup [(.own 0), (.bool r.1)]) [.row (.ints .i64 r.2)]) none
    | _, _ => none
theorem S.DrawPlayOf_ok : SpecOk Try.prog 24 S.DrawPlayOf_s := by
  refine SpecOk.of TDok mixed (T := S.DrawPlayOf_T) ?_ (ann := S.DrawPlayOf_ann) Try.func24 rfl (by decide +kernel) ?_ ?_ ?_ ?_
  · intro p hp
    simp only [S.DrawPlayOf_T, List.mem_cons, List.not_mem_nil, or_false] at hp
    rcases hp with rfl | rfl | rfl
    · exact S.l20Open_ok
    · exact S.l20Net_ok
    · exact S.l20Rd_pick_ok
  · intro args h κ r hh
    simp only [S.DrawPlayOf_s] at hh
    split at hh
    · exact (S.DrawPlayOf_den _ κ).trans hh
    · cases hh
  · intro args h κ r hh
    simp only [S.DrawPlayOf_s] at hh ⊢
    split at hh
    · exact optC_law2 (F := fun (r : Bool × (List Int)) κ => κ (.tup [(.own 0), (.bool r.1)]) [.row (.ints .i64 r.2)]) (fun b κ r hb => ⟨_, _, hb, fun _ => rfl⟩) hh
    · cases hh
  · intro hh; cases hh
  · intro _ args h κ r hh
    simp only [S.DrawPlayOf_s] at hh
    split at hh
    · rfl
    · cases hh

-- loop.example/guardsonnets/impl.PlayOf
noncomputable def I.PlayOf_T : List (Nat × D.Spec) := [(28, I.NetOk_s), (42, I.gamesIn_s), (48, I.bestIn_s), (52, I.ballIn_s)]
def I.PlayOf_ann : Nat → List Nat × List Nat
  | 8 => ([0, 5, 6, 7, 8, 9], [5])
  | _ => ([], [])
noncomputable def I.PlayOf_F (args : List V) (h : List E) (κ : V → List E → R) : R := funC TD (tableK I.PlayOf_T) I.PlayOf_ann (drawOk TD (tableP I.PlayOf_T)) FUEL Try.f25 args h κ
noncomputable def I.PlayOf_L8 (n : Nat) (σ : St) (k : X → St → R) : R := iterC 0 (fun σ k => denC TD (tableK I.PlayOf_T) I.PlayOf_ann (drawOk TD (tableP I.PlayOf_T)) 0 FUEL ((findLoop 8 (Try.f25.body.getD .skip)).getD .skip) σ k) [0, 5, 6, 7, 8, 9] [5] n σ k
noncomputable def I.PlayOf_k8 (κ : V → List E → R) : X → St → R := (afterC TD (tableK I.PlayOf_T) I.PlayOf_ann (drawOk TD (tableP I.PlayOf_T)) 0 FUEL 8 (Try.f25.body.getD .skip) (finC TD 0 Try.f25 κ)).getD (fun _ _ => none)
noncomputable def I.PlayOf_step8 {α : Type} (x0 : List Int) (x7 : Int) (x8 : Bool) (x9 : Int) (r0 : List Int) (r1 : List Int) (next_ : Int × Bool × Int × (List Int) × (List Int) → α) (out0_ : List Int → α) (fail_ : α) : α :=
  (bif decide (x9 ≥ 0) then (bif small (r0 ++ [x9]).length then (optC (I.ballIn_t x0 x9) (fun c_4 => (optC (I.bestIn_t x0 r1 (bits BinOp.or IntKind.i64 x7 c_4) !x8) (fun c_5 => (next_ (bits BinOp.or IntKind.i64 x7 c_4, !x8, c_5, r0 ++ [x9], r1))) fail_)) fail_) else fail_) else (out0_ r0))
theorem I.PlayOf_step8_nat {α γ : Type} (g : α → γ) (x0 : List Int) (x7 : Int) (x8 : Bool) (x9 : Int) (r0 : List Int) (r1 : List Int) (next_ : Int × Bool × Int × (List Int) × (List Int) → α) (out0_ : List Int → α) (fail_ : α) : g (I.PlayOf_step8 x0 x7 x8 x9 r0 r1 next_ out0_ fail_) = I.PlayOf_step8 x0 x7 x8 x9 r0 r1 (fun s => g (next_ s)) (fun d => g (out0_ d)) (g fail_) := by
  unfold I.PlayOf_step8; simp only [apply_cnd g, apply_optC g, apply_sumC g]
noncomputable def I.PlayOf_run8 (x0 : List Int) : Nat → Int × Bool × Int × (List Int) × (List Int) → Option (List Int)
  | 0, _ => none
  | n + 1, s_ => I.PlayOf_step8 x0 s_.1 s_.2.1 s_.2.2.1 s_.2.2.2.1 s_.2.2.2.2 (I.PlayOf_run8 x0 n) (fun d => some d) none
theorem I.PlayOf_L8_run (x0 : List Int) (n : Nat) (s_ : Int × Bool × Int × (List Int) × (List Int)) (k : X → St → R) : I.PlayOf_L8 n { n := 41, t := [(0, (.ro false (.ints .i64 x0))), (5, (.own 0)), (6, (.own 1)), (7, (.int .i64 s_.1)), (8, (.bool s_.2.1)), (9, (.int .i64 s_.2.2.1))], h := [.row (.ints .i64 s_.2.2.2.1), .recs 2 s_.2.2.2.2] } k = optC (I.PlayOf_run8 x0 n s_) (fun (r : List Int) => k (.exit 0) { n := 41, t := [(5, (.own 0))], h := [.row (.ints .i64 r)] }) none := by
  induction n generalizing s_ with
  | zero => rfl
  | succ n ih =>
    have hu : I.PlayOf_L8 (n + 1) { n := 41, t := [(0, (.ro false (.ints .i64 x0))), (5, (.own 0)), (6, (.own 1)), (7, (.int .i64 s_.1)), (8, (.bool s_.2.1)), (9, (.int .i64 s_.2.2.1))], h := [.row (.ints .i64 s_.2.2.2.1), .recs 2 s_.2.2.2.2] } k = I.PlayOf_step8 x0 s_.1 s_.2.1 s_.2.2.1 s_.2.2.2.1 s_.2.2.2.2 (fun s_ => I.PlayOf_L8 n { n := 41, t := [(0, (.ro false (.ints .i64 x0))), (5, (.own 0)), (6, (.own 1)), (7, (.int .i64 s_.1)), (8, (.bool s_.2.1)), (9, (.int .i64 s_.2.2.1))], h := [.row (.ints .i64 s_.2.2.2.1), .recs 2 s_.2.2.2.2] } k) (fun d => k (.exit 0) { n := 41, t := [(5, (.own 0))], h := [.row (.ints .i64 d)] }) none := by
      kernel_rfl
    have hs : (fun s_ : Int × Bool × Int × (List Int) × (List Int) => I.PlayOf_L8 n { n := 41, t := [(0, (.ro false (.ints .i64 x0))), (5, (.own 0)), (6, (.own 1)), (7, (.int .i64 s_.1)), (8, (.bool s_.2.1)), (9, (.int .i64 s_.2.2.1))], h := [.row (.ints .i64 s_.2.2.2.1), .recs 2 s_.2.2.2.2] } k) = fun s_ => optC (I.PlayOf_run8 x0 n s_) (fun (r : List Int) => k (.exit 0) { n := 41, t := [(5, (.own 0))], h := [.row (.ints .i64 r)] }) none := funext ih
    rw [hu, hs]
    exact (I.PlayOf_step8_nat (fun o => optC o (fun (r : List Int) => k (.exit 0) { n := 41, t := [(5, (.own 0))], h := [.row (.ints .i64 r)] }) none) x0 s_.1 s_.2.1 s_.2.2.1 s_.2.2.2.1 s_.2.2.2.2 (I.PlayOf_run8 x0 n) (fun d => some d) none).symm
noncomputable def I.PlayOf_tree {α : Type} (net : List Int) (few : Bool) (leaf0_ : List Int → α) (fail_ : α) : α :=
  (optC (I.NetOk_t net) (fun c_1 => (bif !c_1 then (leaf0_ ([])) else (optC (I.gamesIn_t net) (fun c_2 => (optC (I.bestIn_t net c_2 0 few) (fun c_3 => (optC (I.PlayOf_run8 net FUEL (0, few, c_3, [], c_2)) (fun qy_6 => (leaf0_ qy_6)) fail_)) fail_)) fail_))) fail_)
theorem I.PlayOf_tree_nat {α γ : Type} (g : α → γ) (net : List Int) (few : Bool) (leaf0_ : List Int → α) (fail_ : α) : g (I.PlayOf_tree net few leaf0_ fail_) = I.PlayOf_tree net few (fun d => g (leaf0_ d)) (g fail_) := by
  unfold I.PlayOf_tree; simp only [apply_cnd g, apply_optC g, apply_sumC g]
noncomputable def I.PlayOf_t (net : List Int) (few : Bool) : Option (List Int) := I.PlayOf_tree net few (fun d => some d) none
theorem I.PlayOf_den (net : List Int) (few : Bool) (κ : V → List E → R) : I.PlayOf_F [.ro false (.ints .i64 net), .bool few] [] κ = optC (I.PlayOf_t net few) (fun (r : List Int) => κ (.own 0) [.row (.ints .i64 r)]) none := by
  have hu : I.PlayOf_F [.ro false (.ints .i64 net), .bool few] [] κ = I.PlayOf_tree net few (fun d => κ (.own 0) [.row (.ints .i64 d)]) none := by
    refine Eq.trans (show I.PlayOf_F [.ro false (.ints .i64 net), .bool few] [] κ = (optC (I.NetOk_t net) (fun c_1 => (bif !c_1 then (κ (.own 0) [.row (.ints .i64 ([]))]) else (optC (I.gamesIn_t net) (fun c_2 => (optC (I.bestIn_t net c_2 0 few) (fun c_3 => (I.PlayOf_L8 FUEL { n := 41, t := [(0, (.ro false (.ints .i64 net))), (5, (.own 0)), (6, (.own 1)), (7, (.int .i64 0)), (8, (.bool few)), (9, (.int .i64 c_3))], h := [.row (.ints .i64 ([])), .recs 2 c_2] } (I.PlayOf_k8 κ))) none)) none))) none) by kernel_rfl) ?_
    refine optC_congr (fun c_1 => ?_)
    refine cnd_congr ?_ ?_
    · kernel_rfl
    · refine optC_congr (fun c_2 => ?_)
      refine optC_congr (fun c_3 => ?_)
      refine (I.PlayOf_L8_run net FUEL (0, few, c_3, [], c_2) (I.PlayOf_k8 κ)).trans (optC_congr (fun qy_6 => ?_))
      kernel_rfl
  rw [hu]
  exact (I.PlayOf_tree_nat (fun o => optC o (fun (r : List Int) => κ (.own 0) [.row (.ints .i64 r)]) none) net few (fun d => some d) none).symm
noncomputable def I.PlayOf_s : D.Spec where
  keep := false
  pure := false
  add := true
  ds := [.int .i64, .invalid]
  sp := fun args h κ => match args, h with
    | [.ro false (.ints .i64 net), .bool few], [] => optC (I.PlayOf_t net few) (fun (r : List Int) => κ (.own 0) [.row (.ints .i64 r)]) none
    | _, _ => none
theorem I.PlayOf_ok : SpecOk Try.prog 25 I.PlayOf_s := by
  refine SpecOk.of TDok mixed (T := I.PlayOf_T) ?_ (ann := I.PlayOf_ann) Try.func25 rfl (by decide +kernel) ?_ ?_ ?_ ?_
  · intro p hp
    simp only [I.PlayOf_T, List.mem_cons, List.not_mem_nil, or_false] at hp
    rcases hp with rfl | rfl | rfl | rfl
    · exact I.NetOk_ok
    · exact I.gamesIn_ok
    · exact I.bestIn_ok
    · exact I.ballIn_ok
  · intro args h κ r hh
    simp only [I.PlayOf_s] at hh
    split at hh
    · exact (I.PlayOf_den _ _ κ).trans hh
    · cases hh
  · intro args h κ r hh
    simp only [I.PlayOf_s] at hh ⊢
    split at hh
    · exact optC_law2 (F := fun (r : List Int) κ => κ (.own 0) [.row (.ints .i64 r)]) (fun b κ r hb => ⟨_, _, hb, fun _ => rfl⟩) hh
    · cases hh
  · intro hh; cases hh
  · intro _ args h κ r hh
    simp only [I.PlayOf_s] at hh
    split at hh
    · rfl
    · cases hh

-- loop.example/guardsonnets/spec.PlayOf
noncomputable def S.PlayOf_T : List (Nat × D.Spec) := [(54, S.NetOk_s), (21, S.BestPlay_s)]
def S.PlayOf_ann : Nat → List Nat × List Nat
  | 5 => ([0, 1, 5, 6], [5])
  | _ => ([], [])
noncomputable def S.PlayOf_F (args : List V) (h : List E) (κ : V → List E → R) : R := funC TD (tableK S.PlayOf_T) S.PlayOf_ann (drawOk TD (tableP S.PlayOf_T)) FUEL Try.f27 args h κ
noncomputable def S.PlayOf_L5 (n : Nat) (σ : St) (k : X → St → R) : R := iterC 0 (fun σ k => denC TD (tableK S.PlayOf_T) S.PlayOf_ann (drawOk TD (tableP S.PlayOf_T)) 0 FUEL ((findLoop 5 (Try.f27.body.getD .skip)).getD .skip) σ k) [0, 1, 5, 6] [5] n σ k
noncomputable def S.PlayOf_k5 (κ : V → List E → R) : X → St → R := (afterC TD (tableK S.PlayOf_T) S.PlayOf_ann (drawOk TD (tableP S.PlayOf_T)) 0 FUEL 5 (Try.f27.body.getD .skip) (finC TD 0 Try.f27 κ)).getD (fun _ _ => none)
noncomputable def S.PlayOf_step5 {α : Type} (x0 : List Int) (x1 : Bool) (x6 : Int) (r0 : List Int) (next_ : Bool × Int × (List Int) → α) (out0_ : List Int → α) (fail_ : α) : α :=
  (bif !x6 == IntKind.i64.wrap (IntKind.i64.wrap (1 * 2 ^ min (↑x0.length : Int).toNat IntKind.i64.bits) - 1) then (optC (S.BestPlay_t x0 x6 x1) (fun c_2 => (bif small (r0 ++ [c_2]).length then (bif decide (0 ≤ c_2) && decide (c_2 < (↑x0.length : Int)) then (bif decide (c_2 < 0) then fail_ else (next_ (!x1, bits BinOp.or IntKind.i64 (bits BinOp.or IntKind.i64 x6 (eli x0 c_2.toNat)) (IntKind.i64.wrap (1 * 2 ^ min c_2.toNat IntKind.i64.bits)), r0 ++ [c_2]))) else fail_) else fail_)) fail_) else (out0_ r0))
theorem S.PlayOf_step5_nat {α γ : Type} (g : α → γ) (x0 : List Int) (x1 : Bool) (x6 : Int) (r0 : List Int) (next_ : Bool × Int × (List Int) → α) (out0_ : List Int → α) (fail_ : α) : g (S.PlayOf_step5 x0 x1 x6 r0 next_ out0_ fail_) = S.PlayOf_step5 x0 x1 x6 r0 (fun s => g (next_ s)) (fun d => g (out0_ d)) (g fail_) := by
  unfold S.PlayOf_step5; simp only [apply_cnd g, apply_optC g, apply_sumC g]
noncomputable def S.PlayOf_run5 (x0 : List Int) : Nat → Bool × Int × (List Int) → Option (List Int)
  | 0, _ => none
  | n + 1, s_ => S.PlayOf_step5 x0 s_.1 s_.2.1 s_.2.2 (S.PlayOf_run5 x0 n) (fun d => some d) none
theorem S.PlayOf_L5_run (x0 : List Int) (n : Nat) (s_ : Bool × Int × (List Int)) (k : X → St → R) : S.PlayOf_L5 n { n := 39, t := [(0, (.ro false (.ints .i64 x0))), (1, (.bool s_.1)), (5, (.own 0)), (6, (.int .i64 s_.2.1))], h := [.row (.ints .i64 s_.2.2)] } k = optC (S.PlayOf_run5 x0 n s_) (fun (r : List Int) => k (.exit 0) { n := 39, t := [(5, (.own 0))], h := [.row (.ints .i64 r)] }) none := by
  induction n generalizing s_ with
  | zero => rfl
  | succ n ih =>
    have hu : S.PlayOf_L5 (n + 1) { n := 39, t := [(0, (.ro false (.ints .i64 x0))), (1, (.bool s_.1)), (5, (.own 0)), (6, (.int .i64 s_.2.1))], h := [.row (.ints .i64 s_.2.2)] } k = S.PlayOf_step5 x0 s_.1 s_.2.1 s_.2.2 (fun s_ => S.PlayOf_L5 n { n := 39, t := [(0, (.ro false (.ints .i64 x0))), (1, (.bool s_.1)), (5, (.own 0)), (6, (.int .i64 s_.2.1))], h := [.row (.ints .i64 s_.2.2)] } k) (fun d => k (.exit 0) { n := 39, t := [(5, (.own 0))], h := [.row (.ints .i64 d)] }) none := by
      kernel_rfl
    have hs : (fun s_ : Bool × Int × (List Int) => S.PlayOf_L5 n { n := 39, t := [(0, (.ro false (.ints .i64 x0))), (1, (.bool s_.1)), (5, (.own 0)), (6, (.int .i64 s_.2.1))], h := [.row (.ints .i64 s_.2.2)] } k) = fun s_ => optC (S.PlayOf_run5 x0 n s_) (fun (r : List Int) => k (.exit 0) { n := 39, t := [(5, (.own 0))], h := [.row (.ints .i64 r)] }) none := funext ih
    rw [hu, hs]
    exact (S.PlayOf_step5_nat (fun o => optC o (fun (r : List Int) => k (.exit 0) { n := 39, t := [(5, (.own 0))], h := [.row (.ints .i64 r)] }) none) x0 s_.1 s_.2.1 s_.2.2 (S.PlayOf_run5 x0 n) (fun d => some d) none).symm
noncomputable def S.PlayOf_tree {α : Type} (net : List Int) (few : Bool) (leaf0_ : List Int → α) (fail_ : α) : α :=
  (optC (S.NetOk_t net) (fun c_1 => (bif !c_1 then (leaf0_ ([])) else (optC (S.PlayOf_run5 net FUEL (few, 0, [])) (fun qy_3 => (leaf0_ qy_3)) fail_))) fail_)
theorem S.PlayOf_tree_nat {α γ : Type} (g : α → γ) (net : List Int) (few : Bool) (leaf0_ : List Int → α) (fail_ : α) : g (S.PlayOf_tree net few leaf0_ fail_) = S.PlayOf_tree net few (fun d => g (leaf0_ d)) (g fail_) := by
  unfold S.PlayOf_tree; simp only [apply_cnd g, apply_optC g, apply_sumC g]
noncomputable def S.PlayOf_t (net : List Int) (few : Bool) : Option (List Int) := S.PlayOf_tree net few (fun d => some d) none
theorem S.PlayOf_den (net : List Int) (few : Bool) (κ : V → List E → R) : S.PlayOf_F [.ro false (.ints .i64 net), .bool few] [] κ = optC (S.PlayOf_t net few) (fun (r : List Int) => κ (.own 0) [.row (.ints .i64 r)]) none := by
  have hu : S.PlayOf_F [.ro false (.ints .i64 net), .bool few] [] κ = S.PlayOf_tree net few (fun d => κ (.own 0) [.row (.ints .i64 d)]) none := by
    refine Eq.trans (show S.PlayOf_F [.ro false (.ints .i64 net), .bool few] [] κ = (optC (S.NetOk_t net) (fun c_1 => (bif !c_1 then (κ (.own 0) [.row (.ints .i64 ([]))]) else (S.PlayOf_L5 FUEL { n := 39, t := [(0, (.ro false (.ints .i64 net))), (1, (.bool few)), (5, (.own 0)), (6, (.int .i64 0))], h := [.row (.ints .i64 ([]))] } (S.PlayOf_k5 κ)))) none) by kernel_rfl) ?_
    refine optC_congr (fun c_1 => ?_)
    refine cnd_congr ?_ ?_
    · kernel_rfl
    · refine (S.PlayOf_L5_run net FUEL (few, 0, []) (S.PlayOf_k5 κ)).trans (optC_congr (fun qy_3 => ?_))
      kernel_rfl
  rw [hu]
  exact (S.PlayOf_tree_nat (fun o => optC o (fun (r : List Int) => κ (.own 0) [.row (.ints .i64 r)]) none) net few (fun d => some d) none).symm
noncomputable def S.PlayOf_s : D.Spec where
  keep := false
  pure := false
  add := true
  ds := [.int .i64, .invalid]
  sp := fun args h κ => match args, h with
    | [.ro false (.ints .i64 net), .bool few], [] => optC (S.PlayOf_t net few) (fun (r : List Int) => κ (.own 0) [.row (.ints .i64 r)]) none
    | _, _ => none
theorem S.PlayOf_ok : SpecOk Try.prog 27 S.PlayOf_s := by
  refine SpecOk.of TDok mixed (T := S.PlayOf_T) ?_ (ann := S.PlayOf_ann) Try.func27 rfl (by decide +kernel) ?_ ?_ ?_ ?_
  · intro p hp
    simp only [S.PlayOf_T, List.mem_cons, List.not_mem_nil, or_false] at hp
    rcases hp with rfl | rfl
    · exact S.NetOk_ok
    · exact S.BestPlay_ok
  · intro args h κ r hh
    simp only [S.PlayOf_s] at hh
    split at hh
    · exact (S.PlayOf_den _ _ κ).trans hh
    · cases hh
  · intro args h κ r hh
    simp only [S.PlayOf_s] at hh ⊢
    split at hh
    · exact optC_law2 (F := fun (r : List Int) κ => κ (.own 0) [.row (.ints .i64 r)]) (fun b κ r hb => ⟨_, _, hb, fun _ => rfl⟩) hh
    · cases hh
  · intro hh; cases hh
  · intro _ args h κ r hh
    simp only [S.PlayOf_s] at hh
    split at hh
    · rfl
    · cases hh

-- loop.example/guardsonnets/laws.sameInts
noncomputable def L.sameInts_T : List (Nat × D.Spec) := []
def L.sameInts_ann : Nat → List Nat × List Nat
  | 4 => ([0, 1, 5], [4])
  | _ => ([], [])
noncomputable def L.sameInts_F (args : List V) (h : List E) (κ : V → List E → R) : R := funC TD (tableK L.sameInts_T) L.sameInts_ann (drawOk TD (tableP L.sameInts_T)) FUEL Try.f26 args h κ
noncomputable def L.sameInts_L4 (n : Nat) (σ : St) (k : X → St → R) : R := iterC 0 (fun σ k => denC TD (tableK L.sameInts_T) L.sameInts_ann (drawOk TD (tableP L.sameInts_T)) 0 FUEL ((findLoop 4 (Try.f26.body.getD .skip)).getD .skip) σ k) [0, 1, 5] [4] n σ k
noncomputable def L.sameInts_k4 (κ : V → List E → R) : X → St → R := (afterC TD (tableK L.sameInts_T) L.sameInts_ann (drawOk TD (tableP L.sameInts_T)) 0 FUEL 4 (Try.f26.body.getD .skip) (finC TD 0 Try.f26 κ)).getD (fun _ _ => none)
noncomputable def L.sameInts_step4 {α : Type} (x0 : List Int) (x1 : List Int) (x5 : Int) (next_ : Int → α) (out0_ : Bool → α) (out1_ : Unit → α) (fail_ : α) : α :=
  (bif decide (x5 < (↑x0.length : Int)) then (bif decide (0 ≤ x5) && decide (x5 < (↑x0.length : Int)) then (bif decide (0 ≤ x5) && decide (x5 < (↑x1.length : Int)) then (bif !eli x0 x5.toNat == eli x1 x5.toNat then (out0_ false) else (next_ (IntKind.i64.wrap (x5 + 1)))) else fail_) else fail_) else (out1_ ()))
theorem L.sameInts_step4_nat {α γ : Type} (g : α → γ) (x0 : List Int) (x1 : List Int) (x5 : Int) (next_ : Int → α) (out0_ : Bool → α) (out1_ : Unit → α) (fail_ : α) : g (L.sameInts_step4 x0 x1 x5 next_ out0_ out1_ fail_) = L.sameInts_step4 x0 x1 x5 (fun s => g (next_ s)) (fun d => g (out0_ d)) (fun d => g (out1_ d)) (g fail_) := by
  unfold L.sameInts_step4; simp only [apply_cnd g, apply_optC g, apply_sumC g]
noncomputable def L.sameInts_run4 (x0 : List Int) (x1 : List Int) : Nat → Int → Option ((Bool) ⊕ (Unit))
  | 0, _ => none
  | n + 1, s_ => L.sameInts_step4 x0 x1 s_ (L.sameInts_run4 x0 x1 n) (fun d => some ((Sum.inl d))) (fun d => some ((Sum.inr d))) none
theorem L.sameInts_L4_run (x0 : List Int) (x1 : List Int) (n : Nat) (s_ : Int) (k : X → St → R) : L.sameInts_L4 n { n := 26, t := [(0, (.ro false (.ints .i64 x0))), (1, (.ro false (.ints .i64 x1))), (5, (.int .i64 s_))], h := [] } k = optC (L.sameInts_run4 x0 x1 n s_) (fun (r : (Bool) ⊕ (Unit)) => (sumC r (fun (r : Bool) => k (.ret) { n := 26, t := [(4, (.bool r))], h := [] }) (fun (r : Unit) => k (.exit 0) { n := 26, t := [(4, .junk)], h := [] }))) none := by
  induction n generalizing s_ with
  | zero => rfl
  | succ n ih =>
    have hu : L.sameInts_L4 (n + 1) { n := 26, t := [(0, (.ro false (.ints .i64 x0))), (1, (.ro false (.ints .i64 x1))), (5, (.int .i64 s_))], h := [] } k = L.sameInts_step4 x0 x1 s_ (fun s_ => L.sameInts_L4 n { n := 26, t := [(0, (.ro false (.ints .i64 x0))), (1, (.ro false (.ints .i64 x1))), (5, (.int .i64 s_))], h := [] } k) (fun d => k (.ret) { n := 26, t := [(4, (.bool d))], h := [] }) (fun d => k (.exit 0) { n := 26, t := [(4, .junk)], h := [] }) none := by
      kernel_rfl
    have hs : (fun s_ : Int => L.sameInts_L4 n { n := 26, t := [(0, (.ro false (.ints .i64 x0))), (1, (.ro false (.ints .i64 x1))), (5, (.int .i64 s_))], h := [] } k) = fun s_ => optC (L.sameInts_run4 x0 x1 n s_) (fun (r : (Bool) ⊕ (Unit)) => (sumC r (fun (r : Bool) => k (.ret) { n := 26, t := [(4, (.bool r))], h := [] }) (fun (r : Unit) => k (.exit 0) { n := 26, t := [(4, .junk)], h := [] }))) none := funext ih
    rw [hu, hs]
    exact (L.sameInts_step4_nat (fun o => optC o (fun (r : (Bool) ⊕ (Unit)) => (sumC r (fun (r : Bool) => k (.ret) { n := 26, t := [(4, (.bool r))], h := [] }) (fun (r : Unit) => k (.exit 0) { n := 26, t := [(4, .junk)], h := [] }))) none) x0 x1 s_ (L.sameInts_run4 x0 x1 n) (fun d => some ((Sum.inl d))) (fun d => some ((Sum.inr d))) none).symm
noncomputable def L.sameInts_tree {α : Type} (a : List Int) (b_ : List Int) (leaf0_ : Bool → α) (fail_ : α) : α :=
  (bif !(↑a.length : Int) == (↑b_.length : Int) then (leaf0_ false) else (optC (L.sameInts_run4 a b_ FUEL 0) (fun qy_1 => (sumC qy_1 (fun (qy_1 : Bool) => (leaf0_ qy_1)) (fun (qy_1 : Unit) => (leaf0_ true)))) fail_))
theorem L.sameInts_tree_nat {α γ : Type} (g : α → γ) (a : List Int) (b_ : List Int) (leaf0_ : Bool → α) (fail_ : α) : g (L.sameInts_tree a b_ leaf0_ fail_) = L.sameInts_tree a b_ (fun d => g (leaf0_ d)) (g fail_) := by
  unfold L.sameInts_tree; simp only [apply_cnd g, apply_optC g, apply_sumC g]
noncomputable def L.sameInts_t (a : List Int) (b_ : List Int) : Option (Bool) := L.sameInts_tree a b_ (fun d => some d) none
theorem L.sameInts_den (a : List Int) (b_ : List Int) (κ : V → List E → R) : L.sameInts_F [.ro false (.ints .i64 a), .ro false (.ints .i64 b_)] [] κ = optC (L.sameInts_t a b_) (fun (r : Bool) => κ (.bool r) []) none := by
  have hu : L.sameInts_F [.ro false (.ints .i64 a), .ro false (.ints .i64 b_)] [] κ = L.sameInts_tree a b_ (fun d => κ (.bool d) []) none := by
    refine Eq.trans (show L.sameInts_F [.ro false (.ints .i64 a), .ro false (.ints .i64 b_)] [] κ = (bif !(↑a.length : Int) == (↑b_.length : Int) then (κ (.bool false) []) else (L.sameInts_L4 FUEL { n := 26, t := [(0, (.ro false (.ints .i64 a))), (1, (.ro false (.ints .i64 b_))), (5, (.int .i64 0))], h := [] } (L.sameInts_k4 κ))) by kernel_rfl) ?_
    refine cnd_congr ?_ ?_
    · kernel_rfl
    · refine (L.sameInts_L4_run a b_ FUEL 0 (L.sameInts_k4 κ)).trans (optC_congr (fun qy_1 => ?_))
      rcases qy_1 with qy_1 | qy_1
      · kernel_rfl
      · kernel_rfl
  rw [hu]
  exact (L.sameInts_tree_nat (fun o => optC o (fun (r : Bool) => κ (.bool r) []) none) a b_ (fun d => some d) none).symm
noncomputable def L.sameInts_s : D.Spec where
  keep := false
  pure := true
  add := true
  ds := [.int .i64, .int .i64]
  sp := fun args h κ => match args, h with
    | [.ro false (.ints .i64 a), .ro false (.ints .i64 b_)], [] => optC (L.sameInts_t a b_) (fun (r : Bool) => κ (.bool r) []) none
    | _, _ => none
theorem L.sameInts_ok : SpecOk Try.prog 26 L.sameInts_s := by
  refine SpecOk.of TDok mixed (T := L.sameInts_T) ?_ (ann := L.sameInts_ann) Try.func26 rfl (by decide +kernel) ?_ ?_ ?_ ?_
  · intro p hp; cases hp
  · intro args h κ r hh
    simp only [L.sameInts_s] at hh
    split at hh
    · exact (L.sameInts_den _ _ κ).trans hh
    · cases hh
  · intro args h κ r hh
    simp only [L.sameInts_s] at hh ⊢
    split at hh
    · exact optC_law2 (F := fun (r : Bool) κ => κ (.bool r) []) (fun b κ r hb => ⟨_, _, hb, fun _ => rfl⟩) hh
    · cases hh
  · intro _ args h κ r hh
    simp only [L.sameInts_s] at hh
    split at hh
    · exact ⟨rfl, fun _ => rfl⟩
    · cases hh
  · intro _ args h κ r hh
    simp only [L.sameInts_s] at hh
    split at hh
    · rfl
    · cases hh

-- loop.example/guardsonnets/impl.WatchOk
noncomputable def I.WatchOk_T : List (Nat × D.Spec) := [(28, I.NetOk_s), (40, I.setIn_s), (57, I.watchIn_s)]
def I.WatchOk_ann : Nat → List Nat × List Nat
  | _ => ([], [])
noncomputable def I.WatchOk_F (args : List V) (h : List E) (κ : V → List E → R) : R := funC TD (tableK I.WatchOk_T) I.WatchOk_ann (drawOk TD (tableP I.WatchOk_T)) FUEL Try.f29 args h κ
noncomputable def I.WatchOk_tree {α : Type} (net : List Int) (set_ : Int) (leaf0_ : Bool → α) (fail_ : α) : α :=
  (optC (I.NetOk_t net) (fun c_1 => (bif c_1 then (optC (I.setIn_t net set_) (fun c_2 => (bif c_2 then (optC (I.watchIn_t net set_) (fun c_3 => (leaf0_ c_3)) fail_) else (leaf0_ false))) fail_) else (leaf0_ false))) fail_)
theorem I.WatchOk_tree_nat {α γ : Type} (g : α → γ) (net : List Int) (set_ : Int) (leaf0_ : Bool → α) (fail_ : α) : g (I.WatchOk_tree net set_ leaf0_ fail_) = I.WatchOk_tree net set_ (fun d => g (leaf0_ d)) (g fail_) := by
  unfold I.WatchOk_tree; simp only [apply_cnd g, apply_optC g, apply_sumC g]
noncomputable def I.WatchOk_t (net : List Int) (set_ : Int) : Option (Bool) := I.WatchOk_tree net set_ (fun d => some d) none
theorem I.WatchOk_den (net : List Int) (set_ : Int) (κ : V → List E → R) : I.WatchOk_F [.ro false (.ints .i64 net), .int .i64 set_] [] κ = optC (I.WatchOk_t net set_) (fun (r : Bool) => κ (.bool r) []) none := by
  have hu : I.WatchOk_F [.ro false (.ints .i64 net), .int .i64 set_] [] κ = I.WatchOk_tree net set_ (fun d => κ (.bool d) []) none := by
    kernel_rfl
  rw [hu]
  exact (I.WatchOk_tree_nat (fun o => optC o (fun (r : Bool) => κ (.bool r) []) none) net set_ (fun d => some d) none).symm
noncomputable def I.WatchOk_s : D.Spec where
  keep := false
  pure := true
  add := true
  ds := [.int .i64, .invalid]
  sp := fun args h κ => match args, h with
    | [.ro false (.ints .i64 net), .int .i64 set_], [] => optC (I.WatchOk_t net set_) (fun (r : Bool) => κ (.bool r) []) none
    | _, _ => none
theorem I.WatchOk_ok : SpecOk Try.prog 29 I.WatchOk_s := by
  refine SpecOk.of TDok mixed (T := I.WatchOk_T) ?_ (ann := I.WatchOk_ann) Try.func29 rfl (by decide +kernel) ?_ ?_ ?_ ?_
  · intro p hp
    simp only [I.WatchOk_T, List.mem_cons, List.not_mem_nil, or_false] at hp
    rcases hp with rfl | rfl | rfl
    · exact I.NetOk_ok
    · exact I.setIn_ok
    · exact I.watchIn_ok
  · intro args h κ r hh
    simp only [I.WatchOk_s] at hh
    split at hh
    · exact (I.WatchOk_den _ _ κ).trans hh
    · cases hh
  · intro args h κ r hh
    simp only [I.WatchOk_s] at hh ⊢
    split at hh
    · exact optC_law2 (F := fun (r : Bool) κ => κ (.bool r) []) (fun b κ r hb => ⟨_, _, hb, fun _ => rfl⟩) hh
    · cases hh
  · intro _ args h κ r hh
    simp only [I.WatchOk_s] at hh
    split at hh
    · exact ⟨rfl, fun _ => rfl⟩
    · cases hh
  · intro _ args h κ r hh
    simp only [I.WatchOk_s] at hh
    split at hh
    · rfl
    · cases hh

-- loop.example/guardsonnets/laws.FnPlayOf
noncomputable def L.FnPlayOf_T : List (Nat × D.Spec) := [(24, S.DrawPlayOf_s), (25, I.PlayOf_s), (27, S.PlayOf_s), (26, L.sameInts_s), (28, I.NetOk_s), (15, L.alive_s), (22, I.PlayMay_s), (23, I.BallOf_s), (12, I.GameMoves_s), (29, I.WatchOk_s)]
def L.FnPlayOf_ann : Nat → List Nat × List Nat
  | 12 => ([3, 4, 5, 6, 7, 8], [2, 3, 4, 5, 7])
  | _ => ([], [])
noncomputable def L.FnPlayOf_F (args : List V) (h : List E) (κ : V → List E → R) : R := funC TD (tableK L.FnPlayOf_T) L.FnPlayOf_ann (drawOk TD (tableP L.FnPlayOf_T)) FUEL Try.f7 args h κ
noncomputable def L.FnPlayOf_L12 (n : Nat) (σ : St) (k : X → St → R) : R := iterC 0 (fun σ k => denC TD (tableK L.FnPlayOf_T) L.FnPlayOf_ann (drawOk TD (tableP L.FnPlayOf_T)) 0 FUEL ((findLoop 12 (Try.f7.body.getD .skip)).getD .skip) σ k) [3, 4, 5, 6, 7, 8] [2, 3, 4, 5, 7] n σ k
noncomputable def L.FnPlayOf_k12 (κ : V → List E → R) : X → St → R := (afterC TD (tableK L.FnPlayOf_T) L.FnPlayOf_ann (drawOk TD (tableP L.FnPlayOf_T)) 0 FUEL 12 (Try.f7.body.getD .skip) (finC TD 0 Try.f7 κ)).getD (fun _ _ => none)
noncomputable def L.FnPlayOf_step12 {α : Type} (x4 : Bool) (x6 : Int) (x7 : Int) (x8 : Int) (r0 : List Int) (r1 : List Int) (next_ : Int × Int × Int × (List Int) × (List Int) → α) (out0_ : Bool × Int × (List Int) × (List Int) → α) (out1_ : Int × (List Int) × (List Int) → α) (fail_ : α) : α :=
  (bif decide (x8 < (↑r1.length : Int)) then (bif decide (0 ≤ x8) && decide (x8 < (↑r1.length : Int)) then (bif decide (x8.toNat < r1.length) then (optC (I.PlayMay_t r0 x6 (eli r1 x8.toNat)) (fun c_7 => (bif !c_7 then (out0_ (false, x7, r0, r1)) else (bif decide (0 ≤ x8) && decide (x8 < (↑r1.length : Int)) then (bif decide (x8.toNat < r1.length) then (optC (I.BallOf_t r0 (eli r1 x8.toNat)) (fun c_8 => (bif decide (0 ≤ x8) && decide (x8 < (↑r1.length : Int)) then (bif decide (x8.toNat < r1.length) then (bif decide (eli r1 x8.toNat < 0) then fail_ else (next_ (bits BinOp.or IntKind.i64 x6 c_8, bits BinOp.or IntKind.i64 x7 (IntKind.i64.wrap (1 * 2 ^ min (eli r1 x8.toNat).toNat IntKind.i64.bits)), IntKind.i64.wrap (x8 + 1), r0, r1))) else fail_) else fail_)) fail_) else fail_) else fail_))) fail_) else fail_) else fail_) else (out1_ (x7, r0, r1)))
theorem L.FnPlayOf_step12_nat {α γ : Type} (g : α → γ) (x4 : Bool) (x6 : Int) (x7 : Int) (x8 : Int) (r0 : List Int) (r1 : List Int) (next_ : Int × Int × Int × (List Int) × (List Int) → α) (out0_ : Bool × Int × (List Int) × (List Int) → α) (out1_ : Int × (List Int) × (List Int) → α) (fail_ : α) : g (L.FnPlayOf_step12 x4 x6 x7 x8 r0 r1 next_ out0_ out1_ fail_) = L.FnPlayOf_step12 x4 x6 x7 x8 r0 r1 (fun s => g (next_ s)) (fun d => g (out0_ d)) (fun d => g (out1_ d)) (g fail_) := by
  unfold L.FnPlayOf_step12; simp only [apply_cnd g, apply_optC g, apply_sumC g]
noncomputable def L.FnPlayOf_run12 (x4 : Bool) : Nat → Int × Int × Int × (List Int) × (List Int) → Option ((Bool × Int × (List Int) × (List Int)) ⊕ (Int × (List Int) × (List Int)))
  | 0, _ => none
  | n + 1, s_ => L.FnPlayOf_step12 x4 s_.1 s_.2.1 s_.2.2.1 s_.2.2.2.1 s_.2.2.2.2 (L.FnPlayOf_run12 x4 n) (fun d => some ((Sum.inl d))) (fun d => some ((Sum.inr d))) none
theorem L.FnPlayOf_L12_run (x4 : Bool) (n : Nat) (s_ : Int × Int × Int × (List Int) × (List Int)) (k : X → St → R) : L.FnPlayOf_L12 n { n := 75, t := [(3, (.own 0)), (4, (.bool x4)), (5, (.own 1)), (6, (.int .i64 s_.1)), (7, (.int .i64 s_.2.1)), (8, (.int .i64 s_.2.2.1))], h := [.row (.ints .i64 s_.2.2.2.1), .row (.ints .i64 s_.2.2.2.2)] } k = optC (L.FnPlayOf_run12 x4 n s_) (fun (r : (Bool × Int × (List Int) × (List Int)) ⊕ (Int × (List Int) × (List Int))) => (sumC r (fun (r : Bool × Int × (List Int) × (List Int)) => k (.ret) { n := 75, t := [(2, (.bool r.1)), (3, (.own 0)), (4, (.bool x4)), (5, (.own 1)), (7, (.int .i64 r.2.1))], h := [.row (.ints .i64 r.2.2.1), .row (.ints .i64 r.2.2.2)] }) (fun (r : Int × (List Int) × (List Int)) => k (.exit 0) { n := 75, t := [(2, .junk), (3, (.own 0)), (4, (.bool x4)), (5, (.own 1)), (7, (.int .i64 r.1))], h := [.row (.ints .i64 r.2.1), .row (.ints .i64 r.2.2)] }))) none := by
  induction n generalizing s_ with
  | zero => rfl
  | succ n ih =>
    have hu : L.FnPlayOf_L12 (n + 1) { n := 75, t := [(3, (.own 0)), (4, (.bool x4)), (5, (.own 1)), (6, (.int .i64 s_.1)), (7, (.int .i64 s_.2.1)), (8, (.int .i64 s_.2.2.1))], h := [.row (.ints .i64 s_.2.2.2.1), .row (.ints .i64 s_.2.2.2.2)] } k = L.FnPlayOf_step12 x4 s_.1 s_.2.1 s_.2.2.1 s_.2.2.2.1 s_.2.2.2.2 (fun s_ => L.FnPlayOf_L12 n { n := 75, t := [(3, (.own 0)), (4, (.bool x4)), (5, (.own 1)), (6, (.int .i64 s_.1)), (7, (.int .i64 s_.2.1)), (8, (.int .i64 s_.2.2.1))], h := [.row (.ints .i64 s_.2.2.2.1), .row (.ints .i64 s_.2.2.2.2)] } k) (fun d => k (.ret) { n := 75, t := [(2, (.bool d.1)), (3, (.own 0)), (4, (.bool x4)), (5, (.own 1)), (7, (.int .i64 d.2.1))], h := [.row (.ints .i64 d.2.2.1), .row (.ints .i64 d.2.2.2)] }) (fun d => k (.exit 0) { n := 75, t := [(2, .junk), (3, (.own 0)), (4, (.bool x4)), (5, (.own 1)), (7, (.int .i64 d.1))], h := [.row (.ints .i64 d.2.1), .row (.ints .i64 d.2.2)] }) none := by
      kernel_rfl
    have hs : (fun s_ : Int × Int × Int × (List Int) × (List Int) => L.FnPlayOf_L12 n { n := 75, t := [(3, (.own 0)), (4, (.bool x4)), (5, (.own 1)), (6, (.int .i64 s_.1)), (7, (.int .i64 s_.2.1)), (8, (.int .i64 s_.2.2.1))], h := [.row (.ints .i64 s_.2.2.2.1), .row (.ints .i64 s_.2.2.2.2)] } k) = fun s_ => optC (L.FnPlayOf_run12 x4 n s_) (fun (r : (Bool × Int × (List Int) × (List Int)) ⊕ (Int × (List Int) × (List Int))) => (sumC r (fun (r : Bool × Int × (List Int) × (List Int)) => k (.ret) { n := 75, t := [(2, (.bool r.1)), (3, (.own 0)), (4, (.bool x4)), (5, (.own 1)), (7, (.int .i64 r.2.1))], h := [.row (.ints .i64 r.2.2.1), .row (.ints .i64 r.2.2.2)] }) (fun (r : Int × (List Int) × (List Int)) => k (.exit 0) { n := 75, t := [(2, .junk), (3, (.own 0)), (4, (.bool x4)), (5, (.own 1)), (7, (.int .i64 r.1))], h := [.row (.ints .i64 r.2.1), .row (.ints .i64 r.2.2)] }))) none := funext ih
    rw [hu, hs]
    exact (L.FnPlayOf_step12_nat (fun o => optC o (fun (r : (Bool × Int × (List Int) × (List Int)) ⊕ (Int × (List Int) × (List Int))) => (sumC r (fun (r : Bool × Int × (List Int) × (List Int)) => k (.ret) { n := 75, t := [(2, (.bool r.1)), (3, (.own 0)), (4, (.bool x4)), (5, (.own 1)), (7, (.int .i64 r.2.1))], h := [.row (.ints .i64 r.2.2.1), .row (.ints .i64 r.2.2.2)] }) (fun (r : Int × (List Int) × (List Int)) => k (.exit 0) { n := 75, t := [(2, .junk), (3, (.own 0)), (4, (.bool x4)), (5, (.own 1)), (7, (.int .i64 r.1))], h := [.row (.ints .i64 r.2.1), .row (.ints .i64 r.2.2)] }))) none) x4 s_.1 s_.2.1 s_.2.2.1 s_.2.2.2.1 s_.2.2.2.2 (L.FnPlayOf_run12 x4 n) (fun d => some ((Sum.inl d))) (fun d => some ((Sum.inr d))) none).symm
noncomputable def L.FnPlayOf_tree {α : Type} (code : List Int) (leaf0_ : Bool → α) (fail_ : α) : α :=
  (bif decide ((↑code.length : Int) > 1048576) then (leaf0_ true) else (optC (S.DrawPlayOf_t code) (fun c_1 => (optC (I.PlayOf_t c_1.snd c_1.fst) (fun c_2 => (optC (S.PlayOf_t c_1.snd c_1.fst) (fun c_3 => (optC (L.sameInts_t c_2 c_3) (fun c_4 => (bif !c_4 then (leaf0_ false) else (bif (↑c_2.length : Int) == 0 then (optC (I.NetOk_t c_1.snd) (fun c_5 => (bif !c_5 then (optC (L.alive_t) (fun c_6 => (leaf0_ c_6)) fail_) else (leaf0_ false))) fail_) else (optC (L.FnPlayOf_run12 c_1.fst FUEL (0, 0, 0, c_1.snd, c_2)) (fun qy_9 => (sumC qy_9 (fun (qy_9 : Bool × Int × (List Int) × (List Int)) => (leaf0_ qy_9.1)) (fun (qy_9 : Int × (List Int) × (List Int)) => (optC (I.GameMoves_t qy_9.2.1 0 c_1.fst) (fun c_10 => (bif (↑qy_9.2.2.length : Int) == c_10 then (optC (I.WatchOk_t qy_9.2.1 qy_9.1) (fun c_11 => (leaf0_ c_11)) fail_) else (leaf0_ false))) fail_)))) fail_)))) fail_)) fail_)) fail_)) fail_))
theorem L.FnPlayOf_tree_nat {α γ : Type} (g : α → γ) (code : List Int) (leaf0_ : Bool → α) (fail_ : α) : g (L.FnPlayOf_tree code leaf0_ fail_) = L.FnPlayOf_tree code (fun d => g (leaf0_ d)) (g fail_) := by
  unfold L.FnPlayOf_tree; simp only [apply_cnd g, apply_optC g, apply_sumC g]
noncomputable def L.FnPlayOf_t (code : List Int) : Option (Bool) := L.FnPlayOf_tree code (fun d => some d) none
theorem L.FnPlayOf_den (code : List Int) (κ : V → List E → R) : L.FnPlayOf_F [.ro true (.ints .u8 code)] [] κ = optC (L.FnPlayOf_t code) (fun (r : Bool) => κ (.bool r) []) none := by
  have hu : L.FnPlayOf_F [.ro true (.ints .u8 code)] [] κ = L.FnPlayOf_tree code (fun d => κ (.bool d) []) none := by
    refine Eq.trans (show L.FnPlayOf_F [.ro true (.ints .u8 code)] [] κ = (bif decide ((↑code.length : Int) > 1048576) then (κ (.bool true) []) else (optC (S.DrawPlayOf_t code) (fun c_1 => (optC (I.PlayOf_t c_1.snd c_1.fst) (fun c_2 => (optC (S.PlayOf_t c_1.snd c_1.fst) (fun c_3 => (optC (L.sameInts_t c_2 c_3) (fun c_4 => (bif !c_4 then (κ (.bool false) []) else (bif (↑c_2.length : Int) == 0 then (optC (I.NetOk_t c_1.snd) (fun c_5 => (bif !c_5 then (optC (L.alive_t) (fun c_6 => (κ (.bool c_6) [])) none) else (κ (.bool false) []))) none) else (L.FnPlayOf_L12 FUEL { n := 75, t := [(3, (.own 0)), (4, (.bool c_1.fst)), (5, (.own 1)), (6, (.int .i64 0)), (7, (.int .i64 0)), (8, (.int .i64 0))], h := [.row (.ints .i64 c_1.snd), .row (.ints .i64 c_2)] } (L.FnPlayOf_k12 κ))))) none)) none)) none)) none)) by kernel_rfl) ?_
    refine cnd_congr ?_ ?_
    · kernel_rfl
    · refine optC_congr (fun c_1 => ?_)
      refine optC_congr (fun c_2 => ?_)
      refine optC_congr (fun c_3 => ?_)
      refine optC_congr (fun c_4 => ?_)
      refine cnd_congr ?_ ?_
      · kernel_rfl
      · refine cnd_congr ?_ ?_
        · kernel_rfl
        · refine (L.FnPlayOf_L12_run c_1.fst FUEL (0, 0, 0, c_1.snd, c_2) (L.FnPlayOf_k12 κ)).trans (optC_congr (fun qy_9 => ?_))
          rcases qy_9 with qy_9 | qy_9
          · kernel_rfl
          · kernel_rfl
  rw [hu]
  exact (L.FnPlayOf_tree_nat (fun o => optC o (fun (r : Bool) => κ (.bool r) []) none) code (fun d => some d) none).symm
noncomputable def L.FnPlayOf_s : D.Spec where
  keep := true
  pure := true
  add := true
  ds := [.int .u8]
  sp := fun args h κ => match args, h with
    | [.ro true (.ints .u8 code)], [] => optC (L.FnPlayOf_t code) (fun (r : Bool) => κ (.bool r) []) none
    | _, _ => none
theorem L.FnPlayOf_ok : SpecOk Try.prog 7 L.FnPlayOf_s := by
  refine SpecOk.of TDok mixed (T := L.FnPlayOf_T) ?_ (ann := L.FnPlayOf_ann) Try.func7 rfl (by decide +kernel) ?_ ?_ ?_ ?_
  · intro p hp
    simp only [L.FnPlayOf_T, List.mem_cons, List.not_mem_nil, or_false] at hp
    rcases hp with rfl | rfl | rfl | rfl | rfl | rfl | rfl | rfl | rfl | rfl
    · exact S.DrawPlayOf_ok
    · exact I.PlayOf_ok
    · exact S.PlayOf_ok
    · exact L.sameInts_ok
    · exact I.NetOk_ok
    · exact L.alive_ok
    · exact I.PlayMay_ok
    · exact I.BallOf_ok
    · exact I.GameMoves_ok
    · exact I.WatchOk_ok
  · intro args h κ r hh
    simp only [L.FnPlayOf_s] at hh
    split at hh
    · exact (L.FnPlayOf_den _ κ).trans hh
    · cases hh
  · intro args h κ r hh
    simp only [L.FnPlayOf_s] at hh ⊢
    split at hh
    · exact optC_law2 (F := fun (r : Bool) κ => κ (.bool r) []) (fun b κ r hb => ⟨_, _, hb, fun _ => rfl⟩) hh
    · cases hh
  · intro _ args h κ r hh
    simp only [L.FnPlayOf_s] at hh
    split at hh
    · exact ⟨rfl, fun _ => rfl⟩
    · cases hh
  · intro _ args h κ r hh
    simp only [L.FnPlayOf_s] at hh
    split at hh
    · rfl
    · cases hh

-- loop.example/guardsonnets/laws.markIntS
noncomputable def L.markIntS_T : List (Nat × D.Spec) := []
def L.markIntS_ann : Nat → List Nat × List Nat
  | 2 => ([0, 1, 5], [1])
  | _ => ([], [])
noncomputable def L.markIntS_F (args : List V) (h : List E) (κ : V → List E → R) : R := funC TD (tableK L.markIntS_T) L.markIntS_ann (drawOk TD (tableP L.markIntS_T)) FUEL Try.f30 args h κ
noncomputable def L.markIntS_L2 (n : Nat) (σ : St) (k : X → St → R) : R := iterC 1 (fun σ k => denC TD (tableK L.markIntS_T) L.markIntS_ann (drawOk TD (tableP L.markIntS_T)) 1 FUEL ((findLoop 2 (Try.f30.body.getD .skip)).getD .skip) σ k) [0, 1, 5] [1] n σ k
noncomputable def L.markIntS_k2 (κ : V → List E → R) : X → St → R := (afterC TD (tableK L.markIntS_T) L.markIntS_ann (drawOk TD (tableP L.markIntS_T)) 1 FUEL 2 (Try.f30.body.getD .skip) (finC TD 1 Try.f30 κ)).getD (fun _ _ => none)
noncomputable def L.markIntS_step2 {α : Type} (x1 : Int) (x5 : Int) (r0 : List Int) (next_ : Int × Int × (List Int) → α) (out0_ : Int × (List Int) → α) (fail_ : α) : α :=
  (bif decide (x5 < (↑r0.length : Int)) then (bif decide (0 ≤ x5) && decide (x5 < (↑r0.length : Int)) then (bif decide (x5.toNat < r0.length) then (next_ (IntKind.i64.wrap (x1 + 1), IntKind.i64.wrap (x5 + 1), r0.set x5.toNat x1)) else fail_) else fail_) else (out0_ (x1, r0)))
theorem L.markIntS_step2_nat {α γ : Type} (g : α → γ) (x1 : Int) (x5 : Int) (r0 : List Int) (next_ : Int × Int × (List Int) → α) (out0_ : Int × (List Int) → α) (fail_ : α) : g (L.markIntS_step2 x1 x5 r0 next_ out0_ fail_) = L.markIntS_step2 x1 x5 r0 (fun s => g (next_ s)) (fun d => g (out0_ d)) (g fail_) := by
  unfold L.markIntS_step2; simp only [apply_cnd g, apply_optC g, apply_sumC g]
noncomputable def L.markIntS_run2 : Nat → Int × Int × (List Int) → Option (Int × (List Int))
  | 0, _ => none
  | n + 1, s_ => L.markIntS_step2 s_.1 s_.2.1 s_.2.2 (L.markIntS_run2 n) (fun d => some d) none
theorem L.markIntS_L2_run (n : Nat) (s_ : Int × Int × (List Int)) (k : X → St → R) : L.markIntS_L2 n { n := 19, t := [(0, (.own 0)), (1, (.int .i64 s_.1)), (5, (.int .i64 s_.2.1))], h := [.row (.ints .i64 s_.2.2)] } k = optC (L.markIntS_run2 n s_) (fun (r : Int × (List Int)) => k (.exit 0) { n := 19, t := [(1, (.int .i64 r.1))], h := [.row (.ints .i64 r.2)] }) none := by
  induction n generalizing s_ with
  | zero => rfl
  | succ n ih =>
    have hu : L.markIntS_L2 (n + 1) { n := 19, t := [(0, (.own 0)), (1, (.int .i64 s_.1)), (5, (.int .i64 s_.2.1))], h := [.row (.ints .i64 s_.2.2)] } k = L.markIntS_step2 s_.1 s_.2.1 s_.2.2 (fun s_ => L.markIntS_L2 n { n := 19, t := [(0, (.own 0)), (1, (.int .i64 s_.1)), (5, (.int .i64 s_.2.1))], h := [.row (.ints .i64 s_.2.2)] } k) (fun d => k (.exit 0) { n := 19, t := [(1, (.int .i64 d.1))], h := [.row (.ints .i64 d.2)] }) none := by
      kernel_rfl
    have hs : (fun s_ : Int × Int × (List Int) => L.markIntS_L2 n { n := 19, t := [(0, (.own 0)), (1, (.int .i64 s_.1)), (5, (.int .i64 s_.2.1))], h := [.row (.ints .i64 s_.2.2)] } k) = fun s_ => optC (L.markIntS_run2 n s_) (fun (r : Int × (List Int)) => k (.exit 0) { n := 19, t := [(1, (.int .i64 r.1))], h := [.row (.ints .i64 r.2)] }) none := funext ih
    rw [hu, hs]
    exact (L.markIntS_step2_nat (fun o => optC o (fun (r : Int × (List Int)) => k (.exit 0) { n := 19, t := [(1, (.int .i64 r.1))], h := [.row (.ints .i64 r.2)] }) none) s_.1 s_.2.1 s_.2.2 (L.markIntS_run2 n) (fun d => some d) none).symm
noncomputable def L.markIntS_tree {α : Type} (a : List Int) (k_ : Int) (leaf0_ : Int × (List Int) → α) (fail_ : α) : α :=
  (optC (L.markIntS_run2 FUEL (k_, 0, a)) (fun qy_1 => (leaf0_ (qy_1.1, qy_1.2))) fail_)
theorem L.markIntS_tree_nat {α γ : Type} (g : α → γ) (a : List Int) (k_ : Int) (leaf0_ : Int × (List Int) → α) (fail_ : α) : g (L.markIntS_tree a k_ leaf0_ fail_) = L.markIntS_tree a k_ (fun d => g (leaf0_ d)) (g fail_) := by
  unfold L.markIntS_tree; simp only [apply_cnd g, apply_optC g, apply_sumC g]
noncomputable def L.markIntS_t (a : List Int) (k_ : Int) : Option (Int × (List Int)) := L.markIntS_tree a k_ (fun d => some d) none
theorem L.markIntS_den (a : List Int) (k_ : Int) (κ : V → List E → R) : L.markIntS_F [.own 0, .int .i64 k_] [.row (.ints .i64 a)] κ = optC (L.markIntS_t a k_) (fun (r : Int × (List Int)) => κ (.int .i64 r.1) [.row (.ints .i64 r.2)]) none := by
  have hu : L.markIntS_F [.own 0, .int .i64 k_] [.row (.ints .i64 a)] κ = L.markIntS_tree a k_ (fun d => κ (.int .i64 d.1) [.row (.ints .i64 d.2)]) none := by
    refine Eq.trans (show L.markIntS_F [.own 0, .int .i64 k_] [.row (.ints .i64 a)] κ = (L.markIntS_L2 FUEL { n := 19, t := [(0, (.own 0)), (1, (.int .i64 k_)), (5, (.int .i64 0))], h := [.row (.ints .i64 a)] } (L.markIntS_k2 κ)) by kernel_rfl) ?_
    refine (L.markIntS_L2_run FUEL (k_, 0, a) (L.markIntS_k2 κ)).trans (optC_congr (fun qy_1 => ?_))
    kernel_rfl
  rw [hu]
  exact (L.markIntS_tree_nat (fun o => optC o (fun (r : Int × (List Int)) => κ (.int .i64 r.1) [.row (.ints .i64 r.2)]) none) a k_ (fun d => some d) none).symm
noncomputable def L.markIntS_s : D.Spec where
  keep := false
  pure := false
  add := false
  ds := [.pointer 0, .invalid]
  sp := fun args h κ => match args, h with
    | [.own 0, .int .i64 k_], [.row (.ints .i64 a)] => optC (L.markIntS_t a k_) (fun (r : Int × (List Int)) => κ (.int .i64 r.1) [.row (.ints .i64 r.2)]) none
    | _, _ => none
theorem L.markIntS_ok : SpecOk Try.prog 30 L.markIntS_s := by
  refine SpecOk.of TDok mixed (T := L.markIntS_T) ?_ (ann := L.markIntS_ann) Try.func30 rfl (by decide +kernel) ?_ ?_ ?_ ?_
  · intro p hp; cases hp
  · intro args h κ r hh
    simp only [L.markIntS_s] at hh
    split at hh
    · exact (L.markIntS_den _ _ κ).trans hh
    · cases hh
  · intro args h κ r hh
    simp only [L.markIntS_s] at hh ⊢
    split at hh
    · exact optC_law2 (F := fun (r : Int × (List Int)) κ => κ (.int .i64 r.1) [.row (.ints .i64 r.2)]) (fun b κ r hb => ⟨_, _, hb, fun _ => rfl⟩) hh
    · cases hh
  · intro hh; cases hh
  · intro hh; cases hh

-- loop.example/guardsonnets/laws.heldIntS
noncomputable def L.heldIntS_T : List (Nat × D.Spec) := []
def L.heldIntS_ann : Nat → List Nat × List Nat
  | 2 => ([0, 1, 5], [1, 4])
  | _ => ([], [])
noncomputable def L.heldIntS_F (args : List V) (h : List E) (κ : V → List E → R) : R := funC TD (tableK L.heldIntS_T) L.heldIntS_ann (drawOk TD (tableP L.heldIntS_T)) FUEL Try.f31 args h κ
noncomputable def L.heldIntS_L2 (n : Nat) (σ : St) (k : X → St → R) : R := iterC 0 (fun σ k => denC TD (tableK L.heldIntS_T) L.heldIntS_ann (drawOk TD (tableP L.heldIntS_T)) 0 FUEL ((findLoop 2 (Try.f31.body.getD .skip)).getD .skip) σ k) [0, 1, 5] [1, 4] n σ k
noncomputable def L.heldIntS_k2 (κ : V → List E → R) : X → St → R := (afterC TD (tableK L.heldIntS_T) L.heldIntS_ann (drawOk TD (tableP L.heldIntS_T)) 0 FUEL 2 (Try.f31.body.getD .skip) (finC TD 0 Try.f31 κ)).getD (fun _ _ => none)
noncomputable def L.heldIntS_step2 {α : Type} (x0 : List Int) (x1 : Int) (x5 : Int) (next_ : Int × Int → α) (out0_ : Int × Int → α) (out1_ : Int → α) (fail_ : α) : α :=
  (bif decide (x5 < (↑x0.length : Int)) then (bif decide (0 ≤ x5) && decide (x5 < (↑x0.length : Int)) then (bif !eli x0 x5.toNat == x1 then (out0_ (x1, -1)) else (next_ (IntKind.i64.wrap (x1 + 1), IntKind.i64.wrap (x5 + 1)))) else fail_) else (out1_ x1))
theorem L.heldIntS_step2_nat {α γ : Type} (g : α → γ) (x0 : List Int) (x1 : Int) (x5 : Int) (next_ : Int × Int → α) (out0_ : Int × Int → α) (out1_ : Int → α) (fail_ : α) : g (L.heldIntS_step2 x0 x1 x5 next_ out0_ out1_ fail_) = L.heldIntS_step2 x0 x1 x5 (fun s => g (next_ s)) (fun d => g (out0_ d)) (fun d => g (out1_ d)) (g fail_) := by
  unfold L.heldIntS_step2; simp only [apply_cnd g, apply_optC g, apply_sumC g]
noncomputable def L.heldIntS_run2 (x0 : List Int) : Nat → Int × Int → Option ((Int × Int) ⊕ (Int))
  | 0, _ => none
  | n + 1, s_ => L.heldIntS_step2 x0 s_.1 s_.2 (L.heldIntS_run2 x0 n) (fun d => some ((Sum.inl d))) (fun d => some ((Sum.inr d))) none
theorem L.heldIntS_L2_run (x0 : List Int) (n : Nat) (s_ : Int × Int) (k : X → St → R) : L.heldIntS_L2 n { n := 21, t := [(0, (.ro false (.ints .i64 x0))), (1, (.int .i64 s_.1)), (5, (.int .i64 s_.2))], h := [] } k = optC (L.heldIntS_run2 x0 n s_) (fun (r : (Int × Int) ⊕ (Int)) => (sumC r (fun (r : Int × Int) => k (.ret) { n := 21, t := [(1, (.int .i64 r.1)), (4, (.int .i64 r.2))], h := [] }) (fun (r : Int) => k (.exit 0) { n := 21, t := [(1, (.int .i64 r)), (4, .junk)], h := [] }))) none := by
  induction n generalizing s_ with
  | zero => rfl
  | succ n ih =>
    have hu : L.heldIntS_L2 (n + 1) { n := 21, t := [(0, (.ro false (.ints .i64 x0))), (1, (.int .i64 s_.1)), (5, (.int .i64 s_.2))], h := [] } k = L.heldIntS_step2 x0 s_.1 s_.2 (fun s_ => L.heldIntS_L2 n { n := 21, t := [(0, (.ro false (.ints .i64 x0))), (1, (.int .i64 s_.1)), (5, (.int .i64 s_.2))], h := [] } k) (fun d => k (.ret) { n := 21, t := [(1, (.int .i64 d.1)), (4, (.int .i64 d.2))], h := [] }) (fun d => k (.exit 0) { n := 21, t := [(1, (.int .i64 d)), (4, .junk)], h := [] }) none := by
      kernel_rfl
    have hs : (fun s_ : Int × Int => L.heldIntS_L2 n { n := 21, t := [(0, (.ro false (.ints .i64 x0))), (1, (.int .i64 s_.1)), (5, (.int .i64 s_.2))], h := [] } k) = fun s_ => optC (L.heldIntS_run2 x0 n s_) (fun (r : (Int × Int) ⊕ (Int)) => (sumC r (fun (r : Int × Int) => k (.ret) { n := 21, t := [(1, (.int .i64 r.1)), (4, (.int .i64 r.2))], h := [] }) (fun (r : Int) => k (.exit 0) { n := 21, t := [(1, (.int .i64 r)), (4, .junk)], h := [] }))) none := funext ih
    rw [hu, hs]
    exact (L.heldIntS_step2_nat (fun o => optC o (fun (r : (Int × Int) ⊕ (Int)) => (sumC r (fun (r : Int × Int) => k (.ret) { n := 21, t := [(1, (.int .i64 r.1)), (4, (.int .i64 r.2))], h := [] }) (fun (r : Int) => k (.exit 0) { n := 21, t := [(1, (.int .i64 r)), (4, .junk)], h := [] }))) none) x0 s_.1 s_.2 (L.heldIntS_run2 x0 n) (fun d => some ((Sum.inl d))) (fun d => some ((Sum.inr d))) none).symm
noncomputable def L.heldIntS_tree {α : Type} (a : List Int) (k_ : Int) (leaf0_ : Int → α) (fail_ : α) : α :=
  (optC (L.heldIntS_run2 a FUEL (k_, 0)) (fun qy_1 => (sumC qy_1 (fun (qy_1 : Int × Int) => (leaf0_ qy_1.2)) (fun (qy_1 : Int) => (leaf0_ qy_1)))) fail_)
theorem L.heldIntS_tree_nat {α γ : Type} (g : α → γ) (a : List Int) (k_ : Int) (leaf0_ : Int → α) (fail_ : α) : g (L.heldIntS_tree a k_ leaf0_ fail_) = L.heldIntS_tree a k_ (fun d => g (leaf0_ d)) (g fail_) := by
  unfold L.heldIntS_tree; simp only [apply_cnd g, apply_optC g, apply_sumC g]
noncomputable def L.heldIntS_t (a : List Int) (k_ : Int) : Option (Int) := L.heldIntS_tree a k_ (fun d => some d) none
theorem L.heldIntS_den (a : List Int) (k_ : Int) (κ : V → List E → R) : L.heldIntS_F [.ro false (.ints .i64 a), .int .i64 k_] [] κ = optC (L.heldIntS_t a k_) (fun (r : Int) => κ (.int .i64 r) []) none := by
  have hu : L.heldIntS_F [.ro false (.ints .i64 a), .int .i64 k_] [] κ = L.heldIntS_tree a k_ (fun d => κ (.int .i64 d) []) none := by
    refine Eq.trans (show L.heldIntS_F [.ro false (.ints .i64 a), .int .i64 k_] [] κ = (L.heldIntS_L2 FUEL { n := 21, t := [(0, (.ro false (.ints .i64 a))), (1, (.int .i64 k_)), (5, (.int .i64 0))], h := [] } (L.heldIntS_k2 κ)) by kernel_rfl) ?_
    refine (L.heldIntS_L2_run a FUEL (k_, 0) (L.heldIntS_k2 κ)).trans (optC_congr (fun qy_1 => ?_))
    rcases qy_1 with qy_1 | qy_1
    · kernel_rfl
    · kernel_rfl
  rw [hu]
  exact (L.heldIntS_tree_nat (fun o => optC o (fun (r : Int) => κ (.int .i64 r) []) none) a k_ (fun d => some d) none).symm
noncomputable def L.heldIntS_s : D.Spec where
  keep := false
  pure := true
  add := true
  ds := [.int .i64, .invalid]
  sp := fun args h κ => match args, h with
    | [.ro false (.ints .i64 a), .int .i64 k_], [] => optC (L.heldIntS_t a k_) (fun (r : Int) => κ (.int .i64 r) []) none
    | _, _ => none
theorem L.heldIntS_ok : SpecOk Try.prog 31 L.heldIntS_s := by
  refine SpecOk.of TDok mixed (T := L.heldIntS_T) ?_ (ann := L.heldIntS_ann) Try.func31 rfl (by decide +kernel) ?_ ?_ ?_ ?_
  · intro p hp; cases hp
  · intro args h κ r hh
    simp only [L.heldIntS_s] at hh
    split at hh
    · exact (L.heldIntS_den _ _ κ).trans hh
    · cases hh
  · intro args h κ r hh
    simp only [L.heldIntS_s] at hh ⊢
    split at hh
    · exact optC_law2 (F := fun (r : Int) κ => κ (.int .i64 r) []) (fun b κ r hb => ⟨_, _, hb, fun _ => rfl⟩) hh
    · cases hh
  · intro _ args h κ r hh
    simp only [L.heldIntS_s] at hh
    split at hh
    · exact ⟨rfl, fun _ => rfl⟩
    · cases hh
  · intro _ args h κ r hh
    simp only [L.heldIntS_s] at hh
    split at hh
    · rfl
    · cases hh

-- loop.example/guardsonnets/laws.FnExactPlayOf
noncomputable def L.FnExactPlayOf_T : List (Nat × D.Spec) := [(17, L.toIntS_s), (27, S.PlayOf_s), (25, I.PlayOf_s), (18, L.eqIntS_s), (30, L.markIntS_s), (31, L.heldIntS_s)]
def L.FnExactPlayOf_ann : Nat → List Nat × List Nat
  | _ => ([], [])
noncomputable def L.FnExactPlayOf_F (args : List V) (h : List E) (κ : V → List E → R) : R := funC TD (tableK L.FnExactPlayOf_T) L.FnExactPlayOf_ann (drawOk TD (tableP L.FnExactPlayOf_T)) FUEL Try.f8 args h κ
noncomputable def L.FnExactPlayOf_tree {α : Type} (aNet : List Int) (aFew : Bool) (leaf0_ : Bool → α) (fail_ : α) : α :=
  (bif decide ((↑aNet.length : Int) > 1048576) then (leaf0_ true) else (optC (L.toIntS_t aNet) (fun c_1 => (optC (S.PlayOf_t c_1 aFew) (fun c_2 => (optC (L.toIntS_t aNet) (fun c_3 => (optC (I.PlayOf_t c_3 aFew) (fun c_4 => (optC (L.eqIntS_t c_4 c_2) (fun c_5 => (bif !c_5 then (leaf0_ false) else (optC (L.toIntS_t aNet) (fun c_6 => (optC (L.eqIntS_t c_3 c_6) (fun c_7 => (bif !c_7 then (leaf0_ false) else (optC (L.markIntS_t c_3 1) (fun c_8 => (bif decide (c_8.fst < 0) then (leaf0_ false) else (optC (L.eqIntS_t c_4 c_2) (fun c_9 => (bif !c_9 then (leaf0_ false) else (optC (L.markIntS_t c_4 1) (fun c_10 => (optC (L.heldIntS_t c_10.snd 1) (fun c_11 => (bif decide (c_11 < 0) then (leaf0_ false) else (bif !c_11 == c_10.fst then (leaf0_ false) else (optC (L.toIntS_t aNet) (fun c_12 => (optC (I.PlayOf_t c_12 aFew) (fun c_13 => (optC (L.eqIntS_t c_13 c_2) (fun c_14 => (bif !c_14 then (leaf0_ false) else (optC (L.heldIntS_t c_10.snd 1) (fun c_15 => (bif decide (c_15 < 0) then (leaf0_ false) else (bif !c_15 == c_10.fst then (leaf0_ false) else (leaf0_ true)))) fail_))) fail_)) fail_)) fail_)))) fail_)) fail_))) fail_))) fail_))) fail_)) fail_))) fail_)) fail_)) fail_)) fail_)) fail_))
theorem L.FnExactPlayOf_tree_nat {α γ : Type} (g : α → γ) (aNet : List Int) (aFew : Bool) (leaf0_ : Bool → α) (fail_ : α) : g (L.FnExactPlayOf_tree aNet aFew leaf0_ fail_) = L.FnExactPlayOf_tree aNet aFew (fun d => g (leaf0_ d)) (g fail_) := by
  unfold L.FnExactPlayOf_tree; simp only [apply_cnd g, apply_optC g, apply_sumC g]
noncomputable def L.FnExactPlayOf_t (aNet : List Int) (aFew : Bool) : Option (Bool) := L.FnExactPlayOf_tree aNet aFew (fun d => some d) none
theorem L.FnExactPlayOf_den (aNet : List Int) (aFew : Bool) (κ : V → List E → R) : L.FnExactPlayOf_F [.ro true (.ints .i64 aNet), .bool aFew] [] κ = optC (L.FnExactPlayOf_t aNet aFew) (fun (r : Bool) => κ (.bool r) []) none := by
  have hu : L.FnExactPlayOf_F [.ro true (.ints .i64 aNet), .bool aFew] [] κ = L.FnExactPlayOf_tree aNet aFew (fun d => κ (.bool d) []) none := by
    kernel_rfl
  rw [hu]
  exact (L.FnExactPlayOf_tree_nat (fun o => optC o (fun (r : Bool) => κ (.bool r) []) none) aNet aFew (fun d => some d) none).symm
noncomputable def L.FnExactPlayOf_s : D.Spec where
  keep := true
  pure := true
  add := true
  ds := [.int .i64, .invalid]
  sp := fun args h κ => match args, h with
    | [.ro true (.ints .i64 aNet), .bool aFew], [] => optC (L.FnExactPlayOf_t aNet aFew) (fun (r : Bool) => κ (.bool r) []) none
    | _, _ => none
theorem L.FnExactPlayOf_ok : SpecOk Try.prog 8 L.FnExactPlayOf_s := by
  refine SpecOk.of TDok mixed (T := L.FnExactPlayOf_T) ?_ (ann := L.FnExactPlayOf_ann) Try.func8 rfl (by decide +kernel) ?_ ?_ ?_ ?_
  · intro p hp
    simp only [L.FnExactPlayOf_T, List.mem_cons, List.not_mem_nil, or_false] at hp
    rcases hp with rfl | rfl | rfl | rfl | rfl | rfl
    · exact L.toIntS_ok
    · exact S.PlayOf_ok
    · exact I.PlayOf_ok
    · exact L.eqIntS_ok
    · exact L.markIntS_ok
    · exact L.heldIntS_ok
  · intro args h κ r hh
    simp only [L.FnExactPlayOf_s] at hh
    split at hh
    · exact (L.FnExactPlayOf_den _ _ κ).trans hh
    · cases hh
  · intro args h κ r hh
    simp only [L.FnExactPlayOf_s] at hh ⊢
    split at hh
    · exact optC_law2 (F := fun (r : Bool) κ => κ (.bool r) []) (fun b κ r hb => ⟨_, _, hb, fun _ => rfl⟩) hh
    · cases hh
  · intro _ args h κ r hh
    simp only [L.FnExactPlayOf_s] at hh
    split at hh
    · exact ⟨rfl, fun _ => rfl⟩
    · cases hh
  · intro _ args h κ r hh
    simp only [L.FnExactPlayOf_s] at hh
    split at hh
    · rfl
    · cases hh

-- loop.example/guardsonnets/spec.DrawMostLeaves
noncomputable def S.DrawMostLeaves_T : List (Nat × D.Spec) := [(37, S.l20Open_s), (53, S.l20Net_s)]
def S.DrawMostLeaves_ann : Nat → List Nat × List Nat
  | _ => ([], [])
noncomputable def S.DrawMostLeaves_F (args : List V) (h : List E) (κ : V → List E → R) : R := funC TD (tableK S.DrawMostLeaves_T) S.DrawMostLeaves_ann (drawOk TD (tableP S.DrawMostLeaves_T)) FUEL Try.f32 args h κ
noncomputable def S.DrawMostLeaves_tree {α : Type} (code : List Int) (leaf0_ : List Int → α) (fail_ : α) : α :=
  (optC (S.l20Open_t code) (fun c_1 => (optC (S.l20Net_t c_1.fst c_1.snd 9) (fun c_2 => (leaf0_ c_2.snd.snd)) fail_)) fail_)
theorem S.DrawMostLeaves_tree_nat {α γ : Type} (g : α → γ) (code : List Int) (leaf0_ : List Int → α) (fail_ : α) : g (S.DrawMostLeaves_tree code leaf0_ fail_) = S.DrawMostLeaves_tree code (fun d => g (leaf0_ d)) (g fail_) := by
  unfold S.DrawMostLeaves_tree; simp only [apply_cnd g, apply_optC g, apply_sumC g]
noncomputable def S.DrawMostLeaves_t (code : List Int) : Option (List Int) := S.DrawMostLeaves_tree code (fun d => some d) none
theorem S.DrawMostLeaves_den (code : List Int) (κ : V → List E → R) : S.DrawMostLeaves_F [.ro true (.ints .u8 code)] [] κ = optC (S.DrawMostLeaves_t code) (fun (r : List Int) => κ (.own 0) [.row (.ints .i64 r)]) none := by
  have hu : S.DrawMostLeaves_F [.ro true (.ints .u8 code)] [] κ = S.DrawMostLeaves_tree code (fun d => κ (.own 0) [.row (.ints .i64 d)]) none := by
    kernel_rfl
  rw [hu]
  exact (S.DrawMostLeaves_tree_nat (fun o => optC o (fun (r : List Int) => κ (.own 0) [.row (.ints .i64 r)]) none) code (fun d => some d) none).symm
noncomputable def S.DrawMostLeaves_s : D.Spec where
  keep := true
  pure := false
  add := true
  ds := [.int .u8]
  sp := fun args h κ => match args, h with
    | [.ro true (.ints .u8 code)], [] => optC (S.DrawMostLeaves_t code) (fun (r : List Int) => κ (.own 0) [.row (.ints .i64 r)]) none
    | _, _ => none
theorem S.DrawMostLeaves_ok : SpecOk Try.prog 32 S.DrawMostLeaves_s := by
  refine SpecOk.of TDok mixed (T := S.DrawMostLeaves_T) ?_ (ann := S.DrawMostLeaves_ann) Try.func32 rfl (by decide +kernel) ?_ ?_ ?_ ?_
  · intro p hp
    simp only [S.DrawMostLeaves_T, List.mem_cons, List.not_mem_nil, or_false] at hp
    rcases hp with rfl | rfl
    · exact S.l20Open_ok
    · exact S.l20Net_ok
  · intro args h κ r hh
    simp only [S.DrawMostLeaves_s] at hh
    split at hh
    · exact (S.DrawMostLeaves_den _ κ).trans hh
    · cases hh
  · intro args h κ r hh
    simp only [S.DrawMostLeaves_s] at hh ⊢
    split at hh
    · exact optC_law2 (F := fun (r : List Int) κ => κ (.own 0) [.row (.ints .i64 r)]) (fun b κ r hb => ⟨_, _, hb, fun _ => rfl⟩) hh
    · cases hh
  · intro hh; cases hh
  · intro _ args h κ r hh
    simp only [S.DrawMostLeaves_s] at hh
    split at hh
    · rfl
    · cases hh

-- loop.example/guardsonnets/impl.partIn
noncomputable def I.partIn_T : List (Nat × D.Spec) := [(45, I.seenIn_s)]
def I.partIn_ann : Nat → List Nat × List Nat
  | 3 => ([0, 5, 6], [5])
  | _ => ([], [])
noncomputable def I.partIn_F (args : List V) (h : List E) (κ : V → List E → R) : R := funC TD (tableK I.partIn_T) I.partIn_ann (drawOk TD (tableP I.partIn_T)) FUEL Try.f64 args h κ
noncomputable def I.partIn_L3 (n : Nat) (σ : St) (k : X → St → R) : R := iterC 0 (fun σ k => denC TD (tableK I.partIn_T) I.partIn_ann (drawOk TD (tableP I.partIn_T)) 0 FUEL ((findLoop 3 (Try.f64.body.getD .skip)).getD .skip) σ k) [0, 5, 6] [5] n σ k
noncomputable def I.partIn_k3 (κ : V → List E → R) : X → St → R := (afterC TD (tableK I.partIn_T) I.partIn_ann (drawOk TD (tableP I.partIn_T)) 0 FUEL 3 (Try.f64.body.getD .skip) (finC TD 0 Try.f64 κ)).getD (fun _ _ => none)
noncomputable def I.partIn_step3 {α : Type} (x0 : List Int) (x5 : Int) (x6 : Int) (next_ : Int × Int → α) (out0_ : Int → α) (fail_ : α) : α :=
  (bif decide (x6 < (↑x0.length : Int)) then (optC (I.seenIn_t x0 x5) (fun c_1 => (next_ (c_1, IntKind.i64.wrap (x6 + 1)))) fail_) else (out0_ x5))
theorem I.partIn_step3_nat {α γ : Type} (g : α → γ) (x0 : List Int) (x5 : Int) (x6 : Int) (next_ : Int × Int → α) (out0_ : Int → α) (fail_ : α) : g (I.partIn_step3 x0 x5 x6 next_ out0_ fail_) = I.partIn_step3 x0 x5 x6 (fun s => g (next_ s)) (fun d => g (out0_ d)) (g fail_) := by
  unfold I.partIn_step3; simp only [apply_cnd g, apply_optC g, apply_sumC g]
noncomputable def I.partIn_run3 (x0 : List Int) : Nat → Int × Int → Option (Int)
  | 0, _ => none
  | n + 1, s_ => I.partIn_step3 x0 s_.1 s_.2 (I.partIn_run3 x0 n) (fun d => some d) none
theorem I.partIn_L3_run (x0 : List Int) (n : Nat) (s_ : Int × Int) (k : X → St → R) : I.partIn_L3 n { n := 19, t := [(0, (.ro false (.ints .i64 x0))), (5, (.int .i64 s_.1)), (6, (.int .i64 s_.2))], h := [] } k = optC (I.partIn_run3 x0 n s_) (fun (r : Int) => k (.exit 0) { n := 19, t := [(5, (.int .i64 r))], h := [] }) none := by
  induction n generalizing s_ with
  | zero => rfl
  | succ n ih =>
    have hu : I.partIn_L3 (n + 1) { n := 19, t := [(0, (.ro false (.ints .i64 x0))), (5, (.int .i64 s_.1)), (6, (.int .i64 s_.2))], h := [] } k = I.partIn_step3 x0 s_.1 s_.2 (fun s_ => I.partIn_L3 n { n := 19, t := [(0, (.ro false (.ints .i64 x0))), (5, (.int .i64 s_.1)), (6, (.int .i64 s_.2))], h := [] } k) (fun d => k (.exit 0) { n := 19, t := [(5, (.int .i64 d))], h := [] }) none := by
      kernel_rfl
    have hs : (fun s_ : Int × Int => I.partIn_L3 n { n := 19, t := [(0, (.ro false (.ints .i64 x0))), (5, (.int .i64 s_.1)), (6, (.int .i64 s_.2))], h := [] } k) = fun s_ => optC (I.partIn_run3 x0 n s_) (fun (r : Int) => k (.exit 0) { n := 19, t := [(5, (.int .i64 r))], h := [] }) none := funext ih
    rw [hu, hs]
    exact (I.partIn_step3_nat (fun o => optC o (fun (r : Int) => k (.exit 0) { n := 19, t := [(5, (.int .i64 r))], h := [] }) none) x0 s_.1 s_.2 (I.partIn_run3 x0 n) (fun d => some d) none).symm
noncomputable def I.partIn_tree {α : Type} (net : List Int) (place : Int) (leaf0_ : Int → α) (fail_ : α) : α :=
  (bif decide (place < 0) then fail_ else (optC (I.partIn_run3 net FUEL (IntKind.i64.wrap (1 * 2 ^ min place.toNat IntKind.i64.bits), 1)) (fun qy_2 => (leaf0_ qy_2)) fail_))
theorem I.partIn_tree_nat {α γ : Type} (g : α → γ) (net : List Int) (place : Int) (leaf0_ : Int → α) (fail_ : α) : g (I.partIn_tree net place leaf0_ fail_) = I.partIn_tree net place (fun d => g (leaf0_ d)) (g fail_) := by
  unfold I.partIn_tree; simp only [apply_cnd g, apply_optC g, apply_sumC g]
noncomputable def I.partIn_t (net : List Int) (place : Int) : Option (Int) := I.partIn_tree net place (fun d => some d) none
theorem I.partIn_den (net : List Int) (place : Int) (κ : V → List E → R) : I.partIn_F [.ro false (.ints .i64 net), .int .i64 place] [] κ = optC (I.partIn_t net place) (fun (r : Int) => κ (.int .i64 r) []) none := by
  have hu : I.partIn_F [.ro false (.ints .i64 net), .int .i64 place] [] κ = I.partIn_tree net place (fun d => κ (.int .i64 d) []) none := by
    refine Eq.trans (show I.partIn_F [.ro false (.ints .i64 net), .int .i64 place] [] κ = (bif decide (place < 0) then none else (I.partIn_L3 FUEL { n := 19, t := [(0, (.ro false (.ints .i64 net))), (5, (.int .i64 (IntKind.i64.wrap (1 * 2 ^ min place.toNat IntKind.i64.bits)))), (6, (.int .i64 1))], h := [] } (I.partIn_k3 κ))) by kernel_rfl) ?_
    refine cnd_congr ?_ ?_
    · kernel_rfl
    · refine (I.partIn_L3_run net FUEL (IntKind.i64.wrap (1 * 2 ^ min place.toNat IntKind.i64.bits), 1) (I.partIn_k3 κ)).trans (optC_congr (fun qy_2 => ?_))
      kernel_rfl
  rw [hu]
  exact (I.partIn_tree_nat (fun o => optC o (fun (r : Int) => κ (.int .i64 r) []) none) net place (fun d => some d) none).symm
noncomputable def I.partIn_s : D.Spec where
  keep := false
  pure := true
  add := true
  ds := [.int .i64, .invalid]
  sp := fun args h κ => match args, h with
    | [.ro false (.ints .i64 net), .int .i64 place], [] => optC (I.partIn_t net place) (fun (r : Int) => κ (.int .i64 r) []) none
    | _, _ => none
theorem I.partIn_ok : SpecOk Try.prog 64 I.partIn_s := by
  refine SpecOk.of TDok mixed (T := I.partIn_T) ?_ (ann := I.partIn_ann) Try.func64 rfl (by decide +kernel) ?_ ?_ ?_ ?_
  · intro p hp
    simp only [I.partIn_T, List.mem_cons, List.not_mem_nil, or_false] at hp
    rcases hp with rfl
    · exact I.seenIn_ok
  · intro args h κ r hh
    simp only [I.partIn_s] at hh
    split at hh
    · exact (I.partIn_den _ _ κ).trans hh
    · cases hh
  · intro args h κ r hh
    simp only [I.partIn_s] at hh ⊢
    split at hh
    · exact optC_law2 (F := fun (r : Int) κ => κ (.int .i64 r) []) (fun b κ r hb => ⟨_, _, hb, fun _ => rfl⟩) hh
    · cases hh
  · intro _ args h κ r hh
    simp only [I.partIn_s] at hh
    split at hh
    · exact ⟨rfl, fun _ => rfl⟩
    · cases hh
  · intro _ args h κ r hh
    simp only [I.partIn_s] at hh
    split at hh
    · rfl
    · cases hh

-- loop.example/guardsonnets/impl.PartMany
noncomputable def I.PartMany_T : List (Nat × D.Spec) := [(28, I.NetOk_s), (55, I.hasPlace_s), (64, I.partIn_s)]
def I.PartMany_ann : Nat → List Nat × List Nat
  | 6 => ([0, 3, 4, 5], [3])
  | _ => ([], [])
noncomputable def I.PartMany_F (args : List V) (h : List E) (κ : V → List E → R) : R := funC TD (tableK I.PartMany_T) I.PartMany_ann (drawOk TD (tableP I.PartMany_T)) FUEL Try.f35 args h κ
noncomputable def I.PartMany_L6 (n : Nat) (σ : St) (k : X → St → R) : R := iterC 0 (fun σ k => denC TD (tableK I.PartMany_T) I.PartMany_ann (drawOk TD (tableP I.PartMany_T)) 0 FUEL ((findLoop 6 (Try.f35.body.getD .skip)).getD .skip) σ k) [0, 3, 4, 5] [3] n σ k
noncomputable def I.PartMany_k6 (κ : V → List E → R) : X → St → R := (afterC TD (tableK I.PartMany_T) I.PartMany_ann (drawOk TD (tableP I.PartMany_T)) 0 FUEL 6 (Try.f35.body.getD .skip) (finC TD 0 Try.f35 κ)).getD (fun _ _ => none)
noncomputable def I.PartMany_step6 {α : Type} (x0 : List Int) (x3 : Int) (x4 : Int) (x5 : Int) (next_ : Int × Int × Int → α) (out0_ : Int → α) (fail_ : α) : α :=
  (bif decide (x5 < (↑x0.length : Int)) then (optC (I.hasPlace_t x4 x5) (fun c_2 => (bif !c_2 then (optC (I.partIn_t x0 x5) (fun c_3 => (next_ (IntKind.i64.wrap (x3 + 1), bits BinOp.or IntKind.i64 x4 c_3, IntKind.i64.wrap (x5 + 1)))) fail_) else (next_ (x3, x4, IntKind.i64.wrap (x5 + 1))))) fail_) else (out0_ x3))
theorem I.PartMany_step6_nat {α γ : Type} (g : α → γ) (x0 : List Int) (x3 : Int) (x4 : Int) (x5 : Int) (next_ : Int × Int × Int → α) (out0_ : Int → α) (fail_ : α) : g (I.PartMany_step6 x0 x3 x4 x5 next_ out0_ fail_) = I.PartMany_step6 x0 x3 x4 x5 (fun s => g (next_ s)) (fun d => g (out0_ d)) (g fail_) := by
  unfold I.PartMany_step6; simp only [apply_cnd g, apply_optC g, apply_sumC g]
noncomputable def I.PartMany_run6 (x0 : List Int) : Nat → Int × Int × Int → Option (Int)
  | 0, _ => none
  | n + 1, s_ => I.PartMany_step6 x0 s_.1 s_.2.1 s_.2.2 (I.PartMany_run6 x0 n) (fun d => some d) none
theorem I.PartMany_L6_run (x0 : List Int) (n : Nat) (s_ : Int × Int × Int) (k : X → St → R) : I.PartMany_L6 n { n := 27, t := [(0, (.ro false (.ints .i64 x0))), (3, (.int .i64 s_.1)), (4, (.int .i64 s_.2.1)), (5, (.int .i64 s_.2.2))], h := [] } k = optC (I.PartMany_run6 x0 n s_) (fun (r : Int) => k (.exit 0) { n := 27, t := [(3, (.int .i64 r))], h := [] }) none := by
  induction n generalizing s_ with
  | zero => rfl
  | succ n ih =>
    have hu : I.PartMany_L6 (n + 1) { n := 27, t := [(0, (.ro false (.ints .i64 x0))), (3, (.int .i64 s_.1)), (4, (.int .i64 s_.2.1)), (5, (.int .i64 s_.2.2))], h := [] } k = I.PartMany_step6 x0 s_.1 s_.2.1 s_.2.2 (fun s_ => I.PartMany_L6 n { n := 27, t := [(0, (.ro false (.ints .i64 x0))), (3, (.int .i64 s_.1)), (4, (.int .i64 s_.2.1)), (5, (.int .i64 s_.2.2))], h := [] } k) (fun d => k (.exit 0) { n := 27, t := [(3, (.int .i64 d))], h := [] }) none := by
      kernel_rfl
    have hs : (fun s_ : Int × Int × Int => I.PartMany_L6 n { n := 27, t := [(0, (.ro false (.ints .i64 x0))), (3, (.int .i64 s_.1)), (4, (.int .i64 s_.2.1)), (5, (.int .i64 s_.2.2))], h := [] } k) = fun s_ => optC (I.PartMany_run6 x0 n s_) (fun (r : Int) => k (.exit 0) { n := 27, t := [(3, (.int .i64 r))], h := [] }) none := funext ih
    rw [hu, hs]
    exact (I.PartMany_step6_nat (fun o => optC o (fun (r : Int) => k (.exit 0) { n := 27, t := [(3, (.int .i64 r))], h := [] }) none) x0 s_.1 s_.2.1 s_.2.2 (I.PartMany_run6 x0 n) (fun d => some d) none).symm
noncomputable def I.PartMany_tree {α : Type} (net : List Int) (leaf0_ : Int → α) (fail_ : α) : α :=
  (optC (I.NetOk_t net) (fun c_1 => (bif !c_1 then (leaf0_ (-1)) else (optC (I.PartMany_run6 net FUEL (0, 0, 0)) (fun qy_4 => (leaf0_ qy_4)) fail_))) fail_)
theorem I.PartMany_tree_nat {α γ : Type} (g : α → γ) (net : List Int) (leaf0_ : Int → α) (fail_ : α) : g (I.PartMany_tree net leaf0_ fail_) = I.PartMany_tree net (fun d => g (leaf0_ d)) (g fail_) := by
  unfold I.PartMany_tree; simp only [apply_cnd g, apply_optC g, apply_sumC g]
noncomputable def I.PartMany_t (net : List Int) : Option (Int) := I.PartMany_tree net (fun d => some d) none
theorem I.PartMany_den (net : List Int) (κ : V → List E → R) : I.PartMany_F [.ro false (.ints .i64 net)] [] κ = optC (I.PartMany_t net) (fun (r : Int) => κ (.int .i64 r) []) none := by
  have hu : I.PartMany_F [.ro false (.ints .i64 net)] [] κ = I.PartMany_tree net (fun d => κ (.int .i64 d) []) none := by
    refine Eq.trans (show I.PartMany_F [.ro false (.ints .i64 net)] [] κ = (optC (I.NetOk_t net) (fun c_1 => (bif !c_1 then (κ (.int .i64 (-1)) []) else (I.PartMany_L6 FUEL { n := 27, t := [(0, (.ro false (.ints .i64 net))), (3, (.int .i64 0)), (4, (.int .i64 0)), (5, (.int .i64 0))], h := [] } (I.PartMany_k6 κ)))) none) by kernel_rfl) ?_
    refine optC_congr (fun c_1 => ?_)
    refine cnd_congr ?_ ?_
    · kernel_rfl
    · refine (I.PartMany_L6_run net FUEL (0, 0, 0) (I.PartMany_k6 κ)).trans (optC_congr (fun qy_4 => ?_))
      kernel_rfl
  rw [hu]
  exact (I.PartMany_tree_nat (fun o => optC o (fun (r : Int) => κ (.int .i64 r) []) none) net (fun d => some d) none).symm
noncomputable def I.PartMany_s : D.Spec where
  keep := false
  pure := true
  add := true
  ds := [.int .i64]
  sp := fun args h κ => match args, h with
    | [.ro false (.ints .i64 net)], [] => optC (I.PartMany_t net) (fun (r : Int) => κ (.int .i64 r) []) none
    | _, _ => none
theorem I.PartMany_ok : SpecOk Try.prog 35 I.PartMany_s := by
  refine SpecOk.of TDok mixed (T := I.PartMany_T) ?_ (ann := I.PartMany_ann) Try.func35 rfl (by decide +kernel) ?_ ?_ ?_ ?_
  · intro p hp
    simp only [I.PartMany_T, List.mem_cons, List.not_mem_nil, or_false] at hp
    rcases hp with rfl | rfl | rfl
    · exact I.NetOk_ok
    · exact I.hasPlace_ok
    · exact I.partIn_ok
  · intro args h κ r hh
    simp only [I.PartMany_s] at hh
    split at hh
    · exact (I.PartMany_den _ κ).trans hh
    · cases hh
  · intro args h κ r hh
    simp only [I.PartMany_s] at hh ⊢
    split at hh
    · exact optC_law2 (F := fun (r : Int) κ => κ (.int .i64 r) []) (fun b κ r hb => ⟨_, _, hb, fun _ => rfl⟩) hh
    · cases hh
  · intro _ args h κ r hh
    simp only [I.PartMany_s] at hh
    split at hh
    · exact ⟨rfl, fun _ => rfl⟩
    · cases hh
  · intro _ args h κ r hh
    simp only [I.PartMany_s] at hh
    split at hh
    · rfl
    · cases hh

-- loop.example/guardsonnets/impl.wiresIn
noncomputable def I.wiresIn_T : List (Nat × D.Spec) := [(55, I.hasPlace_s)]
def I.wiresIn_ann : Nat → List Nat × List Nat
  | 6 => ([0, 3, 4, 5], [0, 3, 4])
  | 3 => ([0, 3, 4], [3])
  | _ => ([], [])
noncomputable def I.wiresIn_F (args : List V) (h : List E) (κ : V → List E → R) : R := funC TD (tableK I.wiresIn_T) I.wiresIn_ann (drawOk TD (tableP I.wiresIn_T)) FUEL Try.f59 args h κ
noncomputable def I.wiresIn_L6 (n : Nat) (σ : St) (k : X → St → R) : R := iterC 0 (fun σ k => denC TD (tableK I.wiresIn_T) I.wiresIn_ann (drawOk TD (tableP I.wiresIn_T)) 0 FUEL ((findLoop 6 (Try.f59.body.getD .skip)).getD .skip) σ k) [0, 3, 4, 5] [0, 3, 4] n σ k
noncomputable def I.wiresIn_L3 (n : Nat) (σ : St) (k : X → St → R) : R := iterC 0 (fun σ k => denC TD (tableK I.wiresIn_T) I.wiresIn_ann (drawOk TD (tableP I.wiresIn_T)) 0 FUEL ((findLoop 3 (Try.f59.body.getD .skip)).getD .skip) σ k) [0, 3, 4] [3] n σ k
noncomputable def I.wiresIn_k6 (c : (St → R) × (X → St → R)) : X → St → R := (afterC TD (tableK I.wiresIn_T) I.wiresIn_ann (drawOk TD (tableP I.wiresIn_T)) 0 FUEL 6 ((findLoop 3 (Try.f59.body.getD .skip)).getD .skip) (roundC 0 [0, 3, 4] [3] c.1 c.2)).getD (fun _ _ => none)
noncomputable def I.wiresIn_k3 (κ : V → List E → R) : X → St → R := (afterC TD (tableK I.wiresIn_T) I.wiresIn_ann (drawOk TD (tableP I.wiresIn_T)) 0 FUEL 3 (Try.f59.body.getD .skip) (finC TD 0 Try.f59 κ)).getD (fun _ _ => none)
noncomputable def I.wiresIn_step6 {α : Type} (x0 : List Int) (x4 : Int) (x5 : Int) (r0 : List Int) (next_ : Int × (List Int) → α) (out0_ : List Int → α) (fail_ : α) : α :=
  (bif decide (x5 < (↑x0.length : Int)) then (bif decide (0 ≤ x4) && decide (x4 < (↑x0.length : Int)) then (optC (I.hasPlace_t (eli x0 x4.toNat) x5) (fun c_1 => (bif c_1 then (bif small (r0.length + [x4, x5].length) then (next_ (IntKind.i64.wrap (x5 + 1), r0 ++ [x4, x5])) else fail_) else (next_ (IntKind.i64.wrap (x5 + 1), r0)))) fail_) else fail_) else (out0_ r0))
theorem I.wiresIn_step6_nat {α γ : Type} (g : α → γ) (x0 : List Int) (x4 : Int) (x5 : Int) (r0 : List Int) (next_ : Int × (List Int) → α) (out0_ : List Int → α) (fail_ : α) : g (I.wiresIn_step6 x0 x4 x5 r0 next_ out0_ fail_) = I.wiresIn_step6 x0 x4 x5 r0 (fun s => g (next_ s)) (fun d => g (out0_ d)) (g fail_) := by
  unfold I.wiresIn_step6; simp only [apply_cnd g, apply_optC g, apply_sumC g]
noncomputable def I.wiresIn_run6 (x0 : List Int) (x4 : Int) : Nat → Int × (List Int) → Option (List Int)
  | 0, _ => none
  | n + 1, s_ => I.wiresIn_step6 x0 x4 s_.1 s_.2 (I.wiresIn_run6 x0 x4 n) (fun d => some d) none
theorem I.wiresIn_L6_run (x0 : List Int) (x4 : Int) (n : Nat) (s_ : Int × (List Int)) (k : X → St → R) : I.wiresIn_L6 n { n := 34, t := [(0, (.ro false (.ints .i64 x0))), (3, (.own 0)), (4, (.int .i64 x4)), (5, (.int .i64 s_.1))], h := [.recs 2 s_.2] } k = optC (I.wiresIn_run6 x0 x4 n s_) (fun (r : List Int) => k (.exit 2) { n := 34, t := [(0, (.ro false (.ints .i64 x0))), (3, (.own 0)), (4, (.int .i64 x4))], h := [.recs 2 r] }) none := by
  induction n generalizing s_ with
  | zero => rfl
  | succ n ih =>
    have hu : I.wiresIn_L6 (n + 1) { n := 34, t := [(0, (.ro false (.ints .i64 x0))), (3, (.own 0)), (4, (.int .i64 x4)), (5, (.int .i64 s_.1))], h := [.recs 2 s_.2] } k = I.wiresIn_step6 x0 x4 s_.1 s_.2 (fun s_ => I.wiresIn_L6 n { n := 34, t := [(0, (.ro false (.ints .i64 x0))), (3, (.own 0)), (4, (.int .i64 x4)), (5, (.int .i64 s_.1))], h := [.recs 2 s_.2] } k) (fun d => k (.exit 2) { n := 34, t := [(0, (.ro false (.ints .i64 x0))), (3, (.own 0)), (4, (.int .i64 x4))], h := [.recs 2 d] }) none := by
      kernel_rfl
    have hs : (fun s_ : Int × (List Int) => I.wiresIn_L6 n { n := 34, t := [(0, (.ro false (.ints .i64 x0))), (3, (.own 0)), (4, (.int .i64 x4)), (5, (.int .i64 s_.1))], h := [.recs 2 s_.2] } k) = fun s_ => optC (I.wiresIn_run6 x0 x4 n s_) (fun (r : List Int) => k (.exit 2) { n := 34, t := [(0, (.ro false (.ints .i64 x0))), (3, (.own 0)), (4, (.int .i64 x4))], h := [.recs 2 r] }) none := funext ih
    rw [hu, hs]
    exact (I.wiresIn_step6_nat (fun o => optC o (fun (r : List Int) => k (.exit 2) { n := 34, t := [(0, (.ro false (.ints .i64 x0))), (3, (.own 0)), (4, (.int .i64 x4))], h := [.recs 2 r] }) none) x0 x4 s_.1 s_.2 (I.wiresIn_run6 x0 x4 n) (fun d => some d) none).symm
noncomputable def I.wiresIn_step3 {α : Type} (x0 : List Int) (x4 : Int) (r0 : List Int) (next_ : Int × (List Int) → α) (out0_ : List Int → α) (fail_ : α) : α :=
  (bif decide (x4 < (↑x0.length : Int)) then (optC (I.wiresIn_run6 x0 x4 FUEL (IntKind.i64.wrap (x4 + 1), r0)) (fun qy_2 => (next_ (IntKind.i64.wrap (x4 + 1), qy_2))) fail_) else (out0_ r0))
theorem I.wiresIn_step3_nat {α γ : Type} (g : α → γ) (x0 : List Int) (x4 : Int) (r0 : List Int) (next_ : Int × (List Int) → α) (out0_ : List Int → α) (fail_ : α) : g (I.wiresIn_step3 x0 x4 r0 next_ out0_ fail_) = I.wiresIn_step3 x0 x4 r0 (fun s => g (next_ s)) (fun d => g (out0_ d)) (g fail_) := by
  unfold I.wiresIn_step3; simp only [apply_cnd g, apply_optC g, apply_sumC g]
noncomputable def I.wiresIn_run3 (x0 : List Int) : Nat → Int × (List Int) → Option (List Int)
  | 0, _ => none
  | n + 1, s_ => I.wiresIn_step3 x0 s_.1 s_.2 (I.wiresIn_run3 x0 n) (fun d => some d) none
theorem I.wiresIn_L3_run (x0 : List Int) (n : Nat) (s_ : Int × (List Int)) (k : X → St → R) : I.wiresIn_L3 n { n := 34, t := [(0, (.ro false (.ints .i64 x0))), (3, (.own 0)), (4, (.int .i64 s_.1))], h := [.recs 2 s_.2] } k = optC (I.wiresIn_run3 x0 n s_) (fun (r : List Int) => k (.exit 0) { n := 34, t := [(3, (.own 0))], h := [.recs 2 r] }) none := by
  induction n generalizing s_ with
  | zero => rfl
  | succ n ih =>
    have hu : I.wiresIn_L3 (n + 1) { n := 34, t := [(0, (.ro false (.ints .i64 x0))), (3, (.own 0)), (4, (.int .i64 s_.1))], h := [.recs 2 s_.2] } k = I.wiresIn_step3 x0 s_.1 s_.2 (fun s_ => I.wiresIn_L3 n { n := 34, t := [(0, (.ro false (.ints .i64 x0))), (3, (.own 0)), (4, (.int .i64 s_.1))], h := [.recs 2 s_.2] } k) (fun d => k (.exit 0) { n := 34, t := [(3, (.own 0))], h := [.recs 2 d] }) none := by
      refine Eq.trans (show I.wiresIn_L3 (n + 1) { n := 34, t := [(0, (.ro false (.ints .i64 x0))), (3, (.own 0)), (4, (.int .i64 s_.1))], h := [.recs 2 s_.2] } k = (bif decide (s_.1 < (↑x0.length : Int)) then (I.wiresIn_L6 FUEL { n := 34, t := [(0, (.ro false (.ints .i64 x0))), (3, (.own 0)), (4, (.int .i64 s_.1)), (5, (.int .i64 (IntKind.i64.wrap (s_.1 + 1))))], h := [.recs 2 s_.2] } (I.wiresIn_k6 ((fun σ => I.wiresIn_L3 n σ k), k))) else (k (.exit 0) { n := 34, t := [(3, (.own 0))], h := [.recs 2 s_.2] })) by kernel_rfl) ?_
      refine cnd_congr ?_ ?_
      · refine (I.wiresIn_L6_run x0 s_.1 FUEL (IntKind.i64.wrap (s_.1 + 1), s_.2) (I.wiresIn_k6 ((fun σ => I.wiresIn_L3 n σ k), k))).trans (optC_congr (fun qy_2 => ?_))
        kernel_rfl
      · kernel_rfl
    have hs : (fun s_ : Int × (List Int) => I.wiresIn_L3 n { n := 34, t := [(0, (.ro false (.ints .i64 x0))), (3, (.own 0)), (4, (.int .i64 s_.1))], h := [.recs 2 s_.2] } k) = fun s_ => optC (I.wiresIn_run3 x0 n s_) (fun (r : List Int) => k (.exit 0) { n := 34, t := [(3, (.own 0))], h := [.recs 2 r] }) none := funext ih
    rw [hu, hs]
    exact (I.wiresIn_step3_nat (fun o => optC o (fun (r : List Int) => k (.exit 0) { n := 34, t := [(3, (.own 0))], h := [.recs 2 r] }) none) x0 s_.1 s_.2 (I.wiresIn_run3 x0 n) (fun d => some d) none).symm
noncomputable def I.wiresIn_tree {α : Type} (net : List Int) (leaf0_ : List Int → α) (fail_ : α) : α :=
  (optC (I.wiresIn_run3 net FUEL (0, [])) (fun qy_3 => (leaf0_ qy_3)) fail_)
theorem I.wiresIn_tree_nat {α γ : Type} (g : α → γ) (net : List Int) (leaf0_ : List Int → α) (fail_ : α) : g (I.wiresIn_tree net leaf0_ fail_) = I.wiresIn_tree net (fun d => g (leaf0_ d)) (g fail_) := by
  unfold I.wiresIn_tree; simp only [apply_cnd g, apply_optC g, apply_sumC g]
noncomputable def I.wiresIn_t (net : List Int) : Option (List Int) := I.wiresIn_tree net (fun d => some d) none
theorem I.wiresIn_den (net : List Int) (κ : V → List E → R) : I.wiresIn_F [.ro false (.ints .i64 net)] [] κ = optC (I.wiresIn_t net) (fun (r : List Int) => κ (.own 0) [.recs 2 r]) none := by
  have hu : I.wiresIn_F [.ro false (.ints .i64 net)] [] κ = I.wiresIn_tree net (fun d => κ (.own 0) [.recs 2 d]) none := by
    refine Eq.trans (show I.wiresIn_F [.ro false (.ints .i64 net)] [] κ = (I.wiresIn_L3 FUEL { n := 34, t := [(0, (.ro false (.ints .i64 net))), (3, (.own 0)), (4, (.int .i64 0))], h := [.recs 2 ([])] } (I.wiresIn_k3 κ)) by kernel_rfl) ?_
    refine (I.wiresIn_L3_run net FUEL (0, []) (I.wiresIn_k3 κ)).trans (optC_congr (fun qy_3 => ?_))
    kernel_rfl
  rw [hu]
  exact (I.wiresIn_tree_nat (fun o => optC o (fun (r : List Int) => κ (.own 0) [.recs 2 r]) none) net (fun d => some d) none).symm
noncomputable def I.wiresIn_s : D.Spec where
  keep := false
  pure := false
  add := true
  ds := [.int .i64]
  sp := fun args h κ => match args, h with
    | [.ro false (.ints .i64 net)], [] => optC (I.wiresIn_t net) (fun (r : List Int) => κ (.own 0) [.recs 2 r]) none
    | _, _ => none
theorem I.wiresIn_ok : SpecOk Try.prog 59 I.wiresIn_s := by
  refine SpecOk.of TDok mixed (T := I.wiresIn_T) ?_ (ann := I.wiresIn_ann) Try.func59 rfl (by decide +kernel) ?_ ?_ ?_ ?_
  · intro p hp
    simp only [I.wiresIn_T, List.mem_cons, List.not_mem_nil, or_false] at hp
    rcases hp with rfl
    · exact I.hasPlace_ok
  · intro args h κ r hh
    simp only [I.wiresIn_s] at hh
    split at hh
    · exact (I.wiresIn_den _ κ).trans hh
    · cases hh
  · intro args h κ r hh
    simp only [I.wiresIn_s] at hh ⊢
    split at hh
    · exact optC_law2 (F := fun (r : List Int) κ => κ (.own 0) [.recs 2 r]) (fun b κ r hb => ⟨_, _, hb, fun _ => rfl⟩) hh
    · cases hh
  · intro hh; cases hh
  · intro _ args h κ r hh
    simp only [I.wiresIn_s] at hh
    split at hh
    · rfl
    · cases hh

-- loop.example/guardsonnets/impl.leavesIn
noncomputable def I.leavesIn_T : List (Nat × D.Spec) := [(64, I.partIn_s), (65, I.allOf_s), (46, I.sizeOf_s)]
def I.leavesIn_ann : Nat → List Nat × List Nat
  | 5 => ([0, 3, 4], [3])
  | _ => ([], [])
noncomputable def I.leavesIn_F (args : List V) (h : List E) (κ : V → List E → R) : R := funC TD (tableK I.leavesIn_T) I.leavesIn_ann (drawOk TD (tableP I.leavesIn_T)) FUEL Try.f72 args h κ
noncomputable def I.leavesIn_L5 (n : Nat) (σ : St) (k : X → St → R) : R := iterC 0 (fun σ k => denC TD (tableK I.leavesIn_T) I.leavesIn_ann (drawOk TD (tableP I.leavesIn_T)) 0 FUEL ((findLoop 5 (Try.f72.body.getD .skip)).getD .skip) σ k) [0, 3, 4] [3] n σ k
noncomputable def I.leavesIn_k5 (κ : V → List E → R) : X → St → R := (afterC TD (tableK I.leavesIn_T) I.leavesIn_ann (drawOk TD (tableP I.leavesIn_T)) 0 FUEL 5 (Try.f72.body.getD .skip) (finC TD 0 Try.f72 κ)).getD (fun _ _ => none)
noncomputable def I.leavesIn_step5 {α : Type} (x0 : List Int) (x3 : Int) (x4 : Int) (next_ : Int × Int → α) (out0_ : Int → α) (fail_ : α) : α :=
  (bif decide (x4 < (↑x0.length : Int)) then (bif decide (0 ≤ x4) && decide (x4 < (↑x0.length : Int)) then (optC (I.sizeOf_t (eli x0 x4.toNat)) (fun c_3 => (bif c_3 == 1 then (next_ (IntKind.i64.wrap (x3 + 1), IntKind.i64.wrap (x4 + 1))) else (next_ (x3, IntKind.i64.wrap (x4 + 1))))) fail_) else fail_) else (out0_ x3))
theorem I.leavesIn_step5_nat {α γ : Type} (g : α → γ) (x0 : List Int) (x3 : Int) (x4 : Int) (next_ : Int × Int → α) (out0_ : Int → α) (fail_ : α) : g (I.leavesIn_step5 x0 x3 x4 next_ out0_ fail_) = I.leavesIn_step5 x0 x3 x4 (fun s => g (next_ s)) (fun d => g (out0_ d)) (g fail_) := by
  unfold I.leavesIn_step5; simp only [apply_cnd g, apply_optC g, apply_sumC g]
noncomputable def I.leavesIn_run5 (x0 : List Int) : Nat → Int × Int → Option (Int)
  | 0, _ => none
  | n + 1, s_ => I.leavesIn_step5 x0 s_.1 s_.2 (I.leavesIn_run5 x0 n) (fun d => some d) none
theorem I.leavesIn_L5_run (x0 : List Int) (n : Nat) (s_ : Int × Int) (k : X → St → R) : I.leavesIn_L5 n { n := 25, t := [(0, (.ro false (.ints .i64 x0))), (3, (.int .i64 s_.1)), (4, (.int .i64 s_.2))], h := [] } k = optC (I.leavesIn_run5 x0 n s_) (fun (r : Int) => k (.exit 0) { n := 25, t := [(3, (.int .i64 r))], h := [] }) none := by
  induction n generalizing s_ with
  | zero => rfl
  | succ n ih =>
    have hu : I.leavesIn_L5 (n + 1) { n := 25, t := [(0, (.ro false (.ints .i64 x0))), (3, (.int .i64 s_.1)), (4, (.int .i64 s_.2))], h := [] } k = I.leavesIn_step5 x0 s_.1 s_.2 (fun s_ => I.leavesIn_L5 n { n := 25, t := [(0, (.ro false (.ints .i64 x0))), (3, (.int .i64 s_.1)), (4, (.int .i64 s_.2))], h := [] } k) (fun d => k (.exit 0) { n := 25, t := [(3, (.int .i64 d))], h := [] }) none := by
      kernel_rfl
    have hs : (fun s_ : Int × Int => I.leavesIn_L5 n { n := 25, t := [(0, (.ro false (.ints .i64 x0))), (3, (.int .i64 s_.1)), (4, (.int .i64 s_.2))], h := [] } k) = fun s_ => optC (I.leavesIn_run5 x0 n s_) (fun (r : Int) => k (.exit 0) { n := 25, t := [(3, (.int .i64 r))], h := [] }) none := funext ih
    rw [hu, hs]
    exact (I.leavesIn_step5_nat (fun o => optC o (fun (r : Int) => k (.exit 0) { n := 25, t := [(3, (.int .i64 r))], h := [] }) none) x0 s_.1 s_.2 (I.leavesIn_run5 x0 n) (fun d => some d) none).symm
noncomputable def I.leavesIn_tree {α : Type} (net : List Int) (leaf0_ : Int → α) (fail_ : α) : α :=
  (optC (I.partIn_t net 0) (fun c_1 => (optC (I.allOf_t net) (fun c_2 => (bif !c_1 == c_2 then (leaf0_ (-1)) else (optC (I.leavesIn_run5 net FUEL (0, 0)) (fun qy_4 => (leaf0_ qy_4)) fail_))) fail_)) fail_)
theorem I.leavesIn_tree_nat {α γ : Type} (g : α → γ) (net : List Int) (leaf0_ : Int → α) (fail_ : α) : g (I.leavesIn_tree net leaf0_ fail_) = I.leavesIn_tree net (fun d => g (leaf0_ d)) (g fail_) := by
  unfold I.leavesIn_tree; simp only [apply_cnd g, apply_optC g, apply_sumC g]
noncomputable def I.leavesIn_t (net : List Int) : Option (Int) := I.leavesIn_tree net (fun d => some d) none
theorem I.leavesIn_den (net : List Int) (κ : V → List E → R) : I.leavesIn_F [.ro false (.ints .i64 net)] [] κ = optC (I.leavesIn_t net) (fun (r : Int) => κ (.int .i64 r) []) none := by
  have hu : I.leavesIn_F [.ro false (.ints .i64 net)] [] κ = I.leavesIn_tree net (fun d => κ (.int .i64 d) []) none := by
    refine Eq.trans (show I.leavesIn_F [.ro false (.ints .i64 net)] [] κ = (optC (I.partIn_t net 0) (fun c_1 => (optC (I.allOf_t net) (fun c_2 => (bif !c_1 == c_2 then (κ (.int .i64 (-1)) []) else (I.leavesIn_L5 FUEL { n := 25, t := [(0, (.ro false (.ints .i64 net))), (3, (.int .i64 0)), (4, (.int .i64 0))], h := [] } (I.leavesIn_k5 κ)))) none)) none) by kernel_rfl) ?_
    refine optC_congr (fun c_1 => ?_)
    refine optC_congr (fun c_2 => ?_)
    refine cnd_congr ?_ ?_
    · kernel_rfl
    · refine (I.leavesIn_L5_run net FUEL (0, 0) (I.leavesIn_k5 κ)).trans (optC_congr (fun qy_4 => ?_))
      kernel_rfl
  rw [hu]
  exact (I.leavesIn_tree_nat (fun o => optC o (fun (r : Int) => κ (.int .i64 r) []) none) net (fun d => some d) none).symm
noncomputable def I.leavesIn_s : D.Spec where
  keep := false
  pure := true
  add := true
  ds := [.int .i64]
  sp := fun args h κ => match args, h with
    | [.ro false (.ints .i64 net)], [] => optC (I.leavesIn_t net) (fun (r : Int) => κ (.int .i64 r) []) none
    | _, _ => none
theorem I.leavesIn_ok : SpecOk Try.prog 72 I.leavesIn_s := by
  refine SpecOk.of TDok mixed (T := I.leavesIn_T) ?_ (ann := I.leavesIn_ann) Try.func72 rfl (by decide +kernel) ?_ ?_ ?_ ?_
  · intro p hp
    simp only [I.leavesIn_T, List.mem_cons, List.not_mem_nil, or_false] at hp
    rcases hp with rfl | rfl | rfl
    · exact I.partIn_ok
    · exact I.allOf_ok
    · exact I.sizeOf_ok
  · intro args h κ r hh
    simp only [I.leavesIn_s] at hh
    split at hh
    · exact (I.leavesIn_den _ κ).trans hh
    · cases hh
  · intro args h κ r hh
    simp only [I.leavesIn_s] at hh ⊢
    split at hh
    · exact optC_law2 (F := fun (r : Int) κ => κ (.int .i64 r) []) (fun b κ r hb => ⟨_, _, hb, fun _ => rfl⟩) hh
    · cases hh
  · intro _ args h κ r hh
    simp only [I.leavesIn_s] at hh
    split at hh
    · exact ⟨rfl, fun _ => rfl⟩
    · cases hh
  · intro _ args h κ r hh
    simp only [I.leavesIn_s] at hh
    split at hh
    · rfl
    · cases hh

-- loop.example/guardsonnets/impl.with
noncomputable def I.with_T : List (Nat × D.Spec) := []
def I.with_ann : Nat → List Nat × List Nat
  | _ => ([], [])
noncomputable def I.with_F (args : List V) (h : List E) (κ : V → List E → R) : R := funC TD (tableK I.with_T) I.with_ann (drawOk TD (tableP I.with_T)) FUEL Try.f76 args h κ
noncomputable def I.with_tree {α : Type} (set_ : Int) (place : Int) (leaf0_ : Int → α) (fail_ : α) : α :=
  (bif decide (place < 0) then fail_ else (leaf0_ (bits BinOp.or IntKind.i64 set_ (IntKind.i64.wrap (1 * 2 ^ min place.toNat IntKind.i64.bits)))))
theorem I.with_tree_nat {α γ : Type} (g : α → γ) (set_ : Int) (place : Int) (leaf0_ : Int → α) (fail_ : α) : g (I.with_tree set_ place leaf0_ fail_) = I.with_tree set_ place (fun d => g (leaf0_ d)) (g fail_) := by
  unfold I.with_tree; simp only [apply_cnd g, apply_optC g, apply_sumC g]
noncomputable def I.with_t (set_ : Int) (place : Int) : Option (Int) := I.with_tree set_ place (fun d => some d) none
theorem I.with_den (set_ : Int) (place : Int) (κ : V → List E → R) : I.with_F [.int .i64 set_, .int .i64 place] [] κ = optC (I.with_t set_ place) (fun (r : Int) => κ (.int .i64 r) []) none := by
  have hu : I.with_F [.int .i64 set_, .int .i64 place] [] κ = I.with_tree set_ place (fun d => κ (.int .i64 d) []) none := by
    kernel_rfl
  rw [hu]
  exact (I.with_tree_nat (fun o => optC o (fun (r : Int) => κ (.int .i64 r) []) none) set_ place (fun d => some d) none).symm
noncomputable def I.with_s : D.Spec where
  keep := false
  pure := true
  add := true
  ds := [.invalid, .invalid]
  sp := fun args h κ => match args, h with
    | [.int .i64 set_, .int .i64 place], [] => optC (I.with_t set_ place) (fun (r : Int) => κ (.int .i64 r) []) none
    | _, _ => none
theorem I.with_ok : SpecOk Try.prog 76 I.with_s := by
  refine SpecOk.of TDok mixed (T := I.with_T) ?_ (ann := I.with_ann) Try.func76 rfl (by decide +kernel) ?_ ?_ ?_ ?_
  · intro p hp; cases hp
  · intro args h κ r hh
    simp only [I.with_s] at hh
    split at hh
    · exact (I.with_den _ _ κ).trans hh
    · cases hh
  · intro args h κ r hh
    simp only [I.with_s] at hh ⊢
    split at hh
    · exact optC_law2 (F := fun (r : Int) κ => κ (.int .i64 r) []) (fun b κ r hb => ⟨_, _, hb, fun _ => rfl⟩) hh
    · cases hh
  · intro _ args h κ r hh
    simp only [I.with_s] at hh
    split at hh
    · exact ⟨rfl, fun _ => rfl⟩
    · cases hh
  · intro _ args h κ r hh
    simp only [I.with_s] at hh
    split at hh
    · rfl
    · cases hh

-- loop.example/guardsonnets/impl.joinedBy
noncomputable def I.joinedBy_T : List (Nat × D.Spec) := [(76, I.with_s)]
def I.joinedBy_ann : Nat → List Nat × List Nat
  | _ => ([], [])
noncomputable def I.joinedBy_F (args : List V) (h : List E) (κ : V → List E → R) : R := funC TD (tableK I.joinedBy_T) I.joinedBy_ann (drawOk TD (tableP I.joinedBy_T)) FUEL Try.f73 args h κ
noncomputable def I.joinedBy_tree {α : Type} (net : List Int) (one0 : Int) (one1 : Int) (leaf0_ : List Int → α) (fail_ : α) : α :=
  (bif small ([] ++ net).length then (bif decide (0 ≤ one0) && decide (one0 < (↑([] ++ net).length : Int)) then (bif decide (one0.toNat < ([] ++ net).length) then (optC (I.with_t (eli ([] ++ net) one0.toNat) one1) (fun c_1 => (bif decide (0 ≤ one0) && decide (one0 < (↑([] ++ net).length : Int)) then (bif decide (one0.toNat < ([] ++ net).length) then (bif decide (0 ≤ one1) && decide (one1 < (↑(([] ++ net).set one0.toNat c_1).length : Int)) then (bif decide (one1.toNat < (([] ++ net).set one0.toNat c_1).length) then (optC (I.with_t (eli (([] ++ net).set one0.toNat c_1) one1.toNat) one0) (fun c_2 => (bif decide (0 ≤ one1) && decide (one1 < (↑(([] ++ net).set one0.toNat c_1).length : Int)) then (bif decide (one1.toNat < (([] ++ net).set one0.toNat c_1).length) then (leaf0_ ((([] ++ net).set one0.toNat c_1).set one1.toNat c_2)) else fail_) else fail_)) fail_) else fail_) else fail_) else fail_) else fail_)) fail_) else fail_) else fail_) else fail_)
theorem I.joinedBy_tree_nat {α γ : Type} (g : α → γ) (net : List Int) (one0 : Int) (one1 : Int) (leaf0_ : List Int → α) (fail_ : α) : g (I.joinedBy_tree net one0 one1 leaf0_ fail_) = I.joinedBy_tree net one0 one1 (fun d => g (leaf0_ d)) (g fail_) := by
  unfold I.joinedBy_tree; simp only [apply_cnd g, apply_optC g, apply_sumC g]
noncomputable def I.joinedBy_t (net : List Int) (one0 : Int) (one1 : Int) : Option (List Int) := I.joinedBy_tree net one0 one1 (fun d => some d) none
theorem I.joinedBy_den (net : List Int) (one0 : Int) (one1 : Int) (κ : V → List E → R) : I.joinedBy_F [.ro false (.ints .i64 net), .agg [.int .i64 one0, .int .i64 one1]] [] κ = optC (I.joinedBy_t net one0 one1) (fun (r : List Int) => κ (.own 0) [.row (.ints .i64 r)]) none := by
  have hu : I.joinedBy_F [.ro false (.ints .i64 net), .agg [.int .i64 one0, .int .i64 one1]] [] κ = I.joinedBy_tree net one0 one1 (fun d => κ (.own 0) [.row (.ints .i64 d)]) none := by
    kernel_rfl
  rw [hu]
  exact (I.joinedBy_tree_nat (fun o => optC o (fun (r : List Int) => κ (.own 0) [.row (.ints .i64 r)]) none) net one0 one1 (fun d => some d) none).symm
noncomputable def I.joinedBy_s : D.Spec where
  keep := false
  pure := false
  add := true
  ds := [.int .i64, .invalid]
  sp := fun args h κ => match args, h with
    | [.ro false (.ints .i64 net), .agg [.int .i64 one0, .int .i64 one1]], [] => optC (I.joinedBy_t net one0 one1) (fun (r : List Int) => κ (.own 0) [.row (.ints .i64 r)]) none
    | _, _ => none
theorem I.joinedBy_ok : SpecOk Try.prog 73 I.joinedBy_s := by
  refine SpecOk.of TDok mixed (T := I.joinedBy_T) ?_ (ann := I.joinedBy_ann) Try.func73 rfl (by decide +kernel) ?_ ?_ ?_ ?_
  · intro p hp
    simp only [I.joinedBy_T, List.mem_cons, List.not_mem_nil, or_false] at hp
    rcases hp with rfl
    · exact I.with_ok
  · intro args h κ r hh
    simp only [I.joinedBy_s] at hh
    split at hh
    · exact (I.joinedBy_den _ _ _ κ).trans hh
    · cases hh
  · intro args h κ r hh
    simp only [I.joinedBy_s] at hh ⊢
    split at hh
    · exact optC_law2 (F := fun (r : List Int) κ => κ (.own 0) [.row (.ints .i64 r)]) (fun b κ r hb => ⟨_, _, hb, fun _ => rfl⟩) hh
    · cases hh
  · intro hh; cases hh
  · intro _ args h κ r hh
    simp only [I.joinedBy_s] at hh
    split at hh
    · rfl
    · cases hh

-- loop.example/guardsonnets/impl.leavesWith
class I.leavesWith_r_R where
  r : (List Int) → (List Int) → Int → Option (Int)
section
variable [c_ : I.leavesWith_r_R]
noncomputable def I.leavesWith_r0_t (net : List Int) (row : List Int) (missing : Int) : Option (Int) := I.leavesWith_r_R.r net row missing
noncomputable def I.leavesWith_r0_s : D.Spec where
  keep := false
  pure := true
  add := true
  ds := [.int .i64, .invalid, .invalid]
  sp := fun args h κ => match args, h with
    | [.ro false (.ints .i64 net), .recs false 2 row, .int .i64 missing], [] => optC (I.leavesWith_r0_t net row missing) (fun (r : Int) => κ (.int .i64 r) []) none
    | _, _ => none
end
section
variable [c_ : I.leavesWith_r_R]
noncomputable def I.leavesWith_r_T : List (Nat × D.Spec) := [(72, I.leavesIn_s), (58, I.leavesWith_r0_s), (73, I.joinedBy_s)]
def I.leavesWith_r_ann : Nat → List Nat × List Nat
  | _ => ([], [])
noncomputable def I.leavesWith_r_F (args : List V) (h : List E) (κ : V → List E → R) : R := funC TD (tableK I.leavesWith_r_T) I.leavesWith_r_ann (drawOk TD (tableP I.leavesWith_r_T)) FUEL Try.f58 args h κ
end
section
variable [c_ : I.leavesWith_r_R]
noncomputable def I.leavesWith_r_tree {α : Type} (net : List Int) (row : List Int) (missing : Int) (leaf0_ : Int → α) (fail_ : α) : α :=
  (bif missing == 0 then (optC (I.leavesIn_t net) (fun c_1 => (leaf0_ c_1)) fail_) else (bif decide ((↑(row.length / 2) : Int) < missing) then (leaf0_ (-1)) else (bif decide (1 ≤ (↑(row.length / 2) : Int)) && decide ((↑(row.length / 2) : Int) ≤ (↑(row.length / 2) : Int)) then (optC (I.leavesWith_r0_t net (List.take ((row.length / 2 - Int.toNat 1) * 2) (List.drop (Int.toNat 1 * 2) row)) missing) (fun c_2 => (bif decide (0 < (↑(row.length / 2) : Int)) then (optC (I.joinedBy_t net (eli row (Int.toNat 0 * 2 + 0)) (eli row (Int.toNat 0 * 2 + 1))) (fun c_3 => (bif decide (1 ≤ (↑(row.length / 2) : Int)) && decide ((↑(row.length / 2) : Int) ≤ (↑(row.length / 2) : Int)) then (optC (I.leavesWith_r0_t c_3 (List.take ((row.length / 2 - Int.toNat 1) * 2) (List.drop (Int.toNat 1 * 2) row)) (IntKind.i64.wrap (missing - 1))) (fun c_4 => (bif decide (c_4 > c_2) then (leaf0_ c_4) else (leaf0_ c_2))) fail_) else fail_)) fail_) else fail_)) fail_) else fail_)))
theorem I.leavesWith_r_tree_nat {α γ : Type} (g : α → γ) (net : List Int) (row : List Int) (missing : Int) (leaf0_ : Int → α) (fail_ : α) : g (I.leavesWith_r_tree net row missing leaf0_ fail_) = I.leavesWith_r_tree net row missing (fun d => g (leaf0_ d)) (g fail_) := by
  unfold I.leavesWith_r_tree; simp only [apply_cnd g, apply_optC g, apply_sumC g]
noncomputable def I.leavesWith_r_t (net : List Int) (row : List Int) (missing : Int) : Option (Int) := I.leavesWith_r_tree net row missing (fun d => some d) none
theorem I.leavesWith_r_den (net : List Int) (row : List Int) (missing : Int) (κ : V → List E → R) : I.leavesWith_r_F [.ro false (.ints .i64 net), .recs false 2 row, .int .i64 missing] [] κ = optC (I.leavesWith_r_t net row missing) (fun (r : Int) => κ (.int .i64 r) []) none := by
  have hu : I.leavesWith_r_F [.ro false (.ints .i64 net), .recs false 2 row, .int .i64 missing] [] κ = I.leavesWith_r_tree net row missing (fun d => κ (.int .i64 d) []) none := by
    kernel_rfl
  rw [hu]
  exact (I.leavesWith_r_tree_nat (fun o => optC o (fun (r : Int) => κ (.int .i64 r) []) none) net row missing (fun d => some d) none).symm
noncomputable def I.leavesWith_r_s : D.Spec where
  keep := false
  pure := true
  add := true
  ds := [.int .i64, .invalid, .invalid]
  sp := fun args h κ => match args, h with
    | [.ro false (.ints .i64 net), .recs false 2 row, .int .i64 missing], [] => optC (I.leavesWith_r_t net row missing) (fun (r : Int) => κ (.int .i64 r) []) none
    | _, _ => none
theorem I.leavesWith_r_ok (hrec_ : SpecOk Try.prog 58 I.leavesWith_r0_s) : SpecOk Try.prog 58 I.leavesWith_r_s := by
  refine SpecOk.of TDok mixed (T := I.leavesWith_r_T) ?_ (ann := I.leavesWith_r_ann) Try.func58 rfl (by decide +kernel) ?_ ?_ ?_ ?_
  · intro p hp
    simp only [I.leavesWith_r_T, List.mem_cons, List.not_mem_nil, or_false] at hp
    rcases hp with rfl | rfl | rfl
    · exact I.leavesIn_ok
    · exact hrec_
    · exact I.joinedBy_ok
  · intro args h κ r hh
    simp only [I.leavesWith_r_s] at hh
    split at hh
    · exact (I.leavesWith_r_den _ _ _ κ).trans hh
    · cases hh
  · intro args h κ r hh
    simp only [I.leavesWith_r_s] at hh ⊢
    split at hh
    · exact optC_law2 (F := fun (r : Int) κ => κ (.int .i64 r) []) (fun b κ r hb => ⟨_, _, hb, fun _ => rfl⟩) hh
    · cases hh
  · intro _ args h κ r hh
    simp only [I.leavesWith_r_s] at hh
    split at hh
    · exact ⟨rfl, fun _ => rfl⟩
    · cases hh
  · intro _ args h κ r hh
    simp only [I.leavesWith_r_s] at hh
    split at hh
    · rfl
    · cases hh
end
noncomputable def I.leavesWith_td : Nat → (List Int) → (List Int) → Int → Option (Int)
  | 0 => fun _ _ _ => none
  | d + 1 => @I.leavesWith_r_t ⟨I.leavesWith_td d⟩
noncomputable def I.leavesWith_t (net : List Int) (row : List Int) (missing : Int) : Option (Int) := I.leavesWith_td FUEL net row missing
noncomputable def I.leavesWith_s : D.Spec where
  keep := false
  pure := true
  add := true
  ds := [.int .i64, .invalid, .invalid]
  sp := fun args h κ => match args, h with
    | [.ro false (.ints .i64 net), .recs false 2 row, .int .i64 missing], [] => optC (I.leavesWith_t net row missing) (fun (r : Int) => κ (.int .i64 r) []) none
    | _, _ => none
theorem I.leavesWith_okd : ∀ d : Nat, SpecOk Try.prog 58 (@I.leavesWith_r0_s ⟨I.leavesWith_td d⟩)
  | 0 => SpecOk.zero Try.func58 rfl (by decide +kernel) (fun args h κ => by
      simp only [I.leavesWith_r0_s]
      split
      · rfl
      · rfl)
  | d + 1 => @I.leavesWith_r_ok ⟨I.leavesWith_td d⟩ (I.leavesWith_okd d)
theorem I.leavesWith_ok : SpecOk Try.prog 58 I.leavesWith_s := I.leavesWith_okd FUEL

-- loop.example/guardsonnets/impl.MostLeaves
noncomputable def I.MostLeaves_T : List (Nat × D.Spec) := [(35, I.PartMany_s), (59, I.wiresIn_s), (58, I.leavesWith_s)]
def I.MostLeaves_ann : Nat → List Nat × List Nat
  | _ => ([], [])
noncomputable def I.MostLeaves_F (args : List V) (h : List E) (κ : V → List E → R) : R := funC TD (tableK I.MostLeaves_T) I.MostLeaves_ann (drawOk TD (tableP I.MostLeaves_T)) FUEL Try.f33 args h κ
noncomputable def I.MostLeaves_tree {α : Type} (net : List Int) (leaf0_ : Int → α) (fail_ : α) : α :=
  (optC (I.PartMany_t net) (fun c_1 => (bif !c_1 == 1 then (leaf0_ (-1)) else (bif (↑net.length : Int) == 1 then (leaf0_ (-1)) else fail_))) fail_)
theorem I.MostLeaves_tree_nat {α γ : Type} (g : α → γ) (net : List Int) (leaf0_ : Int → α) (fail_ : α) : g (I.MostLeaves_tree net leaf0_ fail_) = I.MostLeaves_tree net (fun d => g (leaf0_ d)) (g fail_) := by
  unfold I.MostLeaves_tree; simp only [apply_cnd g, apply_optC g, apply_sumC g]
noncomputable def I.MostLeaves_t (net : List Int) : Option (Int) := I.MostLeaves_tree net (fun d => some d) none
theorem I.MostLeaves_den (net : List Int) (κ : V → List E → R) : I.MostLeaves_F [.ro false (.ints .i64 net)] [] κ = optC (I.MostLeaves_t net) (fun (r : Int) => κ (.int .i64 r) []) none := by
  have hu : I.MostLeaves_F [.ro false (.ints .i64 net)] [] κ = I.MostLeaves_tree net (fun d => κ (.int .i64 d) []) none := by
    kernel_rfl
  rw [hu]
  exact (I.MostLeaves_tree_nat (fun o => optC o (fun (r : Int) => κ (.int .i64 r) []) none) net (fun d => some d) none).symm
noncomputable def I.MostLeaves_s : D.Spec where
  keep := false
  pure := true
  add := true
  ds := [.int .i64]
  sp := fun args h κ => match args, h with
    | [.ro false (.ints .i64 net)], [] => optC (I.MostLeaves_t net) (fun (r : Int) => κ (.int .i64 r) []) none
    | _, _ => none
theorem I.MostLeaves_ok : SpecOk Try.prog 33 I.MostLeaves_s := by
  refine SpecOk.of TDok mixed (T := I.MostLeaves_T) ?_ (ann := I.MostLeaves_ann) Try.func33 rfl (by decide +kernel) ?_ ?_ ?_ ?_
  · intro p hp
    simp only [I.MostLeaves_T, List.mem_cons, List.not_mem_nil, or_false] at hp
    rcases hp with rfl | rfl | rfl
    · exact I.PartMany_ok
    · exact I.wiresIn_ok
    · exact I.leavesWith_ok
  · intro args h κ r hh
    simp only [I.MostLeaves_s] at hh
    split at hh
    · exact (I.MostLeaves_den _ κ).trans hh
    · cases hh
  · intro args h κ r hh
    simp only [I.MostLeaves_s] at hh ⊢
    split at hh
    · exact optC_law2 (F := fun (r : Int) κ => κ (.int .i64 r) []) (fun b κ r hb => ⟨_, _, hb, fun _ => rfl⟩) hh
    · cases hh
  · intro _ args h κ r hh
    simp only [I.MostLeaves_s] at hh
    split at hh
    · exact ⟨rfl, fun _ => rfl⟩
    · cases hh
  · intro _ args h κ r hh
    simp only [I.MostLeaves_s] at hh
    split at hh
    · rfl
    · cases hh

-- loop.example/guardsonnets/spec.l6Wires
noncomputable def S.l6Wires_T : List (Nat × D.Spec) := []
def S.l6Wires_ann : Nat → List Nat × List Nat
  | 6 => ([0, 3, 4, 5], [0, 3, 4])
  | 3 => ([0, 3, 4], [3])
  | _ => ([], [])
noncomputable def S.l6Wires_F (args : List V) (h : List E) (κ : V → List E → R) : R := funC TD (tableK S.l6Wires_T) S.l6Wires_ann (drawOk TD (tableP S.l6Wires_T)) FUEL Try.f60 args h κ
noncomputable def S.l6Wires_L6 (n : Nat) (σ : St) (k : X → St → R) : R := iterC 0 (fun σ k => denC TD (tableK S.l6Wires_T) S.l6Wires_ann (drawOk TD (tableP S.l6Wires_T)) 0 FUEL ((findLoop 6 (Try.f60.body.getD .skip)).getD .skip) σ k) [0, 3, 4, 5] [0, 3, 4] n σ k
noncomputable def S.l6Wires_L3 (n : Nat) (σ : St) (k : X → St → R) : R := iterC 0 (fun σ k => denC TD (tableK S.l6Wires_T) S.l6Wires_ann (drawOk TD (tableP S.l6Wires_T)) 0 FUEL ((findLoop 3 (Try.f60.body.getD .skip)).getD .skip) σ k) [0, 3, 4] [3] n σ k
noncomputable def S.l6Wires_k6 (c : (St → R) × (X → St → R)) : X → St → R := (afterC TD (tableK S.l6Wires_T) S.l6Wires_ann (drawOk TD (tableP S.l6Wires_T)) 0 FUEL 6 ((findLoop 3 (Try.f60.body.getD .skip)).getD .skip) (roundC 0 [0, 3, 4] [3] c.1 c.2)).getD (fun _ _ => none)
noncomputable def S.l6Wires_k3 (κ : V → List E → R) : X → St → R := (afterC TD (tableK S.l6Wires_T) S.l6Wires_ann (drawOk TD (tableP S.l6Wires_T)) 0 FUEL 3 (Try.f60.body.getD .skip) (finC TD 0 Try.f60 κ)).getD (fun _ _ => none)
noncomputable def S.l6Wires_step6 {α : Type} (x0 : List Int) (x4 : Int) (x5 : Int) (r0 : List (List Int)) (next_ : Int × (List (List Int)) → α) (out0_ : List (List Int) → α) (fail_ : α) : α :=
  (bif decide (x5 < (↑x0.length : Int)) then (bif decide (0 ≤ x4) && decide (x4 < (↑x0.length : Int)) then (bif decide (x5 < 0) then fail_ else (bif ((eli x0 x4.toNat).fdiv (2 ^ min x5.toNat IntKind.i64.bits)).tmod 2 == 1 then (bif small (r0 ++ [[x4, x5]]).length then (next_ (IntKind.i64.wrap (x5 + 1), r0 ++ [[x4, x5]])) else fail_) else (next_ (IntKind.i64.wrap (x5 + 1), r0)))) else fail_) else (out0_ r0))
theorem S.l6Wires_step6_nat {α γ : Type} (g : α → γ) (x0 : List Int) (x4 : Int) (x5 : Int) (r0 : List (List Int)) (next_ : Int × (List (List Int)) → α) (out0_ : List (List Int) → α) (fail_ : α) : g (S.l6Wires_step6 x0 x4 x5 r0 next_ out0_ fail_) = S.l6Wires_step6 x0 x4 x5 r0 (fun s => g (next_ s)) (fun d => g (out0_ d)) (g fail_) := by
  unfold S.l6Wires_step6; simp only [apply_cnd g, apply_optC g, apply_sumC g]
noncomputable def S.l6Wires_run6 (x0 : List Int) (x4 : Int) : Nat → Int × (List (List Int)) → Option (List (List Int))
  | 0, _ => none
  | n + 1, s_ => S.l6Wires_step6 x0 x4 s_.1 s_.2 (S.l6Wires_run6 x0 x4 n) (fun d => some d) none
theorem S.l6Wires_L6_run (x0 : List Int) (x4 : Int) (n : Nat) (s_ : Int × (List (List Int))) (k : X → St → R) : S.l6Wires_L6 n { n := 36, t := [(0, (.ro false (.ints .i64 x0))), (3, (.own 0)), (4, (.int .i64 x4)), (5, (.int .i64 s_.1))], h := [.row (.rows s_.2)] } k = optC (S.l6Wires_run6 x0 x4 n s_) (fun (r : List (List Int)) => k (.exit 2) { n := 36, t := [(0, (.ro false (.ints .i64 x0))), (3, (.own 0)), (4, (.int .i64 x4))], h := [.row (.rows r)] }) none := by
  induction n generalizing s_ with
  | zero => rfl
  | succ n ih =>
    have hu : S.l6Wires_L6 (n + 1) { n := 36, t := [(0, (.ro false (.ints .i64 x0))), (3, (.own 0)), (4, (.int .i64 x4)), (5, (.int .i64 s_.1))], h := [.row (.rows s_.2)] } k = S.l6Wires_step6 x0 x4 s_.1 s_.2 (fun s_ => S.l6Wires_L6 n { n := 36, t := [(0, (.ro false (.ints .i64 x0))), (3, (.own 0)), (4, (.int .i64 x4)), (5, (.int .i64 s_.1))], h := [.row (.rows s_.2)] } k) (fun d => k (.exit 2) { n := 36, t := [(0, (.ro false (.ints .i64 x0))), (3, (.own 0)), (4, (.int .i64 x4))], h := [.row (.rows d)] }) none := by
      kernel_rfl
    have hs : (fun s_ : Int × (List (List Int)) => S.l6Wires_L6 n { n := 36, t := [(0, (.ro false (.ints .i64 x0))), (3, (.own 0)), (4, (.int .i64 x4)), (5, (.int .i64 s_.1))], h := [.row (.rows s_.2)] } k) = fun s_ => optC (S.l6Wires_run6 x0 x4 n s_) (fun (r : List (List Int)) => k (.exit 2) { n := 36, t := [(0, (.ro false (.ints .i64 x0))), (3, (.own 0)), (4, (.int .i64 x4))], h := [.row (.rows r)] }) none := funext ih
    rw [hu, hs]
    exact (S.l6Wires_step6_nat (fun o => optC o (fun (r : List (List Int)) => k (.exit 2) { n := 36, t := [(0, (.ro false (.ints .i64 x0))), (3, (.own 0)), (4, (.int .i64 x4))], h := [.row (.rows r)] }) none) x0 x4 s_.1 s_.2 (S.l6Wires_run6 x0 x4 n) (fun d => some d) none).symm
noncomputable def S.l6Wires_step3 {α : Type} (x0 : List Int) (x4 : Int) (r0 : List (List Int)) (next_ : Int × (List (List Int)) → α) (out0_ : List (List Int) → α) (fail_ : α) : α :=
  (bif decide (x4 < (↑x0.length : Int)) then (optC (S.l6Wires_run6 x0 x4 FUEL (IntKind.i64.wrap (x4 + 1), r0)) (fun qy_1 => (next_ (IntKind.i64.wrap (x4 + 1), qy_1))) fail_) else (out0_ r0))
theorem S.l6Wires_step3_nat {α γ : Type} (g : α → γ) (x0 : List Int) (x4 : Int) (r0 : List (List Int)) (next_ : Int × (List (List Int)) → α) (out0_ : List (List Int) → α) (fail_ : α) : g (S.l6Wires_step3 x0 x4 r0 next_ out0_ fail_) = S.l6Wires_step3 x0 x4 r0 (fun s => g (next_ s)) (fun d => g (out0_ d)) (g fail_) := by
  unfold S.l6Wires_step3; simp only [apply_cnd g, apply_optC g, apply_sumC g]
noncomputable def S.l6Wires_run3 (x0 : List Int) : Nat → Int × (List (List Int)) → Option (List (List Int))
  | 0, _ => none
  | n + 1, s_ => S.l6Wires_step3 x0 s_.1 s_.2 (S.l6Wires_run3 x0 n) (fun d => some d) none
theorem S.l6Wires_L3_run (x0 : List Int) (n : Nat) (s_ : Int × (List (List Int))) (k : X → St → R) : S.l6Wires_L3 n { n := 36, t := [(0, (.ro false (.ints .i64 x0))), (3, (.own 0)), (4, (.int .i64 s_.1))], h := [.row (.rows s_.2)] } k = optC (S.l6Wires_run3 x0 n s_) (fun (r : List (List Int)) => k (.exit 0) { n := 36, t := [(3, (.own 0))], h := [.row (.rows r)] }) none := by
  induction n generalizing s_ with
  | zero => rfl
  | succ n ih =>
    have hu : S.l6Wires_L3 (n + 1) { n := 36, t := [(0, (.ro false (.ints .i64 x0))), (3, (.own 0)), (4, (.int .i64 s_.1))], h := [.row (.rows s_.2)] } k = S.l6Wires_step3 x0 s_.1 s_.2 (fun s_ => S.l6Wires_L3 n { n := 36, t := [(0, (.ro false (.ints .i64 x0))), (3, (.own 0)), (4, (.int .i64 s_.1))], h := [.row (.rows s_.2)] } k) (fun d => k (.exit 0) { n := 36, t := [(3, (.own 0))], h := [.row (.rows d)] }) none := by
      refine Eq.trans (show S.l6Wires_L3 (n + 1) { n := 36, t := [(0, (.ro false (.ints .i64 x0))), (3, (.own 0)), (4, (.int .i64 s_.1))], h := [.row (.rows s_.2)] } k = (bif decide (s_.1 < (↑x0.length : Int)) then (S.l6Wires_L6 FUEL { n := 36, t := [(0, (.ro false (.ints .i64 x0))), (3, (.own 0)), (4, (.int .i64 s_.1)), (5, (.int .i64 (IntKind.i64.wrap (s_.1 + 1))))], h := [.row (.rows s_.2)] } (S.l6Wires_k6 ((fun σ => S.l6Wires_L3 n σ k), k))) else (k (.exit 0) { n := 36, t := [(3, (.own 0))], h := [.row (.rows s_.2)] })) by kernel_rfl) ?_
      refine cnd_congr ?_ ?_
      · refine (S.l6Wires_L6_run x0 s_.1 FUEL (IntKind.i64.wrap (s_.1 + 1), s_.2) (S.l6Wires_k6 ((fun σ => S.l6Wires_L3 n σ k), k))).trans (optC_congr (fun qy_1 => ?_))
        kernel_rfl
      · kernel_rfl
    have hs : (fun s_ : Int × (List (List Int)) => S.l6Wires_L3 n { n := 36, t := [(0, (.ro false (.ints .i64 x0))), (3, (.own 0)), (4, (.int .i64 s_.1))], h := [.row (.rows s_.2)] } k) = fun s_ => optC (S.l6Wires_run3 x0 n s_) (fun (r : List (List Int)) => k (.exit 0) { n := 36, t := [(3, (.own 0))], h := [.row (.rows r)] }) none := funext ih
    rw [hu, hs]
    exact (S.l6Wires_step3_nat (fun o => optC o (fun (r : List (List Int)) => k (.exit 0) { n := 36, t := [(3, (.own 0))], h := [.row (.rows r)] }) none) x0 s_.1 s_.2 (S.l6Wires_run3 x0 n) (fun d => some d) none).symm
noncomputable def S.l6Wires_tree {α : Type} (net : List Int) (leaf0_ : List (List Int) → α) (fail_ : α) : α :=
  (optC (S.l6Wires_run3 net FUEL (0, [])) (fun qy_2 => (leaf0_ qy_2)) fail_)
theorem S.l6Wires_tree_nat {α γ : Type} (g : α → γ) (net : List Int) (leaf0_ : List (List Int) → α) (fail_ : α) : g (S.l6Wires_tree net leaf0_ fail_) = S.l6Wires_tree net (fun d => g (leaf0_ d)) (g fail_) := by
  unfold S.l6Wires_tree; simp only [apply_cnd g, apply_optC g, apply_sumC g]
noncomputable def S.l6Wires_t (net : List Int) : Option (List (List Int)) := S.l6Wires_tree net (fun d => some d) none
theorem S.l6Wires_den (net : List Int) (κ : V → List E → R) : S.l6Wires_F [.ro false (.ints .i64 net)] [] κ = optC (S.l6Wires_t net) (fun (r : List (List Int)) => κ (.own 0) [.row (.rows r)]) none := by
  have hu : S.l6Wires_F [.ro false (.ints .i64 net)] [] κ = S.l6Wires_tree net (fun d => κ (.own 0) [.row (.rows d)]) none := by
    refine Eq.trans (show S.l6Wires_F [.ro false (.ints .i64 net)] [] κ = (S.l6Wires_L3 FUEL { n := 36, t := [(0, (.ro false (.ints .i64 net))), (3, (.own 0)), (4, (.int .i64 0))], h := [.row (.rows ([]))] } (S.l6Wires_k3 κ)) by kernel_rfl) ?_
    refine (S.l6Wires_L3_run net FUEL (0, []) (S.l6Wires_k3 κ)).trans (optC_congr (fun qy_2 => ?_))
    kernel_rfl
  rw [hu]
  exact (S.l6Wires_tree_nat (fun o => optC o (fun (r : List (List Int)) => κ (.own 0) [.row (.rows r)]) none) net (fun d => some d) none).symm
noncomputable def S.l6Wires_s : D.Spec where
  keep := false
  pure := false
  add := true
  ds := [.int .i64]
  sp := fun args h κ => match args, h with
    | [.ro false (.ints .i64 net)], [] => optC (S.l6Wires_t net) (fun (r : List (List Int)) => κ (.own 0) [.row (.rows r)]) none
    | _, _ => none
theorem S.l6Wires_ok : SpecOk Try.prog 60 S.l6Wires_s := by
  refine SpecOk.of TDok mixed (T := S.l6Wires_T) ?_ (ann := S.l6Wires_ann) Try.func60 rfl (by decide +kernel) ?_ ?_ ?_ ?_
  · intro p hp; cases hp
  · intro args h κ r hh
    simp only [S.l6Wires_s] at hh
    split at hh
    · exact (S.l6Wires_den _ κ).trans hh
    · cases hh
  · intro args h κ r hh
    simp only [S.l6Wires_s] at hh ⊢
    split at hh
    · exact optC_law2 (F := fun (r : List (List Int)) κ => κ (.own 0) [.row (.rows r)]) (fun b κ r hb => ⟨_, _, hb, fun _ => rfl⟩) hh
    · cases hh
  · intro hh; cases hh
  · intro _ args h κ r hh
    simp only [S.l6Wires_s] at hh
    split at hh
    · rfl
    · cases hh

-- loop.example/guardsonnets/spec.l1Size
noncomputable def S.l1Size_T : List (Nat × D.Spec) := []
def S.l1Size_ann : Nat → List Nat × List Nat
  | 2 => ([0, 3], [3])
  | _ => ([], [])
noncomputable def S.l1Size_F (args : List V) (h : List E) (κ : V → List E → R) : R := funC TD (tableK S.l1Size_T) S.l1Size_ann (drawOk TD (tableP S.l1Size_T)) FUEL Try.f61 args h κ
noncomputable def S.l1Size_L2 (n : Nat) (σ : St) (k : X → St → R) : R := iterC 0 (fun σ k => denC TD (tableK S.l1Size_T) S.l1Size_ann (drawOk TD (tableP S.l1Size_T)) 0 FUEL ((findLoop 2 (Try.f61.body.getD .skip)).getD .skip) σ k) [0, 3] [3] n σ k
noncomputable def S.l1Size_k2 (κ : V → List E → R) : X → St → R := (afterC TD (tableK S.l1Size_T) S.l1Size_ann (drawOk TD (tableP S.l1Size_T)) 0 FUEL 2 (Try.f61.body.getD .skip) (finC TD 0 Try.f61 κ)).getD (fun _ _ => none)
noncomputable def S.l1Size_step2 {α : Type} (x0 : Int) (x3 : Int) (next_ : Int × Int → α) (out0_ : Int → α) (fail_ : α) : α :=
  (bif decide (x0 > 0) then (next_ (IntKind.i64.wrap (x0.tdiv 2), IntKind.i64.wrap (x3 + x0.tmod 2))) else (out0_ x3))
theorem S.l1Size_step2_nat {α γ : Type} (g : α → γ) (x0 : Int) (x3 : Int) (next_ : Int × Int → α) (out0_ : Int → α) (fail_ : α) : g (S.l1Size_step2 x0 x3 next_ out0_ fail_) = S.l1Size_step2 x0 x3 (fun s => g (next_ s)) (fun d => g (out0_ d)) (g fail_) := by
  unfold S.l1Size_step2; simp only [apply_cnd g, apply_optC g, apply_sumC g]
noncomputable def S.l1Size_run2 : Nat → Int × Int → Option (Int)
  | 0, _ => none
  | n + 1, s_ => S.l1Size_step2 s_.1 s_.2 (S.l1Size_run2 n) (fun d => some d) none
theorem S.l1Size_L2_run (n : Nat) (s_ : Int × Int) (k : X → St → R) : S.l1Size_L2 n { n := 13, t := [(0, (.int .i64 s_.1)), (3, (.int .i64 s_.2))], h := [] } k = optC (S.l1Size_run2 n s_) (fun (r : Int) => k (.exit 0) { n := 13, t := [(3, (.int .i64 r))], h := [] }) none := by
  induction n generalizing s_ with
  | zero => rfl
  | succ n ih =>
    have hu : S.l1Size_L2 (n + 1) { n := 13, t := [(0, (.int .i64 s_.1)), (3, (.int .i64 s_.2))], h := [] } k = S.l1Size_step2 s_.1 s_.2 (fun s_ => S.l1Size_L2 n { n := 13, t := [(0, (.int .i64 s_.1)), (3, (.int .i64 s_.2))], h := [] } k) (fun d => k (.exit 0) { n := 13, t := [(3, (.int .i64 d))], h := [] }) none := by
      kernel_rfl
    have hs : (fun s_ : Int × Int => S.l1Size_L2 n { n := 13, t := [(0, (.int .i64 s_.1)), (3, (.int .i64 s_.2))], h := [] } k) = fun s_ => optC (S.l1Size_run2 n s_) (fun (r : Int) => k (.exit 0) { n := 13, t := [(3, (.int .i64 r))], h := [] }) none := funext ih
    rw [hu, hs]
    exact (S.l1Size_step2_nat (fun o => optC o (fun (r : Int) => k (.exit 0) { n := 13, t := [(3, (.int .i64 r))], h := [] }) none) s_.1 s_.2 (S.l1Size_run2 n) (fun d => some d) none).symm
noncomputable def S.l1Size_tree {α : Type} (set_ : Int) (leaf0_ : Int → α) (fail_ : α) : α :=
  (optC (S.l1Size_run2 FUEL (set_, 0)) (fun qy_1 => (leaf0_ qy_1)) fail_)
theorem S.l1Size_tree_nat {α γ : Type} (g : α → γ) (set_ : Int) (leaf0_ : Int → α) (fail_ : α) : g (S.l1Size_tree set_ leaf0_ fail_) = S.l1Size_tree set_ (fun d => g (leaf0_ d)) (g fail_) := by
  unfold S.l1Size_tree; simp only [apply_cnd g, apply_optC g, apply_sumC g]
noncomputable def S.l1Size_t (set_ : Int) : Option (Int) := S.l1Size_tree set_ (fun d => some d) none
theorem S.l1Size_den (set_ : Int) (κ : V → List E → R) : S.l1Size_F [.int .i64 set_] [] κ = optC (S.l1Size_t set_) (fun (r : Int) => κ (.int .i64 r) []) none := by
  have hu : S.l1Size_F [.int .i64 set_] [] κ = S.l1Size_tree set_ (fun d => κ (.int .i64 d) []) none := by
    refine Eq.trans (show S.l1Size_F [.int .i64 set_] [] κ = (S.l1Size_L2 FUEL { n := 13, t := [(0, (.int .i64 set_)), (3, (.int .i64 0))], h := [] } (S.l1Size_k2 κ)) by kernel_rfl) ?_
    refine (S.l1Size_L2_run FUEL (set_, 0) (S.l1Size_k2 κ)).trans (optC_congr (fun qy_1 => ?_))
    kernel_rfl
  rw [hu]
  exact (S.l1Size_tree_nat (fun o => optC o (fun (r : Int) => κ (.int .i64 r) []) none) set_ (fun d => some d) none).symm
noncomputable def S.l1Size_s : D.Spec where
  keep := false
  pure := true
  add := true
  ds := [.invalid]
  sp := fun args h κ => match args, h with
    | [.int .i64 set_], [] => optC (S.l1Size_t set_) (fun (r : Int) => κ (.int .i64 r) []) none
    | _, _ => none
theorem S.l1Size_ok : SpecOk Try.prog 61 S.l1Size_s := by
  refine SpecOk.of TDok mixed (T := S.l1Size_T) ?_ (ann := S.l1Size_ann) Try.func61 rfl (by decide +kernel) ?_ ?_ ?_ ?_
  · intro p hp; cases hp
  · intro args h κ r hh
    simp only [S.l1Size_s] at hh
    split at hh
    · exact (S.l1Size_den _ κ).trans hh
    · cases hh
  · intro args h κ r hh
    simp only [S.l1Size_s] at hh ⊢
    split at hh
    · exact optC_law2 (F := fun (r : Int) κ => κ (.int .i64 r) []) (fun b κ r hb => ⟨_, _, hb, fun _ => rfl⟩) hh
    · cases hh
  · intro _ args h κ r hh
    simp only [S.l1Size_s] at hh
    split at hh
    · exact ⟨rfl, fun _ => rfl⟩
    · cases hh
  · intro _ args h κ r hh
    simp only [S.l1Size_s] at hh
    split at hh
    · rfl
    · cases hh


end Go.Proofs.Ytaidofcjijkbjaa
