/- Twins of the translated functions, with their proofs. Conditions: none. -/
import Derived.Test.YtojgnfejoeaehaaT2
set_option linter.unusedVariables false
set_option linter.unusedSimpArgs false
namespace Go.Proofs.Ytojgnfejoeaehaa
open D Go.RowKit
-- loop.example/guardsonnets/laws.FnExactFullApartOk
noncomputable def L.FnExactFullApartOk_T : List (Nat × D.Spec) := [(23, L.toIntS_s), (42, S.FullApartOk_s), (41, I.FullApartOk_s), (24, L.eqIntS_s)]
def L.FnExactFullApartOk_ann : Nat → List Nat × List Nat
  | _ => ([], [])
noncomputable def L.FnExactFullApartOk_F (args : List V) (h : List E) (κ : V → List E → R) : R := funC TD (tableK L.FnExactFullApartOk_T) L.FnExactFullApartOk_ann (drawOk (tableP L.FnExactFullApartOk_T)) FUEL Try.f14 args h κ
noncomputable def L.FnExactFullApartOk_tree {α : Type} (aNet : List Int) (aSet : Int) (leaf0_ : Bool → α) (fail_ : α) : α :=
  (bif decide ((↑aNet.length : Int) > 1048576) then (leaf0_ true) else (optC (L.toIntS_t aNet) (fun c_1 => (optC (S.FullApartOk_t c_1 aSet) (fun c_2 => (optC (L.toIntS_t aNet) (fun c_3 => (optC (I.FullApartOk_t c_3 aSet) (fun c_4 => (bif !c_4 == c_2 then (leaf0_ false) else (optC (L.toIntS_t aNet) (fun c_5 => (optC (L.eqIntS_t c_3 c_5) (fun c_6 => (bif !c_6 then (leaf0_ false) else (leaf0_ true))) fail_)) fail_))) fail_)) fail_)) fail_)) fail_))
theorem L.FnExactFullApartOk_tree_nat {α γ : Type} (g : α → γ) (aNet : List Int) (aSet : Int) (leaf0_ : Bool → α) (fail_ : α) : g (L.FnExactFullApartOk_tree aNet aSet leaf0_ fail_) = L.FnExactFullApartOk_tree aNet aSet (fun d => g (leaf0_ d)) (g fail_) := by
  unfold L.FnExactFullApartOk_tree; simp only [apply_cnd g, apply_optC g, apply_sumC g]
noncomputable def L.FnExactFullApartOk_t (aNet : List Int) (aSet : Int) : Option (Bool) := L.FnExactFullApartOk_tree aNet aSet (fun d => some d) none
theorem L.FnExactFullApartOk_den (aNet : List Int) (aSet : Int) (κ : V → List E → R) : L.FnExactFullApartOk_F [.ro true (.ints .i64 aNet), .int .i64 aSet] [] κ = optC (L.FnExactFullApartOk_t aNet aSet) (fun (r : Bool) => κ (.bool r) []) none := by
  have hu : L.FnExactFullApartOk_F [.ro true (.ints .i64 aNet), .int .i64 aSet] [] κ = L.FnExactFullApartOk_tree aNet aSet (fun d => κ (.bool d) []) none := by
    kernel_rfl
  rw [hu]
  exact (L.FnExactFullApartOk_tree_nat (fun o => optC o (fun (r : Bool) => κ (.bool r) []) none) aNet aSet (fun d => some d) none).symm
noncomputable def L.FnExactFullApartOk_s : D.Spec where
  keep := true
  pure := true
  ds := [.int .i64, .invalid]
  sp := fun args h κ => match args, h with
    | [.ro true (.ints .i64 aNet), .int .i64 aSet], [] => optC (L.FnExactFullApartOk_t aNet aSet) (fun (r : Bool) => κ (.bool r) []) none
    | _, _ => none
theorem L.FnExactFullApartOk_ok : SpecOk Try.prog 14 L.FnExactFullApartOk_s := by
  refine SpecOk.of TDok mixed (T := L.FnExactFullApartOk_T) ?_ (ann := L.FnExactFullApartOk_ann) Try.func14 rfl (by decide +kernel) ?_ ?_ ?_
  · intro p hp
    simp only [L.FnExactFullApartOk_T, List.mem_cons, List.not_mem_nil, or_false] at hp
    rcases hp with rfl | rfl | rfl | rfl
    · exact L.toIntS_ok
    · exact S.FullApartOk_ok
    · exact I.FullApartOk_ok
    · exact L.eqIntS_ok
  · intro args h κ r hh
    simp only [L.FnExactFullApartOk_s] at hh
    split at hh
    · exact (L.FnExactFullApartOk_den _ _ κ).trans hh
    · cases hh
  · intro args h κ r hh
    simp only [L.FnExactFullApartOk_s] at hh ⊢
    split at hh
    · exact optC_law2 (F := fun (r : Bool) κ => κ (.bool r) []) (fun b κ r hb => ⟨_, _, hb, fun _ => rfl⟩) hh
    · cases hh
  · intro _ args h κ r hh
    simp only [L.FnExactFullApartOk_s] at hh
    split at hh
    · exact ⟨rfl, fun _ => rfl⟩
    · cases hh

-- loop.example/guardsonnets/spec.DrawGrownApart
noncomputable def S.DrawGrownApart_T : List (Nat × D.Spec) := [(46, S.l20Open_s), (66, S.l20Apart_s)]
def S.DrawGrownApart_ann : Nat → List Nat × List Nat
  | _ => ([], [])
noncomputable def S.DrawGrownApart_F (args : List V) (h : List E) (κ : V → List E → R) : R := funC TD (tableK S.DrawGrownApart_T) S.DrawGrownApart_ann (drawOk (tableP S.DrawGrownApart_T)) FUEL Try.f43 args h κ
noncomputable def S.DrawGrownApart_tree {α : Type} (code : List Int) (leaf0_ : Int × (List Int) → α) (fail_ : α) : α :=
  (optC (S.l20Open_t code) (fun c_1 => (optC (S.l20Apart_t c_1.fst c_1.snd 12) (fun c_2 => (leaf0_ (c_2.fst, c_2.snd.snd.snd))) fail_)) fail_)
theorem S.DrawGrownApart_tree_nat {α γ : Type} (g : α → γ) (code : List Int) (leaf0_ : Int × (List Int) → α) (fail_ : α) : g (S.DrawGrownApart_tree code leaf0_ fail_) = S.DrawGrownApart_tree code (fun d => g (leaf0_ d)) (g fail_) := by
  unfold S.DrawGrownApart_tree; simp only [apply_cnd g, apply_optC g, apply_sumC g]
noncomputable def S.DrawGrownApart_t (code : List Int) : Option (Int × (List Int)) := S.DrawGrownApart_tree code (fun d => some d) none
theorem S.DrawGrownApart_den (code : List Int) (κ : V → List E → R) : S.DrawGrownApart_F [.ro true (.ints .u8 code)] [] κ = optC (S.DrawGrownApart_t code) (fun (r : Int × (List Int)) => κ (.tup [(.own 0), (.int .i64 r.1)]) [.row (.ints .i64 r.2)]) none := by
  have hu : S.DrawGrownApart_F [.ro true (.ints .u8 code)] [] κ = S.DrawGrownApart_tree code (fun d => κ (.tup [(.own 0), (.int .i64 d.1)]) [.row (.ints .i64 d.2)]) none := by
    kernel_rfl
  rw [hu]
  exact (S.DrawGrownApart_tree_nat (fun o => optC o (fun (r : Int × (List Int)) => κ (.tup [(.own 0), (.int .i64 r.1)]) [.row (.ints .i64 r.2)]) none) code (fun d => some d) none).symm
noncomputable def S.DrawGrownApart_s : D.Spec where
  keep := true
  pure := false
  ds := [.int .u8]
  sp := fun args h κ => match args, h with
    | [.ro true (.ints .u8 code)], [] => optC (S.DrawGrownApart_t code) (fun (r : Int × (List Int)) => κ (.tup [(.own 0), (.int .i64 r.1)]) [.row (.ints .i64 r.2)]) none
    | _, _ => none
theorem S.DrawGrownApart_ok : SpecOk Try.prog 43 S.DrawGrownApart_s := by
  refine SpecOk.of TDok mixed (T := S.DrawGrownApart_T) ?_ (ann := S.DrawGrownApart_ann) Try.func43 rfl (by decide +kernel) ?_ ?_ ?_
  · intro p hp
    simp only [S.DrawGrownApart_T, List.mem_cons, List.not_mem_nil, or_false] at hp
    rcases hp with rfl | rfl
    · exact S.l20Open_ok
    · exact S.l20Apart_ok
  · intro args h κ r hh
    simp only [S.DrawGrownApart_s] at hh
    split at hh
    · exact (S.DrawGrownApart_den _ κ).trans hh
    · cases hh
  · intro args h κ r hh
    simp only [S.DrawGrownApart_s] at hh ⊢
    split at hh
    · exact optC_law2 (F := fun (r : Int × (List Int)) κ => κ (.tup [(.own 0), (.int .i64 r.1)]) [.row (.ints .i64 r.2)]) (fun b κ r hb => ⟨_, _, hb, fun _ => rfl⟩) hh
    · cases hh
  · intro hh; cases hh

-- loop.example/guardsonnets/impl.GrownApart
noncomputable def I.GrownApart_T : List (Nat × D.Spec) := [(38, I.ApartOk_s), (70, I.with_s), (67, I.apartIn_s)]
def I.GrownApart_ann : Nat → List Nat × List Nat
  | 5 => ([0, 5, 6], [5])
  | _ => ([], [])
noncomputable def I.GrownApart_F (args : List V) (h : List E) (κ : V → List E → R) : R := funC TD (tableK I.GrownApart_T) I.GrownApart_ann (drawOk (tableP I.GrownApart_T)) FUEL Try.f44 args h κ
noncomputable def I.GrownApart_L5 (n : Nat) (σ : St) (k : X → St → R) : R := iterC 0 (fun σ k => denC TD (tableK I.GrownApart_T) I.GrownApart_ann (drawOk (tableP I.GrownApart_T)) 0 FUEL ((findLoop 5 (Try.f44.body.getD .skip)).getD .skip) σ k) [0, 5, 6] [5] n σ k
noncomputable def I.GrownApart_k5 (κ : V → List E → R) : X → St → R := (afterC TD (tableK I.GrownApart_T) I.GrownApart_ann (drawOk (tableP I.GrownApart_T)) 0 FUEL 5 (Try.f44.body.getD .skip) (finC 0 Try.f44 κ)).getD (fun _ _ => none)
noncomputable def I.GrownApart_step5 {α : Type} (x0 : List Int) (x5 : Int) (x6 : Int) (next_ : Int × Int → α) (out0_ : Int → α) (fail_ : α) : α :=
  (bif decide (x6 < (↑x0.length : Int)) then (optC (I.with_t x5 x6) (fun c_2 => (optC (I.apartIn_t x0 c_2) (fun c_3 => (bif c_3 then (optC (I.with_t x5 x6) (fun c_4 => (next_ (c_4, IntKind.i64.wrap (x6 + 1)))) fail_) else (next_ (x5, IntKind.i64.wrap (x6 + 1))))) fail_)) fail_) else (out0_ x5))
theorem I.GrownApart_step5_nat {α γ : Type} (g : α → γ) (x0 : List Int) (x5 : Int) (x6 : Int) (next_ : Int × Int → α) (out0_ : Int → α) (fail_ : α) : g (I.GrownApart_step5 x0 x5 x6 next_ out0_ fail_) = I.GrownApart_step5 x0 x5 x6 (fun s => g (next_ s)) (fun d => g (out0_ d)) (g fail_) := by
  unfold I.GrownApart_step5; simp only [apply_cnd g, apply_optC g, apply_sumC g]
noncomputable def I.GrownApart_run5 (x0 : List Int) : Nat → Int × Int → Option (Int)
  | 0, _ => none
  | n + 1, s_ => I.GrownApart_step5 x0 s_.1 s_.2 (I.GrownApart_run5 x0 n) (fun d => some d) none
theorem I.GrownApart_L5_run (x0 : List Int) (n : Nat) (s_ : Int × Int) (k : X → St → R) : I.GrownApart_L5 n { n := 27, t := [(0, (.ro false (.ints .i64 x0))), (5, (.int .i64 s_.1)), (6, (.int .i64 s_.2))], h := [] } k = optC (I.GrownApart_run5 x0 n s_) (fun (r : Int) => k (.exit 0) { n := 27, t := [(5, (.int .i64 r))], h := [] }) none := by
  induction n generalizing s_ with
  | zero => rfl
  | succ n ih =>
    have hu : I.GrownApart_L5 (n + 1) { n := 27, t := [(0, (.ro false (.ints .i64 x0))), (5, (.int .i64 s_.1)), (6, (.int .i64 s_.2))], h := [] } k = I.GrownApart_step5 x0 s_.1 s_.2 (fun s_ => I.GrownApart_L5 n { n := 27, t := [(0, (.ro false (.ints .i64 x0))), (5, (.int .i64 s_.1)), (6, (.int .i64 s_.2))], h := [] } k) (fun d => k (.exit 0) { n := 27, t := [(5, (.int .i64 d))], h := [] }) none := by
      kernel_rfl
    have hs : (fun s_ : Int × Int => I.GrownApart_L5 n { n := 27, t := [(0, (.ro false (.ints .i64 x0))), (5, (.int .i64 s_.1)), (6, (.int .i64 s_.2))], h := [] } k) = fun s_ => optC (I.GrownApart_run5 x0 n s_) (fun (r : Int) => k (.exit 0) { n := 27, t := [(5, (.int .i64 r))], h := [] }) none := funext ih
    rw [hu, hs]
    exact (I.GrownApart_step5_nat (fun o => optC o (fun (r : Int) => k (.exit 0) { n := 27, t := [(5, (.int .i64 r))], h := [] }) none) x0 s_.1 s_.2 (I.GrownApart_run5 x0 n) (fun d => some d) none).symm
noncomputable def I.GrownApart_tree {α : Type} (net : List Int) (set_ : Int) (leaf0_ : Int → α) (fail_ : α) : α :=
  (optC (I.ApartOk_t net set_) (fun c_1 => (bif !c_1 then (leaf0_ (-1)) else (optC (I.GrownApart_run5 net FUEL (set_, 0)) (fun qy_5 => (leaf0_ qy_5)) fail_))) fail_)
theorem I.GrownApart_tree_nat {α γ : Type} (g : α → γ) (net : List Int) (set_ : Int) (leaf0_ : Int → α) (fail_ : α) : g (I.GrownApart_tree net set_ leaf0_ fail_) = I.GrownApart_tree net set_ (fun d => g (leaf0_ d)) (g fail_) := by
  unfold I.GrownApart_tree; simp only [apply_cnd g, apply_optC g, apply_sumC g]
noncomputable def I.GrownApart_t (net : List Int) (set_ : Int) : Option (Int) := I.GrownApart_tree net set_ (fun d => some d) none
theorem I.GrownApart_den (net : List Int) (set_ : Int) (κ : V → List E → R) : I.GrownApart_F [.ro false (.ints .i64 net), .int .i64 set_] [] κ = optC (I.GrownApart_t net set_) (fun (r : Int) => κ (.int .i64 r) []) none := by
  have hu : I.GrownApart_F [.ro false (.ints .i64 net), .int .i64 set_] [] κ = I.GrownApart_tree net set_ (fun d => κ (.int .i64 d) []) none := by
    refine Eq.trans (show I.GrownApart_F [.ro false (.ints .i64 net), .int .i64 set_] [] κ = (optC (I.ApartOk_t net set_) (fun c_1 => (bif !c_1 then (κ (.int .i64 (-1)) []) else (I.GrownApart_L5 FUEL { n := 27, t := [(0, (.ro false (.ints .i64 net))), (5, (.int .i64 set_)), (6, (.int .i64 0))], h := [] } (I.GrownApart_k5 κ)))) none) by kernel_rfl) ?_
    refine optC_congr (fun c_1 => ?_)
    refine cnd_congr ?_ ?_
    · kernel_rfl
    · refine (I.GrownApart_L5_run net FUEL (set_, 0) (I.GrownApart_k5 κ)).trans (optC_congr (fun qy_5 => ?_))
      kernel_rfl
  rw [hu]
  exact (I.GrownApart_tree_nat (fun o => optC o (fun (r : Int) => κ (.int .i64 r) []) none) net set_ (fun d => some d) none).symm
noncomputable def I.GrownApart_s : D.Spec where
  keep := false
  pure := true
  ds := [.int .i64, .invalid]
  sp := fun args h κ => match args, h with
    | [.ro false (.ints .i64 net), .int .i64 set_], [] => optC (I.GrownApart_t net set_) (fun (r : Int) => κ (.int .i64 r) []) none
    | _, _ => none
theorem I.GrownApart_ok : SpecOk Try.prog 44 I.GrownApart_s := by
  refine SpecOk.of TDok mixed (T := I.GrownApart_T) ?_ (ann := I.GrownApart_ann) Try.func44 rfl (by decide +kernel) ?_ ?_ ?_
  · intro p hp
    simp only [I.GrownApart_T, List.mem_cons, List.not_mem_nil, or_false] at hp
    rcases hp with rfl | rfl | rfl
    · exact I.ApartOk_ok
    · exact I.with_ok
    · exact I.apartIn_ok
  · intro args h κ r hh
    simp only [I.GrownApart_s] at hh
    split at hh
    · exact (I.GrownApart_den _ _ κ).trans hh
    · cases hh
  · intro args h κ r hh
    simp only [I.GrownApart_s] at hh ⊢
    split at hh
    · exact optC_law2 (F := fun (r : Int) κ => κ (.int .i64 r) []) (fun b κ r hb => ⟨_, _, hb, fun _ => rfl⟩) hh
    · cases hh
  · intro _ args h κ r hh
    simp only [I.GrownApart_s] at hh
    split at hh
    · exact ⟨rfl, fun _ => rfl⟩
    · cases hh

-- loop.example/guardsonnets/laws.FnGrownApart
noncomputable def L.FnGrownApart_T : List (Nat × D.Spec) := [(43, S.DrawGrownApart_s), (44, I.GrownApart_s), (45, S.GrownApart_s), (38, I.ApartOk_s), (20, L.alive_s), (41, I.FullApartOk_s)]
def L.FnGrownApart_ann : Nat → List Nat × List Nat
  | _ => ([], [])
noncomputable def L.FnGrownApart_F (args : List V) (h : List E) (κ : V → List E → R) : R := funC TD (tableK L.FnGrownApart_T) L.FnGrownApart_ann (drawOk (tableP L.FnGrownApart_T)) FUEL Try.f15 args h κ
noncomputable def L.FnGrownApart_tree {α : Type} (code : List Int) (leaf0_ : Bool → α) (fail_ : α) : α :=
  (bif decide ((↑code.length : Int) > 1048576) then (leaf0_ true) else (optC (S.DrawGrownApart_t code) (fun c_1 => (optC (I.GrownApart_t c_1.snd c_1.fst) (fun c_2 => (optC (S.GrownApart_t c_1.snd c_1.fst) (fun c_3 => (bif !c_2 == c_3 then (leaf0_ false) else (bif decide (c_2 < 0) then (bif c_2 == -1 then (optC (I.ApartOk_t c_1.snd c_1.fst) (fun c_4 => (bif !c_4 then (optC (L.alive_t) (fun c_5 => (leaf0_ c_5)) fail_) else (leaf0_ false))) fail_) else (leaf0_ false)) else (optC (I.FullApartOk_t c_1.snd c_2) (fun c_6 => (bif c_6 then (bif bits BinOp.andNot IntKind.i64 c_1.fst c_2 == 0 then (optC (I.GrownApart_t c_1.snd c_2) (fun c_7 => (leaf0_ (c_7 == c_2))) fail_) else (leaf0_ false)) else (leaf0_ false))) fail_)))) fail_)) fail_)) fail_))
theorem L.FnGrownApart_tree_nat {α γ : Type} (g : α → γ) (code : List Int) (leaf0_ : Bool → α) (fail_ : α) : g (L.FnGrownApart_tree code leaf0_ fail_) = L.FnGrownApart_tree code (fun d => g (leaf0_ d)) (g fail_) := by
  unfold L.FnGrownApart_tree; simp only [apply_cnd g, apply_optC g, apply_sumC g]
noncomputable def L.FnGrownApart_t (code : List Int) : Option (Bool) := L.FnGrownApart_tree code (fun d => some d) none
theorem L.FnGrownApart_den (code : List Int) (κ : V → List E → R) : L.FnGrownApart_F [.ro true (.ints .u8 code)] [] κ = optC (L.FnGrownApart_t code) (fun (r : Bool) => κ (.bool r) []) none := by
  have hu : L.FnGrownApart_F [.ro true (.ints .u8 code)] [] κ = L.FnGrownApart_tree code (fun d => κ (.bool d) []) none := by
    kernel_rfl
  rw [hu]
  exact (L.FnGrownApart_tree_nat (fun o => optC o (fun (r : Bool) => κ (.bool r) []) none) code (fun d => some d) none).symm
noncomputable def L.FnGrownApart_s : D.Spec where
  keep := true
  pure := true
  ds := [.int .u8]
  sp := fun args h κ => match args, h with
    | [.ro true (.ints .u8 code)], [] => optC (L.FnGrownApart_t code) (fun (r : Bool) => κ (.bool r) []) none
    | _, _ => none
theorem L.FnGrownApart_ok : SpecOk Try.prog 15 L.FnGrownApart_s := by
  refine SpecOk.of TDok mixed (T := L.FnGrownApart_T) ?_ (ann := L.FnGrownApart_ann) Try.func15 rfl (by decide +kernel) ?_ ?_ ?_
  · intro p hp
    simp only [L.FnGrownApart_T, List.mem_cons, List.not_mem_nil, or_false] at hp
    rcases hp with rfl | rfl | rfl | rfl | rfl | rfl
    · exact S.DrawGrownApart_ok
    · exact I.GrownApart_ok
    · exact S.GrownApart_ok
    · exact I.ApartOk_ok
    · exact L.alive_ok
    · exact I.FullApartOk_ok
  · intro args h κ r hh
    simp only [L.FnGrownApart_s] at hh
    split at hh
    · exact (L.FnGrownApart_den _ κ).trans hh
    · cases hh
  · intro args h κ r hh
    simp only [L.FnGrownApart_s] at hh ⊢
    split at hh
    · exact optC_law2 (F := fun (r : Bool) κ => κ (.bool r) []) (fun b κ r hb => ⟨_, _, hb, fun _ => rfl⟩) hh
    · cases hh
  · intro _ args h κ r hh
    simp only [L.FnGrownApart_s] at hh
    split at hh
    · exact ⟨rfl, fun _ => rfl⟩
    · cases hh

-- loop.example/guardsonnets/laws.FnExactGrownApart
noncomputable def L.FnExactGrownApart_T : List (Nat × D.Spec) := [(23, L.toIntS_s), (45, S.GrownApart_s), (44, I.GrownApart_s), (24, L.eqIntS_s)]
def L.FnExactGrownApart_ann : Nat → List Nat × List Nat
  | _ => ([], [])
noncomputable def L.FnExactGrownApart_F (args : List V) (h : List E) (κ : V → List E → R) : R := funC TD (tableK L.FnExactGrownApart_T) L.FnExactGrownApart_ann (drawOk (tableP L.FnExactGrownApart_T)) FUEL Try.f16 args h κ
noncomputable def L.FnExactGrownApart_tree {α : Type} (aNet : List Int) (aSet : Int) (leaf0_ : Bool → α) (fail_ : α) : α :=
  (bif decide ((↑aNet.length : Int) > 1048576) then (leaf0_ true) else (optC (L.toIntS_t aNet) (fun c_1 => (optC (S.GrownApart_t c_1 aSet) (fun c_2 => (optC (L.toIntS_t aNet) (fun c_3 => (optC (I.GrownApart_t c_3 aSet) (fun c_4 => (bif !c_4 == c_2 then (leaf0_ false) else (optC (L.toIntS_t aNet) (fun c_5 => (optC (L.eqIntS_t c_3 c_5) (fun c_6 => (bif !c_6 then (leaf0_ false) else (leaf0_ true))) fail_)) fail_))) fail_)) fail_)) fail_)) fail_))
theorem L.FnExactGrownApart_tree_nat {α γ : Type} (g : α → γ) (aNet : List Int) (aSet : Int) (leaf0_ : Bool → α) (fail_ : α) : g (L.FnExactGrownApart_tree aNet aSet leaf0_ fail_) = L.FnExactGrownApart_tree aNet aSet (fun d => g (leaf0_ d)) (g fail_) := by
  unfold L.FnExactGrownApart_tree; simp only [apply_cnd g, apply_optC g, apply_sumC g]
noncomputable def L.FnExactGrownApart_t (aNet : List Int) (aSet : Int) : Option (Bool) := L.FnExactGrownApart_tree aNet aSet (fun d => some d) none
theorem L.FnExactGrownApart_den (aNet : List Int) (aSet : Int) (κ : V → List E → R) : L.FnExactGrownApart_F [.ro true (.ints .i64 aNet), .int .i64 aSet] [] κ = optC (L.FnExactGrownApart_t aNet aSet) (fun (r : Bool) => κ (.bool r) []) none := by
  have hu : L.FnExactGrownApart_F [.ro true (.ints .i64 aNet), .int .i64 aSet] [] κ = L.FnExactGrownApart_tree aNet aSet (fun d => κ (.bool d) []) none := by
    kernel_rfl
  rw [hu]
  exact (L.FnExactGrownApart_tree_nat (fun o => optC o (fun (r : Bool) => κ (.bool r) []) none) aNet aSet (fun d => some d) none).symm
noncomputable def L.FnExactGrownApart_s : D.Spec where
  keep := true
  pure := true
  ds := [.int .i64, .invalid]
  sp := fun args h κ => match args, h with
    | [.ro true (.ints .i64 aNet), .int .i64 aSet], [] => optC (L.FnExactGrownApart_t aNet aSet) (fun (r : Bool) => κ (.bool r) []) none
    | _, _ => none
theorem L.FnExactGrownApart_ok : SpecOk Try.prog 16 L.FnExactGrownApart_s := by
  refine SpecOk.of TDok mixed (T := L.FnExactGrownApart_T) ?_ (ann := L.FnExactGrownApart_ann) Try.func16 rfl (by decide +kernel) ?_ ?_ ?_
  · intro p hp
    simp only [L.FnExactGrownApart_T, List.mem_cons, List.not_mem_nil, or_false] at hp
    rcases hp with rfl | rfl | rfl | rfl
    · exact L.toIntS_ok
    · exact S.GrownApart_ok
    · exact I.GrownApart_ok
    · exact L.eqIntS_ok
  · intro args h κ r hh
    simp only [L.FnExactGrownApart_s] at hh
    split at hh
    · exact (L.FnExactGrownApart_den _ _ κ).trans hh
    · cases hh
  · intro args h κ r hh
    simp only [L.FnExactGrownApart_s] at hh ⊢
    split at hh
    · exact optC_law2 (F := fun (r : Bool) κ => κ (.bool r) []) (fun b κ r hb => ⟨_, _, hb, fun _ => rfl⟩) hh
    · cases hh
  · intro _ args h κ r hh
    simp only [L.FnExactGrownApart_s] at hh
    split at hh
    · exact ⟨rfl, fun _ => rfl⟩
    · cases hh


end Go.Proofs.Ytojgnfejoeaehaa
