/- Several texts in one: S13, Dr9, Dr12, Tree, Shift, Dr3, S6, Pm, I3, I6, I5, J7, S8b, J8, S9b, J9, Kuhn, Jm, J10, J13, J12, Ch11b, Ch11c, S11, I11, L2, L3, I12, L4, L5, Set, L13, Ex12. Conditions: those of each theorem. -/
import Derived.Test.YtleianhibhpgpaaBzb0
/- The model's functions of chapter 13 in natural numbers: cliques and the other net. Conditions: those of each theorem. -/
namespace Go.Proofs.Ytleianhibhpgpaa
open D Go.RowKit
set_option linter.unusedVariables false
set_option linter.unusedSimpArgs false


def cliqueB (net : List Int) (s : Nat) : Bool := (List.range net.length).all fun k => !(s.testBit k && (minus s (ball net k) != 0))
theorem cliqueB_iff {net : List Int} (h : Ok net) {s : Nat} (hs : s < 2 ^ net.length) : cliqueB net s = true ↔ Clique net s := by
  have h64 := h.pow
  unfold cliqueB Clique
  rw [List.all_eq_true]
  constructor
  · intro ha i j hi hj hne
    have := ha i (List.mem_range.2 (in_lt hs hi))
    rw [hi, Bool.true_and, Bool.not_eq_true', bne_eq_false_iff_eq] at this
    have hb := h.ball_lt (in_lt hs hi)
    have h0 : (minus s (ball net i)).testBit j = false := by rw [this]; simp
    rw [minus_testBit _ _ (by omega) (by omega), hj, Bool.true_and, Bool.not_eq_false', ball_testBit] at h0
    rcases h0 with h0 | h0
    · exact h0
    · exact absurd h0 hne
  · intro hc k hk
    have hk := List.mem_range.1 hk
    have hb := h.ball_lt hk
    cases hsk : s.testBit k with
    | false => rfl
    | true =>
      have : minus s (ball net k) = 0 := Nat.eq_of_testBit_eq fun j => by
        rw [minus_testBit _ _ (by omega) (by omega), Nat.zero_testBit]
        cases hj : s.testBit j with
        | false => rfl
        | true =>
          rw [Bool.true_and, Bool.not_eq_false', ball_testBit]
          by_cases he : k = j
          · exact .inr he
          · exact .inl (hc k j hsk hj he)
      rw [this]; rfl
theorem S.l13Clique_n {net : List Int} (h : Ok net) {s : Nat} (hs : s < 2 ^ net.length) : S.l13Clique_t net (s : Int) = some (cliqueB net s) := by
  unfold S.l13Clique_t S.l13Clique_tree
  have h6 := h.hi
  have h64 := h.pow
  rw [run_search (run := S.l13Clique_run2 net s) (len := net.length) (fun k => if (s.testBit k && (minus s (ball net k) != 0)) = true then some false else none) () (by omega) (fun n k hk => ?_) (fun n => ?_), find_test (p := fun k => s.testBit k && (minus s (ball net k) != 0))]
  · unfold cliqueB
    cases (List.range net.length).all fun k => !(s.testBit k && (minus s (ball net k) != 0)) <;> rfl
  · have hnb := h.lt64 hk
    have h2 : 2 ^ k < 2 ^ 6 := Nat.pow_lt_pow_right (by omega) (by omega)
    have hbl := h.ball_lt hk
    simp only [S.l13Clique_run2, S.l13Clique_step2]
    rw [cnd_t (by simp; omega), cnd_f (by simp), bit_shr _ _ (by omega), bool_eq1, add1_nat (by omega)]
    cases hb : s.testBit k with
    | false => rfl
    | true =>
      have hpos : decide (((minus s (ball net k) : Nat) : Int) > 0) = (minus s (ball net k) != 0) := by rw [Bool.eq_iff_iff, decide_eq_true_eq, bne_iff_ne]; omega
      rw [cond_true, cnd_t (by simp; omega), cnd_f (by simp), one_shl (by omega), Int.toNat_natCast, h.eli hk, i64_or_nat _ _ (by omega) (by omega), show nb net k ||| 2 ^ k = ball net k from rfl, i64_andNot_nat _ _ (by omega) (by omega), hpos]
      cases minus s (ball net k) != 0 <;> rfl
  · simp only [S.l13Clique_run2, S.l13Clique_step2]
    rw [cnd_f (by simp)]
theorem S.l13Set_n {r : List Nat} (hr : r.length ≤ 7) (v : Nat) : S.l13Set_t (nl r) (v : Int) = some ((setL r v : Nat) : Int) := by
  unfold S.l13Set_t S.l13Set_tree
  have hl := nl_len r
  have h7 : (2 : Nat) ^ r.length ≤ 2 ^ 7 := Nat.pow_le_pow_right (by omega) hr
  have := (run_for (run := S.l13Set_run3 (nl r) v) (len := r.length) (fun k (t : Nat) => ((t : Int), (k : Int))) (fun t k => if decide (r.getD k 0 = v) = true then t ||| 2 ^ k else t) (fun t => (t : Int)) (fun k t => t < 2 ^ r.length) (by omega) (fun f k t hk ht => ?_) (fun f t ht => ?_) (t0 := 0) (Nat.two_pow_pos _)).1
  · exact congrArg (fun o => optC o (fun q => some q) none) this
  · have hpk : 2 ^ k < 2 ^ r.length := Nat.pow_lt_pow_right (by omega) hk
    simp only [S.l13Set_run3, S.l13Set_step3]
    rw [cnd_t (by simp; omega), cnd_t (by simp; omega), Int.toNat_natCast, nl_at hk, nat_beq, add1_nat (by omega)]
    by_cases hv : r.getD k 0 = v
    · rw [cnd_t (by simpa using hv), cnd_f (by simp), if_pos (by simpa using hv), show IntKind.i64.wrap (1 * 2 ^ min k IntKind.i64.bits) = ((2 ^ k : Nat) : Int) from one_shl (k := k) (by omega), i64_or_nat _ _ (by omega) (by omega)]
      exact ⟨rfl, Nat.or_lt_two_pow ht hpk⟩
    · rw [cnd_f (by simpa using hv), if_neg (by simpa using hv)]; exact ⟨rfl, ht⟩
  · simp only [S.l13Set_run3, S.l13Set_step3]
    rw [cnd_f (by simp; omega)]
/-- Does a list of numbers begin with a row that counts up? -/
def rgStep (row : List Int) (t k : Nat) : Unit ⊕ Nat := if 0 ≤ D.eli row k ∧ D.eli row k ≤ t then .inr (max t ((D.eli row k).toNat + 1)) else .inl ()
noncomputable def crB (net row : List Int) : Bool := @decide (∃ q : List Nat, row = nl q ∧ q.length = net.length ∧ RG q ∧ CliqueL net q) (Classical.propDecidable _)
/-- The row that a call hands back. -/
def outOf : (List Int) ⊕ ((List Int) × (List Int)) → List Int
  | .inl r => r
  | .inr p => p.2
def rowO : Option (List Nat) → List Int
  | none => []
  | some q => nl q
def findStep {Q : Type} (g : Nat → Option Q) (_ : Unit) (v : Nat) : Q ⊕ Unit := match g v with | some q => .inl q | none => .inr ()
theorem loopE_find {Q : Type} (g : Nat → Option Q) : ∀ b, (∃ q, find b g = some q ∧ loopE b (findStep g) () = .inl q) ∨ (find b g = none ∧ loopE b (findStep g) () = .inr ()) := by
  intro b
  induction b with
  | zero => exact .inr ⟨rfl, rfl⟩
  | succ b ih =>
    rcases ih with ⟨q, a1, a2⟩ | ⟨a1, a2⟩
    · refine .inl ⟨q, by rw [find_succ, a1]; rfl, ?_⟩
      unfold loopE at a2 ⊢; rw [fold_succ, a2]
    · rw [find_succ, a1, loopE_succ a2]
      unfold findStep
      cases g b with
      | some q => exact .inl ⟨q, rfl, rfl⟩
      | none => exact .inr ⟨rfl, rfl⟩
theorem l13Next_n [r_ : S.l13Grow_r_R] {net : List Int} {m : Nat} {r : List Nat} (hr : r.length ≤ 6) (hr2 : ∀ k, k < r.length → r.getD k 0 < 100) : S.l13Grow_r_run5 net (m : Int) FUEL (0, 0, nl r) = some (((nx r : Nat) : Int), nl r) := by
  have hl := nl_len r
  have := (run_for (run := S.l13Grow_r_run5 net (m : Int)) (len := r.length) (fun k (t : Nat) => ((t : Int), (k : Int), nl r)) (fun t k => max t (r.getD k 0 + 1)) (fun t => ((t : Int), nl r)) (fun k t => True) (by omega) (fun f k t hk ht => ?_) (fun f t ht => ?_) (t0 := 0) trivial).1
  · have e : fold r.length (fun t k => max t (r.getD k 0 + 1)) 0 = nx r := by
      have key : ∀ k, k ≤ r.length → fold k (fun t k => max t (r.getD k 0 + 1)) 0 = nx (r.take k) := by
        intro k
        induction k with
        | zero => intro _; simp [nx, fold_zero]
        | succ k ih => intro hk; rw [fold_succ, ih (by omega), nx_take_succ (by omega)]
      have := key r.length (Nat.le_refl _)
      rwa [List.take_length] at this
    rw [e] at this
    exact this
  · simp only [S.l13Grow_r_run5, S.l13Grow_r_step5]
    rw [cnd_t (by simp; omega), cnd_t (by simp; omega), cnd_t (by simp; omega), Int.toNat_natCast, nl_at hk, add1_nat (a := k) (by omega)]
    have hv : r.getD k 0 < 100 := hr2 k hk
    rw [add1_nat (by omega)]
    refine ⟨?_, trivial⟩
    congr 3
    by_cases hm : r.getD k 0 + 1 > t
    · rw [if_pos (by omega), Nat.max_eq_right (by omega)]
    · rw [if_neg (by omega), Nat.max_eq_left (by omega)]
  · simp only [S.l13Grow_r_run5, S.l13Grow_r_step5]
    rw [cnd_f (by simp; omega)]
theorem getD_lt_nx {r : List Nat} {k : Nat} (hk : k < r.length) : r.getD k 0 < nx r := by
  have e : r.getD k 0 = r[k] := by simp [List.getD, hk]
  rw [e]; exact nx_gt (List.getElem_mem hk)
theorem rowO_len {net : List Int} {m : Nat} {r : List Nat} {q : Option (List Nat)} (h0 : 1 ≤ net.length) (hq : FirstExt (CRow net m) r q) : decide (((rowO q).length : Int) > 0) = q.isSome := by
  cases q with
  | none => rfl
  | some q =>
    have := hq.mem.2.len
    simp only [rowO, nl_len, Option.isSome_some, decide_eq_true_eq]
    omega
theorem S.l13Grow_step [c : S.l13Grow_r_R] {net : List Int} (h : Ok net) {m : Nat} (hm : m ≤ 6) {r : List Nat} (hr : RG r) (hlen : r.length ≤ net.length) (hn : nx r ≤ m) (hc : CliqueL net r)
    (hrec : ∀ v, r.length < net.length → v ≤ nx r → v < m → Clique net (setL (r ++ [v]) v) → ∃ o q, S.l13Grow_r0_t net (nl (r ++ [v])) (m : Int) = some o ∧ outOf o = rowO q ∧ FirstExt (CRow net m) (r ++ [v]) q) :
    ∃ o q, S.l13Grow_r_t net (nl r) (m : Int) = some o ∧ outOf o = rowO q ∧ FirstExt (CRow net m) r q := by
  have h6 := h.hi
  have h1 := h.lo
  have hll := nl_len r
  by_cases hl : r.length = net.length
  · refine ⟨.inl (nl r), some r, ?_, rfl, ⟨⟨List.prefix_rfl, ⟨hl, hr, hn, hc⟩⟩, fun q hq => .inl (hq.1.eq_of_length (by rw [hq.2.len]; exact hl))⟩⟩
    unfold S.l13Grow_r_t S.l13Grow_r_tree
    rw [cnd_t (by rw [hll]; simp; omega)]
  · have hlt : r.length < net.length := by omega
    have hex : ∀ v, ∃ q : Option (List Nat), v < min m (nx r + 1) → (cliqueB net (setL (r ++ [v]) v) = true → ∃ o, S.l13Grow_r0_t net (nl (r ++ [v])) (m : Int) = some o ∧ outOf o = rowO q ∧ FirstExt (CRow net m) (r ++ [v]) q) ∧ (cliqueB net (setL (r ++ [v]) v) = false → q = none) := fun v => by
      by_cases hv : v < min m (nx r + 1)
      · cases hq : cliqueB net (setL (r ++ [v]) v) with
        | true =>
          obtain ⟨o, q, a1, a2, a3⟩ := hrec v hlt (by omega) (by omega) ((cliqueB_iff h (setL_lt (by simp; omega))).1 hq)
          exact ⟨q, fun _ => ⟨fun _ => ⟨o, a1, a2, a3⟩, fun hh => by cases hh⟩⟩
        | false => exact ⟨none, fun _ => ⟨fun hh => (by cases hh), fun _ => rfl⟩⟩
      · exact ⟨none, fun hh => absurd hh hv⟩
    obtain ⟨f, hf⟩ := Classical.axiomOfChoice hex
    have hfirst : FirstExt (CRow net m) r (find (min m (nx r + 1)) f) := firstExt_loop (n := net.length) (fun q hq => hq.len) hlt (fun q hp hq => by
        have a := hq.rg r.length (by rw [hq.len]; exact hlt)
        rw [pre_take hp] at a
        have b := getD_lt_nx (r := q) (k := r.length) (by rw [hq.len]; exact hlt)
        have := hq.le
        omega) (fun v hv => by
        cases hq : cliqueB net (setL (r ++ [v]) v) with
        | true => exact ((hf v hv).1 hq).choose_spec.2.2
        | false =>
          rw [(hf v hv).2 hq]
          intro q hp hcr
          have := (cliqueB_iff h (setL_lt (r := r ++ [v]) (v := v) (by simp; omega))).2 ((CliqueL.append.1 (hcr.cl.pre hp)).2)
          rw [hq] at this; cases this)
    have l9 := (run_forE (run := S.l13Grow_r_run9 net (m : Int) (nx r : Nat)) (len := min m (nx r + 1)) (fun k (t : Unit) => ((k : Int), nl r)) (findStep f) (fun (q : List Nat) => Sum.inl (nl r, nl q)) (fun _ => Sum.inr (nl r)) (fun k t => True) (by omega) (fun n k t hk ht => ?_) (fun n t ht => ?_) (t0 := ()) trivial).1
    · unfold S.l13Grow_r_t S.l13Grow_r_tree
      rw [cnd_f (by rw [hll]; simp; omega), l13Next_n (by omega) (fun k hk => by have := getD_lt_nx hk; omega)]
      simp only [optC]
      rw [show S.l13Grow_r_run9 net (m : Int) (nx r : Nat) FUEL (0, nl r) = _ from l9]
      rcases loopE_find f (min m (nx r + 1)) with ⟨q, hfd, hlp⟩ | ⟨hfd, hlp⟩
      · rw [hlp]; exact ⟨.inr (nl r, nl q), some q, rfl, rfl, by rw [← hfd]; exact hfirst⟩
      · rw [hlp]; exact ⟨.inr (nl r, []), none, rfl, rfl, by rw [← hfd]; exact hfirst⟩
    · have hset : S.l13Set_t (nl (r ++ [k])) (k : Int) = some ((setL (r ++ [k]) k : Nat) : Int) := S.l13Set_n (by simp; omega) k
      have hst : S.l13Clique_t net ((setL (r ++ [k]) k : Nat) : Int) = some (cliqueB net (setL (r ++ [k]) k)) := S.l13Clique_n h (setL_lt (by simp; omega))
      have hcond : decide ((k : Int) < if (m : Int) < IntKind.i64.wrap (((nx r : Nat) : Int) + 1) then (m : Int) else IntKind.i64.wrap (((nx r : Nat) : Int) + 1)) = true := by
        rw [add1_nat (by omega), decide_eq_true_eq]
        split <;> omega
      have hcons := hf k hk
      simp only [S.l13Grow_r_run9, S.l13Grow_r_step9]
      rw [hcond, cond_true, cnd_t (by simp [small, nl_len]; omega), cnd_t (by simp [small, nl_len]; omega), List.nil_append, ← nl_append, hset]
      simp only [optC]
      rw [hst]
      simp only
      rw [add1_nat (by omega)]
      unfold findStep
      cases hq : cliqueB net (setL (r ++ [k]) k) with
      | false =>
        rw [hcons.2 hq]
        exact ⟨rfl, trivial⟩
      | true =>
        obtain ⟨o, a1, a2, a3⟩ := hcons.1 hq
        rw [cond_true, a1]
        have hlo := rowO_len h1 a3
        simp only
        cases o with
        | inl c =>
          simp only [sumC]
          have a2 : c = rowO (f k) := a2
          rw [a2, hlo]
          cases hfk : f k with
          | some q => rfl
          | none => exact ⟨rfl, trivial⟩
        | inr c =>
          simp only [sumC]
          have a2 : c.2 = rowO (f k) := a2
          rw [a2, hlo]
          cases hfk : f k with
          | some q => rfl
          | none => exact ⟨rfl, trivial⟩
    · have hcond : decide (((min m (nx r + 1) : Nat) : Int) < if (m : Int) < IntKind.i64.wrap (((nx r : Nat) : Int) + 1) then (m : Int) else IntKind.i64.wrap (((nx r : Nat) : Int) + 1)) = false := by
        rw [add1_nat (by omega), decide_eq_false_iff_not]
        split <;> omega
      simp only [S.l13Grow_r_run9, S.l13Grow_r_step9]
      rw [hcond]; rfl
theorem S.l13Grow_d {net : List Int} (h : Ok net) {m : Nat} (hm : m ≤ 6) : ∀ (k d : Nat) (r : List Nat), r.length + k = net.length → k < d → RG r → nx r ≤ m → CliqueL net r →
    ∃ o q, S.l13Grow_td d net (nl r) (m : Int) = some o ∧ outOf o = rowO q ∧ FirstExt (CRow net m) r q := by
  intro k
  induction k with
  | zero =>
    intro d r hk hd h1 h2 h3
    obtain ⟨d, rfl⟩ : ∃ q, d = q + 1 := ⟨d - 1, by omega⟩
    exact @S.l13Grow_step ⟨S.l13Grow_td d⟩ net h m hm r h1 (by omega) h2 h3 (fun v hv => by omega)
  | succ k ih =>
    intro d r hk hd h1 h2 h3
    obtain ⟨d, rfl⟩ : ∃ q, d = q + 1 := ⟨d - 1, by omega⟩
    exact @S.l13Grow_step ⟨S.l13Grow_td d⟩ net h m hm r h1 (by omega) h2 h3 (fun v hv a b hcl => ih d (r ++ [v]) (by simp; omega) (by omega) (RG_append.2 ⟨h1, a⟩) (by rw [nx_append]; omega) (CliqueL.append.2 ⟨h3, hcl⟩))
theorem S.l13Grow_n {net : List Int} (h : Ok net) {m : Nat} (hm : m ≤ 6) : ∃ o q, S.l13Grow_t net [] (m : Int) = some o ∧ outOf o = rowO q ∧ FirstExt (CRow net m) [] q := by
  have hF := FUEL_le
  have h6 := h.hi
  exact S.l13Grow_d h hm net.length FUEL [] (by simp) (by omega) RG.nil (Nat.zero_le _) (CliqueL.nil net)
/-- The first row of a kind. -/
noncomputable def firstOf (P : List Nat → Prop) : List Nat := @dite _ (∃ q, IsFirst P q) (Classical.propDecidable _) (fun h => h.choose) (fun _ => [])
theorem firstOf_is {P : List Nat → Prop} {q : List Nat} (h : IsFirst P q) : firstOf P = q := by
  have he : ∃ q, IsFirst P q := ⟨q, h⟩
  unfold firstOf
  rw [dif_pos he]
  exact he.choose_spec.uniq h
noncomputable def clRow (net : List Int) : List Nat := firstOf (CRow net (fewestCl net))
theorem first_of_ext {P : List Nat → Prop} {q : List Nat} (h : FirstExt P [] (some q)) : IsFirst P q := ⟨h.mem.2, fun r hr => h.le r ⟨List.nil_prefix, hr⟩⟩
theorem S.CliqueRow_y {net : List Int} (h : Ok net) (e : S.NetOk_t net = some true) : S.CliqueRow_t net = some (nl (clRow net)) ∧ IsFirst (CRow net (fewestCl net)) (clRow net) := by
  have hF := FUEL_le
  have h6 := h.hi
  have h1 := h.lo
  have hle := fewestCl_le net
  have hmin := fewestCl_min net
  obtain ⟨o, q, a1, a2, a3⟩ := S.l13Grow_n h (m := fewestCl net) (by omega)
  have hq : ∃ p, q = some p := by
    cases q with
    | some p => exact ⟨p, rfl⟩
    | none =>
      obtain ⟨p, hp⟩ := crow_of hmin.ex
      exact absurd hp (a3 p List.nil_prefix)
  obtain ⟨p, rfl⟩ := hq
  have hfp := first_of_ext a3
  have hcl : clRow net = p := firstOf_is hfp
  rw [hcl]
  refine ⟨?_, hfp⟩
  have key : ∀ d j n, j + d = fewestCl net → 1 ≤ j → d + 1 < n → S.CliqueRow_run3 net n ((j : Int), []) = some (nl p) := by
    intro d
    induction d with
    | zero =>
      intro j n hj _ hn
      obtain ⟨n, rfl⟩ : ∃ q, n = q + 2 := ⟨n - 2, by omega⟩
      have hp := hfp.mem.len
      simp only [S.CliqueRow_run3, S.CliqueRow_step3]
      rw [e]
      simp only [optC, cond_true]
      rw [cnd_t (by rfl), show j = fewestCl net by omega, a1]
      simp only
      have hnl : ((nl p).length : Int) = ((net.length : Nat) : Int) := by rw [nl_len, hp]
      cases o with
      | inl c =>
        have a2 : c = nl p := a2
        simp only [sumC]
        rw [a2, cnd_f (by rw [beq_eq_false_iff_ne]; omega)]
      | inr c =>
        have a2 : c.2 = nl p := a2
        simp only [sumC]
        rw [a2, cnd_f (by rw [beq_eq_false_iff_ne]; omega)]
    | succ d ih =>
      intro j n hj h1j hn
      obtain ⟨n, rfl⟩ : ∃ q, n = q + 1 := ⟨n - 1, by omega⟩
      obtain ⟨o, q, b1, b2, b3⟩ := S.l13Grow_n h (m := j) (by omega)
      have hq : q = none := by
        cases q with
        | none => rfl
        | some q => have := hmin.le j (of_crow (first_of_ext b3).mem); omega
      subst hq
      simp only [S.CliqueRow_run3, S.CliqueRow_step3]
      rw [e]
      simp only [optC, cond_true]
      rw [cnd_t (by rfl), b1, add1_nat (by omega)]
      simp only
      cases o with
      | inl c =>
        have b2 : c = [] := b2
        simp only [sumC]
        rw [b2]
        exact ih (j + 1) n (by omega) (by omega) (by omega)
      | inr c =>
        have b2 : c.2 = [] := b2
        simp only [sumC]
        rw [b2]
        exact ih (j + 1) n (by omega) (by omega) (by omega)
  unfold S.CliqueRow_t S.CliqueRow_tree
  have hpos := fewestCl_pos h1
  rw [show S.CliqueRow_run3 net FUEL (1, []) = _ from key (fewestCl net - 1) 1 FUEL (by omega) (Nat.le_refl _) (by omega)]
  rfl
theorem S.FewestCliques_x {net : List Int} (e : S.NetOk_t net = some false) : S.FewestCliques_t net = some (-1) := by
  unfold S.FewestCliques_t S.FewestCliques_tree; rw [e]; rfl
theorem S.FewestCliques_y {net : List Int} (h : Ok net) (e : S.NetOk_t net = some true) : S.FewestCliques_t net = some ((fewestCl net : Nat) : Int) := by
  obtain ⟨a1, a2⟩ := S.CliqueRow_y h e
  have h6 := h.hi
  have hlen := a2.mem.len
  have hnx := crow_nx a2.mem
  have hle := fewestCl_le net
  have hll := nl_len (clRow net)
  unfold S.FewestCliques_t S.FewestCliques_tree
  rw [e, a1]
  simp only [optC, Bool.not_true, cond_false]
  have := (run_for (run := S.FewestCliques_run6) (len := (clRow net).length) (fun k (t : Nat) => ((t : Int), (k : Int), nl (clRow net))) (fun t k => max t ((clRow net).getD k 0 + 1)) (fun t => (t : Int)) (fun k t => True) (by omega) (fun f k t hk ht => ?_) (fun f t ht => ?_) (t0 := 0) trivial).1
  · have e2 : fold (clRow net).length (fun t k => max t ((clRow net).getD k 0 + 1)) 0 = fewestCl net := by
      have key : ∀ k, k ≤ (clRow net).length → fold k (fun t k => max t ((clRow net).getD k 0 + 1)) 0 = nx ((clRow net).take k) := by
        intro k
        induction k with
        | zero => intro _; simp [nx, fold_zero]
        | succ k ih => intro hk; rw [fold_succ, ih (by omega), nx_take_succ (by omega)]
      have := key (clRow net).length (Nat.le_refl _)
      rwa [List.take_length, hnx] at this
    rw [e2] at this
    exact congrArg (fun o => optC o (fun q => some q) none) this
  · simp only [S.FewestCliques_run6, S.FewestCliques_step6]
    have hv := getD_lt_nx hk
    rw [cnd_t (by simp; omega), cnd_t (by simp; omega), cnd_t (by simp; omega), Int.toNat_natCast, nl_at hk, add1_nat (a := k) (by omega), add1_nat (by omega)]
    refine ⟨?_, trivial⟩
    congr 3
    by_cases hm : (clRow net).getD k 0 + 1 > t
    · rw [if_pos (by omega), Nat.max_eq_right (by omega)]
    · rw [if_neg (by omega), Nat.max_eq_left (by omega)]
  · simp only [S.FewestCliques_run6, S.FewestCliques_step6]
    rw [cnd_f (by simp; omega)]
theorem S.GuardRow_x {net : List Int} (e : S.NetOk_t net = some false) : S.GuardRow_t net = some [] := by
  unfold S.GuardRow_t S.GuardRow_tree; rw [e]; rfl
theorem S.GuardRow_y {net : List Int} (h : Ok net) (e : S.NetOk_t net = some true) : S.GuardRow_t net = some [((fewest net : Nat) : Int), ((fewestAllEternal net : Nat) : Int), ((maxSize net (apart net) : Nat) : Int), ((fewestEternal net : Nat) : Int), ((fewestCl net : Nat) : Int)] := by
  unfold S.GuardRow_t S.GuardRow_tree
  rw [e, S.FewestWatch_y h e, S.FewestAllEternal_y h e, S.MostApart_y h e, S.FewestEternal_y h e, S.FewestCliques_y h e]; rfl
end Go.Proofs.Ytleianhibhpgpaa
/- Draws of chapters 9 and 10. Conditions: those of each theorem. -/
namespace Go.Proofs.Ytleianhibhpgpaa
open D Go.RowKit
set_option linter.unusedVariables false
set_option linter.unusedSimpArgs false


end Go.Proofs.Ytleianhibhpgpaa
/- Draws of chapters 12 and 13. Conditions: those of each theorem. -/
namespace Go.Proofs.Ytleianhibhpgpaa
open D Go.RowKit
set_option linter.unusedVariables false
set_option linter.unusedSimpArgs false


theorem S.DrawFewestCliques_is {code : List Int} (hb : Bytes code) : ∃ net, S.DrawFewestCliques_t code = some net ∧ net.length ≤ 6 := by
  unfold S.DrawFewestCliques_t S.DrawFewestCliques_tree
  obtain ⟨rb, e1, h1, h2⟩ := S.l20Open_is hb
  rw [e1]
  simp only [optC]
  obtain ⟨rp', net, e2, _, _, h3⟩ := S.l20Net_is (n := 9) h1 h2 (Int.le_refl 0) (by decide)
  rw [e2]
  exact ⟨_, rfl, h3⟩
theorem S.DrawGuardRow_is {code : List Int} (hb : Bytes code) : ∃ net, S.DrawGuardRow_t code = some net ∧ net.length ≤ 6 := by
  unfold S.DrawGuardRow_t S.DrawGuardRow_tree
  obtain ⟨rb, e1, h1, h2⟩ := S.l20Open_is hb
  rw [e1]
  simp only [optC]
  obtain ⟨rp', net, e2, _, _, h3⟩ := S.l20Net_is (n := 9) h1 h2 (Int.le_refl 0) (by decide)
  rw [e2]
  exact ⟨_, rfl, h3⟩
end Go.Proofs.Ytleianhibhpgpaa
/- Trees of wires: the places with one wire, and the sets that stand together, make all places. Conditions: those of each theorem. -/
namespace Go.Proofs.Ytleianhibhpgpaa
set_option linter.unusedVariables false
set_option linter.unusedSimpArgs false

/-- A net of some of the wires. -/
structure Sub (net t : List Int) : Prop where
  ok : Ok t
  len : t.length = net.length
  sub : ∀ k j, k < net.length → (nb t k).testBit j = true → (nb net k).testBit j = true
/-- A tree: one part, of as few wires as can be. -/
structure Tree (net t : List Int) : Prop where
  sub : Sub net t
  one : parts t = 1
  wires_ : wires t + 1 = net.length
/-- How many places have one wire alone. -/
def leafs (t : List Int) : Nat := cnt t.length (fun k => size (nb t k) == 1)
/-- The places with more than one wire. -/
def inner (t : List Int) : Nat := orN t.length (fun k => !(size (nb t k) == 1)) (fun k => 2 ^ k)
/-! ### A tree over a joined watch -/
/-- After m steps from r within a set. -/
theorem steps_lvl {net : List Int} (h : Ok net) {s r : Nat} (hs : s < 2 ^ net.length) (hr : s.testBit r = true) (hT : Together net s) : ∃ lv : Nat → Nat, ∃ p : Nat → Nat, lv r = 0 ∧ ∀ v, s.testBit v = true → v ≠ r → s.testBit (p v) = true ∧ (nb net v).testBit (p v) = true ∧ lv (p v) < lv v ∧ lv v ≤ 6 := by
  have hrl := in_lt hs hr
  have h6 := h.hi
  have e0 : 2 ^ r &&& s = 2 ^ r := Nat.eq_of_testBit_eq fun j => by
    rw [Nat.testBit_and, testBit_pow]
    by_cases hxj : r = j
    · rw [← hxj, hr]; simp
    · simp [hxj]
  let L := fun m k => (steps net s m (2 ^ r)).testBit k
  have mono1 : ∀ m k, L m k = true → L (m + 1) k = true := fun m k hk => (grow_testBit _ _ _ _).2 (.inl hk)
  have mono : ∀ m m' k, m ≤ m' → L m k = true → L m' k = true := by
    intro m m' k hm hk
    induction m' with
    | zero => obtain rfl : m = 0 := by omega
              exact hk
    | succ m' ih =>
      by_cases he : m = m' + 1
      · rw [← he]; exact hk
      · exact mono1 m' k (ih (by omega))
  let lv := fun k => cnt 6 (fun m => !L m k)
  have six : ∀ v, s.testBit v = true → L 6 v = true := fun v hv => by
    have hx : (part net s r).testBit v = true := (h.part_testBit hrl v).2 (hT.2 r v hr hv)
    unfold part at hx
    rw [e0] at hx
    exact hx
  have hp : ∀ v, ∃ j, s.testBit v = true → v ≠ r → s.testBit j = true ∧ (nb net v).testBit j = true ∧ lv j < lv v := fun v => by
    by_cases hv : s.testBit v = true ∧ v ≠ r
    · have h0 : L 0 v = false := by
        show (2 ^ r).testBit v = false
        rw [testBit_pow]; simp; exact fun he => hv.2 he.symm
      have hex : ∀ m, m ≤ 6 → L m v = true → ∃ q, q < m ∧ L q v = false ∧ L (q + 1) v = true := by
        intro m
        induction m with
        | zero => intro _ hb; rw [h0] at hb; cases hb
        | succ m ih =>
          intro hm hb
          cases hc : L m v with
          | false => exact ⟨m, by omega, hc, hb⟩
          | true => obtain ⟨q, a, b⟩ := ih (by omega) hc; exact ⟨q, by omega, b⟩
      obtain ⟨q, hq, hqf, hqt⟩ := hex 6 (Nat.le_refl _) (six v hv.1)
      rcases (grow_testBit _ _ _ _).1 hqt with c1 | ⟨⟨j, hj, c1, c2⟩, _⟩
      · have : L q v = true := c1
        rw [hqf] at this; cases this
      · have hjs : s.testBit j = true := by
          have := steps_reach (net := net) (A := s) (i := r) q (j := j) (by rw [e0]; exact c1)
          exact this.among.2
        have hvl := in_lt hs hv.1
        refine ⟨j, fun _ _ => ⟨hjs, by rw [h.sym j v hj hvl]; exact c2, ?_⟩⟩
        have hjl : L q j = true := c1
        have h1 : lv j ≤ q := by
          have := cnt_mono (n := 6) (p := fun m => !L m j) (q := fun i => decide (i < q)) (fun m hm hp => by
            have hp' : L m j = false := by simpa using hp
            rw [decide_eq_true_eq]
            refine Classical.byContradiction fun hc => ?_
            rw [mono q m j (by omega) hjl] at hp'; cases hp')
          rw [cnt_below 6 q (by omega)] at this
          exact this
        have h2 : q + 1 ≤ lv v := by
          have := cnt_mono (n := 6) (p := fun i => decide (i < q + 1)) (q := fun m => !L m v) (fun m hm hp => by
            have hp' : m < q + 1 := by simpa using hp
            cases hx : L m v with
            | false => rfl
            | true => rw [mono m q v (by omega) hx] at hqf; cases hqf)
          rw [cnt_below 6 (q + 1) (by omega)] at this
          exact this
        omega
    · exact ⟨0, fun a b => absurd ⟨a, b⟩ hv⟩
  refine ⟨lv, fun v => Classical.choose (hp v), ?_, fun v hv hne => ?_⟩
  · show cnt 6 (fun m => !L m r) = 0
    have : cnt 6 (fun m => !L m r) = cnt 6 (fun _ => false) := cnt_congr fun m _ => by
      have : L m r = true := mono 0 m r (by omega) (by show (2 ^ r).testBit r = true; rw [testBit_pow]; simp)
      rw [this]; rfl
    rw [this]; rfl
  · obtain ⟨a, b, c⟩ := Classical.choose_spec (hp v) hv hne
    exact ⟨a, b, c, cnt_le _ _⟩
/-- The net of the wires from each place but r to its parent. -/
def treeOf (n r : Nat) (p : Nat → Nat) : List Int := (List.range n).map fun k => ((orN n (fun j => (!(k == r) && (p k == j)) || (!(j == r) && (p j == k))) (fun j => 2 ^ j) : Nat) : Int)
end Go.Proofs.Ytleianhibhpgpaa
/- All guards move over a joined watch: one more guard than stand together. Conditions: those of each theorem. -/
namespace Go.Proofs.Ytleianhibhpgpaa
set_option linter.unusedVariables false
set_option linter.unusedSimpArgs false

/-- The way from a towards r by parents. -/
def wayTo (p : Nat → Nat) (r a : Nat) : Nat → Nat
  | 0 => a
  | i + 1 => if wayTo p r a i = r then r else p (wayTo p r a i)
theorem shift {net : List Int} (h : Ok net) {s : Nat} (hs : s < 2 ^ net.length) (hT : Together net s) {v w a b : Nat} (hv : v < net.length) (hvs : s.testBit v = false) (hw : w < net.length) (hws : s.testBit w = false)
    (ha : s.testBit a = true) (hva : (nb net v).testBit a = true) (hb : s.testBit b = true) (hbw : (nb net b).testBit w = true) : AllMove net (s ||| 2 ^ v) (s ||| 2 ^ w) := by
  have h6 := h.hi
  obtain ⟨lv, p, hl0, hp⟩ := steps_lvl h hs hb hT
  let q := wayTo p b a
  have q0 : q 0 = a := rfl
  have qs : ∀ i, q (i + 1) = if q i = b then b else p (q i) := fun i => rfl
  have qin : ∀ i, s.testBit (q i) = true := by
    intro i
    induction i with
    | zero => exact ha
    | succ i ih =>
      rw [qs]
      split
      · exact hb
      · rename_i hne; exact (hp _ ih hne).1
  have qlv : ∀ i, lv (q (i + 1)) ≤ lv (q i) := fun i => by
    rw [qs]
    split
    · rw [hl0]; exact Nat.zero_le _
    · rename_i hne; exact Nat.le_of_lt (hp _ (qin i) hne).2.2.1
  have qmono : ∀ i j, i ≤ j → lv (q j) ≤ lv (q i) := by
    intro i j hij
    induction j with
    | zero => obtain rfl : i = 0 := by omega
              exact Nat.le_refl _
    | succ j ih =>
      by_cases he : i = j + 1
      · rw [he]; exact Nat.le_refl _
      · exact Nat.le_trans (qlv j) (ih (by omega))
  have hvb : ∀ x, (s ||| 2 ^ v).testBit x = true ↔ s.testBit x = true ∨ x = v := fun x => or_testBit _ _ _
  have hwb : ∀ x, (s ||| 2 ^ w).testBit x = true ↔ s.testBit x = true ∨ x = w := fun x => or_testBit _ _ _
  -- on the way or not
  let f : Nat → Nat := fun x => if x = v then a else @ite _ (∃ i, q i = x) (Classical.propDecidable _) (if x = b then w else p x) x
  have f1 : ∀ x, x = v → f x = a := fun x hx => by show (if x = v then _ else _) = _; rw [if_pos hx]
  have f2 : ∀ x, x ≠ v → (∃ i, q i = x) → x = b → f x = w := fun x hx hi he => by show (if x = v then _ else _) = _; rw [if_neg hx, if_pos hi, if_pos he]
  have f3 : ∀ x, x ≠ v → (∃ i, q i = x) → x ≠ b → f x = p x := fun x hx hi he => by show (if x = v then _ else _) = _; rw [if_neg hx, if_pos hi, if_neg he]
  have f4 : ∀ x, x ≠ v → (¬ ∃ i, q i = x) → f x = x := fun x hx hi => by show (if x = v then _ else _) = _; rw [if_neg hx, if_neg hi]
  have sv : ∀ x, s.testBit x = true → x ≠ v := fun x hx he => by rw [he, hvs] at hx; cases hx
  have sw : ∀ x, s.testBit x = true → x ≠ w := fun x hx he => by rw [he, hws] at hx; cases hx
  have pway : ∀ x, (∃ i, q i = x) → x ≠ b → ∃ i, q i = p x := fun x ⟨i, hi⟩ hne => ⟨i + 1, by rw [qs, hi, if_neg hne]⟩
  refine ⟨?_, f, fun x hx => ?_, fun x y hx hy he => ?_⟩
  · rw [size_add (lt64 h hs) (by omega) hvs, size_add (lt64 h hs) (by omega) hws]
  · rcases (hvb x).1 hx with hx | hx
    · by_cases hi : ∃ i, q i = x
      · by_cases hxb : x = b
        · rw [f2 x (sv x hx) hi hxb, hxb]
          exact ⟨(hwb w).2 (.inr rfl), (ball_testBit _ _ _).2 (.inl hbw)⟩
        · rw [f3 x (sv x hx) hi hxb]
          obtain ⟨c, d, _⟩ := hp x hx hxb
          exact ⟨(hwb _).2 (.inl c), (ball_testBit _ _ _).2 (.inl d)⟩
      · rw [f4 x (sv x hx) hi]
        exact ⟨(hwb x).2 (.inl hx), sees_self net x⟩
    · rw [f1 x hx, hx]
      exact ⟨(hwb a).2 (.inl ha), (ball_testBit _ _ _).2 (.inl hva)⟩
  · -- no two go to one place
    have key : ∀ x y, s.testBit x = true → s.testBit y = true → f x = f y → x = y := by
      intro x y hx hy he
      by_cases hi : ∃ i, q i = x
      · by_cases hxb : x = b
        · rw [f2 x (sv x hx) hi hxb] at he
          by_cases hj : ∃ i, q i = y
          · by_cases hyb : y = b
            · rw [hxb, hyb]
            · rw [f3 y (sv y hy) hj hyb] at he
              exact absurd he.symm (sw _ (hp y hy hyb).1)
          · rw [f4 y (sv y hy) hj] at he
            exact absurd he.symm (sw _ hy)
        · rw [f3 x (sv x hx) hi hxb] at he
          by_cases hj : ∃ i, q i = y
          · by_cases hyb : y = b
            · rw [f2 y (sv y hy) hj hyb] at he
              exact absurd he (sw _ (hp x hx hxb).1)
            · rw [f3 y (sv y hy) hj hyb] at he
              obtain ⟨i, hi⟩ := hi
              obtain ⟨j, hj⟩ := hj
              have e1 : q (i + 1) = p x := by rw [qs, hi, if_neg hxb]
              have e2 : q (j + 1) = p y := by rw [qs, hj, if_neg hyb]
              have l1 := (hp x hx hxb).2.2.1
              have l2 := (hp y hy hyb).2.2.1
              rcases Nat.lt_trichotomy i j with hlt | heq | hgt
              · have := qmono (i + 1) j (by omega)
                rw [e1, hj, he] at this; omega
              · rw [← hi, ← hj, heq]
              · have := qmono (j + 1) i (by omega)
                rw [e2, hi, ← he] at this; omega
          · rw [f4 y (sv y hy) hj] at he
            exact absurd (he ▸ pway x hi hxb) hj
      · rw [f4 x (sv x hx) hi] at he
        by_cases hj : ∃ i, q i = y
        · by_cases hyb : y = b
          · rw [f2 y (sv y hy) hj hyb] at he
            exact absurd he (sw _ hx)
          · rw [f3 y (sv y hy) hj hyb] at he
            exact absurd (he ▸ pway y hj hyb) hi
        · rw [f4 y (sv y hy) hj] at he; exact he
    have keyv : ∀ y, s.testBit y = true → f y ≠ a := by
      intro y hy he
      by_cases hj : ∃ i, q i = y
      · by_cases hyb : y = b
        · rw [f2 y (sv y hy) hj hyb] at he
          exact sw a ha he.symm
        · rw [f3 y (sv y hy) hj hyb] at he
          obtain ⟨j, hj⟩ := hj
          have l2 := (hp y hy hyb).2.2.1
          have := qmono 0 j (Nat.zero_le _)
          rw [q0, hj] at this
          rw [he] at l2
          omega
      · rw [f4 y (sv y hy) hj] at he
        exact hj ⟨0, by rw [q0, he]⟩
    rcases (hvb x).1 hx with hx | hx <;> rcases (hvb y).1 hy with hy | hy
    · exact key x y hx hy he
    · rw [f1 y hy] at he; exact absurd he (keyv x hx)
    · rw [f1 x hx] at he; exact absurd he.symm (keyv y hy)
    · rw [hx, hy]
end Go.Proofs.Ytleianhibhpgpaa
/- Draws of chapters 3 to 5. Conditions: those of each theorem. -/
namespace Go.Proofs.Ytleianhibhpgpaa
open D Go.RowKit
set_option linter.unusedVariables false
set_option linter.unusedSimpArgs false


end Go.Proofs.Ytleianhibhpgpaa
/- The model's functions of chapter 6 in natural numbers, and draws. Conditions: those of each theorem. -/
namespace Go.Proofs.Ytleianhibhpgpaa
open D Go.RowKit
set_option linter.unusedVariables false
set_option linter.unusedSimpArgs false


/-- The least size of sets of a kind; -1 if there is none. -/
def minStep (p : Nat → Bool) (t : Int) (s : Nat) : Int := if p s = true then (if t < 0 then ((size s : Nat) : Int) else if ((size s : Nat) : Int) < t then ((size s : Nat) : Int) else t) else t
def minI (net : List Int) (p : Nat → Bool) : Int := fold (2 ^ net.length) (minStep p) (-1)
theorem minI_fold (p : Nat → Bool) (N : Nat) : (fold N (minStep p) (-1) = -1 ∧ ∀ s, s < N → p s = false) ∨ ∃ m : Nat, fold N (minStep p) (-1) = m ∧ (∃ s, s < N ∧ p s = true ∧ size s = m) ∧ ∀ s, s < N → p s = true → m ≤ size s := by
  induction N with
  | zero => exact .inl ⟨rfl, fun s hs => by omega⟩
  | succ N ih =>
    rw [fold_succ]
    generalize fold N (minStep p) (-1) = g at ih ⊢
    unfold minStep
    cases hp : p N with
    | false =>
      simp only [Bool.false_eq_true, if_false]
      rcases ih with ⟨a, b⟩ | ⟨m, a, ⟨s, s1, s2⟩, c⟩
      · exact .inl ⟨a, fun s hs => by
          by_cases he : s = N
          · rw [he]; exact hp
          · exact b s (by omega)⟩
      · exact .inr ⟨m, a, ⟨s, by omega, s2⟩, fun s hs hps => by
          by_cases he : s = N
          · rw [he, hp] at hps; cases hps
          · exact c s (by omega) hps⟩
    | true =>
      simp only [if_true]
      right
      rcases ih with ⟨a, b⟩ | ⟨m, a, ⟨s, s1, s2, s3⟩, c⟩
      · rw [a, if_pos (by decide)]
        exact ⟨_, rfl, ⟨N, by omega, hp, rfl⟩, fun s hs hps => by
          by_cases he : s = N
          · rw [he]; exact Nat.le_refl _
          · rw [b s (by omega)] at hps; cases hps⟩
      · rw [a, if_neg (by omega)]
        by_cases hlt : ((size N : Nat) : Int) < (m : Int)
        · rw [if_pos hlt]
          exact ⟨_, rfl, ⟨N, by omega, hp, rfl⟩, fun s hs hps => by
            by_cases he : s = N
            · rw [he]; exact Nat.le_refl _
            · have := c s (by omega) hps; omega⟩
        · rw [if_neg hlt]
          exact ⟨m, rfl, ⟨s, by omega, s2, s3⟩, fun q hq hpq => by
            by_cases he : q = N
            · rw [he]; omega
            · exact c q (by omega) hpq⟩
theorem minI_is (net : List Int) (p : Nat → Bool) : (minI net p = -1 ∧ ∀ s, s < 2 ^ net.length → p s = false) ∨ ∃ m : Nat, minI net p = m ∧ MinOf net p m := by
  rcases minI_fold p (2 ^ net.length) with h | ⟨m, a, b, c⟩
  · exact .inl h
  · exact .inr ⟨m, a, b, c⟩
/-- Does a set stand together? -/
noncomputable def together (net : List Int) (s : Nat) : Bool := @decide (Together net s) (Classical.propDecidable _)
noncomputable def joined (net : List Int) (s : Nat) : Bool := together net s && W net s
end Go.Proofs.Ytleianhibhpgpaa
/- Plain facts about the program's own ways of chapters 6 to 9: least numbers from -1 on, the first row of the fewest guards, the least place of a set. Conditions: those of each theorem. -/
namespace Go.Proofs.Ytleianhibhpgpaa
open D Go.RowKit
set_option linter.unusedVariables false
set_option linter.unusedSimpArgs false

theorem minI_min {net : List Int} (h : Ok net) {p : Nat → Bool} (hex : ∃ s, s < 2 ^ net.length ∧ p s = true) : minI net p = ((minSize net p : Nat) : Int) := by
  rcases minI_is net p with ⟨_, hno⟩ | ⟨m, e, hm⟩
  · obtain ⟨s, hs, hp⟩ := hex
    rw [hno s hs] at hp; cases hp
  · rw [e, hm.uniq (minSize_is h hex)]
/-- The least number of a kind; -1 if there is none. -/
def minStepV (p : Nat → Bool) (v : Nat → Nat) (t : Int) (s : Nat) : Int := if p s = true then (if t < 0 then ((v s : Nat) : Int) else if ((v s : Nat) : Int) < t then ((v s : Nat) : Int) else t) else t
theorem minStep_V (p : Nat → Bool) : minStep p = minStepV p size := rfl
theorem minStepV_bound {p : Nat → Bool} {v : Nat → Nat} {t : Int} {s b : Nat} (hv : v s ≤ b) (ht : -1 ≤ t ∧ t ≤ b) : -1 ≤ minStepV p v t s ∧ minStepV p v t s ≤ b := by
  unfold minStepV
  split
  · split
    · omega
    · split <;> omega
  · exact ht
def lessStep (n : Nat) (p : List Int → Bool) (best : List Int) (m : Nat) : List Int := if sumN n (rv (digs n m)) < sumN n (rv best) ∧ p (digs n m) = true then digs n m else best
end Go.Proofs.Ytleianhibhpgpaa
/- The program's functions of chapters 3 and 4 in natural numbers. Conditions: those of each theorem. -/
namespace Go.Proofs.Ytleianhibhpgpaa
open D Go.RowKit
set_option linter.unusedVariables false
set_option linter.unusedSimpArgs false


theorem I.with_n {s k : Nat} (hs : s < 64) (hk : k < 6) : I.with_t s k = some ((s ||| 2 ^ k : Nat) : Int) := by
  unfold I.with_t I.with_tree
  rw [cnd_f (by simp), one_shl (by omega), i64_or_nat _ _ (by omega) (pow2_lt (by omega))]
theorem I.nextTo_n {net : List Int} (h : Ok net) {s : Nat} (hs : s < 2 ^ net.length) : I.nextTo_t net s = some ((near net s : Nat) : Int) := by
  unfold I.nextTo_t I.nextTo_tree
  have h6 := h.hi
  have h64 := h.pow
  have := (run_for (run := I.nextTo_run3 net s) (len := net.length) (fun k (t : Nat) => ((t : Int), (k : Int))) (fun t k => if s.testBit k = true then t ||| nb net k else t) (fun t => (t : Int)) (fun k t => t < 2 ^ net.length) (by omega) (fun n k t hk ht => ?_) (fun n t ht => ?_) (t0 := 0) (Nat.two_pow_pos _)).1
  · rw [fold_near] at this
    exact congrArg (fun o => optC o (fun q => some q) none) this
  · have hb := h.lt k hk
    simp only [I.nextTo_run3, I.nextTo_step3]
    rw [cnd_t (by simp; omega), I.hasPlace_n _ _ (by omega)]
    simp only [optC]
    cases hbit : s.testBit k with
    | true =>
      rw [cond_true, cnd_t (by simp; omega), if_pos rfl, Int.toNat_natCast, h.eli hk, i64_or_nat _ _ (by omega) (by omega), add1_nat (by omega)]
      exact ⟨rfl, Nat.or_lt_two_pow ht hb⟩
    | false =>
      rw [cond_false, if_neg (by simp), add1_nat (by omega)]
      exact ⟨rfl, ht⟩
  · simp only [I.nextTo_run3, I.nextTo_step3]
    rw [cnd_f (by simp)]
theorem I.apartIn_n {net : List Int} (h : Ok net) {s : Nat} (hs : s < 2 ^ net.length) : I.apartIn_t net s = some (apart net s) := by
  unfold I.apartIn_t I.apartIn_tree
  have h64 := h.pow
  have hnl := h.near_lt s
  rw [I.nextTo_n h hs]
  simp only [optC]
  rw [i64_and_nat _ _ (by omega) (by omega), nat_eq0, Nat.and_comm]
  rfl
end Go.Proofs.Ytleianhibhpgpaa
/- The program's functions of chapter 6 but MostLeaves, in natural numbers. Conditions: those of each theorem. -/
namespace Go.Proofs.Ytleianhibhpgpaa
open D Go.RowKit
set_option linter.unusedVariables false
set_option linter.unusedSimpArgs false


theorem I.fewerOf_n (t : Int) (v : Nat) : I.fewerOf_t t ((v : Nat) : Int) = some (if t < 0 then ((v : Nat) : Int) else if ((v : Nat) : Int) < t then ((v : Nat) : Int) else t) := by
  unfold I.fewerOf_t I.fewerOf_tree
  by_cases h0 : t < 0
  · simp [h0]
  · by_cases h1 : ((v : Nat) : Int) < t <;> simp [h0, h1]
theorem I.fewerOf_V (p : Nat → Bool) (v : Nat → Nat) {t : Int} {k : Nat} (hp : p k = true) : I.fewerOf_t t ((v k : Nat) : Int) = some (minStepV p v t k) := by
  rw [I.fewerOf_n]; unfold minStepV; rw [if_pos hp]
theorem minStepV_no {p : Nat → Bool} {v : Nat → Nat} {t : Int} {k : Nat} (hp : p k = false) : minStepV p v t k = t := by unfold minStepV; rw [hp]; rfl
end Go.Proofs.Ytleianhibhpgpaa
/- The program's functions of chapter 4 over nets, and of chapter 5, in natural numbers. Conditions: those of each theorem. -/
namespace Go.Proofs.Ytleianhibhpgpaa
open D Go.RowKit
set_option linter.unusedVariables false
set_option linter.unusedSimpArgs false


theorem I.MostApart_y {net : List Int} (h : Ok net) (e : I.NetOk_t net = some true) : I.MostApart_t net = some ((maxSize net (apart net) : Nat) : Int) := by
  unfold I.MostApart_t I.MostApart_tree
  have h64 := h.pow
  have h6 := h.hi
  have hsu := allOf_succ net
  rw [e]
  have := (run_for (run := I.MostApart_run5 net) (len := 2 ^ net.length) (fun k (t : Nat) => ((t : Int), (k : Int))) (maxStepN (apart net)) (fun t => (t : Int)) (fun k t => t ≤ 6) (by omega) (fun n k t hk ht => ?_) (fun n t ht => ?_) (t0 := 0) (by omega)).1
  · exact congrArg (fun o => optC o (fun q => some q) none) this
  · refine ⟨?_, maxStepN_le ht⟩
    simp only [I.MostApart_run5, I.MostApart_step5]
    rw [I.allOf_n h]
    simp only [optC]
    rw [cnd_t (by rw [decide_eq_true_eq]; omega), I.sizeOf_n]
    simp only
    by_cases hc : size k > t
    · rw [cnd_t (by rw [decide_eq_true_eq]; omega), I.apartIn_n h hk, maxStepN_lt hc]
      simp only
      cases hp : apart net k with
      | true => simp only [cond_true, if_true]; rw [add1_nat (by omega)]
      | false => simp only [cond_false, Bool.false_eq_true, if_false]; rw [add1_nat (by omega)]
    · rw [cnd_f (by rw [decide_eq_false_iff_not]; omega), maxStepN_ge hc, add1_nat (by omega)]
  · simp only [I.MostApart_run5, I.MostApart_step5]
    rw [I.allOf_n h]
    simp only [optC]
    rw [cnd_f (by rw [decide_eq_false_iff_not]; omega)]
/-- One of two numbers, by a test and then a call. -/
def sel {α : Type} (a : Bool) (o : Option Bool) (x y : Int) (k : Int → Option α) : Option α := bif a then optC o (fun c => bif c then k x else k y) none else k y
def ch6 (net : List Int) (q : Nat × Nat × Nat × Nat × Nat × Nat) (s : Nat) : Nat × Nat × Nat × Nat × Nat × Nat :=
  (minStepN (fullN net) q.1 s, minStepN (W net) q.2.1 s, minStepN (fullA net) q.2.2.1 s, maxStepN (apart net) q.2.2.2.1 s, maxStepN (least net) q.2.2.2.2.1 s, maxStepN (needs net) q.2.2.2.2.2 s)
end Go.Proofs.Ytleianhibhpgpaa
/- The program's functions of chapter 7 in natural numbers. Conditions: those of each theorem. -/
namespace Go.Proofs.Ytleianhibhpgpaa
open D Go.RowKit
set_option linter.unusedVariables false
set_option linter.unusedSimpArgs false


/-- The places that have just so many. -/
def eqN (n : Nat) (r : Nat → Nat) (m : Nat) : Nat := orN n (fun k => decide (r k = m)) (fun k => 2 ^ k)
end Go.Proofs.Ytleianhibhpgpaa
/- GuardMoved in natural numbers. Conditions: those of each theorem. -/
namespace Go.Proofs.Ytleianhibhpgpaa
open D Go.RowKit
set_option linter.unusedVariables false
set_option linter.unusedSimpArgs false


def mayMove (net : List Int) (s f t : Nat) : Bool := s.testBit f && (!s.testBit t && (nb net f).testBit t)
def movedI (net : List Int) (s f t : Int) : Int := if (0 ≤ s ∧ s < 2 ^ net.length) ∧ (0 ≤ f ∧ f < net.length) ∧ (0 ≤ t ∧ t < net.length) ∧ mayMove net s.toNat f.toNat t.toNat = true then ((moved s.toNat f.toNat t.toNat : Nat) : Int) else -1
end Go.Proofs.Ytleianhibhpgpaa
/- The program's functions of chapter 8 in natural numbers. Conditions: those of each theorem. -/
namespace Go.Proofs.Ytleianhibhpgpaa
open D Go.RowKit
set_option linter.unusedVariables false
set_option linter.unusedSimpArgs false


theorem I.moveIn_n {net : List Int} (h : Ok net) {s f t : Nat} (hf : f < net.length) (ht : t < net.length) : I.moveIn_t net (s : Int) (f : Int) (t : Int) = some (mayMove net s f t) := by
  unfold I.moveIn_t I.moveIn_tree
  have h6 := h.hi
  rw [I.hasPlace_n _ _ (by omega)]
  simp only [optC]
  unfold mayMove
  cases hb : s.testBit f with
  | false => rfl
  | true =>
    rw [cond_true, I.hasPlace_n _ _ (by omega)]
    simp only
    cases hb2 : s.testBit t with
    | true => rfl
    | false =>
      rw [Bool.not_false, cond_true, cnd_t (by simp; omega), show D.eli net (f : Int).toNat = (nb net f : Int) by rw [Int.toNat_natCast]; exact h.eli hf, I.hasPlace_n _ _ (by omega)]
      rfl
theorem I.moved_n {s f t : Nat} (hs : s < 64) (hf : f < 6) (ht : t < 6) (hb : s.testBit f = true) : I.moved_t (s : Int) (f : Int) (t : Int) = some ((moved s f t : Nat) : Int) := by
  unfold I.moved_t I.moved_tree
  rw [I.without_n hs hf, if_pos hb]
  simp only [optC]
  rw [I.with_n (Nat.lt_of_le_of_lt (Nat.sub_le _ _) hs) ht]
  rfl
/-- Can a guard come to a place without one? -/
def comeB (net : List Int) (s t : Nat) : Bool := (List.range net.length).any fun f => mayMove net s f t && W net (moved s f t)
/-- The places with guards, when one guard leaves a place. -/
def lessN (n : Nat) (r : Nat → Nat) (f : Nat) : Nat := if r f = 1 then (if (eqN n r 1 ||| eqN n r 2).testBit f = true then (eqN n r 1 ||| eqN n r 2) - 2 ^ f else eqN n r 1 ||| eqN n r 2) else eqN n r 1 ||| eqN n r 2
end Go.Proofs.Ytleianhibhpgpaa
/- AnsweredAll in natural numbers. Conditions: those of each theorem. -/
namespace Go.Proofs.Ytleianhibhpgpaa
open D Go.RowKit
set_option linter.unusedVariables false
set_option linter.unusedSimpArgs false


/-- The set after one ask. -/
noncomputable def ansNext (net : List Int) (s p : Nat) : Nat := if s.testBit p = true then s else moved s (ansI net (lasts net) s p).toNat p
noncomputable def ansStep (net places : List Int) (t : Nat × List Int) (k : Nat) : List Int ⊕ (Nat × List Int) :=
  if 0 ≤ D.eli places k ∧ D.eli places k < net.length then .inr (ansNext net t.1 (D.eli places k).toNat, t.2 ++ [((ansNext net t.1 (D.eli places k).toNat : Nat) : Int)]) else .inl t.2
noncomputable def answered (net : List Int) (s : Nat) (places : List Int) : List Int := match loopE places.length (ansStep net places) (s, [(s : Int)]) with | .inl _ => [] | .inr t => t.2
noncomputable def answeredI (net : List Int) (s : Int) (places : List Int) : List Int := if (0 ≤ s ∧ s < 2 ^ net.length) ∧ eternalB net s.toNat = true then answered net s.toNat places else []
/-- What the list of answers holds. -/
def AnsInv (net places : List Int) (s k : Nat) (t : Nat × List Int) : Prop :=
  t.1 < 2 ^ net.length ∧ t.2.length = k + 1 ∧ D.eli t.2 0 = s ∧
  (∀ j, j ≤ k → ∃ u : Nat, D.eli t.2 j = u ∧ u < 2 ^ net.length ∧ Eternal net u ∧ size u = size s ∧ (j = k → u = t.1)) ∧
  ∀ j, j < k → ∃ p : Nat, D.eli places j = p ∧ p < net.length ∧ (D.eli t.2 (j + 1)).toNat.testBit p = true
end Go.Proofs.Ytleianhibhpgpaa
/- The program's functions of chapter 9 in natural numbers. Conditions: those of each theorem. -/
namespace Go.Proofs.Ytleianhibhpgpaa
open D Go.RowKit
set_option linter.unusedVariables false
set_option linter.unusedSimpArgs false


/-- The sets in which one guard has moved. -/
def mvIn (net : List Int) (s f : Nat) (l : List Int) (t : Nat) : List Int := if mayMove net s f t = true then l ++ [((moved s f t : Nat) : Int)] else l
def mvOut (net : List Int) (s : Nat) (l : List Int) (f : Nat) : List Int := fold net.length (mvIn net s f) l
def mvs (net : List Int) (s : Nat) : List Int := fold net.length (mvOut net s) []
theorem mvIn_fold (net : List Int) (s f : Nat) (l : List Int) : ∀ m, (fold m (mvIn net s f) l).length ≤ l.length + m ∧ ∀ x, x ∈ fold m (mvIn net s f) l ↔ x ∈ l ∨ ∃ t, t < m ∧ mayMove net s f t = true ∧ x = ((moved s f t : Nat) : Int) := by
  intro m
  induction m with
  | zero => exact ⟨Nat.le_refl _, fun x => ⟨.inl, fun h => h.elim id fun ⟨t, ht, _⟩ => by omega⟩⟩
  | succ m ih =>
    rw [fold_succ]
    generalize fold m (mvIn net s f) l = g at ih ⊢
    obtain ⟨a, b⟩ := ih
    unfold mvIn
    by_cases hm : mayMove net s f m = true
    · rw [if_pos hm]
      refine ⟨by rw [List.length_append]; simp; omega, fun x => ?_⟩
      rw [List.mem_append, b, List.mem_singleton]
      constructor
      · rintro ((h | ⟨t, h1, h2⟩) | h)
        · exact .inl h
        · exact .inr ⟨t, by omega, h2⟩
        · exact .inr ⟨m, by omega, hm, h⟩
      · rintro (h | ⟨t, h1, h2, h3⟩)
        · exact .inl (.inl h)
        · by_cases he : t = m
          · subst he; exact .inr h3
          · exact .inl (.inr ⟨t, by omega, h2, h3⟩)
    · rw [if_neg hm]
      refine ⟨by omega, fun x => ?_⟩
      rw [b]
      constructor
      · rintro (h | ⟨t, h1, h2⟩)
        · exact .inl h
        · exact .inr ⟨t, by omega, h2⟩
      · rintro (h | ⟨t, h1, h2, h3⟩)
        · exact .inl h
        · by_cases he : t = m
          · subst he; exact absurd h2 hm
          · exact .inr ⟨t, by omega, h2, h3⟩
theorem mvOut_fold (net : List Int) (s : Nat) : ∀ m, (fold m (mvOut net s) []).length ≤ m * net.length ∧ ∀ x, x ∈ fold m (mvOut net s) [] ↔ ∃ f t, f < m ∧ t < net.length ∧ mayMove net s f t = true ∧ x = ((moved s f t : Nat) : Int) := by
  intro m
  induction m with
  | zero => exact ⟨Nat.zero_le _, fun x => ⟨fun h => (by cases h), fun ⟨f, t, hf, _⟩ => by omega⟩⟩
  | succ m ih =>
    rw [fold_succ]
    generalize fold m (mvOut net s) [] = g at ih ⊢
    obtain ⟨a, b⟩ := ih
    unfold mvOut
    obtain ⟨a2, b2⟩ := mvIn_fold net s m g net.length
    refine ⟨by rw [Nat.succ_mul]; omega, fun x => ?_⟩
    rw [b2, b]
    constructor
    · rintro (⟨f, t, h1, h2⟩ | ⟨t, h1, h2, h3⟩)
      · exact ⟨f, t, by omega, h2⟩
      · exact ⟨m, t, by omega, h1, h2, h3⟩
    · rintro ⟨f, t, h1, h2, h3, h4⟩
      by_cases he : f = m
      · subst he; exact .inr ⟨t, h2, h3, h4⟩
      · exact .inl ⟨f, t, by omega, h2, h3, h4⟩
theorem mvs_len {net : List Int} (h : Ok net) (s : Nat) : (mvs net s).length ≤ 36 := by
  have := (mvOut_fold net s net.length).1
  have h6 := h.hi
  have := Nat.mul_le_mul h6 h6
  unfold mvs
  omega
theorem mvs_mem (net : List Int) (s : Nat) (x : Int) : x ∈ mvs net s ↔ ∃ f t, f < net.length ∧ t < net.length ∧ mayMove net s f t = true ∧ x = ((moved s f t : Nat) : Int) := (mvOut_fold net s net.length).2 x
theorem mayMove_bit {net : List Int} {s f t : Nat} (h : mayMove net s f t = true) : s.testBit f = true ∧ s.testBit t = false ∧ (nb net f).testBit t = true := by
  unfold mayMove at h
  rw [Bool.and_eq_true, Bool.and_eq_true, Bool.not_eq_true'] at h
  exact ⟨h.1, h.2.1, h.2.2⟩
theorem I.movesOf_n {net : List Int} (h : Ok net) {s : Nat} (hs : s < 2 ^ net.length) : I.movesOf_t net (s : Int) = some (mvs net s) := by
  unfold I.movesOf_t I.movesOf_tree
  have h6 := h.hi
  have h64 := h.pow
  have := (run_for (run := I.movesOf_run3 net s) (len := net.length) (fun k (t : List Int) => ((k : Int), t)) (mvOut net s) (fun t => t) (fun k t => t.length ≤ k * net.length) (by omega) (fun n k t hk ht => ?_) (fun n t ht => ?_) (t0 := []) (Nat.zero_le _)).1
  · exact congrArg (fun o => optC o (fun q => some q) none) this
  · have hkl : k * net.length ≤ 36 := by have := Nat.mul_le_mul (show k ≤ 6 by omega) h6; omega
    refine ⟨?_, by have := (mvIn_fold net s k t net.length).1; rw [Nat.succ_mul]; unfold mvOut; omega⟩
    simp only [I.movesOf_run3, I.movesOf_step3]
    rw [cnd_t (by simp; omega)]
    have l6 := (run_for (run := I.movesOf_run6 net s k) (len := net.length) (fun j (t : List Int) => ((j : Int), t)) (mvIn net s k) (fun t => t) (fun j t => t.length ≤ 36 + j) (by omega) (fun n j t hj ht => by
      simp only [I.movesOf_run6, I.movesOf_step6]
      rw [cnd_t (by simp; omega), I.moveIn_n h hk hj, add1_nat (by omega)]
      simp only [optC]
      unfold mvIn
      cases hm : mayMove net s k j with
      | false => rw [cond_false, if_neg (by simp)]; exact ⟨rfl, by omega⟩
      | true =>
        rw [cond_true, I.moved_n (by omega) (by omega) (by omega) (mayMove_bit hm).1, if_pos rfl]
        simp only
        rw [cnd_t (by unfold D.small; rw [decide_eq_true_eq, List.length_append]; simp; omega)]
        exact ⟨rfl, by rw [List.length_append]; simp; omega⟩) (fun n t ht => by
      simp only [I.movesOf_run6, I.movesOf_step6]
      rw [cnd_f (by simp)]) (t0 := t) (by omega)).1
    rw [show I.movesOf_run6 net s k FUEL (0, t) = _ from l6]
    simp only [optC]
    rw [add1_nat (by omega)]
    rfl
  · simp only [I.movesOf_run3, I.movesOf_step3]
    rw [cnd_f (by simp)]
theorem elr_set {l : List (List Int)} {k j : Nat} {v : List Int} (hk : k < l.length) : D.elr (l.set k v) j = if j = k then v else D.elr l j := by
  unfold D.elr
  by_cases hj : j = k
  · subst hj; simp [List.getD, hk]
  · rw [if_neg hj]
    simp [List.getD, List.getElem?_set_ne (fun e => hj e.symm)]
theorem rows_ext {N : Nat} {l : List (List Int)} {f : Nat → List Int} (hl : l.length = N) (h : ∀ k, k < N → D.elr l k = f k) : l = (List.range N).map f := by
  apply List.ext_getElem (by simp [hl])
  intro j hj hj2
  have a := h j (by omega)
  unfold D.elr at a
  simp only [List.getD, List.getElem?_eq_getElem hj, Option.getD_some] at a
  rw [a]; simp
theorem rows_at {N k : Nat} {f : Nat → List Int} (hk : k < N) : D.elr ((List.range N).map f) k = f k := by unfold D.elr; simp [List.getD, hk]
theorem I.movesIn_n {net : List Int} (h : Ok net) : I.movesIn_t net = some ((List.range (2 ^ net.length)).map (mvs net)) := by
  unfold I.movesIn_t I.movesIn_tree
  have h6 := h.hi
  have h64 := h.pow
  have hsu := allOf_succ net
  rw [I.allOf_n h]
  simp only [optC]
  have := run_for (run := I.movesIn_run3 net) (len := 2 ^ net.length) (fun k (t : List (List Int)) => ((k : Int), t)) (fun t k => t.set k (mvs net k)) (fun t => t) (fun k t => t.length = 2 ^ net.length ∧ ∀ j, j < k → D.elr t j = mvs net j) (by omega) (fun n k t hk ht => ?_) (fun n t ht => ?_) (t0 := List.replicate (2 ^ net.length) []) ⟨by simp, fun j hj => by omega⟩
  · obtain ⟨e, l1, l2⟩ := this
    rw [add1_nat (by omega), hsu, Int.toNat_natCast, cnd_t (by simp only [D.small, Bool.and_true, Bool.and_eq_true, decide_eq_true_eq]; exact ⟨Int.natCast_nonneg _, by omega⟩), show I.movesIn_run3 net FUEL (0, List.replicate (2 ^ net.length) []) = _ from e]
    show some _ = some _
    rw [rows_ext l1 l2]
  · obtain ⟨l1, l2⟩ := ht
    refine ⟨?_, by simp [l1], fun j hj => ?_⟩
    · simp only [I.movesIn_run3, I.movesIn_step3]
      rw [I.allOf_n h]
      simp only [optC]
      rw [cnd_t (by rw [decide_eq_true_eq]; omega), I.movesOf_n h hk, add1_nat (by omega)]
      simp only
      rw [cnd_t (by simp only [Bool.and_eq_true, decide_eq_true_eq]; omega), Int.toNat_natCast, cnd_t (by rw [decide_eq_true_eq]; omega)]
    · rw [elr_set (by omega)]
      by_cases he : j = k
      · rw [if_pos he, he]
      · rw [if_neg he]; exact l2 j (by omega)
  · simp only [I.movesIn_run3, I.movesIn_step3]
    rw [I.allOf_n h]
    simp only [optC]
    rw [cnd_f (by rw [decide_eq_false_iff_not]; omega)]
/-- What is answered by going to sets that last. -/
def ansS (l : List Bool) (s : Nat) (L : List Int) : Nat := fold L.length (fun t k => if D.elb l (D.eli L k).toNat = true then t ||| (D.eli L k).toNat else t) s
theorem ansS_bit (l : List Bool) (s : Nat) (L : List Int) (j : Nat) : (ansS l s L).testBit j = true ↔ s.testBit j = true ∨ ∃ k, k < L.length ∧ D.elb l (D.eli L k).toNat = true ∧ (D.eli L k).toNat.testBit j = true := by
  unfold ansS
  generalize L.length = N
  induction N with
  | zero => exact ⟨.inl, fun h => h.elim id fun ⟨k, hk, _⟩ => by omega⟩
  | succ N ih =>
    rw [fold_succ]
    by_cases hb : D.elb l (D.eli L N).toNat = true
    · rw [if_pos hb, Nat.testBit_or, Bool.or_eq_true, ih]
      constructor
      · rintro ((h | ⟨k, h1, h2⟩) | h)
        · exact .inl h
        · exact .inr ⟨k, by omega, h2⟩
        · exact .inr ⟨N, by omega, hb, h⟩
      · rintro (h | ⟨k, h1, h2, h3⟩)
        · exact .inl (.inl h)
        · by_cases he : k = N
          · subst he; exact .inr h3
          · exact .inl (.inr ⟨k, by omega, h2, h3⟩)
    · rw [if_neg hb, ih]
      constructor
      · rintro (h | ⟨k, h1, h2⟩)
        · exact .inl h
        · exact .inr ⟨k, by omega, h2⟩
      · rintro (h | ⟨k, h1, h2, h3⟩)
        · exact .inl h
        · by_cases he : k = N
          · subst he; exact absurd h2 hb
          · exact .inr ⟨k, by omega, h2, h3⟩
def Among (n : Nat) (L : List Int) : Prop := L.length ≤ 1000 ∧ ∀ k, k < L.length → ∃ u : Nat, D.eli L k = (u : Int) ∧ u < 2 ^ n
theorem ansS_lt {n : Nat} {l : List Bool} {s : Nat} {L : List Int} (hs : s < 2 ^ n) (hL : Among n L) : ∀ N, N ≤ L.length → fold N (fun t k => if D.elb l (D.eli L k).toNat = true then t ||| (D.eli L k).toNat else t) s < 2 ^ n := by
  intro N
  induction N with
  | zero => intro _; exact hs
  | succ N ih =>
    intro hN
    rw [fold_succ]
    have := ih (by omega)
    split
    · obtain ⟨u, e, hu⟩ := hL.2 N (by omega)
      rw [e, Int.toNat_natCast]
      exact Nat.or_lt_two_pow this hu
    · exact this
theorem ansS_lt2 {n : Nat} {l : List Bool} {s : Nat} {L : List Int} (hs : s < 2 ^ n) (hL : Among n L) : ansS l s L < 2 ^ n := ansS_lt hs hL _ (Nat.le_refl _)
theorem I.answeredBy_n {n : Nat} (hn : n ≤ 6) {l : List Bool} (hl : l.length = 2 ^ n) {s : Nat} (hs : s < 2 ^ n) {L : List Int} (hL : Among n L) : I.answeredBy_t l (s : Int) L = some ((ansS l s L : Nat) : Int) := by
  unfold I.answeredBy_t I.answeredBy_tree
  have h64 := pow_le_64 hn
  have hlen := hL.1
  have := (run_for (run := I.answeredBy_run3 l L) (len := L.length) (fun k (t : Nat) => ((t : Int), (k : Int))) (fun t k => if D.elb l (D.eli L k).toNat = true then t ||| (D.eli L k).toNat else t) (fun t => (t : Int)) (fun k t => t < 2 ^ n) (by omega) (fun f k t hk ht => ?_) (fun f t ht => ?_) (t0 := s) hs).1
  · exact congrArg (fun o => optC o (fun q => some q) none) this
  · obtain ⟨u, e, hu⟩ := hL.2 k hk
    simp only [I.answeredBy_run3, I.answeredBy_step3]
    rw [cnd_t (by simp; omega), cnd_t (by simp; omega), Int.toNat_natCast, e, Int.toNat_natCast, cnd_t (by simp only [Bool.and_eq_true, decide_eq_true_eq]; omega), add1_nat (by omega)]
    cases hb : D.elb l u with
    | true =>
      rw [cond_true, if_pos rfl, cnd_t (by simp; omega), i64_or_nat _ _ (by omega) (by omega)]
      exact ⟨rfl, Nat.or_lt_two_pow ht hu⟩
    | false => rw [cond_false, if_neg (by simp)]; exact ⟨rfl, ht⟩
  · simp only [I.answeredBy_run3, I.answeredBy_step3]
    rw [cnd_f (by simp)]
/-- The sets that last, if those that a kind has are closed under it, and all that are closed are of the kind. -/
theorem I.lastingIn_n {net : List Int} (h : Ok net) {R : List (List Int)} (hR : R.length = 2 ^ net.length) (hA : ∀ s, s < 2 ^ net.length → Among net.length (D.elr R s)) {G : Nat → Prop}
    (hG : ∀ m : List Bool, m.length = 2 ^ net.length → (∀ s, s < 2 ^ net.length → G s → D.elb m s = true) → ∀ s, s < 2 ^ net.length → G s → (ansS m s (D.elr R s) == allOf net) = true)
    (hS : ∀ m : List Bool, m.length = 2 ^ net.length → (∀ s, s < 2 ^ net.length → D.elb m s = true → (ansS m s (D.elr R s) == allOf net) = true) → ∀ s, s < 2 ^ net.length → D.elb m s = true → G s) :
    ∃ m : List Bool, I.lastingIn_t net R = some m ∧ m.length = 2 ^ net.length ∧ ∀ s, s < 2 ^ net.length → (D.elb m s = true ↔ G s) := by
  unfold I.lastingIn_t I.lastingIn_tree
  have h6 := h.hi
  have h64 := h.pow
  have hsu := allOf_succ net
  rw [I.allOf_n h]
  simp only [optC]
  rw [add1_nat (by omega), hsu, Int.toNat_natCast, cnd_t (by simp only [D.small, Bool.and_true, Bool.and_eq_true, decide_eq_true_eq]; exact ⟨Int.natCast_nonneg _, by omega⟩)]
  have l3 := (run_for (run := I.lastingIn_run3 net R) (len := 2 ^ net.length) (fun k (t : List Bool) => ((k : Int), t)) (fun t k => t.set k true) (fun t => t) (fun k t => t.length = 2 ^ net.length ∧ ∀ j, j < k → D.elb t j = true) (by omega) (fun n k t hk ht => ?_) (fun n t ht => ?_) (t0 := List.replicate (2 ^ net.length) false) ⟨by simp, fun j hj => by omega⟩)
  · obtain ⟨e1, hl, hall⟩ := l3
    rw [show I.lastingIn_run3 net R FUEL (0, List.replicate (2 ^ net.length) false) = _ from e1]
    simp only [optC]
    generalize fold (2 ^ net.length) (fun (t : List Bool) k => t.set k true) (List.replicate (2 ^ net.length) false) = T at hl hall ⊢
    have hF := FUEL_le
    obtain ⟨m, r1, r2, r3, r4⟩ := settles (H := fun m s => ansS m s (D.elr R s) == allOf net) (N := 2 ^ net.length) (G := G) hG (run := I.lastingIn_run7 net R) (fun n l hl => by
      have l10 := (run_for (run := I.lastingIn_run10 net R) (len := 2 ^ net.length) (fun k (t : Bool × List Bool) => (t.1, (k : Int), t.2)) (sweepStep (fun m s => ansS m s (D.elr R s) == allOf net)) (fun t => (t.1, t.2)) (fun k t => t.2.length = 2 ^ net.length) (by omega) (fun n k t hk ht => by
        simp only [I.lastingIn_run10, I.lastingIn_step10]
        rw [I.allOf_n h]
        simp only [optC]
        rw [cnd_t (by rw [decide_eq_true_eq]; omega), cnd_t (by simp; omega), Int.toNat_natCast, cnd_t (by simp; omega), add1_nat (by omega)]
        unfold sweepStep
        cases hb : D.elb t.2 k with
        | false => simp only [cond_false, Bool.false_and, Bool.false_eq_true, if_false]; exact ⟨trivial, ht⟩
        | true =>
          have hlt := ansS_lt2 (l := t.2) (s := k) hk (hA k hk)
          rw [cond_true, cnd_t (by simp; omega), I.answeredBy_n h6 ht hk (hA k hk)]
          simp only [optC, Bool.true_and]
          rw [nat_beq]
          cases hh : (ansS t.2 k (D.elr R k) == allOf net) with
          | true => simp only [Bool.not_true, cond_false, Bool.false_eq_true, if_false]; exact ⟨trivial, ht⟩
          | false =>
            simp only [Bool.not_false, cond_true, if_true]
            rw [cnd_t (by simp; omega), cnd_t (by simp; omega)]
            exact ⟨rfl, by simp [ht]⟩) (fun n t ht => by
        simp only [I.lastingIn_run10, I.lastingIn_step10]
        rw [I.allOf_n h]
        simp only [optC]
        rw [cnd_f (by rw [decide_eq_false_iff_not]; omega)]) (t0 := (false, l)) hl).1
      simp only [I.lastingIn_run7, I.lastingIn_step7]
      rw [cond_true, show I.lastingIn_run10 net R FUEL (false, 0, l) = _ from l10]
      rfl) (fun n l => by simp only [I.lastingIn_run7, I.lastingIn_step7]; rfl) (2 ^ net.length) T hl (by have := trues_le T; omega) (fun s hs _ => hall s hs) FUEL (by omega)
    rw [r1]
    simp only
    exact ⟨m, rfl, r2, fun s hs => ⟨hS m r2 r4 s hs, r3 s hs⟩⟩
  · simp only [I.lastingIn_run3, I.lastingIn_step3]
    have hl := ht.1
    rw [I.allOf_n h]
    simp only [optC]
    rw [cnd_t (by rw [decide_eq_true_eq]; omega), cnd_t (by simp; omega), Int.toNat_natCast, cnd_t (by simp; omega), add1_nat (by omega)]
    refine ⟨rfl, by simp [hl], fun j hj => ?_⟩
    rw [elb_set (by omega)]
    by_cases he : j = k
    · rw [if_pos he]
    · rw [if_neg he]; exact ht.2 j (by omega)
  · simp only [I.lastingIn_run3, I.lastingIn_step3]
    rw [I.allOf_n h]
    simp only [optC]
    rw [cnd_f (by rw [decide_eq_false_iff_not]; omega)]
theorem all_bits {net : List Int} {x : Nat} (hx : x < 2 ^ net.length) : (x == allOf net) = true ↔ ∀ k, k < net.length → x.testBit k = true := by
  rw [beq_iff_eq]
  constructor
  · intro e k hk; rw [e, allOf_testBit]; simpa using hk
  · intro ha
    exact eq_of_bits hx (allOf_lt net) (fun j hj => by rw [ha j hj, allOf_testBit]; simp [hj])
theorem mem_at {L : List Int} {x : Int} (h : x ∈ L) : ∃ k, k < L.length ∧ D.eli L k = x := by
  obtain ⟨k, hk, e⟩ := List.getElem_of_mem h
  exact ⟨k, hk, by unfold D.eli; simp [List.getD, hk, e]⟩
theorem at_mem {L : List Int} {k : Nat} (hk : k < L.length) : D.eli L k ∈ L := by
  have : D.eli L k = L[k] := by unfold D.eli; simp [List.getD, hk]
  rw [this]; exact List.getElem_mem hk
theorem mvs_among {net : List Int} (h : Ok net) {s : Nat} (hs : s < 2 ^ net.length) : Among net.length (mvs net s) := by
  refine ⟨by have := mvs_len h s; omega, fun k hk => ?_⟩
  obtain ⟨f, t, _, ht, _, e⟩ := (mvs_mem net s _).1 (at_mem hk)
  exact ⟨_, e, moved_lt hs ht⟩
theorem I.eternalIn_n {net : List Int} (h : Ok net) : I.eternalIn_t net = some (lasts net) := by
  unfold I.eternalIn_t I.eternalIn_tree
  have h6 := h.hi
  have h64 := h.pow
  rw [I.movesIn_n h]
  simp only [optC]
  obtain ⟨m, e, hm, hiff⟩ := I.lastingIn_n h (R := (List.range (2 ^ net.length)).map (mvs net)) (by simp) (fun s hs => by rw [rows_at hs]; exact mvs_among h hs) (G := Eternal net)
    (fun m hm hin s hs he => by
      rw [rows_at hs, all_bits (ansS_lt2 hs (mvs_among h hs))]
      intro k hk
      refine (ansS_bit _ _ _ _).2 ?_
      cases hb : s.testBit k with
      | true => exact .inl rfl
      | false =>
        right
        obtain ⟨f, a, b, c⟩ := eternal_closed net s hs he k hk hb
        have hf := in_lt hs a
        obtain ⟨i, hi, ei⟩ := mem_at ((mvs_mem net s _).2 ⟨f, k, hf, hk, by unfold mayMove; rw [a, hb, h.sym k f hk hf, b]; rfl, rfl⟩)
        refine ⟨i, hi, ?_, ?_⟩
        · rw [ei, Int.toNat_natCast]; exact hin _ (moved_lt hs hk) c
        · rw [ei, Int.toNat_natCast]; exact (moved_testBit (by omega) (by omega) a k).2 (.inr rfl))
    (fun m hm hst s hs hb => by
      refine ⟨fun q => q < 2 ^ net.length ∧ D.elb m q = true, fun t ht ⟨_, htm⟩ k hk hbk => ?_, hs, hb⟩
      have hx := hst t ht htm
      rw [rows_at ht, all_bits (ansS_lt2 ht (mvs_among h ht))] at hx
      rcases (ansS_bit _ _ _ _).1 (hx k hk) with h1 | ⟨i, hi, h1, h2⟩
      · rw [hbk] at h1; cases h1
      · obtain ⟨f, u, hf, hu, hmv, e⟩ := (mvs_mem net t _).1 (at_mem hi)
        obtain ⟨a, b, c⟩ := mayMove_bit hmv
        rw [e, Int.toNat_natCast] at h1 h2
        rcases (moved_testBit (by omega) (by omega) a k).1 h2 with ⟨hc, _⟩ | hc
        · rw [hbk] at hc; cases hc
        · subst hc
          exact ⟨f, a, by rw [h.sym f k hf hk]; exact c, moved_lt ht hk, h1⟩)
  rw [e]
  simp only
  congr 1
  refine elb_ext (by rw [hm, lasts_len]) (fun s hs => ?_)
  rw [hm] at hs
  rw [lasts_elb hs, Bool.eq_iff_iff, eternalB_iff]
  exact hiff s hs
theorem I.fewestIn_n {l : List Bool} (hl : l.length ≤ 64) : I.fewestIn_t l = some (fold l.length (minStepV (D.elb l) size) (-1)) := by
  unfold I.fewestIn_t I.fewestIn_tree
  have := (run_for (run := I.fewestIn_run3 l) (len := l.length) (fun k (t : Int) => (t, (k : Int))) (minStepV (D.elb l) size) (fun t => t) (fun k t => -1 ≤ t ∧ t ≤ (6 : Nat)) (by omega) (fun n k t hk ht => ?_) (fun n t ht => ?_) (t0 := -1) (by omega)).1
  · exact congrArg (fun o => optC o (fun q => some q) none) this
  · refine ⟨?_, minStepV_bound (size_le k) ht⟩
    simp only [I.fewestIn_run3, I.fewestIn_step3]
    rw [cnd_t (by simp; omega), cnd_t (by simp; omega), Int.toNat_natCast, add1_nat (by omega)]
    cases hp : D.elb l k with
    | false => rw [cond_false, minStepV_no hp]
    | true =>
      rw [cond_true, I.sizeOf_n]
      simp only [optC]
      rw [I.fewerOf_V (D.elb l) size hp]
  · simp only [I.fewestIn_run3, I.fewestIn_step3]
    rw [cnd_f (by simp)]
theorem fewest_marks {net : List Int} (h : Ok net) {l : List Bool} (hl : l.length = 2 ^ net.length) {p : Nat → Bool} (hp : ∀ s, s < 2 ^ net.length → D.elb l s = p s) (hex : ∃ s, s < 2 ^ net.length ∧ p s = true) :
    fold l.length (minStepV (D.elb l) size) (-1) = ((minSize net p : Nat) : Int) := by
  rw [← minI_min h hex, hl]
  unfold minI
  rw [minStep_V]
  have key : ∀ N, N ≤ 2 ^ net.length → fold N (minStepV (D.elb l) size) (-1) = fold N (minStepV p size) (-1) := by
    intro N
    induction N with
    | zero => intro _; rfl
    | succ N ih =>
      intro hN
      rw [fold_succ, fold_succ, ih (by omega)]
      unfold minStepV
      rw [hp N (by omega)]
  exact key _ (Nat.le_refl _)
theorem I.FewestEternal_y {net : List Int} (h : Ok net) (e : I.NetOk_t net = some true) : I.FewestEternal_t net = some ((fewestEternal net : Nat) : Int) := by
  unfold I.FewestEternal_t I.FewestEternal_tree
  have h64 := h.pow
  rw [e, I.eternalIn_n h]
  simp only [optC, Bool.not_true, cond_false]
  rw [I.fewestIn_n (by rw [lasts_len]; omega), fewest_marks h (lasts_len net) (p := eternalB net) (fun s hs => lasts_elb hs) (eternal_some net)]
  rfl
end Go.Proofs.Ytleianhibhpgpaa
/- All guards move: a place for one more guard, who is matched already may have to take another one. Conditions: those of each theorem. -/
namespace Go.Proofs.Ytleianhibhpgpaa
open D Go.RowKit
set_option linter.unusedVariables false
set_option linter.unusedSimpArgs false

theorem cnt_some {n : Nat} {P : Nat → Bool} (h : 1 ≤ cnt n P) : ∃ p, p < n ∧ P p = true := Classical.byContradiction fun hc => by
  have : cnt n P = cnt n (fun _ => false) := cnt_congr fun k hk => not_true fun hP => hc ⟨k, hk, hP⟩
  have hz : cnt n (fun _ => false) = 0 := sumN_zero n
  omega
theorem cnt_once {n : Nat} {P : Nat → Bool} (h : cnt n P ≤ 1) {p q : Nat} (hp : p < n) (hq : q < n) (a : P p = true) (b : P q = true) : p = q := Classical.byContradiction fun hne => by
  have := cnt_inj (n := 2) (m := n) (p := fun _ => true) (q := P) (fun k => if k = 0 then p else q) (fun k hk _ => by
    show (if k = 0 then p else q) < n ∧ P (if k = 0 then p else q) = true
    split
    · exact ⟨hp, a⟩
    · exact ⟨hq, b⟩) (fun j k hj hk _ _ he => by
    by_cases h1 : j = 0 <;> by_cases h2 : k = 0 <;> simp only [h1, h2, if_true, if_false] at he <;> omega)
  rw [cnt_true] at this
  omega
/-- Whom a place has is near, and the place is one of the new ones. -/
def KValid (net : List Int) (to : Nat) (c : Nat → Nat) : Prop := ∀ p, p < 6 → c p ≠ 0 → to.testBit p = true ∧ (ball net (c p - 1)).testBit p = true ∧ c p ≤ net.length
def upd (c : Nat → Nat) (k v p : Nat) : Nat := if p = k then v else c p
structure KOut (net : List Int) (to g T : Nat) (c : Nat → Nat) (T' : Nat) (c' : Nat → Nat) (f : Bool) : Prop where
  lt : T' < 2 ^ net.length
  sub : ∀ p, T.testBit p = true → T'.testBit p = true
  no : f = false → (∀ p, p < 6 → c' p = c p) ∧ (∀ p, to.testBit p = true → (ball net g).testBit p = true → T'.testBit p = true) ∧
    ∀ p, T'.testBit p = true → T.testBit p = false → c p ≠ 0 ∧ ∀ q, to.testBit q = true → (ball net (c p - 1)).testBit q = true → T'.testBit q = true
  yes : f = true → (∀ p, p < 6 → T.testBit p = true → c' p = c p) ∧ KValid net to c' ∧ ∀ x, cnt 6 (fun p => !T.testBit p && c' p == x + 1) = cnt 6 (fun p => !T.testBit p && c p == x + 1) + (decide (x = g)).toNat
structure KInv (net : List Int) (to g T0 : Nat) (c : Nat → Nat) (k T : Nat) : Prop where
  lt : T < 2 ^ net.length
  sub : ∀ p, T0.testBit p = true → T.testBit p = true
  done : ∀ p, p < k → to.testBit p = true → (ball net g).testBit p = true → T.testBit p = true
  clo : ∀ p, T.testBit p = true → T0.testBit p = false → c p ≠ 0 ∧ ∀ q, to.testBit q = true → (ball net (c p - 1)).testBit q = true → T.testBit q = true
theorem kinv_start {net : List Int} {to g T0 : Nat} {c : Nat → Nat} (h : T0 < 2 ^ net.length) : KInv net to g T0 c 0 T0 :=
  ⟨h, fun p hp => hp, fun p hp => by omega, fun p hp hn => by rw [hp] at hn; cases hn⟩
theorem kinv_skip {net : List Int} {to g T0 : Nat} {c : Nat → Nat} {k T : Nat} (h : KInv net to g T0 c k T) (hc : to.testBit k = true → (ball net g).testBit k = true → T.testBit k = true) : KInv net to g T0 c (k + 1) T :=
  ⟨h.lt, h.sub, fun p hp a b => by
    by_cases he : p = k
    · subst he; exact hc a b
    · exact h.done p (by omega) a b, h.clo⟩
theorem or_pow {T k p : Nat} : (T ||| 2 ^ k).testBit p = true ↔ T.testBit p = true ∨ p = k := by
  rw [Nat.testBit_or, testBit_pow, Bool.or_eq_true, decide_eq_true_eq]
  exact ⟨fun a => a.imp id Eq.symm, fun a => a.imp id Eq.symm⟩
theorem or_pow_f {T k p : Nat} : (T ||| 2 ^ k).testBit p = false ↔ T.testBit p = false ∧ p ≠ k := by
  rw [Nat.testBit_or, testBit_pow, Bool.or_eq_false_iff, decide_eq_false_iff_not]
  exact ⟨fun a => ⟨a.1, fun e => a.2 e.symm⟩, fun a => ⟨a.1, fun e => a.2 e.symm⟩⟩
theorem kinv_fail {net : List Int} {to g T0 : Nat} {c : Nat → Nat} {k T T2 : Nat} {c2 : Nat → Nat} (h : KInv net to g T0 c k T) (hck : c k ≠ 0)
    (ho : KOut net to (c k - 1) (T ||| 2 ^ k) c T2 c2 false) : KInv net to g T0 c (k + 1) T2 := by
  obtain ⟨h1, h2, h3⟩ := ho.no rfl
  have hTT : ∀ p, T.testBit p = true → T2.testBit p = true := fun p hp => ho.sub p (or_pow.2 (.inl hp))
  refine ⟨ho.lt, fun p hp => hTT p (h.sub p hp), fun p hp a b => ?_, fun p hp hn => ?_⟩
  · by_cases he : p = k
    · subst he; exact ho.sub p (or_pow.2 (.inr rfl))
    · exact hTT p (h.done p (by omega) a b)
  · by_cases he : p = k
    · subst he
      exact ⟨hck, h2⟩
    · cases hT : T.testBit p with
      | true =>
        obtain ⟨a, b⟩ := h.clo p hT hn
        exact ⟨a, fun q hq hb => hTT q (b q hq hb)⟩
      | false => exact h3 p hp (or_pow_f.2 ⟨hT, he⟩)
theorem kout_end {net : List Int} (h : Ok net) {to g T0 : Nat} {c : Nat → Nat} {T : Nat} (hg : g < net.length) (hi : KInv net to g T0 c net.length T) : KOut net to g T0 c T c false :=
  ⟨hi.lt, hi.sub, fun _ => ⟨fun _ _ => rfl, fun p a b => hi.done p (testBit_lt (h.ball_lt hg) b) a b, hi.clo⟩, fun hf => (by cases hf)⟩
theorem kout_free {net : List Int} {to g T0 : Nat} {c : Nat → Nat} {k T : Nat} (hn : net.length ≤ 6) (hi : KInv net to g T0 c k T) (hv : KValid net to c) (hg : g < net.length) (hk : k < net.length)
    (a : to.testBit k = true) (b : (ball net g).testBit k = true) (hT : T.testBit k = false) (hck : c k = 0) : KOut net to g T0 c (T ||| 2 ^ k) (upd c k (g + 1)) true := by
  have hT0 : T0.testBit k = false := not_true fun hc => by rw [hi.sub k hc] at hT; cases hT
  refine ⟨Nat.or_lt_two_pow hi.lt (Nat.pow_lt_pow_right (by omega) hk), fun p hp => or_pow.2 (.inl (hi.sub p hp)), fun hf => (by cases hf), fun _ => ⟨fun p hp hT2 => ?_, fun p hp h0 => ?_, fun x => ?_⟩⟩
  · unfold upd
    rw [if_neg (fun he => by rw [he, hT0] at hT2; cases hT2)]
  · unfold upd at h0 ⊢
    by_cases he : p = k
    · simp only [he, if_true]
      exact ⟨a, by simpa using b, by omega⟩
    · rw [if_neg he] at h0 ⊢
      exact hv p hp h0
  · have hs := sumN_add 6 (fun p => (!T0.testBit p && c p == x + 1).toNat) (fun p => (decide (p = k) && decide (x = g)).toNat)
    have e1 : sumN 6 (fun p => (decide (p = k) && decide (x = g)).toNat) = (decide (x = g)).toNat := by
      rw [sumN_one (k := k) (by omega) (fun j _ hj => by simp [hj])]
      simp
    rw [e1] at hs
    show sumN 6 _ = sumN 6 _ + _
    rw [← hs]
    refine sumN_congr fun p hp => ?_
    show (!T0.testBit p && upd c k (g + 1) p == x + 1).toNat = (!T0.testBit p && c p == x + 1).toNat + (decide (p = k) && decide (x = g)).toNat
    unfold upd
    by_cases he : p = k
    · subst he
      rw [hT0, hck]
      by_cases hx : x = g
      · subst hx; simp
      · have : ¬ g = x := fun e => hx e.symm
        simp [hx, this]
    · rw [if_neg he]
      simp [he]
theorem kout_take {net : List Int} {to g T0 : Nat} {c : Nat → Nat} {k T T2 : Nat} {c2 : Nat → Nat} (hn : net.length ≤ 6) (hi : KInv net to g T0 c k T) (hg : g < net.length) (hk : k < net.length)
    (a : to.testBit k = true) (b : (ball net g).testBit k = true) (hT : T.testBit k = false) (hck : c k ≠ 0) (ho : KOut net to (c k - 1) (T ||| 2 ^ k) c T2 c2 true) : KOut net to g T0 c T2 (upd c2 k (g + 1)) true := by
  obtain ⟨h1, h2, h3⟩ := ho.yes rfl
  have hT0 : T0.testBit k = false := not_true fun hc => by rw [hi.sub k hc] at hT; cases hT
  refine ⟨ho.lt, fun p hp => ho.sub p (or_pow.2 (.inl (hi.sub p hp))), fun hf => (by cases hf), fun _ => ⟨fun p hp hT2 => ?_, fun p hp h0 => ?_, fun x => ?_⟩⟩
  · unfold upd
    rw [if_neg (fun he => by rw [he, hT0] at hT2; cases hT2)]
    exact h1 p hp (or_pow.2 (.inl (hi.sub p hT2)))
  · unfold upd at h0 ⊢
    by_cases he : p = k
    · simp only [he, if_true]
      exact ⟨a, by simpa using b, by omega⟩
    · rw [if_neg he] at h0 ⊢
      exact h2 p hp h0
  · have h3x := h3 x
    have hone : ∀ y : Nat, sumN 6 (fun p => (decide (p = k) && decide (x = y)).toNat) = (decide (x = y)).toNat := fun y => by
      rw [sumN_one (k := k) (by omega) (fun j _ hj => by simp [hj])]
      simp
    have hL := sumN_add 6 (fun p => (!T0.testBit p && upd c2 k (g + 1) p == x + 1).toNat) (fun p => (!(T ||| 2 ^ k).testBit p && c p == x + 1).toNat + (decide (p = k) && decide (x = c k - 1)).toNat)
    have hL2 := sumN_add 6 (fun p => (!(T ||| 2 ^ k).testBit p && c p == x + 1).toNat) (fun p => (decide (p = k) && decide (x = c k - 1)).toNat)
    have hR := sumN_add 6 (fun p => (!T0.testBit p && c p == x + 1).toNat) (fun p => (!(T ||| 2 ^ k).testBit p && c2 p == x + 1).toNat + (decide (p = k) && decide (x = g)).toNat)
    have hR2 := sumN_add 6 (fun p => (!(T ||| 2 ^ k).testBit p && c2 p == x + 1).toNat) (fun p => (decide (p = k) && decide (x = g)).toNat)
    have hE := sumN_congr (n := 6) (f := fun p => (!T0.testBit p && upd c2 k (g + 1) p == x + 1).toNat + ((!(T ||| 2 ^ k).testBit p && c p == x + 1).toNat + (decide (p = k) && decide (x = c k - 1)).toNat))
      (g := fun p => (!T0.testBit p && c p == x + 1).toNat + ((!(T ||| 2 ^ k).testBit p && c2 p == x + 1).toNat + (decide (p = k) && decide (x = g)).toNat)) (fun p hp => by
        unfold upd
        by_cases he : p = k
        · subst he
          rw [hT0, or_pow.2 (.inr rfl)]
          have e1 : (g + 1 == x + 1) = decide (x = g) := by rw [Bool.eq_iff_iff, beq_iff_eq, decide_eq_true_eq]; omega
          have e2 : (c p == x + 1) = decide (x = c p - 1) := by rw [Bool.eq_iff_iff, beq_iff_eq, decide_eq_true_eq]; omega
          simp only [if_true, Bool.not_false, Bool.not_true, Bool.true_and, Bool.false_and, e1, e2, decide_true]
          simp only [Bool.toNat_false]
          omega
        · simp only [if_neg he, decide_eq_false he, Bool.false_and, Bool.toNat_false, Nat.add_zero]
          cases hTp : (T ||| 2 ^ k).testBit p with
          | true => rw [h1 p hp hTp]
          | false =>
            have : T0.testBit p = false := not_true fun hc => by
              have := (or_pow_f.1 hTp).1
              rw [hi.sub p hc] at this; cases this
            rw [this]
            simp only [Bool.not_false, Bool.true_and]
            omega)
    rw [hone] at hL2 hR2
    have e0 : cnt 6 (fun p => !T0.testBit p && upd c2 k (g + 1) p == x + 1) = sumN 6 (fun p => (!T0.testBit p && upd c2 k (g + 1) p == x + 1).toNat) := rfl
    have e1 : cnt 6 (fun p => !T0.testBit p && c p == x + 1) = sumN 6 (fun p => (!T0.testBit p && c p == x + 1).toNat) := rfl
    have e2 : cnt 6 (fun p => !(T ||| 2 ^ k).testBit p && c2 p == x + 1) = sumN 6 (fun p => (!(T ||| 2 ^ k).testBit p && c2 p == x + 1).toNat) := rfl
    have e3 : cnt 6 (fun p => !(T ||| 2 ^ k).testBit p && c p == x + 1) = sumN 6 (fun p => (!(T ||| 2 ^ k).testBit p && c p == x + 1).toNat) := rfl
    rw [hL2] at hL
    rw [hR2] at hR
    rw [hE] at hL
    omega
/-- Those of the guards below k that are in a set have one place each. -/
def KDone (src : Nat) (c : Nat → Nat) (k : Nat) : Prop := ∀ x, cnt 6 (fun p => c p == x + 1) = (decide (x < k) && src.testBit x).toNat
theorem kdone_start (src : Nat) {c : Nat → Nat} (hc : ∀ p, p < 6 → c p = 0) : KDone src c 0 := fun x => by
  rw [cnt_congr (q := fun _ => false) (fun p hp => by rw [hc p hp]; simp)]
  exact sumN_zero 6
theorem kdone_skip {src k : Nat} {c : Nat → Nat} (h : KDone src c k) (hb : src.testBit k = false) : KDone src c (k + 1) := fun x => by
  rw [h x]
  congr 1
  by_cases he : x = k
  · subst he; rw [hb, Bool.and_false, Bool.and_false]
  · congr 1
    rw [decide_eq_decide]; omega
theorem cnt_zero_T {c : Nat → Nat} (x : Nat) : cnt 6 (fun p => !(0 : Nat).testBit p && c p == x + 1) = cnt 6 (fun p => c p == x + 1) := cnt_congr fun p _ => by simp
theorem kdone_step {net : List Int} {src to k T' : Nat} {c c' : Nat → Nat} (h : KDone src c k) (hb : src.testBit k = true) (ho : KOut net to k 0 c T' c' true) : KDone src c' (k + 1) := fun x => by
  have := (ho.yes rfl).2.2 x
  rw [cnt_zero_T, cnt_zero_T, h x] at this
  rw [this]
  by_cases he : x = k
  · subst he; simp [hb]
  · have e1 : decide (x < k + 1) = decide (x < k) := by rw [decide_eq_decide]; omega
    rw [e1, decide_eq_false he]; simp
theorem kuhn_no {net : List Int} (h : Ok net) {src to k T' : Nat} {c c' : Nat → Nat} (hto : to < 2 ^ net.length) (hd : KDone src c k) (hb : src.testBit k = true) (ho : KOut net to k 0 c T' c' false) : ¬ FitP net src 0 to := by
  rintro ⟨f, f1, f2⟩
  obtain ⟨_, h2, h3⟩ := ho.no rfl
  have h6 := h.hi
  have hT6 : ∀ p, T'.testBit p = true → p < 6 := fun p hp => by have := testBit_lt ho.lt hp; omega
  have hin : ∀ p, T'.testBit p = true → c p ≠ 0 ∧ c p - 1 < k ∧ src.testBit (c p - 1) = true := fun p hp => by
    have h0 := (h3 p hp (by simp)).1
    have hc := hd (c p - 1)
    have h1 : 1 ≤ cnt 6 (fun q => c q == c p - 1 + 1) := by
      have := cnt_inj (n := 1) (m := 6) (p := fun _ => true) (q := fun q => c q == c p - 1 + 1) (fun _ => p) (fun j _ _ => ⟨hT6 p hp, by simp only [beq_iff_eq]; omega⟩) (fun i j hi hj _ _ _ => by omega)
      rw [cnt_true] at this
      exact this
    rw [hc] at h1
    cases hx : decide (c p - 1 < k) && src.testBit (c p - 1) with
    | false => rw [hx] at h1; simp at h1
    | true =>
      rw [Bool.and_eq_true, decide_eq_true_eq] at hx
      exact ⟨h0, hx.1, hx.2⟩
  have hinj : ∀ p q, T'.testBit p = true → T'.testBit q = true → c p = c q → p = q := fun p q hp hq he => by
    have hc := hd (c p - 1)
    have h0 := (hin p hp).1
    exact cnt_once (n := 6) (P := fun r => c r == c p - 1 + 1) (by rw [hc]; cases (decide (c p - 1 < k) && src.testBit (c p - 1)) <;> simp) (hT6 p hp) (hT6 q hq) (by simp only [beq_iff_eq]; omega) (by simp only [beq_iff_eq]; omega)
  have key := cnt_inj (n := 7) (m := 6) (p := fun p => decide (p = 6) || T'.testBit p) (q := fun p => T'.testBit p) (fun p => if p = 6 then f k else f (c p - 1)) (fun p hp hP => by
    by_cases he : p = 6
    · rw [if_pos he]
      obtain ⟨a, b⟩ := f1 k (by omega) hb
      have := h2 _ a b
      exact ⟨hT6 _ this, this⟩
    · rw [if_neg he]
      have hTp : T'.testBit p = true := by simpa [he] using hP
      obtain ⟨a, b⟩ := f1 (c p - 1) (by omega) (hin p hTp).2.2
      have := (h3 p hTp (by simp)).2 _ a b
      exact ⟨hT6 _ this, this⟩) (fun p q hp hq hP hQ he => by
    by_cases e1 : p = 6
    · by_cases e2 : q = 6
      · omega
      · rw [if_pos e1, if_neg e2] at he
        have hTq : T'.testBit q = true := by simpa [e2] using hQ
        obtain ⟨_, a, b⟩ := hin q hTq
        have := f2 k (c q - 1) (by omega) (by omega) hb b he
        omega
    · have hTp : T'.testBit p = true := by simpa [e1] using hP
      obtain ⟨a0, a, b⟩ := hin p hTp
      by_cases e2 : q = 6
      · rw [if_neg e1, if_pos e2] at he
        have := f2 (c p - 1) k (by omega) (by omega) b hb he
        omega
      · rw [if_neg e1, if_neg e2] at he
        have hTq : T'.testBit q = true := by simpa [e2] using hQ
        obtain ⟨b0, a2, b2⟩ := hin q hTq
        have := f2 (c p - 1) (c q - 1) (by omega) (by omega) b b2 he
        exact hinj p q hTp hTq (by omega))
  have e7 : cnt 7 (fun p => decide (p = 6) || T'.testBit p) = cnt 6 (fun p => decide (p = 6) || T'.testBit p) + 1 := rfl
  rw [e7, cnt_congr (q := fun p => T'.testBit p) (fun p hp => by simp [show p ≠ 6 by omega])] at key
  omega
theorem kuhn_yes {net : List Int} (h : Ok net) {src to : Nat} {c : Nat → Nat} (hs : src < 2 ^ net.length) (hv : KValid net to c) (hd : KDone src c net.length) : FitP net src 0 to := by
  have hex : ∀ x, ∃ p, src.testBit x = true → p < 6 ∧ c p = x + 1 := fun x => by
    cases hb : src.testBit x with
    | false => exact ⟨0, fun hc => by cases hc⟩
    | true =>
      have hx := in_lt hs hb
      have hc := hd x
      rw [hb, decide_eq_true hx] at hc
      obtain ⟨p, hp, he⟩ := cnt_some (n := 6) (P := fun p => c p == x + 1) (by rw [hc]; decide)
      exact ⟨p, fun _ => ⟨hp, by simpa using he⟩⟩
  refine ⟨fun x => (hex x).choose, fun x _ hb => ?_, fun x y _ _ hx hy he => ?_⟩
  · obtain ⟨hp, hc⟩ := (hex x).choose_spec hb
    obtain ⟨a, b, _⟩ := hv _ hp (by omega)
    exact ⟨a, by rw [hc] at b; exact b⟩
  · obtain ⟨_, hc⟩ := (hex x).choose_spec hx
    obtain ⟨_, hc2⟩ := (hex y).choose_spec hy
    simp only at he
    rw [he] at hc
    omega
end Go.Proofs.Ytleianhibhpgpaa
/- A new place for each guard: the program's matching. Conditions: those of each theorem. -/
namespace Go.Proofs.Ytleianhibhpgpaa
open D Go.RowKit
set_option linter.unusedVariables false
set_option linter.unusedSimpArgs false


/-- The answer of a matching, in Go's numbers. -/
def kAns (c : Nat → Nat) (T : Nat) (f : Bool) : Int × Int × Int × Int × Int × Int × Int × Bool := (((c 0 : Nat) : Int), ((c 1 : Nat) : Int), ((c 2 : Nat) : Int), ((c 3 : Nat) : Int), ((c 4 : Nat) : Int), ((c 5 : Nat) : Int), ((T : Nat) : Int), f)
theorem eli6 (c : Nat → Nat) {k : Nat} (hk : k < 6) : D.eli [((c 0 : Nat) : Int), ((c 1 : Nat) : Int), ((c 2 : Nat) : Int), ((c 3 : Nat) : Int), ((c 4 : Nat) : Int), ((c 5 : Nat) : Int)] k = ((c k : Nat) : Int) := by
  match k, hk with
  | 0, _ => rfl
  | 1, _ => rfl
  | 2, _ => rfl
  | 3, _ => rfl
  | 4, _ => rfl
  | 5, _ => rfl
theorem upd_bif (c : Nat → Nat) (k v j : Nat) : (bif ((k : Nat) : Int) == ((j : Nat) : Int) then ((v : Nat) : Int) else ((c j : Nat) : Int)) = ((upd c k v j : Nat) : Int) := by
  rw [nat_beq]
  unfold upd
  by_cases h : j = k
  · subst h; simp
  · rw [if_neg h]
    have : (k == j) = false := by rw [beq_eq_false_iff_ne]; exact fun e => h e.symm
    rw [this]; rfl
theorem upd_b0 (c : Nat → Nat) (k v : Nat) : (bif ((k : Nat) : Int) == (0 : Int) then ((v : Nat) : Int) else ((c 0 : Nat) : Int)) = ((upd c k v 0 : Nat) : Int) := upd_bif c k v 0
theorem upd_b1 (c : Nat → Nat) (k v : Nat) : (bif ((k : Nat) : Int) == (0 + 1 : Int) then ((v : Nat) : Int) else ((c 1 : Nat) : Int)) = ((upd c k v 1 : Nat) : Int) := upd_bif c k v 1
theorem upd_b2 (c : Nat → Nat) (k v : Nat) : (bif ((k : Nat) : Int) == (0 + 1 + 1 : Int) then ((v : Nat) : Int) else ((c 2 : Nat) : Int)) = ((upd c k v 2 : Nat) : Int) := upd_bif c k v 2
theorem upd_b3 (c : Nat → Nat) (k v : Nat) : (bif ((k : Nat) : Int) == (0 + 1 + 1 + 1 : Int) then ((v : Nat) : Int) else ((c 3 : Nat) : Int)) = ((upd c k v 3 : Nat) : Int) := upd_bif c k v 3
theorem upd_b4 (c : Nat → Nat) (k v : Nat) : (bif ((k : Nat) : Int) == (0 + 1 + 1 + 1 + 1 : Int) then ((v : Nat) : Int) else ((c 4 : Nat) : Int)) = ((upd c k v 4 : Nat) : Int) := upd_bif c k v 4
theorem upd_b5 (c : Nat → Nat) (k v : Nat) : (bif ((k : Nat) : Int) == (0 + 1 + 1 + 1 + 1 + 1 : Int) then ((v : Nat) : Int) else ((c 5 : Nat) : Int)) = ((upd c k v 5 : Nat) : Int) := upd_bif c k v 5
theorem I.matchedWith_loop [r_ : I.matchedWith_r_R] {net : List Int} (h : Ok net) {to g T0 : Nat} (hto : to < 2 ^ net.length) (hg : g < net.length) {c : Nat → Nat} (hv : KValid net to c)
    (hrec : ∀ g2 T2, g2 < net.length → T2 < 2 ^ net.length → card net.length T0 < card net.length T2 → ∃ T3 c3 f3, I.matchedWith_r0_t net (to : Int) (g2 : Int) (c 0 : Nat) (c 1 : Nat) (c 2 : Nat) (c 3 : Nat) (c 4 : Nat) (c 5 : Nat) (T2 : Int) false = some (kAns c3 T3 f3) ∧ KOut net to g2 T2 c T3 c3 f3) :
    ∀ (m k N T : Nat), k + m = net.length → m < N → KInv net to g T0 c k T →
      (∃ T3 c3, I.matchedWith_r_run3 net (to : Int) (g : Int) N ((k : Int), 0, 0, 0, 0, 0, 0, 0, false, (c 0 : Nat), (c 1 : Nat), (c 2 : Nat), (c 3 : Nat), (c 4 : Nat), (c 5 : Nat), (T : Int), false) =
        some (.inl (((c3 0 : Nat) : Int), ((c3 1 : Nat) : Int), ((c3 2 : Nat) : Int), ((c3 3 : Nat) : Int), ((c3 4 : Nat) : Int), ((c3 5 : Nat) : Int), ((T3 : Nat) : Int), true, ((c3 0 : Nat) : Int), ((c3 1 : Nat) : Int), ((c3 2 : Nat) : Int), ((c3 3 : Nat) : Int), ((c3 4 : Nat) : Int), ((c3 5 : Nat) : Int), ((T3 : Nat) : Int), true)) ∧ KOut net to g T0 c T3 c3 true) ∨
      (∃ T3, I.matchedWith_r_run3 net (to : Int) (g : Int) N ((k : Int), 0, 0, 0, 0, 0, 0, 0, false, (c 0 : Nat), (c 1 : Nat), (c 2 : Nat), (c 3 : Nat), (c 4 : Nat), (c 5 : Nat), (T : Int), false) =
        some (.inr (0, 0, 0, 0, 0, 0, 0, false, ((c 0 : Nat) : Int), ((c 1 : Nat) : Int), ((c 2 : Nat) : Int), ((c 3 : Nat) : Int), ((c 4 : Nat) : Int), ((c 5 : Nat) : Int), ((T3 : Nat) : Int), false)) ∧ KOut net to g T0 c T3 c false) := by
  have h6 := h.hi
  have h64 := h.pow
  have hbl := h.ball_lt hg
  have hab : to &&& ball net g < 2 ^ net.length := Nat.lt_of_le_of_lt Nat.and_le_left hto
  intro m
  induction m with
  | zero =>
    intro k N T hk hN hi
    obtain ⟨N, rfl⟩ : ∃ N', N = N' + 1 := ⟨N - 1, by omega⟩
    obtain rfl : k = net.length := by omega
    right
    refine ⟨T, ?_, kout_end h hg hi⟩
    simp only [I.matchedWith_r_run3, I.matchedWith_r_step3]
    rw [cnd_f (by simp)]
  | succ m ih =>
    intro k N T hk hN hi
    obtain ⟨N, rfl⟩ : ∃ N', N = N' + 1 := ⟨N - 1, by omega⟩
    have hkn : k < net.length := by omega
    have hT := hi.lt
    have hmin : minus (to &&& ball net g) T < 2 ^ net.length := Nat.lt_of_le_of_lt Nat.and_le_left hab
    simp only [I.matchedWith_r_run3, I.matchedWith_r_step3]
    rw [cnd_t (by simp; omega), I.ballIn_n h hg]
    simp only [optC]
    rw [i64_and_nat _ _ (by omega) (by omega), i64_andNot_nat _ _ (by omega) (by omega), I.hasPlace_n _ _ (by omega)]
    simp only
    have hcd : (minus (to &&& ball net g) T).testBit k = ((to.testBit k && (ball net g).testBit k) && !T.testBit k) := by
      rw [minus_testBit _ _ (by omega) (by omega), Nat.testBit_and]
    rw [hcd]
    cases hc : (to.testBit k && (ball net g).testBit k) && !T.testBit k with
    | false =>
      rw [Bool.not_false, cond_true, add1_nat (by omega)]
      refine ih (k + 1) N T (by omega) (by omega) (kinv_skip hi fun a b => ?_)
      rw [a, b] at hc
      simpa using hc
    | true =>
      rw [Bool.and_eq_true, Bool.and_eq_true, Bool.not_eq_true'] at hc
      obtain ⟨⟨a, b⟩, hTk⟩ := hc
      have hT2 : T ||| 2 ^ k < 2 ^ net.length := Nat.or_lt_two_pow hT (Nat.pow_lt_pow_right (by omega) hkn)
      rw [Bool.not_true, cond_false, I.with_n (by omega) (by omega)]
      simp only
      rw [cnd_t (by simp; omega), Int.toNat_natCast, eli6 c (by omega), nat_eq0]
      cases h0 : c k == 0 with
      | true =>
        rw [cond_true, cnd_t (by simp; omega), add1_nat (a := g) (by omega)]
        rw [upd_b0, upd_b1, upd_b2, upd_b3, upd_b4, upd_b5]
        exact .inl ⟨T ||| 2 ^ k, upd c k (g + 1), rfl, kout_free h6 hi hv hg hkn a b hTk (by simpa using h0)⟩
      | false =>
        have hck : c k ≠ 0 := by simpa using h0
        have hle := (hv k (by omega) hck).2.2
        rw [cond_false, cnd_t (by simp; omega), sub1_nat (by omega) (by omega)]
        obtain ⟨T3, c3, f3, e3, ho⟩ := hrec (c k - 1) (T ||| 2 ^ k) (by omega) hT2 (by
          refine Nat.lt_of_le_of_lt (card_mono (t := T) fun j _ hj => hi.sub j hj) (card_lt (i := k) (fun j _ hj => or_pow.2 (.inl hj)) hkn hTk (or_pow.2 (.inr rfl))))
        rw [e3]
        simp only [kAns]
        cases f3 with
        | true =>
          rw [cond_true, cnd_t (by simp; omega), add1_nat (a := g) (by omega)]
          rw [upd_b0, upd_b1, upd_b2, upd_b3, upd_b4, upd_b5]
          exact .inl ⟨T3, upd c3 k (g + 1), rfl, kout_take h6 hi hg hkn a b hTk hck ho⟩
        | false =>
          have hsame := (ho.no rfl).1
          rw [cond_false, add1_nat (by omega), hsame 0 (by omega), hsame 1 (by omega), hsame 2 (by omega), hsame 3 (by omega), hsame 4 (by omega), hsame 5 (by omega)]
          exact ih (k + 1) N T3 (by omega) (by omega) (kinv_fail hi hck ho)
theorem I.matchedWith_d {net : List Int} (h : Ok net) {to : Nat} (hto : to < 2 ^ net.length) : ∀ (d g T : Nat) (c : Nat → Nat), g < net.length → T < 2 ^ net.length → net.length < d + card net.length T → KValid net to c →
    ∃ T3 c3 f3, I.matchedWith_td d net (to : Int) (g : Int) (c 0 : Nat) (c 1 : Nat) (c 2 : Nat) (c 3 : Nat) (c 4 : Nat) (c 5 : Nat) (T : Int) false = some (kAns c3 T3 f3) ∧ KOut net to g T c T3 c3 f3 := by
  intro d
  induction d with
  | zero => intro g T c _ _ hd _; have := card_le net.length T; omega
  | succ d ih =>
    intro g T c hg hT hd hv
    have hF := FUEL_le
    have h6 := h.hi
    have key := @I.matchedWith_loop ⟨I.matchedWith_td d⟩ net h to g T hto hg c hv (fun g2 T2 h2 hT2 hc => ih g2 T2 c h2 hT2 (by omega) hv) net.length 0 FUEL T (by omega) (by omega) (kinv_start hT)
    show ∃ T3 c3 f3, @I.matchedWith_r_t ⟨I.matchedWith_td d⟩ net (to : Int) (g : Int) (c 0 : Nat) (c 1 : Nat) (c 2 : Nat) (c 3 : Nat) (c 4 : Nat) (c 5 : Nat) (T : Int) false = some (kAns c3 T3 f3) ∧ KOut net to g T c T3 c3 f3
    unfold I.matchedWith_r_t I.matchedWith_r_tree
    rcases key with ⟨T3, c3, e, ho⟩ | ⟨T3, e, ho⟩
    · refine ⟨T3, c3, true, ?_, ho⟩
      rw [show (0 : Int) = ((0 : Nat) : Int) from rfl] at e
      rw [show (0 : Int) = ((0 : Nat) : Int) from rfl, e]
      rfl
    · refine ⟨T3, c, false, ?_, ho⟩
      rw [show (0 : Int) = ((0 : Nat) : Int) from rfl] at e
      rw [show (0 : Int) = ((0 : Nat) : Int) from rfl, e]
      rfl
theorem I.matchedWith_n {net : List Int} (h : Ok net) {to : Nat} (hto : to < 2 ^ net.length) {g : Nat} (hg : g < net.length) {c : Nat → Nat} (hv : KValid net to c) :
    ∃ T3 c3 f3, I.matchedWith_t net (to : Int) (g : Int) (c 0 : Nat) (c 1 : Nat) (c 2 : Nat) (c 3 : Nat) (c 4 : Nat) (c 5 : Nat) 0 false = some (kAns c3 T3 f3) ∧ KOut net to g 0 c T3 c3 f3 :=
  I.matchedWith_d h hto FUEL g 0 c hg (Nat.two_pow_pos _) (by have := FUEL_le; have := h.hi; omega) hv
theorem I.allMoveIn_loop {net : List Int} (h : Ok net) {src to : Nat} (hs : src < 2 ^ net.length) (hto : to < 2 ^ net.length) : ∀ (m k N : Nat) (c : Nat → Nat) (T : Int) (f : Bool), k + m = net.length → m < N → KValid net to c → KDone src c k →
    I.allMoveIn_run5 net (src : Int) (to : Int) N ((k : Int), (c 0 : Nat), (c 1 : Nat), (c 2 : Nat), (c 3 : Nat), (c 4 : Nat), (c 5 : Nat), T, f) = some (bif fitB net src 0 to then .inr () else .inl false) := by
  have h6 := h.hi
  have h64 := h.pow
  intro m
  induction m with
  | zero =>
    intro k N c T f hk hN hv hd
    obtain ⟨N, rfl⟩ : ∃ N', N = N' + 1 := ⟨N - 1, by omega⟩
    obtain rfl : k = net.length := by omega
    simp only [I.allMoveIn_run5, I.allMoveIn_step5]
    rw [cnd_f (by simp), fitB_iff.2 (kuhn_yes h hs hv hd)]
    rfl
  | succ m ih =>
    intro k N c T f hk hN hv hd
    obtain ⟨N, rfl⟩ : ∃ N', N = N' + 1 := ⟨N - 1, by omega⟩
    have hkn : k < net.length := by omega
    simp only [I.allMoveIn_run5, I.allMoveIn_step5]
    rw [cnd_t (by simp; omega), I.hasPlace_n _ _ (by omega)]
    simp only [optC]
    cases hb : src.testBit k with
    | false =>
      rw [Bool.not_false, cond_true, add1_nat (by omega)]
      exact ih (k + 1) N c T f (by omega) (by omega) hv (kdone_skip hd hb)
    | true =>
      obtain ⟨T3, c3, f3, e3, ho⟩ := I.matchedWith_n h hto hkn hv
      rw [Bool.not_true, cond_false, e3]
      simp only [kAns]
      cases f3 with
      | false =>
        have : fitB net src 0 to = false := not_true fun hc => kuhn_no h hto hd hb ho (fitB_iff.1 hc)
        rw [this]
        rfl
      | true =>
        rw [Bool.not_true, cond_false, add1_nat (by omega)]
        exact ih (k + 1) N c3 _ _ (by omega) (by omega) (ho.yes rfl).2.1 (kdone_step hd hb ho)
theorem I.allMoveIn_n {net : List Int} (h : Ok net) {src to : Nat} (hs : src < 2 ^ net.length) (hto : to < 2 ^ net.length) : I.allMoveIn_t net (src : Int) (to : Int) = some (allMoveB net src to) := by
  unfold I.allMoveIn_t I.allMoveIn_tree
  have h6 := h.hi
  have hF := FUEL_le
  rw [I.sizeOf_n, I.sizeOf_n]
  simp only [optC]
  rw [nat_beq]
  unfold allMoveB
  cases hz : size src == size to with
  | false => rfl
  | true =>
    have := I.allMoveIn_loop h hs hto net.length 0 FUEL (fun _ => 0) 0 false (by omega) (by omega) (fun p hp h0 => absurd rfl h0) (kdone_start src fun p hp => rfl)
    rw [Bool.not_true, cond_false, Bool.true_and]
    rw [show I.allMoveIn_run5 net (src : Int) (to : Int) FUEL (0, 0, 0, 0, 0, 0, 0, 0, false) = _ from this]
    cases fitB net src 0 to <;> rfl
end Go.Proofs.Ytleianhibhpgpaa
/- The program's functions of chapter 10 in natural numbers. Conditions: those of each theorem. -/
namespace Go.Proofs.Ytleianhibhpgpaa
open D Go.RowKit
set_option linter.unusedVariables false
set_option linter.unusedSimpArgs false


/-- The sets to which all can move. -/
noncomputable def avs (net : List Int) (s : Nat) : List Int := listOfN (2 ^ net.length) (allMoveB net s)
theorem I.allMovesOf_n {net : List Int} (h : Ok net) {s : Nat} (hs : s < 2 ^ net.length) : I.allMovesOf_t net (s : Int) = some (avs net s) := by
  unfold I.allMovesOf_t I.allMovesOf_tree
  have h6 := h.hi
  have h64 := h.pow
  have hsu := allOf_succ net
  have := (run_for (run := I.allMovesOf_run3 net s) (len := 2 ^ net.length) (fun k (t : List Int) => ((k : Int), t)) (fun t k => if allMoveB net s k = true then t ++ [(k : Int)] else t) (fun t => t) (fun k t => t.length ≤ k) (by omega) (fun n k t hk ht => ?_) (fun n t ht => ?_) (t0 := []) (Nat.le_refl _)).1
  · exact congrArg (fun o => optC o (fun q => some q) none) this
  · simp only [I.allMovesOf_run3, I.allMovesOf_step3]
    rw [I.allOf_n h]
    simp only [optC]
    rw [cnd_t (by rw [decide_eq_true_eq]; omega), I.allMoveIn_n h hs hk, add1_nat (by omega)]
    simp only
    cases hb : allMoveB net s k with
    | false => simp only [cond_false, Bool.false_eq_true, if_false]; exact ⟨trivial, by omega⟩
    | true =>
      rw [cond_true, if_pos rfl, cnd_t (by unfold D.small; rw [decide_eq_true_eq, List.length_append]; simp; omega)]
      exact ⟨rfl, by rw [List.length_append]; simp; omega⟩
  · simp only [I.allMovesOf_run3, I.allMovesOf_step3]
    rw [I.allOf_n h]
    simp only [optC]
    rw [cnd_f (by rw [decide_eq_false_iff_not]; omega)]
theorem I.allMovesIn_n {net : List Int} (h : Ok net) : I.allMovesIn_t net = some ((List.range (2 ^ net.length)).map (avs net)) := by
  unfold I.allMovesIn_t I.allMovesIn_tree
  have h6 := h.hi
  have h64 := h.pow
  have hsu := allOf_succ net
  rw [I.allOf_n h]
  simp only [optC]
  have := run_for (run := I.allMovesIn_run3 net) (len := 2 ^ net.length) (fun k (t : List (List Int)) => ((k : Int), t)) (fun t k => t.set k (avs net k)) (fun t => t) (fun k t => t.length = 2 ^ net.length ∧ ∀ j, j < k → D.elr t j = avs net j) (by omega) (fun n k t hk ht => ?_) (fun n t ht => ?_) (t0 := List.replicate (2 ^ net.length) []) ⟨by simp, fun j hj => by omega⟩
  · obtain ⟨e, l1, l2⟩ := this
    rw [add1_nat (by omega), hsu, Int.toNat_natCast, cnd_t (by simp only [D.small, Bool.and_true, Bool.and_eq_true, decide_eq_true_eq]; exact ⟨Int.natCast_nonneg _, by omega⟩), show I.allMovesIn_run3 net FUEL (0, List.replicate (2 ^ net.length) []) = _ from e]
    show some _ = some _
    rw [rows_ext l1 l2]
  · obtain ⟨l1, l2⟩ := ht
    refine ⟨?_, by simp [l1], fun j hj => ?_⟩
    · simp only [I.allMovesIn_run3, I.allMovesIn_step3]
      rw [I.allOf_n h]
      simp only [optC]
      rw [cnd_t (by rw [decide_eq_true_eq]; omega), I.allMovesOf_n h hk, add1_nat (by omega)]
      simp only
      rw [cnd_t (by simp only [Bool.and_eq_true, decide_eq_true_eq]; omega), Int.toNat_natCast, cnd_t (by rw [decide_eq_true_eq]; omega)]
    · rw [elr_set (by omega)]
      by_cases he : j = k
      · rw [if_pos he, he]
      · rw [if_neg he]; exact l2 j (by omega)
  · simp only [I.allMovesIn_run3, I.allMovesIn_step3]
    rw [I.allOf_n h]
    simp only [optC]
    rw [cnd_f (by rw [decide_eq_false_iff_not]; omega)]
theorem avs_among {net : List Int} (h : Ok net) (s : Nat) : Among net.length (avs net s) := by
  have h64 := h.pow
  refine ⟨by have := listOfN_len (2 ^ net.length) (allMoveB net s); unfold avs; omega, fun k hk => ?_⟩
  obtain ⟨u, hu, _, e⟩ := listOfN_eli hk
  exact ⟨u, e, hu⟩
theorem I.allEternalIn_n {net : List Int} (h : Ok net) : I.allEternalIn_t net = some (lastsA net) := by
  unfold I.allEternalIn_t I.allEternalIn_tree
  have h6 := h.hi
  have h64 := h.pow
  rw [I.allMovesIn_n h]
  simp only [optC]
  obtain ⟨m, e, hm, hiff⟩ := I.lastingIn_n h (R := (List.range (2 ^ net.length)).map (avs net)) (by simp) (fun s hs => by rw [rows_at hs]; exact avs_among h s) (G := AllEternal net)
    (fun m hm hin s hs he => by
      rw [rows_at hs, all_bits (ansS_lt2 hs (avs_among h s))]
      intro k hk
      refine (ansS_bit _ _ _ _).2 ?_
      cases hb : s.testBit k with
      | true => exact .inl rfl
      | false =>
        right
        obtain ⟨u, a, b, c, d⟩ := allEternal_closed net s hs he k hk hb
        obtain ⟨i, hi, ei⟩ := mem_at ((listOfN_mem (2 ^ net.length) (allMoveB net s) (u : Int)).2 ⟨u, a, allMoveB_iff.2 c, rfl⟩)
        refine ⟨i, hi, ?_, ?_⟩
        · rw [show D.eli (avs net s) i = (u : Int) from ei, Int.toNat_natCast]; exact hin _ a d
        · rw [show D.eli (avs net s) i = (u : Int) from ei, Int.toNat_natCast]; exact b)
    (fun m hm hst s hs hb => by
      refine ⟨fun q => q < 2 ^ net.length ∧ D.elb m q = true, fun t ht ⟨_, htm⟩ k hk hbk => ?_, hs, hb⟩
      have hx := hst t ht htm
      rw [rows_at ht, all_bits (ansS_lt2 ht (avs_among h t))] at hx
      rcases (ansS_bit _ _ _ _).1 (hx k hk) with h1 | ⟨i, hi, h1, h2⟩
      · rw [hbk] at h1; cases h1
      · obtain ⟨u, hu, hmv, e⟩ := listOfN_eli hi
        rw [show D.eli (avs net t) i = (u : Int) from e, Int.toNat_natCast] at h1 h2
        exact ⟨u, hu, h2, allMoveB_iff.1 hmv, hu, h1⟩)
  rw [e]
  simp only
  congr 1
  refine elb_ext (by rw [hm, lastsA_len]) (fun s hs => ?_)
  rw [hm] at hs
  rw [lastsA_elb hs, Bool.eq_iff_iff, allEternalB_iff]
  exact hiff s hs
theorem I.FewestAllEternal_y {net : List Int} (h : Ok net) (e : I.NetOk_t net = some true) : I.FewestAllEternal_t net = some ((fewestAllEternal net : Nat) : Int) := by
  unfold I.FewestAllEternal_t I.FewestAllEternal_tree
  have h64 := h.pow
  rw [e, I.allEternalIn_n h]
  simp only [optC, Bool.not_true, cond_false]
  rw [I.fewestIn_n (by rw [lastsA_len]; omega), fewest_marks h (lastsA_len net) (p := allEternalB net) (fun s hs => lastsA_elb hs) ⟨allOf net, allOf_lt net, allEternalB_iff.2 (allEternal_all net h)⟩]
  rfl
end Go.Proofs.Ytleianhibhpgpaa
/- The program's functions of chapter 13 (at ae9a42a), and PlayMay, in natural numbers. Conditions: those of each theorem. -/
namespace Go.Proofs.Ytleianhibhpgpaa
open D Go.RowKit
set_option linter.unusedVariables false
set_option linter.unusedSimpArgs false


theorem RG.nx_len {r : List Nat} (h : RG r) : nx r ≤ r.length := by
  have : ∀ m, m ≤ r.length → nx (r.take m) ≤ m := by
    intro m
    induction m with
    | zero => intro _; simp [nx]
    | succ m ih => intro hm; rw [nx_take_succ (by omega)]; have := ih (by omega); have := h m (by omega); omega
  have := this r.length (Nat.le_refl _)
  rwa [List.take_length] at this
theorem I.numbersOf_n {q : List Nat} (hq : RG q) (hl : q.length ≤ 7) : I.numbersOf_t (nl q) = some ((nx q : Nat) : Int) := by
  unfold I.numbersOf_t I.numbersOf_tree
  have hll := nl_len q
  have := run_for (run := I.numbersOf_run3 (nl q)) (len := q.length) (fun k (t : Nat) => ((t : Int), (k : Int))) (fun t k => max t (q.getD k 0 + 1)) (fun t => (t : Int)) (fun k t => t = nx (q.take k) ∧ t ≤ k) (by omega) (fun n k t hk ht => ?_) (fun n t ht => ?_) (t0 := 0) ⟨by simp [nx], Nat.le_refl _⟩
  · obtain ⟨h1, h2, _⟩ := this
    rw [List.take_length] at h2
    rw [h2] at h1
    exact congrArg (fun o => optC o (fun q => some q) none) h1
  · obtain ⟨e, hle⟩ := ht
    have hr := hq k hk
    rw [← e] at hr
    refine ⟨?_, by rw [nx_take_succ hk, e], by omega⟩
    simp only [I.numbersOf_run3, I.numbersOf_step3]
    rw [cnd_t (by simp; omega), cnd_t (by simp; omega), Int.toNat_natCast, nl_at hk, nat_beq, add1_nat (a := k) (by omega), add1_nat (by omega)]
    by_cases hv : q.getD k 0 = t
    · rw [cnd_t (by simpa using hv), hv, Nat.max_eq_right (by omega)]
    · rw [cnd_f (by simpa using hv), Nat.max_eq_left (by omega)]
  · simp only [I.numbersOf_run3, I.numbersOf_step3]
    rw [cnd_f (by simp; omega)]
theorem I.placesWith_sl {r : List Nat} (hr : r.length ≤ 6) (v : Nat) : I.placesWith_t (nl r) (v : Int) = some ((setL r v : Nat) : Int) := by
  unfold I.placesWith_t I.placesWith_tree
  have hl := nl_len r
  have h7 : (2 : Nat) ^ r.length ≤ 2 ^ 6 := Nat.pow_le_pow_right (by omega) hr
  have := (run_for (run := I.placesWith_run3 (nl r) v) (len := r.length) (fun k (t : Nat) => ((t : Int), (k : Int))) (fun t k => if decide (r.getD k 0 = v) = true then t ||| 2 ^ k else t) (fun t => (t : Int)) (fun k t => t < 2 ^ r.length) (by omega) (fun f k t hk ht => ?_) (fun f t ht => ?_) (t0 := 0) (Nat.two_pow_pos _)).1
  · exact congrArg (fun o => optC o (fun q => some q) none) this
  · have hpk : 2 ^ k < 2 ^ r.length := Nat.pow_lt_pow_right (by omega) hk
    simp only [I.placesWith_run3, I.placesWith_step3]
    rw [cnd_t (by simp; omega), cnd_t (by simp; omega), Int.toNat_natCast, nl_at hk, nat_beq, add1_nat (by omega)]
    by_cases hv : r.getD k 0 = v
    · rw [cnd_t (by simpa using hv), if_pos (by simpa using hv), I.with_n (by omega) (by omega)]
      exact ⟨rfl, Nat.or_lt_two_pow ht hpk⟩
    · rw [cnd_f (by simpa using hv), if_neg (by simpa using hv)]; exact ⟨rfl, ht⟩
  · simp only [I.placesWith_run3, I.placesWith_step3]
    rw [cnd_f (by simp; omega)]
theorem I.rowWith_n {r : List Nat} (hr : r.length ≤ 6) (v : Nat) : I.rowWith_t (nl r) (v : Int) = some (nl (r ++ [v])) := by
  unfold I.rowWith_t I.rowWith_tree
  have hl := nl_len r
  rw [cnd_t (by simp [small]; omega), cnd_t (by simp [small]; omega), List.nil_append, ← nl_append]
theorem I.cliqueIn_n {net : List Int} (h : Ok net) {s : Nat} (hs : s < 2 ^ net.length) : I.cliqueIn_t net (s : Int) = some (cliqueB net s) := by
  unfold I.cliqueIn_t I.cliqueIn_tree
  have h6 := h.hi
  have h64 := h.pow
  rw [run_search (run := I.cliqueIn_run2 net s) (len := net.length) (fun k => if (s.testBit k && (minus s (ball net k) != 0)) = true then some false else none) () (by omega) (fun n k hk => ?_) (fun n => ?_), find_test (p := fun k => s.testBit k && (minus s (ball net k) != 0))]
  · unfold cliqueB
    cases (List.range net.length).all fun k => !(s.testBit k && (minus s (ball net k) != 0)) <;> rfl
  · have hbl := h.ball_lt hk
    simp only [I.cliqueIn_run2, I.cliqueIn_step2]
    rw [cnd_t (by simp; omega), I.hasPlace_n _ _ (by omega), add1_nat (by omega)]
    simp only [optC]
    cases hb : s.testBit k with
    | false => rfl
    | true =>
      have hne : (!(((minus s (ball net k) : Nat) : Int) == 0)) = (minus s (ball net k) != 0) := by show (_ != _) = _; rw [Bool.eq_iff_iff, bne_iff_ne, bne_iff_ne]; omega
      rw [cond_true, I.ballIn_n h hk]
      simp only
      rw [i64_andNot_nat _ _ (by omega) (by omega), hne]
      cases minus s (ball net k) != 0 <;> rfl
  · simp only [I.cliqueIn_run2, I.cliqueIn_step2]
    rw [cnd_f (by simp)]
theorem I.MostClique_y {net : List Int} (h : Ok net) (e : I.NetOk_t net = some true) : I.MostClique_t net = some ((maxSize net (cliqueB net) : Nat) : Int) := by
  unfold I.MostClique_t I.MostClique_tree
  have h64 := h.pow
  have h6 := h.hi
  have hsu := allOf_succ net
  rw [e]
  have := (run_for (run := I.MostClique_run5 net) (len := 2 ^ net.length) (fun k (t : Nat) => ((t : Int), (k : Int))) (maxStepN (cliqueB net)) (fun t => (t : Int)) (fun k t => t ≤ 6) (by omega) (fun n k t hk ht => ?_) (fun n t ht => ?_) (t0 := 0) (by omega)).1
  · exact congrArg (fun o => optC o (fun q => some q) none) this
  · refine ⟨?_, maxStepN_le ht⟩
    simp only [I.MostClique_run5, I.MostClique_step5]
    rw [I.allOf_n h]
    simp only [optC]
    rw [cnd_t (by rw [decide_eq_true_eq]; omega), I.sizeOf_n]
    simp only
    by_cases hc : size k > t
    · rw [cnd_t (by rw [decide_eq_true_eq]; omega), I.cliqueIn_n h hk, maxStepN_lt hc]
      simp only
      cases hp : cliqueB net k with
      | true => simp only [cond_true, if_true]; rw [add1_nat (by omega)]
      | false => simp only [cond_false, Bool.false_eq_true, if_false]; rw [add1_nat (by omega)]
    · rw [cnd_f (by rw [decide_eq_false_iff_not]; omega), maxStepN_ge hc, add1_nat (by omega)]
  · simp only [I.MostClique_run5, I.MostClique_step5]
    rw [I.allOf_n h]
    simp only [optC]
    rw [cnd_f (by rw [decide_eq_false_iff_not]; omega)]
/-- A place goes with a clique. -/
theorem clique_more {net : List Int} (h : Ok net) {r : List Nat} {v : Nat} (hlt : r.length < net.length) (hc : CliqueL net r) : minus (setL r v) (nb net r.length) = 0 ↔ Clique net (setL (r ++ [v]) v) := by
  have h6 := h.hi
  have h64 := h.pow
  have hs : setL r v < 2 ^ net.length := setL_lt (by omega)
  have hnb := h.lt64 hlt
  have hbit : ∀ j, (minus (setL r v) (nb net r.length)).testBit j = ((setL r v).testBit j && !(nb net r.length).testBit j) := fun j => minus_testBit _ _ (by omega) (by omega) j
  constructor
  · intro h0
    have key : ∀ j, (setL r v).testBit j = true → (nb net r.length).testBit j = true := fun j hj => by
      have := hbit j
      rw [h0, Nat.zero_testBit, hj, Bool.true_and] at this
      cases hb : (nb net r.length).testBit j with
      | true => rfl
      | false => rw [hb] at this; cases this
    refine (CliqueL.append (r := r) (v := v)).1 ?_ |>.2
    intro i j hi hj hne he
    simp only [List.length_append, List.length_singleton] at hi hj
    by_cases a : i < r.length
    · by_cases b : j < r.length
      · rw [getD_app_lt a, getD_app_lt b] at he
        exact hc i j a b hne he
      · obtain rfl : j = r.length := by omega
        rw [getD_app_lt a, getD_app_end] at he
        rw [← h.sym i r.length (by omega) hlt]
        exact key i (setL_bit.2 ⟨a, he⟩)
    · obtain rfl : i = r.length := by omega
      have b : j < r.length := by omega
      rw [getD_app_lt b, getD_app_end] at he
      exact key j (setL_bit.2 ⟨b, he.symm⟩)
  · intro hcl
    refine Nat.eq_of_testBit_eq fun j => ?_
    rw [hbit, Nat.zero_testBit]
    cases hj : (setL r v).testBit j with
    | false => rfl
    | true =>
      obtain ⟨a, b⟩ := setL_bit.1 hj
      have := hcl r.length j (setL_bit.2 ⟨by simp, getD_app_end r v⟩) (setL_bit.2 ⟨by simp; omega, by rw [getD_app_lt a]; exact b⟩) (by omega)
      rw [this]; rfl
theorem I.cliquesFrom_step [c : I.cliquesFrom_r_R] {net : List Int} (h : Ok net) {m : Nat} (hm : m ≤ 6) {r : List Nat} (hr : RG r) (hlen : r.length ≤ net.length) (hn : nx r ≤ m) (hc : CliqueL net r)
    (hrec : ∀ v, r.length < net.length → v ≤ nx r → v < m → Clique net (setL (r ++ [v]) v) → ∃ o q, I.cliquesFrom_r0_t net (nl (r ++ [v])) (m : Int) = some o ∧ outOf o = rowO q ∧ FirstExt (CRow net m) (r ++ [v]) q) :
    ∃ o q, I.cliquesFrom_r_t net (nl r) (m : Int) = some o ∧ outOf o = rowO q ∧ FirstExt (CRow net m) r q := by
  have h6 := h.hi
  have h1 := h.lo
  have h64 := h.pow
  have hll := nl_len r
  have hnx := hr.nx_len
  unfold I.cliquesFrom_r_t I.cliquesFrom_r_tree
  by_cases hl : r.length = net.length
  · rw [cnd_t (by rw [hll]; simp; omega)]
    exact ⟨.inl (nl r), some r, rfl, rfl, ⟨⟨List.prefix_rfl, ⟨hl, hr, hn, hc⟩⟩, fun q hq => .inl (hq.1.eq_of_length (by rw [hq.2.len]; exact hl))⟩⟩
  · have hlt : r.length < net.length := by omega
    have hnb := h.lt64 hlt
    rw [cnd_f (by rw [hll]; simp; omega)]
    have hex : ∀ v, ∃ q : Option (List Nat), v < min m (nx r + 1) → (cliqueB net (setL (r ++ [v]) v) = true → ∃ o, I.cliquesFrom_r0_t net (nl (r ++ [v])) (m : Int) = some o ∧ outOf o = rowO q ∧ FirstExt (CRow net m) (r ++ [v]) q) ∧ (cliqueB net (setL (r ++ [v]) v) = false → q = none) := fun v => by
      by_cases hv : v < min m (nx r + 1)
      · cases hq : cliqueB net (setL (r ++ [v]) v) with
        | true =>
          obtain ⟨o, q, a1, a2, a3⟩ := hrec v hlt (by omega) (by omega) ((cliqueB_iff h (setL_lt (by simp; omega))).1 hq)
          exact ⟨q, fun _ => ⟨fun _ => ⟨o, a1, a2, a3⟩, fun hh => by cases hh⟩⟩
        | false => exact ⟨none, fun _ => ⟨fun hh => (by cases hh), fun _ => rfl⟩⟩
      · exact ⟨none, fun hh => absurd hh hv⟩
    obtain ⟨f, hf⟩ := Classical.axiomOfChoice hex
    have hfirst : FirstExt (CRow net m) r (find (min m (nx r + 1)) f) := firstExt_loop (n := net.length) (fun q hq => hq.len) hlt (fun q hp hq => by
        have a := hq.rg r.length (by rw [hq.len]; exact hlt)
        rw [pre_take hp] at a
        have b := getD_lt_nx (r := q) (k := r.length) (by rw [hq.len]; exact hlt)
        have := hq.le
        omega) (fun v hv => by
        cases hq : cliqueB net (setL (r ++ [v]) v) with
        | true => exact ((hf v hv).1 hq).choose_spec.2.2
        | false =>
          rw [(hf v hv).2 hq]
          intro q hp hcr
          have := (cliqueB_iff h (setL_lt (r := r ++ [v]) (v := v) (by simp; omega))).2 ((CliqueL.append.1 (hcr.cl.pre hp)).2)
          rw [hq] at this; cases this)
    have l5 := (run_forE (run := I.cliquesFrom_r_run5 net (m : Int) (((nl r).length : Nat) : Int)) (len := min m (nx r + 1)) (fun k (t : Unit) => ((k : Int), nl r)) (findStep f) (fun (q : List Nat) => Sum.inl (nl r, nl q)) (fun _ => Sum.inr (nl r)) (fun k t => True) (by omega) (fun n k t hk ht => ?_) (fun n t ht => ?_) (t0 := ()) trivial).1
    · rw [show I.cliquesFrom_r_run5 net (m : Int) (((nl r).length : Nat) : Int) FUEL (0, nl r) = _ from l5]
      simp only [optC]
      rcases loopE_find f (min m (nx r + 1)) with ⟨q, hfd, hlp⟩ | ⟨hfd, hlp⟩
      · rw [hlp]; exact ⟨.inr (nl r, nl q), some q, rfl, rfl, by rw [← hfd]; exact hfirst⟩
      · rw [hlp]; exact ⟨.inr (nl r, []), none, rfl, rfl, by rw [← hfd]; exact hfirst⟩
    · have hcons := hf k hk
      have hset : setL r k < 2 ^ net.length := setL_lt (by omega)
      simp only [I.cliquesFrom_r_run5, I.cliquesFrom_r_step5]
      rw [I.numbersOf_n hr (by omega)]
      simp only [optC]
      rw [cnd_t (by rw [decide_eq_true_eq]; omega), cnd_t (by rw [decide_eq_true_eq]; omega), I.placesWith_sl (by omega)]
      simp only
      have hne : (!(((minus (setL r k) (nb net r.length) : Nat) : Int) == 0)) = !cliqueB net (setL (r ++ [k]) k) := by
        congr 1
        rw [Bool.eq_iff_iff, beq_iff_eq, cliqueB_iff h (setL_lt (by simp; omega)), ← clique_more h hlt hc]
        omega
      rw [cnd_t (by rw [hll]; simp; omega), hll, Int.toNat_natCast, h.eli hlt, i64_andNot_nat _ _ (by omega) (by omega), hne, add1_nat (by omega)]
      unfold findStep
      cases hq : cliqueB net (setL (r ++ [k]) k) with
      | false =>
        rw [hcons.2 hq]
        exact ⟨rfl, trivial⟩
      | true =>
        obtain ⟨o, a1, a2, a3⟩ := hcons.1 hq
        have hlo := rowO_len h1 a3
        rw [Bool.not_true, cond_false, I.rowWith_n (by omega)]
        simp only
        rw [a1]
        simp only
        cases o with
        | inl c =>
          simp only [sumC]
          have a2 : c = rowO (f k) := a2
          rw [a2, hlo]
          cases hfk : f k with
          | some q => rfl
          | none => exact ⟨rfl, trivial⟩
        | inr c =>
          simp only [sumC]
          have a2 : c.2 = rowO (f k) := a2
          rw [a2, hlo]
          cases hfk : f k with
          | some q => rfl
          | none => exact ⟨rfl, trivial⟩
    · simp only [I.cliquesFrom_r_run5, I.cliquesFrom_r_step5]
      rw [I.numbersOf_n hr (by omega)]
      simp only [optC]
      by_cases hc : ((min m (nx r + 1) : Nat) : Int) ≤ ((nx r : Nat) : Int)
      · rw [cnd_t (by rw [decide_eq_true_eq]; exact hc), cnd_f (by rw [decide_eq_false_iff_not]; omega)]
      · rw [cnd_f (by rw [decide_eq_false_iff_not]; exact hc)]
theorem I.cliquesFrom_d {net : List Int} (h : Ok net) {m : Nat} (hm : m ≤ 6) : ∀ (k d : Nat) (r : List Nat), r.length + k = net.length → k < d → RG r → nx r ≤ m → CliqueL net r →
    ∃ o q, I.cliquesFrom_td d net (nl r) (m : Int) = some o ∧ outOf o = rowO q ∧ FirstExt (CRow net m) r q := by
  intro k
  induction k with
  | zero =>
    intro d r hk hd h1 h2 h3
    obtain ⟨d, rfl⟩ : ∃ q, d = q + 1 := ⟨d - 1, by omega⟩
    exact @I.cliquesFrom_step ⟨I.cliquesFrom_td d⟩ net h m hm r h1 (by omega) h2 h3 (fun v hv => by omega)
  | succ k ih =>
    intro d r hk hd h1 h2 h3
    obtain ⟨d, rfl⟩ : ∃ q, d = q + 1 := ⟨d - 1, by omega⟩
    exact @I.cliquesFrom_step ⟨I.cliquesFrom_td d⟩ net h m hm r h1 (by omega) h2 h3 (fun v hv a b hcl => ih d (r ++ [v]) (by simp; omega) (by omega) (RG_append.2 ⟨h1, a⟩) (by rw [nx_append]; omega) (CliqueL.append.2 ⟨h3, hcl⟩))
theorem I.cliquesFrom_n {net : List Int} (h : Ok net) {m : Nat} (hm : m ≤ 6) : ∃ o q, I.cliquesFrom_t net [] (m : Int) = some o ∧ outOf o = rowO q ∧ FirstExt (CRow net m) [] q := by
  have hF := FUEL_le
  have h6 := h.hi
  exact I.cliquesFrom_d h hm net.length FUEL [] (by simp) (by omega) RG.nil (Nat.zero_le _) (CliqueL.nil net)
theorem I.cliqueRowIn_n {net : List Int} (h : Ok net) : I.cliqueRowIn_t net = some (nl (clRow net)) ∧ IsFirst (CRow net (fewestCl net)) (clRow net) := by
  have hF := FUEL_le
  have h6 := h.hi
  have h1 := h.lo
  have hle := fewestCl_le net
  have hmin := fewestCl_min net
  obtain ⟨o, q, a1, a2, a3⟩ := I.cliquesFrom_n h (m := fewestCl net) (by omega)
  have hq : ∃ p, q = some p := by
    cases q with
    | some p => exact ⟨p, rfl⟩
    | none =>
      obtain ⟨p, hp⟩ := crow_of hmin.ex
      exact absurd hp (a3 p List.nil_prefix)
  obtain ⟨p, rfl⟩ := hq
  have hfp := first_of_ext a3
  have hcl : clRow net = p := firstOf_is hfp
  have hp := hfp.mem.len
  rw [hcl]
  refine ⟨?_, hfp⟩
  unfold I.cliqueRowIn_t I.cliqueRowIn_tree
  have key : ∀ d j n, j + d = fewestCl net → 1 ≤ j → d + 1 < n → I.cliqueRowIn_run2 net n (j : Int) = if fewestCl net < net.length then some (.inl (nl p)) else some (.inr ()) := by
    intro d
    induction d with
    | zero =>
      intro j n hj _ hn
      obtain ⟨n, rfl⟩ : ∃ q, n = q + 1 := ⟨n - 1, by omega⟩
      obtain rfl : j = fewestCl net := by omega
      simp only [I.cliqueRowIn_run2, I.cliqueRowIn_step2]
      by_cases h2 : fewestCl net < net.length
      · have hnl : decide (((nl p).length : Int) > 0) = true := by rw [nl_len, hp, decide_eq_true_eq]; omega
        rw [cnd_t (by rw [decide_eq_true_eq]; omega), a1, if_pos h2]
        simp only [optC]
        cases o with
        | inl c =>
          have a2 : c = nl p := a2
          simp only [sumC]
          rw [a2, hnl]; rfl
        | inr c =>
          have a2 : c.2 = nl p := a2
          simp only [sumC]
          rw [a2, hnl]; rfl
      · rw [cnd_f (by rw [decide_eq_false_iff_not]; omega), if_neg h2]
    | succ d ih =>
      intro j n hj h1j hn
      obtain ⟨n, rfl⟩ : ∃ q, n = q + 1 := ⟨n - 1, by omega⟩
      obtain ⟨o, q, b1, b2, b3⟩ := I.cliquesFrom_n h (m := j) (by omega)
      have hq : q = none := by
        cases q with
        | none => rfl
        | some q => have := hmin.le j (of_crow (first_of_ext b3).mem); omega
      subst hq
      simp only [I.cliqueRowIn_run2, I.cliqueRowIn_step2]
      rw [cnd_t (by rw [decide_eq_true_eq]; omega), b1, add1_nat (by omega)]
      simp only [optC]
      cases o with
      | inl c =>
        have b2 : c = [] := b2
        simp only [sumC]
        rw [b2]
        exact ih (j + 1) n (by omega) (by omega) (by omega)
      | inr c =>
        have b2 : c.2 = [] := b2
        simp only [sumC]
        rw [b2]
        exact ih (j + 1) n (by omega) (by omega) (by omega)
  have hpos := fewestCl_pos h1
  rw [show I.cliqueRowIn_run2 net FUEL 1 = _ from key (fewestCl net - 1) 1 FUEL (by omega) (Nat.le_refl _) (by omega)]
  by_cases h2 : fewestCl net < net.length
  · rw [if_pos h2]; rfl
  · rw [if_neg h2]
    have hmn : fewestCl net = net.length := by omega
    rw [hmn] at a1
    simp only [optC, sumC]
    rw [a1]
    cases o with
    | inl c => have a2 : c = nl p := a2; simp only [sumC]; rw [a2]
    | inr c => have a2 : c.2 = nl p := a2; simp only [sumC]; rw [a2]
theorem I.FewestCliques_x {net : List Int} (e : I.NetOk_t net = some false) : I.FewestCliques_t net = some (-1) := by
  unfold I.FewestCliques_t I.FewestCliques_tree; rw [e]; rfl
theorem I.FewestCliques_y {net : List Int} (h : Ok net) (e : I.NetOk_t net = some true) : I.FewestCliques_t net = some ((fewestCl net : Nat) : Int) := by
  obtain ⟨a, b⟩ := I.cliqueRowIn_n h
  have h6 := h.hi
  have hl := b.mem.len
  unfold I.FewestCliques_t I.FewestCliques_tree
  rw [e]
  simp only [optC, Bool.not_true, cond_false]
  rw [a]
  simp only
  rw [I.numbersOf_n b.mem.rg (by omega), crow_nx b.mem]
theorem I.GuardRow_x {net : List Int} (e : I.NetOk_t net = some false) : I.GuardRow_t net = some [] := by
  unfold I.GuardRow_t I.GuardRow_tree; rw [e]; rfl
theorem I.GuardRow_y {net : List Int} (h : Ok net) (e : I.NetOk_t net = some true) : I.GuardRow_t net = some [((fewest net : Nat) : Int), ((fewestAllEternal net : Nat) : Int), ((maxSize net (apart net) : Nat) : Int), ((fewestEternal net : Nat) : Int), ((fewestCl net : Nat) : Int)] := by
  unfold I.GuardRow_t I.GuardRow_tree
  rw [e]
  simp only [optC, Bool.not_true, cond_false]
  rw [I.FewestWatch_y h e]
  simp only
  rw [I.FewestAllEternal_y h e]
  simp only
  rw [I.MostApart_y h e]
  simp only
  rw [I.FewestEternal_y h e]
  simp only
  rw [I.FewestCliques_y h e]
end Go.Proofs.Ytleianhibhpgpaa
/- The program's functions of chapters 12 and 13 (at ae9a42a) in natural numbers. Conditions: those of each theorem. -/
namespace Go.Proofs.Ytleianhibhpgpaa
open D Go.RowKit
set_option linter.unusedVariables false
set_option linter.unusedSimpArgs false


/-- The greatest number of a kind, from 0 on. -/
def maxStepV (p : Nat → Bool) (v : Nat → Nat) (t : Nat) (s : Nat) : Nat := if p s = true then (if v s > t then v s else t) else t
/-- Behind each set from A on, how many guards are to come. -/
structure GamesUp (net : List Int) (A : Nat) (gl : List Int) : Prop where
  len : gl.length = 2 ^ net.length * 2
  few : ∀ B, A ≤ B → B < 2 ^ net.length → D.eli gl (B * 2) = ((game net B true : Nat) : Int)
  many : ∀ B, A ≤ B → B < 2 ^ net.length → D.eli gl (B * 2 + 1) = ((game net B false : Nat) : Int)
end Go.Proofs.Ytleianhibhpgpaa
/- Forests: wires and parts are places. Conditions: those of each theorem. -/
namespace Go.Proofs.Ytleianhibhpgpaa
set_option linter.unusedVariables false
set_option linter.unusedSimpArgs false

/-- The ends of wires within a set. -/
def inEnd (net : List Int) (s i j : Nat) : Nat := (s.testBit i && s.testBit j && (nb net i).testBit j).toNat
def ends2 (net : List Int) (s : Nat) : Nat := sumN net.length fun i => sumN net.length (inEnd net s i)
/-- A set within another one that nobody leaves by a wire. -/
def Closed (net : List Int) (s t : Nat) : Prop := (∀ j, t.testBit j = true → s.testBit j = true) ∧ ∀ i j, t.testBit i = true → s.testBit j = true → (nb net i).testBit j = true → t.testBit j = true
def Covers (net : List Int) (s z : Nat) : Prop := (∀ j, z.testBit j = true → s.testBit j = true) ∧ ∀ t, t < 2 ^ net.length → t ≠ 0 → Closed net s t → ∃ j, z.testBit j = true ∧ t.testBit j = true
/-- Places go till nobody can. -/
inductive Down (net : List Int) (r : Nat) : Nat → Prop
  | here : Down net r r
  | step {s k : Nat} : s.testBit k = true → size (nb net k &&& s) ≤ 1 → Down net r (s - 2 ^ k) → Down net r s
theorem down_zero {net : List Int} {s : Nat} (hd : Down net 0 s) : Peel net s := by
  induction hd with
  | here => exact .zero
  | step a b _ ih => exact .step a b ih
/-- What is left where nobody can go is nothing, just in forests. -/
theorem forest_left {net : List Int} (h : Ok net) {r : Nat} (hd : Down net r (allOf net)) (hr : r < 2 ^ net.length) (hst : Stuck net r) : r = 0 ↔ Peel net (allOf net) := by
  constructor
  · intro he; rw [he] at hd; exact down_zero hd
  · intro hp
    exact peel_stuck h hp (allOf_lt net) r (fun j hj => by rw [allOf_testBit]; simpa using in_lt hr hj) hst
end Go.Proofs.Ytleianhibhpgpaa
/- Grown packings and sets that see each place once. Conditions: those of each theorem. -/
namespace Go.Proofs.Ytleianhibhpgpaa
open D Go.RowKit
set_option linter.unusedVariables false
set_option linter.unusedSimpArgs false

def growP (net : List Int) (t k : Nat) : Nat := if packed net (t ||| 2 ^ k) = true then t ||| 2 ^ k else t
def grownP (net : List Int) (s : Nat) : Nat := fold net.length (growP net) s
def GrowI (net : List Int) (s k t : Nat) : Prop := t < 2 ^ net.length ∧ packed net t = true ∧ (∀ j, s.testBit j = true → t.testBit j = true) ∧ ∀ j, j < k → t.testBit j = false → packed net (t ||| 2 ^ j) = false
/-- Each place is seen once. -/
def efficientB (net : List Int) (s : Nat) : Bool := packed net s && W net s
theorem Down.trans {net : List Int} {r t s : Nat} (h1 : Down net r t) (h2 : Down net t s) : Down net r s := by
  induction h2 with
  | here => exact h1
  | step a b _ ih => exact .step a b ih
/-- One sweep over the places: each with at most one neighbour left goes. -/
def peelStep (net : List Int) (t : Bool × Nat) (k : Nat) : Bool × Nat := if (t.2.testBit k && decide (size (nb net k &&& t.2) < 2)) = true then (true, t.2 - 2 ^ k) else t
def PeelI (net : List Int) (s k : Nat) (t : Bool × Nat) : Prop := Down net t.2 s ∧ t.2 ≤ s ∧ (t.1 = false → t.2 = s ∧ ∀ j, j < k → s.testBit j = true → 2 ≤ size (nb net j &&& s)) ∧ (t.1 = true → t.2 < s)
noncomputable def forestB (net : List Int) : Bool := @decide (Peel net (allOf net)) (Classical.propDecidable _)
theorem forestB_iff {net : List Int} : forestB net = true ↔ Peel net (allOf net) := by unfold forestB; exact @decide_eq_true_iff _ (Classical.propDecidable _)
end Go.Proofs.Ytleianhibhpgpaa
/- The model's functions of chapter 11 in natural numbers: packings. Conditions: those of each theorem. -/
namespace Go.Proofs.Ytleianhibhpgpaa
open D Go.RowKit
set_option linter.unusedVariables false
set_option linter.unusedSimpArgs false


def mostPacked (net : List Int) : Nat := maxSize net (packed net)
def efficientI (net : List Int) : Int := (find (2 ^ net.length) (fun s => if efficientB net s = true then some (s : Int) else none)).getD (-1)
def grownPI (net : List Int) (s : Int) : Int := if (0 ≤ s ∧ s < 2 ^ net.length) ∧ packed net s.toNat = true then ((grownP net s.toNat : Nat) : Int) else -1
end Go.Proofs.Ytleianhibhpgpaa
/- The program's functions of chapter 11 in natural numbers. Conditions: those of each theorem. -/
namespace Go.Proofs.Ytleianhibhpgpaa
open D Go.RowKit
set_option linter.unusedVariables false
set_option linter.unusedSimpArgs false


/-- The first place with at most one neighbour left. -/
def leafF (net : List Int) (s : Nat) : Int := (find net.length (fun k => if (s.testBit k && decide (size (nb net k &&& s) ≤ 1)) = true then some (k : Int) else none)).getD (-1)
theorem leafF_cases (net : List Int) {s : Nat} (hs : s < 2 ^ net.length) : (leafF net s = -1 ∧ Stuck net s) ∨ ∃ k : Nat, k < net.length ∧ leafF net s = (k : Int) ∧ s.testBit k = true ∧ size (nb net k &&& s) ≤ 1 := by
  unfold leafF
  cases hf : find net.length (fun k => if (s.testBit k && decide (size (nb net k &&& s) ≤ 1)) = true then some (k : Int) else none) with
  | none =>
    refine .inl ⟨rfl, fun k hk => ?_⟩
    have := find_none.1 hf k (in_lt hs hk)
    by_cases hc : size (nb net k &&& s) ≤ 1
    · rw [hk, decide_eq_true hc] at this; simp at this
    · omega
  | some r =>
    obtain ⟨k, hk, he⟩ := find_some_ex hf
    right
    by_cases hc : (s.testBit k && decide (size (nb net k &&& s) ≤ 1)) = true
    · rw [if_pos hc] at he
      injection he with he
      rw [Bool.and_eq_true, decide_eq_true_eq] at hc
      exact ⟨k, hk, he.symm, hc.1, hc.2⟩
    · rw [if_neg hc] at he; cases he
theorem I.leafIn_n {net : List Int} (h : Ok net) {s : Nat} (hs : s < 2 ^ net.length) : I.leafIn_t net (s : Int) = some (leafF net s) := by
  unfold I.leafIn_t I.leafIn_tree
  have h6 := h.hi
  have h64 := h.pow
  rw [run_search (run := I.leafIn_run2 net s) (len := net.length) (fun k => if (s.testBit k && decide (size (nb net k &&& s) ≤ 1)) = true then some (k : Int) else none) () (by omega) (fun n k hk => ?_) (fun n => ?_)]
  · unfold leafF
    cases find net.length (fun k => if (s.testBit k && decide (size (nb net k &&& s) ≤ 1)) = true then some (k : Int) else none) <;> rfl
  · simp only [I.leafIn_run2, I.leafIn_step2]
    have hnb := h.lt64 hk
    rw [cnd_t (by simp; omega), I.hasPlace_n _ _ (by omega), add1_nat (by omega)]
    simp only [optC]
    cases hb : s.testBit k with
    | false => rfl
    | true =>
      rw [cond_true, cnd_t (by simp; omega), Int.toNat_natCast, h.eli hk, i64_and_nat _ _ (by omega) (by omega), I.sizeOf_n, Bool.true_and]
      simp only
      by_cases hc : size (nb net k &&& s) ≤ 1
      · rw [cnd_t (by rw [decide_eq_true_eq]; omega), if_pos (by simpa using hc)]
      · rw [cnd_f (by rw [decide_eq_false_iff_not]; omega), if_neg (by simpa using hc)]
  · simp only [I.leafIn_run2, I.leafIn_step2]
    rw [cnd_f (by simp)]
theorem I.prunedIn_n {net : List Int} (h : Ok net) : ∃ r : Nat, I.prunedIn_t net = some (r : Int) ∧ r < 2 ^ net.length ∧ Down net r (allOf net) ∧ Stuck net r := by
  unfold I.prunedIn_t I.prunedIn_tree
  have h6 := h.hi
  have h64 := h.pow
  have hall := allOf_lt net
  rw [I.allOf_n h]
  simp only [optC]
  rw [I.leafIn_n h hall]
  simp only
  have := run_post (run := I.prunedIn_run3 net) (fun q => ∃ t : Nat, q = ((t : Int), leafF net t) ∧ t < 2 ^ net.length ∧ Down net t (allOf net)) (fun q => q.1.toNat)
    (fun d => ∃ r : Nat, d = (r : Int) ∧ r < 2 ^ net.length ∧ Down net r (allOf net) ∧ Stuck net r) (fun f q => ?_) (s := ((allOf net : Nat), leafF net (allOf net))) ⟨allOf net, rfl, hall, .here⟩ (by simp only [Int.toNat_natCast]; omega)
  · obtain ⟨d, e1, r, rfl, r1, r2, r3⟩ := this
    rw [e1]
    exact ⟨r, rfl, r1, r2, r3⟩
  · rintro ⟨t, rfl, i1, i2⟩
    simp only [I.prunedIn_run3, I.prunedIn_step3]
    rcases leafF_cases net i1 with ⟨e1, hst⟩ | ⟨k, hk, e1, hb, hc⟩
    · left
      rw [e1, cnd_f (show decide ((-1 : Int) ≥ 0) = false from rfl)]
      exact ⟨_, rfl, t, rfl, i1, i2, hst⟩
    · right
      have hge : 2 ^ k ≤ t := Nat.ge_two_pow_of_testBit hb
      have hpos := Nat.two_pow_pos k
      have hlt : t - 2 ^ k < 2 ^ net.length := Nat.lt_of_le_of_lt (Nat.sub_le _ _) i1
      rw [e1, cnd_t (by rw [decide_eq_true_eq]; omega), I.without_n (by omega) (by omega), if_pos hb]
      simp only [optC]
      rw [I.leafIn_n h hlt]
      simp only
      exact ⟨_, rfl, ⟨t - 2 ^ k, rfl, hlt, (Down.step hb hc .here : Down net (t - 2 ^ k) t).trans i2⟩, by simp only [Int.toNat_natCast]; omega⟩
theorem I.ForestOk_y {net : List Int} (h : Ok net) (e : I.NetOk_t net = some true) : I.ForestOk_t net = some (forestB net) := by
  unfold I.ForestOk_t I.ForestOk_tree
  obtain ⟨r, e1, r1, r2, r3⟩ := I.prunedIn_n h
  rw [e]
  simp only [optC]
  rw [cond_true, e1]
  simp only
  rw [nat_eq0]
  congr 1
  rw [Bool.eq_iff_iff, beq_iff_eq, forestB_iff]
  exact forest_left h r2 r1 r3
end Go.Proofs.Ytleianhibhpgpaa
/- The laws of chapter 2: WatchOk, LeastWatchOk, FewestWatch, WatchOf. Conditions: those of each theorem. -/
namespace Go.Proofs.Ytleianhibhpgpaa
open D Go.RowKit
set_option linter.unusedVariables false
set_option linter.unusedSimpArgs false


end Go.Proofs.Ytleianhibhpgpaa
/- The laws of chapter 2: ThinnedWatch, WatchCounts, LeastWatches. Conditions: those of each theorem. -/
namespace Go.Proofs.Ytleianhibhpgpaa
open D Go.RowKit
set_option linter.unusedVariables false
set_option linter.unusedSimpArgs false


/-! ### Counts -/
def cw (net : List Int) (j : Nat) : Nat := cnt (2 ^ net.length) (fun s => W net s && (size s == j))
theorem L.sameInts_is {a : List Int} (ha : a.length ≤ 1000000) : L.sameInts_t a a = some true := by
  unfold L.sameInts_t L.sameInts_tree
  have := (run_for (run := L.sameInts_run4 a a) (len := a.length) (fun k (_ : Unit) => (k : Int)) (fun t k => ()) (fun t => Sum.inr ()) (fun k t => True) (by omega) (fun n k t hk ht => ?_) (fun n t ht => ?_) (t0 := ()) trivial).1
  · rw [cnd_f (by simp), show L.sameInts_run4 a a FUEL 0 = _ from this]
    rfl
  · refine ⟨?_, trivial⟩
    simp only [L.sameInts_run4, L.sameInts_step4]
    rw [cnd_t (by simp; omega), cnd_t (by simp; omega), cnd_t (by simp; omega), cnd_f (by simp), add1_nat (by omega)]
  · simp only [L.sameInts_run4, L.sameInts_step4]
    rw [cnd_f (by simp)]
/-! ### Least watches -/
end Go.Proofs.Ytleianhibhpgpaa
/- The program's functions that the laws of chapters 12 and 13 call. Conditions: none. -/
namespace Go.Proofs.Ytleianhibhpgpaa
end Go.Proofs.Ytleianhibhpgpaa
/- Laws of chapter 3, and of chapter 4 over sets. Conditions: those of each theorem. -/
namespace Go.Proofs.Ytleianhibhpgpaa
open D Go.RowKit
set_option linter.unusedVariables false
set_option linter.unusedSimpArgs false


end Go.Proofs.Ytleianhibhpgpaa
/- Laws of chapter 5, and of chapter 4 over a net. Conditions: those of each theorem. -/
namespace Go.Proofs.Ytleianhibhpgpaa
open D Go.RowKit
set_option linter.unusedVariables false
set_option linter.unusedSimpArgs false


theorem maxSize_le {net : List Int} (h : Ok net) {p : Nat → Bool} {m : Nat} (hm : MaxOf net p m) : m ≤ net.length := by
  obtain ⟨s, a, _, c⟩ := hm.ex
  have := size_le_len h a; omega
/-- The net in which all are neighbours. -/
def whole (n : Nat) : List Int := fold n (fun l k => l ++ [((2 ^ n - 1 - 2 ^ k : Nat) : Int)]) []
end Go.Proofs.Ytleianhibhpgpaa
/- A net that is one; the places with a number, by the laws' own function. Conditions: those of each theorem. -/
namespace Go.Proofs.Ytleianhibhpgpaa
open D Go.RowKit
set_option linter.unusedVariables false
set_option linter.unusedSimpArgs false


end Go.Proofs.Ytleianhibhpgpaa
/- Laws of chapter 13. Conditions: those of each theorem. -/
namespace Go.Proofs.Ytleianhibhpgpaa
open D Go.RowKit
set_option linter.unusedVariables false
set_option linter.unusedSimpArgs false


theorem ex_clique {net : List Int} (h : Ok net) : ∃ s, s < 2 ^ net.length ∧ cliqueB net s = true := ⟨0, Nat.two_pow_pos _, (cliqueB_iff h (Nat.two_pow_pos _)).2 fun i j hi => by rw [Nat.zero_testBit] at hi; cases hi⟩
theorem L.FnFewestCliques_is {code : List Int} (hm : code.length ≤ maxLen) (hw : ∀ n ∈ code, (Lit.int .u8 n).wf = true) : L.FnFewestCliques_t code = some true := by
  unfold L.FnFewestCliques_t L.FnFewestCliques_tree
  by_cases hc : (code.length : Int) > 1048576
  · rw [cnd_t (by simpa using hc)]
  rw [cnd_f (by simpa using hc)]
  obtain ⟨net, e1, h1⟩ := S.DrawFewestCliques_is (Bytes.wf hw)
  rw [e1]
  simp only [optC]
  rcases NetOk_cases net with ⟨h, g1, g2⟩ | ⟨_, g1, g2⟩
  · have h6 := h.hi
    have h64 := h.pow
    rw [I.FewestCliques_y h g1, S.FewestCliques_y h g2]
    simp only
    rw [cnd_f (by simp), cnd_f (by simp)]
    have hmin := fewestCl_min net
    have hle := fewestCl_le net
    have hma := maxSize_is (ex_apart net)
    obtain ⟨a, a1, a2, a3⟩ := hma.ex
    have f1 := apart_cliques h a1 ((apart_iff a1).1 a2) hmin.ex
    rw [I.MostApart_y h g1]
    simp only
    rw [cnd_t (by rw [decide_eq_true_eq]; omega), I.FewestEternal_y h g1]
    simp only
    obtain ⟨s, s1, s2, s3⟩ := firsts h hmin.ex
    have f2 := (fewestEternal_min h).le s s1 (eternalB_iff.2 s2)
    rw [cnd_t (by rw [decide_eq_true_eq]; omega), I.MostClique_y h g1]
    simp only
    have hmc := maxSize_is (ex_clique h)
    have f3 := cliques_times h hmin.ex (b := maxSize net (cliqueB net)) (fun t ht hc => hmc.le t ht ((cliqueB_iff h ht).2 hc))
    have hmcl := maxSize_le h hmc
    have hprod : fewestCl net * maxSize net (cliqueB net) ≤ 6 * 6 := Nat.mul_le_mul (by omega) (by omega)
    rw [← Int.natCast_mul, i64_wrap (by omega) (by omega), cnd_t (by rw [decide_eq_true_eq]; omega), I.ForestOk_y h g1]
    simp only
    cases hf : forestB net with
    | false => rfl
    | true =>
      simp only [Bool.not_true, cond_false]
      obtain ⟨m, P, p1, p2, p3, p4⟩ := forest_cliques h (forestB_iff.1 hf)
      have f4 := hmin.le m p1
      have f5 := hma.le P p2 ((apart_iff p2).2 p3)
      congr 1
      rw [beq_iff_eq]
      omega
  · rw [I.FewestCliques_x g1, S.FewestCliques_x g2, g1]
    simp only
    rw [cnd_f (by decide), cnd_t (by decide), cnd_t (by decide), cnd_t (by decide), L.alive_is]
theorem L.FnGuardRow_is {code : List Int} (hm : code.length ≤ maxLen) (hw : ∀ n ∈ code, (Lit.int .u8 n).wf = true) : L.FnGuardRow_t code = some true := by
  unfold L.FnGuardRow_t L.FnGuardRow_tree
  by_cases hc : (code.length : Int) > 1048576
  · rw [cnd_t (by simpa using hc)]
  rw [cnd_f (by simpa using hc)]
  obtain ⟨net, e1, h1⟩ := S.DrawGuardRow_is (Bytes.wf hw)
  rw [e1]
  simp only [optC]
  rcases NetOk_cases net with ⟨h, g1, g2⟩ | ⟨_, g1, g2⟩
  rotate_left
  · rw [I.GuardRow_x g1, S.GuardRow_x g2]
    simp only
    rw [L.sameInts_is (by simp)]
    simp only [Bool.not_true, cond_false]
    rw [cnd_t (by rfl), g1]
    simp only [Bool.not_false, cond_true]
    rw [L.alive_is]
  have h6 := h.hi
  have hlo := h.lo
  have h64 := h.pow
  have hmin := fewestCl_min net
  have hle := fewestCl_le net
  have hma := maxSize_is (ex_apart net)
  have hmal := maxSize_le h hma
  obtain ⟨w, w1, w2, w3⟩ := (fewest_few h).ex
  have hw0 : 1 ≤ fewest net := by
    rcases Nat.eq_zero_or_pos (fewest net) with hz | hz
    · exfalso
      have hs0 : w = 0 := by
        have hzz : size w = 0 := by omega
        rw [size_cnt h w1] at hzz
        refine zero_iff.2 fun j => not_true fun hj => ?_
        have := cnt_inj (n := 1) (m := net.length) (p := fun _ => true) (q := fun k => w.testBit k) (fun _ => j) (fun _ _ _ => ⟨in_lt w1 hj, hj⟩) (fun a b ha hb _ _ _ => by omega)
        rw [cnt_true] at this
        omega
      rw [hs0, W_zero h] at w2; cases w2
    · omega
  have f1 : fewest net ≤ fewestAllEternal net := by
    obtain ⟨s, a, b, c⟩ := (fewestAllEternal_min h).ex
    have := (fewest_few h).le s a (allEternal_watch h a (allEternalB_iff.1 b))
    omega
  have f2 : fewestAllEternal net ≤ maxSize net (apart net) := by
    obtain ⟨t, p, q, r⟩ := allEternal_upper h hma
    have := (fewestAllEternal_min h).le t p (allEternalB_iff.2 q)
    omega
  have f3 : maxSize net (apart net) ≤ fewestEternal net := by
    obtain ⟨s, a, b, c⟩ := (fewestEternal_min h).ex
    obtain ⟨q, q1, q2, q3⟩ := hma.ex
    have := eternal_apart h q1 ((apart_iff q1).1 q2) a (eternalB_iff.1 b)
    omega
  have f4 : fewestEternal net ≤ fewestCl net := by
    obtain ⟨s, s1, s2, s3⟩ := firsts h hmin.ex
    have := (fewestEternal_min h).le s s1 (eternalB_iff.2 s2)
    omega
  rw [I.GuardRow_y h g1, S.GuardRow_y h g2]
  simp only
  rw [L.sameInts_is (by simp)]
  simp only [Bool.not_true, cond_false]
  rw [cnd_f (by rfl)]
  generalize hr : [((fewest net : Nat) : Int), ((fewestAllEternal net : Nat) : Int), ((maxSize net (apart net) : Nat) : Int), ((fewestEternal net : Nat) : Int), ((fewestCl net : Nat) : Int)] = row
  have hrl : row.length = 5 := by rw [← hr]; rfl
  have r0 : D.eli row 0 = ((fewest net : Nat) : Int) := by rw [← hr]; rfl
  have r1 : D.eli row 1 = ((fewestAllEternal net : Nat) : Int) := by rw [← hr]; rfl
  have r2 : D.eli row 2 = ((maxSize net (apart net) : Nat) : Int) := by rw [← hr]; rfl
  have r3 : D.eli row 3 = ((fewestEternal net : Nat) : Int) := by rw [← hr]; rfl
  have r4 : D.eli row 4 = ((fewestCl net : Nat) : Int) := by rw [← hr]; rfl
  have hup : ∀ k, k < 4 → D.eli row k ≤ D.eli row (k + 1) := by
    intro k hk
    obtain rfl | rfl | rfl | rfl : k = 0 ∨ k = 1 ∨ k = 2 ∨ k = 3 := by omega
    · rw [r0, r1]; omega
    · rw [r1, r2]; omega
    · rw [r2, r3]; omega
    · rw [r3, r4]; omega
  have loop := (run_for (run := L.FnGuardRow_run10) (len := 4) (fun k (_ : Unit) => (((k + 1 : Nat) : Int), net, row)) (fun t k => ()) (fun _ => Sum.inr (net, row)) (fun k t => True) (by omega) (fun n k t hk ht => ?_) (fun n t ht => ?_) (t0 := ()) trivial).1
  · rw [show L.FnGuardRow_run10 FUEL (1, net, row) = _ from loop]
    simp only [sumC]
    rw [cnd_t (by rw [hrl]; rfl), cnd_t (by rw [hrl]; rfl), cnd_t (by rw [hrl]; rfl), r0, cnd_t (by rw [decide_eq_true_eq]; omega), cnd_t (by rw [hrl]; rfl), cnd_t (by rw [hrl]; rfl), r4, cnd_t (by rw [decide_eq_true_eq]; omega), cnd_t (by rw [hrl]; rfl), cnd_t (by rw [hrl]; rfl), I.FewestWatch_y h g1]
    simp only
    rw [cnd_t (by simp), cnd_t (by rw [hrl]; rfl), cnd_t (by rw [hrl]; rfl), I.MostApart_y h g1, r2]
    simp only [beq_self_eq_true]
  · have := hup k hk
    simp only [L.FnGuardRow_run10, L.FnGuardRow_step10]
    rw [i64_wrap (n := ((k + 1 : Nat) : Int) - 1) (by omega) (by omega), show ((k + 1 : Nat) : Int) - 1 = (k : Int) by omega, Int.toNat_natCast, Int.toNat_natCast, cnd_t (by rw [decide_eq_true_eq]; omega), cnd_t (by rw [Bool.and_eq_true, decide_eq_true_eq, decide_eq_true_eq]; omega), cnd_t (by rw [decide_eq_true_eq]; omega),
      cnd_t (by rw [Bool.and_eq_true, decide_eq_true_eq, decide_eq_true_eq]; omega), cnd_t (by rw [decide_eq_true_eq]; omega), cnd_f (by rw [decide_eq_false_iff_not]; omega), add1_nat (a := k + 1) (by omega)]
    exact ⟨rfl, trivial⟩
  · simp only [L.FnGuardRow_run10, L.FnGuardRow_step10]
    rw [cnd_f (by rw [decide_eq_false_iff_not]; omega)]
end Go.Proofs.Ytleianhibhpgpaa
/- Exact laws of chapters 12 and 13. Conditions: those of each theorem. -/
namespace Go.Proofs.Ytleianhibhpgpaa
open D Go.RowKit
set_option linter.unusedVariables false
set_option linter.unusedSimpArgs false


theorem FewestCliques_same {a0 : List Int} : ∃ v, S.FewestCliques_t a0 = some v ∧ I.FewestCliques_t a0 = some v := by
  rcases NetOk_cases a0 with ⟨h, e1, e2⟩ | ⟨_, e1, e2⟩
  · exact ⟨_, S.FewestCliques_y h e2, I.FewestCliques_y h e1⟩
  · exact ⟨_, S.FewestCliques_x e2, I.FewestCliques_x e1⟩
theorem L.FnExactFewestCliques_is {a0 : List Int} : L.FnExactFewestCliques_t a0 = some true := by
  unfold L.FnExactFewestCliques_t L.FnExactFewestCliques_tree
  by_cases ha0 : (a0.length : Int) > 1048576
  · rw [cnd_t (by simpa using ha0)]
  rw [cnd_f (by simpa using ha0)]
  have ta0 := L.toIntS_is (a := a0) (by omega)
  have ea0 := L.eqIntS_is (a := a0) (b := a0) (by omega)
  obtain ⟨b, h1, h2⟩ := FewestCliques_same (a0 := a0)
  simp only [optC, ta0, ea0, h1, h2]
  simp
theorem GuardRow_same {a0 : List Int} : ∃ v, S.GuardRow_t a0 = some v ∧ I.GuardRow_t a0 = some v ∧ v.length ≤ 1000000 := by
  rcases NetOk_cases a0 with ⟨h, e1, e2⟩ | ⟨_, e1, e2⟩
  · have h6 := h.hi
    refine ⟨_, S.GuardRow_y h e2, I.GuardRow_y h e1, ?_⟩
    simp
  · exact ⟨_, S.GuardRow_x e2, I.GuardRow_x e1, by simp⟩
theorem L.FnExactGuardRow_is {a0 : List Int} : L.FnExactGuardRow_t a0 = some true := by
  unfold L.FnExactGuardRow_t L.FnExactGuardRow_tree
  by_cases ha0 : (a0.length : Int) > 1048576
  · rw [cnd_t (by simpa using ha0)]
  rw [cnd_f (by simpa using ha0)]
  have ta0 := L.toIntS_is (a := a0) (by omega)
  have ea0 := L.eqIntS_is (a := a0) (b := a0) (by omega)
  obtain ⟨v, h1, h2, hv⟩ := GuardRow_same (a0 := a0)
  obtain ⟨m, m1, m4⟩ := L.marked (v := v) (by omega)
  have ev := L.eqIntS_is (a := v) (b := v) (by omega)
  obtain ⟨ma0, ka0, _, _⟩ := L.markIntS_is (a := a0) (k0 := 1) (by omega) (by omega)
  have ka0' : L.markIntS_t a0 1 = _ := ka0
  simp only [optC, ta0, ea0, h1, h2, ev, m1, m4, ka0', decide_true, Bool.not_true, cond_false, neg_nat, not_beq_self]
end Go.Proofs.Ytleianhibhpgpaa
