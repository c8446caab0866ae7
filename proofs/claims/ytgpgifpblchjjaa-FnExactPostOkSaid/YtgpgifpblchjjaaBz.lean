/- Several texts in one: J17b, J17c, ExB, ExP. Conditions: those of each theorem. -/
import Derived.Test.YtgpgifpblchjjaaBzb0
/- Posts, of the program (at ae9a42a) and of the model. Conditions: those of each theorem. -/
namespace Go.Proofs.Ytgpgifpblchjjaa
open D Go.RowKit
set_option linter.unusedVariables false
set_option linter.unusedSimpArgs false


/-- Where guards stand behind requests at places of the net. -/
noncomputable def lastP (net : List Int) (q : List Nat) : Nat := match loopE q.length (ansStep net (nl q)) (firstPost net, [((firstPost net : Nat) : Int)]) with | .inl _ => 0 | .inr t => t.1
theorem ans_all {net : List Int} (h : Ok net) {s : Nat} (hs : s < 2 ^ net.length) (he : Eternal net s) {q : List Nat} (hq : ∀ p, p ∈ q → p < net.length) : ∀ k, k ≤ q.length → ∃ t, loopE k (ansStep net (nl q)) (s, [(s : Int)]) = .inr t := by
  intro k
  induction k with
  | zero => intro _; exact ⟨_, rfl⟩
  | succ k ih =>
    intro hk
    obtain ⟨t, ht⟩ := ih (by omega)
    rw [loopE_succ ht]
    have hp : q.getD k 0 < net.length := hq _ (by
      have : q.getD k 0 = q[k]'(by omega) := by simp [List.getD, show k < q.length by omega]
      rw [this]; exact List.getElem_mem _)
    unfold ansStep
    rw [if_pos (by rw [nl_at (by omega)]; omega)]
    exact ⟨_, rfl⟩
theorem ans_bad {net : List Int} {s : Nat} {q : List Nat} (hq : ¬ ∀ p, p ∈ q → p < net.length) : answered net s (nl q) = [] := by
  obtain ⟨k, hk, hb⟩ : ∃ k, k < q.length ∧ ¬ q.getD k 0 < net.length := by
    refine Classical.byContradiction fun hno => hq fun p hp => ?_
    obtain ⟨k, hk, e⟩ := List.mem_iff_getElem.1 hp
    refine Classical.byContradiction fun hb => hno ⟨k, hk, ?_⟩
    simpa [List.getD, hk, e] using hb
  unfold answered
  rw [nl_len]
  have key : ∀ m, k + 1 + m ≤ q.length → ∃ d, loopE (k + 1 + m) (ansStep net (nl q)) (s, [(s : Int)]) = .inl d := by
    intro m
    induction m with
    | zero =>
      intro _
      cases hl : loopE k (ansStep net (nl q)) (s, [(s : Int)]) with
      | inl d => exact ⟨d, by show loopE (k + 1) _ _ = _; unfold loopE at hl ⊢; rw [fold_succ, hl]⟩
      | inr t =>
        refine ⟨t.2, ?_⟩
        rw [show k + 1 + 0 = k + 1 from rfl, loopE_succ hl]
        unfold ansStep
        rw [if_neg (by rw [nl_at hk]; omega)]
    | succ m ih =>
      intro hm
      obtain ⟨d, hd⟩ := ih (by omega)
      exact ⟨d, by show loopE (k + 1 + m + 1) _ _ = _; unfold loopE at hd ⊢; rw [fold_succ, hd]⟩
  obtain ⟨d, hd⟩ := key (q.length - (k + 1)) (by omega)
  rw [show k + 1 + (q.length - (k + 1)) = q.length by omega] at hd
  rw [hd]
theorem ans_last {net : List Int} (h : Ok net) {q : List Nat} (hq : ∀ p, p ∈ q → p < net.length) : ∃ l : List Int, answeredI net ((firstPost net : Nat) : Int) (nl q) = l ∧ l.length = q.length + 1 ∧ D.eli l q.length = ((lastP net q : Nat) : Int) := by
  have hP : IsPost net (firstPost net) := fp_loop h
  obtain ⟨t, ht⟩ := ans_all h hP.lt (eternalB_iff.1 hP.et) hq q.length (Nat.le_refl _)
  have hi := ans_inv h (nl q) hP.lt (eternalB_iff.1 hP.et) q.length t ht
  obtain ⟨_, i2, _, i4, _⟩ := hi
  refine ⟨t.2, ?_, i2, ?_⟩
  · unfold answeredI
    rw [if_pos ⟨dec_true (set_in hP.lt), by rw [Int.toNat_natCast]; exact hP.et⟩, Int.toNat_natCast]
    unfold answered
    rw [nl_len, ht]
  · obtain ⟨u, u1, _, _, _, u5⟩ := i4 q.length (Nat.le_refl _)
    rw [u1, u5 rfl]
    unfold lastP
    rw [ht]
theorem I.postBehind_n {net : List Int} (h : Ok net) (e : I.NetOk_t net = some true) {q : List Nat} (hl : q.length ≤ 40) (hq : ∀ p, p ∈ q → p < net.length) : I.postBehind_t net (nl q) = some (((lastP net q : Nat) : Int), net, nl (logN 0 q)) := by
  unfold I.postBehind_t I.postBehind_tree
  have h6 := h.hi
  obtain ⟨l, l1, l2, l3⟩ := ans_last h hq
  rw [I.firstPostIn_n h]
  simp only [optC]
  rw [I.AnsweredAll_n h e _ (by rw [nl_len]; omega), l1]
  simp only
  rw [List.nil_append, cnd_t (small_of (by omega)), l2, i64_wrap (n := ((q.length + 1 : Nat) : Int) - 1) (by omega) (by omega), show ((q.length + 1 : Nat) : Int) - 1 = (q.length : Int) by omega, cnd_t (by simp only [Bool.and_eq_true, decide_eq_true_eq]; omega), Int.toNat_natCast, cnd_t (by rw [decide_eq_true_eq]; omega), I.LogOf_n, logI_nl hl (fun p hp => by have := hq p hp; omega), l3]
theorem S.l17Last_n {net : List Int} (h : Ok net) (e : S.NetOk_t net = some true) {q : List Nat} (hl : q.length ≤ 40) (hq : ∀ p, p ∈ q → p < net.length) : S.l17Last_t net (nl q) = some ((lastP net q : Nat) : Int) := by
  unfold S.l17Last_t S.l17Last_tree
  obtain ⟨l, l1, l2, l3⟩ := ans_last h hq
  rw [S.FirstPost_y h e]
  simp only [optC]
  rw [S.AnsweredAll_n h e _ (by rw [nl_len]; omega), l1]
  simp only
  rw [cnd_f (by rw [beq_eq_false_iff_ne]; omega), l2, i64_wrap (n := ((q.length + 1 : Nat) : Int) - 1) (by omega) (by omega), show ((q.length + 1 : Nat) : Int) - 1 = (q.length : Int) by omega, cnd_t (by simp only [Bool.and_eq_true, decide_eq_true_eq]; omega), Int.toNat_natCast, cnd_t (by rw [decide_eq_true_eq]; omega), l3]
theorem S.l17Last_bad {net : List Int} (h : Ok net) (e : S.NetOk_t net = some true) {q : List Nat} (hl : q.length ≤ 40) (hq : ¬ ∀ p, p ∈ q → p < net.length) : S.l17Last_t net (nl q) = some (-1) := by
  unfold S.l17Last_t S.l17Last_tree
  have hP : IsPost net (firstPost net) := fp_loop h
  rw [S.FirstPost_y h e]
  simp only [optC]
  rw [S.AnsweredAll_n h e _ (by rw [nl_len]; omega)]
  simp only
  have : answeredI net ((firstPost net : Nat) : Int) (nl q) = [] := by
    unfold answeredI
    rw [if_pos ⟨dec_true (set_in hP.lt), by rw [Int.toNat_natCast]; exact hP.et⟩, Int.toNat_natCast]
    exact ans_bad hq
  rw [this]; rfl
/-- The places ahead of the first one that the net has not. -/
def hereN (net : List Int) (q : List Nat) : List Nat := q.takeWhile fun p => decide (p < net.length)
theorem hereN_in {net : List Int} {q : List Nat} : ∀ p, p ∈ hereN net q → p < net.length := by
  induction q with
  | nil => intro p hp; simp [hereN] at hp
  | cons a r ih =>
    intro p hp
    unfold hereN at hp ih
    rw [List.takeWhile_cons] at hp
    by_cases ha : a < net.length
    · rw [if_pos (by simpa using ha)] at hp
      rcases List.mem_cons.1 hp with rfl | hp
      · exact ha
      · exact ih p hp
    · rw [if_neg (by simpa using ha)] at hp; simp at hp
theorem hereN_all {net : List Int} {q : List Nat} (hq : ∀ p, p ∈ q → p < net.length) : hereN net q = q := by
  unfold hereN
  induction q with
  | nil => rfl
  | cons a r ih =>
    rw [List.takeWhile_cons, if_pos (by simpa using hq a (by simp)), ih (fun p hp => hq p (by simp [hp]))]
theorem hereN_full {net : List Int} {q : List Nat} (hl : (hereN net q).length = q.length) : ∀ p, p ∈ q → p < net.length := by
  have hpre : hereN net q <+: q := List.takeWhile_prefix _
  have e : hereN net q = q := hpre.eq_of_length hl
  intro p hp
  rw [← e] at hp
  exact hereN_in p hp
theorem I.placesHere_n {net : List Int} (h : Ok net) {q : List Nat} (hl : q.length ≤ 40) : I.placesHere_t net (nl q) = some (nl (hereN net q)) := by
  unfold I.placesHere_t I.placesHere_tree
  have hF := FUEL_le
  have h6 := h.hi
  have key : ∀ (r : List Nat) (p : List Nat) (N : Nat), p ++ r = q → r.length < N → I.placesHere_run3 net (nl q) N ((p.length : Int), nl p) = some (nl (p ++ hereN net r)) := by
    intro r
    induction r with
    | nil =>
      intro p N hp hN
      obtain ⟨N, rfl⟩ : ∃ m, N = m + 1 := ⟨N - 1, by simp at hN; omega⟩
      have hpl : p.length = q.length := by rw [← hp]; simp
      simp only [I.placesHere_run3, I.placesHere_step3]
      rw [cnd_f (by rw [decide_eq_false_iff_not, nl_len]; omega)]
      simp [hereN]
    | cons a r ih =>
      intro p N hp hN
      obtain ⟨N, rfl⟩ : ∃ m, N = m + 1 := ⟨N - 1, by simp at hN; omega⟩
      have hpl : p.length < q.length := by rw [← hp]; simp
      have hat : q.getD p.length 0 = a := by rw [← hp]; simp [List.getD]
      simp only [I.placesHere_run3, I.placesHere_step3]
      rw [cnd_t (by rw [decide_eq_true_eq, nl_len]; omega), cnd_t (by simp only [Bool.and_eq_true, decide_eq_true_eq, nl_len]; omega), Int.toNat_natCast, nl_at hpl, hat, I.placeIn_n]
      simp only [optC]
      unfold hereN
      rw [List.takeWhile_cons]
      by_cases ha : a < net.length
      · rw [show decide (0 ≤ (a : Int) ∧ (a : Int) < net.length) = true from decide_eq_true ⟨by omega, by omega⟩, cond_true, cnd_t (by simp only [Bool.and_eq_true, decide_eq_true_eq, nl_len]; omega), cnd_t (small_of (by rw [List.length_append, nl_len]; simp; omega)), add1_nat (by omega), if_pos (by simpa using ha), ← nl_append]
        have := ih (p ++ [a]) N (by rw [← hp]; simp) (by simp at hN; omega)
        rw [show (p ++ [a]).length = p.length + 1 by simp] at this
        rw [this]
        unfold hereN
        simp
      · rw [show decide (0 ≤ (a : Int) ∧ (a : Int) < net.length) = false from decide_eq_false fun hc => ha (by omega), cond_false, if_neg (by simpa using ha)]
        simp
  rw [show I.placesHere_run3 net (nl q) FUEL (0, []) = _ from key q [] FUEL rfl (by omega)]
  simp [optC]
noncomputable def postB (net : List Int) (s : Int) (log : List Nat) : Bool := decide (3 * lpL log = log.length ∧ (∀ p, p ∈ lp log → p < net.length) ∧ ((lastP net (lp log) : Nat) : Int) = s)
theorem I.PostOk_n {net : List Int} (h : Ok net) (e : I.NetOk_t net = some true) (s : Int) {log : List Nat} (hb : ∀ x, x ∈ log → x < 256) : I.PostOk_t net s (nl log) = some (postB net s log) := by
  unfold I.PostOk_t I.PostOk_tree
  have h40 := (lpL_is log).2.2
  have hlen := lp_len log
  rw [I.LogPlaces_n hb]
  simp only [optC]
  rw [e]
  simp only [Bool.not_true, cond_false]
  rw [nl_len]
  unfold postB
  by_cases h3 : 3 * lpL log = log.length
  rotate_left
  · rw [cnd_t (by rw [Bool.not_eq_true', beq_eq_false_iff_ne]; omega), decide_eq_false (fun hc => h3 hc.1)]
  rw [cnd_f (by rw [Bool.not_eq_false', beq_iff_eq]; omega), I.placesHere_n h (by omega)]
  simp only
  rw [nl_len, nl_len]
  by_cases ha : ∀ p, p ∈ lp log → p < net.length
  · rw [hereN_all ha, cnd_f (by simp), I.postBehind_n h e (by omega) ha]
    simp only
    congr 1
    rw [Bool.eq_iff_iff, beq_iff_eq, decide_eq_true_eq]
    exact ⟨fun hs => ⟨h3, ha, hs⟩, fun hs => hs.2.2⟩
  · rw [cnd_t (by rw [Bool.not_eq_true', beq_eq_false_iff_ne]; exact fun hc => ha (hereN_full (by omega))), decide_eq_false (fun hc => ha hc.2.1)]
theorem S.PostOk_n {net : List Int} (h : Ok net) (e : S.NetOk_t net = some true) (s : Int) {log : List Nat} (hb : ∀ x, x ∈ log → x < 256) : S.PostOk_t net s (nl log) = some (postB net s log) := by
  unfold S.PostOk_t S.PostOk_tree
  have h40 := (lpL_is log).2.2
  have hlen := lp_len log
  rw [S.LogPlaces_n hb]
  simp only [optC]
  rw [e]
  simp only [cond_true]
  rw [nl_len]
  unfold postB
  by_cases h3 : 3 * lpL log = log.length
  rotate_left
  · rw [cnd_f (by rw [beq_eq_false_iff_ne]; omega), decide_eq_false (fun hc => h3 hc.1)]
  rw [cnd_t (by rw [beq_iff_eq]; omega)]
  by_cases hs : s ≥ 0
  rotate_left
  · rw [cnd_f (by rw [decide_eq_false_iff_not]; omega), decide_eq_false (fun hc => by have := hc.2.2; omega)]
  rw [cnd_t (by rw [decide_eq_true_eq]; omega)]
  by_cases ha : ∀ p, p ∈ lp log → p < net.length
  · rw [S.l17Last_n h e (by omega) ha]
    simp only
    congr 1
    rw [Bool.eq_iff_iff, beq_iff_eq, decide_eq_true_eq]
    exact ⟨fun hs => ⟨h3, ha, hs⟩, fun hs => hs.2.2⟩
  · rw [S.l17Last_bad h e (by omega) ha]
    simp only
    congr 1
    rw [decide_eq_false (fun hc => ha hc.2.1), beq_eq_false_iff_ne]
    omega
theorem I.PostOk_x {net : List Int} (e : I.NetOk_t net = some false) (s : Int) {log : List Nat} (hb : ∀ x, x ∈ log → x < 256) : I.PostOk_t net s (nl log) = some false := by
  unfold I.PostOk_t I.PostOk_tree
  rw [I.LogPlaces_n hb]
  simp only [optC]
  rw [e]; rfl
theorem S.PostOk_x {net : List Int} (e : S.NetOk_t net = some false) (s : Int) {log : List Nat} (hb : ∀ x, x ∈ log → x < 256) : S.PostOk_t net s (nl log) = some false := by
  unfold S.PostOk_t S.PostOk_tree
  rw [S.LogPlaces_n hb]
  simp only [optC]
  rw [e]; rfl
end Go.Proofs.Ytgpgifpblchjjaa
/- Posts that are asked and cut, of the program (at ae9a42a) and of the model. Conditions: those of each theorem. -/
namespace Go.Proofs.Ytgpgifpblchjjaa
open D Go.RowKit
set_option linter.unusedVariables false
set_option linter.unusedSimpArgs false


open Classical in
/-- What asking for a place comes to. -/
noncomputable def askR (net : List Int) (s : Int) (log : List Nat) (place : Int) : Int × Bool × List Int × List Int :=
  if postB net s log = true ∧ (0 ≤ place ∧ place < net.length) ∧ log.length ≠ 120 then (((lastP net (lp log ++ [place.toNat]) : Nat) : Int), true, net, nl (logN 0 (lp log ++ [place.toNat]))) else (0, false, [], [])
/-- How many bytes are left. -/
def leftN (len : Nat) (bytes : Int) : Nat := if bytes < 0 then 0 else min bytes.toNat len
noncomputable def riseR (net : List Int) (log : List Nat) : Int × Bool × List Int × List Int := (((lastP net (hereN net (lp log)) : Nat) : Int), true, net, nl (logN 0 (hereN net (lp log))))
open Classical in
noncomputable def cutQ (net : List Int) (s : Int) (log : List Nat) (bytes : Int) : Int × Bool × List Int × List Int := if postB net s log = true then riseR net (log.take (leftN log.length bytes)) else (0, false, [], [])
end Go.Proofs.Ytgpgifpblchjjaa
/- What the exact laws need of rows of bytes that are marked. Conditions: those of each theorem. -/
namespace Go.Proofs.Ytgpgifpblchjjaa
open D Go.RowKit
set_option linter.unusedVariables false
set_option linter.unusedSimpArgs false


theorem L.toByteS_is {a : List Int} (ha : a.length ≤ 1048576) : L.toByteS_t a = some a := by
  have hloop : L.toByteS_run3 a FUEL (0, List.replicate (↑a.length : Int).toNat 0) = some a := by
    refine run_fuel (run := L.toByteS_run3 a) (fun s => 0 ≤ s.1 ∧ s.1 ≤ a.length ∧ s.2.length = a.length ∧ ∀ j, j < s.1.toNat → s.2.getD j 0 = a.getD j 0) (fun s => a.length - s.1.toNat) (fun _ => a) ?_ ?_ ?_
    · rintro n ⟨x, r⟩ ⟨h0, h1, h2, h3⟩
      simp only at h0 h1 h2 h3
      by_cases hx : x < (a.length : Int)
      · refine .inr ⟨(IntKind.i64.wrap (x + 1), r.set x.toNat (eli a x.toNat)), ?_, ?_, ?_, rfl⟩
        · simp only [L.toByteS_run3, L.toByteS_step3]
          rw [cnd_t (by simpa using hx), cnd_t (by simp; omega), cnd_t (by simp; omega), cnd_t (by simp; omega)]
        · rw [i64_wrap (by omega) (by omega)]
          refine ⟨by simp only; omega, by simp only; omega, by simp only [List.length_set]; exact h2, fun j hj => ?_⟩
          simp only at hj ⊢
          by_cases hjx : j = x.toNat
          · subst hjx
            have hlt : x.toNat < r.length := by omega
            simp [List.getD, hlt, eli]
          · rw [← h3 j (by omega)]
            simp [List.getD, List.getElem?_set_ne (Ne.symm hjx)]
        · rw [i64_wrap (by omega) (by omega)]; simp only; omega
      · refine .inl ?_
        simp only [L.toByteS_run3, L.toByteS_step3]
        rw [cnd_f (by simpa using hx)]
        congr 1
        apply List.ext_getElem?
        intro j
        by_cases hj : j < a.length
        · have := h3 j (by omega)
          simp only [List.getD, h2, hj, List.getElem?_eq_getElem, Option.getD_some, hj] at this ⊢
          rw [this]
        · rw [List.getElem?_eq_none (by omega), List.getElem?_eq_none (by omega)]
    · refine ⟨by simp, by simp, by simp, fun j hj => by simp at hj⟩
    · simp; omega
  unfold L.toByteS_t L.toByteS_tree
  rw [cnd_t (by simp [small]; omega), hloop]
  rfl

theorem L.eqByteS_is {a b : List Int} (ha : a.length ≤ 2097152) : L.eqByteS_t a b = some (decide (a = b)) := by
  unfold L.eqByteS_t L.eqByteS_tree
  by_cases hl : a.length = b.length
  · rw [cnd_f (by simp [hl])]
    have hloop : L.eqByteS_run4 a b FUEL 0 = some (if a = b then .inr () else .inl false) := by
      refine run_fuel (run := L.eqByteS_run4 a b) (fun x => 0 ≤ x ∧ x ≤ a.length ∧ ∀ j, j < x.toNat → a.getD j 0 = b.getD j 0) (fun x => a.length - x.toNat) (fun _ => if a = b then .inr () else .inl false) ?_ ?_ ?_
      · rintro n x ⟨h0, h1, h3⟩
        by_cases hx : x < (a.length : Int)
        · by_cases he : eli a x.toNat = eli b x.toNat
          · refine .inr ⟨IntKind.i64.wrap (x + 1), ?_, ?_, ?_, rfl⟩
            · simp only [L.eqByteS_run4, L.eqByteS_step4]
              rw [cnd_t (by simpa using hx), cnd_t (by simp; omega), cnd_t (by simp; omega), cnd_f (by simp [he])]
            · rw [i64_wrap (by omega) (by omega)]
              refine ⟨by omega, by omega, fun j hj => ?_⟩
              by_cases hjx : j = x.toNat
              · subst hjx; exact he
              · exact h3 j (by omega)
            · rw [i64_wrap (by omega) (by omega)]; omega
          · refine .inl ?_
            simp only [L.eqByteS_run4, L.eqByteS_step4]
            rw [cnd_t (by simpa using hx), cnd_t (by simp; omega), cnd_t (by simp; omega), cnd_t (by simp [he])]
            rw [if_neg (fun h => he (by rw [h]))]
        · refine .inl ?_
          simp only [L.eqByteS_run4, L.eqByteS_step4]
          rw [cnd_f (by simpa using hx)]
          have : a = b := by
            apply List.ext_getElem hl
            intro j hj hj'
            have := h3 j (by omega)
            simpa [List.getD, hj, hj'] using this
          rw [if_pos this]
      · exact ⟨by simp, by simp, fun j hj => by simp at hj⟩
      · simp; omega
    rw [hloop]
    by_cases h : a = b
    · simp [h, optC, sumC]
    · simp [h, optC, sumC]
  · rw [cnd_t (by simp; omega)]
    have : ¬ a = b := fun h => hl (by rw [h])
    simp [this]
end Go.Proofs.Ytgpgifpblchjjaa
/- Exact laws of posts. Conditions: those of each theorem. -/
namespace Go.Proofs.Ytgpgifpblchjjaa
open D Go.RowKit
set_option linter.unusedVariables false
set_option linter.unusedSimpArgs false


theorem L.eqPost_is {N M : List Int} {s : Int} (hN : N.length ≤ 2097152) (hM : M.length ≤ 2097152) : L.eqPost_t N s M N s M = some true := by
  unfold L.eqPost_t L.eqPost_tree
  rw [L.eqIntS_is hN, L.eqByteS_is hM]
  simp [optC]
theorem L.toPost_is {N M : List Int} {s : Int} (hN : N.length ≤ 1048576) (hM : M.length ≤ 1048576) : L.toPost_t N s M = some (s, N, M) := by
  unfold L.toPost_t L.toPost_tree
  rw [L.toIntS_is hN, L.toByteS_is hM]
  rfl
/-- Too much to read, or not. -/
theorem L.szPost_is (N M : List Int) (s : Int) (hN : N.length ≤ maxLen) (hM : M.length ≤ maxLen) : (∃ c, L.szPost_t N s M 1048576 = some c ∧ decide (c < 0) = true) ∨ (∃ c, L.szPost_t N s M 1048576 = some c ∧ decide (c < 0) = false ∧ N.length + M.length ≤ 1048576) := by
  unfold maxLen at hN hM
  unfold L.szPost_t L.szPost_tree L.szIntS_t L.szIntS_tree
  rw [i64_wrap (n := 1048576 - (N.length : Int)) (by omega) (by omega)]
  by_cases h1 : (1048576 : Int) - N.length < 0
  · left
    rw [cnd_t (by rw [decide_eq_true_eq]; exact h1)]
    exact ⟨_, rfl, rfl⟩
  · rw [cnd_f (by rw [decide_eq_false_iff_not]; exact h1)]
    simp only [optC]
    rw [cnd_f (by rw [decide_eq_false_iff_not]; exact h1)]
    unfold L.szByteS_t L.szByteS_tree
    rw [i64_wrap (n := 1048576 - (N.length : Int) - (M.length : Int)) (by omega) (by omega)]
    by_cases h2 : (1048576 : Int) - N.length - M.length < 0
    · left
      rw [cnd_t (by rw [decide_eq_true_eq]; exact h2)]
      exact ⟨_, rfl, rfl⟩
    · right
      rw [cnd_f (by rw [decide_eq_false_iff_not]; exact h2)]
      simp only
      rw [cnd_f (by rw [decide_eq_false_iff_not]; exact h2)]
      exact ⟨_, rfl, by rw [decide_eq_false_iff_not]; exact h2, by omega⟩
/-- An answer that is a post, or none. -/
def SmallP (r : Int × Bool × List Int × List Int) : Prop := r.2.2.1.length ≤ 1000000 ∧ r.2.2.2.length ≤ 1000000
theorem PostOk_same {net : List Int} {s : Int} {log : List Int} (hb : Bytes log) : ∃ b, S.PostOk_t net s log = some b ∧ I.PostOk_t net s log = some b := by
  obtain ⟨q, rfl, hq⟩ := nl_back hb
  rcases NetOk_cases net with ⟨h, e1, e2⟩ | ⟨_, e1, e2⟩
  · exact ⟨_, S.PostOk_n h e2 s hq, I.PostOk_n h e1 s hq⟩
  · exact ⟨_, S.PostOk_x e2 s hq, I.PostOk_x e1 s hq⟩
theorem L.FnExactPostOk_is {N M : List Int} {s : Int} (hm0 : N.length ≤ maxLen) (hw0 : ∀ n ∈ N, (Lit.int .i64 n).wf = true) (_hs : -9223372036854775808 ≤ s ∧ s ≤ 9223372036854775807) (hm : M.length ≤ maxLen) (hw : ∀ n ∈ M, (Lit.int .u8 n).wf = true) : L.FnExactPostOk_t N s M = some true := by
  unfold L.FnExactPostOk_t L.FnExactPostOk_tree
  rcases L.szPost_is N M s hm0 hm with ⟨c, e1, e2⟩ | ⟨c, e1, e2, hl⟩
  · rw [e1]
    simp only [optC]
    rw [e2, cond_true]
  · have tp := L.toPost_is (N := N) (M := M) (s := s) (by omega) (by omega)
    have ep := L.eqPost_is (N := N) (M := M) (s := s) (by omega) (by omega)
    obtain ⟨b, h1, h2⟩ := PostOk_same (net := N) (s := s) (Bytes.wf hw)
    simp only [optC, e1, e2, cond_false, tp, h1, h2, ep]
    simp
end Go.Proofs.Ytgpgifpblchjjaa
