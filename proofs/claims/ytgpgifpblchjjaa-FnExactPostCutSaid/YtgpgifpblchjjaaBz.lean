/- Several texts in one: J17b, J17c, ExB, ExP. Conditions: those of each theorem. -/
import Derived.Test.YtgpgifpblchjjaaBzb0
/- Posts, of the program (at ae9a42a) and of the model. Conditions: those of each theorem. -/
namespace Go.Proofs.Ytgpgifpblchjjaa
open D Go.RowKit
set_option linter.unusedVariables false
set_option linter.unusedSimpArgs false


/-- Where guards stand behind requests at places of the net. -/
noncomputable def lastP (net : List Int) (q : List Nat) : Nat := match loopE q.length (ansStep net (nl q)) (firstPost net, [((firstPost net : Nat) : Int)]) with | .inl _ => 0 | .inr t => t.1
theorem ans_all {net : List Int} (h : Ok net) {s : Nat} (hs : s < 2 ^ net.length) (he : Eternal net s) {q : List Nat} (hq : ∀ p, p ∈ q → p < net.length) : ∀ k, k ≤ q.length → ∃ t, loopE k (ansStep net (nl q)) (s, [(s : Int)]) = .inr t := by
  intro k
  induction k with
  | zero => intro _; exact ⟨_, rfl⟩
  | succ k ih =>
    intro hk
    obtain ⟨t, ht⟩ := ih (by omega)
    rw [loopE_succ ht]
    have hp : q.getD k 0 < net.length := hq _ (by
      have : q.getD k 0 = q[k]'(by omega) := by simp [List.getD, show k < q.length by omega]
      rw [this]; exact List.getElem_mem _)
    unfold ansStep
    rw [if_pos (by rw [nl_at (by omega)]; omega)]
    exact ⟨_, rfl⟩
theorem ans_bad {net : List Int} {s : Nat} {q : List Nat} (hq : ¬ ∀ p, p ∈ q → p < net.length) : answered net s (nl q) = [] := by
  obtain ⟨k, hk, hb⟩ : ∃ k, k < q.length ∧ ¬ q.getD k 0 < net.length := by
    refine Classical.byContradiction fun hno => hq fun p hp => ?_
    obtain ⟨k, hk, e⟩ := List.mem_iff_getElem.1 hp
    refine Classical.byContradiction fun hb => hno ⟨k, hk, ?_⟩
    simpa [List.getD, hk, e] using hb
  unfold answered
  rw [nl_len]
  have key : ∀ m, k + 1 + m ≤ q.length → ∃ d, loopE (k + 1 + m) (ansStep net (nl q)) (s, [(s : Int)]) = .inl d := by
    intro m
    induction m with
    | zero =>
      intro _
      cases hl : loopE k (ansStep net (nl q)) (s, [(s : Int)]) with
      | inl d => exact ⟨d, by show loopE (k + 1) _ _ = _; unfold loopE at hl ⊢; rw [fold_succ, hl]⟩
      | inr t =>
        refine ⟨t.2, ?_⟩
        rw [show k + 1 + 0 = k + 1 from rfl, loopE_succ hl]
        unfold ansStep
        rw [if_neg (by rw [nl_at hk]; omega)]
    | succ m ih =>
      intro hm
      obtain ⟨d, hd⟩ := ih (by omega)
      exact ⟨d, by show loopE (k + 1 + m + 1) _ _ = _; unfold loopE at hd ⊢; rw [fold_succ, hd]⟩
  obtain ⟨d, hd⟩ := key (q.length - (k + 1)) (by omega)
  rw [show k + 1 + (q.length - (k + 1)) = q.length by omega] at hd
  rw [hd]
theorem ans_last {net : List Int} (h : Ok net) {q : List Nat} (hq : ∀ p, p ∈ q → p < net.length) : ∃ l : List Int, answeredI net ((firstPost net : Nat) : Int) (nl q) = l ∧ l.length = q.length + 1 ∧ D.eli l q.length = ((lastP net q : Nat) : Int) := by
  have hP : IsPost net (firstPost net) := fp_loop h
  obtain ⟨t, ht⟩ := ans_all h hP.lt (eternalB_iff.1 hP.et) hq q.length (Nat.le_refl _)
  have hi := ans_inv h (nl q) hP.lt (eternalB_iff.1 hP.et) q.length t ht
  obtain ⟨_, i2, _, i4, _⟩ := hi
  refine ⟨t.2, ?_, i2, ?_⟩
  · unfold answeredI
    rw [if_pos ⟨dec_true (set_in hP.lt), by rw [Int.toNat_natCast]; exact hP.et⟩, Int.toNat_natCast]
    unfold answered
    rw [nl_len, ht]
  · obtain ⟨u, u1, _, _, _, u5⟩ := i4 q.length (Nat.le_refl _)
    rw [u1, u5 rfl]
    unfold lastP
    rw [ht]
theorem I.postBehind_n {net : List Int} (h : Ok net) (e : I.NetOk_t net = some true) {q : List Nat} (hl : q.length ≤ 40) (hq : ∀ p, p ∈ q → p < net.length) : I.postBehind_t net (nl q) = some (((lastP net q : Nat) : Int), net, nl (logN 0 q)) := by
  unfold I.postBehind_t I.postBehind_tree
  have h6 := h.hi
  obtain ⟨l, l1, l2, l3⟩ := ans_last h hq
  rw [I.firstPostIn_n h]
  simp only [optC]
  rw [I.AnsweredAll_n h e _ (by rw [nl_len]; omega), l1]
  simp only
  rw [List.nil_append, cnd_t (small_of (by omega)), l2, i64_wrap (n := ((q.length + 1 : Nat) : Int) - 1) (by omega) (by omega), show ((q.length + 1 : Nat) : Int) - 1 = (q.length : Int) by omega, cnd_t (by simp only [Bool.and_eq_true, decide_eq_true_eq]; omega), Int.toNat_natCast, cnd_t (by rw [decide_eq_true_eq]; omega), I.LogOf_n, logI_nl hl (fun p hp => by have := hq p hp; omega), l3]
theorem S.l17Last_n {net : List Int} (h : Ok net) (e : S.NetOk_t net = some true) {q : List Nat} (hl : q.length ≤ 40) (hq : ∀ p, p ∈ q → p < net.length) : S.l17Last_t net (nl q) = some ((lastP net q : Nat) : Int) := by
  unfold S.l17Last_t S.l17Last_tree
  obtain ⟨l, l1, l2, l3⟩ := ans_last h hq
  rw [S.FirstPost_y h e]
  simp only [optC]
  rw [S.AnsweredAll_n h e _ (by rw [nl_len]; omega), l1]
  simp only
  rw [cnd_f (by rw [beq_eq_false_iff_ne]; omega), l2, i64_wrap (n := ((q.length + 1 : Nat) : Int) - 1) (by omega) (by omega), show ((q.length + 1 : Nat) : Int) - 1 = (q.length : Int) by omega, cnd_t (by simp only [Bool.and_eq_true, decide_eq_true_eq]; omega), Int.toNat_natCast, cnd_t (by rw [decide_eq_true_eq]; omega), l3]
theorem S.l17Last_bad {net : List Int} (h : Ok net) (e : S.NetOk_t net = some true) {q : List Nat} (hl : q.length ≤ 40) (hq : ¬ ∀ p, p ∈ q → p < net.length) : S.l17Last_t net (nl q) = some (-1) := by
  unfold S.l17Last_t S.l17Last_tree
  have hP : IsPost net (firstPost net) := fp_loop h
  rw [S.FirstPost_y h e]
  simp only [optC]
  rw [S.AnsweredAll_n h e _ (by rw [nl_len]; omega)]
  simp only
  have : answeredI net ((firstPost net : Nat) : Int) (nl q) = [] := by
    unfold answeredI
    rw [if_pos ⟨dec_true (set_in hP.lt), by rw [Int.toNat_natCast]; exact hP.et⟩, Int.toNat_natCast]
    exact ans_bad hq
  rw [this]; rfl
/-- The places ahead of the first one that the net has not. -/
def hereN (net : List Int) (q : List Nat) : List Nat := q.takeWhile fun p => decide (p < net.length)
theorem hereN_in {net : List Int} {q : List Nat} : ∀ p, p ∈ hereN net q → p < net.length := by
  induction q with
  | nil => intro p hp; simp [hereN] at hp
  | cons a r ih =>
    intro p hp
    unfold hereN at hp ih
    rw [List.takeWhile_cons] at hp
    by_cases ha : a < net.length
    · rw [if_pos (by simpa using ha)] at hp
      rcases List.mem_cons.1 hp with rfl | hp
      · exact ha
      · exact ih p hp
    · rw [if_neg (by simpa using ha)] at hp; simp at hp
theorem hereN_len (net : List Int) (q : List Nat) : (hereN net q).length ≤ q.length := by unfold hereN; exact (List.takeWhile_prefix _).length_le
theorem hereN_all {net : List Int} {q : List Nat} (hq : ∀ p, p ∈ q → p < net.length) : hereN net q = q := by
  unfold hereN
  induction q with
  | nil => rfl
  | cons a r ih =>
    rw [List.takeWhile_cons, if_pos (by simpa using hq a (by simp)), ih (fun p hp => hq p (by simp [hp]))]
theorem hereN_full {net : List Int} {q : List Nat} (hl : (hereN net q).length = q.length) : ∀ p, p ∈ q → p < net.length := by
  have hpre : hereN net q <+: q := List.takeWhile_prefix _
  have e : hereN net q = q := hpre.eq_of_length hl
  intro p hp
  rw [← e] at hp
  exact hereN_in p hp
theorem I.placesHere_n {net : List Int} (h : Ok net) {q : List Nat} (hl : q.length ≤ 40) : I.placesHere_t net (nl q) = some (nl (hereN net q)) := by
  unfold I.placesHere_t I.placesHere_tree
  have hF := FUEL_le
  have h6 := h.hi
  have key : ∀ (r : List Nat) (p : List Nat) (N : Nat), p ++ r = q → r.length < N → I.placesHere_run3 net (nl q) N ((p.length : Int), nl p) = some (nl (p ++ hereN net r)) := by
    intro r
    induction r with
    | nil =>
      intro p N hp hN
      obtain ⟨N, rfl⟩ : ∃ m, N = m + 1 := ⟨N - 1, by simp at hN; omega⟩
      have hpl : p.length = q.length := by rw [← hp]; simp
      simp only [I.placesHere_run3, I.placesHere_step3]
      rw [cnd_f (by rw [decide_eq_false_iff_not, nl_len]; omega)]
      simp [hereN]
    | cons a r ih =>
      intro p N hp hN
      obtain ⟨N, rfl⟩ : ∃ m, N = m + 1 := ⟨N - 1, by simp at hN; omega⟩
      have hpl : p.length < q.length := by rw [← hp]; simp
      have hat : q.getD p.length 0 = a := by rw [← hp]; simp [List.getD]
      simp only [I.placesHere_run3, I.placesHere_step3]
      rw [cnd_t (by rw [decide_eq_true_eq, nl_len]; omega), cnd_t (by simp only [Bool.and_eq_true, decide_eq_true_eq, nl_len]; omega), Int.toNat_natCast, nl_at hpl, hat, I.placeIn_n]
      simp only [optC]
      unfold hereN
      rw [List.takeWhile_cons]
      by_cases ha : a < net.length
      · rw [show decide (0 ≤ (a : Int) ∧ (a : Int) < net.length) = true from decide_eq_true ⟨by omega, by omega⟩, cond_true, cnd_t (by simp only [Bool.and_eq_true, decide_eq_true_eq, nl_len]; omega), cnd_t (small_of (by rw [List.length_append, nl_len]; simp; omega)), add1_nat (by omega), if_pos (by simpa using ha), ← nl_append]
        have := ih (p ++ [a]) N (by rw [← hp]; simp) (by simp at hN; omega)
        rw [show (p ++ [a]).length = p.length + 1 by simp] at this
        rw [this]
        unfold hereN
        simp
      · rw [show decide (0 ≤ (a : Int) ∧ (a : Int) < net.length) = false from decide_eq_false fun hc => ha (by omega), cond_false, if_neg (by simpa using ha)]
        simp
  rw [show I.placesHere_run3 net (nl q) FUEL (0, []) = _ from key q [] FUEL rfl (by omega)]
  simp [optC]
noncomputable def postB (net : List Int) (s : Int) (log : List Nat) : Bool := decide (3 * lpL log = log.length ∧ (∀ p, p ∈ lp log → p < net.length) ∧ ((lastP net (lp log) : Nat) : Int) = s)
theorem I.PostOk_n {net : List Int} (h : Ok net) (e : I.NetOk_t net = some true) (s : Int) {log : List Nat} (hb : ∀ x, x ∈ log → x < 256) : I.PostOk_t net s (nl log) = some (postB net s log) := by
  unfold I.PostOk_t I.PostOk_tree
  have h40 := (lpL_is log).2.2
  have hlen := lp_len log
  rw [I.LogPlaces_n hb]
  simp only [optC]
  rw [e]
  simp only [Bool.not_true, cond_false]
  rw [nl_len]
  unfold postB
  by_cases h3 : 3 * lpL log = log.length
  rotate_left
  · rw [cnd_t (by rw [Bool.not_eq_true', beq_eq_false_iff_ne]; omega), decide_eq_false (fun hc => h3 hc.1)]
  rw [cnd_f (by rw [Bool.not_eq_false', beq_iff_eq]; omega), I.placesHere_n h (by omega)]
  simp only
  rw [nl_len, nl_len]
  by_cases ha : ∀ p, p ∈ lp log → p < net.length
  · rw [hereN_all ha, cnd_f (by simp), I.postBehind_n h e (by omega) ha]
    simp only
    congr 1
    rw [Bool.eq_iff_iff, beq_iff_eq, decide_eq_true_eq]
    exact ⟨fun hs => ⟨h3, ha, hs⟩, fun hs => hs.2.2⟩
  · rw [cnd_t (by rw [Bool.not_eq_true', beq_eq_false_iff_ne]; exact fun hc => ha (hereN_full (by omega))), decide_eq_false (fun hc => ha hc.2.1)]
theorem S.PostOk_n {net : List Int} (h : Ok net) (e : S.NetOk_t net = some true) (s : Int) {log : List Nat} (hb : ∀ x, x ∈ log → x < 256) : S.PostOk_t net s (nl log) = some (postB net s log) := by
  unfold S.PostOk_t S.PostOk_tree
  have h40 := (lpL_is log).2.2
  have hlen := lp_len log
  rw [S.LogPlaces_n hb]
  simp only [optC]
  rw [e]
  simp only [cond_true]
  rw [nl_len]
  unfold postB
  by_cases h3 : 3 * lpL log = log.length
  rotate_left
  · rw [cnd_f (by rw [beq_eq_false_iff_ne]; omega), decide_eq_false (fun hc => h3 hc.1)]
  rw [cnd_t (by rw [beq_iff_eq]; omega)]
  by_cases hs : s ≥ 0
  rotate_left
  · rw [cnd_f (by rw [decide_eq_false_iff_not]; omega), decide_eq_false (fun hc => by have := hc.2.2; omega)]
  rw [cnd_t (by rw [decide_eq_true_eq]; omega)]
  by_cases ha : ∀ p, p ∈ lp log → p < net.length
  · rw [S.l17Last_n h e (by omega) ha]
    simp only
    congr 1
    rw [Bool.eq_iff_iff, beq_iff_eq, decide_eq_true_eq]
    exact ⟨fun hs => ⟨h3, ha, hs⟩, fun hs => hs.2.2⟩
  · rw [S.l17Last_bad h e (by omega) ha]
    simp only
    congr 1
    rw [decide_eq_false (fun hc => ha hc.2.1), beq_eq_false_iff_ne]
    omega
theorem I.PostOk_x {net : List Int} (e : I.NetOk_t net = some false) (s : Int) {log : List Nat} (hb : ∀ x, x ∈ log → x < 256) : I.PostOk_t net s (nl log) = some false := by
  unfold I.PostOk_t I.PostOk_tree
  rw [I.LogPlaces_n hb]
  simp only [optC]
  rw [e]; rfl
theorem S.PostOk_x {net : List Int} (e : S.NetOk_t net = some false) (s : Int) {log : List Nat} (hb : ∀ x, x ∈ log → x < 256) : S.PostOk_t net s (nl log) = some false := by
  unfold S.PostOk_t S.PostOk_tree
  rw [S.LogPlaces_n hb]
  simp only [optC]
  rw [e]; rfl
theorem I.PostRise_x {net : List Int} (e : I.NetOk_t net = some false) (log : List Int) : I.PostRise_t net log = some (0, false, [], []) := by
  unfold I.PostRise_t I.PostRise_tree; rw [e]; rfl
theorem I.PostRise_n {net : List Int} (h : Ok net) (e : I.NetOk_t net = some true) {log : List Nat} (hb : ∀ x, x ∈ log → x < 256) : I.PostRise_t net (nl log) = some ((((lastP net (hereN net (lp log)) : Nat) : Int), true, net, nl (logN 0 (hereN net (lp log))))) := by
  unfold I.PostRise_t I.PostRise_tree
  have h40 := (lpL_is log).2.2
  have hlen := lp_len log
  have hh := hereN_len net (lp log)
  rw [e]
  simp only [optC, Bool.not_true, cond_false]
  rw [I.LogPlaces_n hb]
  simp only
  rw [I.placesHere_n h (by omega)]
  simp only
  rw [I.postBehind_n h e (by omega) hereN_in]
theorem lp_nil : lp [] = [] := by
  have := lpL_bytes []
  have h0 : lpL [] = 0 := by simp at this; exact this
  unfold lp; rw [h0]; rfl
theorem I.PostNew_x {net : List Int} (e : I.NetOk_t net = some false) : I.PostNew_t net = some (0, false, [], []) := by
  unfold I.PostNew_t I.PostNew_tree; rw [I.PostRise_x e]; rfl
theorem S.PostNew_x {net : List Int} (e : S.NetOk_t net = some false) : S.PostNew_t net = some (0, false, [], []) := by
  unfold S.PostNew_t S.PostNew_tree; rw [e]; rfl
theorem I.PostRise_nil {net : List Int} (h : Ok net) (e : I.NetOk_t net = some true) : I.PostRise_t net [] = some ((((firstPost net : Nat) : Int), true, net, [])) := by
  have := I.PostRise_n h e (log := []) (fun x hx => by simp at hx)
  rw [lp_nil] at this
  exact this
theorem I.PostNew_n {net : List Int} (h : Ok net) (e : I.NetOk_t net = some true) : I.PostNew_t net = some ((((firstPost net : Nat) : Int), true, net, [])) := by
  unfold I.PostNew_t I.PostNew_tree
  rw [I.PostRise_nil h e]; rfl
theorem S.PostNew_n {net : List Int} (h : Ok net) (e : S.NetOk_t net = some true) : S.PostNew_t net = some ((((firstPost net : Nat) : Int), true, net, [])) := by
  unfold S.PostNew_t S.PostNew_tree
  have h6 := h.hi
  rw [e]
  simp only [optC, Bool.not_true, cond_false]
  rw [cnd_t (small_of (by simp; omega)), S.FirstPost_y h e]
  simp only [List.nil_append]
theorem S.PostRise_x {net : List Int} (e : S.NetOk_t net = some false) (log : List Int) : S.PostRise_t net log = some (0, false, [], []) := by
  unfold S.PostRise_t S.PostRise_tree; rw [e]; rfl
theorem S.PostRise_n {net : List Int} (h : Ok net) (e : S.NetOk_t net = some true) {log : List Nat} (hb : ∀ x, x ∈ log → x < 256) : S.PostRise_t net (nl log) = some ((((lastP net (hereN net (lp log)) : Nat) : Int), true, net, nl (logN 0 (hereN net (lp log))))) := by
  unfold S.PostRise_t S.PostRise_tree
  have hF := FUEL_le
  have h6 := h.hi
  have h40 := (lpL_is log).2.2
  have hlen := lp_len log
  have hh := hereN_len net (lp log)
  rw [e]
  simp only [optC, Bool.not_true, cond_false]
  rw [S.LogPlaces_n hb]
  simp only
  generalize lp log = q at hlen hh ⊢
  have key : ∀ (r : List Nat) (p : List Nat) (N : Nat), p ++ r = q → r.length < N → S.PostRise_run6 net N ((p.length : Int), 0, nl q, nl p) = some (0, nl (p ++ hereN net r)) := by
    intro r
    induction r with
    | nil =>
      intro p N hp hN
      obtain ⟨N, rfl⟩ : ∃ m, N = m + 1 := ⟨N - 1, by simp at hN; omega⟩
      have hpl : p.length = q.length := by rw [← hp]; simp
      simp only [S.PostRise_run6, S.PostRise_step6]
      rw [cnd_f (by rw [decide_eq_false_iff_not, nl_len]; omega)]
      simp [hereN]
    | cons a r ih =>
      intro p N hp hN
      obtain ⟨N, rfl⟩ : ∃ m, N = m + 1 := ⟨N - 1, by simp at hN; omega⟩
      have hpl : p.length < q.length := by rw [← hp]; simp
      have hat : q.getD p.length 0 = a := by rw [← hp]; simp [List.getD]
      simp only [S.PostRise_run6, S.PostRise_step6]
      rw [cnd_t (by rw [decide_eq_true_eq, nl_len]; omega), cnd_t (by simp only [Bool.and_eq_true, decide_eq_true_eq, nl_len]; omega), Int.toNat_natCast, cnd_t (by rw [decide_eq_true_eq, nl_len]; omega), nl_at hpl, hat]
      unfold hereN
      rw [List.takeWhile_cons]
      by_cases ha : a < net.length
      · rw [cnd_t (by rw [decide_eq_true_eq]; omega), cnd_t (by simp only [Bool.and_eq_true, decide_eq_true_eq, nl_len]; omega), cnd_t (by rw [decide_eq_true_eq, nl_len]; omega), cnd_t (small_of (by rw [List.length_append, nl_len]; simp; omega)), add1_nat (by omega), if_pos (by simpa using ha), ← nl_append]
        have := ih (p ++ [a]) N (by rw [← hp]; simp) (by simp at hN; omega)
        rw [show (p ++ [a]).length = p.length + 1 by simp] at this
        rw [this]
        unfold hereN
        simp
      · rw [cnd_f (by rw [decide_eq_false_iff_not]; omega), if_neg (by simpa using ha)]
        simp
  rw [show S.PostRise_run6 net FUEL (0, 0, nl q, []) = _ from key q [] FUEL rfl (by omega)]
  simp only [List.nil_append]
  rw [cnd_t (small_of (by omega)), S.l17Last_n h e (by omega) hereN_in]
  simp only
  rw [S.LogOf_n, logI_nl (by omega) (fun p hp => by have := hereN_in p hp; omega)]
end Go.Proofs.Ytgpgifpblchjjaa
/- Posts that are asked and cut, of the program (at ae9a42a) and of the model. Conditions: those of each theorem. -/
namespace Go.Proofs.Ytgpgifpblchjjaa
open D Go.RowKit
set_option linter.unusedVariables false
set_option linter.unusedSimpArgs false


theorem loopE_same {σ ρ : Type} {f g : σ → Nat → ρ ⊕ σ} : ∀ (n : Nat) (s : σ), (∀ k, k < n → ∀ t, f t k = g t k) → loopE n f s = loopE n g s := by
  intro n
  induction n with
  | zero => intro s _; rfl
  | succ n ih =>
    intro s h
    have e : ∀ F : σ → Nat → ρ ⊕ σ, loopE (n + 1) F s = match loopE n F s with | .inl r => .inl r | .inr st => F st n := fun F => by
      unfold loopE
      rw [fold_succ]
      rfl
    rw [e, e, ih s (fun k hk => h k (by omega))]
    cases loopE n g s with
    | inl r => rfl
    | inr t => exact h n (by omega) t
theorem lastP_is {net : List Int} (h : Ok net) {q : List Nat} (hq : ∀ p, p ∈ q → p < net.length) : ∃ t, loopE q.length (ansStep net (nl q)) (firstPost net, [((firstPost net : Nat) : Int)]) = .inr t ∧ lastP net q = t.1 ∧ t.1 < 2 ^ net.length ∧ Eternal net t.1 ∧ (q ≠ [] → True) := by
  have hP : IsPost net (firstPost net) := fp_loop h
  obtain ⟨t, ht⟩ := ans_all h hP.lt (eternalB_iff.1 hP.et) hq q.length (Nat.le_refl _)
  have hi := ans_inv h (nl q) hP.lt (eternalB_iff.1 hP.et) q.length t ht
  obtain ⟨i1, i2, _, i4, _⟩ := hi
  obtain ⟨u, u1, u2, u3, u4, u5⟩ := i4 q.length (Nat.le_refl _)
  have e := u5 rfl
  subst e
  refine ⟨t, ht, ?_, u2, u3, fun _ => trivial⟩
  unfold lastP
  rw [ht]
theorem lastP_lt {net : List Int} (h : Ok net) {q : List Nat} (hq : ∀ p, p ∈ q → p < net.length) : lastP net q < 2 ^ net.length ∧ Eternal net (lastP net q) := by
  obtain ⟨t, _, e, a, b, _⟩ := lastP_is h hq
  rw [e]; exact ⟨a, b⟩
theorem lastP_snoc {net : List Int} (h : Ok net) {q : List Nat} {p : Nat} (hq : ∀ p, p ∈ q → p < net.length) (hp : p < net.length) : lastP net (q ++ [p]) = ansNext net (lastP net q) p := by
  obtain ⟨t, e, e2, _⟩ := lastP_is h hq
  rw [e2]
  have e3 : loopE q.length (ansStep net (nl (q ++ [p]))) (firstPost net, [((firstPost net : Nat) : Int)]) = .inr t := by
    rw [← e]
    refine loopE_same _ _ (fun k hk u => ?_)
    unfold ansStep
    have : D.eli (nl (q ++ [p])) k = D.eli (nl q) k := by
      rw [nl_at (by simp; omega), nl_at hk]
      simp [List.getD, List.getElem?_append_left hk]
    rw [this]
  have e4 : loopE (q ++ [p]).length (ansStep net (nl (q ++ [p]))) (firstPost net, [((firstPost net : Nat) : Int)]) = ansStep net (nl (q ++ [p])) t q.length := by
    rw [List.length_append, List.length_singleton]
    exact loopE_succ e3
  have e5 : D.eli (nl (q ++ [p])) q.length = (p : Int) := by
    rw [nl_at (by simp)]
    simp [List.getD]
  unfold lastP
  rw [e4]
  unfold ansStep
  rw [e5, if_pos ⟨by omega, by omega⟩]
  rfl
open Classical in
/-- What asking for a place comes to. -/
noncomputable def askR (net : List Int) (s : Int) (log : List Nat) (place : Int) : Int × Bool × List Int × List Int :=
  if postB net s log = true ∧ (0 ≤ place ∧ place < net.length) ∧ log.length ≠ 120 then (((lastP net (lp log ++ [place.toNat]) : Nat) : Int), true, net, nl (logN 0 (lp log ++ [place.toNat]))) else (0, false, [], [])
theorem postB_is {net : List Int} {s : Int} {log : List Nat} : postB net s log = true ↔ 3 * lpL log = log.length ∧ (∀ p, p ∈ lp log → p < net.length) ∧ ((lastP net (lp log) : Nat) : Int) = s := by unfold postB; rw [decide_eq_true_eq]
theorem I.PostAsk_n {net : List Int} (h : Ok net) (e : I.NetOk_t net = some true) (s : Int) {log : List Nat} (hb : ∀ x, x ∈ log → x < 256) (place : Int) : I.PostAsk_t net s (nl log) place = some (askR net s log place) := by
  unfold I.PostAsk_t I.PostAsk_tree
  have h6 := h.hi
  have h40 := (lpL_is log).2.2
  have hlen := lp_len log
  rw [I.PostOk_n h e s hb]
  simp only [optC]
  unfold askR
  cases hB : postB net s log with
  | false => rw [Bool.not_false, cond_true, if_neg (fun hc => by cases hc.1)]
  | true =>
    rw [Bool.not_true, cond_false, I.placeIn_n]
    simp only
    by_cases hp : 0 ≤ place ∧ place < net.length
    rotate_left
    · rw [show decide (0 ≤ place ∧ place < (net.length : Int)) = false from decide_eq_false hp, Bool.not_false, cond_true, if_neg (fun hc => hp hc.2.1)]
    rw [show decide (0 ≤ place ∧ place < (net.length : Int)) = true from decide_eq_true hp, Bool.not_true, cond_false, nl_len]
    obtain ⟨b1, b2, b3⟩ := postB_is.1 hB
    by_cases hl : log.length = 120
    · rw [cnd_t (by rw [beq_iff_eq]; omega), if_neg (fun hc => hc.2.2 hl)]
    rw [cnd_f (by rw [beq_eq_false_iff_ne]; omega), if_pos ⟨by trivial, hp, hl⟩, I.LogPlaces_n hb]
    simp only
    obtain ⟨p, rfl⟩ : ∃ p : Nat, place = p := ⟨place.toNat, by omega⟩
    obtain ⟨l1, l2⟩ := lastP_lt h b2
    rw [List.nil_append, cnd_t (small_of (by omega)), I.eternalIn_n h]
    simp only
    rw [← b3, I.answeredIn_n h l1 (by omega) l2]
    simp only
    rw [cnd_t (small_of (by rw [List.length_append, nl_len]; simp; omega)), ← nl_append, I.LogOf_n, Int.toNat_natCast, logI_nl (by simp; omega) (fun x hx => by
      rcases List.mem_append.1 hx with hx | hx
      · exact lp_lt hx
      · rw [List.mem_singleton.1 hx]; omega), lastP_snoc h b2 (by omega)]
theorem S.PostAsk_n {net : List Int} (h : Ok net) (e : S.NetOk_t net = some true) (s : Int) {log : List Nat} (hb : ∀ x, x ∈ log → x < 256) (place : Int) : S.PostAsk_t net s (nl log) place = some (askR net s log place) := by
  unfold S.PostAsk_t S.PostAsk_tree
  have h6 := h.hi
  have h1 := h.lo
  have h40 := (lpL_is log).2.2
  have hlen := lp_len log
  rw [S.PostOk_n h e s hb]
  simp only [optC]
  unfold askR
  cases hB : postB net s log with
  | false => rw [Bool.not_false, cond_true, if_neg (fun hc => by cases hc.1)]
  | true =>
    rw [Bool.not_true, cond_false, S.l1In_is, sub1_nat (by omega) (by omega)]
    simp only
    by_cases hp : 0 ≤ place ∧ place < net.length
    rotate_left
    · rw [show decide (0 ≤ place ∧ place ≤ ((net.length - 1 : Nat) : Int)) = false from decide_eq_false (by omega), Bool.not_false, cond_true, if_neg (fun hc => hp hc.2.1)]
    rw [show decide (0 ≤ place ∧ place ≤ ((net.length - 1 : Nat) : Int)) = true from decide_eq_true (by omega), Bool.not_true, cond_false, nl_len]
    obtain ⟨b1, b2, b3⟩ := postB_is.1 hB
    by_cases hl : log.length = 120
    · rw [cnd_t (by rw [beq_iff_eq]; omega), if_neg (fun hc => hc.2.2 hl)]
    rw [cnd_f (by rw [beq_eq_false_iff_ne]; omega), if_pos ⟨by trivial, hp, hl⟩, S.LogPlaces_n hb]
    simp only
    obtain ⟨p, rfl⟩ : ∃ p : Nat, place = p := ⟨place.toNat, by omega⟩
    have hq : ∀ x, x ∈ lp log ++ [p] → x < net.length := fun x hx => by
      rcases List.mem_append.1 hx with hx | hx
      · exact b2 x hx
      · rw [List.mem_singleton.1 hx]; omega
    rw [cnd_t (small_of (by rw [List.length_append, nl_len]; simp; omega)), List.nil_append, cnd_t (small_of (by omega)), ← nl_append, S.l17Last_n h e (by simp; omega) hq]
    simp only
    rw [S.LogOf_n, Int.toNat_natCast, logI_nl (by simp; omega) (fun x hx => by have := hq x hx; omega)]
theorem I.PostAsk_x {net : List Int} (e : I.NetOk_t net = some false) (s : Int) {log : List Nat} (hb : ∀ x, x ∈ log → x < 256) (place : Int) : I.PostAsk_t net s (nl log) place = some (0, false, [], []) := by
  unfold I.PostAsk_t I.PostAsk_tree; rw [I.PostOk_x e s hb]; rfl
theorem S.PostAsk_x {net : List Int} (e : S.NetOk_t net = some false) (s : Int) {log : List Nat} (hb : ∀ x, x ∈ log → x < 256) (place : Int) : S.PostAsk_t net s (nl log) place = some (0, false, [], []) := by
  unfold S.PostAsk_t S.PostAsk_tree; rw [S.PostOk_x e s hb]; rfl
/-- How many bytes are left. -/
def leftN (len : Nat) (bytes : Int) : Nat := if bytes < 0 then 0 else min bytes.toNat len
noncomputable def riseR (net : List Int) (log : List Nat) : Int × Bool × List Int × List Int := (((lastP net (hereN net (lp log)) : Nat) : Int), true, net, nl (logN 0 (hereN net (lp log))))
open Classical in
noncomputable def cutQ (net : List Int) (s : Int) (log : List Nat) (bytes : Int) : Int × Bool × List Int × List Int := if postB net s log = true then riseR net (log.take (leftN log.length bytes)) else (0, false, [], [])
theorem nl_take2 (l : List Nat) (n : Nat) : List.take n (List.drop 0 (nl l)) = nl (l.take n) := by unfold nl; rw [List.drop_zero, ← List.map_take]
theorem I.bytesLeft_n (log : List Nat) (bytes : Int) : I.bytesLeft_t (nl log) bytes = some ((leftN log.length bytes : Nat) : Int) := by
  unfold I.bytesLeft_t I.bytesLeft_tree leftN
  rw [nl_len]
  by_cases h1 : bytes < 0
  · rw [cnd_t (by rw [decide_eq_true_eq]; exact h1), if_pos h1]; rfl
  rw [cnd_f (by rw [decide_eq_false_iff_not]; exact h1), if_neg h1]
  by_cases h2 : bytes > log.length
  · rw [cnd_t (by rw [decide_eq_true_eq]; exact h2)]
    congr 1; omega
  · rw [cnd_f (by rw [decide_eq_false_iff_not]; exact h2)]
    congr 1; omega
theorem leftN_le (len : Nat) (bytes : Int) : leftN len bytes ≤ len := by unfold leftN; split <;> omega
theorem I.PostCut_n {net : List Int} (h : Ok net) (e : I.NetOk_t net = some true) (s : Int) {log : List Nat} (hb : ∀ x, x ∈ log → x < 256) (bytes : Int) : I.PostCut_t net s (nl log) bytes = some (cutQ net s log bytes) := by
  unfold I.PostCut_t I.PostCut_tree cutQ
  rw [I.PostOk_n h e s hb]
  simp only [optC]
  cases hB : postB net s log with
  | false => rw [Bool.not_false, cond_true, if_neg (by simp)]
  | true =>
    have hl := leftN_le log.length bytes
    rw [Bool.not_true, cond_false, I.bytesLeft_n, if_pos rfl]
    simp only
    rw [nl_len, cnd_t (by simp only [Bool.and_eq_true, decide_eq_true_eq]; omega), Int.toNat_natCast, nl_take2, I.PostRise_n h e (fun x hx => hb x (List.mem_of_mem_take hx))]
    rfl
theorem S.PostCut_n {net : List Int} (h : Ok net) (e : S.NetOk_t net = some true) (s : Int) {log : List Nat} (hb : ∀ x, x ∈ log → x < 256) (bytes : Int) : S.PostCut_t net s (nl log) bytes = some (cutQ net s log bytes) := by
  unfold S.PostCut_t S.PostCut_tree cutQ
  rw [S.PostOk_n h e s hb]
  simp only [optC]
  cases hB : postB net s log with
  | false => rw [Bool.not_false, cond_true, if_neg (by simp)]
  | true =>
    have hl := leftN_le log.length bytes
    have el : (if (log.length : Int) < if 0 > bytes then 0 else bytes then (log.length : Int) else if 0 > bytes then 0 else bytes) = ((leftN log.length bytes : Nat) : Int) := by
      unfold leftN
      by_cases h1 : bytes < 0
      · rw [if_pos (show 0 > bytes from h1), if_neg (by omega), if_pos h1]; rfl
      · rw [if_neg (show ¬ 0 > bytes from h1), if_neg h1]
        split <;> omega
    rw [Bool.not_true, cond_false, nl_len, el, if_pos rfl, cnd_t (by simp only [Bool.and_eq_true, decide_eq_true_eq]; omega), Int.toNat_natCast, nl_take2, S.PostRise_n h e (fun x hx => hb x (List.mem_of_mem_take hx))]
    rfl
theorem I.PostCut_x {net : List Int} (e : I.NetOk_t net = some false) (s : Int) {log : List Nat} (hb : ∀ x, x ∈ log → x < 256) (bytes : Int) : I.PostCut_t net s (nl log) bytes = some (0, false, [], []) := by
  unfold I.PostCut_t I.PostCut_tree; rw [I.PostOk_x e s hb]; rfl
theorem S.PostCut_x {net : List Int} (e : S.NetOk_t net = some false) (s : Int) {log : List Nat} (hb : ∀ x, x ∈ log → x < 256) (bytes : Int) : S.PostCut_t net s (nl log) bytes = some (0, false, [], []) := by
  unfold S.PostCut_t S.PostCut_tree; rw [S.PostOk_x e s hb]; rfl
end Go.Proofs.Ytgpgifpblchjjaa
/- What the exact laws need of rows of bytes that are marked. Conditions: those of each theorem. -/
namespace Go.Proofs.Ytgpgifpblchjjaa
open D Go.RowKit
set_option linter.unusedVariables false
set_option linter.unusedSimpArgs false


theorem L.toByteS_is {a : List Int} (ha : a.length ≤ 1048576) : L.toByteS_t a = some a := by
  have hloop : L.toByteS_run3 a FUEL (0, List.replicate (↑a.length : Int).toNat 0) = some a := by
    refine run_fuel (run := L.toByteS_run3 a) (fun s => 0 ≤ s.1 ∧ s.1 ≤ a.length ∧ s.2.length = a.length ∧ ∀ j, j < s.1.toNat → s.2.getD j 0 = a.getD j 0) (fun s => a.length - s.1.toNat) (fun _ => a) ?_ ?_ ?_
    · rintro n ⟨x, r⟩ ⟨h0, h1, h2, h3⟩
      simp only at h0 h1 h2 h3
      by_cases hx : x < (a.length : Int)
      · refine .inr ⟨(IntKind.i64.wrap (x + 1), r.set x.toNat (eli a x.toNat)), ?_, ?_, ?_, rfl⟩
        · simp only [L.toByteS_run3, L.toByteS_step3]
          rw [cnd_t (by simpa using hx), cnd_t (by simp; omega), cnd_t (by simp; omega), cnd_t (by simp; omega)]
        · rw [i64_wrap (by omega) (by omega)]
          refine ⟨by simp only; omega, by simp only; omega, by simp only [List.length_set]; exact h2, fun j hj => ?_⟩
          simp only at hj ⊢
          by_cases hjx : j = x.toNat
          · subst hjx
            have hlt : x.toNat < r.length := by omega
            simp [List.getD, hlt, eli]
          · rw [← h3 j (by omega)]
            simp [List.getD, List.getElem?_set_ne (Ne.symm hjx)]
        · rw [i64_wrap (by omega) (by omega)]; simp only; omega
      · refine .inl ?_
        simp only [L.toByteS_run3, L.toByteS_step3]
        rw [cnd_f (by simpa using hx)]
        congr 1
        apply List.ext_getElem?
        intro j
        by_cases hj : j < a.length
        · have := h3 j (by omega)
          simp only [List.getD, h2, hj, List.getElem?_eq_getElem, Option.getD_some, hj] at this ⊢
          rw [this]
        · rw [List.getElem?_eq_none (by omega), List.getElem?_eq_none (by omega)]
    · refine ⟨by simp, by simp, by simp, fun j hj => by simp at hj⟩
    · simp; omega
  unfold L.toByteS_t L.toByteS_tree
  rw [cnd_t (by simp [small]; omega), hloop]
  rfl

theorem L.eqByteS_is {a b : List Int} (ha : a.length ≤ 2097152) : L.eqByteS_t a b = some (decide (a = b)) := by
  unfold L.eqByteS_t L.eqByteS_tree
  by_cases hl : a.length = b.length
  · rw [cnd_f (by simp [hl])]
    have hloop : L.eqByteS_run4 a b FUEL 0 = some (if a = b then .inr () else .inl false) := by
      refine run_fuel (run := L.eqByteS_run4 a b) (fun x => 0 ≤ x ∧ x ≤ a.length ∧ ∀ j, j < x.toNat → a.getD j 0 = b.getD j 0) (fun x => a.length - x.toNat) (fun _ => if a = b then .inr () else .inl false) ?_ ?_ ?_
      · rintro n x ⟨h0, h1, h3⟩
        by_cases hx : x < (a.length : Int)
        · by_cases he : eli a x.toNat = eli b x.toNat
          · refine .inr ⟨IntKind.i64.wrap (x + 1), ?_, ?_, ?_, rfl⟩
            · simp only [L.eqByteS_run4, L.eqByteS_step4]
              rw [cnd_t (by simpa using hx), cnd_t (by simp; omega), cnd_t (by simp; omega), cnd_f (by simp [he])]
            · rw [i64_wrap (by omega) (by omega)]
              refine ⟨by omega, by omega, fun j hj => ?_⟩
              by_cases hjx : j = x.toNat
              · subst hjx; exact he
              · exact h3 j (by omega)
            · rw [i64_wrap (by omega) (by omega)]; omega
          · refine .inl ?_
            simp only [L.eqByteS_run4, L.eqByteS_step4]
            rw [cnd_t (by simpa using hx), cnd_t (by simp; omega), cnd_t (by simp; omega), cnd_t (by simp [he])]
            rw [if_neg (fun h => he (by rw [h]))]
        · refine .inl ?_
          simp only [L.eqByteS_run4, L.eqByteS_step4]
          rw [cnd_f (by simpa using hx)]
          have : a = b := by
            apply List.ext_getElem hl
            intro j hj hj'
            have := h3 j (by omega)
            simpa [List.getD, hj, hj'] using this
          rw [if_pos this]
      · exact ⟨by simp, by simp, fun j hj => by simp at hj⟩
      · simp; omega
    rw [hloop]
    by_cases h : a = b
    · simp [h, optC, sumC]
    · simp [h, optC, sumC]
  · rw [cnd_t (by simp; omega)]
    have : ¬ a = b := fun h => hl (by rw [h])
    simp [this]
theorem L.markByteS_is {a : List Int} {k0 : Nat} (ha : a.length ≤ 3000000) (hk0 : k0 ≤ 3000000) : ∃ m : List Int, L.markByteS_t a k0 = some (((k0 + a.length : Nat) : Int), m) ∧ m.length = a.length ∧ ∀ j, j < a.length → D.eli m j = IntKind.u8.wrap ((k0 + j : Nat) : Int) := by
  unfold L.markByteS_t L.markByteS_tree
  have := run_for (run := L.markByteS_run2) (len := a.length) (fun k (t : List Int) => (((k0 + k : Nat) : Int), (k : Int), t)) (fun t k => t.set k (IntKind.u8.wrap ((k0 + k : Nat) : Int))) (fun t => (((k0 + a.length : Nat) : Int), t)) (fun k t => t.length = a.length ∧ ∀ j, j < k → D.eli t j = IntKind.u8.wrap ((k0 + j : Nat) : Int)) (by omega) (fun n k t hk ht => ?_) (fun n t ht => ?_) (t0 := a) ⟨rfl, fun j hj => by omega⟩
  · refine ⟨_, ?_, this.2.1, this.2.2⟩
    exact congrArg (fun o => optC o (fun q => some (q.1, q.2)) none) this.1
  · refine ⟨?_, by rw [List.length_set]; exact ht.1, fun j hj => ?_⟩
    · simp only [L.markByteS_run2, L.markByteS_step2]
      have := ht.1
      rw [cnd_t (by simp; omega), cnd_t (by simp; omega), cnd_t (by simp; omega), Int.toNat_natCast, add1_nat (by omega), add1_nat (by omega)]
      rfl
    · rw [eli_set2 (by rw [ht.1]; exact hk)]
      by_cases hkj : k = j
      · rw [if_pos hkj, hkj]
      · rw [if_neg hkj]; exact ht.2 j (by omega)
  · simp only [L.markByteS_run2, L.markByteS_step2]
    rw [cnd_f (by simp; omega)]
end Go.Proofs.Ytgpgifpblchjjaa
/- Exact laws of posts. Conditions: those of each theorem. -/
namespace Go.Proofs.Ytgpgifpblchjjaa
open D Go.RowKit
set_option linter.unusedVariables false
set_option linter.unusedSimpArgs false


theorem L.heldIntS_k {m : List Int} {k0 : Nat} (ha : m.length ≤ 3000000) (hk0 : k0 ≤ 3000000) (hm : ∀ j, j < m.length → D.eli m j = ((k0 + j : Nat) : Int)) : L.heldIntS_t m (k0 : Int) = some ((k0 + m.length : Nat) : Int) := by
  unfold L.heldIntS_t L.heldIntS_tree
  have := (run_for (run := L.heldIntS_run2 m) (len := m.length) (fun k (t : Unit) => (((k0 + k : Nat) : Int), (k : Int))) (fun t k => ()) (fun t => Sum.inr (((k0 + m.length : Nat) : Int))) (fun k t => True) (by omega) (fun n k t hk ht => ?_) (fun n t ht => ?_) (t0 := ()) trivial).1
  · exact congrArg (fun o => optC o (fun q => sumC q (fun q => some q.2) (fun q => some q)) none) this
  · refine ⟨?_, trivial⟩
    simp only [L.heldIntS_run2, L.heldIntS_step2]
    rw [cnd_t (by simp; omega), cnd_t (by simp; omega), Int.toNat_natCast, hm k hk, cnd_f (by simp), add1_nat (by omega), add1_nat (by omega)]
    rfl
  · simp only [L.heldIntS_run2, L.heldIntS_step2]
    rw [cnd_f (by simp)]
theorem L.heldByteS_k {m : List Int} {k0 : Nat} (ha : m.length ≤ 3000000) (hk0 : k0 ≤ 3000000) (hm : ∀ j, j < m.length → D.eli m j = IntKind.u8.wrap ((k0 + j : Nat) : Int)) : L.heldByteS_t m (k0 : Int) = some ((k0 + m.length : Nat) : Int) := by
  unfold L.heldByteS_t L.heldByteS_tree
  have := (run_for (run := L.heldByteS_run2 m) (len := m.length) (fun k (t : Unit) => (((k0 + k : Nat) : Int), (k : Int))) (fun t k => ()) (fun t => Sum.inr (((k0 + m.length : Nat) : Int))) (fun k t => True) (by omega) (fun n k t hk ht => ?_) (fun n t ht => ?_) (t0 := ()) trivial).1
  · exact congrArg (fun o => optC o (fun q => sumC q (fun q => some q.2) (fun q => some q)) none) this
  · refine ⟨?_, trivial⟩
    simp only [L.heldByteS_run2, L.heldByteS_step2]
    rw [cnd_t (by simp; omega), cnd_t (by simp; omega), Int.toNat_natCast, hm k hk, cnd_f (by simp), add1_nat (by omega), add1_nat (by omega)]
    rfl
  · simp only [L.heldByteS_run2, L.heldByteS_step2]
    rw [cnd_f (by simp)]
theorem L.eqPost_is {N M : List Int} {s : Int} (hN : N.length ≤ 2097152) (hM : M.length ≤ 2097152) : L.eqPost_t N s M N s M = some true := by
  unfold L.eqPost_t L.eqPost_tree
  rw [L.eqIntS_is hN, L.eqByteS_is hM]
  simp [optC]
/-- A post marked and held. -/
theorem L.markedP {N M : List Int} (hN : N.length ≤ 1000000) (hM : M.length ≤ 1000000) (s s' : Int) : ∃ (k : Nat) (N' M' : List Int), L.markPost_t N s M 1 = some ((k : Int), N', M') ∧ L.heldPost_t N' s' M' 1 = some (k : Int) := by
  obtain ⟨m1, a1, a2, a3⟩ := L.markIntS_is (a := N) (k0 := 1) (by omega) (by omega)
  obtain ⟨m2, b1, b2, b3⟩ := L.markByteS_is (a := M) (k0 := 1 + N.length) (by omega) (by omega)
  refine ⟨1 + N.length + M.length, m1, m2, ?_, ?_⟩
  · unfold L.markPost_t L.markPost_tree
    rw [show L.markIntS_t N 1 = _ from a1]
    simp only [optC]
    rw [b1]
  · unfold L.heldPost_t L.heldPost_tree
    rw [show L.heldIntS_t m1 1 = _ from L.heldIntS_k (k0 := 1) (by omega) (by omega) (by rw [a2]; exact a3), a2]
    simp only [optC]
    rw [neg_nat, cond_false, L.heldByteS_k (by omega) (by omega) (by rw [b2]; exact b3), b2]
    simp only
    rw [neg_nat, cond_false]
theorem L.toPost_is {N M : List Int} {s : Int} (hN : N.length ≤ 1048576) (hM : M.length ≤ 1048576) : L.toPost_t N s M = some (s, N, M) := by
  unfold L.toPost_t L.toPost_tree
  rw [L.toIntS_is hN, L.toByteS_is hM]
  rfl
/-- Too much to read, or not. -/
theorem L.szPost_is (N M : List Int) (s : Int) (hN : N.length ≤ maxLen) (hM : M.length ≤ maxLen) : (∃ c, L.szPost_t N s M 1048576 = some c ∧ decide (c < 0) = true) ∨ (∃ c, L.szPost_t N s M 1048576 = some c ∧ decide (c < 0) = false ∧ N.length + M.length ≤ 1048576) := by
  unfold maxLen at hN hM
  unfold L.szPost_t L.szPost_tree L.szIntS_t L.szIntS_tree
  rw [i64_wrap (n := 1048576 - (N.length : Int)) (by omega) (by omega)]
  by_cases h1 : (1048576 : Int) - N.length < 0
  · left
    rw [cnd_t (by rw [decide_eq_true_eq]; exact h1)]
    exact ⟨_, rfl, rfl⟩
  · rw [cnd_f (by rw [decide_eq_false_iff_not]; exact h1)]
    simp only [optC]
    rw [cnd_f (by rw [decide_eq_false_iff_not]; exact h1)]
    unfold L.szByteS_t L.szByteS_tree
    rw [i64_wrap (n := 1048576 - (N.length : Int) - (M.length : Int)) (by omega) (by omega)]
    by_cases h2 : (1048576 : Int) - N.length - M.length < 0
    · left
      rw [cnd_t (by rw [decide_eq_true_eq]; exact h2)]
      exact ⟨_, rfl, rfl⟩
    · right
      rw [cnd_f (by rw [decide_eq_false_iff_not]; exact h2)]
      simp only
      rw [cnd_f (by rw [decide_eq_false_iff_not]; exact h2)]
      exact ⟨_, rfl, by rw [decide_eq_false_iff_not]; exact h2, by omega⟩
/-- An answer that is a post, or none. -/
def SmallP (r : Int × Bool × List Int × List Int) : Prop := r.2.2.1.length ≤ 1000000 ∧ r.2.2.2.length ≤ 1000000
theorem small0 : SmallP (0, false, [], []) := ⟨by simp, by simp⟩
theorem riseR_small {net : List Int} (h : Ok net) (log : List Nat) : SmallP (riseR net log) := by
  have h6 := h.hi
  have h40 := (lpL_is log).2.2
  have hlen := lp_len log
  have hh := hereN_len net (lp log)
  unfold riseR
  refine ⟨?_, ?_⟩
  · show net.length ≤ _; omega
  · show (nl _).length ≤ _
    rw [nl_len, logN_len]; omega
theorem PostRise_same {net log : List Int} (hb : Bytes log) : ∃ r, S.PostRise_t net log = some r ∧ I.PostRise_t net log = some r ∧ SmallP r := by
  obtain ⟨q, rfl, hq⟩ := nl_back hb
  rcases NetOk_cases net with ⟨h, e1, e2⟩ | ⟨_, e1, e2⟩
  · exact ⟨_, S.PostRise_n h e2 hq, I.PostRise_n h e1 hq, riseR_small h q⟩
  · exact ⟨_, S.PostRise_x e2 _, I.PostRise_x e1 _, small0⟩
theorem PostNew_same {net : List Int} : ∃ r, S.PostNew_t net = some r ∧ I.PostNew_t net = some r ∧ SmallP r := by
  rcases NetOk_cases net with ⟨h, e1, e2⟩ | ⟨_, e1, e2⟩
  · have h6 := h.hi
    refine ⟨_, S.PostNew_n h e2, I.PostNew_n h e1, ?_, ?_⟩
    · show net.length ≤ _; omega
    · simp
  · exact ⟨_, S.PostNew_x e2, I.PostNew_x e1, small0⟩
theorem PostOk_same {net : List Int} {s : Int} {log : List Int} (hb : Bytes log) : ∃ b, S.PostOk_t net s log = some b ∧ I.PostOk_t net s log = some b := by
  obtain ⟨q, rfl, hq⟩ := nl_back hb
  rcases NetOk_cases net with ⟨h, e1, e2⟩ | ⟨_, e1, e2⟩
  · exact ⟨_, S.PostOk_n h e2 s hq, I.PostOk_n h e1 s hq⟩
  · exact ⟨_, S.PostOk_x e2 s hq, I.PostOk_x e1 s hq⟩
theorem PostAsk_same {net : List Int} {s : Int} {log : List Int} (hb : Bytes log) (place : Int) : ∃ r, S.PostAsk_t net s log place = some r ∧ I.PostAsk_t net s log place = some r ∧ SmallP r := by
  obtain ⟨q, rfl, hq⟩ := nl_back hb
  rcases NetOk_cases net with ⟨h, e1, e2⟩ | ⟨_, e1, e2⟩
  · refine ⟨_, S.PostAsk_n h e2 s hq place, I.PostAsk_n h e1 s hq place, ?_⟩
    have h6 := h.hi
    have h40 := (lpL_is q).2.2
    have hlen := lp_len q
    unfold askR
    split
    · refine ⟨?_, ?_⟩
      · show net.length ≤ _; omega
      · show (nl _).length ≤ _
        rw [nl_len, logN_len]; simp; omega
    · exact small0
  · exact ⟨_, S.PostAsk_x e2 s hq place, I.PostAsk_x e1 s hq place, small0⟩
theorem PostCut_same {net : List Int} {s : Int} {log : List Int} (hb : Bytes log) (bytes : Int) : ∃ r, S.PostCut_t net s log bytes = some r ∧ I.PostCut_t net s log bytes = some r ∧ SmallP r := by
  obtain ⟨q, rfl, hq⟩ := nl_back hb
  rcases NetOk_cases net with ⟨h, e1, e2⟩ | ⟨_, e1, e2⟩
  · refine ⟨_, S.PostCut_n h e2 s hq bytes, I.PostCut_n h e1 s hq bytes, ?_⟩
    unfold cutQ
    split
    · exact riseR_small h _
    · exact small0
  · exact ⟨_, S.PostCut_x e2 s hq bytes, I.PostCut_x e1 s hq bytes, small0⟩
theorem L.FnExactPostNew_is {a0 : List Int} : L.FnExactPostNew_t a0 = some true := by
  unfold L.FnExactPostNew_t L.FnExactPostNew_tree
  by_cases ha0 : (a0.length : Int) > 1048576
  · rw [cnd_t (by simpa using ha0)]
  rw [cnd_f (by simpa using ha0)]
  have ta0 := L.toIntS_is (a := a0) (by omega)
  have ea0 := L.eqIntS_is (a := a0) (b := a0) (by omega)
  obtain ⟨r, h1, h2, s1, s2⟩ := PostNew_same (net := a0)
  obtain ⟨k, N', M', m1, m2⟩ := L.markedP s1 s2 r.1 r.1
  have ev := L.eqPost_is (N := r.2.2.1) (M := r.2.2.2) (s := r.1) (by omega) (by omega)
  obtain ⟨ma0, ka0, _, _⟩ := L.markIntS_is (a := a0) (k0 := 1) (by omega) (by omega)
  have ka0' : L.markIntS_t a0 1 = _ := ka0
  simp only [optC, ta0, ea0, h1, h2, ev, m1, m2, ka0', decide_true, Bool.not_true, cond_false, neg_nat, not_beq_self]
  simp
theorem L.FnExactPostRise_is {a0 a1 : List Int} (hm0 : a0.length ≤ maxLen) (hw0 : ∀ n ∈ a0, (Lit.int .i64 n).wf = true) (hm : a1.length ≤ maxLen) (hw : ∀ n ∈ a1, (Lit.int .u8 n).wf = true) : L.FnExactPostRise_t a0 a1 = some true := by
  unfold L.FnExactPostRise_t L.FnExactPostRise_tree
  by_cases ha0 : (a0.length : Int) > 1048576
  · rw [cnd_t (by simpa using ha0)]
  rw [cnd_f (by simpa using ha0)]
  by_cases ha1 : (a1.length : Int) > 1048576
  · rw [cnd_t (by simpa using ha1)]
  rw [cnd_f (by simpa using ha1)]
  have ta0 := L.toIntS_is (a := a0) (by omega)
  have ea0 := L.eqIntS_is (a := a0) (b := a0) (by omega)
  have ta1 := L.toByteS_is (a := a1) (by omega)
  have ea1 := L.eqByteS_is (a := a1) (b := a1) (by omega)
  obtain ⟨r, h1, h2, s1, s2⟩ := PostRise_same (net := a0) (Bytes.wf hw)
  obtain ⟨k, N', M', m1, m2⟩ := L.markedP s1 s2 r.1 r.1
  have ev := L.eqPost_is (N := r.2.2.1) (M := r.2.2.2) (s := r.1) (by omega) (by omega)
  obtain ⟨ma0, ka0, _, _⟩ := L.markIntS_is (a := a0) (k0 := 1) (by omega) (by omega)
  have ka0' : L.markIntS_t a0 1 = _ := ka0
  obtain ⟨ma1, ka1, _, _⟩ := L.markByteS_is (a := a1) (k0 := 1 + a0.length) (by omega) (by omega)
  simp only [optC, ta0, ea0, ta1, ea1, h1, h2, ev, m1, m2, ka0', ka1, decide_true, Bool.not_true, cond_false, neg_nat, not_beq_self]
  simp
theorem L.FnExactPostOk_is {N M : List Int} {s : Int} (hm0 : N.length ≤ maxLen) (hw0 : ∀ n ∈ N, (Lit.int .i64 n).wf = true) (_hs : -9223372036854775808 ≤ s ∧ s ≤ 9223372036854775807) (hm : M.length ≤ maxLen) (hw : ∀ n ∈ M, (Lit.int .u8 n).wf = true) : L.FnExactPostOk_t N s M = some true := by
  unfold L.FnExactPostOk_t L.FnExactPostOk_tree
  rcases L.szPost_is N M s hm0 hm with ⟨c, e1, e2⟩ | ⟨c, e1, e2, hl⟩
  · rw [e1]
    simp only [optC]
    rw [e2, cond_true]
  · have tp := L.toPost_is (N := N) (M := M) (s := s) (by omega) (by omega)
    have ep := L.eqPost_is (N := N) (M := M) (s := s) (by omega) (by omega)
    obtain ⟨b, h1, h2⟩ := PostOk_same (net := N) (s := s) (Bytes.wf hw)
    simp only [optC, e1, e2, cond_false, tp, h1, h2, ep]
    simp
theorem L.FnExactPostAsk_is {N M : List Int} {s : Int} {place : Int} (hm0 : N.length ≤ maxLen) (hw0 : ∀ n ∈ N, (Lit.int .i64 n).wf = true) (_hs : -9223372036854775808 ≤ s ∧ s ≤ 9223372036854775807) (hm : M.length ≤ maxLen) (hw : ∀ n ∈ M, (Lit.int .u8 n).wf = true) (_hp : -9223372036854775808 ≤ place ∧ place ≤ 9223372036854775807) : L.FnExactPostAsk_t N s M place = some true := by
  unfold L.FnExactPostAsk_t L.FnExactPostAsk_tree
  rcases L.szPost_is N M s hm0 hm with ⟨c, e1, e2⟩ | ⟨c, e1, e2, hl⟩
  · rw [e1]
    simp only [optC]
    rw [e2, cond_true]
  · have tp := L.toPost_is (N := N) (M := M) (s := s) (by omega) (by omega)
    have ep := L.eqPost_is (N := N) (M := M) (s := s) (by omega) (by omega)
    obtain ⟨r, h1, h2, s1, s2⟩ := PostAsk_same (net := N) (s := s) (Bytes.wf hw) place
    obtain ⟨k, N', M', m1, m2⟩ := L.markedP s1 s2 r.1 r.1
    have ev := L.eqPost_is (N := r.2.2.1) (M := r.2.2.2) (s := r.1) (by omega) (by omega)
    obtain ⟨ma0, b1, b2, b3⟩ := L.markIntS_is (a := N) (k0 := 1) (by omega) (by omega)
    obtain ⟨ma1, c1, c2, c3⟩ := L.markByteS_is (a := M) (k0 := 1 + N.length) (by omega) (by omega)
    have mk : L.markPost_t N s M 1 = some (((1 + N.length + M.length : Nat) : Int), ma0, ma1) := by
      unfold L.markPost_t L.markPost_tree
      rw [show L.markIntS_t N 1 = _ from b1]
      simp only [optC]
      rw [c1]
    simp only [optC, e1, e2, cond_false, tp, h1, h2, ep, ev, mk, m1, m2, Bool.not_true, neg_nat, not_beq_self]
    simp
theorem L.FnExactPostCut_is {N M : List Int} {s : Int} {bytes : Int} (hm0 : N.length ≤ maxLen) (hw0 : ∀ n ∈ N, (Lit.int .i64 n).wf = true) (_hs : -9223372036854775808 ≤ s ∧ s ≤ 9223372036854775807) (hm : M.length ≤ maxLen) (hw : ∀ n ∈ M, (Lit.int .u8 n).wf = true) (_hp : -9223372036854775808 ≤ bytes ∧ bytes ≤ 9223372036854775807) : L.FnExactPostCut_t N s M bytes = some true := by
  unfold L.FnExactPostCut_t L.FnExactPostCut_tree
  rcases L.szPost_is N M s hm0 hm with ⟨c, e1, e2⟩ | ⟨c, e1, e2, hl⟩
  · rw [e1]
    simp only [optC]
    rw [e2, cond_true]
  · have tp := L.toPost_is (N := N) (M := M) (s := s) (by omega) (by omega)
    have ep := L.eqPost_is (N := N) (M := M) (s := s) (by omega) (by omega)
    obtain ⟨r, h1, h2, s1, s2⟩ := PostCut_same (net := N) (s := s) (Bytes.wf hw) bytes
    obtain ⟨k, N', M', m1, m2⟩ := L.markedP s1 s2 r.1 r.1
    have ev := L.eqPost_is (N := r.2.2.1) (M := r.2.2.2) (s := r.1) (by omega) (by omega)
    obtain ⟨ma0, b1, b2, b3⟩ := L.markIntS_is (a := N) (k0 := 1) (by omega) (by omega)
    obtain ⟨ma1, c1, c2, c3⟩ := L.markByteS_is (a := M) (k0 := 1 + N.length) (by omega) (by omega)
    have mk : L.markPost_t N s M 1 = some (((1 + N.length + M.length : Nat) : Int), ma0, ma1) := by
      unfold L.markPost_t L.markPost_tree
      rw [show L.markIntS_t N 1 = _ from b1]
      simp only [optC]
      rw [c1]
    simp only [optC, e1, e2, cond_false, tp, h1, h2, ep, ev, mk, m1, m2, Bool.not_true, neg_nat, not_beq_self]
    simp
end Go.Proofs.Ytgpgifpblchjjaa
