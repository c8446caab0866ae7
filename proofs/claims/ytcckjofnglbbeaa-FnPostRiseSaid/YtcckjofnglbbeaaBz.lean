/- Several texts in one: J17b, L2, L3, DrLog, L17b. Conditions: those of each theorem. -/
import Derived.Test.YtcckjofnglbbeaaBzb0
/- Posts, of the program (at ae9a42a) and of the model. Conditions: those of each theorem. -/
namespace Go.Proofs.Ytcckjofnglbbeaa
open D Go.RowKit
set_option linter.unusedVariables false
set_option linter.unusedSimpArgs false


/-- Where guards stand behind requests at places of the net. -/
noncomputable def lastP (net : List Int) (q : List Nat) : Nat := match loopE q.length (ansStep net (nl q)) (firstPost net, [((firstPost net : Nat) : Int)]) with | .inl _ => 0 | .inr t => t.1
theorem ans_all {net : List Int} (h : Ok net) {s : Nat} (hs : s < 2 ^ net.length) (he : Eternal net s) {q : List Nat} (hq : ∀ p, p ∈ q → p < net.length) : ∀ k, k ≤ q.length → ∃ t, loopE k (ansStep net (nl q)) (s, [(s : Int)]) = .inr t := by
  intro k
  induction k with
  | zero => intro _; exact ⟨_, rfl⟩
  | succ k ih =>
    intro hk
    obtain ⟨t, ht⟩ := ih (by omega)
    rw [loopE_succ ht]
    have hp : q.getD k 0 < net.length := hq _ (by
      have : q.getD k 0 = q[k]'(by omega) := by simp [List.getD, show k < q.length by omega]
      rw [this]; exact List.getElem_mem _)
    unfold ansStep
    rw [if_pos (by rw [nl_at (by omega)]; omega)]
    exact ⟨_, rfl⟩
theorem ans_bad {net : List Int} {s : Nat} {q : List Nat} (hq : ¬ ∀ p, p ∈ q → p < net.length) : answered net s (nl q) = [] := by
  obtain ⟨k, hk, hb⟩ : ∃ k, k < q.length ∧ ¬ q.getD k 0 < net.length := by
    refine Classical.byContradiction fun hno => hq fun p hp => ?_
    obtain ⟨k, hk, e⟩ := List.mem_iff_getElem.1 hp
    refine Classical.byContradiction fun hb => hno ⟨k, hk, ?_⟩
    simpa [List.getD, hk, e] using hb
  unfold answered
  rw [nl_len]
  have key : ∀ m, k + 1 + m ≤ q.length → ∃ d, loopE (k + 1 + m) (ansStep net (nl q)) (s, [(s : Int)]) = .inl d := by
    intro m
    induction m with
    | zero =>
      intro _
      cases hl : loopE k (ansStep net (nl q)) (s, [(s : Int)]) with
      | inl d => exact ⟨d, by show loopE (k + 1) _ _ = _; unfold loopE at hl ⊢; rw [fold_succ, hl]⟩
      | inr t =>
        refine ⟨t.2, ?_⟩
        rw [show k + 1 + 0 = k + 1 from rfl, loopE_succ hl]
        unfold ansStep
        rw [if_neg (by rw [nl_at hk]; omega)]
    | succ m ih =>
      intro hm
      obtain ⟨d, hd⟩ := ih (by omega)
      exact ⟨d, by show loopE (k + 1 + m + 1) _ _ = _; unfold loopE at hd ⊢; rw [fold_succ, hd]⟩
  obtain ⟨d, hd⟩ := key (q.length - (k + 1)) (by omega)
  rw [show k + 1 + (q.length - (k + 1)) = q.length by omega] at hd
  rw [hd]
theorem ans_last {net : List Int} (h : Ok net) {q : List Nat} (hq : ∀ p, p ∈ q → p < net.length) : ∃ l : List Int, answeredI net ((firstPost net : Nat) : Int) (nl q) = l ∧ l.length = q.length + 1 ∧ D.eli l q.length = ((lastP net q : Nat) : Int) := by
  have hP : IsPost net (firstPost net) := fp_loop h
  obtain ⟨t, ht⟩ := ans_all h hP.lt (eternalB_iff.1 hP.et) hq q.length (Nat.le_refl _)
  have hi := ans_inv h (nl q) hP.lt (eternalB_iff.1 hP.et) q.length t ht
  obtain ⟨_, i2, _, i4, _⟩ := hi
  refine ⟨t.2, ?_, i2, ?_⟩
  · unfold answeredI
    rw [if_pos ⟨dec_true (set_in hP.lt), by rw [Int.toNat_natCast]; exact hP.et⟩, Int.toNat_natCast]
    unfold answered
    rw [nl_len, ht]
  · obtain ⟨u, u1, _, _, _, u5⟩ := i4 q.length (Nat.le_refl _)
    rw [u1, u5 rfl]
    unfold lastP
    rw [ht]
theorem I.postBehind_n {net : List Int} (h : Ok net) (e : I.NetOk_t net = some true) {q : List Nat} (hl : q.length ≤ 40) (hq : ∀ p, p ∈ q → p < net.length) : I.postBehind_t net (nl q) = some (((lastP net q : Nat) : Int), net, nl (logN 0 q)) := by
  unfold I.postBehind_t I.postBehind_tree
  have h6 := h.hi
  obtain ⟨l, l1, l2, l3⟩ := ans_last h hq
  rw [I.firstPostIn_n h]
  simp only [optC]
  rw [I.AnsweredAll_n h e _ (by rw [nl_len]; omega), l1]
  simp only
  rw [List.nil_append, cnd_t (small_of (by omega)), l2, i64_wrap (n := ((q.length + 1 : Nat) : Int) - 1) (by omega) (by omega), show ((q.length + 1 : Nat) : Int) - 1 = (q.length : Int) by omega, cnd_t (by simp only [Bool.and_eq_true, decide_eq_true_eq]; omega), Int.toNat_natCast, cnd_t (by rw [decide_eq_true_eq]; omega), I.LogOf_n, logI_nl hl (fun p hp => by have := hq p hp; omega), l3]
theorem S.l17Last_n {net : List Int} (h : Ok net) (e : S.NetOk_t net = some true) {q : List Nat} (hl : q.length ≤ 40) (hq : ∀ p, p ∈ q → p < net.length) : S.l17Last_t net (nl q) = some ((lastP net q : Nat) : Int) := by
  unfold S.l17Last_t S.l17Last_tree
  obtain ⟨l, l1, l2, l3⟩ := ans_last h hq
  rw [S.FirstPost_y h e]
  simp only [optC]
  rw [S.AnsweredAll_n h e _ (by rw [nl_len]; omega), l1]
  simp only
  rw [cnd_f (by rw [beq_eq_false_iff_ne]; omega), l2, i64_wrap (n := ((q.length + 1 : Nat) : Int) - 1) (by omega) (by omega), show ((q.length + 1 : Nat) : Int) - 1 = (q.length : Int) by omega, cnd_t (by simp only [Bool.and_eq_true, decide_eq_true_eq]; omega), Int.toNat_natCast, cnd_t (by rw [decide_eq_true_eq]; omega), l3]
theorem S.l17Last_bad {net : List Int} (h : Ok net) (e : S.NetOk_t net = some true) {q : List Nat} (hl : q.length ≤ 40) (hq : ¬ ∀ p, p ∈ q → p < net.length) : S.l17Last_t net (nl q) = some (-1) := by
  unfold S.l17Last_t S.l17Last_tree
  have hP : IsPost net (firstPost net) := fp_loop h
  rw [S.FirstPost_y h e]
  simp only [optC]
  rw [S.AnsweredAll_n h e _ (by rw [nl_len]; omega)]
  simp only
  have : answeredI net ((firstPost net : Nat) : Int) (nl q) = [] := by
    unfold answeredI
    rw [if_pos ⟨dec_true (set_in hP.lt), by rw [Int.toNat_natCast]; exact hP.et⟩, Int.toNat_natCast]
    exact ans_bad hq
  rw [this]; rfl
/-- The places ahead of the first one that the net has not. -/
def hereN (net : List Int) (q : List Nat) : List Nat := q.takeWhile fun p => decide (p < net.length)
theorem hereN_in {net : List Int} {q : List Nat} : ∀ p, p ∈ hereN net q → p < net.length := by
  induction q with
  | nil => intro p hp; simp [hereN] at hp
  | cons a r ih =>
    intro p hp
    unfold hereN at hp ih
    rw [List.takeWhile_cons] at hp
    by_cases ha : a < net.length
    · rw [if_pos (by simpa using ha)] at hp
      rcases List.mem_cons.1 hp with rfl | hp
      · exact ha
      · exact ih p hp
    · rw [if_neg (by simpa using ha)] at hp; simp at hp
theorem hereN_len (net : List Int) (q : List Nat) : (hereN net q).length ≤ q.length := by unfold hereN; exact (List.takeWhile_prefix _).length_le
theorem hereN_all {net : List Int} {q : List Nat} (hq : ∀ p, p ∈ q → p < net.length) : hereN net q = q := by
  unfold hereN
  induction q with
  | nil => rfl
  | cons a r ih =>
    rw [List.takeWhile_cons, if_pos (by simpa using hq a (by simp)), ih (fun p hp => hq p (by simp [hp]))]
theorem hereN_full {net : List Int} {q : List Nat} (hl : (hereN net q).length = q.length) : ∀ p, p ∈ q → p < net.length := by
  have hpre : hereN net q <+: q := List.takeWhile_prefix _
  have e : hereN net q = q := hpre.eq_of_length hl
  intro p hp
  rw [← e] at hp
  exact hereN_in p hp
theorem I.placesHere_n {net : List Int} (h : Ok net) {q : List Nat} (hl : q.length ≤ 40) : I.placesHere_t net (nl q) = some (nl (hereN net q)) := by
  unfold I.placesHere_t I.placesHere_tree
  have hF := FUEL_le
  have h6 := h.hi
  have key : ∀ (r : List Nat) (p : List Nat) (N : Nat), p ++ r = q → r.length < N → I.placesHere_run3 net (nl q) N ((p.length : Int), nl p) = some (nl (p ++ hereN net r)) := by
    intro r
    induction r with
    | nil =>
      intro p N hp hN
      obtain ⟨N, rfl⟩ : ∃ m, N = m + 1 := ⟨N - 1, by simp at hN; omega⟩
      have hpl : p.length = q.length := by rw [← hp]; simp
      simp only [I.placesHere_run3, I.placesHere_step3]
      rw [cnd_f (by rw [decide_eq_false_iff_not, nl_len]; omega)]
      simp [hereN]
    | cons a r ih =>
      intro p N hp hN
      obtain ⟨N, rfl⟩ : ∃ m, N = m + 1 := ⟨N - 1, by simp at hN; omega⟩
      have hpl : p.length < q.length := by rw [← hp]; simp
      have hat : q.getD p.length 0 = a := by rw [← hp]; simp [List.getD]
      simp only [I.placesHere_run3, I.placesHere_step3]
      rw [cnd_t (by rw [decide_eq_true_eq, nl_len]; omega), cnd_t (by simp only [Bool.and_eq_true, decide_eq_true_eq, nl_len]; omega), Int.toNat_natCast, nl_at hpl, hat, I.placeIn_n]
      simp only [optC]
      unfold hereN
      rw [List.takeWhile_cons]
      by_cases ha : a < net.length
      · rw [show decide (0 ≤ (a : Int) ∧ (a : Int) < net.length) = true from decide_eq_true ⟨by omega, by omega⟩, cond_true, cnd_t (by simp only [Bool.and_eq_true, decide_eq_true_eq, nl_len]; omega), cnd_t (small_of (by rw [List.length_append, nl_len]; simp; omega)), add1_nat (by omega), if_pos (by simpa using ha), ← nl_append]
        have := ih (p ++ [a]) N (by rw [← hp]; simp) (by simp at hN; omega)
        rw [show (p ++ [a]).length = p.length + 1 by simp] at this
        rw [this]
        unfold hereN
        simp
      · rw [show decide (0 ≤ (a : Int) ∧ (a : Int) < net.length) = false from decide_eq_false fun hc => ha (by omega), cond_false, if_neg (by simpa using ha)]
        simp
  rw [show I.placesHere_run3 net (nl q) FUEL (0, []) = _ from key q [] FUEL rfl (by omega)]
  simp [optC]
noncomputable def postB (net : List Int) (s : Int) (log : List Nat) : Bool := decide (3 * lpL log = log.length ∧ (∀ p, p ∈ lp log → p < net.length) ∧ ((lastP net (lp log) : Nat) : Int) = s)
theorem I.PostOk_n {net : List Int} (h : Ok net) (e : I.NetOk_t net = some true) (s : Int) {log : List Nat} (hb : ∀ x, x ∈ log → x < 256) : I.PostOk_t net s (nl log) = some (postB net s log) := by
  unfold I.PostOk_t I.PostOk_tree
  have h40 := (lpL_is log).2.2
  have hlen := lp_len log
  rw [I.LogPlaces_n hb]
  simp only [optC]
  rw [e]
  simp only [Bool.not_true, cond_false]
  rw [nl_len]
  unfold postB
  by_cases h3 : 3 * lpL log = log.length
  rotate_left
  · rw [cnd_t (by rw [Bool.not_eq_true', beq_eq_false_iff_ne]; omega), decide_eq_false (fun hc => h3 hc.1)]
  rw [cnd_f (by rw [Bool.not_eq_false', beq_iff_eq]; omega), I.placesHere_n h (by omega)]
  simp only
  rw [nl_len, nl_len]
  by_cases ha : ∀ p, p ∈ lp log → p < net.length
  · rw [hereN_all ha, cnd_f (by simp), I.postBehind_n h e (by omega) ha]
    simp only
    congr 1
    rw [Bool.eq_iff_iff, beq_iff_eq, decide_eq_true_eq]
    exact ⟨fun hs => ⟨h3, ha, hs⟩, fun hs => hs.2.2⟩
  · rw [cnd_t (by rw [Bool.not_eq_true', beq_eq_false_iff_ne]; exact fun hc => ha (hereN_full (by omega))), decide_eq_false (fun hc => ha hc.2.1)]
theorem S.PostOk_n {net : List Int} (h : Ok net) (e : S.NetOk_t net = some true) (s : Int) {log : List Nat} (hb : ∀ x, x ∈ log → x < 256) : S.PostOk_t net s (nl log) = some (postB net s log) := by
  unfold S.PostOk_t S.PostOk_tree
  have h40 := (lpL_is log).2.2
  have hlen := lp_len log
  rw [S.LogPlaces_n hb]
  simp only [optC]
  rw [e]
  simp only [cond_true]
  rw [nl_len]
  unfold postB
  by_cases h3 : 3 * lpL log = log.length
  rotate_left
  · rw [cnd_f (by rw [beq_eq_false_iff_ne]; omega), decide_eq_false (fun hc => h3 hc.1)]
  rw [cnd_t (by rw [beq_iff_eq]; omega)]
  by_cases hs : s ≥ 0
  rotate_left
  · rw [cnd_f (by rw [decide_eq_false_iff_not]; omega), decide_eq_false (fun hc => by have := hc.2.2; omega)]
  rw [cnd_t (by rw [decide_eq_true_eq]; omega)]
  by_cases ha : ∀ p, p ∈ lp log → p < net.length
  · rw [S.l17Last_n h e (by omega) ha]
    simp only
    congr 1
    rw [Bool.eq_iff_iff, beq_iff_eq, decide_eq_true_eq]
    exact ⟨fun hs => ⟨h3, ha, hs⟩, fun hs => hs.2.2⟩
  · rw [S.l17Last_bad h e (by omega) ha]
    simp only
    congr 1
    rw [decide_eq_false (fun hc => ha hc.2.1), beq_eq_false_iff_ne]
    omega
theorem I.PostRise_x {net : List Int} (e : I.NetOk_t net = some false) (log : List Int) : I.PostRise_t net log = some (.inl (0, false)) := by
  unfold I.PostRise_t I.PostRise_tree; rw [e]; rfl
theorem I.PostRise_n {net : List Int} (h : Ok net) (e : I.NetOk_t net = some true) {log : List Nat} (hb : ∀ x, x ∈ log → x < 256) : I.PostRise_t net (nl log) = some (.inr (((lastP net (hereN net (lp log)) : Nat) : Int), true, net, nl (logN 0 (hereN net (lp log))))) := by
  unfold I.PostRise_t I.PostRise_tree
  have h40 := (lpL_is log).2.2
  have hlen := lp_len log
  have hh := hereN_len net (lp log)
  rw [e]
  simp only [optC, Bool.not_true, cond_false]
  rw [I.LogPlaces_n hb]
  simp only
  rw [I.placesHere_n h (by omega)]
  simp only
  rw [I.postBehind_n h e (by omega) hereN_in]
theorem lp_nil : lp [] = [] := by
  have := lpL_bytes []
  have h0 : lpL [] = 0 := by simp at this; exact this
  unfold lp; rw [h0]; rfl
theorem I.PostNew_x {net : List Int} (e : I.NetOk_t net = some false) : I.PostNew_t net = some (.inl (0, false)) := by
  unfold I.PostNew_t I.PostNew_tree; rw [I.PostRise_x e]; rfl
theorem S.PostNew_x {net : List Int} (e : S.NetOk_t net = some false) : S.PostNew_t net = some (.inl (0, false)) := by
  unfold S.PostNew_t S.PostNew_tree; rw [e]; rfl
theorem I.PostRise_nil {net : List Int} (h : Ok net) (e : I.NetOk_t net = some true) : I.PostRise_t net [] = some (.inr (((firstPost net : Nat) : Int), true, net, [])) := by
  have := I.PostRise_n h e (log := []) (fun x hx => by simp at hx)
  rw [lp_nil] at this
  exact this
theorem I.PostNew_n {net : List Int} (h : Ok net) (e : I.NetOk_t net = some true) : I.PostNew_t net = some (.inr (((firstPost net : Nat) : Int), true, net, [])) := by
  unfold I.PostNew_t I.PostNew_tree
  rw [I.PostRise_nil h e]; rfl
theorem S.PostNew_n {net : List Int} (h : Ok net) (e : S.NetOk_t net = some true) : S.PostNew_t net = some (.inr (((firstPost net : Nat) : Int), true, net, [])) := by
  unfold S.PostNew_t S.PostNew_tree
  have h6 := h.hi
  rw [e]
  simp only [optC, Bool.not_true, cond_false]
  rw [cnd_t (small_of (by simp; omega)), S.FirstPost_y h e]
  simp only [List.nil_append]
theorem S.PostRise_x {net : List Int} (e : S.NetOk_t net = some false) (log : List Int) : S.PostRise_t net log = some (.inl (0, false)) := by
  unfold S.PostRise_t S.PostRise_tree; rw [e]; rfl
theorem S.PostRise_n {net : List Int} (h : Ok net) (e : S.NetOk_t net = some true) {log : List Nat} (hb : ∀ x, x ∈ log → x < 256) : S.PostRise_t net (nl log) = some (.inr (((lastP net (hereN net (lp log)) : Nat) : Int), true, net, nl (logN 0 (hereN net (lp log))))) := by
  unfold S.PostRise_t S.PostRise_tree
  have hF := FUEL_le
  have h6 := h.hi
  have h40 := (lpL_is log).2.2
  have hlen := lp_len log
  have hh := hereN_len net (lp log)
  rw [e]
  simp only [optC, Bool.not_true, cond_false]
  rw [S.LogPlaces_n hb]
  simp only
  generalize lp log = q at hlen hh ⊢
  have key : ∀ (r : List Nat) (p : List Nat) (N : Nat), p ++ r = q → r.length < N → S.PostRise_run6 net N ((p.length : Int), 0, nl q, nl p) = some (0, nl (p ++ hereN net r)) := by
    intro r
    induction r with
    | nil =>
      intro p N hp hN
      obtain ⟨N, rfl⟩ : ∃ m, N = m + 1 := ⟨N - 1, by simp at hN; omega⟩
      have hpl : p.length = q.length := by rw [← hp]; simp
      simp only [S.PostRise_run6, S.PostRise_step6]
      rw [cnd_f (by rw [decide_eq_false_iff_not, nl_len]; omega)]
      simp [hereN]
    | cons a r ih =>
      intro p N hp hN
      obtain ⟨N, rfl⟩ : ∃ m, N = m + 1 := ⟨N - 1, by simp at hN; omega⟩
      have hpl : p.length < q.length := by rw [← hp]; simp
      have hat : q.getD p.length 0 = a := by rw [← hp]; simp [List.getD]
      simp only [S.PostRise_run6, S.PostRise_step6]
      rw [cnd_t (by rw [decide_eq_true_eq, nl_len]; omega), cnd_t (by simp only [Bool.and_eq_true, decide_eq_true_eq, nl_len]; omega), Int.toNat_natCast, cnd_t (by rw [decide_eq_true_eq, nl_len]; omega), nl_at hpl, hat]
      unfold hereN
      rw [List.takeWhile_cons]
      by_cases ha : a < net.length
      · rw [cnd_t (by rw [decide_eq_true_eq]; omega), cnd_t (by simp only [Bool.and_eq_true, decide_eq_true_eq, nl_len]; omega), cnd_t (by rw [decide_eq_true_eq, nl_len]; omega), cnd_t (small_of (by rw [List.length_append, nl_len]; simp; omega)), add1_nat (by omega), if_pos (by simpa using ha), ← nl_append]
        have := ih (p ++ [a]) N (by rw [← hp]; simp) (by simp at hN; omega)
        rw [show (p ++ [a]).length = p.length + 1 by simp] at this
        rw [this]
        unfold hereN
        simp
      · rw [cnd_f (by rw [decide_eq_false_iff_not]; omega), if_neg (by simpa using ha)]
        simp
  rw [show S.PostRise_run6 net FUEL (0, 0, nl q, []) = _ from key q [] FUEL rfl (by omega)]
  simp only [List.nil_append]
  rw [cnd_t (small_of (by omega)), S.l17Last_n h e (by omega) hereN_in]
  simp only
  rw [S.LogOf_n, logI_nl (by omega) (fun p hp => by have := hereN_in p hp; omega)]
theorem lp_full {q : List Nat} (hl : q.length ≤ 40) (hq : ∀ p, p ∈ q → p < 6) : lpL (logN 0 q) = q.length ∧ lp (logN 0 q) = q := by
  have hlen := logN_len q 0
  obtain ⟨a, b⟩ := lp_cut hl hq (n := 3 * q.length) (Nat.le_refl _)
  rw [List.take_of_length_le (by omega)] at a b
  rw [show 3 * q.length / 3 = q.length by omega] at a b
  rw [List.take_length] at b
  exact ⟨a, b⟩
theorem logN_pre {r q : List Nat} (hp : r <+: q) : logN 0 r = (logN 0 q).take (3 * r.length) := by
  obtain ⟨t, rfl⟩ := hp
  have key : ∀ (r : List Nat) (k : Nat), logN k (r ++ t) = logN k r ++ logN (k + r.length) t := by
    intro r
    induction r with
    | nil => intro k; simp [logN]
    | cons a r ih => intro k; simp only [List.cons_append, logN, ih (k + 1), List.length_cons, List.append_assoc]; rw [show k + 1 + r.length = k + (r.length + 1) by omega]
  rw [key r 0, List.take_left' (logN_len r 0)]
theorem here_log {net : List Int} {log : List Nat} : logN 0 (hereN net (lp log)) = log.take (3 * (hereN net (lp log)).length) := by
  have hh := hereN_len net (lp log)
  rw [lp_len] at hh
  have hp : hereN net (lp log) <+: lp log := List.takeWhile_prefix _
  have e := logN_pre hp
  rw [e, lp_log, List.take_take, Nat.min_eq_left (by omega)]
end Go.Proofs.Ytcckjofnglbbeaa
/- The laws of chapter 2: WatchOk, LeastWatchOk, FewestWatch, WatchOf. Conditions: those of each theorem. -/
namespace Go.Proofs.Ytcckjofnglbbeaa
open D Go.RowKit
set_option linter.unusedVariables false
set_option linter.unusedSimpArgs false


end Go.Proofs.Ytcckjofnglbbeaa
/- The laws of chapter 2: ThinnedWatch, WatchCounts, LeastWatches. Conditions: those of each theorem. -/
namespace Go.Proofs.Ytcckjofnglbbeaa
open D Go.RowKit
set_option linter.unusedVariables false
set_option linter.unusedSimpArgs false


/-! ### Counts -/
def cw (net : List Int) (j : Nat) : Nat := cnt (2 ^ net.length) (fun s => W net s && (size s == j))
theorem L.sameInts_is {a : List Int} (ha : a.length ≤ 1000000) : L.sameInts_t a a = some true := by
  unfold L.sameInts_t L.sameInts_tree
  have := (run_for (run := L.sameInts_run4 a a) (len := a.length) (fun k (_ : Unit) => (k : Int)) (fun t k => ()) (fun t => Sum.inr ()) (fun k t => True) (by omega) (fun n k t hk ht => ?_) (fun n t ht => ?_) (t0 := ()) trivial).1
  · rw [cnd_f (by simp), show L.sameInts_run4 a a FUEL 0 = _ from this]
    rfl
  · refine ⟨?_, trivial⟩
    simp only [L.sameInts_run4, L.sameInts_step4]
    rw [cnd_t (by simp; omega), cnd_t (by simp; omega), cnd_t (by simp; omega), cnd_f (by simp), add1_nat (by omega)]
  · simp only [L.sameInts_run4, L.sameInts_step4]
    rw [cnd_f (by simp)]
/-! ### Least watches -/
end Go.Proofs.Ytcckjofnglbbeaa
/- Draws of logs. Conditions: those of each theorem. -/
namespace Go.Proofs.Ytcckjofnglbbeaa
open D Go.RowKit
set_option linter.unusedVariables false
set_option linter.unusedSimpArgs false


theorem S.l20Places_is {rb : List Int} {rp many most : Int} (hb : Bytes rb) (hl : rb.length ≤ 2000) (h0 : 0 ≤ rp) (h1 : rp ≤ 500000) (m0 : 0 ≤ most) (m1 : most ≤ 100) :
    ∃ rp' l, S.l20Places_t rb rp many most = some (rb, rp', l) ∧ rp ≤ rp' ∧ rp' ≤ rp + 200 ∧ l.length ≤ 101 := by
  unfold S.l20Places_t S.l20Places_tree
  have hF := FUEL_le
  have key : ∀ (m : Nat) (rp : Int) (l : List Int) (N : Nat), 0 ≤ rp → rp + m ≤ 800000 → l.length + m ≤ 101 → m < N →
      ∃ rp' l', S.l20Places_run3 many N ((m : Int), rb, rp, l) = some (rb, rp', l') ∧ rp ≤ rp' ∧ rp' ≤ rp + m ∧ l'.length ≤ 101 := by
    intro m
    induction m with
    | zero =>
      intro rp l N h0 h1 hl2 hN
      obtain ⟨N, rfl⟩ : ∃ q, N = q + 1 := ⟨N - 1, by omega⟩
      simp only [S.l20Places_run3, S.l20Places_step3]
      rw [cnd_f (by rw [decide_eq_false_iff_not]; omega)]
      exact ⟨_, _, rfl, Int.le_refl _, by omega, by omega⟩
    | succ m ih =>
      intro rp l N h0 h1 hl2 hN
      obtain ⟨N, rfl⟩ : ∃ q, N = q + 1 := ⟨N - 1, by omega⟩
      obtain ⟨x, e3, x1, x2⟩ := S.l20Rd_pick_is (rp := rp) (n := if 1 > many then 1 else many) hb hl (by omega) (by omega)
      simp only [S.l20Places_run3, S.l20Places_step3]
      rw [cnd_t (by rw [decide_eq_true_eq]; omega), e3]
      simp only [optC]
      rw [cnd_t (small_of (by simp; omega)), i64_wrap (by omega) (by omega), show ((m + 1 : Nat) : Int) - 1 = (m : Int) by omega]
      obtain ⟨rp', l', a, b, c, d⟩ := ih (rp + 1) (l ++ [x]) N (by omega) (by omega) (by simp; omega) (by omega)
      exact ⟨rp', l', a, by omega, by omega, d⟩
  obtain ⟨x, e3, x1, x2⟩ := S.l20Rd_pick_is (rp := rp) (n := IntKind.i64.wrap (most + 1)) hb hl (by omega) (by omega)
  rw [e3]
  simp only [optC]
  have hw : IntKind.i64.wrap (most + 1) = most + 1 := i64_wrap (by omega) (by omega)
  rw [hw] at x2
  have x3 := x2 (by omega)
  obtain ⟨m, rfl⟩ : ∃ m : Nat, x = (m : Int) := ⟨x.toNat, by omega⟩
  obtain ⟨rp', l', a, b, c, d⟩ := key m (rp + 1) [] FUEL (by omega) (by omega) (by simp; omega) (by omega)
  rw [a]
  exact ⟨rp', l', rfl, by omega, by omega, d⟩
theorem logN_bytes {q : List Nat} : ∀ {k : Nat}, (∀ p, p ∈ q → p < 6) → k + q.length ≤ 40 → ∀ x, x ∈ logN k q → x < 256 := by
  induction q with
  | nil => intro k _ _ x hx; simp [logN] at hx
  | cons p r ih =>
    intro k hq hl x hx
    simp only [logN, List.mem_append] at hx
    simp only [List.length_cons] at hl
    rcases hx with hx | hx
    · exact rec3_bytes (hq p (by simp)) (by omega) x hx
    · exact ih (fun p hp => hq p (by simp [hp])) (by omega) x hx
theorem nl_take (l : List Nat) (n : Nat) : List.take n (nl l) = nl (l.take n) := by unfold nl; rw [← List.map_take]
theorem u8_byte (n : Int) : 0 ≤ IntKind.u8.wrap n ∧ IntKind.u8.wrap n ≤ 255 := by rw [IntKind.wrap_u8]; omega
theorem Bytes.snoc {b : List Int} (h : Bytes b) {x : Int} (h0 : 0 ≤ x) (h1 : x ≤ 255) : Bytes (b ++ [x]) := fun y hy => by
  rcases List.mem_append.1 hy with hy | hy
  · exact h y hy
  · rw [List.mem_singleton.1 hy]; exact ⟨h0, h1⟩
theorem Bytes.put {b : List Int} (h : Bytes b) {k : Nat} {x : Int} (h0 : 0 ≤ x) (h1 : x ≤ 255) : Bytes (b.set k x) := fun y hy => by
  rcases List.mem_or_eq_of_mem_set hy with hy | rfl
  · exact h y hy
  · exact ⟨h0, h1⟩
theorem log_end {rb : List Int} (hb : Bytes rb) (hl : rb.length ≤ 2000) {rp : Int} {u : List Int} (h0 : 0 ≤ rp) (h1 : rp ≤ 900000) (hu : Bytes u) (hul : u.length ≤ 300) :
    ∃ rp' out, D.optC (S.l20Rd_pick_t rb rp 12) (fun b => bif b.1 == 0 then D.optC (S.l20Rd_pick_t b.2.1 b.2.2 256) (fun d => bif D.small (u ++ [IntKind.u8.wrap d.1]).length then (bif D.small ([] ++ (u ++ [IntKind.u8.wrap d.1])).length then some (d.2.1, d.2.2, [] ++ (u ++ [IntKind.u8.wrap d.1])) else none) else none) none else (bif D.small ([] ++ u).length then some (b.2.1, b.2.2, [] ++ u) else none)) none = some (rb, rp', out) ∧ Bytes out ∧ rp ≤ rp' ∧ rp' ≤ rp + 2 ∧ out.length ≤ 301 := by
  obtain ⟨x, e3, x1, x2⟩ := S.l20Rd_pick_is (rp := rp) (n := 12) hb hl (by omega) (by omega)
  rw [e3]
  simp only [optC]
  by_cases hx : x = 0
  · obtain ⟨y, e4, y1, y2⟩ := S.l20Rd_pick_is (rp := rp + 1) (n := 256) hb hl (by omega) (by omega)
    rw [cnd_t (by simpa using hx), e4]
    simp only
    rw [cnd_t (small_of (by simp; omega)), cnd_t (small_of (by simp; omega)), List.nil_append]
    exact ⟨_, _, rfl, hu.snoc (u8_byte _).1 (u8_byte _).2, by omega, by omega, by simp; omega⟩
  · rw [cnd_f (by simpa using hx), cnd_t (small_of (by simp; omega)), List.nil_append]
    exact ⟨_, _, rfl, hu, by omega, by omega, by omega⟩
theorem log_cut {rb : List Int} (hb : Bytes rb) (hl : rb.length ≤ 2000) {rp : Int} {u : List Int} (h0 : 0 ≤ rp) (h1 : rp ≤ 800000) (hu : Bytes u) (hul : u.length ≤ 300) :
    ∃ rp' out, (bif decide ((u.length : Int) > 0) then D.optC (S.l20Rd_pick_t rb rp 3) (fun b => bif b.1 == 0 then D.optC (S.l20Rd_pick_t b.2.1 b.2.2 (u.length : Int)) (fun c => bif decide (0 ≤ c.1) && decide (c.1 ≤ (u.length : Int)) then
        D.optC (S.l20Rd_pick_t c.2.1 c.2.2 12) (fun b => bif b.1 == 0 then D.optC (S.l20Rd_pick_t b.2.1 b.2.2 256) (fun d => bif D.small (List.take c.1.toNat (List.drop 0 u) ++ [IntKind.u8.wrap d.1]).length then (bif D.small ([] ++ (List.take c.1.toNat (List.drop 0 u) ++ [IntKind.u8.wrap d.1])).length then some (d.2.1, d.2.2, [] ++ (List.take c.1.toNat (List.drop 0 u) ++ [IntKind.u8.wrap d.1])) else none) else none) none else (bif D.small ([] ++ List.take c.1.toNat (List.drop 0 u)).length then some (b.2.1, b.2.2, [] ++ List.take c.1.toNat (List.drop 0 u)) else none)) none
        else none) none
      else D.optC (S.l20Rd_pick_t b.2.1 b.2.2 12) (fun b => bif b.1 == 0 then D.optC (S.l20Rd_pick_t b.2.1 b.2.2 256) (fun d => bif D.small (u ++ [IntKind.u8.wrap d.1]).length then (bif D.small ([] ++ (u ++ [IntKind.u8.wrap d.1])).length then some (d.2.1, d.2.2, [] ++ (u ++ [IntKind.u8.wrap d.1])) else none) else none) none else (bif D.small ([] ++ u).length then some (b.2.1, b.2.2, [] ++ u) else none)) none) none
      else D.optC (S.l20Rd_pick_t rb rp 12) (fun b => bif b.1 == 0 then D.optC (S.l20Rd_pick_t b.2.1 b.2.2 256) (fun d => bif D.small (u ++ [IntKind.u8.wrap d.1]).length then (bif D.small ([] ++ (u ++ [IntKind.u8.wrap d.1])).length then some (d.2.1, d.2.2, [] ++ (u ++ [IntKind.u8.wrap d.1])) else none) else none) none else (bif D.small ([] ++ u).length then some (b.2.1, b.2.2, [] ++ u) else none)) none) = some (rb, rp', out) ∧ Bytes out ∧ rp ≤ rp' ∧ rp' ≤ rp + 10 ∧ out.length ≤ 301 := by
  by_cases hw : u.length = 0
  · rw [cnd_f (by rw [decide_eq_false_iff_not]; omega)]
    obtain ⟨rp', out, a, b, c, d, e⟩ := log_end hb hl (rp := rp) h0 (by omega) hu hul
    exact ⟨rp', out, a, b, c, by omega, e⟩
  · rw [cnd_t (by rw [decide_eq_true_eq]; omega)]
    obtain ⟨x, e3, x1, x2⟩ := S.l20Rd_pick_is (rp := rp) (n := 3) hb hl (by omega) (by omega)
    rw [e3]
    simp only [optC]
    by_cases hx : x = 0
    · obtain ⟨y, e4, y1, y2⟩ := S.l20Rd_pick_is (rp := rp + 1) (n := (u.length : Int)) hb hl (by omega) (by omega)
      have y3 := y2 (by omega)
      rw [cnd_t (by simpa using hx), e4]
      simp only
      rw [cnd_t (by simp only [Bool.and_eq_true, decide_eq_true_eq]; omega), List.drop_zero]
      obtain ⟨rp', out, a, b, c, d, e⟩ := log_end hb hl (rp := rp + 1 + 1) (u := u.take y.toNat) (by omega) (by omega) (fun z hz => hu z (List.mem_of_mem_take hz)) (by rw [List.length_take]; omega)
      exact ⟨rp', out, by simpa only [optC] using a, b, by omega, by omega, e⟩
    · rw [cnd_f (by simpa using hx)]
      obtain ⟨rp', out, a, b, c, d, e⟩ := log_end hb hl (rp := rp + 1) (u := u) (by omega) (by omega) hu hul
      exact ⟨rp', out, by simpa only [optC] using a, b, by omega, by omega, e⟩
theorem S.l20Log_is {rb : List Int} {rp many : Int} (hb : Bytes rb) (hl : rb.length ≤ 2000) (h0 : 0 ≤ rp) (h1 : rp ≤ 400000) : ∃ rp' out, S.l20Log_t rb rp many = some (rb, rp', out) ∧ Bytes out := by
  unfold S.l20Log_t S.l20Log_tree
  obtain ⟨x, e2, x1, x2⟩ := S.l20Rd_pick_is (rp := rp) (n := 20) hb hl (by omega) (by omega)
  have x3 := x2 (by decide)
  rw [e2]
  simp only [optC]
  have hd : 0 ≤ x.tdiv 19 ∧ x.tdiv 19 ≤ 1 := by
    obtain ⟨y, rfl⟩ : ∃ y : Nat, x = (y : Int) := ⟨x.toNat, by omega⟩
    rw [show (19 : Int) = ((19 : Nat) : Int) from rfl, ← Int.ofNat_tdiv]
    omega
  rw [i64_wrap (n := x.tdiv 19) (by omega) (by omega), i64_wrap (n := x.tdiv 19 * 32) (by omega) (by omega), i64_wrap (n := 8 + x.tdiv 19 * 32) (by omega) (by omega)]
  obtain ⟨rp2, l, e3, a1, a2, a3⟩ := S.l20Places_is (rp := rp + 1) (many := many) (most := 8 + x.tdiv 19 * 32) hb hl (by omega) (by omega) (by omega) (by omega)
  rw [e3]
  simp only
  rw [S.LogOf_n]
  simp only
  obtain ⟨wb, wl⟩ : Bytes (nl (logI l)) ∧ (nl (logI l)).length ≤ 120 := by
    rcases logI_is l with ⟨q, _, hq, hp, e⟩ | ⟨e, _⟩
    · rw [e]; exact ⟨nl_bytes (logN_bytes (k := 0) hp (by omega)), by rw [nl_len, logN_len]; omega⟩
    · rw [e]; exact ⟨fun z hz => by simp [nl] at hz, by simp [nl]⟩
  generalize nl (logI l) = w at wb wl ⊢
  by_cases hw : w.length = 0
  · rw [cnd_f (by rw [decide_eq_false_iff_not]; omega)]
    obtain ⟨rp', out, a, b, _⟩ := log_cut hb hl (rp := rp2) (u := w) (by omega) (by omega) wb (by omega)
    exact ⟨rp', out, by simpa only [optC] using a, b⟩
  · rw [cnd_t (by rw [decide_eq_true_eq]; omega)]
    obtain ⟨y, e4, y1, y2⟩ := S.l20Rd_pick_is (rp := rp2) (n := 3) hb hl (by omega) (by omega)
    rw [e4]
    simp only
    by_cases hy : y = 0
    · obtain ⟨z, e5, z1, z2⟩ := S.l20Rd_pick_is (rp := rp2 + 1) (n := (w.length : Int)) hb hl (by omega) (by omega)
      have z3 := z2 (by omega)
      rw [cnd_t (by simpa using hy), e5]
      simp only
      obtain ⟨v, e6, v1, v2⟩ := S.l20Rd_pick_is (rp := rp2 + 1 + 1) (n := 256) hb hl (by omega) (by omega)
      rw [cnd_t (by simp only [Bool.and_eq_true, decide_eq_true_eq]; omega), cnd_t (by rw [decide_eq_true_eq]; omega), e6]
      simp only
      rw [cnd_t (by simp only [Bool.and_eq_true, decide_eq_true_eq]; omega), cnd_t (by rw [decide_eq_true_eq]; omega)]
      obtain ⟨rp', out, a, b, _⟩ := log_cut hb hl (rp := rp2 + 1 + 1 + 1) (u := w.set z.toNat (IntKind.u8.wrap (IntKind.i64.wrap (IntKind.i64.wrap (D.eli w z.toNat) + v)))) (by omega) (by omega) (wb.put (u8_byte _).1 (u8_byte _).2) (by rw [List.length_set]; omega)
      exact ⟨rp', out, by simpa only [optC] using a, b⟩
    · rw [cnd_f (by simpa using hy)]
      obtain ⟨rp', out, a, b, _⟩ := log_cut hb hl (rp := rp2 + 1) (u := w) (by omega) (by omega) wb (by omega)
      exact ⟨rp', out, by simpa only [optC] using a, b⟩
theorem S.DrawPostRise_is {code : List Int} (hb : Bytes code) : ∃ net b, S.DrawPostRise_t code = some (net, b) ∧ Bytes b := by
  unfold S.DrawPostRise_t S.DrawPostRise_tree
  obtain ⟨rb, e1, h1, h2⟩ := S.l20Open_is hb
  rw [e1]
  simp only [optC]
  obtain ⟨rp1, net, e2, a1, a2, h3⟩ := S.l20Net_is (n := 9) h1 h2 (Int.le_refl 0) (by decide)
  rw [e2]
  simp only
  obtain ⟨x, e3, x1, x2⟩ := S.l20Rd_pick_is (rp := rp1) (n := 9) h1 h2 (by omega) (by omega)
  rw [e3]
  simp only
  obtain ⟨rp', out, e4, h4⟩ := S.l20Log_is (rp := rp1 + 1) (many := IntKind.i64.wrap ((net.length : Int) + IntKind.i64.wrap (x.tdiv 8))) h1 h2 (by omega) (by omega)
  rw [e4]
  exact ⟨_, _, rfl, h4⟩
end Go.Proofs.Ytcckjofnglbbeaa
/- Laws of PostNew and PostRise. Conditions: those of each theorem. -/
namespace Go.Proofs.Ytcckjofnglbbeaa
open D Go.RowKit
set_option linter.unusedVariables false
set_option linter.unusedSimpArgs false


theorem S.DrawPostNew_is {code : List Int} (hb : Bytes code) : ∃ net, S.DrawPostNew_t code = some net ∧ net.length ≤ 6 := by
  unfold S.DrawPostNew_t S.DrawPostNew_tree
  obtain ⟨rb, e1, h1, h2⟩ := S.l20Open_is hb
  rw [e1]
  simp only [optC]
  obtain ⟨rp', net, e2, _, _, h3⟩ := S.l20Net_is (n := 9) h1 h2 (Int.le_refl 0) (by decide)
  rw [e2]
  exact ⟨_, rfl, h3⟩
theorem L.samePost_is {a : List Int} {s : Int} {b : List Int} (ha : a.length ≤ 1000) : L.samePost_t a s b a s b = some true := by
  unfold L.samePost_t L.samePost_tree
  rw [L.sameInts_is (by omega)]
  simp only [optC, cond_true]
  rw [beq_self_eq_true, strEq_self]
  rfl
theorem L.FnPostNew_is {code : List Int} (hm : code.length ≤ maxLen) (hw : ∀ n ∈ code, (Lit.int .u8 n).wf = true) : L.FnPostNew_t code = some true := by
  unfold L.FnPostNew_t L.FnPostNew_tree
  by_cases hc : (code.length : Int) > 1048576
  · rw [cnd_t (by simpa using hc)]
  rw [cnd_f (by simpa using hc)]
  obtain ⟨net, e1, h1⟩ := S.DrawPostNew_is (Bytes.wf hw)
  rw [e1]
  simp only [optC]
  rcases NetOk_cases net with ⟨h, g1, g2⟩ | ⟨_, g1, g2⟩
  · have h6 := h.hi
    rw [I.PostNew_n h g1]
    simp only [sumC]
    rw [S.PostNew_n h g2]
    simp only
    rw [beq_self_eq_true, Bool.not_true, cond_false, L.samePost_is (by omega)]
    simp only [Bool.not_true, cond_false]
    rw [I.PostRise_nil h g1]
    simp only [cond_true]
    rw [L.samePost_is (by omega)]
    simp only [cond_true]
    have hok : I.PostOk_t net ((firstPost net : Nat) : Int) [] = some true := by
      have := I.PostOk_n h g1 ((firstPost net : Nat) : Int) (log := []) (fun x hx => by simp at hx)
      rw [show (nl [] : List Int) = [] from rfl] at this
      rw [this]
      unfold postB
      have h0 : lpL [] = 0 := by have := lpL_bytes []; simp at this; exact this
      rw [decide_eq_true]
      refine ⟨by rw [h0]; rfl, by rw [lp_nil]; intro p hp; simp at hp, ?_⟩
      rw [lp_nil]; rfl
    rw [hok]
    simp only [cond_true]
    rw [I.FirstPost_y h g1]
    simp only
    rw [beq_self_eq_true]
  · rw [I.PostNew_x g1]
    simp only [sumC]
    rw [S.PostNew_x g2]
    simp only
    rw [beq_self_eq_true, Bool.not_true, cond_false, L.samePost_is (by simp)]
    simp only [Bool.not_true, cond_false]
    rw [g1, L.alive_is]
    rfl
theorem L.FnPostRise_is {code : List Int} (hm : code.length ≤ maxLen) (hw : ∀ n ∈ code, (Lit.int .u8 n).wf = true) : L.FnPostRise_t code = some true := by
  unfold L.FnPostRise_t L.FnPostRise_tree
  by_cases hc : (code.length : Int) > 1048576
  · rw [cnd_t (by simpa using hc)]
  rw [cnd_f (by simpa using hc)]
  obtain ⟨net, log, e1, hb⟩ := S.DrawPostRise_is (Bytes.wf hw)
  rw [e1]
  simp only [optC]
  obtain ⟨q, rfl, hq⟩ := nl_back hb
  rcases NetOk_cases net with ⟨h, g1, g2⟩ | ⟨_, g1, g2⟩
  · have h6 := h.hi
    have h40 := (lpL_is q).2.2
    have hlen := lp_len q
    have hh := hereN_len net (lp q)
    have hin := hereN_in (net := net) (q := lp q)
    have hlog := here_log (net := net) (log := q)
    have hby := lpL_bytes q
    rw [I.PostRise_n h g1 hq]
    simp only [sumC]
    rw [S.PostRise_n h g2 hq]
    simp only
    rw [beq_self_eq_true, Bool.not_true, cond_false, L.samePost_is (by omega)]
    simp only [Bool.not_true, cond_false]
    generalize hereN net (lp q) = r at hh hin hlog ⊢
    obtain ⟨f1, f2⟩ := lp_full (q := r) (by omega) (fun p hp => by have := hin p hp; omega)
    have hrb : ∀ x, x ∈ logN 0 r → x < 256 := logN_bytes (k := 0) (fun p hp => by have := hin p hp; omega) (by omega)
    have hrl := logN_len r 0
    rw [I.PostRise_n h g1 hrb, f2, hereN_all hin]
    simp only
    rw [I.PostOk_n h g1 _ hrb]
    simp only
    have hpb : postB net ((lastP net r : Nat) : Int) (logN 0 r) = true := by
      unfold postB
      rw [decide_eq_true_eq, f1, f2]
      exact ⟨by omega, hin, rfl⟩
    rw [hpb, cond_true, cnd_t (by rw [decide_eq_true_eq, nl_len, nl_len]; omega), cnd_t (by rw [decide_eq_true_eq, nl_len, nl_len]; omega), List.drop_zero, nl_len, Int.toNat_natCast, nl_take, hrl, ← hlog, strEq_self]
    simp only [cond_true]
    rw [L.samePost_is (by omega)]
  · rw [I.PostRise_x g1]
    simp only [sumC]
    rw [S.PostRise_x g2]
    simp only
    rw [beq_self_eq_true, Bool.not_true, cond_false, L.samePost_is (by simp)]
    simp only [Bool.not_true, cond_false]
    rw [g1, L.alive_is]
    rfl
end Go.Proofs.Ytcckjofnglbbeaa
