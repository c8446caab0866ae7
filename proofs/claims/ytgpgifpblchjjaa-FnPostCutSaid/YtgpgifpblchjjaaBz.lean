/- Several texts in one: J17b, J17c, DrLog, Dr17, L2, L3, L17d, L17e. Conditions: those of each theorem. -/
import Derived.Test.YtgpgifpblchjjaaBzb0
/- Posts, of the program (at ae9a42a) and of the model. Conditions: those of each theorem. -/
namespace Go.Proofs.Ytgpgifpblchjjaa
open D Go.RowKit
set_option linter.unusedVariables false
set_option linter.unusedSimpArgs false


/-- Where guards stand behind requests at places of the net. -/
noncomputable def lastP (net : List Int) (q : List Nat) : Nat := match loopE q.length (ansStep net (nl q)) (firstPost net, [((firstPost net : Nat) : Int)]) with | .inl _ => 0 | .inr t => t.1
theorem ans_all {net : List Int} (h : Ok net) {s : Nat} (hs : s < 2 ^ net.length) (he : Eternal net s) {q : List Nat} (hq : ∀ p, p ∈ q → p < net.length) : ∀ k, k ≤ q.length → ∃ t, loopE k (ansStep net (nl q)) (s, [(s : Int)]) = .inr t := by
  intro k
  induction k with
  | zero => intro _; exact ⟨_, rfl⟩
  | succ k ih =>
    intro hk
    obtain ⟨t, ht⟩ := ih (by omega)
    rw [loopE_succ ht]
    have hp : q.getD k 0 < net.length := hq _ (by
      have : q.getD k 0 = q[k]'(by omega) := by simp [List.getD, show k < q.length by omega]
      rw [this]; exact List.getElem_mem _)
    unfold ansStep
    rw [if_pos (by rw [nl_at (by omega)]; omega)]
    exact ⟨_, rfl⟩
theorem ans_bad {net : List Int} {s : Nat} {q : List Nat} (hq : ¬ ∀ p, p ∈ q → p < net.length) : answered net s (nl q) = [] := by
  obtain ⟨k, hk, hb⟩ : ∃ k, k < q.length ∧ ¬ q.getD k 0 < net.length := by
    refine Classical.byContradiction fun hno => hq fun p hp => ?_
    obtain ⟨k, hk, e⟩ := List.mem_iff_getElem.1 hp
    refine Classical.byContradiction fun hb => hno ⟨k, hk, ?_⟩
    simpa [List.getD, hk, e] using hb
  unfold answered
  rw [nl_len]
  have key : ∀ m, k + 1 + m ≤ q.length → ∃ d, loopE (k + 1 + m) (ansStep net (nl q)) (s, [(s : Int)]) = .inl d := by
    intro m
    induction m with
    | zero =>
      intro _
      cases hl : loopE k (ansStep net (nl q)) (s, [(s : Int)]) with
      | inl d => exact ⟨d, by show loopE (k + 1) _ _ = _; unfold loopE at hl ⊢; rw [fold_succ, hl]⟩
      | inr t =>
        refine ⟨t.2, ?_⟩
        rw [show k + 1 + 0 = k + 1 from rfl, loopE_succ hl]
        unfold ansStep
        rw [if_neg (by rw [nl_at hk]; omega)]
    | succ m ih =>
      intro hm
      obtain ⟨d, hd⟩ := ih (by omega)
      exact ⟨d, by show loopE (k + 1 + m + 1) _ _ = _; unfold loopE at hd ⊢; rw [fold_succ, hd]⟩
  obtain ⟨d, hd⟩ := key (q.length - (k + 1)) (by omega)
  rw [show k + 1 + (q.length - (k + 1)) = q.length by omega] at hd
  rw [hd]
theorem ans_last {net : List Int} (h : Ok net) {q : List Nat} (hq : ∀ p, p ∈ q → p < net.length) : ∃ l : List Int, answeredI net ((firstPost net : Nat) : Int) (nl q) = l ∧ l.length = q.length + 1 ∧ D.eli l q.length = ((lastP net q : Nat) : Int) := by
  have hP : IsPost net (firstPost net) := fp_loop h
  obtain ⟨t, ht⟩ := ans_all h hP.lt (eternalB_iff.1 hP.et) hq q.length (Nat.le_refl _)
  have hi := ans_inv h (nl q) hP.lt (eternalB_iff.1 hP.et) q.length t ht
  obtain ⟨_, i2, _, i4, _⟩ := hi
  refine ⟨t.2, ?_, i2, ?_⟩
  · unfold answeredI
    rw [if_pos ⟨dec_true (set_in hP.lt), by rw [Int.toNat_natCast]; exact hP.et⟩, Int.toNat_natCast]
    unfold answered
    rw [nl_len, ht]
  · obtain ⟨u, u1, _, _, _, u5⟩ := i4 q.length (Nat.le_refl _)
    rw [u1, u5 rfl]
    unfold lastP
    rw [ht]
theorem I.postBehind_n {net : List Int} (h : Ok net) (e : I.NetOk_t net = some true) {q : List Nat} (hl : q.length ≤ 40) (hq : ∀ p, p ∈ q → p < net.length) : I.postBehind_t net (nl q) = some (((lastP net q : Nat) : Int), net, nl (logN 0 q)) := by
  unfold I.postBehind_t I.postBehind_tree
  have h6 := h.hi
  obtain ⟨l, l1, l2, l3⟩ := ans_last h hq
  rw [I.firstPostIn_n h]
  simp only [optC]
  rw [I.AnsweredAll_n h e _ (by rw [nl_len]; omega), l1]
  simp only
  rw [List.nil_append, cnd_t (small_of (by omega)), l2, i64_wrap (n := ((q.length + 1 : Nat) : Int) - 1) (by omega) (by omega), show ((q.length + 1 : Nat) : Int) - 1 = (q.length : Int) by omega, cnd_t (by simp only [Bool.and_eq_true, decide_eq_true_eq]; omega), Int.toNat_natCast, cnd_t (by rw [decide_eq_true_eq]; omega), I.LogOf_n, logI_nl hl (fun p hp => by have := hq p hp; omega), l3]
theorem S.l17Last_n {net : List Int} (h : Ok net) (e : S.NetOk_t net = some true) {q : List Nat} (hl : q.length ≤ 40) (hq : ∀ p, p ∈ q → p < net.length) : S.l17Last_t net (nl q) = some ((lastP net q : Nat) : Int) := by
  unfold S.l17Last_t S.l17Last_tree
  obtain ⟨l, l1, l2, l3⟩ := ans_last h hq
  rw [S.FirstPost_y h e]
  simp only [optC]
  rw [S.AnsweredAll_n h e _ (by rw [nl_len]; omega), l1]
  simp only
  rw [cnd_f (by rw [beq_eq_false_iff_ne]; omega), l2, i64_wrap (n := ((q.length + 1 : Nat) : Int) - 1) (by omega) (by omega), show ((q.length + 1 : Nat) : Int) - 1 = (q.length : Int) by omega, cnd_t (by simp only [Bool.and_eq_true, decide_eq_true_eq]; omega), Int.toNat_natCast, cnd_t (by rw [decide_eq_true_eq]; omega), l3]
theorem S.l17Last_bad {net : List Int} (h : Ok net) (e : S.NetOk_t net = some true) {q : List Nat} (hl : q.length ≤ 40) (hq : ¬ ∀ p, p ∈ q → p < net.length) : S.l17Last_t net (nl q) = some (-1) := by
  unfold S.l17Last_t S.l17Last_tree
  have hP : IsPost net (firstPost net) := fp_loop h
  rw [S.FirstPost_y h e]
  simp only [optC]
  rw [S.AnsweredAll_n h e _ (by rw [nl_len]; omega)]
  simp only
  have : answeredI net ((firstPost net : Nat) : Int) (nl q) = [] := by
    unfold answeredI
    rw [if_pos ⟨dec_true (set_in hP.lt), by rw [Int.toNat_natCast]; exact hP.et⟩, Int.toNat_natCast]
    exact ans_bad hq
  rw [this]; rfl
/-- The places ahead of the first one that the net has not. -/
def hereN (net : List Int) (q : List Nat) : List Nat := q.takeWhile fun p => decide (p < net.length)
theorem hereN_in {net : List Int} {q : List Nat} : ∀ p, p ∈ hereN net q → p < net.length := by
  induction q with
  | nil => intro p hp; simp [hereN] at hp
  | cons a r ih =>
    intro p hp
    unfold hereN at hp ih
    rw [List.takeWhile_cons] at hp
    by_cases ha : a < net.length
    · rw [if_pos (by simpa using ha)] at hp
      rcases List.mem_cons.1 hp with rfl | hp
      · exact ha
      · exact ih p hp
    · rw [if_neg (by simpa using ha)] at hp; simp at hp
theorem hereN_len (net : List Int) (q : List Nat) : (hereN net q).length ≤ q.length := by unfold hereN; exact (List.takeWhile_prefix _).length_le
theorem hereN_all {net : List Int} {q : List Nat} (hq : ∀ p, p ∈ q → p < net.length) : hereN net q = q := by
  unfold hereN
  induction q with
  | nil => rfl
  | cons a r ih =>
    rw [List.takeWhile_cons, if_pos (by simpa using hq a (by simp)), ih (fun p hp => hq p (by simp [hp]))]
theorem hereN_full {net : List Int} {q : List Nat} (hl : (hereN net q).length = q.length) : ∀ p, p ∈ q → p < net.length := by
  have hpre : hereN net q <+: q := List.takeWhile_prefix _
  have e : hereN net q = q := hpre.eq_of_length hl
  intro p hp
  rw [← e] at hp
  exact hereN_in p hp
theorem I.placesHere_n {net : List Int} (h : Ok net) {q : List Nat} (hl : q.length ≤ 40) : I.placesHere_t net (nl q) = some (nl (hereN net q)) := by
  unfold I.placesHere_t I.placesHere_tree
  have hF := FUEL_le
  have h6 := h.hi
  have key : ∀ (r : List Nat) (p : List Nat) (N : Nat), p ++ r = q → r.length < N → I.placesHere_run3 net (nl q) N ((p.length : Int), nl p) = some (nl (p ++ hereN net r)) := by
    intro r
    induction r with
    | nil =>
      intro p N hp hN
      obtain ⟨N, rfl⟩ : ∃ m, N = m + 1 := ⟨N - 1, by simp at hN; omega⟩
      have hpl : p.length = q.length := by rw [← hp]; simp
      simp only [I.placesHere_run3, I.placesHere_step3]
      rw [cnd_f (by rw [decide_eq_false_iff_not, nl_len]; omega)]
      simp [hereN]
    | cons a r ih =>
      intro p N hp hN
      obtain ⟨N, rfl⟩ : ∃ m, N = m + 1 := ⟨N - 1, by simp at hN; omega⟩
      have hpl : p.length < q.length := by rw [← hp]; simp
      have hat : q.getD p.length 0 = a := by rw [← hp]; simp [List.getD]
      simp only [I.placesHere_run3, I.placesHere_step3]
      rw [cnd_t (by rw [decide_eq_true_eq, nl_len]; omega), cnd_t (by simp only [Bool.and_eq_true, decide_eq_true_eq, nl_len]; omega), Int.toNat_natCast, nl_at hpl, hat, I.placeIn_n]
      simp only [optC]
      unfold hereN
      rw [List.takeWhile_cons]
      by_cases ha : a < net.length
      · rw [show decide (0 ≤ (a : Int) ∧ (a : Int) < net.length) = true from decide_eq_true ⟨by omega, by omega⟩, cond_true, cnd_t (by simp only [Bool.and_eq_true, decide_eq_true_eq, nl_len]; omega), cnd_t (small_of (by rw [List.length_append, nl_len]; simp; omega)), add1_nat (by omega), if_pos (by simpa using ha), ← nl_append]
        have := ih (p ++ [a]) N (by rw [← hp]; simp) (by simp at hN; omega)
        rw [show (p ++ [a]).length = p.length + 1 by simp] at this
        rw [this]
        unfold hereN
        simp
      · rw [show decide (0 ≤ (a : Int) ∧ (a : Int) < net.length) = false from decide_eq_false fun hc => ha (by omega), cond_false, if_neg (by simpa using ha)]
        simp
  rw [show I.placesHere_run3 net (nl q) FUEL (0, []) = _ from key q [] FUEL rfl (by omega)]
  simp [optC]
noncomputable def postB (net : List Int) (s : Int) (log : List Nat) : Bool := decide (3 * lpL log = log.length ∧ (∀ p, p ∈ lp log → p < net.length) ∧ ((lastP net (lp log) : Nat) : Int) = s)
theorem I.PostOk_n {net : List Int} (h : Ok net) (e : I.NetOk_t net = some true) (s : Int) {log : List Nat} (hb : ∀ x, x ∈ log → x < 256) : I.PostOk_t net s (nl log) = some (postB net s log) := by
  unfold I.PostOk_t I.PostOk_tree
  have h40 := (lpL_is log).2.2
  have hlen := lp_len log
  rw [I.LogPlaces_n hb]
  simp only [optC]
  rw [e]
  simp only [Bool.not_true, cond_false]
  rw [nl_len]
  unfold postB
  by_cases h3 : 3 * lpL log = log.length
  rotate_left
  · rw [cnd_t (by rw [Bool.not_eq_true', beq_eq_false_iff_ne]; omega), decide_eq_false (fun hc => h3 hc.1)]
  rw [cnd_f (by rw [Bool.not_eq_false', beq_iff_eq]; omega), I.placesHere_n h (by omega)]
  simp only
  rw [nl_len, nl_len]
  by_cases ha : ∀ p, p ∈ lp log → p < net.length
  · rw [hereN_all ha, cnd_f (by simp), I.postBehind_n h e (by omega) ha]
    simp only
    congr 1
    rw [Bool.eq_iff_iff, beq_iff_eq, decide_eq_true_eq]
    exact ⟨fun hs => ⟨h3, ha, hs⟩, fun hs => hs.2.2⟩
  · rw [cnd_t (by rw [Bool.not_eq_true', beq_eq_false_iff_ne]; exact fun hc => ha (hereN_full (by omega))), decide_eq_false (fun hc => ha hc.2.1)]
theorem S.PostOk_n {net : List Int} (h : Ok net) (e : S.NetOk_t net = some true) (s : Int) {log : List Nat} (hb : ∀ x, x ∈ log → x < 256) : S.PostOk_t net s (nl log) = some (postB net s log) := by
  unfold S.PostOk_t S.PostOk_tree
  have h40 := (lpL_is log).2.2
  have hlen := lp_len log
  rw [S.LogPlaces_n hb]
  simp only [optC]
  rw [e]
  simp only [cond_true]
  rw [nl_len]
  unfold postB
  by_cases h3 : 3 * lpL log = log.length
  rotate_left
  · rw [cnd_f (by rw [beq_eq_false_iff_ne]; omega), decide_eq_false (fun hc => h3 hc.1)]
  rw [cnd_t (by rw [beq_iff_eq]; omega)]
  by_cases hs : s ≥ 0
  rotate_left
  · rw [cnd_f (by rw [decide_eq_false_iff_not]; omega), decide_eq_false (fun hc => by have := hc.2.2; omega)]
  rw [cnd_t (by rw [decide_eq_true_eq]; omega)]
  by_cases ha : ∀ p, p ∈ lp log → p < net.length
  · rw [S.l17Last_n h e (by omega) ha]
    simp only
    congr 1
    rw [Bool.eq_iff_iff, beq_iff_eq, decide_eq_true_eq]
    exact ⟨fun hs => ⟨h3, ha, hs⟩, fun hs => hs.2.2⟩
  · rw [S.l17Last_bad h e (by omega) ha]
    simp only
    congr 1
    rw [decide_eq_false (fun hc => ha hc.2.1), beq_eq_false_iff_ne]
    omega
theorem I.PostOk_x {net : List Int} (e : I.NetOk_t net = some false) (s : Int) {log : List Nat} (hb : ∀ x, x ∈ log → x < 256) : I.PostOk_t net s (nl log) = some false := by
  unfold I.PostOk_t I.PostOk_tree
  rw [I.LogPlaces_n hb]
  simp only [optC]
  rw [e]; rfl
theorem S.PostOk_x {net : List Int} (e : S.NetOk_t net = some false) (s : Int) {log : List Nat} (hb : ∀ x, x ∈ log → x < 256) : S.PostOk_t net s (nl log) = some false := by
  unfold S.PostOk_t S.PostOk_tree
  rw [S.LogPlaces_n hb]
  simp only [optC]
  rw [e]; rfl
theorem I.PostRise_x {net : List Int} (e : I.NetOk_t net = some false) (log : List Int) : I.PostRise_t net log = some (0, false, [], []) := by
  unfold I.PostRise_t I.PostRise_tree; rw [e]; rfl
theorem I.PostRise_n {net : List Int} (h : Ok net) (e : I.NetOk_t net = some true) {log : List Nat} (hb : ∀ x, x ∈ log → x < 256) : I.PostRise_t net (nl log) = some ((((lastP net (hereN net (lp log)) : Nat) : Int), true, net, nl (logN 0 (hereN net (lp log))))) := by
  unfold I.PostRise_t I.PostRise_tree
  have h40 := (lpL_is log).2.2
  have hlen := lp_len log
  have hh := hereN_len net (lp log)
  rw [e]
  simp only [optC, Bool.not_true, cond_false]
  rw [I.LogPlaces_n hb]
  simp only
  rw [I.placesHere_n h (by omega)]
  simp only
  rw [I.postBehind_n h e (by omega) hereN_in]
theorem lp_nil : lp [] = [] := by
  have := lpL_bytes []
  have h0 : lpL [] = 0 := by simp at this; exact this
  unfold lp; rw [h0]; rfl
theorem I.PostRise_nil {net : List Int} (h : Ok net) (e : I.NetOk_t net = some true) : I.PostRise_t net [] = some ((((firstPost net : Nat) : Int), true, net, [])) := by
  have := I.PostRise_n h e (log := []) (fun x hx => by simp at hx)
  rw [lp_nil] at this
  exact this
theorem I.PostNew_n {net : List Int} (h : Ok net) (e : I.NetOk_t net = some true) : I.PostNew_t net = some ((((firstPost net : Nat) : Int), true, net, [])) := by
  unfold I.PostNew_t I.PostNew_tree
  rw [I.PostRise_nil h e]; rfl
theorem S.PostRise_x {net : List Int} (e : S.NetOk_t net = some false) (log : List Int) : S.PostRise_t net log = some (0, false, [], []) := by
  unfold S.PostRise_t S.PostRise_tree; rw [e]; rfl
theorem S.PostRise_n {net : List Int} (h : Ok net) (e : S.NetOk_t net = some true) {log : List Nat} (hb : ∀ x, x ∈ log → x < 256) : S.PostRise_t net (nl log) = some ((((lastP net (hereN net (lp log)) : Nat) : Int), true, net, nl (logN 0 (hereN net (lp log))))) := by
  unfold S.PostRise_t S.PostRise_tree
  have hF := FUEL_le
  have h6 := h.hi
  have h40 := (lpL_is log).2.2
  have hlen := lp_len log
  have hh := hereN_len net (lp log)
  rw [e]
  simp only [optC, Bool.not_true, cond_false]
  rw [S.LogPlaces_n hb]
  simp only
  generalize lp log = q at hlen hh ⊢
  have key : ∀ (r : List Nat) (p : List Nat) (N : Nat), p ++ r = q → r.length < N → S.PostRise_run6 net N ((p.length : Int), 0, nl q, nl p) = some (0, nl (p ++ hereN net r)) := by
    intro r
    induction r with
    | nil =>
      intro p N hp hN
      obtain ⟨N, rfl⟩ : ∃ m, N = m + 1 := ⟨N - 1, by simp at hN; omega⟩
      have hpl : p.length = q.length := by rw [← hp]; simp
      simp only [S.PostRise_run6, S.PostRise_step6]
      rw [cnd_f (by rw [decide_eq_false_iff_not, nl_len]; omega)]
      simp [hereN]
    | cons a r ih =>
      intro p N hp hN
      obtain ⟨N, rfl⟩ : ∃ m, N = m + 1 := ⟨N - 1, by simp at hN; omega⟩
      have hpl : p.length < q.length := by rw [← hp]; simp
      have hat : q.getD p.length 0 = a := by rw [← hp]; simp [List.getD]
      simp only [S.PostRise_run6, S.PostRise_step6]
      rw [cnd_t (by rw [decide_eq_true_eq, nl_len]; omega), cnd_t (by simp only [Bool.and_eq_true, decide_eq_true_eq, nl_len]; omega), Int.toNat_natCast, cnd_t (by rw [decide_eq_true_eq, nl_len]; omega), nl_at hpl, hat]
      unfold hereN
      rw [List.takeWhile_cons]
      by_cases ha : a < net.length
      · rw [cnd_t (by rw [decide_eq_true_eq]; omega), cnd_t (by simp only [Bool.and_eq_true, decide_eq_true_eq, nl_len]; omega), cnd_t (by rw [decide_eq_true_eq, nl_len]; omega), cnd_t (small_of (by rw [List.length_append, nl_len]; simp; omega)), add1_nat (by omega), if_pos (by simpa using ha), ← nl_append]
        have := ih (p ++ [a]) N (by rw [← hp]; simp) (by simp at hN; omega)
        rw [show (p ++ [a]).length = p.length + 1 by simp] at this
        rw [this]
        unfold hereN
        simp
      · rw [cnd_f (by rw [decide_eq_false_iff_not]; omega), if_neg (by simpa using ha)]
        simp
  rw [show S.PostRise_run6 net FUEL (0, 0, nl q, []) = _ from key q [] FUEL rfl (by omega)]
  simp only [List.nil_append]
  rw [cnd_t (small_of (by omega)), S.l17Last_n h e (by omega) hereN_in]
  simp only
  rw [S.LogOf_n, logI_nl (by omega) (fun p hp => by have := hereN_in p hp; omega)]
theorem lp_full {q : List Nat} (hl : q.length ≤ 40) (hq : ∀ p, p ∈ q → p < 6) : lpL (logN 0 q) = q.length ∧ lp (logN 0 q) = q := by
  have hlen := logN_len q 0
  obtain ⟨a, b⟩ := lp_cut hl hq (n := 3 * q.length) (Nat.le_refl _)
  rw [List.take_of_length_le (by omega)] at a b
  rw [show 3 * q.length / 3 = q.length by omega] at a b
  rw [List.take_length] at b
  exact ⟨a, b⟩
theorem logN_pre {r q : List Nat} (hp : r <+: q) : logN 0 r = (logN 0 q).take (3 * r.length) := by
  obtain ⟨t, rfl⟩ := hp
  have key : ∀ (r : List Nat) (k : Nat), logN k (r ++ t) = logN k r ++ logN (k + r.length) t := by
    intro r
    induction r with
    | nil => intro k; simp [logN]
    | cons a r ih => intro k; simp only [List.cons_append, logN, ih (k + 1), List.length_cons, List.append_assoc]; rw [show k + 1 + r.length = k + (r.length + 1) by omega]
  rw [key r 0, List.take_left' (logN_len r 0)]
end Go.Proofs.Ytgpgifpblchjjaa
/- Posts that are asked and cut, of the program (at ae9a42a) and of the model. Conditions: those of each theorem. -/
namespace Go.Proofs.Ytgpgifpblchjjaa
open D Go.RowKit
set_option linter.unusedVariables false
set_option linter.unusedSimpArgs false


theorem loopE_same {σ ρ : Type} {f g : σ → Nat → ρ ⊕ σ} : ∀ (n : Nat) (s : σ), (∀ k, k < n → ∀ t, f t k = g t k) → loopE n f s = loopE n g s := by
  intro n
  induction n with
  | zero => intro s _; rfl
  | succ n ih =>
    intro s h
    have e : ∀ F : σ → Nat → ρ ⊕ σ, loopE (n + 1) F s = match loopE n F s with | .inl r => .inl r | .inr st => F st n := fun F => by
      unfold loopE
      rw [fold_succ]
      rfl
    rw [e, e, ih s (fun k hk => h k (by omega))]
    cases loopE n g s with
    | inl r => rfl
    | inr t => exact h n (by omega) t
theorem lastP_is {net : List Int} (h : Ok net) {q : List Nat} (hq : ∀ p, p ∈ q → p < net.length) : ∃ t, loopE q.length (ansStep net (nl q)) (firstPost net, [((firstPost net : Nat) : Int)]) = .inr t ∧ lastP net q = t.1 ∧ t.1 < 2 ^ net.length ∧ Eternal net t.1 ∧ (q ≠ [] → True) := by
  have hP : IsPost net (firstPost net) := fp_loop h
  obtain ⟨t, ht⟩ := ans_all h hP.lt (eternalB_iff.1 hP.et) hq q.length (Nat.le_refl _)
  have hi := ans_inv h (nl q) hP.lt (eternalB_iff.1 hP.et) q.length t ht
  obtain ⟨i1, i2, _, i4, _⟩ := hi
  obtain ⟨u, u1, u2, u3, u4, u5⟩ := i4 q.length (Nat.le_refl _)
  have e := u5 rfl
  subst e
  refine ⟨t, ht, ?_, u2, u3, fun _ => trivial⟩
  unfold lastP
  rw [ht]
theorem lastP_lt {net : List Int} (h : Ok net) {q : List Nat} (hq : ∀ p, p ∈ q → p < net.length) : lastP net q < 2 ^ net.length ∧ Eternal net (lastP net q) := by
  obtain ⟨t, _, e, a, b, _⟩ := lastP_is h hq
  rw [e]; exact ⟨a, b⟩
theorem lastP_snoc {net : List Int} (h : Ok net) {q : List Nat} {p : Nat} (hq : ∀ p, p ∈ q → p < net.length) (hp : p < net.length) : lastP net (q ++ [p]) = ansNext net (lastP net q) p := by
  obtain ⟨t, e, e2, _⟩ := lastP_is h hq
  rw [e2]
  have e3 : loopE q.length (ansStep net (nl (q ++ [p]))) (firstPost net, [((firstPost net : Nat) : Int)]) = .inr t := by
    rw [← e]
    refine loopE_same _ _ (fun k hk u => ?_)
    unfold ansStep
    have : D.eli (nl (q ++ [p])) k = D.eli (nl q) k := by
      rw [nl_at (by simp; omega), nl_at hk]
      simp [List.getD, List.getElem?_append_left hk]
    rw [this]
  have e4 : loopE (q ++ [p]).length (ansStep net (nl (q ++ [p]))) (firstPost net, [((firstPost net : Nat) : Int)]) = ansStep net (nl (q ++ [p])) t q.length := by
    rw [List.length_append, List.length_singleton]
    exact loopE_succ e3
  have e5 : D.eli (nl (q ++ [p])) q.length = (p : Int) := by
    rw [nl_at (by simp)]
    simp [List.getD]
  unfold lastP
  rw [e4]
  unfold ansStep
  rw [e5, if_pos ⟨by omega, by omega⟩]
  rfl
open Classical in
/-- What asking for a place comes to. -/
noncomputable def askR (net : List Int) (s : Int) (log : List Nat) (place : Int) : Int × Bool × List Int × List Int :=
  if postB net s log = true ∧ (0 ≤ place ∧ place < net.length) ∧ log.length ≠ 120 then (((lastP net (lp log ++ [place.toNat]) : Nat) : Int), true, net, nl (logN 0 (lp log ++ [place.toNat]))) else (0, false, [], [])
theorem postB_is {net : List Int} {s : Int} {log : List Nat} : postB net s log = true ↔ 3 * lpL log = log.length ∧ (∀ p, p ∈ lp log → p < net.length) ∧ ((lastP net (lp log) : Nat) : Int) = s := by unfold postB; rw [decide_eq_true_eq]
theorem I.PostAsk_n {net : List Int} (h : Ok net) (e : I.NetOk_t net = some true) (s : Int) {log : List Nat} (hb : ∀ x, x ∈ log → x < 256) (place : Int) : I.PostAsk_t net s (nl log) place = some (askR net s log place) := by
  unfold I.PostAsk_t I.PostAsk_tree
  have h6 := h.hi
  have h40 := (lpL_is log).2.2
  have hlen := lp_len log
  rw [I.PostOk_n h e s hb]
  simp only [optC]
  unfold askR
  cases hB : postB net s log with
  | false => rw [Bool.not_false, cond_true, if_neg (fun hc => by cases hc.1)]
  | true =>
    rw [Bool.not_true, cond_false, I.placeIn_n]
    simp only
    by_cases hp : 0 ≤ place ∧ place < net.length
    rotate_left
    · rw [show decide (0 ≤ place ∧ place < (net.length : Int)) = false from decide_eq_false hp, Bool.not_false, cond_true, if_neg (fun hc => hp hc.2.1)]
    rw [show decide (0 ≤ place ∧ place < (net.length : Int)) = true from decide_eq_true hp, Bool.not_true, cond_false, nl_len]
    obtain ⟨b1, b2, b3⟩ := postB_is.1 hB
    by_cases hl : log.length = 120
    · rw [cnd_t (by rw [beq_iff_eq]; omega), if_neg (fun hc => hc.2.2 hl)]
    rw [cnd_f (by rw [beq_eq_false_iff_ne]; omega), if_pos ⟨by trivial, hp, hl⟩, I.LogPlaces_n hb]
    simp only
    obtain ⟨p, rfl⟩ : ∃ p : Nat, place = p := ⟨place.toNat, by omega⟩
    obtain ⟨l1, l2⟩ := lastP_lt h b2
    rw [List.nil_append, cnd_t (small_of (by omega)), I.eternalIn_n h]
    simp only
    rw [← b3, I.answeredIn_n h l1 (by omega) l2]
    simp only
    rw [cnd_t (small_of (by rw [List.length_append, nl_len]; simp; omega)), ← nl_append, I.LogOf_n, Int.toNat_natCast, logI_nl (by simp; omega) (fun x hx => by
      rcases List.mem_append.1 hx with hx | hx
      · exact lp_lt hx
      · rw [List.mem_singleton.1 hx]; omega), lastP_snoc h b2 (by omega)]
theorem S.PostAsk_n {net : List Int} (h : Ok net) (e : S.NetOk_t net = some true) (s : Int) {log : List Nat} (hb : ∀ x, x ∈ log → x < 256) (place : Int) : S.PostAsk_t net s (nl log) place = some (askR net s log place) := by
  unfold S.PostAsk_t S.PostAsk_tree
  have h6 := h.hi
  have h1 := h.lo
  have h40 := (lpL_is log).2.2
  have hlen := lp_len log
  rw [S.PostOk_n h e s hb]
  simp only [optC]
  unfold askR
  cases hB : postB net s log with
  | false => rw [Bool.not_false, cond_true, if_neg (fun hc => by cases hc.1)]
  | true =>
    rw [Bool.not_true, cond_false, S.l1In_is, sub1_nat (by omega) (by omega)]
    simp only
    by_cases hp : 0 ≤ place ∧ place < net.length
    rotate_left
    · rw [show decide (0 ≤ place ∧ place ≤ ((net.length - 1 : Nat) : Int)) = false from decide_eq_false (by omega), Bool.not_false, cond_true, if_neg (fun hc => hp hc.2.1)]
    rw [show decide (0 ≤ place ∧ place ≤ ((net.length - 1 : Nat) : Int)) = true from decide_eq_true (by omega), Bool.not_true, cond_false, nl_len]
    obtain ⟨b1, b2, b3⟩ := postB_is.1 hB
    by_cases hl : log.length = 120
    · rw [cnd_t (by rw [beq_iff_eq]; omega), if_neg (fun hc => hc.2.2 hl)]
    rw [cnd_f (by rw [beq_eq_false_iff_ne]; omega), if_pos ⟨by trivial, hp, hl⟩, S.LogPlaces_n hb]
    simp only
    obtain ⟨p, rfl⟩ : ∃ p : Nat, place = p := ⟨place.toNat, by omega⟩
    have hq : ∀ x, x ∈ lp log ++ [p] → x < net.length := fun x hx => by
      rcases List.mem_append.1 hx with hx | hx
      · exact b2 x hx
      · rw [List.mem_singleton.1 hx]; omega
    rw [cnd_t (small_of (by rw [List.length_append, nl_len]; simp; omega)), List.nil_append, cnd_t (small_of (by omega)), ← nl_append, S.l17Last_n h e (by simp; omega) hq]
    simp only
    rw [S.LogOf_n, Int.toNat_natCast, logI_nl (by simp; omega) (fun x hx => by have := hq x hx; omega)]
theorem I.PostAsk_x {net : List Int} (e : I.NetOk_t net = some false) (s : Int) {log : List Nat} (hb : ∀ x, x ∈ log → x < 256) (place : Int) : I.PostAsk_t net s (nl log) place = some (0, false, [], []) := by
  unfold I.PostAsk_t I.PostAsk_tree; rw [I.PostOk_x e s hb]; rfl
theorem S.PostAsk_x {net : List Int} (e : S.NetOk_t net = some false) (s : Int) {log : List Nat} (hb : ∀ x, x ∈ log → x < 256) (place : Int) : S.PostAsk_t net s (nl log) place = some (0, false, [], []) := by
  unfold S.PostAsk_t S.PostAsk_tree; rw [S.PostOk_x e s hb]; rfl
/-- How many bytes are left. -/
def leftN (len : Nat) (bytes : Int) : Nat := if bytes < 0 then 0 else min bytes.toNat len
noncomputable def riseR (net : List Int) (log : List Nat) : Int × Bool × List Int × List Int := (((lastP net (hereN net (lp log)) : Nat) : Int), true, net, nl (logN 0 (hereN net (lp log))))
open Classical in
noncomputable def cutQ (net : List Int) (s : Int) (log : List Nat) (bytes : Int) : Int × Bool × List Int × List Int := if postB net s log = true then riseR net (log.take (leftN log.length bytes)) else (0, false, [], [])
theorem nl_take2 (l : List Nat) (n : Nat) : List.take n (List.drop 0 (nl l)) = nl (l.take n) := by unfold nl; rw [List.drop_zero, ← List.map_take]
theorem I.bytesLeft_n (log : List Nat) (bytes : Int) : I.bytesLeft_t (nl log) bytes = some ((leftN log.length bytes : Nat) : Int) := by
  unfold I.bytesLeft_t I.bytesLeft_tree leftN
  rw [nl_len]
  by_cases h1 : bytes < 0
  · rw [cnd_t (by rw [decide_eq_true_eq]; exact h1), if_pos h1]; rfl
  rw [cnd_f (by rw [decide_eq_false_iff_not]; exact h1), if_neg h1]
  by_cases h2 : bytes > log.length
  · rw [cnd_t (by rw [decide_eq_true_eq]; exact h2)]
    congr 1; omega
  · rw [cnd_f (by rw [decide_eq_false_iff_not]; exact h2)]
    congr 1; omega
theorem leftN_le (len : Nat) (bytes : Int) : leftN len bytes ≤ len := by unfold leftN; split <;> omega
theorem I.PostCut_n {net : List Int} (h : Ok net) (e : I.NetOk_t net = some true) (s : Int) {log : List Nat} (hb : ∀ x, x ∈ log → x < 256) (bytes : Int) : I.PostCut_t net s (nl log) bytes = some (cutQ net s log bytes) := by
  unfold I.PostCut_t I.PostCut_tree cutQ
  rw [I.PostOk_n h e s hb]
  simp only [optC]
  cases hB : postB net s log with
  | false => rw [Bool.not_false, cond_true, if_neg (by simp)]
  | true =>
    have hl := leftN_le log.length bytes
    rw [Bool.not_true, cond_false, I.bytesLeft_n, if_pos rfl]
    simp only
    rw [nl_len, cnd_t (by simp only [Bool.and_eq_true, decide_eq_true_eq]; omega), Int.toNat_natCast, nl_take2, I.PostRise_n h e (fun x hx => hb x (List.mem_of_mem_take hx))]
    rfl
theorem S.PostCut_n {net : List Int} (h : Ok net) (e : S.NetOk_t net = some true) (s : Int) {log : List Nat} (hb : ∀ x, x ∈ log → x < 256) (bytes : Int) : S.PostCut_t net s (nl log) bytes = some (cutQ net s log bytes) := by
  unfold S.PostCut_t S.PostCut_tree cutQ
  rw [S.PostOk_n h e s hb]
  simp only [optC]
  cases hB : postB net s log with
  | false => rw [Bool.not_false, cond_true, if_neg (by simp)]
  | true =>
    have hl := leftN_le log.length bytes
    have el : (if (log.length : Int) < if 0 > bytes then 0 else bytes then (log.length : Int) else if 0 > bytes then 0 else bytes) = ((leftN log.length bytes : Nat) : Int) := by
      unfold leftN
      by_cases h1 : bytes < 0
      · rw [if_pos (show 0 > bytes from h1), if_neg (by omega), if_pos h1]; rfl
      · rw [if_neg (show ¬ 0 > bytes from h1), if_neg h1]
        split <;> omega
    rw [Bool.not_true, cond_false, nl_len, el, if_pos rfl, cnd_t (by simp only [Bool.and_eq_true, decide_eq_true_eq]; omega), Int.toNat_natCast, nl_take2, S.PostRise_n h e (fun x hx => hb x (List.mem_of_mem_take hx))]
    rfl
theorem I.PostCut_x {net : List Int} (e : I.NetOk_t net = some false) (s : Int) {log : List Nat} (hb : ∀ x, x ∈ log → x < 256) (bytes : Int) : I.PostCut_t net s (nl log) bytes = some (0, false, [], []) := by
  unfold I.PostCut_t I.PostCut_tree; rw [I.PostOk_x e s hb]; rfl
theorem S.PostCut_x {net : List Int} (e : S.NetOk_t net = some false) (s : Int) {log : List Nat} (hb : ∀ x, x ∈ log → x < 256) (bytes : Int) : S.PostCut_t net s (nl log) bytes = some (0, false, [], []) := by
  unfold S.PostCut_t S.PostCut_tree; rw [S.PostOk_x e s hb]; rfl
end Go.Proofs.Ytgpgifpblchjjaa
/- Draws of logs. Conditions: those of each theorem. -/
namespace Go.Proofs.Ytgpgifpblchjjaa
open D Go.RowKit
set_option linter.unusedVariables false
set_option linter.unusedSimpArgs false


theorem S.l20Places_is {rb : List Int} {rp many most : Int} (hb : Bytes rb) (hl : rb.length ≤ 2000) (h0 : 0 ≤ rp) (h1 : rp ≤ 500000) (m0 : 0 ≤ most) (m1 : most ≤ 100) :
    ∃ rp' l, S.l20Places_t rb rp many most = some (rb, rp', l) ∧ rp ≤ rp' ∧ rp' ≤ rp + 200 ∧ l.length ≤ 101 := by
  unfold S.l20Places_t S.l20Places_tree
  have hF := FUEL_le
  have key : ∀ (m : Nat) (rp : Int) (l : List Int) (N : Nat), 0 ≤ rp → rp + m ≤ 800000 → l.length + m ≤ 101 → m < N →
      ∃ rp' l', S.l20Places_run3 many N ((m : Int), rb, rp, l) = some (rb, rp', l') ∧ rp ≤ rp' ∧ rp' ≤ rp + m ∧ l'.length ≤ 101 := by
    intro m
    induction m with
    | zero =>
      intro rp l N h0 h1 hl2 hN
      obtain ⟨N, rfl⟩ : ∃ q, N = q + 1 := ⟨N - 1, by omega⟩
      simp only [S.l20Places_run3, S.l20Places_step3]
      rw [cnd_f (by rw [decide_eq_false_iff_not]; omega)]
      exact ⟨_, _, rfl, Int.le_refl _, by omega, by omega⟩
    | succ m ih =>
      intro rp l N h0 h1 hl2 hN
      obtain ⟨N, rfl⟩ : ∃ q, N = q + 1 := ⟨N - 1, by omega⟩
      obtain ⟨x, e3, x1, x2⟩ := S.l20Rd_pick_is (rp := rp) (n := if 1 > many then 1 else many) hb hl (by omega) (by omega)
      simp only [S.l20Places_run3, S.l20Places_step3]
      rw [cnd_t (by rw [decide_eq_true_eq]; omega), e3]
      simp only [optC]
      rw [cnd_t (small_of (by simp; omega)), i64_wrap (by omega) (by omega), show ((m + 1 : Nat) : Int) - 1 = (m : Int) by omega]
      obtain ⟨rp', l', a, b, c, d⟩ := ih (rp + 1) (l ++ [x]) N (by omega) (by omega) (by simp; omega) (by omega)
      exact ⟨rp', l', a, by omega, by omega, d⟩
  obtain ⟨x, e3, x1, x2⟩ := S.l20Rd_pick_is (rp := rp) (n := IntKind.i64.wrap (most + 1)) hb hl (by omega) (by omega)
  rw [e3]
  simp only [optC]
  have hw : IntKind.i64.wrap (most + 1) = most + 1 := i64_wrap (by omega) (by omega)
  rw [hw] at x2
  have x3 := x2 (by omega)
  obtain ⟨m, rfl⟩ : ∃ m : Nat, x = (m : Int) := ⟨x.toNat, by omega⟩
  obtain ⟨rp', l', a, b, c, d⟩ := key m (rp + 1) [] FUEL (by omega) (by omega) (by simp; omega) (by omega)
  rw [a]
  exact ⟨rp', l', rfl, by omega, by omega, d⟩
theorem logN_bytes {q : List Nat} : ∀ {k : Nat}, (∀ p, p ∈ q → p < 6) → k + q.length ≤ 40 → ∀ x, x ∈ logN k q → x < 256 := by
  induction q with
  | nil => intro k _ _ x hx; simp [logN] at hx
  | cons p r ih =>
    intro k hq hl x hx
    simp only [logN, List.mem_append] at hx
    simp only [List.length_cons] at hl
    rcases hx with hx | hx
    · exact rec3_bytes (hq p (by simp)) (by omega) x hx
    · exact ih (fun p hp => hq p (by simp [hp])) (by omega) x hx
theorem nl_take (l : List Nat) (n : Nat) : List.take n (nl l) = nl (l.take n) := by unfold nl; rw [← List.map_take]
theorem u8_byte (n : Int) : 0 ≤ IntKind.u8.wrap n ∧ IntKind.u8.wrap n ≤ 255 := by rw [IntKind.wrap_u8]; omega
theorem Bytes.snoc {b : List Int} (h : Bytes b) {x : Int} (h0 : 0 ≤ x) (h1 : x ≤ 255) : Bytes (b ++ [x]) := fun y hy => by
  rcases List.mem_append.1 hy with hy | hy
  · exact h y hy
  · rw [List.mem_singleton.1 hy]; exact ⟨h0, h1⟩
theorem Bytes.put {b : List Int} (h : Bytes b) {k : Nat} {x : Int} (h0 : 0 ≤ x) (h1 : x ≤ 255) : Bytes (b.set k x) := fun y hy => by
  rcases List.mem_or_eq_of_mem_set hy with hy | rfl
  · exact h y hy
  · exact ⟨h0, h1⟩
end Go.Proofs.Ytgpgifpblchjjaa
/- Draws of posts. Conditions: those of each theorem. -/
namespace Go.Proofs.Ytgpgifpblchjjaa
open D Go.RowKit
set_option linter.unusedVariables false
set_option linter.unusedSimpArgs false


/-- What a drawn post is like. -/
def PostP (rb : List Int) : (Int × List Int × Int × List Int × List Int) ⊕ (Int × Nat × Nat × List Int × Int × List Int × List Int) → Prop
  | .inl (_, rb', rp', net, log) => rb' = rb ∧ 0 ≤ rp' ∧ rp' ≤ 500000 ∧ net.length ≤ 6 ∧ Bytes log ∧ log.length ≤ 200
  | .inr (_, off, k, rb', rp', net, log) => off = 0 ∧ k ≤ log.length ∧ rb' = rb ∧ 0 ≤ rp' ∧ rp' ≤ 500000 ∧ net.length ≤ 6 ∧ Bytes log ∧ log.length ≤ 200
theorem S.l20Post_is {rb : List Int} {rp n : Int} (hb : Bytes rb) (hl : rb.length ≤ 2000) (h0 : 0 ≤ rp) (h1 : rp ≤ 400000) :
    ∃ r, S.l20Post_t rb rp n = some r ∧ PostP rb r := by
  unfold S.l20Post_t S.l20Post_tree
  obtain ⟨rp1, net, e2, a1, a2, h3⟩ := S.l20Net_is (n := n) hb hl h0 (by omega)
  rw [e2]
  simp only [optC]
  obtain ⟨x, e3, x1, x2⟩ := S.l20Rd_pick_is (rp := rp1) (n := 20) hb hl (by omega) (by omega)
  have x3 := x2 (by decide)
  rw [e3]
  simp only
  have hd : 0 ≤ x.tdiv 19 ∧ x.tdiv 19 ≤ 1 := by
    obtain ⟨y, rfl⟩ : ∃ y : Nat, x = (y : Int) := ⟨x.toNat, by omega⟩
    rw [show (19 : Int) = ((19 : Nat) : Int) from rfl, ← Int.ofNat_tdiv]
    omega
  rw [i64_wrap (n := x.tdiv 19) (by omega) (by omega), i64_wrap (n := x.tdiv 19 * 32) (by omega) (by omega), i64_wrap (n := 8 + x.tdiv 19 * 32) (by omega) (by omega)]
  obtain ⟨rp2, l, e4, b1, b2, b3⟩ := S.l20Places_is (rp := rp1 + 1) (many := (net.length : Int)) (most := 8 + x.tdiv 19 * 32) hb hl (by omega) (by omega) (by omega) (by omega)
  rw [e4]
  simp only
  rw [S.LogOf_n]
  simp only
  have hlg : ∀ x, x ∈ logI l → x < 256 := by
    rcases logI_is l with ⟨q, _, hq, hp, e⟩ | ⟨e, _⟩
    · rw [e]; exact logN_bytes (k := 0) hp (by omega)
    · rw [e]; intro x hx; cases hx
  obtain ⟨s, ok, net', log', e5, c1, c2, c3⟩ : ∃ s ok net' log', S.PostRise_t net (nl (logI l)) = some (s, ok, net', log') ∧ net'.length ≤ 6 ∧ Bytes log' ∧ log'.length ≤ 120 := by
    rcases NetOk_cases net with ⟨h, _, g2⟩ | ⟨_, _, g2⟩
    · have h6 := h.hi
      have h40 := (lpL_is (logI l)).2.2
      have hlen := lp_len (logI l)
      have hh := hereN_len net (lp (logI l))
      have hin := hereN_in (net := net) (q := lp (logI l))
      exact ⟨_, _, _, _, S.PostRise_n h g2 hlg, h6, nl_bytes (logN_bytes (k := 0) (fun p hp => by have := hin p hp; omega) (by omega)), by rw [nl_len, logN_len]; omega⟩
    · exact ⟨_, _, _, _, S.PostRise_x g2 _, by simp, (fun z hz => by cases hz), by simp⟩
  rw [e5]
  simp only
  obtain ⟨b, rp3, e6, d1, d2⟩ := S.l20Rd_odd_is (rp := rp2) (n := n) hb hl (by omega) (by omega)
  rw [e6]
  simp only
  cases b with
  | false => exact ⟨_, rfl, rfl, by omega, by omega, c1, c2, by omega⟩
  | true =>
    rw [cond_true]
    obtain ⟨y, e7, y1, y2⟩ := S.l20Rd_pick_is (rp := rp3) (n := 3) hb hl (by omega) (by omega)
    rw [e7]
    simp only
    by_cases hy : y = 0
    · rw [cnd_t (by simpa using hy)]
      obtain ⟨z, e8, z1, z2⟩ := S.l20Rd_pick_is (rp := rp3 + 1) (n := 64) hb hl (by omega) (by omega)
      rw [e8]
      simp only
      obtain ⟨w, e9, w1, w2⟩ := S.l20Rd_pick_is (rp := rp3 + 1 + 1) (n := 8) hb hl (by omega) (by omega)
      rw [e9]
      simp only
      exact ⟨_, rfl, rfl, by omega, by omega, c1, c2, by omega⟩
    · rw [cnd_f (by simpa using hy)]
      by_cases hy2 : y = 1
      · rw [cnd_t (by simpa using hy2)]
        obtain ⟨z, e8, z1, z2⟩ := S.l20Rd_pick_is (rp := rp3 + 1) (n := 256) hb hl (by omega) (by omega)
        rw [e8]
        simp only
        rw [cnd_t (small_of (by simp; omega))]
        exact ⟨_, rfl, rfl, by omega, by omega, c1, c2.snoc (u8_byte _).1 (u8_byte _).2, by simp; omega⟩
      · rw [cnd_f (by simpa using hy2)]
        have ht : (log'.length : Int).tdiv 6 = ((log'.length / 6 : Nat) : Int) := by
          rw [show (6 : Int) = ((6 : Nat) : Int) from rfl, ← Int.ofNat_tdiv]
        rw [ht, i64_wrap (n := ((log'.length / 6 : Nat) : Int)) (by omega) (by omega), i64_wrap (n := ((log'.length / 6 : Nat) : Int) * 3) (by omega) (by omega), cnd_t (by simp only [Bool.and_eq_true, decide_eq_true_eq]; omega)]
        exact ⟨_, rfl, rfl, by omega, rfl, by omega, by omega, c1, c2, by omega⟩
theorem S.DrawPostOk_is {code : List Int} (hb : Bytes code) : ∃ s net log, net.length ≤ 6 ∧ Bytes log ∧ (S.DrawPostOk_t code = some (.inl (s, net, log)) ∨ ∃ k, k ≤ log.length ∧ S.DrawPostOk_t code = some (.inr (s, 0, k, net, log))) := by
  unfold S.DrawPostOk_t S.DrawPostOk_tree
  obtain ⟨rb, e1, h1, h2⟩ := S.l20Open_is hb
  rw [e1]
  simp only [optC]
  obtain ⟨r, e2, hr⟩ := S.l20Post_is (n := 3) h1 h2 (Int.le_refl 0) (by decide)
  rw [e2]
  rcases r with ⟨s, rb', rp', net, log⟩ | ⟨s, off, k, rb', rp', net, log⟩
  · obtain ⟨rfl, _, _, a, b, _⟩ := hr
    exact ⟨s, net, log, a, b, .inl rfl⟩
  · obtain ⟨rfl, hk, rfl, _, _, a, b, _⟩ := hr
    exact ⟨s, net, log, a, b, .inr ⟨k, hk, rfl⟩⟩
theorem S.DrawPostAsk_is {code : List Int} (hb : Bytes code) : ∃ s p net log, 0 ≤ p ∧ p ≤ 300000 ∧ net.length ≤ 6 ∧ Bytes log ∧ log.length ≤ 200 ∧ (S.DrawPostAsk_t code = some (.inl (s, p, net, log)) ∨ ∃ k, k ≤ log.length ∧ S.DrawPostAsk_t code = some (.inr (s, 0, k, p, net, log))) := by
  unfold S.DrawPostAsk_t S.DrawPostAsk_tree
  obtain ⟨rb, e1, h1, h2⟩ := S.l20Open_is hb
  rw [e1]
  simp only [optC]
  have key : ∀ (net : List Int) (x y : Int), net.length ≤ 6 → 0 ≤ x → (1 ≤ (if 1 > (net.length : Int) then 1 else (net.length : Int)) → x < (if 1 > (net.length : Int) then 1 else (net.length : Int))) → 0 ≤ y → (1 ≤ (40 : Int) → y < 40) →
      0 ≤ IntKind.i64.wrap (x + IntKind.i64.wrap (IntKind.i64.wrap (y.tdiv 39) * 6)) ∧ IntKind.i64.wrap (x + IntKind.i64.wrap (IntKind.i64.wrap (y.tdiv 39) * 6)) ≤ 300000 := by
    intro net x y hn hx hx2 hy hy2
    have y3 := hy2 (by decide)
    have x3 : x < 7 := by
      have := hx2 (by split <;> omega)
      split at this <;> omega
    have hd : 0 ≤ y.tdiv 39 ∧ y.tdiv 39 ≤ 1 := by
      obtain ⟨z, rfl⟩ : ∃ z : Nat, y = (z : Int) := ⟨y.toNat, by omega⟩
      rw [show (39 : Int) = ((39 : Nat) : Int) from rfl, ← Int.ofNat_tdiv]
      omega
    rw [i64_wrap (n := y.tdiv 39) (by omega) (by omega), i64_wrap (n := y.tdiv 39 * 6) (by omega) (by omega), i64_wrap (by omega) (by omega)]
    omega
  obtain ⟨r, e2, hr⟩ := S.l20Post_is (n := 12) h1 h2 (Int.le_refl 0) (by decide)
  rw [e2]
  rcases r with ⟨s, rb', rp', net, log⟩ | ⟨s, off, k, rb', rp', net, log⟩
  · obtain ⟨rfl, p1, p2, a, b, c⟩ := hr
    simp only [sumC]
    obtain ⟨x, e3, x1, x2⟩ := S.l20Rd_pick_is (rp := rp') (n := if 1 > (net.length : Int) then 1 else (net.length : Int)) h1 h2 (by omega) (by omega)
    rw [e3]
    simp only
    obtain ⟨y, e4, y1, y2⟩ := S.l20Rd_pick_is (rp := rp' + 1) (n := 40) h1 h2 (by omega) (by omega)
    rw [e4]
    obtain ⟨k1, k2⟩ := key net x y a x1 x2 y1 y2
    exact ⟨s, _, net, log, k1, k2, a, b, c, .inl rfl⟩
  · obtain ⟨rfl, hk, rfl, p1, p2, a, b, c⟩ := hr
    simp only [sumC]
    obtain ⟨x, e3, x1, x2⟩ := S.l20Rd_pick_is (rp := rp') (n := if 1 > (net.length : Int) then 1 else (net.length : Int)) h1 h2 (by omega) (by omega)
    rw [e3]
    simp only
    obtain ⟨y, e4, y1, y2⟩ := S.l20Rd_pick_is (rp := rp' + 1) (n := 40) h1 h2 (by omega) (by omega)
    rw [e4]
    obtain ⟨k1, k2⟩ := key net x y a x1 x2 y1 y2
    exact ⟨s, _, net, log, k1, k2, a, b, c, .inr ⟨k, hk, rfl⟩⟩
theorem S.DrawPostCut_is {code : List Int} (hb : Bytes code) : ∃ s p net log, net.length ≤ 6 ∧ Bytes log ∧ log.length ≤ 200 ∧ (S.DrawPostCut_t code = some (.inl (s, p, net, log)) ∨ ∃ k, k ≤ log.length ∧ S.DrawPostCut_t code = some (.inr (s, 0, k, p, net, log))) := by
  unfold S.DrawPostCut_t S.DrawPostCut_tree
  obtain ⟨rb, e1, h1, h2⟩ := S.l20Open_is hb
  rw [e1]
  simp only [optC]
  obtain ⟨r, e2, hr⟩ := S.l20Post_is (n := 12) h1 h2 (Int.le_refl 0) (by decide)
  rw [e2]
  rcases r with ⟨s, rb', rp', net, log⟩ | ⟨s, off, k, rb', rp', net, log⟩
  · obtain ⟨rfl, p1, p2, a, b, c⟩ := hr
    simp only [sumC]
    obtain ⟨x, e3, x1, x2⟩ := S.l20Rd_pick_is (rp := rp') (n := IntKind.i64.wrap ((log.length : Int) + 4)) h1 h2 (by omega) (by omega)
    rw [e3]
    exact ⟨s, _, net, log, a, b, c, .inl rfl⟩
  · obtain ⟨rfl, hk, rfl, p1, p2, a, b, c⟩ := hr
    simp only [sumC]
    obtain ⟨x, e3, x1, x2⟩ := S.l20Rd_pick_is (rp := rp') (n := IntKind.i64.wrap ((k : Int) + 4)) h1 h2 (by omega) (by omega)
    rw [e3]
    exact ⟨s, _, net, log, a, b, c, .inr ⟨k, hk, rfl⟩⟩
end Go.Proofs.Ytgpgifpblchjjaa
/- The laws of chapter 2: WatchOk, LeastWatchOk, FewestWatch, WatchOf. Conditions: those of each theorem. -/
namespace Go.Proofs.Ytgpgifpblchjjaa
open D Go.RowKit
set_option linter.unusedVariables false
set_option linter.unusedSimpArgs false


end Go.Proofs.Ytgpgifpblchjjaa
/- The laws of chapter 2: ThinnedWatch, WatchCounts, LeastWatches. Conditions: those of each theorem. -/
namespace Go.Proofs.Ytgpgifpblchjjaa
open D Go.RowKit
set_option linter.unusedVariables false
set_option linter.unusedSimpArgs false


/-! ### Counts -/
def cw (net : List Int) (j : Nat) : Nat := cnt (2 ^ net.length) (fun s => W net s && (size s == j))
theorem L.sameInts_is {a : List Int} (ha : a.length ≤ 1000000) : L.sameInts_t a a = some true := by
  unfold L.sameInts_t L.sameInts_tree
  have := (run_for (run := L.sameInts_run4 a a) (len := a.length) (fun k (_ : Unit) => (k : Int)) (fun t k => ()) (fun t => Sum.inr ()) (fun k t => True) (by omega) (fun n k t hk ht => ?_) (fun n t ht => ?_) (t0 := ()) trivial).1
  · rw [cnd_f (by simp), show L.sameInts_run4 a a FUEL 0 = _ from this]
    rfl
  · refine ⟨?_, trivial⟩
    simp only [L.sameInts_run4, L.sameInts_step4]
    rw [cnd_t (by simp; omega), cnd_t (by simp; omega), cnd_t (by simp; omega), cnd_f (by simp), add1_nat (by omega)]
  · simp only [L.sameInts_run4, L.sameInts_step4]
    rw [cnd_f (by simp)]
/-! ### Least watches -/
end Go.Proofs.Ytgpgifpblchjjaa
/- Laws of PostOk and PostAsk. Conditions: those of each theorem. -/
namespace Go.Proofs.Ytgpgifpblchjjaa
open D Go.RowKit
set_option linter.unusedVariables false
set_option linter.unusedSimpArgs false


theorem L.samePost_is {a : List Int} {s : Int} {b : List Int} (ha : a.length ≤ 1000) : L.samePost_t a s b a s b = some true := by
  unfold L.samePost_t L.samePost_tree
  rw [L.sameInts_is (by omega)]
  simp only [optC, cond_true]
  rw [beq_self_eq_true, strEq_self]
  rfl
theorem L.samePost_d {a : List Int} {s s' : Int} {b b' : List Int} (ha : a.length ≤ 1000) (hb : Bytes b) (hb' : Bytes b') : L.samePost_t a s b a s' b' = some (decide (s = s' ∧ b = b')) := by
  unfold L.samePost_t L.samePost_tree
  rw [L.sameInts_is (by omega)]
  simp only [optC, cond_true]
  rw [strEq_bytes hb hb']
  by_cases hs : s = s'
  · rw [cnd_t (by simpa using hs)]; simp [hs]
  · rw [cnd_f (by simpa using hs)]; simp [hs]
theorem post_same {net : List Int} {s : Int} {log : List Nat} (h6 : net.length ≤ 6) : decide (((lastP net (hereN net (lp log)) : Nat) : Int) = s ∧ nl (logN 0 (hereN net (lp log))) = nl log) = postB net s log := by
  rw [Bool.eq_iff_iff, decide_eq_true_eq, postB_is]
  have h40 := (lpL_is log).2.2
  have hlen := lp_len log
  constructor
  · rintro ⟨a, b⟩
    have b := nl_inj b
    have hin := hereN_in (net := net) (q := lp log)
    have hh := hereN_len net (lp log)
    obtain ⟨f1, f2⟩ := lp_full (q := hereN net (lp log)) (by omega) (fun p hp => by have := hin p hp; omega)
    rw [b] at f1 f2
    have hl := congrArg List.length b
    rw [logN_len] at hl
    refine ⟨by omega, fun p hp => hin p (by rw [← f2]; exact hp), ?_⟩
    rw [← f2] at a
    exact a
  · rintro ⟨a, b, c⟩
    rw [hereN_all b]
    refine ⟨c, ?_⟩
    rw [lp_log, List.take_of_length_le (by omega)]
theorem here_bytes {net : List Int} {log : List Nat} (h6 : net.length ≤ 6) : Bytes (nl (logN 0 (hereN net (lp log)))) := by
  have h40 := (lpL_is log).2.2
  have hlen := lp_len log
  have hh := hereN_len net (lp log)
  have hin := hereN_in (net := net) (q := lp log)
  exact nl_bytes (logN_bytes (k := 0) (fun p hp => by have := hin p hp; omega) (by omega))
theorem PostOk_core {net log : List Int} {s : Int} (hb : Bytes log) : (optC (I.PostOk_t net s log) (fun c_3 => (optC (S.PostOk_t net s log) (fun c_4 => (bif !c_3 == c_4 then some false else (optC (I.PostRise_t net log) (fun c_5 => (bif c_5.snd.fst then (optC (L.samePost_t c_5.snd.snd.fst c_5.fst c_5.snd.snd.snd net s log) (fun c_6 => (bif c_3 == c_6 then (bif !c_3 then (optC (L.alive_t) (fun c_7 => some c_7) none) else (optC (I.EternalOk_t net s) (fun c_8 => (bif c_8 then (optC (L.alive_t) (fun c_9 => some c_9) none) else some false)) none)) else some false)) none) else (bif c_3 == false then (bif !c_3 then (optC (L.alive_t) (fun c_10 => some c_10) none) else (optC (I.EternalOk_t net s) (fun c_11 => (bif c_11 then (optC (L.alive_t) (fun c_12 => some c_12) none) else some false)) none)) else some false))) none))) none)) none) = some true := by
  obtain ⟨q, rfl, hq⟩ := nl_back hb
  rcases NetOk_cases net with ⟨h, g1, g2⟩ | ⟨_, g1, g2⟩
  · have h6 := h.hi
    rw [I.PostOk_n h g1 s hq]
    simp only [optC]
    rw [S.PostOk_n h g2 s hq]
    simp only
    rw [beq_self_eq_true, Bool.not_true, cond_false, I.PostRise_n h g1 hq]
    simp only [cond_true]
    rw [L.samePost_d (by omega) (here_bytes h6) (nl_bytes hq), post_same h6]
    simp only
    rw [beq_self_eq_true, cond_true]
    cases hB : postB net s q with
    | false => rw [Bool.not_false, cond_true, L.alive_is]
    | true =>
      obtain ⟨b1, b2, b3⟩ := postB_is.1 hB
      obtain ⟨l1, l2⟩ := lastP_lt h b2
      rw [Bool.not_true, cond_false, I.EternalOk_n h g1]
      simp only
      rw [cnd_t (by rw [← b3, Bool.and_eq_true, decide_eq_true_eq, Int.toNat_natCast]; exact ⟨⟨by omega, by exact_mod_cast l1⟩, eternalB_iff.2 l2⟩), L.alive_is]
  · rw [I.PostOk_x g1 s hq]
    simp only [optC]
    rw [S.PostOk_x g2 s hq]
    simp only
    rw [beq_self_eq_true, Bool.not_true, cond_false, I.PostRise_x g1]
    simp only [cond_false]
    rw [L.alive_is]
    rfl
theorem PostAsk_core {net log : List Int} {s p : Int} {n : Nat} (hn : log.length = n) (hb : Bytes log) (h0 : 0 ≤ p) (h1 : p ≤ 300000) : (optC (I.PostAsk_t net s log p) (fun c_3 => (optC (S.PostAsk_t net s log p) (fun c_4 => (bif !c_3.snd.fst == c_4.snd.fst then (some false) else (optC (L.samePost_t c_3.snd.snd.fst c_3.fst c_3.snd.snd.snd c_4.snd.snd.fst c_4.fst c_4.snd.snd.snd) (fun c_5 => (bif !c_5 then (some false) else (bif !c_3.snd.fst then (optC (L.alive_t) (fun c_6 => (some c_6)) none) else (optC (I.PostOk_t c_3.snd.snd.fst c_3.fst c_3.snd.snd.snd) (fun c_7 => (bif c_7 then (bif decide (p < 0) then none else (bif (c_3.fst.fdiv (2 ^ min p.toNat IntKind.i64.bits)).tmod 2 == 1 then (optC (L.sizeOf_t c_3.fst) (fun c_8 => (optC (L.sizeOf_t s) (fun c_9 => (bif c_8 == c_9 then (bif (c_3.snd.snd.snd.length : Int) == IntKind.i64.wrap ((n : Int) + 3) then (bif decide ((n : Int) ≤ (c_3.snd.snd.snd.length : Int)) then (some (strEq (bytesOf (List.take (n : Int).toNat (List.drop 0 c_3.snd.snd.snd))) (bytesOf log))) else none) else (some false)) else (some false))) none)) none) else (some false))) else (some false))) none)))) none))) none)) none) = some true := by
  obtain ⟨q, rfl, hq⟩ := nl_back hb
  rw [nl_len] at hn
  rcases NetOk_cases net with ⟨h, g1, g2⟩ | ⟨_, g1, g2⟩
  · have h6 := h.hi
    rw [I.PostAsk_n h g1 s hq p]
    simp only [optC]
    rw [S.PostAsk_n h g2 s hq p]
    simp only
    rw [beq_self_eq_true, Bool.not_true, cond_false]
    by_cases hc : postB net s q = true ∧ (0 ≤ p ∧ p < net.length) ∧ q.length ≠ 120
    rotate_left
    · have hr : askR net s q p = (0, false, [], []) := by unfold askR; rw [if_neg hc]
      rw [hr]
      simp only
      rw [L.samePost_is (by simp)]
      simp only [Bool.not_true, cond_false, Bool.not_false, cond_true]
      rw [L.alive_is]
    have hr : askR net s q p = (((lastP net (lp q ++ [p.toNat]) : Nat) : Int), true, net, nl (logN 0 (lp q ++ [p.toNat]))) := by unfold askR; rw [if_pos hc]
    obtain ⟨hB, hp, hl⟩ := hc
    obtain ⟨b1, b2, b3⟩ := postB_is.1 hB
    obtain ⟨P, rfl⟩ : ∃ P : Nat, p = P := ⟨p.toNat, by omega⟩
    have h40 := (lpL_is q).2.2
    have hlen := lp_len q
    rw [Int.toNat_natCast] at hr
    have hin : ∀ x, x ∈ lp q ++ [P] → x < net.length := fun x hx => by
      rcases List.mem_append.1 hx with hx | hx
      · exact b2 x hx
      · rw [List.mem_singleton.1 hx]; omega
    have hrl : (lp q ++ [P]).length = lpL q + 1 := by simp [lp_len]
    obtain ⟨f1, f2⟩ := lp_full (q := lp q ++ [P]) (by omega) (fun x hx => by have := hin x hx; omega)
    have hrb : ∀ x, x ∈ logN 0 (lp q ++ [P]) → x < 256 := logN_bytes (k := 0) (fun x hx => by have := hin x hx; omega) (by omega)
    have hll := logN_len (lp q ++ [P]) 0
    obtain ⟨l1, l2⟩ := lastP_lt h b2
    have hans := lastP_snoc h b2 (p := P) (by omega)
    obtain ⟨a1, a2, a3, a4⟩ := ansNext_is h l1 (p := P) (by omega) l2
    have h64 : 2 ^ net.length ≤ 2 ^ 6 := Nat.pow_le_pow_right (by decide) h6
    have hpre : (logN 0 (lp q ++ [P])).take n = q := by
      have e1 := logN_pre (List.prefix_append (lp q) [P])
      have e2 := lp_log q
      rw [List.take_of_length_le (by omega)] at e2
      rw [← hn, show q.length = 3 * (lp q).length by omega, ← e1, e2]
    have hpb : postB net ((lastP net (lp q ++ [P]) : Nat) : Int) (logN 0 (lp q ++ [P])) = true := postB_is.2 ⟨by omega, by rw [f2]; exact hin, by rw [f2]⟩
    rw [hr]
    simp only
    rw [L.samePost_is (by omega)]
    simp only [Bool.not_true, cond_false]
    rw [I.PostOk_n h g1 _ hrb]
    simp only
    rw [hpb, cond_true, cnd_f (by rw [decide_eq_false_iff_not]; omega), bit_shr _ _ (by omega), bool_eq1, hans, a4, cond_true, L.sizeOf_n (by omega)]
    simp only
    rw [← b3, L.sizeOf_n (by omega)]
    simp only
    rw [a3, beq_self_eq_true, cond_true, nl_len, i64_wrap (by omega) (by omega), cnd_t (by rw [beq_iff_eq]; omega), cnd_t (by rw [decide_eq_true_eq]; omega), Int.toNat_natCast, List.drop_zero, nl_take, hpre, strEq_self]
  · rw [I.PostAsk_x g1 s hq p]
    simp only [optC]
    rw [S.PostAsk_x g2 s hq p]
    simp only
    rw [beq_self_eq_true, Bool.not_true, cond_false, L.samePost_is (by simp)]
    simp only [Bool.not_true, cond_false, Bool.not_false, cond_true]
    rw [L.alive_is]
theorem L.FnPostOk_is {code : List Int} (hm : code.length ≤ maxLen) (hw : ∀ n ∈ code, (Lit.int .u8 n).wf = true) : L.FnPostOk_t code = some true := by
  unfold L.FnPostOk_t L.FnPostOk_tree
  by_cases hc : (code.length : Int) > 1048576
  · rw [cnd_t (by simpa using hc)]
  rw [cnd_f (by simpa using hc)]
  obtain ⟨s, net, log, a, b, e | ⟨k, hk, e⟩⟩ := S.DrawPostOk_is (Bytes.wf hw)
  · rw [e]
    exact PostOk_core (net := net) (log := log) (s := s) b
  · rw [e]
    exact PostOk_core (net := net) (log := List.take k (List.drop 0 log)) (s := s) (fun z hz => b z (List.mem_of_mem_drop (List.mem_of_mem_take hz)))
theorem L.FnPostAsk_is {code : List Int} (hm : code.length ≤ maxLen) (hw : ∀ n ∈ code, (Lit.int .u8 n).wf = true) : L.FnPostAsk_t code = some true := by
  unfold L.FnPostAsk_t L.FnPostAsk_tree
  by_cases hc : (code.length : Int) > 1048576
  · rw [cnd_t (by simpa using hc)]
  rw [cnd_f (by simpa using hc)]
  obtain ⟨s, p, net, log, p0, p1, a, b, c, e | ⟨k, hk, e⟩⟩ := S.DrawPostAsk_is (Bytes.wf hw)
  · rw [e]
    exact PostAsk_core (net := net) (log := log) (s := s) (p := p) rfl b p0 p1
  · rw [e]
    exact PostAsk_core (net := net) (log := List.take k (List.drop 0 log)) (s := s) (p := p) (n := k) (by rw [List.drop_zero, List.length_take]; omega) (fun z hz => b z (List.mem_of_mem_drop (List.mem_of_mem_take hz))) p0 p1
end Go.Proofs.Ytgpgifpblchjjaa
/- The law of PostCut. Conditions: those of each theorem. -/
namespace Go.Proofs.Ytgpgifpblchjjaa
open D Go.RowKit
set_option linter.unusedVariables false
set_option linter.unusedSimpArgs false


theorem bound_is {n : Nat} {b : Int} (hn : n ≤ 1000) : IntKind.i64.wrap ((if (n : Int) < (if 0 > b then 0 else b) then (n : Int) else (if 0 > b then 0 else b)).tdiv 3) = ((leftN n b / 3 : Nat) : Int) := by
  have e : (if (n : Int) < (if 0 > b then 0 else b) then (n : Int) else (if 0 > b then 0 else b)) = ((leftN n b : Nat) : Int) := by
    unfold leftN
    by_cases h1 : b < 0
    · rw [if_pos (show 0 > b from h1), if_pos h1, if_neg (by omega)]; rfl
    · rw [if_neg (show ¬ 0 > b from h1), if_neg h1]
      split <;> omega
  have hl := leftN_le n b
  rw [e, show (3 : Int) = ((3 : Nat) : Int) from rfl, ← Int.ofNat_tdiv, i64_wrap (by omega) (by omega)]
theorem take_snoc {q : List Nat} {k : Nat} (hk : k < q.length) : q.take k ++ [q.getD k 0] = q.take (k + 1) := by
  rw [List.take_succ_eq_append_getElem hk]
  simp [List.getD, hk]
/-- One request after the other. -/
theorem ask_next {net : List Int} (h : Ok net) (g1 : I.NetOk_t net = some true) {Q : List Nat} (hQ : ∀ p, p ∈ Q → p < net.length) (h40 : Q.length ≤ 40) {k : Nat} (hk : k < Q.length) :
    I.PostAsk_t net ((lastP net (Q.take k) : Nat) : Int) (nl (logN 0 (Q.take k))) (D.eli (nl Q) k) = some (((lastP net (Q.take (k + 1)) : Nat) : Int), true, net, nl (logN 0 (Q.take (k + 1)))) := by
  have h6 := h.hi
  have hin : ∀ p, p ∈ Q.take k → p < net.length := fun p hp => hQ p (List.mem_of_mem_take hp)
  have hlen : (Q.take k).length = k := by rw [List.length_take]; omega
  obtain ⟨f1, f2⟩ := lp_full (q := Q.take k) (by omega) (fun p hp => by have := hin p hp; omega)
  have hb : ∀ x, x ∈ logN 0 (Q.take k) → x < 256 := logN_bytes (k := 0) (fun p hp => by have := hin p hp; omega) (by omega)
  have hll := logN_len (Q.take k) 0
  have hpb : postB net ((lastP net (Q.take k) : Nat) : Int) (logN 0 (Q.take k)) = true := postB_is.2 ⟨by omega, by rw [f2]; exact hin, by rw [f2]⟩
  have hp : Q.getD k 0 < net.length := hQ _ (by
    have : Q.getD k 0 = Q[k] := by simp [List.getD, hk]
    rw [this]; exact List.getElem_mem hk)
  rw [nl_at hk, I.PostAsk_n h g1 _ hb]
  unfold askR
  rw [if_pos ⟨hpb, ⟨by omega, by omega⟩, by omega⟩, f2, Int.toNat_natCast, take_snoc hk]
theorem cut_run13 {net : List Int} (h : Ok net) (g1 : I.NetOk_t net = some true) {q : List Nat} (b1 : 3 * lpL q = q.length) (b2 : ∀ p, p ∈ lp q → p < net.length) (x4 : Int) (r0 r1 : Int) (r4 r6 r7 : List Int) :
    L.FnPostCut_run13 x4 FUEL (0, r0, r1, nl (lp q), ((firstPost net : Nat) : Int), r4, nl q, r6, r7, net, []) = some (.inr (r1, ((lastP net ((lp q).take (leftN q.length x4 / 3)) : Nat) : Int), r6, r7, net, nl (logN 0 ((lp q).take (leftN q.length x4 / 3))))) := by
  have h40 := (lpL_is q).2.2
  have hlen := lp_len q
  have hle := leftN_le q.length x4
  have hb := bound_is (n := q.length) (b := x4) (by omega)
  have := (run_for (run := L.FnPostCut_run13 x4) (len := leftN q.length x4 / 3) (fun k (_ : Unit) => (((k : Nat) : Int), r0, r1, nl (lp q), ((lastP net ((lp q).take k) : Nat) : Int), r4, nl q, r6, r7, net, nl (logN 0 ((lp q).take k)))) (fun t k => ()) (fun t => .inr (r1, ((lastP net ((lp q).take (leftN q.length x4 / 3)) : Nat) : Int), r6, r7, net, nl (logN 0 ((lp q).take (leftN q.length x4 / 3))))) (fun k t => True) (by omega) (fun n k t hk ht => ?_) (fun n t ht => ?_) (t0 := ()) trivial).1
  · exact this
  · refine ⟨?_, trivial⟩
    simp only [L.FnPostCut_run13, L.FnPostCut_step13]
    rw [nl_len, hb, nl_len, cnd_t (by rw [decide_eq_true_eq]; omega), cnd_t (by simp only [Bool.and_eq_true, decide_eq_true_eq]; omega), Int.toNat_natCast, cnd_t (by rw [decide_eq_true_eq]; omega), ask_next h g1 b2 (by omega) (by omega)]
    simp only [optC]
    rw [Bool.not_true, cond_false, i64_wrap (by omega) (by omega)]
    rfl
  · simp only [L.FnPostCut_run13, L.FnPostCut_step13]
    rw [nl_len, hb, cnd_f (by rw [decide_eq_false_iff_not]; omega)]
theorem cut_run1013 {net : List Int} (h : Ok net) (g1 : I.NetOk_t net = some true) {q : List Nat} (b1 : 3 * lpL q = q.length) (b2 : ∀ p, p ∈ lp q → p < net.length) (x4 : Int) (r0 r1 : Int) (off : Nat) (r4 r5 r6 r7 : List Int) :
    L.FnPostCut_run1013 x4 FUEL (0, r0, off, q.length, r1, nl (lp q), ((firstPost net : Nat) : Int), r4, r5, r6, r7, net, []) = some (.inr (r1, ((lastP net ((lp q).take (leftN q.length x4 / 3)) : Nat) : Int), r6, r7, net, nl (logN 0 ((lp q).take (leftN q.length x4 / 3))))) := by
  have h40 := (lpL_is q).2.2
  have hlen := lp_len q
  have hle := leftN_le q.length x4
  have hb := bound_is (n := q.length) (b := x4) (by omega)
  have := (run_for (run := L.FnPostCut_run1013 x4) (len := leftN q.length x4 / 3) (fun k (_ : Unit) => (((k : Nat) : Int), r0, off, q.length, r1, nl (lp q), ((lastP net ((lp q).take k) : Nat) : Int), r4, r5, r6, r7, net, nl (logN 0 ((lp q).take k)))) (fun t k => ()) (fun t => .inr (r1, ((lastP net ((lp q).take (leftN q.length x4 / 3)) : Nat) : Int), r6, r7, net, nl (logN 0 ((lp q).take (leftN q.length x4 / 3))))) (fun k t => True) (by omega) (fun n k t hk ht => ?_) (fun n t ht => ?_) (t0 := ()) trivial).1
  · exact this
  · refine ⟨?_, trivial⟩
    simp only [L.FnPostCut_run1013, L.FnPostCut_step1013]
    rw [hb, nl_len, cnd_t (by rw [decide_eq_true_eq]; omega), cnd_t (by simp only [Bool.and_eq_true, decide_eq_true_eq]; omega), Int.toNat_natCast, cnd_t (by rw [decide_eq_true_eq]; omega), ask_next h g1 b2 (by omega) (by omega)]
    simp only [optC]
    rw [Bool.not_true, cond_false, i64_wrap (by omega) (by omega)]
    rfl
  · simp only [L.FnPostCut_run1013, L.FnPostCut_step1013]
    rw [hb, cnd_f (by rw [decide_eq_false_iff_not]; omega)]
theorem PostCut_core {net : List Int} {q : List Nat} (hq : ∀ x, x ∈ q → x < 256) {s b : Int} {RUN : Int → List Int → Int → List Int → List Int → List Int → List Int → Option ((Bool × Int × Int × List Int × List Int × List Int × List Int) ⊕ (Int × Int × List Int × List Int × List Int × List Int))}
    (hR : Ok net → I.NetOk_t net = some true → 3 * lpL q = q.length → (∀ p, p ∈ lp q → p < net.length) → ∀ r1 r6 r7, RUN r1 (nl (lp q)) ((firstPost net : Nat) : Int) r6 r7 net [] = some (.inr (r1, ((lastP net ((lp q).take (leftN q.length b / 3)) : Nat) : Int), r6, r7, net, nl (logN 0 ((lp q).take (leftN q.length b / 3)))))) :
    (optC (I.PostCut_t net s (nl q) b) (fun c_3 => (optC (S.PostCut_t net s (nl q) b) (fun c_4 => (bif !c_3.snd.fst == c_4.snd.fst then (some false) else (optC (L.samePost_t c_3.snd.snd.fst c_3.fst c_3.snd.snd.snd c_4.snd.snd.fst c_4.fst c_4.snd.snd.snd) (fun c_5 => (bif !c_5 then (some false) else (bif !c_3.snd.fst then (optC (I.PostOk_t net s (nl q)) (fun c_6 => (bif !c_6 then (optC (L.alive_t) (fun c_7 => (some c_7)) none) else (some false))) none) else (optC (S.LogPlaces_t (nl q)) (fun c_8 => (optC (I.PostNew_t net) (fun c_9 => (optC (RUN c_3.fst c_8.snd c_9.fst c_3.snd.snd.fst c_3.snd.snd.snd c_9.snd.snd.fst c_9.snd.snd.snd) (fun qy_11 => (sumC qy_11 (fun (qy_11 : Bool × Int × Int × (List Int) × (List Int) × (List Int) × (List Int)) => (some qy_11.1)) (fun (qy_11 : Int × Int × (List Int) × (List Int) × (List Int) × (List Int)) => (optC (L.samePost_t qy_11.2.2.2.2.1 qy_11.2.1 qy_11.2.2.2.2.2 qy_11.2.2.1 qy_11.1 qy_11.2.2.2.1) (fun c_12 => (some c_12)) none)))) none)) none)) none)))) none))) none)) none) = some true := by
  rcases NetOk_cases net with ⟨h, g1, g2⟩ | ⟨_, g1, g2⟩
  · have h6 := h.hi
    rw [I.PostCut_n h g1 s hq b]
    simp only [optC]
    rw [S.PostCut_n h g2 s hq b]
    simp only
    rw [beq_self_eq_true, Bool.not_true, cond_false]
    by_cases hc : postB net s q = true
    · have hr : cutQ net s q b = riseR net (q.take (leftN q.length b)) := by unfold cutQ; rw [if_pos hc]
      obtain ⟨b1, b2, b3⟩ := postB_is.1 hc
      have h40 := (lpL_is q).2.2
      have hlen := lp_len q
      have hle := leftN_le q.length b
      have hqq : logN 0 (lp q) = q := by
        have e2 := lp_log q
        rw [List.take_of_length_le (by omega)] at e2
        exact e2
      have hcut := (lp_cut (q := lp q) (by omega) (fun p hp => lp_lt hp) (n := leftN q.length b) (by omega)).2
      rw [hqq] at hcut
      have hh : hereN net (lp (q.take (leftN q.length b))) = (lp q).take (leftN q.length b / 3) := by
        rw [hcut]
        exact hereN_all (fun p hp => b2 p (List.mem_of_mem_take hp))
      rw [hr]
      unfold riseR
      simp only
      rw [L.samePost_is (by omega)]
      simp only [Bool.not_true, cond_false]
      rw [S.LogPlaces_n hq]
      simp only
      rw [I.PostNew_n h g1]
      simp only
      rw [hR h g1 b1 b2]
      simp only [sumC]
      rw [hh, L.samePost_is (by omega)]
    · have hr : cutQ net s q b = (0, false, [], []) := by unfold cutQ; rw [if_neg hc]
      rw [hr]
      simp only
      rw [L.samePost_is (by simp)]
      simp only [Bool.not_true, cond_false, Bool.not_false, cond_true]
      rw [I.PostOk_n h g1 s hq, show postB net s q = false by simpa using hc]
      simp only [Bool.not_false, cond_true]
      rw [L.alive_is]
  · rw [I.PostCut_x g1 s hq b]
    simp only [optC]
    rw [S.PostCut_x g2 s hq b]
    simp only
    rw [beq_self_eq_true, Bool.not_true, cond_false, L.samePost_is (by simp)]
    simp only [Bool.not_true, cond_false, Bool.not_false, cond_true]
    rw [I.PostOk_x g1 s hq]
    simp only [Bool.not_false, cond_true]
    rw [L.alive_is]
theorem L.FnPostCut_is {code : List Int} (hm : code.length ≤ maxLen) (hw : ∀ n ∈ code, (Lit.int .u8 n).wf = true) : L.FnPostCut_t code = some true := by
  unfold L.FnPostCut_t L.FnPostCut_tree
  by_cases hc : (code.length : Int) > 1048576
  · rw [cnd_t (by simpa using hc)]
  rw [cnd_f (by simpa using hc)]
  obtain ⟨s, p, net, log, a, b, c, e | ⟨k, hk, e⟩⟩ := S.DrawPostCut_is (Bytes.wf hw)
  · rw [e]
    obtain ⟨q, rfl, hq⟩ := nl_back b
    exact PostCut_core (net := net) (q := q) hq (s := s) (b := p) (RUN := fun r1 r2 r3 r6 r7 r8 r9 => L.FnPostCut_run13 p FUEL (0, s, r1, r2, r3, net, nl q, r6, r7, r8, r9)) (fun h g1 b1 b2 r1 r6 r7 => cut_run13 h g1 b1 b2 p s r1 net r6 r7)
  · rw [e]
    have hl : (List.take k (List.drop 0 log)).length = k := by rw [List.drop_zero, List.length_take]; omega
    obtain ⟨q, e2, hq⟩ := nl_back (l := List.take k (List.drop 0 log)) (fun z hz => b z (List.mem_of_mem_drop (List.mem_of_mem_take hz)))
    have hql : q.length = k := by rw [e2, nl_len] at hl; exact hl
    have hx := PostCut_core (net := net) (q := q) hq (s := s) (b := p) (RUN := fun r1 r2 r3 r6 r7 r8 r9 => L.FnPostCut_run1013 p FUEL (0, s, 0, k, r1, r2, r3, net, log, r6, r7, r8, r9)) (fun h g1 b1 b2 r1 r6 r7 => by
      have := cut_run1013 h g1 b1 b2 p s r1 0 net log r6 r7
      rw [hql] at this ⊢
      exact this)
    rw [← e2] at hx
    exact hx
end Go.Proofs.Ytgpgifpblchjjaa
