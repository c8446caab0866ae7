/- Several texts in one: J17b, L2, L3, L17b. Conditions: those of each theorem. -/
import Derived.Test.YtcckjofnglbbeaaBzb0
/- Posts, of the program (at ae9a42a) and of the model. Conditions: those of each theorem. -/
namespace Go.Proofs.Ytcckjofnglbbeaa
open D Go.RowKit
set_option linter.unusedVariables false
set_option linter.unusedSimpArgs false


/-- Where guards stand behind requests at places of the net. -/
noncomputable def lastP (net : List Int) (q : List Nat) : Nat := match loopE q.length (ansStep net (nl q)) (firstPost net, [((firstPost net : Nat) : Int)]) with | .inl _ => 0 | .inr t => t.1
theorem ans_all {net : List Int} (h : Ok net) {s : Nat} (hs : s < 2 ^ net.length) (he : Eternal net s) {q : List Nat} (hq : ∀ p, p ∈ q → p < net.length) : ∀ k, k ≤ q.length → ∃ t, loopE k (ansStep net (nl q)) (s, [(s : Int)]) = .inr t := by
  intro k
  induction k with
  | zero => intro _; exact ⟨_, rfl⟩
  | succ k ih =>
    intro hk
    obtain ⟨t, ht⟩ := ih (by omega)
    rw [loopE_succ ht]
    have hp : q.getD k 0 < net.length := hq _ (by
      have : q.getD k 0 = q[k]'(by omega) := by simp [List.getD, show k < q.length by omega]
      rw [this]; exact List.getElem_mem _)
    unfold ansStep
    rw [if_pos (by rw [nl_at (by omega)]; omega)]
    exact ⟨_, rfl⟩
theorem ans_bad {net : List Int} {s : Nat} {q : List Nat} (hq : ¬ ∀ p, p ∈ q → p < net.length) : answered net s (nl q) = [] := by
  obtain ⟨k, hk, hb⟩ : ∃ k, k < q.length ∧ ¬ q.getD k 0 < net.length := by
    refine Classical.byContradiction fun hno => hq fun p hp => ?_
    obtain ⟨k, hk, e⟩ := List.mem_iff_getElem.1 hp
    refine Classical.byContradiction fun hb => hno ⟨k, hk, ?_⟩
    simpa [List.getD, hk, e] using hb
  unfold answered
  rw [nl_len]
  have key : ∀ m, k + 1 + m ≤ q.length → ∃ d, loopE (k + 1 + m) (ansStep net (nl q)) (s, [(s : Int)]) = .inl d := by
    intro m
    induction m with
    | zero =>
      intro _
      cases hl : loopE k (ansStep net (nl q)) (s, [(s : Int)]) with
      | inl d => exact ⟨d, by show loopE (k + 1) _ _ = _; unfold loopE at hl ⊢; rw [fold_succ, hl]⟩
      | inr t =>
        refine ⟨t.2, ?_⟩
        rw [show k + 1 + 0 = k + 1 from rfl, loopE_succ hl]
        unfold ansStep
        rw [if_neg (by rw [nl_at hk]; omega)]
    | succ m ih =>
      intro hm
      obtain ⟨d, hd⟩ := ih (by omega)
      exact ⟨d, by show loopE (k + 1 + m + 1) _ _ = _; unfold loopE at hd ⊢; rw [fold_succ, hd]⟩
  obtain ⟨d, hd⟩ := key (q.length - (k + 1)) (by omega)
  rw [show k + 1 + (q.length - (k + 1)) = q.length by omega] at hd
  rw [hd]
theorem ans_last {net : List Int} (h : Ok net) {q : List Nat} (hq : ∀ p, p ∈ q → p < net.length) : ∃ l : List Int, answeredI net ((firstPost net : Nat) : Int) (nl q) = l ∧ l.length = q.length + 1 ∧ D.eli l q.length = ((lastP net q : Nat) : Int) := by
  have hP : IsPost net (firstPost net) := fp_loop h
  obtain ⟨t, ht⟩ := ans_all h hP.lt (eternalB_iff.1 hP.et) hq q.length (Nat.le_refl _)
  have hi := ans_inv h (nl q) hP.lt (eternalB_iff.1 hP.et) q.length t ht
  obtain ⟨_, i2, _, i4, _⟩ := hi
  refine ⟨t.2, ?_, i2, ?_⟩
  · unfold answeredI
    rw [if_pos ⟨dec_true (set_in hP.lt), by rw [Int.toNat_natCast]; exact hP.et⟩, Int.toNat_natCast]
    unfold answered
    rw [nl_len, ht]
  · obtain ⟨u, u1, _, _, _, u5⟩ := i4 q.length (Nat.le_refl _)
    rw [u1, u5 rfl]
    unfold lastP
    rw [ht]
theorem I.postBehind_n {net : List Int} (h : Ok net) (e : I.NetOk_t net = some true) {q : List Nat} (hl : q.length ≤ 40) (hq : ∀ p, p ∈ q → p < net.length) : I.postBehind_t net (nl q) = some (((lastP net q : Nat) : Int), net, nl (logN 0 q)) := by
  unfold I.postBehind_t I.postBehind_tree
  have h6 := h.hi
  obtain ⟨l, l1, l2, l3⟩ := ans_last h hq
  rw [I.firstPostIn_n h]
  simp only [optC]
  rw [I.AnsweredAll_n h e _ (by rw [nl_len]; omega), l1]
  simp only
  rw [List.nil_append, cnd_t (small_of (by omega)), l2, i64_wrap (n := ((q.length + 1 : Nat) : Int) - 1) (by omega) (by omega), show ((q.length + 1 : Nat) : Int) - 1 = (q.length : Int) by omega, cnd_t (by simp only [Bool.and_eq_true, decide_eq_true_eq]; omega), Int.toNat_natCast, cnd_t (by rw [decide_eq_true_eq]; omega), I.LogOf_n, logI_nl hl (fun p hp => by have := hq p hp; omega), l3]
theorem S.l17Last_n {net : List Int} (h : Ok net) (e : S.NetOk_t net = some true) {q : List Nat} (hl : q.length ≤ 40) (hq : ∀ p, p ∈ q → p < net.length) : S.l17Last_t net (nl q) = some ((lastP net q : Nat) : Int) := by
  unfold S.l17Last_t S.l17Last_tree
  obtain ⟨l, l1, l2, l3⟩ := ans_last h hq
  rw [S.FirstPost_y h e]
  simp only [optC]
  rw [S.AnsweredAll_n h e _ (by rw [nl_len]; omega), l1]
  simp only
  rw [cnd_f (by rw [beq_eq_false_iff_ne]; omega), l2, i64_wrap (n := ((q.length + 1 : Nat) : Int) - 1) (by omega) (by omega), show ((q.length + 1 : Nat) : Int) - 1 = (q.length : Int) by omega, cnd_t (by simp only [Bool.and_eq_true, decide_eq_true_eq]; omega), Int.toNat_natCast, cnd_t (by rw [decide_eq_true_eq]; omega), l3]
theorem S.l17Last_bad {net : List Int} (h : Ok net) (e : S.NetOk_t net = some true) {q : List Nat} (hl : q.length ≤ 40) (hq : ¬ ∀ p, p ∈ q → p < net.length) : S.l17Last_t net (nl q) = some (-1) := by
  unfold S.l17Last_t S.l17Last_tree
  have hP : IsPost net (firstPost net) := fp_loop h
  rw [S.FirstPost_y h e]
  simp only [optC]
  rw [S.AnsweredAll_n h e _ (by rw [nl_len]; omega)]
  simp only
  have : answeredI net ((firstPost net : Nat) : Int) (nl q) = [] := by
    unfold answeredI
    rw [if_pos ⟨dec_true (set_in hP.lt), by rw [Int.toNat_natCast]; exact hP.et⟩, Int.toNat_natCast]
    exact ans_bad hq
  rw [this]; rfl
/-- The places ahead of the first one that the net has not. -/
def hereN (net : List Int) (q : List Nat) : List Nat := q.takeWhile fun p => decide (p < net.length)
theorem hereN_in {net : List Int} {q : List Nat} : ∀ p, p ∈ hereN net q → p < net.length := by
  induction q with
  | nil => intro p hp; simp [hereN] at hp
  | cons a r ih =>
    intro p hp
    unfold hereN at hp ih
    rw [List.takeWhile_cons] at hp
    by_cases ha : a < net.length
    · rw [if_pos (by simpa using ha)] at hp
      rcases List.mem_cons.1 hp with rfl | hp
      · exact ha
      · exact ih p hp
    · rw [if_neg (by simpa using ha)] at hp; simp at hp
theorem hereN_len (net : List Int) (q : List Nat) : (hereN net q).length ≤ q.length := by unfold hereN; exact (List.takeWhile_prefix _).length_le
theorem hereN_all {net : List Int} {q : List Nat} (hq : ∀ p, p ∈ q → p < net.length) : hereN net q = q := by
  unfold hereN
  induction q with
  | nil => rfl
  | cons a r ih =>
    rw [List.takeWhile_cons, if_pos (by simpa using hq a (by simp)), ih (fun p hp => hq p (by simp [hp]))]
theorem hereN_full {net : List Int} {q : List Nat} (hl : (hereN net q).length = q.length) : ∀ p, p ∈ q → p < net.length := by
  have hpre : hereN net q <+: q := List.takeWhile_prefix _
  have e : hereN net q = q := hpre.eq_of_length hl
  intro p hp
  rw [← e] at hp
  exact hereN_in p hp
theorem I.placesHere_n {net : List Int} (h : Ok net) {q : List Nat} (hl : q.length ≤ 40) : I.placesHere_t net (nl q) = some (nl (hereN net q)) := by
  unfold I.placesHere_t I.placesHere_tree
  have hF := FUEL_le
  have h6 := h.hi
  have key : ∀ (r : List Nat) (p : List Nat) (N : Nat), p ++ r = q → r.length < N → I.placesHere_run3 net (nl q) N ((p.length : Int), nl p) = some (nl (p ++ hereN net r)) := by
    intro r
    induction r with
    | nil =>
      intro p N hp hN
      obtain ⟨N, rfl⟩ : ∃ m, N = m + 1 := ⟨N - 1, by simp at hN; omega⟩
      have hpl : p.length = q.length := by rw [← hp]; simp
      simp only [I.placesHere_run3, I.placesHere_step3]
      rw [cnd_f (by rw [decide_eq_false_iff_not, nl_len]; omega)]
      simp [hereN]
    | cons a r ih =>
      intro p N hp hN
      obtain ⟨N, rfl⟩ : ∃ m, N = m + 1 := ⟨N - 1, by simp at hN; omega⟩
      have hpl : p.length < q.length := by rw [← hp]; simp
      have hat : q.getD p.length 0 = a := by rw [← hp]; simp [List.getD]
      simp only [I.placesHere_run3, I.placesHere_step3]
      rw [cnd_t (by rw [decide_eq_true_eq, nl_len]; omega), cnd_t (by simp only [Bool.and_eq_true, decide_eq_true_eq, nl_len]; omega), Int.toNat_natCast, nl_at hpl, hat, I.placeIn_n]
      simp only [optC]
      unfold hereN
      rw [List.takeWhile_cons]
      by_cases ha : a < net.length
      · rw [show decide (0 ≤ (a : Int) ∧ (a : Int) < net.length) = true from decide_eq_true ⟨by omega, by omega⟩, cond_true, cnd_t (by simp only [Bool.and_eq_true, decide_eq_true_eq, nl_len]; omega), cnd_t (small_of (by rw [List.length_append, nl_len]; simp; omega)), add1_nat (by omega), if_pos (by simpa using ha), ← nl_append]
        have := ih (p ++ [a]) N (by rw [← hp]; simp) (by simp at hN; omega)
        rw [show (p ++ [a]).length = p.length + 1 by simp] at this
        rw [this]
        unfold hereN
        simp
      · rw [show decide (0 ≤ (a : Int) ∧ (a : Int) < net.length) = false from decide_eq_false fun hc => ha (by omega), cond_false, if_neg (by simpa using ha)]
        simp
  rw [show I.placesHere_run3 net (nl q) FUEL (0, []) = _ from key q [] FUEL rfl (by omega)]
  simp [optC]
noncomputable def postB (net : List Int) (s : Int) (log : List Nat) : Bool := decide (3 * lpL log = log.length ∧ (∀ p, p ∈ lp log → p < net.length) ∧ ((lastP net (lp log) : Nat) : Int) = s)
theorem I.PostOk_n {net : List Int} (h : Ok net) (e : I.NetOk_t net = some true) (s : Int) {log : List Nat} (hb : ∀ x, x ∈ log → x < 256) : I.PostOk_t net s (nl log) = some (postB net s log) := by
  unfold I.PostOk_t I.PostOk_tree
  have h40 := (lpL_is log).2.2
  have hlen := lp_len log
  rw [I.LogPlaces_n hb]
  simp only [optC]
  rw [e]
  simp only [Bool.not_true, cond_false]
  rw [nl_len]
  unfold postB
  by_cases h3 : 3 * lpL log = log.length
  rotate_left
  · rw [cnd_t (by rw [Bool.not_eq_true', beq_eq_false_iff_ne]; omega), decide_eq_false (fun hc => h3 hc.1)]
  rw [cnd_f (by rw [Bool.not_eq_false', beq_iff_eq]; omega), I.placesHere_n h (by omega)]
  simp only
  rw [nl_len, nl_len]
  by_cases ha : ∀ p, p ∈ lp log → p < net.length
  · rw [hereN_all ha, cnd_f (by simp), I.postBehind_n h e (by omega) ha]
    simp only
    congr 1
    rw [Bool.eq_iff_iff, beq_iff_eq, decide_eq_true_eq]
    exact ⟨fun hs => ⟨h3, ha, hs⟩, fun hs => hs.2.2⟩
  · rw [cnd_t (by rw [Bool.not_eq_true', beq_eq_false_iff_ne]; exact fun hc => ha (hereN_full (by omega))), decide_eq_false (fun hc => ha hc.2.1)]
theorem S.PostOk_n {net : List Int} (h : Ok net) (e : S.NetOk_t net = some true) (s : Int) {log : List Nat} (hb : ∀ x, x ∈ log → x < 256) : S.PostOk_t net s (nl log) = some (postB net s log) := by
  unfold S.PostOk_t S.PostOk_tree
  have h40 := (lpL_is log).2.2
  have hlen := lp_len log
  rw [S.LogPlaces_n hb]
  simp only [optC]
  rw [e]
  simp only [cond_true]
  rw [nl_len]
  unfold postB
  by_cases h3 : 3 * lpL log = log.length
  rotate_left
  · rw [cnd_f (by rw [beq_eq_false_iff_ne]; omega), decide_eq_false (fun hc => h3 hc.1)]
  rw [cnd_t (by rw [beq_iff_eq]; omega)]
  by_cases hs : s ≥ 0
  rotate_left
  · rw [cnd_f (by rw [decide_eq_false_iff_not]; omega), decide_eq_false (fun hc => by have := hc.2.2; omega)]
  rw [cnd_t (by rw [decide_eq_true_eq]; omega)]
  by_cases ha : ∀ p, p ∈ lp log → p < net.length
  · rw [S.l17Last_n h e (by omega) ha]
    simp only
    congr 1
    rw [Bool.eq_iff_iff, beq_iff_eq, decide_eq_true_eq]
    exact ⟨fun hs => ⟨h3, ha, hs⟩, fun hs => hs.2.2⟩
  · rw [S.l17Last_bad h e (by omega) ha]
    simp only
    congr 1
    rw [decide_eq_false (fun hc => ha hc.2.1), beq_eq_false_iff_ne]
    omega
theorem I.PostRise_x {net : List Int} (e : I.NetOk_t net = some false) (log : List Int) : I.PostRise_t net log = some (.inl (0, false)) := by
  unfold I.PostRise_t I.PostRise_tree; rw [e]; rfl
theorem I.PostRise_n {net : List Int} (h : Ok net) (e : I.NetOk_t net = some true) {log : List Nat} (hb : ∀ x, x ∈ log → x < 256) : I.PostRise_t net (nl log) = some (.inr (((lastP net (hereN net (lp log)) : Nat) : Int), true, net, nl (logN 0 (hereN net (lp log))))) := by
  unfold I.PostRise_t I.PostRise_tree
  have h40 := (lpL_is log).2.2
  have hlen := lp_len log
  have hh := hereN_len net (lp log)
  rw [e]
  simp only [optC, Bool.not_true, cond_false]
  rw [I.LogPlaces_n hb]
  simp only
  rw [I.placesHere_n h (by omega)]
  simp only
  rw [I.postBehind_n h e (by omega) hereN_in]
theorem lp_nil : lp [] = [] := by
  have := lpL_bytes []
  have h0 : lpL [] = 0 := by simp at this; exact this
  unfold lp; rw [h0]; rfl
theorem I.PostNew_x {net : List Int} (e : I.NetOk_t net = some false) : I.PostNew_t net = some (.inl (0, false)) := by
  unfold I.PostNew_t I.PostNew_tree; rw [I.PostRise_x e]; rfl
theorem S.PostNew_x {net : List Int} (e : S.NetOk_t net = some false) : S.PostNew_t net = some (.inl (0, false)) := by
  unfold S.PostNew_t S.PostNew_tree; rw [e]; rfl
theorem I.PostRise_nil {net : List Int} (h : Ok net) (e : I.NetOk_t net = some true) : I.PostRise_t net [] = some (.inr (((firstPost net : Nat) : Int), true, net, [])) := by
  have := I.PostRise_n h e (log := []) (fun x hx => by simp at hx)
  rw [lp_nil] at this
  exact this
theorem I.PostNew_n {net : List Int} (h : Ok net) (e : I.NetOk_t net = some true) : I.PostNew_t net = some (.inr (((firstPost net : Nat) : Int), true, net, [])) := by
  unfold I.PostNew_t I.PostNew_tree
  rw [I.PostRise_nil h e]; rfl
theorem S.PostNew_n {net : List Int} (h : Ok net) (e : S.NetOk_t net = some true) : S.PostNew_t net = some (.inr (((firstPost net : Nat) : Int), true, net, [])) := by
  unfold S.PostNew_t S.PostNew_tree
  have h6 := h.hi
  rw [e]
  simp only [optC, Bool.not_true, cond_false]
  rw [cnd_t (small_of (by simp; omega)), S.FirstPost_y h e]
  simp only [List.nil_append]
end Go.Proofs.Ytcckjofnglbbeaa
/- The laws of chapter 2: WatchOk, LeastWatchOk, FewestWatch, WatchOf. Conditions: those of each theorem. -/
namespace Go.Proofs.Ytcckjofnglbbeaa
open D Go.RowKit
set_option linter.unusedVariables false
set_option linter.unusedSimpArgs false


end Go.Proofs.Ytcckjofnglbbeaa
/- The laws of chapter 2: ThinnedWatch, WatchCounts, LeastWatches. Conditions: those of each theorem. -/
namespace Go.Proofs.Ytcckjofnglbbeaa
open D Go.RowKit
set_option linter.unusedVariables false
set_option linter.unusedSimpArgs false


/-! ### Counts -/
def cw (net : List Int) (j : Nat) : Nat := cnt (2 ^ net.length) (fun s => W net s && (size s == j))
theorem L.sameInts_is {a : List Int} (ha : a.length ≤ 1000000) : L.sameInts_t a a = some true := by
  unfold L.sameInts_t L.sameInts_tree
  have := (run_for (run := L.sameInts_run4 a a) (len := a.length) (fun k (_ : Unit) => (k : Int)) (fun t k => ()) (fun t => Sum.inr ()) (fun k t => True) (by omega) (fun n k t hk ht => ?_) (fun n t ht => ?_) (t0 := ()) trivial).1
  · rw [cnd_f (by simp), show L.sameInts_run4 a a FUEL 0 = _ from this]
    rfl
  · refine ⟨?_, trivial⟩
    simp only [L.sameInts_run4, L.sameInts_step4]
    rw [cnd_t (by simp; omega), cnd_t (by simp; omega), cnd_t (by simp; omega), cnd_f (by simp), add1_nat (by omega)]
  · simp only [L.sameInts_run4, L.sameInts_step4]
    rw [cnd_f (by simp)]
/-! ### Least watches -/
end Go.Proofs.Ytcckjofnglbbeaa
/- Law of PostNew. Conditions: those of each theorem. -/
namespace Go.Proofs.Ytcckjofnglbbeaa
open D Go.RowKit
set_option linter.unusedVariables false
set_option linter.unusedSimpArgs false


theorem S.DrawPostNew_is {code : List Int} (hb : Bytes code) : ∃ net, S.DrawPostNew_t code = some net ∧ net.length ≤ 6 := by
  unfold S.DrawPostNew_t S.DrawPostNew_tree
  obtain ⟨rb, e1, h1, h2⟩ := S.l20Open_is hb
  rw [e1]
  simp only [optC]
  obtain ⟨rp', net, e2, _, _, h3⟩ := S.l20Net_is (n := 9) h1 h2 (Int.le_refl 0) (by decide)
  rw [e2]
  exact ⟨_, rfl, h3⟩
theorem L.samePost_is {a : List Int} {s : Int} {b : List Int} (ha : a.length ≤ 1000) : L.samePost_t a s b a s b = some true := by
  unfold L.samePost_t L.samePost_tree
  rw [L.sameInts_is (by omega)]
  simp only [optC, cond_true]
  rw [beq_self_eq_true, strEq_self]
  rfl
theorem L.FnPostNew_is {code : List Int} (hm : code.length ≤ maxLen) (hw : ∀ n ∈ code, (Lit.int .u8 n).wf = true) : L.FnPostNew_t code = some true := by
  unfold L.FnPostNew_t L.FnPostNew_tree
  by_cases hc : (code.length : Int) > 1048576
  · rw [cnd_t (by simpa using hc)]
  rw [cnd_f (by simpa using hc)]
  obtain ⟨net, e1, h1⟩ := S.DrawPostNew_is (Bytes.wf hw)
  rw [e1]
  simp only [optC]
  rcases NetOk_cases net with ⟨h, g1, g2⟩ | ⟨_, g1, g2⟩
  · have h6 := h.hi
    rw [I.PostNew_n h g1]
    simp only [sumC]
    rw [S.PostNew_n h g2]
    simp only
    rw [beq_self_eq_true, Bool.not_true, cond_false, L.samePost_is (by omega)]
    simp only [Bool.not_true, cond_false]
    rw [I.PostRise_nil h g1]
    simp only [cond_true]
    rw [L.samePost_is (by omega)]
    simp only [cond_true]
    have hok : I.PostOk_t net ((firstPost net : Nat) : Int) [] = some true := by
      have := I.PostOk_n h g1 ((firstPost net : Nat) : Int) (log := []) (fun x hx => by simp at hx)
      rw [show (nl [] : List Int) = [] from rfl] at this
      rw [this]
      unfold postB
      have h0 : lpL [] = 0 := by have := lpL_bytes []; simp at this; exact this
      rw [decide_eq_true]
      refine ⟨by rw [h0]; rfl, by rw [lp_nil]; intro p hp; simp at hp, ?_⟩
      rw [lp_nil]; rfl
    rw [hok]
    simp only [cond_true]
    rw [I.FirstPost_y h g1]
    simp only
    rw [beq_self_eq_true]
  · rw [I.PostNew_x g1]
    simp only [sumC]
    rw [S.PostNew_x g2]
    simp only
    rw [beq_self_eq_true, Bool.not_true, cond_false, L.samePost_is (by simp)]
    simp only [Bool.not_true, cond_false]
    rw [g1, L.alive_is]
    rfl
end Go.Proofs.Ytcckjofnglbbeaa
