/- Several texts in one: L3, L4, L17. Conditions: those of each theorem. -/
import Derived.Test.YtbacbipopdokgaaBzb0
/- The laws of chapter 2: ThinnedWatch, WatchCounts, LeastWatches. Conditions: those of each theorem. -/
namespace Go.Proofs.Ytbacbipopdokgaa
open D Go.RowKit
set_option linter.unusedVariables false
set_option linter.unusedSimpArgs false


/-! ### Counts -/
def cw (net : List Int) (j : Nat) : Nat := cnt (2 ^ net.length) (fun s => W net s && (size s == j))
theorem L.sameInts_is {a : List Int} (ha : a.length ≤ 1000000) : L.sameInts_t a a = some true := by
  unfold L.sameInts_t L.sameInts_tree
  have := (run_for (run := L.sameInts_run4 a a) (len := a.length) (fun k (_ : Unit) => (k : Int)) (fun t k => ()) (fun t => Sum.inr ()) (fun k t => True) (by omega) (fun n k t hk ht => ?_) (fun n t ht => ?_) (t0 := ()) trivial).1
  · rw [cnd_f (by simp), show L.sameInts_run4 a a FUEL 0 = _ from this]
    rfl
  · refine ⟨?_, trivial⟩
    simp only [L.sameInts_run4, L.sameInts_step4]
    rw [cnd_t (by simp; omega), cnd_t (by simp; omega), cnd_t (by simp; omega), cnd_f (by simp), add1_nat (by omega)]
  · simp only [L.sameInts_run4, L.sameInts_step4]
    rw [cnd_f (by simp)]
/-! ### Least watches -/
end Go.Proofs.Ytbacbipopdokgaa
/- Laws of chapter 3, and of chapter 4 over sets. Conditions: those of each theorem. -/
namespace Go.Proofs.Ytbacbipopdokgaa
open D Go.RowKit
set_option linter.unusedVariables false
set_option linter.unusedSimpArgs false


end Go.Proofs.Ytbacbipopdokgaa
/- Laws of chapter 17. Conditions: those of each theorem. -/
namespace Go.Proofs.Ytbacbipopdokgaa
open D Go.RowKit
set_option linter.unusedVariables false
set_option linter.unusedSimpArgs false


theorem S.DrawFirstPost_is {code : List Int} (hb : Bytes code) : ∃ net, S.DrawFirstPost_t code = some net ∧ net.length ≤ 6 := by
  unfold S.DrawFirstPost_t S.DrawFirstPost_tree
  obtain ⟨rb, e1, h1, h2⟩ := S.l20Open_is hb
  rw [e1]
  simp only [optC]
  obtain ⟨rp', net, e2, _, _, h3⟩ := S.l20Net_is (n := 9) h1 h2 (Int.le_refl 0) (by decide)
  rw [e2]
  exact ⟨_, rfl, h3⟩
theorem S.DrawLogOf_is {code : List Int} (hb : Bytes code) : ∃ l, S.DrawLogOf_t code = some l := by
  unfold S.DrawLogOf_t S.DrawLogOf_tree
  obtain ⟨rb, e1, h1, h2⟩ := S.l20Open_is hb
  rw [e1]
  simp only [optC]
  obtain ⟨x, e2, x1, x2⟩ := S.l20Rd_pick_is (rp := 0) (n := 15) h1 h2 (by omega) (by omega)
  have x3 := x2 (by decide)
  rw [e2]
  simp only
  have hd : 0 ≤ x.tdiv 14 ∧ x.tdiv 14 ≤ 1 := by
    obtain ⟨y, rfl⟩ : ∃ y : Nat, x = (y : Int) := ⟨x.toNat, by omega⟩
    rw [show (14 : Int) = ((14 : Nat) : Int) from rfl, ← Int.ofNat_tdiv]
    omega
  rw [i64_wrap (n := x.tdiv 14) (by omega) (by omega), i64_wrap (n := x.tdiv 14 * 40) (by omega) (by omega)]
  rw [i64_wrap (n := 8 + x.tdiv 14 * 40) (by omega) (by omega)]
  obtain ⟨rp2, l, e3, a1, a2, a3⟩ := S.l20Places_is (rp := 0 + 1) (many := 6) (most := 8 + x.tdiv 14 * 40) h1 h2 (by omega) (by omega) (by omega) (by omega)
  rw [e3]
  simp only
  obtain ⟨y, e4, y1, y2⟩ := S.l20Rd_pick_is (rp := rp2) (n := 12) h1 h2 (by omega) (by omega)
  rw [e4]
  simp only
  by_cases hy : y = 0
  · obtain ⟨z, e5, z1, z2⟩ := S.l20Rd_pick_is (rp := rp2 + 1) (n := 2) h1 h2 (by omega) (by omega)
    have z3 := z2 (by decide)
    rw [cnd_t (by simpa using hy), e5]
    simp only
    rw [cnd_t (by simp only [Bool.and_eq_true, decide_eq_true_eq, List.length_cons, List.length_nil]; omega), cnd_t (by simp only [decide_eq_true_eq, List.length_cons, List.length_nil]; omega), cnd_t (small_of (by simp; omega))]
    exact ⟨_, rfl⟩
  · rw [cnd_f (by simpa using hy)]
    exact ⟨_, rfl⟩
theorem L.FnFirstPost_is {code : List Int} (hm : code.length ≤ maxLen) (hw : ∀ n ∈ code, (Lit.int .u8 n).wf = true) : L.FnFirstPost_t code = some true := by
  unfold L.FnFirstPost_t L.FnFirstPost_tree
  by_cases hc : (code.length : Int) > 1048576
  · rw [cnd_t (by simpa using hc)]
  rw [cnd_f (by simpa using hc)]
  obtain ⟨net, e1, h1⟩ := S.DrawFirstPost_is (Bytes.wf hw)
  rw [e1]
  simp only [optC]
  rcases NetOk_cases net with ⟨h, g1, g2⟩ | ⟨_, g1, g2⟩
  · have h6 := h.hi
    have h64 := h.pow
    have hP : IsPost net (firstPost net) := fp_loop h
    rw [I.FirstPost_y h g1, S.FirstPost_y h g2]
    generalize firstPost net = r at hP ⊢
    have hlt := hP.lt
    simp only
    rw [cnd_f (by simp), cnd_f (by rw [decide_eq_false_iff_not]; omega)]
    have loop := (run_for (run := L.FnFirstPost_run10 (r : Int)) (len := r) (fun k (_ : Unit) => ((k : Int), net)) (fun t k => ()) (fun _ => Sum.inr net) (fun k t => True) (by omega) (fun n k t hk ht => ?_) (fun n t ht => ?_) (t0 := ()) trivial).1
    · rw [show L.FnFirstPost_run10 (r : Int) FUEL (0, net) = _ from loop]
      simp only [sumC]
      rw [I.EternalOk_n h g1, Int.toNat_natCast, hP.et, show decide (0 ≤ (r : Int) ∧ (r : Int) < 2 ^ net.length) = true from set_in hlt, L.sizeOf_n (by omega), I.FewestEternal_y h g1]
      simp only [Bool.and_true, cond_true]
      rw [hP.sz]; simp
    · refine ⟨?_, trivial⟩
      simp only [L.FnFirstPost_run10, L.FnFirstPost_step10]
      rw [cnd_t (by rw [decide_eq_true_eq]; omega), L.sizeOf_n (by omega), L.sizeOf_n (by omega), add1_nat (by omega)]
      simp only [optC]
      rw [nat_beq]
      by_cases hz : size k = size r
      · rw [cnd_t (by simpa using hz), I.EternalOk_n h g1, Int.toNat_natCast]
        have : eternalB net k = false := not_true fun he => hP.first k hk he (by rw [hz, hP.sz])
        rw [this, Bool.and_false]
        rfl
      · rw [cnd_f (by simpa using hz)]
    · simp only [L.FnFirstPost_run10, L.FnFirstPost_step10]
      rw [cnd_f (by rw [decide_eq_false_iff_not]; omega)]
  · rw [I.FirstPost_x g1, S.FirstPost_x g2, g1, L.alive_is]
    rfl
theorem L.FnLogOf_is {code : List Int} (hm : code.length ≤ maxLen) (hw : ∀ n ∈ code, (Lit.int .u8 n).wf = true) : L.FnLogOf_t code = some true := by
  unfold L.FnLogOf_t L.FnLogOf_tree
  by_cases hc : (code.length : Int) > 1048576
  · rw [cnd_t (by simpa using hc)]
  rw [cnd_f (by simpa using hc)]
  obtain ⟨l, e1⟩ := S.DrawLogOf_is (Bytes.wf hw)
  rw [e1]
  simp only [optC]
  rw [I.LogOf_n, S.LogOf_n]
  simp only
  rw [strEq_self]
  simp only [Bool.not_true, cond_false]
  rcases logI_is l with ⟨q, rfl, hq, hp, e2⟩ | ⟨e2, _⟩
  rotate_left
  · rw [e2, cnd_t (by rfl), L.alive_is]
  rw [e2]
  have hlen := logN_len q 0
  have hb := logN_bytes (k := 0) hp (by omega)
  by_cases h0 : q.length = 0
  · rw [cnd_t (by rw [beq_iff_eq, nl_len]; omega), L.alive_is]
  rw [cnd_f (by rw [beq_eq_false_iff_ne, nl_len]; omega)]
  have loop := (run_for (run := L.FnLogOf_run10) (len := (logN 0 q).length + 1) (fun k (_ : Unit) => ((k : Int), nl q, nl (logN 0 q))) (fun t k => ()) (fun _ => Sum.inr (nl q, nl (logN 0 q))) (fun k t => True) (by omega) (fun n k t hk ht => ?_) (fun n t ht => ?_) (t0 := ()) trivial).1
  · rw [show L.FnLogOf_run10 FUEL (0, nl q, nl (logN 0 q)) = _ from loop]
    simp only [sumC]
    rw [nl_len, nl_len, i64_wrap (by omega) (by omega)]
    congr 1
    rw [beq_iff_eq]; omega
  · refine ⟨?_, trivial⟩
    simp only [L.FnLogOf_run10, L.FnLogOf_step10]
    have hdl := logN_len q 0
    obtain ⟨c1, c2⟩ := lp_cut hq hp (n := k) (by omega)
    rw [cnd_t (by rw [decide_eq_true_eq, nl_len]; omega), cnd_t (by simp only [Bool.and_eq_true, decide_eq_true_eq, nl_len]; omega), Int.toNat_natCast, List.drop_zero, List.nil_append, nl_take, cnd_t (small_of (by rw [nl_len, List.length_take]; omega)), I.LogPlaces_n (fun x hx => hb x (List.mem_of_mem_take hx)), c1, c2]
    simp only [optC]
    have hd : ((k : Int)).tdiv 3 = ((k / 3 : Nat) : Int) := by rw [show (3 : Int) = ((3 : Nat) : Int) from rfl, ← Int.ofNat_tdiv]
    rw [hd, i64_wrap (n := ((k / 3 : Nat) : Int)) (by omega) (by omega), i64_wrap (n := ((k / 3 : Nat) : Int) * 3) (by omega) (by omega), cnd_f (by rw [Bool.not_eq_false', beq_iff_eq]; omega), cnd_t (by simp only [Bool.and_eq_true, decide_eq_true_eq, nl_len]; omega), List.drop_zero, Int.toNat_natCast, nl_take, L.sameInts_is (by rw [nl_len, List.length_take]; omega), add1_nat (by omega)]
    rfl
  · simp only [L.FnLogOf_run10, L.FnLogOf_step10]
    rw [cnd_f (by rw [decide_eq_false_iff_not, nl_len]; omega)]
theorem L.FnLogPlaces_is {code : List Int} (hm : code.length ≤ maxLen) (hw : ∀ n ∈ code, (Lit.int .u8 n).wf = true) : L.FnLogPlaces_t code = some true := by
  unfold L.FnLogPlaces_t L.FnLogPlaces_tree
  by_cases hc : (code.length : Int) > 1048576
  · rw [cnd_t (by simpa using hc)]
  rw [cnd_f (by simpa using hc)]
  obtain ⟨log, e1, hb⟩ := S.DrawLogPlaces_is (Bytes.wf hw)
  rw [e1]
  simp only [optC]
  obtain ⟨q, rfl, hq⟩ := nl_back hb
  have h40 := (lpL_is q).2.2
  have hlen := lp_len q
  have hby := lpL_bytes q
  rw [I.LogPlaces_n hq, S.LogPlaces_n hq]
  simp only
  rw [beq_self_eq_true, Bool.not_true, cond_false, L.sameInts_is (by rw [nl_len]; omega)]
  simp only [Bool.not_true, cond_false]
  rw [nl_len, hlen, wr3 (by omega), beq_self_eq_true, cond_true, I.LogOf_n, logI_nl (by omega) (fun p hp => lp_lt hp), lp_log]
  simp only
  rw [cnd_t (by simp only [Bool.and_eq_true, decide_eq_true_eq, nl_len]; omega), Int.toNat_natCast, List.drop_zero, nl_take, strEq_self]
  simp only [cond_true]
  rw [L.alive_is]
end Go.Proofs.Ytbacbipopdokgaa
