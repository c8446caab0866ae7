/- Several texts in one: L17, ExB, Ex17. Conditions: those of each theorem. -/
import Derived.Test.YtbacbipopdokgaaBzb0
/- Laws of chapter 17. Conditions: those of each theorem. -/
namespace Go.Proofs.Ytbacbipopdokgaa
open D Go.RowKit
set_option linter.unusedVariables false
set_option linter.unusedSimpArgs false


theorem S.DrawFirstPost_is {code : List Int} (hb : Bytes code) : ∃ net, S.DrawFirstPost_t code = some net ∧ net.length ≤ 6 := by
  unfold S.DrawFirstPost_t S.DrawFirstPost_tree
  obtain ⟨rb, e1, h1, h2⟩ := S.l20Open_is hb
  rw [e1]
  simp only [optC]
  obtain ⟨rp', net, e2, _, _, h3⟩ := S.l20Net_is (n := 9) h1 h2 (Int.le_refl 0) (by decide)
  rw [e2]
  exact ⟨_, rfl, h3⟩
theorem S.l20Places_is {rb : List Int} {rp many most : Int} (hb : Bytes rb) (hl : rb.length ≤ 2000) (h0 : 0 ≤ rp) (h1 : rp ≤ 500000) (m0 : 0 ≤ most) (m1 : most ≤ 100) :
    ∃ rp' l, S.l20Places_t rb rp many most = some (rb, rp', l) ∧ rp ≤ rp' ∧ rp' ≤ rp + 200 ∧ l.length ≤ 101 := by
  unfold S.l20Places_t S.l20Places_tree
  have hF := FUEL_le
  have key : ∀ (m : Nat) (rp : Int) (l : List Int) (N : Nat), 0 ≤ rp → rp + m ≤ 800000 → l.length + m ≤ 101 → m < N →
      ∃ rp' l', S.l20Places_run3 many N ((m : Int), rb, rp, l) = some (rb, rp', l') ∧ rp ≤ rp' ∧ rp' ≤ rp + m ∧ l'.length ≤ 101 := by
    intro m
    induction m with
    | zero =>
      intro rp l N h0 h1 hl2 hN
      obtain ⟨N, rfl⟩ : ∃ q, N = q + 1 := ⟨N - 1, by omega⟩
      simp only [S.l20Places_run3, S.l20Places_step3]
      rw [cnd_f (by rw [decide_eq_false_iff_not]; omega)]
      exact ⟨_, _, rfl, Int.le_refl _, by omega, by omega⟩
    | succ m ih =>
      intro rp l N h0 h1 hl2 hN
      obtain ⟨N, rfl⟩ : ∃ q, N = q + 1 := ⟨N - 1, by omega⟩
      obtain ⟨x, e3, x1, x2⟩ := S.l20Rd_pick_is (rp := rp) (n := if 1 > many then 1 else many) hb hl (by omega) (by omega)
      simp only [S.l20Places_run3, S.l20Places_step3]
      rw [cnd_t (by rw [decide_eq_true_eq]; omega), e3]
      simp only [optC]
      rw [cnd_t (small_of (by simp; omega)), i64_wrap (by omega) (by omega), show ((m + 1 : Nat) : Int) - 1 = (m : Int) by omega]
      obtain ⟨rp', l', a, b, c, d⟩ := ih (rp + 1) (l ++ [x]) N (by omega) (by omega) (by simp; omega) (by omega)
      exact ⟨rp', l', a, by omega, by omega, d⟩
  obtain ⟨x, e3, x1, x2⟩ := S.l20Rd_pick_is (rp := rp) (n := IntKind.i64.wrap (most + 1)) hb hl (by omega) (by omega)
  rw [e3]
  simp only [optC]
  have hw : IntKind.i64.wrap (most + 1) = most + 1 := i64_wrap (by omega) (by omega)
  rw [hw] at x2
  have x3 := x2 (by omega)
  obtain ⟨m, rfl⟩ : ∃ m : Nat, x = (m : Int) := ⟨x.toNat, by omega⟩
  obtain ⟨rp', l', a, b, c, d⟩ := key m (rp + 1) [] FUEL (by omega) (by omega) (by simp; omega) (by omega)
  rw [a]
  exact ⟨rp', l', rfl, by omega, by omega, d⟩
theorem S.DrawLogOf_is {code : List Int} (hb : Bytes code) : ∃ l, S.DrawLogOf_t code = some l := by
  unfold S.DrawLogOf_t S.DrawLogOf_tree
  obtain ⟨rb, e1, h1, h2⟩ := S.l20Open_is hb
  rw [e1]
  simp only [optC]
  obtain ⟨x, e2, x1, x2⟩ := S.l20Rd_pick_is (rp := 0) (n := 15) h1 h2 (by omega) (by omega)
  have x3 := x2 (by decide)
  rw [e2]
  simp only
  have hd : 0 ≤ x.tdiv 14 ∧ x.tdiv 14 ≤ 1 := by
    obtain ⟨y, rfl⟩ : ∃ y : Nat, x = (y : Int) := ⟨x.toNat, by omega⟩
    rw [show (14 : Int) = ((14 : Nat) : Int) from rfl, ← Int.ofNat_tdiv]
    omega
  rw [i64_wrap (n := x.tdiv 14) (by omega) (by omega), i64_wrap (n := x.tdiv 14 * 40) (by omega) (by omega)]
  rw [i64_wrap (n := 8 + x.tdiv 14 * 40) (by omega) (by omega)]
  obtain ⟨rp2, l, e3, a1, a2, a3⟩ := S.l20Places_is (rp := 0 + 1) (many := 6) (most := 8 + x.tdiv 14 * 40) h1 h2 (by omega) (by omega) (by omega) (by omega)
  rw [e3]
  simp only
  obtain ⟨y, e4, y1, y2⟩ := S.l20Rd_pick_is (rp := rp2) (n := 12) h1 h2 (by omega) (by omega)
  rw [e4]
  simp only
  by_cases hy : y = 0
  · obtain ⟨z, e5, z1, z2⟩ := S.l20Rd_pick_is (rp := rp2 + 1) (n := 2) h1 h2 (by omega) (by omega)
    have z3 := z2 (by decide)
    rw [cnd_t (by simpa using hy), e5]
    simp only
    rw [cnd_t (by simp only [Bool.and_eq_true, decide_eq_true_eq, List.length_cons, List.length_nil]; omega), cnd_t (by simp only [decide_eq_true_eq, List.length_cons, List.length_nil]; omega), cnd_t (small_of (by simp; omega))]
    exact ⟨_, rfl⟩
  · rw [cnd_f (by simpa using hy)]
    exact ⟨_, rfl⟩
theorem L.FnFirstPost_is {code : List Int} (hm : code.length ≤ maxLen) (hw : ∀ n ∈ code, (Lit.int .u8 n).wf = true) : L.FnFirstPost_t code = some true := by
  unfold L.FnFirstPost_t L.FnFirstPost_tree
  by_cases hc : (code.length : Int) > 1048576
  · rw [cnd_t (by simpa using hc)]
  rw [cnd_f (by simpa using hc)]
  obtain ⟨net, e1, h1⟩ := S.DrawFirstPost_is (Bytes.wf hw)
  rw [e1]
  simp only [optC]
  rcases NetOk_cases net with ⟨h, g1, g2⟩ | ⟨_, g1, g2⟩
  · have h6 := h.hi
    have h64 := h.pow
    have hP : IsPost net (firstPost net) := fp_loop h
    rw [I.FirstPost_y h g1, S.FirstPost_y h g2]
    generalize firstPost net = r at hP ⊢
    have hlt := hP.lt
    simp only
    rw [cnd_f (by simp), cnd_f (by rw [decide_eq_false_iff_not]; omega)]
    have loop := (run_for (run := L.FnFirstPost_run10 (r : Int)) (len := r) (fun k (_ : Unit) => ((k : Int), net)) (fun t k => ()) (fun _ => Sum.inr net) (fun k t => True) (by omega) (fun n k t hk ht => ?_) (fun n t ht => ?_) (t0 := ()) trivial).1
    · rw [show L.FnFirstPost_run10 (r : Int) FUEL (0, net) = _ from loop]
      simp only [sumC]
      rw [I.EternalOk_n h g1, Int.toNat_natCast, hP.et, show decide (0 ≤ (r : Int) ∧ (r : Int) < 2 ^ net.length) = true from set_in hlt, L.sizeOf_n (by omega), I.FewestEternal_y h g1]
      simp only [Bool.and_true, cond_true]
      rw [hP.sz]; simp
    · refine ⟨?_, trivial⟩
      simp only [L.FnFirstPost_run10, L.FnFirstPost_step10]
      rw [cnd_t (by rw [decide_eq_true_eq]; omega), L.sizeOf_n (by omega), L.sizeOf_n (by omega), add1_nat (by omega)]
      simp only [optC]
      rw [nat_beq]
      by_cases hz : size k = size r
      · rw [cnd_t (by simpa using hz), I.EternalOk_n h g1, Int.toNat_natCast]
        have : eternalB net k = false := not_true fun he => hP.first k hk he (by rw [hz, hP.sz])
        rw [this, Bool.and_false]
        rfl
      · rw [cnd_f (by simpa using hz)]
    · simp only [L.FnFirstPost_run10, L.FnFirstPost_step10]
      rw [cnd_f (by rw [decide_eq_false_iff_not]; omega)]
  · rw [I.FirstPost_x g1, S.FirstPost_x g2, g1, L.alive_is]
    rfl
theorem logN_bytes {q : List Nat} : ∀ {k : Nat}, (∀ p, p ∈ q → p < 6) → k + q.length ≤ 40 → ∀ x, x ∈ logN k q → x < 256 := by
  induction q with
  | nil => intro k _ _ x hx; simp [logN] at hx
  | cons p r ih =>
    intro k hq hl x hx
    simp only [logN, List.mem_append] at hx
    simp only [List.length_cons] at hl
    rcases hx with hx | hx
    · exact rec3_bytes (hq p (by simp)) (by omega) x hx
    · exact ih (fun p hp => hq p (by simp [hp])) (by omega) x hx
theorem nl_take (l : List Nat) (n : Nat) : List.take n (nl l) = nl (l.take n) := by unfold nl; rw [← List.map_take]
theorem L.FnLogOf_is {code : List Int} (hm : code.length ≤ maxLen) (hw : ∀ n ∈ code, (Lit.int .u8 n).wf = true) : L.FnLogOf_t code = some true := by
  unfold L.FnLogOf_t L.FnLogOf_tree
  by_cases hc : (code.length : Int) > 1048576
  · rw [cnd_t (by simpa using hc)]
  rw [cnd_f (by simpa using hc)]
  obtain ⟨l, e1⟩ := S.DrawLogOf_is (Bytes.wf hw)
  rw [e1]
  simp only [optC]
  rw [I.LogOf_n, S.LogOf_n]
  simp only
  rw [strEq_self]
  simp only [Bool.not_true, cond_false]
  rcases logI_is l with ⟨q, rfl, hq, hp, e2⟩ | ⟨e2, _⟩
  rotate_left
  · rw [e2, cnd_t (by rfl), L.alive_is]
  rw [e2]
  have hlen := logN_len q 0
  have hb := logN_bytes (k := 0) hp (by omega)
  by_cases h0 : q.length = 0
  · rw [cnd_t (by rw [beq_iff_eq, nl_len]; omega), L.alive_is]
  rw [cnd_f (by rw [beq_eq_false_iff_ne, nl_len]; omega)]
  have loop := (run_for (run := L.FnLogOf_run10) (len := (logN 0 q).length + 1) (fun k (_ : Unit) => ((k : Int), nl q, nl (logN 0 q))) (fun t k => ()) (fun _ => Sum.inr (nl q, nl (logN 0 q))) (fun k t => True) (by omega) (fun n k t hk ht => ?_) (fun n t ht => ?_) (t0 := ()) trivial).1
  · rw [show L.FnLogOf_run10 FUEL (0, nl q, nl (logN 0 q)) = _ from loop]
    simp only [sumC]
    rw [nl_len, nl_len, i64_wrap (by omega) (by omega)]
    congr 1
    rw [beq_iff_eq]; omega
  · refine ⟨?_, trivial⟩
    simp only [L.FnLogOf_run10, L.FnLogOf_step10]
    have hdl := logN_len q 0
    obtain ⟨c1, c2⟩ := lp_cut hq hp (n := k) (by omega)
    rw [cnd_t (by rw [decide_eq_true_eq, nl_len]; omega), cnd_t (by simp only [Bool.and_eq_true, decide_eq_true_eq, nl_len]; omega), Int.toNat_natCast, List.drop_zero, List.nil_append, nl_take, cnd_t (small_of (by rw [nl_len, List.length_take]; omega)), I.LogPlaces_n (fun x hx => hb x (List.mem_of_mem_take hx)), c1, c2]
    simp only [optC]
    have hd : ((k : Int)).tdiv 3 = ((k / 3 : Nat) : Int) := by rw [show (3 : Int) = ((3 : Nat) : Int) from rfl, ← Int.ofNat_tdiv]
    rw [hd, i64_wrap (n := ((k / 3 : Nat) : Int)) (by omega) (by omega), i64_wrap (n := ((k / 3 : Nat) : Int) * 3) (by omega) (by omega), cnd_f (by rw [Bool.not_eq_false', beq_iff_eq]; omega), cnd_t (by simp only [Bool.and_eq_true, decide_eq_true_eq, nl_len]; omega), List.drop_zero, Int.toNat_natCast, nl_take, L.sameInts_is (by rw [nl_len, List.length_take]; omega), add1_nat (by omega)]
    rfl
  · simp only [L.FnLogOf_run10, L.FnLogOf_step10]
    rw [cnd_f (by rw [decide_eq_false_iff_not, nl_len]; omega)]
end Go.Proofs.Ytbacbipopdokgaa
/- What the exact laws need of rows of bytes that are marked. Conditions: those of each theorem. -/
namespace Go.Proofs.Ytbacbipopdokgaa
open D Go.RowKit
set_option linter.unusedVariables false
set_option linter.unusedSimpArgs false


theorem L.toByteS_is {a : List Int} (ha : a.length ≤ 1048576) : L.toByteS_t a = some a := by
  have hloop : L.toByteS_run3 a FUEL (0, List.replicate (↑a.length : Int).toNat 0) = some a := by
    refine run_fuel (run := L.toByteS_run3 a) (fun s => 0 ≤ s.1 ∧ s.1 ≤ a.length ∧ s.2.length = a.length ∧ ∀ j, j < s.1.toNat → s.2.getD j 0 = a.getD j 0) (fun s => a.length - s.1.toNat) (fun _ => a) ?_ ?_ ?_
    · rintro n ⟨x, r⟩ ⟨h0, h1, h2, h3⟩
      simp only at h0 h1 h2 h3
      by_cases hx : x < (a.length : Int)
      · refine .inr ⟨(IntKind.i64.wrap (x + 1), r.set x.toNat (eli a x.toNat)), ?_, ?_, ?_, rfl⟩
        · simp only [L.toByteS_run3, L.toByteS_step3]
          rw [cnd_t (by simpa using hx), cnd_t (by simp; omega), cnd_t (by simp; omega), cnd_t (by simp; omega)]
        · rw [i64_wrap (by omega) (by omega)]
          refine ⟨by simp only; omega, by simp only; omega, by simp only [List.length_set]; exact h2, fun j hj => ?_⟩
          simp only at hj ⊢
          by_cases hjx : j = x.toNat
          · subst hjx
            have hlt : x.toNat < r.length := by omega
            simp [List.getD, hlt, eli]
          · rw [← h3 j (by omega)]
            simp [List.getD, List.getElem?_set_ne (Ne.symm hjx)]
        · rw [i64_wrap (by omega) (by omega)]; simp only; omega
      · refine .inl ?_
        simp only [L.toByteS_run3, L.toByteS_step3]
        rw [cnd_f (by simpa using hx)]
        congr 1
        apply List.ext_getElem?
        intro j
        by_cases hj : j < a.length
        · have := h3 j (by omega)
          simp only [List.getD, h2, hj, List.getElem?_eq_getElem, Option.getD_some, hj] at this ⊢
          rw [this]
        · rw [List.getElem?_eq_none (by omega), List.getElem?_eq_none (by omega)]
    · refine ⟨by simp, by simp, by simp, fun j hj => by simp at hj⟩
    · simp; omega
  unfold L.toByteS_t L.toByteS_tree
  rw [cnd_t (by simp [small]; omega), hloop]
  rfl

theorem L.eqByteS_is {a b : List Int} (ha : a.length ≤ 2097152) : L.eqByteS_t a b = some (decide (a = b)) := by
  unfold L.eqByteS_t L.eqByteS_tree
  by_cases hl : a.length = b.length
  · rw [cnd_f (by simp [hl])]
    have hloop : L.eqByteS_run4 a b FUEL 0 = some (if a = b then .inr () else .inl false) := by
      refine run_fuel (run := L.eqByteS_run4 a b) (fun x => 0 ≤ x ∧ x ≤ a.length ∧ ∀ j, j < x.toNat → a.getD j 0 = b.getD j 0) (fun x => a.length - x.toNat) (fun _ => if a = b then .inr () else .inl false) ?_ ?_ ?_
      · rintro n x ⟨h0, h1, h3⟩
        by_cases hx : x < (a.length : Int)
        · by_cases he : eli a x.toNat = eli b x.toNat
          · refine .inr ⟨IntKind.i64.wrap (x + 1), ?_, ?_, ?_, rfl⟩
            · simp only [L.eqByteS_run4, L.eqByteS_step4]
              rw [cnd_t (by simpa using hx), cnd_t (by simp; omega), cnd_t (by simp; omega), cnd_f (by simp [he])]
            · rw [i64_wrap (by omega) (by omega)]
              refine ⟨by omega, by omega, fun j hj => ?_⟩
              by_cases hjx : j = x.toNat
              · subst hjx; exact he
              · exact h3 j (by omega)
            · rw [i64_wrap (by omega) (by omega)]; omega
          · refine .inl ?_
            simp only [L.eqByteS_run4, L.eqByteS_step4]
            rw [cnd_t (by simpa using hx), cnd_t (by simp; omega), cnd_t (by simp; omega), cnd_t (by simp [he])]
            rw [if_neg (fun h => he (by rw [h]))]
        · refine .inl ?_
          simp only [L.eqByteS_run4, L.eqByteS_step4]
          rw [cnd_f (by simpa using hx)]
          have : a = b := by
            apply List.ext_getElem hl
            intro j hj hj'
            have := h3 j (by omega)
            simpa [List.getD, hj, hj'] using this
          rw [if_pos this]
      · exact ⟨by simp, by simp, fun j hj => by simp at hj⟩
      · simp; omega
    rw [hloop]
    by_cases h : a = b
    · simp [h, optC, sumC]
    · simp [h, optC, sumC]
  · rw [cnd_t (by simp; omega)]
    have : ¬ a = b := fun h => hl (by rw [h])
    simp [this]
theorem L.markByteS_is {a : List Int} {k0 : Nat} (ha : a.length ≤ 3000000) (hk0 : k0 ≤ 3000000) : ∃ m : List Int, L.markByteS_t a k0 = some (((k0 + a.length : Nat) : Int), m) ∧ m.length = a.length ∧ ∀ j, j < a.length → D.eli m j = IntKind.u8.wrap ((k0 + j : Nat) : Int) := by
  unfold L.markByteS_t L.markByteS_tree
  have := run_for (run := L.markByteS_run2) (len := a.length) (fun k (t : List Int) => (((k0 + k : Nat) : Int), (k : Int), t)) (fun t k => t.set k (IntKind.u8.wrap ((k0 + k : Nat) : Int))) (fun t => (((k0 + a.length : Nat) : Int), t)) (fun k t => t.length = a.length ∧ ∀ j, j < k → D.eli t j = IntKind.u8.wrap ((k0 + j : Nat) : Int)) (by omega) (fun n k t hk ht => ?_) (fun n t ht => ?_) (t0 := a) ⟨rfl, fun j hj => by omega⟩
  · refine ⟨_, ?_, this.2.1, this.2.2⟩
    exact congrArg (fun o => optC o (fun q => some (q.1, q.2)) none) this.1
  · refine ⟨?_, by rw [List.length_set]; exact ht.1, fun j hj => ?_⟩
    · simp only [L.markByteS_run2, L.markByteS_step2]
      have := ht.1
      rw [cnd_t (by simp; omega), cnd_t (by simp; omega), cnd_t (by simp; omega), Int.toNat_natCast, add1_nat (by omega), add1_nat (by omega)]
      rfl
    · rw [eli_set2 (by rw [ht.1]; exact hk)]
      by_cases hkj : k = j
      · rw [if_pos hkj, hkj]
      · rw [if_neg hkj]; exact ht.2 j (by omega)
  · simp only [L.markByteS_run2, L.markByteS_step2]
    rw [cnd_f (by simp; omega)]
theorem L.heldByteS_is {m : List Int} (ha : m.length ≤ 3000000) (hm : ∀ j, j < m.length → D.eli m j = IntKind.u8.wrap ((1 + j : Nat) : Int)) : L.heldByteS_t m 1 = some ((1 + m.length : Nat) : Int) := by
  unfold L.heldByteS_t L.heldByteS_tree
  have := (run_for (run := L.heldByteS_run2 m) (len := m.length) (fun k (t : Unit) => (((1 + k : Nat) : Int), (k : Int))) (fun t k => ()) (fun t => Sum.inr (((1 + m.length : Nat) : Int))) (fun k t => True) (by omega) (fun n k t hk ht => ?_) (fun n t ht => ?_) (t0 := ()) trivial).1
  · exact congrArg (fun o => optC o (fun q => sumC q (fun q => some q.2) (fun q => some q)) none) this
  · refine ⟨?_, trivial⟩
    simp only [L.heldByteS_run2, L.heldByteS_step2]
    rw [cnd_t (by simp; omega), cnd_t (by simp; omega), Int.toNat_natCast, hm k hk, cnd_f (by simp), add1_nat (by omega), add1_nat (by omega)]
    rfl
  · simp only [L.heldByteS_run2, L.heldByteS_step2]
    rw [cnd_f (by simp)]
theorem L.markedB {v : List Int} (hv : v.length ≤ 2000000) : ∃ m : List Int, L.markByteS_t v 1 = some (((1 + v.length : Nat) : Int), m) ∧ L.heldByteS_t m 1 = some ((1 + v.length : Nat) : Int) := by
  obtain ⟨m, h1, h2, h3⟩ := L.markByteS_is (a := v) (k0 := 1) (by omega) (by omega)
  refine ⟨m, h1, ?_⟩
  rw [← h2]
  exact L.heldByteS_is (by omega) (by rw [h2]; exact h3)
end Go.Proofs.Ytbacbipopdokgaa
/- Exact laws of chapter 17. Conditions: those of each theorem. -/
namespace Go.Proofs.Ytbacbipopdokgaa
open D Go.RowKit
set_option linter.unusedVariables false
set_option linter.unusedSimpArgs false


theorem FirstPost_same {a0 : List Int} : ∃ v, S.FirstPost_t a0 = some v ∧ I.FirstPost_t a0 = some v := by
  rcases NetOk_cases a0 with ⟨h, e1, e2⟩ | ⟨_, e1, e2⟩
  · exact ⟨_, S.FirstPost_y h e2, I.FirstPost_y h e1⟩
  · exact ⟨_, S.FirstPost_x e2, I.FirstPost_x e1⟩
theorem L.FnExactFirstPost_is {a0 : List Int} : L.FnExactFirstPost_t a0 = some true := by
  unfold L.FnExactFirstPost_t L.FnExactFirstPost_tree
  by_cases ha0 : (a0.length : Int) > 1048576
  · rw [cnd_t (by simpa using ha0)]
  rw [cnd_f (by simpa using ha0)]
  have ta0 := L.toIntS_is (a := a0) (by omega)
  have ea0 := L.eqIntS_is (a := a0) (b := a0) (by omega)
  obtain ⟨b, h1, h2⟩ := FirstPost_same (a0 := a0)
  simp only [optC, ta0, ea0, h1, h2]
  simp
theorem LogOf_same {a0 : List Int} : ∃ v, S.LogOf_t a0 = some v ∧ I.LogOf_t a0 = some v ∧ v.length ≤ 1000000 := by
  refine ⟨_, S.LogOf_n a0, I.LogOf_n a0, ?_⟩
  rw [nl_len]
  rcases logI_is a0 with ⟨q, _, hq, _, e⟩ | ⟨e, _⟩
  · rw [e, logN_len]; omega
  · rw [e]; simp
theorem L.FnExactLogOf_is {a0 : List Int} : L.FnExactLogOf_t a0 = some true := by
  unfold L.FnExactLogOf_t L.FnExactLogOf_tree
  by_cases ha0 : (a0.length : Int) > 1048576
  · rw [cnd_t (by simpa using ha0)]
  rw [cnd_f (by simpa using ha0)]
  have ta0 := L.toIntS_is (a := a0) (by omega)
  have ea0 := L.eqIntS_is (a := a0) (b := a0) (by omega)
  obtain ⟨v, h1, h2, hv⟩ := LogOf_same (a0 := a0)
  obtain ⟨m, m1, m4⟩ := L.markedB (v := v) (by omega)
  have ev := L.eqByteS_is (a := v) (b := v) (by omega)
  obtain ⟨ma0, ka0, _, _⟩ := L.markIntS_is (a := a0) (k0 := 1) (by omega) (by omega)
  have ka0' : L.markIntS_t a0 1 = _ := ka0
  simp only [optC, ta0, ea0, h1, h2, ev, m1, m4, ka0', decide_true, Bool.not_true, cond_false, neg_nat, not_beq_self]
theorem nl_back {l : List Int} (h : Bytes l) : ∃ q : List Nat, l = nl q ∧ ∀ x, x ∈ q → x < 256 := by
  refine ⟨l.map Int.toNat, ?_, fun x hx => ?_⟩
  · unfold nl
    rw [List.map_map]
    refine List.ext_getElem (by simp) fun k h1 h2 => ?_
    have := h _ (List.getElem_mem h1)
    simp only [List.getElem_map, Function.comp]
    omega
  · obtain ⟨y, hy, rfl⟩ := List.mem_map.1 hx
    have := h y hy
    omega
theorem LogPlaces_same {a0 : List Int} (hb : Bytes a0) : ∃ w v, S.LogPlaces_t a0 = some (w, v) ∧ I.LogPlaces_t a0 = some (w, v) ∧ v.length ≤ 1000000 := by
  obtain ⟨q, rfl, hq⟩ := nl_back hb
  refine ⟨_, _, S.LogPlaces_n hq, I.LogPlaces_n hq, ?_⟩
  have := (lpL_is q).2.2
  rw [nl_len, lp_len]; omega
theorem L.FnExactLogPlaces_is {a0 : List Int} (hm : a0.length ≤ maxLen) (hw : ∀ n ∈ a0, (Lit.int .u8 n).wf = true) : L.FnExactLogPlaces_t a0 = some true := by
  unfold L.FnExactLogPlaces_t L.FnExactLogPlaces_tree
  by_cases ha0 : (a0.length : Int) > 1048576
  · rw [cnd_t (by simpa using ha0)]
  rw [cnd_f (by simpa using ha0)]
  have ta0 := L.toByteS_is (a := a0) (by omega)
  have ea0 := L.eqByteS_is (a := a0) (b := a0) (by omega)
  obtain ⟨w, v, h1, h2, hv⟩ := LogPlaces_same (Bytes.wf hw)
  obtain ⟨m, m1, m4⟩ := L.marked (v := v) (by omega)
  have ev := L.eqIntS_is (a := v) (b := v) (by omega)
  obtain ⟨ma0, ka0, _, _⟩ := L.markByteS_is (a := a0) (k0 := 1) (by omega) (by omega)
  have ka0' : L.markByteS_t a0 1 = _ := ka0
  simp only [optC, ta0, ea0, h1, h2, ev, m1, m4, ka0', decide_true, Bool.not_true, cond_false, neg_nat, not_beq_self]
  simp
end Go.Proofs.Ytbacbipopdokgaa
