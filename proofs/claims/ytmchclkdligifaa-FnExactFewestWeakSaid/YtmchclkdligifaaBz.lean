/- Several texts in one: L8, I9, L9, Ex8. Conditions: those of each theorem. -/
import Derived.Test.YtmchclkdligifaaBzb1
import Derived.Test.YtmchclkdligifaaBzb0
/- Laws of chapter 8 that were left. Conditions: those of each theorem. -/
namespace Go.Proofs.Ytmchclkdligifaa
open D Go.RowKit
set_option linter.unusedVariables false
set_option linter.unusedSimpArgs false


theorem L.FnGuardMoved_is {code : List Int} (hm : code.length ≤ maxLen) (hw : ∀ n ∈ code, (Lit.int .u8 n).wf = true) : L.FnGuardMoved_t code = some true := by
  unfold L.FnGuardMoved_t L.FnGuardMoved_tree
  by_cases hc : (code.length : Int) > 1048576
  · rw [cnd_t (by simpa using hc)]
  rw [cnd_f (by simpa using hc)]
  obtain ⟨v, f, t, net, e1, h1⟩ := S.DrawGuardMoved_is (Bytes.wf hw)
  rw [e1]
  simp only [optC]
  rcases NetOk_cases net with ⟨h, g1, g2⟩ | ⟨_, g1, g2⟩
  · have h6 := h.hi
    have h64 := h.pow
    rw [I.GuardMoved_n h g1, S.GuardMoved_n h g2]
    simp only
    rw [cnd_f (by simp)]
    by_cases hA : (0 ≤ v ∧ v < 2 ^ net.length) ∧ (0 ≤ f ∧ f < net.length) ∧ (0 ≤ t ∧ t < net.length) ∧ mayMove net v.toNat f.toNat t.toNat = true
    · obtain ⟨hv, hf, ht, hmv⟩ := hA
      rw [two_pow_cast] at hv
      obtain ⟨s, rfl⟩ : ∃ s : Nat, v = s := ⟨v.toNat, by omega⟩
      obtain ⟨i, rfl⟩ : ∃ i : Nat, f = i := ⟨f.toNat, by omega⟩
      obtain ⟨j, rfl⟩ : ∃ j : Nat, t = j := ⟨t.toNat, by omega⟩
      simp only [Int.toNat_natCast] at hmv
      have hs : s < 2 ^ net.length := by omega
      have hi : i < net.length := by omega
      have hj : j < net.length := by omega
      rw [movedI_nat hs hi hj, if_pos hmv]
      unfold mayMove at hmv
      simp only [Bool.and_eq_true, Bool.not_eq_true'] at hmv
      obtain ⟨m1, m2, m3⟩ := hmv
      have hml := moved_lt hs hj (f := i)
      have hij : i ≠ j := fun e => by rw [e, h.irr j hj] at m3; cases m3
      have b1 : (moved s i j).testBit j = true := (moved_testBit (lt64 h hs) (by omega) m1 j).2 (.inr rfl)
      have b2 : (moved s i j).testBit i = false := not_true fun hx => by
        rcases (moved_testBit (lt64 h hs) (by omega) m1 i).1 hx with ⟨_, y⟩ | y
        · exact y rfl
        · exact hij y
      have hback : mayMove net (moved s i j) j i = true := by
        unfold mayMove
        rw [b1, b2, h.sym i j hi hj, m3]; rfl
      rw [cnd_f (by rw [decide_eq_false_iff_not]; omega), L.sizeOf_n (by omega), L.sizeOf_n (by omega), moved_size (lt64 h hs) (by omega) (by omega) m1 m2]
      simp only
      rw [cnd_t (by simp), cnd_f (by rw [decide_eq_false_iff_not]; omega), bit_shr _ _ (by omega), b1, cnd_t (by rfl), cnd_f (by rw [decide_eq_false_iff_not]; omega), bit_shr _ _ (by omega), b2, cnd_t (by rfl), I.GuardMoved_n h g1, movedI_nat hml hj hi, if_pos hback, moved_back (lt64 h hs) (by omega) (by omega) m1 m2]
      simp
    · have : movedI net v f t = -1 := by unfold movedI; rw [if_neg hA]
      rw [this, L.alive_is]
      rfl
  · rw [I.GuardMoved_x g1, S.GuardMoved_x g2, L.alive_is]
    rfl
/-- A truth that comes up in a loop. -/
theorem fold_or {n : Nat} {p : Nat → Bool} {b : Bool} (h : b = true ∨ ∃ k, k < n ∧ p k = true) : fold n (fun t k => t || p k) b = true := by
  induction n with
  | zero =>
    rcases h with h | ⟨k, hk, _⟩
    · exact h
    · omega
  | succ n ih =>
    rw [fold_succ, Bool.or_eq_true]
    rcases h with h | ⟨k, hk, hp⟩
    · exact .inl (ih (.inl h))
    · by_cases hkn : k = n
      · right; rw [← hkn]; exact hp
      · exact .inl (ih (.inr ⟨k, by omega, hp⟩))
theorem L.FnSecureOk_is {code : List Int} (hm : code.length ≤ maxLen) (hw : ∀ n ∈ code, (Lit.int .u8 n).wf = true) : L.FnSecureOk_t code = some true := by
  unfold L.FnSecureOk_t L.FnSecureOk_tree
  by_cases hc : (code.length : Int) > 1048576
  · rw [cnd_t (by simpa using hc)]
  rw [cnd_f (by simpa using hc)]
  obtain ⟨s, net, e1, h1, h2⟩ := S.DrawSecureOk_is (Bytes.wf hw)
  rw [e1]
  simp only [optC]
  rcases NetOk_cases net with ⟨h, g1, g2⟩ | ⟨_, g1, g2⟩
  · have h6 := h.hi
    have h64 := h.pow
    have hb : ∀ t : Nat, t < 2 ^ net.length → I.SecureOk_t net (t : Int) = some (secureB net t) := fun t ht => by rw [I.SecureOk_n h g1, set_in ht, Int.toNat_natCast]; rfl
    rw [I.SecureOk_n h g1, S.SecureOk_n h g2]
    simp only
    rw [cnd_f (by simp)]
    cases hok : decide (0 ≤ (s : Int) ∧ (s : Int) < 2 ^ net.length) && secureB net (s : Int).toNat with
    | false => rw [cnd_t (by rfl), L.alive_is]
    | true =>
      rw [Bool.and_eq_true, Int.toNat_natCast] at hok
      have hs := set_lt hok.1
      have hS := (secureB_iff h hs).1 hok.2
      rw [cnd_f (by rfl)]
      have loop := (run_for (run := L.FnSecureOk_run10 (s : Int)) (len := net.length) (fun k (_ : Unit) => ((k : Int), net)) (fun t k => ()) (fun t => Sum.inr net) (fun k t => True) (by omega) (fun n k t hk ht => ?_) (fun n t ht => ?_) (t0 := ()) trivial).1
      · rw [show L.FnSecureOk_run10 (s : Int) FUEL (0, net) = _ from loop]
        simp only [sumC]
        rw [watch_in h g1 hs hS.1]
      · refine ⟨?_, trivial⟩
        have hpk : 2 ^ k < 2 ^ net.length := Nat.pow_lt_pow_right (by omega) hk
        simp only [L.FnSecureOk_run10, L.FnSecureOk_step10]
        rw [cnd_t (by rw [decide_eq_true_eq]; omega), cnd_f (by rw [decide_eq_false_iff_not]; omega), one_shl (by omega), i64_or_nat _ _ (by omega) (by omega), hb _ (or_lt hs hk), (secureB_iff h (or_lt hs hk)).2 (secure_add h hs hk hS)]
        simp only [optC]
        rw [cnd_f (by rfl), cnd_f (by rw [decide_eq_false_iff_not]; omega), bit_shr _ _ (by omega), bool_eq1]
        have inner := (run_for (run := L.FnSecureOk_run16 (s : Int) (k : Int)) (len := net.length) (fun j (t : Bool) => (t, (j : Int), net)) (fun t j => t || (mayMove net s j k && W net (moved s j k))) (fun t => (t, net)) (fun _ _ => True) (by omega) (fun n j t hj _ => ?_) (fun n t _ => ?_) (t0 := s.testBit k) trivial).1
        · have hcan : fold net.length (fun t j => t || (mayMove net s j k && W net (moved s j k))) (s.testBit k) = true := by
            refine fold_or ?_
            cases hbk : s.testBit k with
            | true => exact .inl rfl
            | false =>
              right
              obtain ⟨f, f1, f2, f3⟩ := hS.2 k hk hbk
              have hfl := in_lt hs f1
              refine ⟨f, hfl, ?_⟩
              unfold mayMove
              rw [f1, hbk, h.sym k f hk hfl, f2, f3]; rfl
          rw [show L.FnSecureOk_run16 (s : Int) (k : Int) FUEL (s.testBit k, 0, net) = _ from inner, hcan]
          simp only
          rw [cnd_f (by rfl), add1_nat (by omega)]
        · refine ⟨?_, trivial⟩
          simp only [L.FnSecureOk_run16, L.FnSecureOk_step16]
          rw [cnd_t (by rw [decide_eq_true_eq]; omega), I.GuardMoved_n h g1, movedI_nat hs hj hk]
          simp only [optC]
          cases t with
          | true => rw [cond_true, add1_nat (by omega), Bool.true_or]
          | false =>
            rw [cond_false, Bool.false_or]
            cases hmv : mayMove net s j k with
            | true =>
              have hml := moved_lt hs hk (f := j)
              simp only [if_true]
              rw [cnd_t (by rw [decide_eq_true_eq]; omega), I.WatchOk_n h g1, set_in hml, Int.toNat_natCast]
              simp only [Bool.true_and]
              rw [add1_nat (by omega)]
            | false =>
              simp only [Bool.false_eq_true, if_false, Bool.false_and]
              rw [cnd_f (by decide), add1_nat (by omega)]
        · simp only [L.FnSecureOk_run16, L.FnSecureOk_step16]
          rw [cnd_f (by rw [decide_eq_false_iff_not]; omega)]
      · simp only [L.FnSecureOk_run10, L.FnSecureOk_step10]
        rw [cnd_f (by rw [decide_eq_false_iff_not]; omega)]
  · rw [I.SecureOk_x g1, S.SecureOk_x g2, L.alive_is]
    rfl
theorem weak_tail {net row : List Int} {c : Bool} (hrow : row.length ≤ 7) (key : (∀ k, k < row.length → 0 ≤ D.eli row k ∧ D.eli row k ≤ 1) → row.length = net.length → optC (L.placesWith_t row 1) (fun x => optC (I.SecureOk_t net x) (fun y => some (c == y)) none) none = some true) :
    optC (L.FnWeakOk_run10 c FUEL (0, net, row)) (fun q => sumC q (fun (q : Bool × List Int × List Int) => some q.1) (fun (q : List Int × List Int) => (bif !(q.2.length : Int) == (q.1.length : Int) then some true else optC (L.placesWith_t q.2 1) (fun x => optC (I.SecureOk_t q.1 x) (fun y => some (c == y)) none) none))) none = some true := by
  have loop := run_forE (run := L.FnWeakOk_run10 c) (len := row.length) (fun k (_ : Unit) => ((k : Int), net, row)) (fun _ k => if D.eli row k < 0 ∨ D.eli row k > 1 then Sum.inl () else Sum.inr ()) (fun (_ : Unit) => Sum.inl (true, net, row)) (fun _ => Sum.inr (net, row)) (fun k _ => ∀ j, j < k → 0 ≤ D.eli row j ∧ D.eli row j ≤ 1) (by omega)
    (fun n k t hk ht => ?_) (fun n t ht => ?_) (t0 := ()) (fun j hj => by omega)
  · obtain ⟨loop1, loop2⟩ := loop
    rw [show L.FnWeakOk_run10 c FUEL (0, net, row) = _ from loop1]
    cases hl : loopE row.length (fun _ k => if D.eli row k < 0 ∨ D.eli row k > 1 then Sum.inl () else Sum.inr ()) () with
    | inl d => rfl
    | inr t =>
      have hall := loop2 t hl
      simp only [optC, sumC]
      by_cases he : row.length = net.length
      · rw [cnd_f (by simp [he])]
        exact key hall he
      · rw [cnd_t (by simp; omega)]
  · simp only [L.FnWeakOk_run10, L.FnWeakOk_step10]
    rw [cnd_t (by rw [decide_eq_true_eq]; omega), cnd_t (by simp only [Bool.and_eq_true, decide_eq_true_eq]; omega), cnd_t (by rw [decide_eq_true_eq]; omega), Int.toNat_natCast, L.alive_is]
    by_cases h1 : D.eli row k < 0
    · rw [if_pos (.inl h1), cnd_t (by simpa using h1)]
      rfl
    · rw [cnd_f (by simpa using h1), cnd_t (by simp only [Bool.and_eq_true, decide_eq_true_eq]; omega), cnd_t (by rw [decide_eq_true_eq]; omega)]
      by_cases h2 : D.eli row k > 1
      · rw [if_pos (.inr h2), cnd_t (by simpa using h2)]
        rfl
      · rw [if_neg (by omega), cnd_f (by simpa using h2), add1_nat (by omega)]
        refine ⟨rfl, fun j hj => ?_⟩
        by_cases hjk : j = k
        · rw [hjk]; omega
        · exact ht j (by omega)
  · simp only [L.FnWeakOk_run10, L.FnWeakOk_step10]
    rw [cnd_f (by rw [decide_eq_false_iff_not]; omega)]
theorem row01 {row : List Int} (hall : ∀ k, k < row.length → 0 ≤ D.eli row k ∧ D.eli row k ≤ 1) : RowIs row.length row ∧ ∀ k, k < row.length → rv row k ≤ 1 := by
  refine ⟨⟨rfl, fun k hk => ?_, fun k hk => ?_⟩, fun k hk => ?_⟩ <;> have := hall k hk
  · show _ = ((D.eli row k).toNat : Int); omega
  · show (D.eli row k).toNat ≤ 2; omega
  · show (D.eli row k).toNat ≤ 1; omega
theorem L.FnWeakOk_is {code : List Int} (hm : code.length ≤ maxLen) (hw : ∀ n ∈ code, (Lit.int .u8 n).wf = true) : L.FnWeakOk_t code = some true := by
  unfold L.FnWeakOk_t L.FnWeakOk_tree
  by_cases hc : (code.length : Int) > 1048576
  · rw [cnd_t (by simpa using hc)]
  rw [cnd_f (by simpa using hc)]
  obtain ⟨net, row, e1, h1, h2⟩ := S.DrawWeakOk_is (Bytes.wf hw)
  rw [e1]
  simp only [optC]
  rcases NetOk_cases net with ⟨h, g1, g2⟩ | ⟨_, g1, g2⟩
  · have h6 := h.hi
    have h64 := h.pow
    have key : (∀ k, k < row.length → 0 ≤ D.eli row k ∧ D.eli row k ≤ 1) → row.length = net.length → optC (L.placesWith_t row 1) (fun x => optC (I.SecureOk_t net x) (fun y => some ((rowB net.length row && weakB net row) == y)) none) none = some true := by
      intro hall he
      obtain ⟨hR, h1'⟩ := row01 hall
      rw [he] at hR h1'
      have hwl := withN_lt net.length (rv row) 1
      rw [L.placesWith_1 hR h6, rowB_iff.2 hR]
      simp only [optC]
      rw [I.SecureOk_n h g1, set_in hwl, Int.toNat_natCast]
      simp only [Bool.true_and]
      congr 1
      rw [beq_iff_eq, Bool.eq_iff_iff, weakB_iff, secureB_iff h hwl]
      exact weak_secure h h1'
    rw [I.WeakOk_n h g1, S.WeakOk_n h g2]
    simp only
    rw [cnd_f (by simp)]
    cases hok : rowB net.length row && weakB net row with
    | true =>
      rw [hok] at key
      rw [Bool.and_eq_true] at hok
      have hR := rowB_iff.1 hok.1
      rw [cond_true, L.placesWith_1 hR h6]
      simp only
      rw [watch_in h g1 (withN_lt _ _ _) (weak_watch h (weakB_iff.1 hok.2))]
      simp only [Bool.not_true, cond_false]
      exact weak_tail h2 key
    | false =>
      rw [hok] at key
      have hro : (rowB net.length row && romanB net row) = false := not_true fun hx => by
        rw [Bool.and_eq_true] at hx
        rw [hx.1, weakB_iff.2 (roman_weak h (romanB_iff.1 hx.2))] at hok; cases hok
      rw [cond_false, I.RomanOk_n h g1, hro]
      simp only [Bool.not_false, cond_true, cond_false]
      exact weak_tail h2 key
  · rw [I.WeakOk_x g1, S.WeakOk_x g2, I.RomanOk_x g1]
    simp only
    rw [cnd_f (by rfl)]
    simp only [Bool.not_false, cond_true, cond_false]
    refine weak_tail h2 fun hall he => ?_
    obtain ⟨hR, _⟩ := row01 hall
    rw [L.placesWith_1 hR (by omega)]
    simp only [optC]
    rw [I.SecureOk_x g1]
    rfl
end Go.Proofs.Ytmchclkdligifaa
/- The program's functions of chapters 4 to 9, together. Conditions: none. -/
/- Laws of chapters 8 to 10: the fewest guards. Conditions: those of each theorem. -/
namespace Go.Proofs.Ytmchclkdligifaa
open D Go.RowKit
set_option linter.unusedVariables false
set_option linter.unusedSimpArgs false


theorem S.DrawFewestSecure_is {code : List Int} (hb : Bytes code) : ∃ net, S.DrawFewestSecure_t code = some net ∧ net.length ≤ 6 := by
  unfold S.DrawFewestSecure_t S.DrawFewestSecure_tree
  obtain ⟨rb, e1, h1, h2⟩ := S.l20Open_is hb
  rw [e1]
  simp only [optC]
  obtain ⟨rp', net, e2, _, _, h3⟩ := S.l20Net_is (n := 9) h1 h2 (Int.le_refl 0) (by decide)
  rw [e2]
  exact ⟨_, rfl, h3⟩
theorem S.DrawFewestWeak_is {code : List Int} (hb : Bytes code) : ∃ net, S.DrawFewestWeak_t code = some net ∧ net.length ≤ 6 := by
  unfold S.DrawFewestWeak_t S.DrawFewestWeak_tree
  obtain ⟨rb, e1, h1, h2⟩ := S.l20Open_is hb
  rw [e1]
  simp only [optC]
  obtain ⟨rp', net, e2, _, _, h3⟩ := S.l20Net_is (n := 9) h1 h2 (Int.le_refl 0) (by decide)
  rw [e2]
  exact ⟨_, rfl, h3⟩
theorem secure_wires {net : List Int} (h : Ok net) : fewestSecure net = net.length ↔ wires net = 0 := by
  rw [ends_zero h]
  have hmin := fewestSecure_min h
  constructor
  · intro he k hk
    refine Classical.byContradiction fun hn => ?_
    have h1 := hmin.le _ (sub_lt (k := k) (allOf_lt net)) ((secureB_iff h (sub_lt (allOf_lt net))).2 (secure_less h hk hn))
    have h2 := (few_lt h hk hn).2
    omega
  · intro h0
    obtain ⟨s, a, b, c⟩ := hmin.ex
    have hw := ((secureB_iff h a).1 b).1
    have hall : s = allOf net := by
      apply Nat.eq_of_testBit_eq
      intro j
      rw [Bool.eq_iff_iff, allOf_testBit, decide_eq_true_eq]
      constructor
      · intro hj; exact in_lt a hj
      · intro hj
        rcases (seen_iff h s hj).1 ((W_iff h a).1 hw j hj) with hb | ⟨f, hf, hb, hn⟩
        · exact hb
        · rw [h0 j hj] at hn; simp at hn
    rw [← c, hall, size_all h]
theorem L.FnFewestSecure_is {code : List Int} (hm : code.length ≤ maxLen) (hw : ∀ n ∈ code, (Lit.int .u8 n).wf = true) : L.FnFewestSecure_t code = some true := by
  unfold L.FnFewestSecure_t L.FnFewestSecure_tree
  by_cases hc : (code.length : Int) > 1048576
  · rw [cnd_t (by simpa using hc)]
  rw [cnd_f (by simpa using hc)]
  obtain ⟨net, e1, h1⟩ := S.DrawFewestSecure_is (Bytes.wf hw)
  rw [e1]
  simp only [optC]
  rcases NetOk_cases net with ⟨h, g1, g2⟩ | ⟨_, g1, g2⟩
  · have h6 := h.hi
    have h64 := h.pow
    rw [I.FewestSecure_y h g1, S.FewestSecure_y h g2]
    simp only
    rw [cnd_f (by simp), cnd_f (by simp)]
    rw [I.FewestWatch_y h g1]
    simp only
    have hmin := fewestSecure_min h
    obtain ⟨s, a, b, c⟩ := hmin.ex
    have hw := ((secureB_iff h a).1 b).1
    have h1 := (fewest_few h).le s a hw
    have h2 := hmin.le _ (allOf_lt net) ((secureB_iff h (allOf_lt net)).2 (secure_all h))
    rw [size_all h] at h2
    rw [cnd_t (by rw [decide_eq_true_eq]; omega), cnd_t (by rw [decide_eq_true_eq]; omega), I.WiresOf_n h g1]
    simp only
    have e3 : (((fewestSecure net : Nat) : Int) == (net.length : Int)) = (((wires net : Nat) : Int) == 0) := by
      rw [Bool.eq_iff_iff, beq_iff_eq, beq_iff_eq]
      have := secure_wires h
      constructor
      · intro e; have := this.1 (by omega); omega
      · intro e; have := this.2 (by omega); omega
    rw [e3, beq_self_eq_true]
  · rw [I.FewestSecure_x g1, S.FewestSecure_x g2, g1]
    simp only
    rw [cnd_f (by decide), cnd_t (by decide), cnd_t (by decide), cnd_t (by decide), L.alive_is]
theorem L.FnFewestWeak_is {code : List Int} (hm : code.length ≤ maxLen) (hw : ∀ n ∈ code, (Lit.int .u8 n).wf = true) : L.FnFewestWeak_t code = some true := by
  unfold L.FnFewestWeak_t L.FnFewestWeak_tree
  by_cases hc : (code.length : Int) > 1048576
  · rw [cnd_t (by simpa using hc)]
  rw [cnd_f (by simpa using hc)]
  obtain ⟨net, e1, h1⟩ := S.DrawFewestWeak_is (Bytes.wf hw)
  rw [e1]
  simp only [optC]
  rcases NetOk_cases net with ⟨h, g1, g2⟩ | ⟨_, g1, g2⟩
  · have h6 := h.hi
    have h64 := h.pow
    rw [I.FewestWeak_y h g1, S.FewestWeak_y h g2]
    simp only
    rw [cnd_f (by simp), cnd_f (by simp)]
    rw [I.FewestWatch_y h g1]
    simp only
    have hmin := fewestWeak_min h
    obtain ⟨r, hb, hr, hs⟩ := hmin.ex
    have h1 := (fewest_few h).le _ (withN_lt net.length r 1) (weak_watch h hr)
    have h2 := with_sum h r
    rw [cnd_t (by rw [decide_eq_true_eq]; omega), I.FewestRoman_y h g1]
    simp only
    obtain ⟨q, qb, qr, qs⟩ := (fewestRoman_min h).ex
    have h3 := hmin.le q qb (roman_weak h qr)
    rw [cnd_t (by rw [decide_eq_true_eq]; omega), I.FewestSecure_y h g1]
    simp only
    obtain ⟨s, a, b, c⟩ := (fewestSecure_min h).ex
    have hw := (secureB_iff h a).1 b
    have hbit : ∀ k, k < net.length → (fun k => (s.testBit k).toNat) k ≤ 1 := fun k _ => by cases hx : s.testBit k <;> simp [hx]
    have hweak : WeakP net (fun k => (s.testBit k).toNat) := (weak_secure h hbit).2 (by rw [bit_row a]; exact hw)
    have h4 := hmin.le _ (fun k hk => Nat.le_trans (hbit k hk) (by omega)) hweak
    have h5 : sumN net.length (fun k => (s.testBit k).toNat) = size s := (size_cnt h a).symm
    congr 1
    rw [decide_eq_true_eq]; omega
  · rw [I.FewestWeak_x g1, S.FewestWeak_x g2, g1]
    simp only
    rw [cnd_f (by decide), cnd_t (by decide), cnd_t (by decide), cnd_t (by decide), L.alive_is]
/-- The least one that answers. -/
theorem ansI_first {net : List Int} {l : List Bool} {s t f : Nat} (he : ansI net l s t = (f : Int)) : ∀ k, k < f → ansP net l s t k = false := by
  intro k hk
  have key : ∀ n, (∀ j, j < n → ansP net l s t j = false) ∨ ∃ g, g < n ∧ (∀ j, j < g → ansP net l s t j = false) ∧ find n (fun f => if ansP net l s t f = true then some (f : Int) else none) = some (g : Int) := by
    intro n
    induction n with
    | zero => exact .inl (fun j hj => by omega)
    | succ n ih =>
      rcases ih with h | ⟨g, a, b, c⟩
      · cases hp : ansP net l s t n with
        | false =>
          exact .inl (fun j hj => by
            by_cases e : j = n
            · rw [e]; exact hp
            · exact h j (by omega))
        | true =>
          refine .inr ⟨n, by omega, h, ?_⟩
          rw [find_succ, find_none.2 (fun j hj => by rw [h j hj]; rfl), hp]
          rfl
      · exact .inr ⟨g, by omega, b, by rw [find_succ, c]; rfl⟩
  unfold ansI at he
  rcases key net.length with h | ⟨g, a, b, c⟩
  · rw [find_none.2 (fun j hj => by rw [h j hj]; rfl)] at he
    have : (-1 : Int) = (f : Int) := he
    omega
  · rw [c] at he
    have : (g : Int) = (f : Int) := he
    exact b k (by omega)
end Go.Proofs.Ytmchclkdligifaa
/- Exact laws of chapter 8. Conditions: those of each theorem. -/
namespace Go.Proofs.Ytmchclkdligifaa
open D Go.RowKit
set_option linter.unusedVariables false
set_option linter.unusedSimpArgs false


theorem GuardMoved_same {a0 : List Int} {a1 a2 a3 : Int} : ∃ v, S.GuardMoved_t a0 a1 a2 a3 = some v ∧ I.GuardMoved_t a0 a1 a2 a3 = some v := by
  rcases NetOk_cases a0 with ⟨h, e1, e2⟩ | ⟨_, e1, e2⟩
  · exact ⟨_, S.GuardMoved_n h e2 a1 a2 a3, I.GuardMoved_n h e1 a1 a2 a3⟩
  · exact ⟨_, S.GuardMoved_x e2 a1 a2 a3, I.GuardMoved_x e1 a1 a2 a3⟩
theorem L.FnExactGuardMoved_is {a0 : List Int} {a1 : Int} {a2 : Int} {a3 : Int} : L.FnExactGuardMoved_t a0 a1 a2 a3 = some true := by
  unfold L.FnExactGuardMoved_t L.FnExactGuardMoved_tree
  by_cases ha0 : (a0.length : Int) > 1048576
  · rw [cnd_t (by simpa using ha0)]
  rw [cnd_f (by simpa using ha0)]
  have ta0 := L.toIntS_is (a := a0) (by omega)
  have ea0 := L.eqIntS_is (a := a0) (b := a0) (by omega)
  obtain ⟨b, h1, h2⟩ := GuardMoved_same (a0 := a0) (a1 := a1) (a2 := a2) (a3 := a3)
  simp only [optC, ta0, ea0, h1, h2]
  simp
theorem SecureOk_same {a0 : List Int} {a1 : Int} : ∃ v, S.SecureOk_t a0 a1 = some v ∧ I.SecureOk_t a0 a1 = some v := by
  rcases NetOk_cases a0 with ⟨h, e1, e2⟩ | ⟨_, e1, e2⟩
  · exact ⟨_, S.SecureOk_n h e2 a1, I.SecureOk_n h e1 a1⟩
  · exact ⟨_, S.SecureOk_x e2 a1, I.SecureOk_x e1 a1⟩
theorem L.FnExactSecureOk_is {a0 : List Int} {a1 : Int} : L.FnExactSecureOk_t a0 a1 = some true := by
  unfold L.FnExactSecureOk_t L.FnExactSecureOk_tree
  by_cases ha0 : (a0.length : Int) > 1048576
  · rw [cnd_t (by simpa using ha0)]
  rw [cnd_f (by simpa using ha0)]
  have ta0 := L.toIntS_is (a := a0) (by omega)
  have ea0 := L.eqIntS_is (a := a0) (b := a0) (by omega)
  obtain ⟨b, h1, h2⟩ := SecureOk_same (a0 := a0) (a1 := a1)
  simp only [optC, ta0, ea0, h1, h2]
  simp
theorem WeakOk_same {a0 a1 : List Int} : ∃ v, S.WeakOk_t a0 a1 = some v ∧ I.WeakOk_t a0 a1 = some v := by
  rcases NetOk_cases a0 with ⟨h, e1, e2⟩ | ⟨_, e1, e2⟩
  · exact ⟨_, S.WeakOk_n h e2, I.WeakOk_n h e1⟩
  · exact ⟨_, S.WeakOk_x e2, I.WeakOk_x e1⟩
theorem L.FnExactWeakOk_is {a0 : List Int} {a1 : List Int} : L.FnExactWeakOk_t a0 a1 = some true := by
  unfold L.FnExactWeakOk_t L.FnExactWeakOk_tree
  by_cases ha0 : (a0.length : Int) > 1048576
  · rw [cnd_t (by simpa using ha0)]
  rw [cnd_f (by simpa using ha0)]
  by_cases ha1 : (a1.length : Int) > 1048576
  · rw [cnd_t (by simpa using ha1)]
  rw [cnd_f (by simpa using ha1)]
  have ta0 := L.toIntS_is (a := a0) (by omega)
  have ea0 := L.eqIntS_is (a := a0) (b := a0) (by omega)
  have ta1 := L.toIntS_is (a := a1) (by omega)
  have ea1 := L.eqIntS_is (a := a1) (b := a1) (by omega)
  obtain ⟨b, h1, h2⟩ := WeakOk_same (a0 := a0) (a1 := a1)
  simp only [optC, ta0, ta1, ea0, ea1, h1, h2]
  simp
theorem FewestSecure_same {a0 : List Int} : ∃ v, S.FewestSecure_t a0 = some v ∧ I.FewestSecure_t a0 = some v := by
  rcases NetOk_cases a0 with ⟨h, e1, e2⟩ | ⟨_, e1, e2⟩
  · exact ⟨_, S.FewestSecure_y h e2, I.FewestSecure_y h e1⟩
  · exact ⟨_, S.FewestSecure_x e2, I.FewestSecure_x e1⟩
theorem L.FnExactFewestSecure_is {a0 : List Int} : L.FnExactFewestSecure_t a0 = some true := by
  unfold L.FnExactFewestSecure_t L.FnExactFewestSecure_tree
  by_cases ha0 : (a0.length : Int) > 1048576
  · rw [cnd_t (by simpa using ha0)]
  rw [cnd_f (by simpa using ha0)]
  have ta0 := L.toIntS_is (a := a0) (by omega)
  have ea0 := L.eqIntS_is (a := a0) (b := a0) (by omega)
  obtain ⟨b, h1, h2⟩ := FewestSecure_same (a0 := a0)
  simp only [optC, ta0, ea0, h1, h2]
  simp
theorem FewestWeak_same {a0 : List Int} : ∃ v, S.FewestWeak_t a0 = some v ∧ I.FewestWeak_t a0 = some v := by
  rcases NetOk_cases a0 with ⟨h, e1, e2⟩ | ⟨_, e1, e2⟩
  · exact ⟨_, S.FewestWeak_y h e2, I.FewestWeak_y h e1⟩
  · exact ⟨_, S.FewestWeak_x e2, I.FewestWeak_x e1⟩
theorem L.FnExactFewestWeak_is {a0 : List Int} : L.FnExactFewestWeak_t a0 = some true := by
  unfold L.FnExactFewestWeak_t L.FnExactFewestWeak_tree
  by_cases ha0 : (a0.length : Int) > 1048576
  · rw [cnd_t (by simpa using ha0)]
  rw [cnd_f (by simpa using ha0)]
  have ta0 := L.toIntS_is (a := a0) (by omega)
  have ea0 := L.eqIntS_is (a := a0) (b := a0) (by omega)
  obtain ⟨b, h1, h2⟩ := FewestWeak_same (a0 := a0)
  simp only [optC, ta0, ea0, h1, h2]
  simp
end Go.Proofs.Ytmchclkdligifaa
