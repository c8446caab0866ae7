/- Laws of chapter 5, and of chapter 4 over a net. Conditions: those of each theorem. -/
import Derived.Test.YtonbbeplmjidnaaDr3
import Derived.Test.YtonbbeplmjidnaaL2
import Derived.Test.YtonbbeplmjidnaaI5
namespace Go.Proofs.Ytonbbeplmjidnaa
open D Go.RowKit
set_option linter.unusedVariables false
set_option linter.unusedSimpArgs false


theorem mins {net : List Int} (h : Ok net) : MinOf net (fullN net) (minSize net (fullN net)) ∧ MinOf net (W net) (fewest net) ∧ MinOf net (fullA net) (minSize net (fullA net)) ∧ MaxOf net (apart net) (maxSize net (apart net)) ∧ MaxOf net (least net) (maxSize net (least net)) ∧ MaxOf net (needs net) (maxSize net (needs net)) :=
  ⟨minSize_is h (ex_fullN h), few_min.1 (fewest_few h), minSize_is h (ex_fullA h), maxSize_is (ex_apart net), maxSize_is (ex_least h), maxSize_is (ex_needs h)⟩
theorem maxSize_le {net : List Int} (h : Ok net) {p : Nat → Bool} {m : Nat} (hm : MaxOf net p m) : m ≤ net.length := by
  obtain ⟨s, a, _, c⟩ := hm.ex
  have := size_le_len h a; omega
theorem minSize_le {net : List Int} (h : Ok net) {p : Nat → Bool} {m : Nat} (hm : MinOf net p m) : m ≤ net.length := by
  obtain ⟨s, a, _, c⟩ := hm.ex
  have := size_le_len h a; omega
theorem L.FnFewestNeeds_is {code : List Int} (hm : code.length ≤ maxLen) (hw : ∀ n ∈ code, (Lit.int .u8 n).wf = true) : L.FnFewestNeeds_t code = some true := by
  unfold L.FnFewestNeeds_t L.FnFewestNeeds_tree
  by_cases hc : (code.length : Int) > 1048576
  · rw [cnd_t (by simpa using hc)]
  rw [cnd_f (by simpa using hc)]
  obtain ⟨net, e1, h1⟩ := S.DrawFewestNeeds_is (Bytes.wf hw)
  rw [e1]
  simp only [optC]
  rcases NetOk_cases net with ⟨h, g1, g2⟩ | ⟨_, g1, g2⟩
  · have h6 := h.hi
    have h64 := h.pow
    rw [I.FewestNeeds_y h g1, S.FewestNeeds_y h g2]
    simp only
    rw [cnd_f (by simp), cnd_f (by simp)]
    obtain ⟨m1, m2, m3, m4, m5, m6⟩ := mins h
    have c12 := chain12 h m1 m2
    obtain ⟨s, a, b, c⟩ := m1.ex
    have hf := (fullN_iff h a).1 b
    have c1 := fullN_pos h a hf
    have c2 := watch_twice h a hf m2
    have l1 := minSize_le h m1
    rw [I.FewestWatch_y h g1]
    simp only
    rw [cnd_t (by rw [decide_eq_true_eq]; omega), cnd_t (by rw [decide_eq_true_eq]; omega), i64_wrap (by omega) (by omega)]
    congr 1
    rw [decide_eq_true_eq]; omega
  · rw [I.FewestNeeds_x g1, S.FewestNeeds_x g2, g1]
    simp only
    rw [cnd_f (by decide), cnd_t (by decide), cnd_t (by decide), cnd_t (by decide), L.alive_is]
theorem L.FnFewestApart_is {code : List Int} (hm : code.length ≤ maxLen) (hw : ∀ n ∈ code, (Lit.int .u8 n).wf = true) : L.FnFewestApart_t code = some true := by
  unfold L.FnFewestApart_t L.FnFewestApart_tree
  by_cases hc : (code.length : Int) > 1048576
  · rw [cnd_t (by simpa using hc)]
  rw [cnd_f (by simpa using hc)]
  obtain ⟨net, e1, h1⟩ := S.DrawFewestApart_is (Bytes.wf hw)
  rw [e1]
  simp only [optC]
  rcases NetOk_cases net with ⟨h, g1, g2⟩ | ⟨_, g1, g2⟩
  · have h6 := h.hi
    have h64 := h.pow
    rw [I.FewestApart_y h g1, S.FewestApart_y h g2]
    simp only
    rw [cnd_f (by simp), cnd_f (by simp)]
    obtain ⟨m1, m2, m3, m4, m5, m6⟩ := mins h
    have c1 := chain23 h m2 m3
    have c2 := chain34 h m3 m4
    rw [I.FewestWatch_y h g1]
    simp only
    rw [cnd_t (by rw [decide_eq_true_eq]; omega), I.MostApart_y h g1]
    simp only
    congr 1
    rw [decide_eq_true_eq]; omega
  · rw [I.FewestApart_x g1, S.FewestApart_x g2, g1]
    simp only
    rw [cnd_f (by decide), cnd_t (by decide), cnd_t (by decide), cnd_t (by decide), L.alive_is]
theorem L.FnApartCount_is {code : List Int} (hm : code.length ≤ maxLen) (hw : ∀ n ∈ code, (Lit.int .u8 n).wf = true) : L.FnApartCount_t code = some true := by
  unfold L.FnApartCount_t L.FnApartCount_tree
  by_cases hc : (code.length : Int) > 1048576
  · rw [cnd_t (by simpa using hc)]
  rw [cnd_f (by simpa using hc)]
  obtain ⟨net, e1, h1⟩ := S.DrawApartCount_is (Bytes.wf hw)
  rw [e1]
  simp only [optC]
  rcases NetOk_cases net with ⟨h, g1, g2⟩ | ⟨_, g1, g2⟩
  · have h6 := h.hi
    have h64 := h.pow
    rw [I.ApartCount_y h g1, S.ApartCount_y h g2]
    simp only
    rw [cnd_f (by simp), cnd_f (by simp)]
    have c1 := apartCount_ge h
    have c2 := apartCount_le net
    have c3 := apartCount_wires h
    rw [add1_nat (by omega), cnd_t (by rw [decide_eq_true_eq]; omega), I.WiresOf_n h g1, pow_shl h]
    simp only
    rw [nat_beq, nat_eq0]
    have : (apartCount net == 2 ^ net.length) = (wires net == 0) := by rw [Bool.eq_iff_iff, beq_iff_eq, beq_iff_eq]; exact c3
    rw [this, cnd_t (by simp)]
    congr 1
    rw [decide_eq_true_eq]; omega
  · rw [I.ApartCount_x g1, S.ApartCount_x g2, g1]
    simp only
    rw [cnd_f (by decide), cnd_t (by decide), cnd_t (by decide), cnd_t (by decide), L.alive_is]
theorem L.FnMostApart_is {code : List Int} (hm : code.length ≤ maxLen) (hw : ∀ n ∈ code, (Lit.int .u8 n).wf = true) : L.FnMostApart_t code = some true := by
  unfold L.FnMostApart_t L.FnMostApart_tree
  by_cases hc : (code.length : Int) > 1048576
  · rw [cnd_t (by simpa using hc)]
  rw [cnd_f (by simpa using hc)]
  obtain ⟨net, e1, h1⟩ := S.DrawMostApart_is (Bytes.wf hw)
  rw [e1]
  simp only [optC]
  rcases NetOk_cases net with ⟨h, g1, g2⟩ | ⟨_, g1, g2⟩
  · have h6 := h.hi
    have h64 := h.pow
    rw [I.MostApart_y h g1, S.MostApart_y h g2]
    simp only
    rw [cnd_f (by simp), cnd_f (by simp)]
    obtain ⟨m1, m2, m3, m4, m5, m6⟩ := mins h
    have c1 := most_parts h m4
    have c2 := most_wires h m4
    generalize maxSize net (apart net) = mx at m4 c1 c2 ⊢
    have loop := (run_for (run := L.FnMostApart_run10 (mx : Int)) (len := 2 ^ net.length) (fun k (_ : Unit) => ((k : Int), net)) (fun t k => ()) (fun t => Sum.inr net) (fun k t => True) (by omega) (fun n k t hk ht => ?_) (fun n t ht => ?_) (t0 := ()) trivial).1
    · rw [show L.FnMostApart_run10 (mx : Int) FUEL (0, net) = _ from loop]
      simp only [sumC]
      rw [I.PartMany_n h g1]
      simp only
      rw [cnd_t (by rw [decide_eq_true_eq]; omega), I.WiresOf_n h g1]
      simp only
      rw [nat_eq0, nat_beq]
      have : (wires net == 0) = (mx == net.length) := by rw [Bool.eq_iff_iff, beq_iff_eq, beq_iff_eq]; exact c2
      rw [this]; simp
    · refine ⟨?_, trivial⟩
      simp only [L.FnMostApart_run10, L.FnMostApart_step10]
      rw [pow_shl h, cnd_t (by rw [decide_eq_true_eq]; omega), L.sizeOf_n (by omega), I.ApartOk_n h g1, I.FullApartOk_n h g1, set_in hk, Int.toNat_natCast]
      simp only [optC, Bool.true_and]
      rw [add1_nat (by omega), nat_beq]
      cases hA : apart net k with
      | false =>
        simp only [cond_false]
        cases decide (((size k : Nat) : Int) > (mx : Int)) <;> cases size k == mx <;> rfl
      | true =>
        have hle := m4.le k hk hA
        have : decide (((size k : Nat) : Int) > (mx : Int)) = false := by rw [decide_eq_false_iff_not]; omega
        rw [this]
        cases he : size k == mx with
        | false => rfl
        | true =>
          rw [most_full h m4 hk hA (by simpa using he)]
          rfl
    · simp only [L.FnMostApart_run10, L.FnMostApart_step10]
      rw [pow_shl h, cnd_f (by rw [decide_eq_false_iff_not]; omega)]
  · rw [I.MostApart_x g1, S.MostApart_x g2, g1]
    simp only
    rw [cnd_f (by decide), cnd_t (by decide), cnd_t (by decide), cnd_t (by decide), L.alive_is]
theorem minFold2 {n c : Nat} {f : Nat → Nat} : (∀ k, k < n → fold n (fun t k => if f k < t then f k else t) c ≤ f k) ∧ fold n (fun t k => if f k < t then f k else t) c ≤ c := by
  induction n with
  | zero => exact ⟨fun k hk => by omega, Nat.le_refl _⟩
  | succ n ih =>
    rw [fold_succ]
    obtain ⟨a, b⟩ := ih
    refine ⟨fun k hk => ?_, by split <;> omega⟩
    by_cases hkn : k = n
    · rw [hkn]; split <;> omega
    · have := a k (by omega)
      split <;> omega
theorem L.FnMostNeeds_is {code : List Int} (hm : code.length ≤ maxLen) (hw : ∀ n ∈ code, (Lit.int .u8 n).wf = true) : L.FnMostNeeds_t code = some true := by
  unfold L.FnMostNeeds_t L.FnMostNeeds_tree
  by_cases hc : (code.length : Int) > 1048576
  · rw [cnd_t (by simpa using hc)]
  rw [cnd_f (by simpa using hc)]
  obtain ⟨net, e1, h1⟩ := S.DrawMostNeeds_is (Bytes.wf hw)
  rw [e1]
  simp only [optC]
  rcases NetOk_cases net with ⟨h, g1, g2⟩ | ⟨_, g1, g2⟩
  · have h6 := h.hi
    have h64 := h.pow
    rw [I.MostNeeds_y h g1, S.MostNeeds_y h g2]
    simp only
    rw [cnd_f (by simp), cnd_f (by simp)]
    obtain ⟨m1, m2, m3, m4, m5, m6⟩ := mins h
    have c1 := chain56 h m5 m6
    have c2 := needs_wires h m6
    obtain ⟨s, a, b, c⟩ := m6.ex
    have hN := (needs_iff h a).1 b
    have lm := maxSize_le h m6
    generalize maxSize net (needs net) = mx at m6 c1 c2 c lm ⊢
    have loop := run_for (run := L.FnMostNeeds_run11 (mx : Int)) (len := net.length) (fun k (t : Nat) => ((t : Int), (k : Int), net)) (fun t k => if size (ball net k) < t then size (ball net k) else t) (fun t => ((t : Int), net)) (fun k t => t ≤ 6) (by omega) (fun n k t hk ht => ?_) (fun n t ht => ?_) (t0 := net.length) (by omega)
    · rw [show L.FnMostNeeds_run11 (mx : Int) FUEL ((net.length : Int), 0, net) = _ from loop.1]
      obtain ⟨q1, q2⟩ := minFold2 (n := net.length) (c := net.length) (f := fun k => size (ball net k))
      generalize fold net.length (fun t k => if size (ball net k) < t then size (ball net k) else t) net.length = d at q1 q2 ⊢
      have hb := needs_ball h a hN (d := d) q1 (by omega)
      simp only
      rw [I.MostLeast_y h g1]
      simp only
      rw [cnd_t (by rw [decide_eq_true_eq]; omega), sub_nat (by omega) (by omega), add1_nat (by omega), cnd_t (by rw [decide_eq_true_eq]; omega), I.WiresOf_n h g1]
      simp only
      rw [nat_eq0, nat_beq]
      have : (wires net == 0) = (mx == net.length) := by rw [Bool.eq_iff_iff, beq_iff_eq, beq_iff_eq]; exact c2
      rw [this]; simp
    · have hz := size_le (ball net k)
      have hb := h.ball_lt hk
      simp only [L.FnMostNeeds_run11, L.FnMostNeeds_step11]
      rw [cnd_t (by simp; omega), I.BallOf_n h g1 hk]
      simp only [optC]
      rw [L.sizeOf_n (by omega)]
      simp only
      rw [add1_nat (by omega)]
      by_cases hgt : size (ball net k) < t
      · rw [if_pos (by omega), if_pos hgt]; exact ⟨rfl, hz⟩
      · rw [if_neg (by omega), if_neg hgt]; exact ⟨rfl, ht⟩
    · simp only [L.FnMostNeeds_run11, L.FnMostNeeds_step11]
      rw [cnd_f (by simp)]
  · rw [I.MostNeeds_x g1, S.MostNeeds_x g2, g1]
    simp only
    rw [cnd_f (by decide), cnd_t (by decide), cnd_t (by decide), cnd_t (by decide), L.alive_is]
theorem L.FnMostLeast_is {code : List Int} (hm : code.length ≤ maxLen) (hw : ∀ n ∈ code, (Lit.int .u8 n).wf = true) : L.FnMostLeast_t code = some true := by
  unfold L.FnMostLeast_t L.FnMostLeast_tree
  by_cases hc : (code.length : Int) > 1048576
  · rw [cnd_t (by simpa using hc)]
  rw [cnd_f (by simpa using hc)]
  obtain ⟨net, e1, h1⟩ := S.DrawMostLeast_is (Bytes.wf hw)
  rw [e1]
  simp only [optC]
  rcases NetOk_cases net with ⟨h, g1, g2⟩ | ⟨_, g1, g2⟩
  · have h6 := h.hi
    have h64 := h.pow
    rw [I.MostLeast_y h g1, S.MostLeast_y h g2]
    simp only
    rw [cnd_f (by simp), cnd_f (by simp)]
    obtain ⟨m1, m2, m3, m4, m5, m6⟩ := mins h
    have c1 := chain45 h m4 m5
    have c0 : 1 ≤ maxSize net (least net) := by
      obtain ⟨s, a, b, c⟩ := m5.ex
      refine Nat.one_le_iff_ne_zero.2 fun hz => ?_
      have hs0 : s = 0 := Classical.byContradiction fun hne => by
        obtain ⟨j, hj⟩ := pos_iff.1 hne
        have := in_lt a hj
        have := size_pos (lt64 h a) (by omega) hj
        omega
      have := (least_iff.1 b).1
      rw [hs0, W_zero h] at this; cases this
    have hlen := listOfN_len (2 ^ net.length) (least net)
    rw [I.LeastWatches_y h g1]
    simp only
    have loop := run_for (run := L.FnMostLeast_run12 ((maxSize net (least net) : Nat) : Int)) (len := (listOfN (2 ^ net.length) (least net)).length) (fun k (t : Nat) => ((t : Int), (k : Int), net, listOfN (2 ^ net.length) (least net))) (fun t k => if size (D.eli (listOfN (2 ^ net.length) (least net)) k).toNat > t then size (D.eli (listOfN (2 ^ net.length) (least net)) k).toNat else t) (fun t => ((t : Int), net))
      (fun k t => (∀ j, j < k → size (D.eli (listOfN (2 ^ net.length) (least net)) j).toNat ≤ t) ∧ (t = 0 ∨ ∃ j, j < k ∧ size (D.eli (listOfN (2 ^ net.length) (least net)) j).toNat = t)) (by omega) (fun n k t hk ht => ?_) (fun n t ht => ?_) (t0 := 0) ⟨fun j hj => by omega, .inl rfl⟩
    · rw [show L.FnMostLeast_run12 ((maxSize net (least net) : Nat) : Int) FUEL (0, 0, net, listOfN (2 ^ net.length) (least net)) = _ from loop.1]
      obtain ⟨q1, q2⟩ := loop.2
      generalize fold (listOfN (2 ^ net.length) (least net)).length _ 0 = d at q1 q2 ⊢
      have hd : d = maxSize net (least net) := by
        obtain ⟨s, a, b, c⟩ := m5.ex
        obtain ⟨k, hk, he⟩ := mem_eli ((listOfN_mem (2 ^ net.length) (least net) (s : Int)).2 ⟨s, a, b, rfl⟩)
        have := q1 k hk
        rw [he, Int.toNat_natCast] at this
        rcases q2 with q2 | ⟨j, hj, q2⟩
        · omega
        · obtain ⟨q, hq, hl, hqe⟩ := listOfN_eli hj
          rw [hqe, Int.toNat_natCast] at q2
          have := m5.le q hq hl
          omega
      simp only
      rw [hd, cnd_t (by simp), I.MostApart_y h g1]
      simp only
      rw [cnd_t (by rw [decide_eq_true_eq]; omega)]
      congr 1
      rw [decide_eq_true_eq]; omega
    · obtain ⟨q, hq, hl, hqe⟩ := listOfN_eli hk
      obtain ⟨t1, t2⟩ := ht
      refine ⟨?_, fun j hj => ?_, ?_⟩
      · simp only [L.FnMostLeast_run12, L.FnMostLeast_step12]
        rw [cnd_t (by simp; omega), cnd_t (by simp; omega), cnd_t (by simp; omega), Int.toNat_natCast, hqe, L.sizeOf_n (by omega)]
        simp only [optC]
        rw [add1_nat (by omega), Int.toNat_natCast]
        by_cases hgt : size q > t
        · rw [if_pos (by omega), if_pos hgt]
        · rw [if_neg (by omega), if_neg hgt]
      · by_cases hjk : j = k
        · rw [hjk]; split <;> omega
        · have := t1 j (by omega)
          split <;> omega
      · split
        · exact .inr ⟨k, by omega, rfl⟩
        · rcases t2 with t2 | ⟨j, hj, t2⟩
          · exact .inl t2
          · exact .inr ⟨j, by omega, t2⟩
    · simp only [L.FnMostLeast_run12, L.FnMostLeast_step12]
      rw [cnd_f (by simp)]
  · rw [I.MostLeast_x g1, S.MostLeast_x g2, g1]
    simp only
    rw [cnd_f (by decide), cnd_t (by decide), cnd_t (by decide), cnd_t (by decide), L.alive_is]
theorem L.sameInts_self {a : List Int} (ha : a.length ≤ 1000000) : L.sameInts_t a a = some true := by
  unfold L.sameInts_t L.sameInts_tree
  have := (run_for (run := L.sameInts_run4 a a) (len := a.length) (fun k (_ : Unit) => (k : Int)) (fun t k => ()) (fun t => Sum.inr ()) (fun k t => True) (by omega) (fun n k t hk ht => ?_) (fun n t ht => ?_) (t0 := ()) trivial).1
  · rw [cnd_f (by simp), show L.sameInts_run4 a a FUEL 0 = _ from this]
    rfl
  · refine ⟨?_, trivial⟩
    simp only [L.sameInts_run4, L.sameInts_step4]
    rw [cnd_t (by simp; omega), cnd_t (by simp; omega), cnd_t (by simp; omega), cnd_f (by simp), add1_nat (by omega)]
  · simp only [L.sameInts_run4, L.sameInts_step4]
    rw [cnd_f (by simp)]
theorem L.FnChainRow_is {code : List Int} (hm : code.length ≤ maxLen) (hw : ∀ n ∈ code, (Lit.int .u8 n).wf = true) : L.FnChainRow_t code = some true := by
  unfold L.FnChainRow_t L.FnChainRow_tree
  by_cases hc : (code.length : Int) > 1048576
  · rw [cnd_t (by simpa using hc)]
  rw [cnd_f (by simpa using hc)]
  obtain ⟨net, e1, h1⟩ := S.DrawChainRow_is (Bytes.wf hw)
  rw [e1]
  simp only [optC]
  rcases NetOk_cases net with ⟨h, g1, g2⟩ | ⟨_, g1, g2⟩
  · have h6 := h.hi
    obtain ⟨m1, m2, m3, m4, m5, m6⟩ := mins h
    have c1 := chain12 h m1 m2
    have c2 := chain23 h m2 m3
    have c3 := chain34 h m3 m4
    have c4 := chain45 h m4 m5
    have c5 := chain56 h m5 m6
    have c0 : 1 ≤ minSize net (fullN net) := by
      obtain ⟨s, a, b, c⟩ := m1.ex
      have := fullN_pos h a ((fullN_iff h a).1 b)
      omega
    have lm := minSize_le h m1
    rw [I.ChainRow_y h g1, S.ChainRow_y h g2]
    simp only
    rw [L.sameInts_self (by simp [chain])]
    simp only
    rw [cnd_f (by rfl), cnd_f (by simp [chain])]
    have loop : L.FnChainRow_run10 FUEL (1, net, chain net) = some (.inr (net, chain net)) := by
      refine run_fuel (run := L.FnChainRow_run10) (fun s => ∃ k : Nat, s = (((k + 1 : Nat) : Int), net, chain net) ∧ k ≤ 5) (fun s => 7 - s.1.toNat) (fun _ => .inr (net, chain net)) ?_ ⟨0, rfl, by omega⟩ (by simp)
      rintro n _ ⟨k, rfl, hk⟩
      simp only [L.FnChainRow_run10, L.FnChainRow_step10]
      by_cases hlt : k < 5
      · right
        have e2 : IntKind.i64.wrap (((k + 1 : Nat) : Int) - 1) = (k : Int) := by rw [i64_wrap (by omega) (by omega)]; omega
        have hle : ¬ D.eli (chain net) (k + 1) < D.eli (chain net) k := by
          have hk5 : k = 0 ∨ k = 1 ∨ k = 2 ∨ k = 3 ∨ k = 4 := by omega
          rcases hk5 with rfl | rfl | rfl | rfl | rfl <;> simp only [chain, D.eli, List.getD, List.getElem?_cons_succ, List.getElem?_cons_zero, Option.getD_some] <;> omega
        have hlen : (chain net).length = 6 := rfl
        rw [cnd_t (by rw [hlen]; simp; omega), cnd_t (by rw [hlen]; simp; omega), cnd_t (by rw [hlen]; simp; omega), e2, cnd_t (by rw [hlen]; simp; omega), cnd_t (by rw [hlen]; simp; omega), Int.toNat_natCast, Int.toNat_natCast, cnd_f (by rw [decide_eq_false_iff_not]; exact hle), add1_nat (by omega)]
        exact ⟨_, rfl, ⟨k + 1, rfl, by omega⟩, by simp only [Int.toNat_natCast]; omega, trivial⟩
      · left
        have hlen : (chain net).length = 6 := rfl
        rw [cnd_f (by rw [hlen]; simp; omega)]
    rw [loop]
    simp only [sumC]
    have e0 : D.eli (chain net) 0 = ((minSize net (fullN net) : Nat) : Int) := rfl
    have hlen : (chain net).length = 6 := rfl
    rw [cnd_t (by rw [hlen]; rfl), cnd_t (by rw [hlen]; rfl), cnd_t (by rw [hlen]; rfl), e0, cnd_t (by rw [decide_eq_true_eq]; omega), I.WiresOf_n h g1]
    simp only
    by_cases hwz : wires net = 0
    · have := none_full h ((ends_zero h).1 hwz) m1
      rw [hwz, cnd_f (by rfl), cnd_t (by rw [hlen]; rfl), cnd_t (by rw [hlen]; rfl), this]
      simp
    · rw [cnd_t (by rw [decide_eq_true_eq]; omega)]
  · rw [I.ChainRow_x g1, S.ChainRow_x g2]
    simp only
    rw [L.sameInts_self (by simp), g1]
    simp only
    rw [cnd_f (by decide), cnd_t (by decide), cnd_t (by decide), L.alive_is]
/-- The net in which all are neighbours. -/
def whole (n : Nat) : List Int := fold n (fun l k => l ++ [((2 ^ n - 1 - 2 ^ k : Nat) : Int)]) []
theorem I.NetOk_whole {n : Nat} (h1 : 1 ≤ n) (h6 : n ≤ 6) : I.NetOk_t (whole n) = some true := by
  rw [I.NetOk_is]
  have hn : n = 1 ∨ n = 2 ∨ n = 3 ∨ n = 4 ∨ n = 5 ∨ n = 6 := by omega
  rcases hn with rfl | rfl | rfl | rfl | rfl | rfl <;> decide +kernel
theorem even_whole {n : Nat} (h1 : 1 ≤ n) (h6 : n ≤ 6) : (fewest (whole n) == maxSize (whole n) (least (whole n))) = true := by
  have hn : n = 1 ∨ n = 2 ∨ n = 3 ∨ n = 4 ∨ n = 5 ∨ n = 6 := by omega
  rcases hn with rfl | rfl | rfl | rfl | rfl | rfl <;> decide +kernel
theorem even_none {n : Nat} (h1 : 1 ≤ n) (h6 : n ≤ 6) : (fewest (List.replicate n 0) == maxSize (List.replicate n 0) (least (List.replicate n 0))) = true := by
  have hn : n = 1 ∨ n = 2 ∨ n = 3 ∨ n = 4 ∨ n = 5 ∨ n = 6 := by omega
  rcases hn with rfl | rfl | rfl | rfl | rfl | rfl <;> decide +kernel
theorem I.NetOk_none {n : Nat} (h1 : 1 ≤ n) (h6 : n ≤ 6) : I.NetOk_t (List.replicate n 0) = some true := by
  rw [I.NetOk_is]
  have hn : n = 1 ∨ n = 2 ∨ n = 3 ∨ n = 4 ∨ n = 5 ∨ n = 6 := by omega
  rcases hn with rfl | rfl | rfl | rfl | rfl | rfl <;> decide +kernel
theorem ok_of {net : List Int} (e : I.NetOk_t net = some true) : Ok net := by
  rcases NetOk_cases net with ⟨h, _⟩ | ⟨_, e1, _⟩
  · exact h
  · rw [e] at e1; cases e1
theorem L.FnEvenWatchedOk_is {code : List Int} (hm : code.length ≤ maxLen) (hw : ∀ n ∈ code, (Lit.int .u8 n).wf = true) : L.FnEvenWatchedOk_t code = some true := by
  unfold L.FnEvenWatchedOk_t L.FnEvenWatchedOk_tree
  by_cases hc : (code.length : Int) > 1048576
  · rw [cnd_t (by simpa using hc)]
  rw [cnd_f (by simpa using hc)]
  obtain ⟨net, e1, h1⟩ := S.DrawEvenWatchedOk_is (Bytes.wf hw)
  rw [e1]
  simp only [optC]
  rcases NetOk_cases net with ⟨h, g1, g2⟩ | ⟨_, g1, g2⟩
  · have h6 := h.hi
    have h64 := h.pow
    have hlo := h.lo
    obtain ⟨m1, m2, m3, m4, m5, m6⟩ := mins h
    have c2 := chain23 h m2 m3
    have c3 := chain34 h m3 m4
    have c4 := chain45 h m4 m5
    rw [I.EvenWatchedOk_y h g1, S.EvenWatchedOk_y h g2, g2]
    simp only
    rw [cnd_f (by simp), Bool.not_true, cond_false]
    have ew : I.EvenWatchedOk_t (whole net.length) = some true := by
      have e := I.NetOk_whole hlo h6
      rw [I.EvenWatchedOk_y (ok_of e) e, even_whole hlo h6]
    have en : I.EvenWatchedOk_t (List.replicate net.length 0) = some true := by
      have e := I.NetOk_none hlo h6
      rw [I.EvenWatchedOk_y (ok_of e) e, even_none hlo h6]
    have loop := (run_for (run := L.FnEvenWatchedOk_run11 (fewest net == maxSize net (least net))) (len := net.length) (fun k (t : List Int) => ((k : Int), net, t)) (fun l k => l ++ [((2 ^ net.length - 1 - 2 ^ k : Nat) : Int)]) (fun t => (net, t)) (fun k t => t.length = k) (by omega) (fun n k t hk ht => ?_) (fun n t ht => ?_) (t0 := []) rfl).1
    · rw [show L.FnEvenWatchedOk_run11 (fewest net == maxSize net (least net)) FUEL (0, net, []) = some (net, whole net.length) from loop]
      simp only
      rw [I.FewestWatch_y h g1, I.FewestApart_y h g1, I.MostApart_y h g1, Int.toNat_natCast, en, ew, small_of (by omega)]
      simp only
      cases he : fewest net == maxSize net (least net) with
      | false => rw [cnd_t (by rfl), cnd_t (by rfl), cnd_t (by rfl), cnd_t (by rfl), L.alive_is]
      | true =>
        have he2 : fewest net = maxSize net (least net) := by simpa using he
        rw [cnd_f (by rfl), cnd_t (by rw [nat_beq, beq_iff_eq]; omega), cnd_t (by rw [nat_beq, beq_iff_eq]; omega), cnd_t (by rfl), cnd_t (by rfl), cnd_t (by rfl), L.alive_is]
    · have hpk : 2 ^ k < 2 ^ net.length := Nat.pow_lt_pow_right (by omega) hk
      have hsu := allOf_succ net
      have e3 : 2 ^ net.length - 1 = allOf net := rfl
      refine ⟨?_, by rw [List.length_append, ht]; rfl⟩
      simp only [L.FnEvenWatchedOk_run11, L.FnEvenWatchedOk_step11]
      rw [cnd_t (by simp; omega), cnd_f (by simp), all_shl h, one_shl (by omega), sub_nat (by omega) (by omega), cnd_t (small_of (by rw [List.length_append, ht, List.length_singleton]; omega)), add1_nat (by omega), e3]
    · simp only [L.FnEvenWatchedOk_run11, L.FnEvenWatchedOk_step11]
      rw [cnd_f (by simp)]
  · rw [I.EvenWatchedOk_x g1, S.EvenWatchedOk_x g2, g2]
    simp only
    rw [cnd_f (by decide), cnd_t (by decide), cnd_t (by decide), L.alive_is]
end Go.Proofs.Ytonbbeplmjidnaa
