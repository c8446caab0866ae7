/- The laws of chapter 2: WatchOk, LeastWatchOk, FewestWatch, WatchOf. Conditions: those of each theorem. -/
import Derived.Test.YtjflfhcdphkejaaDr2
import Derived.Test.YtjflfhcdphkejaaEx2
namespace Go.Proofs.Ytjflfhcdphkejaa
open D Go.RowKit
set_option linter.unusedVariables false
set_option linter.unusedSimpArgs false


theorem L.FnWatchOk_loop {net : List Int} (h : Ok net) (g1 : I.NetOk_t net = some true) {s : Nat} (hs : s < 2 ^ net.length) (b : Bool) (x y : Int) : L.FnWatchOk_run15 (s : Int) b x y FUEL (true, 0, net) = some (W net s, net) := by
  have h6 := h.hi
  have h64 := h.pow
  have := run_for (run := L.FnWatchOk_run15 (s : Int) b x y) (len := net.length) (fun k (t : Bool) => (t, (k : Int), net)) (fun t k => t && (seen net s).testBit k) (fun t => (t, net)) (fun k t => t = true ↔ ∀ j, j < k → (seen net s).testBit j = true) (by omega) (fun n k t hk ht => ?_) (fun n t ht => ?_) (t0 := true) ⟨fun _ j hj => by omega, fun _ => rfl⟩
  · refine this.1.trans ?_
    congr 2
    rw [Bool.eq_iff_iff, this.2, W_iff h hs]
  · refine ⟨?_, ?_⟩
    · have hb := h.ball_lt hk
      simp only [L.FnWatchOk_run15, L.FnWatchOk_step15]
      rw [cnd_t (by simp; omega)]
      cases t with
      | true =>
        rw [cond_true, I.BallOf_n h g1 hk]
        simp only [optC]
        rw [i64_and_nat _ _ (by omega) (by omega), show (((ball net k &&& s : Nat) : Int) != 0) = ((ball net k &&& s) != 0) from nat_bne _ 0, ball_and h hk hs, add1_nat (by omega), Bool.true_and]
      | false => rw [cond_false, add1_nat (by omega)]; rfl
    · rw [Bool.and_eq_true, ht]
      constructor
      · rintro ⟨a, b⟩ j hj
        by_cases hjk : j = k
        · rw [hjk]; exact b
        · exact a j (by omega)
      · intro a; exact ⟨fun j hj => a j (by omega), a k (by omega)⟩
  · simp only [L.FnWatchOk_run15, L.FnWatchOk_step15]
    rw [cnd_f (by simp)]
theorem L.FnWatchOk_is {code more : List Int} (hm : code.length ≤ maxLen) (hw : ∀ n ∈ code, (Lit.int .u8 n).wf = true) (hm2 : more.length ≤ maxLen) (hw2 : ∀ n ∈ more, (Lit.int .u8 n).wf = true) : L.FnWatchOk_t code more = some true := by
  unfold L.FnWatchOk_t L.FnWatchOk_tree
  by_cases hc : (code.length : Int) > 1048576
  · rw [cnd_t (by simpa using hc)]
  rw [cnd_f (by simpa using hc)]
  by_cases hc2 : (more.length : Int) > 1048576
  · rw [cnd_t (by simpa using hc2)]
  rw [cnd_f (by simpa using hc2)]
  obtain ⟨s, net, e1, h1, h2⟩ := S.DrawWatchOk_is (Bytes.wf hw)
  rw [e1]
  simp only [optC]
  rcases NetOk_cases net with ⟨h, g1, g2⟩ | ⟨_, g1, g2⟩
  · have h6 := h.hi
    have h64 := h.pow
    rw [I.WatchOk_n h g1, S.WatchOk_n h g2, g2, all_shl h, pow_shl h]
    simp only
    rw [cnd_f (by simp), Bool.not_true, cond_false]
    by_cases hs : s < 2 ^ net.length
    · rw [cnd_f (by rw [decide_eq_false_iff_not]; omega), set_in hs, Int.toNat_natCast, Bool.true_and]
      have wall : I.WatchOk_t net ((allOf net : Nat) : Int) = some true := by rw [I.WatchOk_n h g1, set_in (allOf_lt net), Int.toNat_natCast, W_all h]; rfl
      have wzero : I.WatchOk_t net 0 = some false := by
        have := I.WatchOk_n h g1 ((0 : Nat) : Int)
        rw [set_in (Nat.two_pow_pos _), Int.toNat_natCast, W_zero h] at this
        exact this
      by_cases h0 : (more.length : Int) > 0
      · rw [cnd_t (by simpa using h0), cnd_t (by simpa using h0)]
        have hb := (Bytes.wf hw2).eli 0
        obtain ⟨a, ha⟩ : ∃ a : Nat, D.eli more (Int.toNat 0) = a := ⟨(D.eli more 0).toNat, by show D.eli more 0 = _; omega⟩
        have ha2 : D.eli more 0 = a := ha
        have hsa : s ||| a < 2 ^ 8 := Nat.or_lt_two_pow (by omega) (by omega)
        have ew : bits .and .i64 (bits .or .i64 (s : Int) (IntKind.i64.wrap (D.eli more (Int.toNat 0)))) ((allOf net : Nat) : Int) = (((s ||| a) &&& allOf net : Nat) : Int) := by
          rw [ha, wrap_nat (by omega), i64_or_nat _ _ (by omega) (by omega), i64_and_nat _ _ (by omega) (by have := allOf_lt net; omega)]
        have hwl : (s ||| a) &&& allOf net < 2 ^ net.length := Nat.lt_of_le_of_lt Nat.and_le_right (allOf_lt net)
        rw [ew, L.FnWatchOk_loop h g1 hs]
        simp only
        rw [cnd_t (by simp)]
        cases hW : W net s with
        | false =>
          rw [cnd_t (by rfl), wall]
          simp only
          rw [cond_true, wzero]
          rfl
        | true =>
          have : W net ((s ||| a) &&& allOf net) = true := W_mono h hs hwl (fun j hj => by
            rw [Nat.testBit_and, Nat.testBit_or, hj, allOf_testBit]; simp [testBit_lt hs hj]) hW
          rw [cnd_f (by rfl), I.WatchOk_n h g1, set_in hwl, Int.toNat_natCast, this]
          simp only
          rw [cnd_t (by rfl), wall]
          simp only
          rw [cond_true, wzero]
          rfl
      · rw [cnd_f (by simpa using h0), L.FnWatchOk_loop h g1 hs]
        simp only
        rw [cnd_t (by simp)]
        cases hW : W net s with
        | false =>
          rw [cnd_t (by rfl), wall]
          simp only
          rw [cond_true, wzero]
          rfl
        | true =>
          rw [cnd_f (by rfl), I.WatchOk_n h g1, set_in hs, Int.toNat_natCast, hW]
          simp only
          rw [cnd_t (by rfl), wall]
          simp only
          rw [cond_true, wzero]
          rfl
    · rw [cnd_t (by rw [decide_eq_true_eq]; omega), show decide (0 ≤ (s : Int) ∧ (s : Int) < 2 ^ net.length) = false by rw [two_pow_cast, decide_eq_false_iff_not]; omega, Bool.false_and, cnd_t (by rfl), L.alive_is]
  · rw [I.WatchOk_x g1, S.WatchOk_x g2, g2]
    simp only
    rw [cnd_f (by decide), cnd_t (by decide), cnd_t (by decide), L.alive_is]

theorem and_not_zero {p s : Nat} (hp : p < 64) (hs : s < 64) : (((minus p s : Nat) : Int) == 0) = true ↔ ∀ j, p.testBit j = true → s.testBit j = true := by
  rw [show (((minus p s : Nat) : Int) == 0) = (minus p s == 0) from nat_beq _ 0, beq_iff_eq]
  constructor
  · intro he j hj
    have : (minus p s).testBit j = false := by rw [he, Nat.zero_testBit]
    rw [minus_testBit _ _ (by omega) (by omega), hj] at this
    simpa using this
  · intro ha
    apply Nat.eq_of_testBit_eq
    intro j
    rw [Nat.zero_testBit, minus_testBit _ _ (by omega) (by omega)]
    cases hb : p.testBit j with
    | false => rfl
    | true => rw [ha j hb]; rfl
theorem lone_zero {net : List Int} : ((lone net : Nat) : Int) = 0 ↔ ∀ k, k < net.length → nb net k ≠ 0 := by
  constructor
  · intro he k hk hz
    have h0 : lone net = 0 := by omega
    have := (lone_testBit net k).2 ⟨hk, hz⟩
    rw [h0, Nat.zero_testBit] at this; cases this
  · intro ha
    have : lone net = 0 := Nat.eq_of_testBit_eq fun j => by
      rw [Nat.zero_testBit]
      cases hb : (lone net).testBit j with
      | false => rfl
      | true =>
        obtain ⟨a, b⟩ := (lone_testBit net j).1 hb
        exact absurd b (ha j a)
    rw [this]; rfl
theorem L.FnLeastWatchOk_is {code : List Int} (hm : code.length ≤ maxLen) (hw : ∀ n ∈ code, (Lit.int .u8 n).wf = true) : L.FnLeastWatchOk_t code = some true := by
  unfold L.FnLeastWatchOk_t L.FnLeastWatchOk_tree
  by_cases hc : (code.length : Int) > 1048576
  · rw [cnd_t (by simpa using hc)]
  rw [cnd_f (by simpa using hc)]
  obtain ⟨s, net, e1, h1, h2⟩ := S.DrawLeastWatchOk_is (Bytes.wf hw)
  rw [e1]
  simp only [optC]
  rcases NetOk_cases net with ⟨h, g1, g2⟩ | ⟨_, g1, g2⟩
  · have h6 := h.hi
    have h64 := h.pow
    rw [I.LeastWatchOk_n h g1, S.LeastWatchOk_n h g2, all_shl h]
    simp only
    rw [cnd_f (by simp)]
    cases hL : (decide (0 ≤ (s : Int) ∧ (s : Int) < 2 ^ net.length) && least net (s : Int).toNat) with
    | false => rw [cnd_t (by rfl), L.alive_is]
    | true =>
      rw [Bool.and_eq_true, decide_eq_true_eq, two_pow_cast, Int.toNat_natCast] at hL
      obtain ⟨hs0, hl⟩ := hL
      have hs : s < 2 ^ net.length := by omega
      rw [cnd_f (by rfl)]
      have loop := (run_for (run := L.FnLeastWatchOk_run11 (s : Int) ((allOf net : Nat) : Int)) (len := s) (fun k (_ : Unit) => ((k : Int), net)) (fun t k => ()) (fun t => Sum.inr net) (fun k t => True) (by omega) (fun n k t hk ht => ?_) (fun n t ht => ?_) (t0 := ()) trivial).1
      · rw [show L.FnLeastWatchOk_run11 (s : Int) ((allOf net : Nat) : Int) FUEL (0, net) = _ from loop]
        simp only [sumC]
        rw [I.LoneOf_n h g1]
        simp only
        by_cases hz : ((lone net : Nat) : Int) = 0
        · rw [hz, cnd_f (by rfl)]
          have hsl : s ≤ allOf net := by have := allOf_succ net; omega
          have hcl := compl_lt net s
          rw [sub_nat hsl (by have := allOf_lt net; omega), I.WatchOk_n h g1, set_in hcl, Int.toNat_natCast, free_watch h (lone_zero.1 hz) hs hl]
          rfl
        · rw [cnd_t (by simpa using hz)]
      · refine ⟨?_, trivial⟩
        simp only [L.FnLeastWatchOk_run11, L.FnLeastWatchOk_step11]
        rw [cnd_t (by simp; omega), i64_andNot_nat _ _ (by omega) (by omega)]
        cases hsub : (((minus k s : Nat) : Int) == 0) with
        | false => rw [cond_false, add1_nat (by omega)]
        | true =>
          rw [cond_true, I.WatchOk_n h g1, set_in (by omega), Int.toNat_natCast]
          have : W net k = false := by
            cases hk2 : W net k with
            | false => rfl
            | true =>
              have := least_min h hs hl ((and_not_zero (by omega) (by omega)).1 hsub) (by omega) hk2
              omega
          rw [this]
          simp only [optC, Bool.and_false, cond_false]
          rw [add1_nat (by omega)]
      · simp only [L.FnLeastWatchOk_run11, L.FnLeastWatchOk_step11]
        rw [cnd_f (by simp)]
  · rw [I.LeastWatchOk_x g1, S.LeastWatchOk_x g2]
    simp only
    rw [cnd_f (by decide), cnd_t (by decide), L.alive_is]

/-- The greatest of all. -/
theorem maxFold {n : Nat} {f : Nat → Nat} (k : Nat) (hk : k < n) : f k ≤ fold n (fun t k => if f k > t then f k else t) 0 := by
  induction n with
  | zero => omega
  | succ n ih =>
    rw [fold_succ]
    by_cases hkn : k = n
    · subst hkn; split <;> omega
    · have := ih (by omega)
      split <;> omega
theorem few_size {net : List Int} (h : Ok net) : ∃ s, s < 2 ^ net.length ∧ W net s = true ∧ size s = fewest net := (fewest_few h).ex
theorem L.FnFewestWatch_is {code : List Int} (hm : code.length ≤ maxLen) (hw : ∀ n ∈ code, (Lit.int .u8 n).wf = true) : L.FnFewestWatch_t code = some true := by
  unfold L.FnFewestWatch_t L.FnFewestWatch_tree
  by_cases hc : (code.length : Int) > 1048576
  · rw [cnd_t (by simpa using hc)]
  rw [cnd_f (by simpa using hc)]
  obtain ⟨net, e1, h1⟩ := S.DrawFewestWatch_is (Bytes.wf hw)
  rw [e1]
  simp only [optC]
  rcases NetOk_cases net with ⟨h, g1, g2⟩ | ⟨_, g1, g2⟩
  · have h6 := h.hi
    have h64 := h.pow
    rw [I.FewestWatch_y h g1, S.FewestWatch_y h g2]
    simp only
    have loop := run_for (run := L.FnFewestWatch_run11 ((fewest net : Nat) : Int)) (len := net.length) (fun k (t : Nat) => ((t : Int), (k : Int), net)) (fun t k => if size (ball net k) > t then size (ball net k) else t) (fun t => ((t : Int), net)) (fun k t => t ≤ 6) (by omega) (fun n k t hk ht => ?_) (fun n t ht => ?_) (t0 := 0) (by omega)
    · obtain ⟨loop, hbd⟩ := loop
      rw [cnd_f (by simp), cnd_f (by simp), show L.FnFewestWatch_run11 ((fewest net : Nat) : Int) FUEL (0, 0, net) = _ from loop]
      have hmax := maxFold (n := net.length) (f := fun k => size (ball net k))
      generalize fold net.length (fun t k => if size (ball net k) > t then size (ball net k) else t) 0 = most at hmax hbd ⊢
      simp only
      obtain ⟨s, hs, hW, hz⟩ := few_size h
      have hp := few_parts h hs hW
      have hb := few_ball h hs hW hmax
      have hsz := size_le s
      have hmul : fewest net * most ≤ 6 * 6 := Nat.mul_le_mul (by omega) hbd
      rw [I.PartMany_n h g1]
      simp only
      rw [cnd_t (by rw [decide_eq_true_eq]; omega), mul_nat (by omega), cnd_t (by rw [decide_eq_true_eq]; rw [hz] at hb; omega), I.LoneOf_n h g1]
      simp only
      by_cases hl : ((lone net : Nat) : Int) = 0
      · have := few_half h (lone_zero.1 hl) (fewest_few h)
        rw [hl, cnd_f (by rfl), i64_wrap (by omega) (by omega)]
        congr 1
        rw [decide_eq_true_eq]; omega
      · rw [cnd_t (by simpa using hl)]
    · have hz := size_le (ball net k)
      have hb := h.ball_lt hk
      simp only [L.FnFewestWatch_run11, L.FnFewestWatch_step11]
      rw [cnd_t (by simp; omega), I.BallOf_n h g1 hk]
      simp only [optC]
      rw [L.sizeOf_n (by omega)]
      simp only
      rw [add1_nat (by omega)]
      by_cases hgt : size (ball net k) > t
      · rw [if_pos (by omega), if_pos hgt]; exact ⟨rfl, hz⟩
      · rw [if_neg (by omega), if_neg hgt]; exact ⟨rfl, ht⟩
    · simp only [L.FnFewestWatch_run11, L.FnFewestWatch_step11]
      rw [cnd_f (by simp)]
  · rw [I.FewestWatch_x g1, S.FewestWatch_x g2, g1]
    simp only
    rw [cnd_f (by decide), cnd_t (by decide), cnd_t (by decide), cnd_t (by decide), L.alive_is]
theorem L.FnWatchOf_is {code : List Int} (hm : code.length ≤ maxLen) (hw : ∀ n ∈ code, (Lit.int .u8 n).wf = true) : L.FnWatchOf_t code = some true := by
  unfold L.FnWatchOf_t L.FnWatchOf_tree
  by_cases hc : (code.length : Int) > 1048576
  · rw [cnd_t (by simpa using hc)]
  rw [cnd_f (by simpa using hc)]
  obtain ⟨net, e1, h1⟩ := S.DrawWatchOf_is (Bytes.wf hw)
  rw [e1]
  simp only [optC]
  rcases NetOk_cases net with ⟨h, g1, g2⟩ | ⟨_, g1, g2⟩
  · have h6 := h.hi
    have h64 := h.pow
    have hF : First net (smallest net) := small_first h
    have hlt := hF.lt
    have hl := few_least h hF.few hlt hF.w rfl
    have hll := lone_lt net
    rw [I.WatchOf_y h g1, S.WatchOf_y h g2]
    simp only
    rw [cnd_f (by simp), cnd_f (by simp), I.LeastWatchOk_n h g1, set_in hF.lt, Int.toNat_natCast, hl]
    simp only
    rw [cnd_t (by rfl), L.sizeOf_n (lt64 h hF.lt), I.FewestWatch_y h g1, size_smallest h]
    simp only
    rw [cnd_t (by simp), I.LoneOf_n h g1]
    simp only
    rw [i64_andNot_nat _ _ (by omega) (by omega)]
    congr 1
    refine (and_not_zero (by omega) (by omega)).2 fun j hj => ?_
    obtain ⟨a, b⟩ := (lone_testBit net j).1 hj
    rcases (seen_iff h _ a).1 ((W_iff h hF.lt).1 hF.w j a) with x | ⟨i, _, _, y⟩
    · exact x
    · rw [b, Nat.zero_testBit] at y; cases y
  · rw [I.WatchOf_x g1, S.WatchOf_x g2, g1]
    simp only
    rw [cnd_f (by decide), cnd_t (by decide), cnd_t (by decide), cnd_t (by decide), L.alive_is]
end Go.Proofs.Ytjflfhcdphkejaa
