/- The laws of chapter 1. Conditions: those of each theorem. -/
import Derived.Test.YtpnbeljphimifaaDr
import Derived.Test.YtpnbeljphimifaaChap1
namespace Go.Proofs.Ytpnbeljphimifaa
open D Go.RowKit
set_option linter.unusedVariables false
set_option linter.unusedSimpArgs false


theorem L.FnBallOf_is {code : List Int} (hm : code.length ≤ maxLen) (hw : ∀ n ∈ code, (Lit.int .u8 n).wf = true) : L.FnBallOf_t code = some true := by
  unfold L.FnBallOf_t L.FnBallOf_tree
  by_cases hc : (code.length : Int) > 1048576
  · rw [cnd_t (by simpa using hc)]
  rw [cnd_f (by simpa using hc)]
  obtain ⟨p, net, e1, h1, h2⟩ := S.DrawBallOf_is (Bytes.wf hw)
  rw [e1]
  simp only [optC]
  rcases NetOk_cases net with ⟨h, g1, g2⟩ | ⟨_, g1, g2⟩
  · rcases place_cases net p with ⟨q, hq, hqn, hd⟩ | hd
    · obtain rfl : p = q := by omega
      have h6 := h.hi
      have hb := h.ball_lt hqn
      have h64 := h.pow
      rw [I.BallOf_n h g1 hqn, S.BallOf_n h g2 hqn]
      simp only
      have loop := (run_for (run := L.FnBallOf_run10 (p : Int) ((ball net p : Nat) : Int)) (len := net.length) (fun k (_ : Unit) => ((k : Int), net)) (fun t k => ()) (fun t => Sum.inr ()) (fun k t => True) (by omega) (fun n k t hk ht => ?_) (fun n t ht => ?_) (t0 := ()) trivial).1
      · rw [cnd_f (by simp), cnd_f (by simp), show L.FnBallOf_run10 (p : Int) ((ball net p : Nat) : Int) FUEL (0, net) = _ from loop]
        simp only [sumC]
        rw [cnd_f (by simp), bit_shr _ _ (by omega), bool_eq1, (ball_testBit net p p).2 (.inr rfl)]
      · refine ⟨?_, trivial⟩
        simp only [L.FnBallOf_run10, L.FnBallOf_step10]
        rw [cnd_t (by simp; omega), cnd_f (by simp), I.BallOf_n h g1 hk]
        simp only [optC]
        rw [cnd_f (by simp), bit_shr _ _ (by omega), bit_shr _ _ (by omega)]
        have : (ball net p).testBit k = (ball net k).testBit p := by
          rw [Bool.eq_iff_iff, ball_testBit, ball_testBit, h.sym k p hk hqn]
          constructor <;> (rintro (a | a); exact .inl a; exact .inr a.symm)
        rw [this, cnd_f (by simp), add1_nat (by omega)]
      · simp only [L.FnBallOf_run10, L.FnBallOf_step10]
        rw [cnd_f (by simp)]
    · rw [I.BallOf_o g1 hd, S.BallOf_o h g2 hd]
      simp only
      rw [cnd_f (by decide), cnd_t (by decide), cnd_t (by decide), L.alive_is]
  · rw [I.BallOf_x g1, S.BallOf_x g2]
    simp only
    rw [cnd_f (by decide), cnd_t (by decide), cnd_t (by decide), L.alive_is]
theorem L.FnWiresOf_is {code : List Int} (hm : code.length ≤ maxLen) (hw : ∀ n ∈ code, (Lit.int .u8 n).wf = true) : L.FnWiresOf_t code = some true := by
  unfold L.FnWiresOf_t L.FnWiresOf_tree
  by_cases hc : (code.length : Int) > 1048576
  · rw [cnd_t (by simpa using hc)]
  rw [cnd_f (by simpa using hc)]
  obtain ⟨net, e1, h1⟩ := S.DrawWiresOf_is (Bytes.wf hw)
  rw [e1]
  simp only [optC]
  rcases NetOk_cases net with ⟨h, g1, g2⟩ | ⟨_, g1, g2⟩
  · have h6 := h.hi
    have h64 := h.pow
    rw [I.WiresOf_n h g1, S.WiresOf_n h g2]
    simp only
    have loop := run_for (run := L.FnWiresOf_run11 ((wires net : Nat) : Int)) (len := net.length) (fun k (t : Nat) => ((t : Int), (k : Int), net)) (fun t k => t + size (ball net k)) (fun t => ((t : Int), net)) (fun k t => t ≤ 6 * k) (by omega) (fun n k t hk ht => ?_) (fun n t ht => ?_) (t0 := 0) (by omega)
    · obtain ⟨loop, hbd⟩ := loop
      rw [cnd_f (by simp), cnd_f (by simp), show L.FnWiresOf_run11 ((wires net : Nat) : Int) FUEL (0, 0, net) = _ from loop]
      rw [fold_sum, balls_sum h] at hbd ⊢
      simp only
      have hp := wires_parts h
      rw [show IntKind.i64.wrap (IntKind.i64.wrap (2 * ((wires net : Nat) : Int)) + (net.length : Int)) = ((2 * wires net + net.length : Nat) : Int) by rw [i64_wrap (n := 2 * ((wires net : Nat) : Int)) (by omega) (by omega), i64_wrap (by omega) (by omega)]; omega]
      rw [cnd_t (by simp), I.PartMany_n h g1]
      simp only
      have hpl : parts net ≤ net.length := by rw [parts_cnt]; exact cnt_le _ _
      rw [i64_wrap (n := (net.length : Int) - ((parts net : Nat) : Int)) (by omega) (by omega)]
      congr 1
      rw [decide_eq_true_eq]; omega
    · have hz := size_le (ball net k)
      have hb := h.ball_lt hk
      simp only [L.FnWiresOf_run11, L.FnWiresOf_step11]
      rw [cnd_t (by simp; omega), I.BallOf_n h g1 hk]
      simp only [optC]
      rw [L.sizeOf_n (by omega)]
      simp only
      rw [add_nat (by omega), add1_nat (by omega)]
      exact ⟨rfl, by omega⟩
    · simp only [L.FnWiresOf_run11, L.FnWiresOf_step11]
      rw [cnd_f (by simp)]
  · rw [I.WiresOf_x g1, S.WiresOf_x g2, g1]
    simp only
    rw [cnd_f (by decide), cnd_t (by decide), cnd_t (by decide), cnd_t (by decide), L.alive_is]
theorem L.FnPartOf_is {code : List Int} (hm : code.length ≤ maxLen) (hw : ∀ n ∈ code, (Lit.int .u8 n).wf = true) : L.FnPartOf_t code = some true := by
  unfold L.FnPartOf_t L.FnPartOf_tree
  by_cases hc : (code.length : Int) > 1048576
  · rw [cnd_t (by simpa using hc)]
  rw [cnd_f (by simpa using hc)]
  obtain ⟨p, net, e1, h1, h2⟩ := S.DrawPartOf_is (Bytes.wf hw)
  rw [e1]
  simp only [optC]
  rcases NetOk_cases net with ⟨h, g1, g2⟩ | ⟨_, g1, g2⟩
  · rcases place_cases net p with ⟨q, hq, hqn, hd⟩ | hd
    · obtain rfl : p = q := by omega
      have h6 := h.hi
      have hb := h.comp_lt hqn
      have h64 := h.pow
      rw [I.PartOf_n h g1 hqn, S.PartOf_n h g2 hqn]
      simp only
      have loop := (run_for (run := L.FnPartOf_run10 (p : Int) ((comp net p : Nat) : Int)) (len := net.length) (fun k (_ : Unit) => ((k : Int), net)) (fun t k => ()) (fun t => Sum.inr net) (fun k t => True) (by omega) (fun n k t hk ht => ?_) (fun n t ht => ?_) (t0 := ()) trivial).1
      · rw [cnd_f (by simp), cnd_f (by simp), show L.FnPartOf_run10 (p : Int) ((comp net p : Nat) : Int) FUEL (0, net) = _ from loop]
        simp only [sumC]
        rw [cnd_f (by simp), bit_shr _ _ (by omega), bool_eq1, cnd_t (h.comp_self hqn), I.SeenBy_n h g1 hb, comp_closed h hqn]
        simp
      · refine ⟨?_, trivial⟩
        simp only [L.FnPartOf_run10, L.FnPartOf_step10]
        rw [cnd_t (by simp; omega), cnd_f (by simp), bit_shr _ _ (by omega), bool_eq1, I.PartOf_n h g1 hk]
        simp only [optC]
        cases hbit : (comp net p).testBit k with
        | false => rw [cond_false, add1_nat (by omega)]
        | true => rw [cond_true, h.comp_same hqn hk hbit, cnd_f (by simp), add1_nat (by omega)]
      · simp only [L.FnPartOf_run10, L.FnPartOf_step10]
        rw [cnd_f (by simp)]
    · rw [I.PartOf_o g1 hd, S.PartOf_o h g2 hd]
      simp only
      rw [cnd_f (by decide), cnd_t (by decide), cnd_t (by decide), L.alive_is]
  · rw [I.PartOf_x g1, S.PartOf_x g2]
    simp only
    rw [cnd_f (by decide), cnd_t (by decide), cnd_t (by decide), L.alive_is]
theorem ok_empty {n : Nat} (h1 : 1 ≤ n) (h6 : n ≤ 6) : Ok (List.replicate n 0) := by
  have hz : ∀ k, nb (List.replicate n 0) k = 0 := fun k => by
    unfold nb el
    by_cases hk : k < n <;> simp [List.getD, hk]
  refine ⟨by simpa using h1, by simpa using h6, fun k hk => ?_, fun k hk => by rw [hz]; exact Nat.two_pow_pos _, fun j k hj hk => by rw [hz, hz]; simp, fun k hk => by rw [hz]; simp⟩
  rw [hz]
  unfold el
  have hk' : k < n := by simpa using hk
  simp [List.getD, hk']
theorem nb_empty (n k : Nat) : nb (List.replicate n 0) k = 0 := by
  unfold nb el
  by_cases hk : k < n <;> simp [List.getD, hk]
theorem parts_empty {n : Nat} (h1 : 1 ≤ n) (h6 : n ≤ 6) : parts (List.replicate n 0) = n := by
  have h := ok_empty h1 h6
  rw [parts_cnt, cnt_congr (q := fun _ => true) (fun k hk => ?_), cnt_true, List.length_replicate]
  refine root_iff.2 fun j hj => ?_
  rw [(comp_alone h hk).2 (nb_empty n k), testBit_pow]
  simp; omega
theorem L.FnPartMany_is {code : List Int} (hm : code.length ≤ maxLen) (hw : ∀ n ∈ code, (Lit.int .u8 n).wf = true) : L.FnPartMany_t code = some true := by
  unfold L.FnPartMany_t L.FnPartMany_tree
  by_cases hc : (code.length : Int) > 1048576
  · rw [cnd_t (by simpa using hc)]
  rw [cnd_f (by simpa using hc)]
  obtain ⟨net, e1, h1⟩ := S.DrawPartMany_is (Bytes.wf hw)
  rw [e1]
  simp only [optC]
  rcases NetOk_cases net with ⟨h, g1, g2⟩ | ⟨_, g1, g2⟩
  · have h6 := h.hi
    have h64 := h.pow
    rw [I.PartMany_n h g1, S.PartMany_n h g2]
    simp only
    have loop := run_for (run := L.FnPartMany_run11 ((parts net : Nat) : Int)) (len := net.length) (fun k (t : Nat) => ((t : Int), (k : Int), net)) (fun t k => t + (root net k).toNat) (fun t => ((t : Int), net)) (fun k t => t ≤ k) (by omega) (fun n k t hk ht => ?_) (fun n t ht => ?_) (t0 := 0) (by omega)
    · rw [cnd_f (by simp), cnd_f (by simp), show L.FnPartMany_run11 ((parts net : Nat) : Int) FUEL (0, 0, net) = _ from loop.1, fold_sum]
      simp only
      rw [cnd_t (by rw [parts_cnt]; simp [cnt]), Int.toNat_natCast, cnd_t (by rw [small_of (by omega)]; rfl)]
      have hE := ok_empty h.lo h6
      rcases NetOk_cases (List.replicate net.length 0) with ⟨_, k1, k2⟩ | ⟨hno, _⟩
      · rw [I.PartMany_n hE k1, parts_empty h.lo h6]
        simp
      · exact absurd hE hno
    · have hc2 := h.comp_lt hk
      have hpk : 0 < 2 ^ k := Nat.two_pow_pos _
      have hpk2 := pow2_lt (k := k) (by omega)
      simp only [L.FnPartMany_run11, L.FnPartMany_step11]
      rw [cnd_t (by simp; omega), I.PartOf_n h g1 hk]
      simp only [optC]
      rw [cnd_f (by simp), one_shl (by omega), sub1_nat hpk (by omega), i64_and_nat _ _ (by omega) (by omega)]
      have e2 : (((comp net k &&& (2 ^ k - 1) : Nat) : Int) == 0) = root net k := nat_beq _ 0
      rw [e2]
      cases root net k with
      | true => rw [cond_true, add1_nat (by omega), add1_nat (by omega)]; exact ⟨rfl, by simp; omega⟩
      | false => rw [cond_false, add1_nat (by omega)]; exact ⟨rfl, by simp; omega⟩
    · simp only [L.FnPartMany_run11, L.FnPartMany_step11]
      rw [cnd_f (by simp)]
  · rw [I.PartMany_x g1, S.PartMany_x g2, g1]
    simp only
    rw [cnd_f (by decide), cnd_t (by decide), cnd_t (by decide), cnd_t (by decide), L.alive_is]
theorem L.FnLoneOf_is {code : List Int} (hm : code.length ≤ maxLen) (hw : ∀ n ∈ code, (Lit.int .u8 n).wf = true) : L.FnLoneOf_t code = some true := by
  unfold L.FnLoneOf_t L.FnLoneOf_tree
  by_cases hc : (code.length : Int) > 1048576
  · rw [cnd_t (by simpa using hc)]
  rw [cnd_f (by simpa using hc)]
  obtain ⟨net, e1, h1⟩ := S.DrawLoneOf_is (Bytes.wf hw)
  rw [e1]
  simp only [optC]
  rcases NetOk_cases net with ⟨h, g1, g2⟩ | ⟨_, g1, g2⟩
  · have h6 := h.hi
    have h64 := h.pow
    have hll := lone_lt net
    rw [I.LoneOf_n h g1, S.LoneOf_n h g2]
    simp only
    have loop := (run_for (run := L.FnLoneOf_run10 ((lone net : Nat) : Int)) (len := net.length) (fun k (_ : Unit) => ((k : Int), net)) (fun t k => ()) (fun t => Sum.inr net) (fun k t => True) (by omega) (fun n k t hk ht => ?_) (fun n t ht => ?_) (t0 := ()) trivial).1
    · rw [cnd_f (by simp), cnd_f (by simp), show L.FnLoneOf_run10 ((lone net : Nat) : Int) FUEL (0, net) = _ from loop]
      simp only [sumC]
      rw [pow_shl h, cnd_t (by rw [decide_eq_true_eq]; omega), L.alive_is]
    · refine ⟨?_, trivial⟩
      simp only [L.FnLoneOf_run10, L.FnLoneOf_step10]
      rw [cnd_t (by simp; omega), cnd_f (by simp), I.PartOf_n h g1 hk]
      simp only [optC]
      rw [cnd_f (by simp), bit_shr _ _ (by omega), bool_eq1, one_shl (by omega), nat_beq]
      have : (lone net).testBit k = (comp net k == 2 ^ k) := by
        rw [Bool.eq_iff_iff, lone_testBit, beq_iff_eq, comp_alone h hk]
        exact ⟨fun a => a.2, fun a => ⟨hk, a⟩⟩
      rw [this, cnd_f (by simp), add1_nat (by omega)]
    · simp only [L.FnLoneOf_run10, L.FnLoneOf_step10]
      rw [cnd_f (by simp)]
  · rw [I.LoneOf_x g1, S.LoneOf_x g2, g1]
    simp only
    rw [cnd_f (by decide), cnd_t (by decide), cnd_t (by decide), cnd_t (by decide), L.alive_is]
end Go.Proofs.Ytpnbeljphimifaa
