/- The law of SeenBy. Conditions: those of each theorem. -/
import Derived.Test.YtpnbeljphimifaaL1
namespace Go.Proofs.Ytpnbeljphimifaa
open D Go.RowKit
set_option linter.unusedVariables false
set_option linter.unusedSimpArgs false


theorem L.FnSeenBy_loop {net : List Int} (h : Ok net) (g1 : I.NetOk_t net = some true) {s : Nat} (hs : s < 2 ^ net.length) (o : Int) : L.FnSeenBy_run13 (s : Int) ((seen net s : Nat) : Int) o FUEL (0, net) = some (.inr net) := by
  have h6 := h.hi
  have h64 := h.pow
  refine (run_for (run := L.FnSeenBy_run13 (s : Int) ((seen net s : Nat) : Int) o) (len := net.length) (fun k (_ : Unit) => ((k : Int), net)) (fun t k => ()) (fun t => Sum.inr net) (fun k t => True) (by omega) (fun n k t hk ht => ?_) (fun n t ht => ?_) (t0 := ()) trivial).1
  · refine ⟨?_, trivial⟩
    have hb := h.ball_lt hk
    simp only [L.FnSeenBy_run13, L.FnSeenBy_step13]
    rw [cnd_t (by simp; omega), cnd_f (by simp), I.BallOf_n h g1 hk]
    simp only [optC]
    rw [bit_shr _ _ (by omega), bool_eq1, i64_and_nat _ _ (by omega) (by omega), show (((ball net k &&& s : Nat) : Int) != 0) = ((ball net k &&& s) != 0) from nat_bne _ 0, ball_and h hk hs, cnd_f (by simp), add1_nat (by omega)]
  · simp only [L.FnSeenBy_run13, L.FnSeenBy_step13]
    rw [cnd_f (by simp)]
theorem or_lt_n {a b n : Nat} (ha : a < 2 ^ n) (hb : b < 2 ^ n) : a ||| b < 2 ^ n := Nat.or_lt_two_pow ha hb
theorem L.FnSeenBy_is {code more : List Int} (hm : code.length ≤ maxLen) (hw : ∀ n ∈ code, (Lit.int .u8 n).wf = true) (hm2 : more.length ≤ maxLen) (hw2 : ∀ n ∈ more, (Lit.int .u8 n).wf = true) : L.FnSeenBy_t code more = some true := by
  unfold L.FnSeenBy_t L.FnSeenBy_tree
  by_cases hc : (code.length : Int) > 1048576
  · rw [cnd_t (by simpa using hc)]
  rw [cnd_f (by simpa using hc)]
  by_cases hc2 : (more.length : Int) > 1048576
  · rw [cnd_t (by simpa using hc2)]
  rw [cnd_f (by simpa using hc2)]
  obtain ⟨s, net, e1, h1, h2⟩ := S.DrawSeenBy_is (Bytes.wf hw)
  rw [e1]
  simp only [optC]
  rcases NetOk_cases net with ⟨h, g1, g2⟩ | ⟨_, g1, g2⟩
  · rcases set_cases h s with ⟨q, hq, hqn, hd⟩ | hd
    · obtain rfl : s = q := by omega
      have h6 := h.hi
      have h64 := h.pow
      have hsl := h.seen_lt hqn
      rw [I.SeenBy_n h g1 hqn, S.SeenBy_n h g2 hqn]
      simp only
      rw [cnd_f (by simp), cnd_f (by simp)]
      have hz := I.SeenBy_n h g1 (s := 0) (Nat.two_pow_pos _)
      rw [seen_zero] at hz
      have hz' : I.SeenBy_t net 0 = some 0 := hz
      have key : ∀ o : Nat, o < 2 ^ net.length → I.SeenBy_t net (bits .or .i64 (s : Int) (o : Int)) = some (bits .or .i64 ((seen net s : Nat) : Int) ((seen net o : Nat) : Int)) := by
        intro o ho
        have hol := h.seen_lt ho
        rw [i64_or_nat _ _ (by omega) (by omega), i64_or_nat _ _ (by omega) (by omega), I.SeenBy_n h g1 (or_lt_n hqn ho), seen_or]
      by_cases h0 : (more.length : Int) > 0
      · rw [cnd_t (by simpa using h0), cnd_t (by simpa using h0)]
        have hb := (Bytes.wf hw2).eli 0
        obtain ⟨o, ho, hoe⟩ : ∃ o : Nat, o < 2 ^ net.length ∧ bits .and .i64 (IntKind.i64.wrap (D.eli more (Int.toNat 0))) (IntKind.i64.wrap (IntKind.i64.wrap (1 * 2 ^ min (↑net.length : Int).toNat IntKind.i64.bits) - 1)) = (o : Int) := by
          obtain ⟨a, ha⟩ : ∃ a : Nat, D.eli more (Int.toNat 0) = a := ⟨(D.eli more 0).toNat, by show D.eli more 0 = _; omega⟩
          have ha2 : D.eli more 0 = a := ha
          rw [all_shl h, ha, wrap_nat (by omega), i64_and_nat _ _ (by omega) (by have := allOf_lt net; omega)]
          exact ⟨_, Nat.lt_of_le_of_lt Nat.and_le_right (allOf_lt net), rfl⟩
        rw [hoe, L.FnSeenBy_loop h g1 hqn]
        simp only [sumC]
        rw [key o ho, I.SeenBy_n h g1 ho]
        simp only
        rw [cnd_t (by simp), hz']
        rfl
      · rw [cnd_f (by simpa using h0), L.FnSeenBy_loop h g1 hqn]
        simp only [sumC]
        have k0 := key 0 (Nat.two_pow_pos _)
        rw [seen_zero] at k0
        have k0' : I.SeenBy_t net (bits .or .i64 (s : Int) 0) = some (bits .or .i64 ((seen net s : Nat) : Int) 0) := k0
        rw [k0', hz']
        simp only
        rw [cnd_t (by simp)]
        rfl
    · rw [I.SeenBy_o h g1 hd, S.SeenBy_o h g2 hd]
      simp only
      rw [cnd_f (by decide), cnd_t (by decide), cnd_t (by decide), L.alive_is]
  · rw [I.SeenBy_x g1, S.SeenBy_x g2]
    simp only
    rw [cnd_f (by decide), cnd_t (by decide), cnd_t (by decide), L.alive_is]
end Go.Proofs.Ytpnbeljphimifaa
