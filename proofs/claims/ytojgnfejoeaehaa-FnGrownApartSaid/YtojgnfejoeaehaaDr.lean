/- What the draws give: nets of at most six places, sets and places within bounds. Conditions: those of each theorem. -/
import Derived.Test.YtojgnfejoeaehaaNt3
import Derived.Test.YtojgnfejoeaehaaN3
namespace Go.Proofs.Ytojgnfejoeaehaa
open D Go.RowKit
set_option linter.unusedVariables false
set_option linter.unusedSimpArgs false


theorem I.NetOk_12 : I.NetOk_t [2, 1] = some true := by rw [I.NetOk_is]; decide +kernel
theorem I.NetOk_1 : I.NetOk_t [1] = some false := by rw [I.NetOk_is]; decide +kernel
theorem L.alive_is : L.alive_t = some true := by
  unfold L.alive_t L.alive_tree
  rw [I.NetOk_12, I.NetOk_1]
  rfl
theorem tdiv_small {v a : Int} (h0 : 0 ≤ v) (h1 : v ≤ a) : v.tdiv a = 0 ∨ v.tdiv a = 1 := by
  have ha : 0 ≤ a := by omega
  rw [Int.tdiv_eq_ediv_of_nonneg h0]
  rcases Int.lt_or_eq_of_le h1 with h | h
  · exact .inl (Int.ediv_eq_zero_of_lt h0 h)
  · subst h
    by_cases hz : v = 0
    · subst hz; exact .inl rfl
    · exact .inr (Int.ediv_self hz)
theorem pow_le_64i {n : Nat} (h : n ≤ 6) : ((2 ^ n : Nat) : Int) ≤ 64 := by have := pow_le_64 h; omega
theorem len_shl {net : List Int} (h : net.length ≤ 6) : IntKind.i64.wrap (1 * 2 ^ min (↑net.length : Int).toNat IntKind.i64.bits) = ((2 ^ net.length : Nat) : Int) := one_shl (by omega)
theorem S.l20Set_is {rb : List Int} {rp n : Int} (hb : Bytes rb) (hl : rb.length ≤ 2000) (h0 : 0 ≤ rp) (h1 : rp ≤ 1000000) :
    ∃ rp' net v, S.l20Set_t rb rp n = some (v, rb, rp', net) ∧ rp ≤ rp' ∧ rp' ≤ rp + 300 ∧ net.length ≤ 6 ∧ 0 ≤ v ∧ v < 128 := by
  unfold S.l20Set_t S.l20Set_tree
  obtain ⟨rp1, net, e1, a1, a2, a3⟩ := S.l20Net_is (n := n) hb hl h0 h1
  rw [e1]
  simp only [optC]
  rw [len_shl a3]
  have hp := pow_le_64i a3
  obtain ⟨v, e2, b1, b2⟩ := S.l20Rd_pick_is (rp := rp1) (n := ((2 ^ net.length : Nat) : Int)) hb hl (by omega) (by omega)
  have b2' := b2 (by have : 0 < 2 ^ net.length := Nat.two_pow_pos _; omega)
  rw [e2]
  simp only
  obtain ⟨u, e3, c1, c2⟩ := S.l20Rd_pick_is (rp := rp1 + 1) (n := 40) hb hl (by omega) (by omega)
  have c2' := c2 (by decide)
  rw [e3]
  simp only
  rcases tdiv_small (v := u) (a := 39) c1 (by omega) with h | h
  · rw [h]
    refine ⟨_, _, _, rfl, by omega, by omega, a3, ?_⟩
    rw [i64_wrap (n := 0) (by decide) (by decide), i64_wrap (n := 0 * 64) (by decide) (by decide), i64_wrap (by omega) (by omega)]
    omega
  · rw [h]
    refine ⟨_, _, _, rfl, by omega, by omega, a3, ?_⟩
    rw [i64_wrap (n := 1) (by decide) (by decide), i64_wrap (n := 1 * 64) (by decide) (by decide), i64_wrap (by omega) (by omega)]
    omega
theorem S.l20Order_run {rb : List Int} {rp n : Int} (m : Nat) (hb : Bytes rb) (hl : rb.length ≤ 2000) (h0 : 0 ≤ rp) (h1 : rp ≤ 1000000) (hm : m ≤ 6) :
    ∃ rp' o, S.l20Order_run3 (m : Int) n FUEL (0, rb, rp, []) = some (rb, rp', o) ∧ rp ≤ rp' ∧ rp' ≤ rp + 6 ∧ o.length = m := by
  have := run_post (run := S.l20Order_run3 (m : Int) n) (fun s => ∃ k : Nat, k ≤ m ∧ s.1 = k ∧ s.2.1 = rb ∧ rp ≤ s.2.2.1 ∧ s.2.2.1 ≤ rp + k ∧ s.2.2.2.length = k) (fun s => m - s.1.toNat) (fun d => d.1 = rb ∧ rp ≤ d.2.1 ∧ d.2.1 ≤ rp + 6 ∧ d.2.2.length = m)
    (fun f s => ?_) (s := (0, rb, rp, [])) ⟨0, by omega, rfl, rfl, by simp, by simp, rfl⟩ (by simp; omega)
  · obtain ⟨⟨d1, d2, d3⟩, e, rfl, g1, g2, g3⟩ := this
    exact ⟨d2, d3, e, g1, g2, g3⟩
  · obtain ⟨s1, s2, s3, s4⟩ := s
    rintro ⟨k, hk, i1, i2, i3, i4, i5⟩
    simp only at i1 i2 i3 i4 i5
    subst i1 i2
    by_cases hlt : k < m
    · right
      obtain ⟨v, e2, b1, b2⟩ := S.l20Rd_pick_is (rp := s3) (n := ((s4.length + 1 : Nat) : Int)) hb hl (by omega) (by omega)
      have b2' := b2 (by omega)
      simp only [S.l20Order_run3, S.l20Order_step3]
      rw [cnd_t (by simp; omega), add1_nat (by omega), e2]
      simp only [optC]
      rw [cnd_t (by simp; omega), cnd_t (small_of (by simp; omega)), cnd_t (small_of (by simp; omega)), cnd_t (by simp; omega), cnd_t (small_of (by simp; omega)), add1_nat (by omega)]
      refine ⟨_, rfl, ⟨k + 1, by omega, rfl, rfl, by simp only; omega, by simp only; omega, ?_⟩, by simp only [Int.toNat_natCast]; omega⟩
      simp only [List.nil_append, List.drop_zero, List.length_append, List.length_take, List.length_drop, List.length_singleton]
      omega
    · left
      simp only [S.l20Order_run3, S.l20Order_step3]
      rw [cnd_f (by simp; omega)]
      exact ⟨_, rfl, rfl, by omega, by simp only; omega, by simp only; omega⟩
theorem S.l20Order_is {rb : List Int} {rp n : Int} (m : Nat) (hb : Bytes rb) (hl : rb.length ≤ 2000) (h0 : 0 ≤ rp) (h1 : rp ≤ 1000000) (hm : m ≤ 6) :
    ∃ rp' o, S.l20Order_t rb rp (m : Int) n = some (rb, rp', o) ∧ rp ≤ rp' ∧ rp' ≤ rp + 10 ∧ o.length ≤ 7 := by
  unfold S.l20Order_t S.l20Order_tree
  obtain ⟨rp1, o, e1, a1, a2, a3⟩ := S.l20Order_run (n := n) m hb hl h0 h1 hm
  rw [e1]
  simp only [optC]
  obtain ⟨b, rp2, e2, b1, b2⟩ := S.l20Rd_odd_is (n := n) (rp := rp1) hb hl (by omega) (by omega)
  rw [e2]
  simp only
  cases b with
  | false => exact ⟨_, _, rfl, by omega, by omega, by omega⟩
  | true =>
    rw [cond_true, cnd_t (small_of (by simp; omega))]
    exact ⟨_, _, rfl, by omega, by omega, by simp; omega⟩

/-! ### The draws of the laws -/
end Go.Proofs.Ytojgnfejoeaehaa
