/- What the draws give: nets of at most six places, sets and places within bounds. Conditions: those of each theorem. -/
import Derived.Test.YtjflfhcdphkejaaNt3
import Derived.Test.YtjflfhcdphkejaaN3
namespace Go.Proofs.Ytjflfhcdphkejaa
open D Go.RowKit
set_option linter.unusedVariables false
set_option linter.unusedSimpArgs false


theorem I.NetOk_12 : I.NetOk_t [2, 1] = some true := by rw [I.NetOk_is]; decide +kernel
theorem I.NetOk_1 : I.NetOk_t [1] = some false := by rw [I.NetOk_is]; decide +kernel
theorem L.alive_is : L.alive_t = some true := by
  unfold L.alive_t L.alive_tree
  rw [I.NetOk_12, I.NetOk_1]
  rfl
theorem tdiv_small {v a : Int} (h0 : 0 ≤ v) (h1 : v ≤ a) : v.tdiv a = 0 ∨ v.tdiv a = 1 := by
  have ha : 0 ≤ a := by omega
  rw [Int.tdiv_eq_ediv_of_nonneg h0]
  rcases Int.lt_or_eq_of_le h1 with h | h
  · exact .inl (Int.ediv_eq_zero_of_lt h0 h)
  · subst h
    by_cases hz : v = 0
    · subst hz; exact .inl rfl
    · exact .inr (Int.ediv_self hz)
theorem pow_le_64i {n : Nat} (h : n ≤ 6) : ((2 ^ n : Nat) : Int) ≤ 64 := by have := pow_le_64 h; omega
theorem len_shl {net : List Int} (h : net.length ≤ 6) : IntKind.i64.wrap (1 * 2 ^ min (↑net.length : Int).toNat IntKind.i64.bits) = ((2 ^ net.length : Nat) : Int) := one_shl (by omega)
theorem S.l20Set_is {rb : List Int} {rp n : Int} (hb : Bytes rb) (hl : rb.length ≤ 2000) (h0 : 0 ≤ rp) (h1 : rp ≤ 1000000) :
    ∃ rp' net v, S.l20Set_t rb rp n = some (v, rb, rp', net) ∧ rp ≤ rp' ∧ rp' ≤ rp + 300 ∧ net.length ≤ 6 ∧ 0 ≤ v ∧ v < 128 := by
  unfold S.l20Set_t S.l20Set_tree
  obtain ⟨rp1, net, e1, a1, a2, a3⟩ := S.l20Net_is (n := n) hb hl h0 h1
  rw [e1]
  simp only [optC]
  rw [len_shl a3]
  have hp := pow_le_64i a3
  obtain ⟨v, e2, b1, b2⟩ := S.l20Rd_pick_is (rp := rp1) (n := ((2 ^ net.length : Nat) : Int)) hb hl (by omega) (by omega)
  have b2' := b2 (by have : 0 < 2 ^ net.length := Nat.two_pow_pos _; omega)
  rw [e2]
  simp only
  obtain ⟨u, e3, c1, c2⟩ := S.l20Rd_pick_is (rp := rp1 + 1) (n := 40) hb hl (by omega) (by omega)
  have c2' := c2 (by decide)
  rw [e3]
  simp only
  rcases tdiv_small (v := u) (a := 39) c1 (by omega) with h | h
  · rw [h]
    refine ⟨_, _, _, rfl, by omega, by omega, a3, ?_⟩
    rw [i64_wrap (n := 0) (by decide) (by decide), i64_wrap (n := 0 * 64) (by decide) (by decide), i64_wrap (by omega) (by omega)]
    omega
  · rw [h]
    refine ⟨_, _, _, rfl, by omega, by omega, a3, ?_⟩
    rw [i64_wrap (n := 1) (by decide) (by decide), i64_wrap (n := 1 * 64) (by decide) (by decide), i64_wrap (by omega) (by omega)]
    omega
/-! ### The draws of the laws -/
theorem S.DrawFewestWatch_is {code : List Int} (hb : Bytes code) : ∃ net, S.DrawFewestWatch_t code = some net ∧ net.length ≤ 6 := by
  unfold S.DrawFewestWatch_t S.DrawFewestWatch_tree
  obtain ⟨rb, e1, h1, h2⟩ := S.l20Open_is hb
  rw [e1]
  simp only [optC]
  obtain ⟨rp', net, e2, _, _, h3⟩ := S.l20Net_is (n := 9) h1 h2 (Int.le_refl 0) (by decide)
  rw [e2]
  exact ⟨_, rfl, h3⟩
theorem S.DrawWatchOf_is {code : List Int} (hb : Bytes code) : ∃ net, S.DrawWatchOf_t code = some net ∧ net.length ≤ 6 := by
  unfold S.DrawWatchOf_t S.DrawWatchOf_tree
  obtain ⟨rb, e1, h1, h2⟩ := S.l20Open_is hb
  rw [e1]
  simp only [optC]
  obtain ⟨rp', net, e2, _, _, h3⟩ := S.l20Net_is (n := 9) h1 h2 (Int.le_refl 0) (by decide)
  rw [e2]
  exact ⟨_, rfl, h3⟩
theorem S.DrawLeastWatches_is {code : List Int} (hb : Bytes code) : ∃ net, S.DrawLeastWatches_t code = some net ∧ net.length ≤ 6 := by
  unfold S.DrawLeastWatches_t S.DrawLeastWatches_tree
  obtain ⟨rb, e1, h1, h2⟩ := S.l20Open_is hb
  rw [e1]
  simp only [optC]
  obtain ⟨rp', net, e2, _, _, h3⟩ := S.l20Net_is (n := 9) h1 h2 (Int.le_refl 0) (by decide)
  rw [e2]
  exact ⟨_, rfl, h3⟩
theorem S.DrawWatchCounts_is {code : List Int} (hb : Bytes code) : ∃ net, S.DrawWatchCounts_t code = some net ∧ net.length ≤ 6 := by
  unfold S.DrawWatchCounts_t S.DrawWatchCounts_tree
  obtain ⟨rb, e1, h1, h2⟩ := S.l20Open_is hb
  rw [e1]
  simp only [optC]
  obtain ⟨rp', net, e2, _, _, h3⟩ := S.l20Net_is (n := 9) h1 h2 (Int.le_refl 0) (by decide)
  rw [e2]
  exact ⟨_, rfl, h3⟩
end Go.Proofs.Ytjflfhcdphkejaa
