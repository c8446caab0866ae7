/- Draws of chapters 3 to 5. Conditions: those of each theorem. -/
import Derived.Test.YtojgnfejoeaehaaDr2
import Derived.Test.YtojgnfejoeaehaaS3
namespace Go.Proofs.Ytojgnfejoeaehaa
open D Go.RowKit
set_option linter.unusedVariables false
set_option linter.unusedSimpArgs false


theorem S.l20Order_in {rb : List Int} {rp n : Int} (m : Nat) (hb : Bytes rb) (hl : rb.length ≤ 2000) (h0 : 0 ≤ rp) (h1 : rp ≤ 1000000) (hm : m ≤ 6) :
    ∃ rp' o, S.l20Order_run3 (m : Int) n FUEL (0, rb, rp, []) = some (rb, rp', o) ∧ rp ≤ rp' ∧ rp' ≤ rp + 6 ∧ o.length = m ∧ ∀ x ∈ o, 0 ≤ x ∧ x < m := by
  have := run_post (run := S.l20Order_run3 (m : Int) n) (fun s => ∃ k : Nat, k ≤ m ∧ s.1 = k ∧ s.2.1 = rb ∧ rp ≤ s.2.2.1 ∧ s.2.2.1 ≤ rp + k ∧ s.2.2.2.length = k ∧ ∀ x ∈ s.2.2.2, 0 ≤ x ∧ x < m) (fun s => m - s.1.toNat) (fun d => d.1 = rb ∧ rp ≤ d.2.1 ∧ d.2.1 ≤ rp + 6 ∧ d.2.2.length = m ∧ ∀ x ∈ d.2.2, 0 ≤ x ∧ x < m)
    (fun f s => ?_) (s := (0, rb, rp, [])) ⟨0, by omega, rfl, rfl, by simp, by simp, rfl, fun x hx => by cases hx⟩ (by simp; omega)
  · obtain ⟨⟨d1, d2, d3⟩, e, rfl, g1, g2, g3, g4⟩ := this
    exact ⟨d2, d3, e, g1, g2, g3, g4⟩
  · obtain ⟨s1, s2, s3, s4⟩ := s
    rintro ⟨k, hk, i1, i2, i3, i4, i5, i6⟩
    simp only at i1 i2 i3 i4 i5 i6
    subst i1 i2
    by_cases hlt : k < m
    · right
      obtain ⟨v, e2, b1, b2⟩ := S.l20Rd_pick_is (rp := s3) (n := ((s4.length + 1 : Nat) : Int)) hb hl (by omega) (by omega)
      have b2' := b2 (by omega)
      simp only [S.l20Order_run3, S.l20Order_step3]
      rw [cnd_t (by simp; omega), add1_nat (by omega), e2]
      simp only [optC]
      rw [cnd_t (by simp; omega), cnd_t (small_of (by simp; omega)), cnd_t (small_of (by simp; omega)), cnd_t (by simp; omega), cnd_t (small_of (by simp; omega)), add1_nat (by omega)]
      refine ⟨_, rfl, ⟨k + 1, by omega, rfl, rfl, by simp only; omega, by simp only; omega, ?_, fun x hx => ?_⟩, by simp only [Int.toNat_natCast]; omega⟩
      · simp only [List.nil_append, List.drop_zero, List.length_append, List.length_take, List.length_drop, List.length_singleton]
        omega
      · simp only [List.nil_append, List.drop_zero, List.mem_append, List.mem_singleton] at hx
        rcases hx with (hx | hx) | hx
        · exact i6 x (List.mem_of_mem_take hx)
        · rw [hx]; omega
        · exact i6 x (List.mem_of_mem_drop (List.mem_of_mem_take hx))
    · left
      simp only [S.l20Order_run3, S.l20Order_step3]
      rw [cnd_f (by simp; omega)]
      exact ⟨_, rfl, rfl, by omega, by simp only; omega, by simp only; omega, i6⟩
theorem S.l20Order_zero {rb : List Int} {rp : Int} (m : Nat) (hb : Bytes rb) (hl : rb.length ≤ 2000) (h0 : 0 ≤ rp) (h1 : rp ≤ 1000000) (hm : m ≤ 6) :
    ∃ rp' o, S.l20Order_t rb rp (m : Int) 0 = some (rb, rp', o) ∧ rp ≤ rp' ∧ rp' ≤ rp + 6 ∧ o.length = m ∧ ∀ x ∈ o, 0 ≤ x ∧ x < m := by
  unfold S.l20Order_t S.l20Order_tree
  obtain ⟨rp1, o, e1, a1, a2, a3, a4⟩ := S.l20Order_in (n := 0) m hb hl h0 h1 hm
  rw [e1]
  simp only [optC]
  have e2 : S.l20Rd_odd_t rb rp1 0 = some (false, rb, rp1) := by unfold S.l20Rd_odd_t S.l20Rd_odd_tree; rw [cnd_f (by decide)]
  rw [e2]
  exact ⟨_, _, rfl, a1, a2, a3, a4⟩
theorem S.l20Apart_is {rb : List Int} {rp n : Int} (hb : Bytes rb) (hl : rb.length ≤ 2000) (h0 : 0 ≤ rp) (h1 : rp ≤ 900000) :
    ∃ rp' net v, S.l20Apart_t rb rp n = some (v, rb, rp', net) ∧ rp ≤ rp' ∧ rp' ≤ rp + 400 ∧ net.length ≤ 6 ∧ 0 ≤ v ∧ v < 128 := by
  unfold S.l20Apart_t S.l20Apart_tree
  obtain ⟨rp1, net, v, e1, a1, a2, a3, a4, a5⟩ := S.l20Set_is (n := n) hb hl h0 (by omega)
  rw [e1]
  simp only [optC]
  rcases NetOk_cases net with ⟨h, g1, g2⟩ | ⟨_, g1, g2⟩
  · rw [g2]
    simp only [cond_true]
    have h64 := h.pow
    obtain ⟨u, e2, b1, b2⟩ := S.l20Rd_pick_is (rp := rp1) (n := 3) hb hl (by omega) (by omega)
    rw [e2]
    simp only
    by_cases hu : u > 0
    · rw [cnd_t (by simpa using hu)]
      obtain ⟨rp2, o, e3, c1, c2, c3, c4⟩ := S.l20Order_zero (rp := rp1 + 1) net.length hb hl (by omega) (by omega) a3
      rw [e3]
      simp only
      have := run_post (run := S.l20Apart_run6) (fun s => ∃ (t k : Nat) (rq : Int), s = ((t : Int), (k : Int), rb, rq, net, o) ∧ t < 2 ^ net.length ∧ k ≤ net.length ∧ rp2 ≤ rq ∧ rq ≤ rp2 + k) (fun s => net.length - s.2.1.toNat)
        (fun d => ∃ (t : Nat) (rq : Int), d = ((t : Int), rb, rq, net) ∧ t < 2 ^ net.length ∧ rp2 ≤ rq ∧ rq ≤ rp2 + 6) (fun f s => ?_) (s := (0, 0, rb, rp2, net, o)) ⟨0, 0, rp2, rfl, Nat.two_pow_pos _, by omega, by omega, by omega⟩ (by simp; omega)
      · obtain ⟨d, e4, t, rq, rfl, d1, d2, d3⟩ := this
        rw [e4]
        exact ⟨_, _, _, rfl, by simp only; omega, by simp only; omega, a3, by simp only; omega, by simp only; omega⟩
      · rintro ⟨t, k, rq, rfl, i1, i2, i3, i4⟩
        simp only [S.l20Apart_run6, S.l20Apart_step6]
        by_cases hlt : k < net.length
        · right
          have hx := c4 _ (eli_mem (l := o) (k := k) (by omega))
          obtain ⟨w, hw⟩ : ∃ w : Nat, D.eli o k = w := ⟨(D.eli o k).toNat, by omega⟩
          have hwl : w < net.length := by omega
          have hpw : 2 ^ w < 2 ^ net.length := Nat.pow_lt_pow_right (by omega) hwl
          have hek : D.eli o (k : Int).toNat = (w : Int) := by rw [Int.toNat_natCast]; exact hw
          rw [hek, cnd_t (by simp; omega), cnd_t (by simp; omega), cnd_t (by simp; omega), cnd_t (by simp; omega), cnd_t (by simp; omega)]
          rw [add1_nat (by omega)]
          cases hcd : (bits .and .i64 (D.eli net (w : Int).toNat) (t : Int) == 0) with
          | true =>
            rw [cond_true]
            obtain ⟨x, e5, f1, f2⟩ := S.l20Rd_pick_is (rp := rq) (n := 4) hb hl (by omega) (by omega)
            rw [e5]
            simp only [optC]
            by_cases hx0 : x > 0
            · rw [cnd_t (by simpa using hx0), cnd_t (by simp; omega), cnd_t (by simp; omega), cnd_f (by simp), one_shl (by omega), i64_or_nat _ _ (by omega) (by omega)]
              exact ⟨_, rfl, ⟨_, k + 1, _, rfl, Nat.or_lt_two_pow i1 hpw, by omega, by omega, by omega⟩, by simp only [Int.toNat_natCast]; omega⟩
            · rw [cnd_f (by simpa using hx0)]
              exact ⟨_, rfl, ⟨_, k + 1, _, rfl, i1, by omega, by omega, by omega⟩, by simp only [Int.toNat_natCast]; omega⟩
          | false =>
            rw [cond_false]
            exact ⟨_, rfl, ⟨_, k + 1, _, rfl, i1, by omega, by omega, by omega⟩, by simp only [Int.toNat_natCast]; omega⟩
        · left
          rw [cnd_f (by simp; omega)]
          exact ⟨_, rfl, t, rq, rfl, i1, by omega, by omega⟩
    · rw [cnd_f (by simpa using hu)]
      exact ⟨_, _, _, rfl, by omega, by omega, a3, a4, a5⟩
  · rw [g2]
    simp only [cond_false]
    exact ⟨_, _, _, rfl, by omega, by omega, a3, a4, a5⟩
theorem S.DrawFullNeedsOk_is {code : List Int} (hb : Bytes code) : ∃ (v : Nat) (net : List Int), S.DrawFullNeedsOk_t code = some ((v : Int), net) ∧ net.length ≤ 6 ∧ v < 128 := by
  unfold S.DrawFullNeedsOk_t S.DrawFullNeedsOk_tree
  obtain ⟨rb, e1, h1, h2⟩ := S.l20Open_is hb
  rw [e1]
  simp only [optC]
  obtain ⟨rp', net, v, e2, _, _, h3, h4, h5⟩ := S.l20Watch_is (n := 12) h1 h2 (Int.le_refl 0) (by decide)
  rw [e2]
  obtain ⟨w, rfl⟩ : ∃ w : Nat, v = w := ⟨v.toNat, by omega⟩
  exact ⟨_, _, rfl, h3, by omega⟩
theorem S.DrawSeenTwice_is {code : List Int} (hb : Bytes code) : ∃ (v : Nat) (net : List Int), S.DrawSeenTwice_t code = some ((v : Int), net) ∧ net.length ≤ 6 ∧ v < 128 := by
  unfold S.DrawSeenTwice_t S.DrawSeenTwice_tree
  obtain ⟨rb, e1, h1, h2⟩ := S.l20Open_is hb
  rw [e1]
  simp only [optC]
  obtain ⟨rp', net, v, e2, _, _, h3, h4, h5⟩ := S.l20Set_is (n := 12) h1 h2 (Int.le_refl 0) (by decide)
  rw [e2]
  obtain ⟨w, rfl⟩ : ∃ w : Nat, v = w := ⟨v.toNat, by omega⟩
  exact ⟨_, _, rfl, h3, by omega⟩
theorem S.DrawApartOk_is {code : List Int} (hb : Bytes code) : ∃ (v : Nat) (net : List Int), S.DrawApartOk_t code = some ((v : Int), net) ∧ net.length ≤ 6 ∧ v < 128 := by
  unfold S.DrawApartOk_t S.DrawApartOk_tree
  obtain ⟨rb, e1, h1, h2⟩ := S.l20Open_is hb
  rw [e1]
  simp only [optC]
  obtain ⟨rp', net, v, e2, _, _, h3, h4, h5⟩ := S.l20Apart_is (n := 12) h1 h2 (Int.le_refl 0) (by decide)
  rw [e2]
  obtain ⟨w, rfl⟩ : ∃ w : Nat, v = w := ⟨v.toNat, by omega⟩
  exact ⟨_, _, rfl, h3, by omega⟩
theorem S.DrawGrownApart_is {code : List Int} (hb : Bytes code) : ∃ (v : Nat) (net : List Int), S.DrawGrownApart_t code = some ((v : Int), net) ∧ net.length ≤ 6 ∧ v < 128 := by
  unfold S.DrawGrownApart_t S.DrawGrownApart_tree
  obtain ⟨rb, e1, h1, h2⟩ := S.l20Open_is hb
  rw [e1]
  simp only [optC]
  obtain ⟨rp', net, v, e2, _, _, h3, h4, h5⟩ := S.l20Apart_is (n := 12) h1 h2 (Int.le_refl 0) (by decide)
  rw [e2]
  obtain ⟨w, rfl⟩ : ∃ w : Nat, v = w := ⟨v.toNat, by omega⟩
  exact ⟨_, _, rfl, h3, by omega⟩
theorem S.DrawFullApartOk_is {code : List Int} (hb : Bytes code) : ∃ (v : Nat) (net : List Int), S.DrawFullApartOk_t code = some ((v : Int), net) ∧ net.length ≤ 6 ∧ v < 128 := by
  unfold S.DrawFullApartOk_t S.DrawFullApartOk_tree
  obtain ⟨rb, e1, h1, h2⟩ := S.l20Open_is hb
  rw [e1]
  simp only [optC]
  obtain ⟨rp', net, v, e2, a1, a2, h3, h4, h5⟩ := S.l20Apart_is (n := 12) h1 h2 (Int.le_refl 0) (by decide)
  rw [e2]
  obtain ⟨w, rfl⟩ : ∃ w : Nat, v = w := ⟨v.toNat, by omega⟩
  simp only
  obtain ⟨x, e3, _, _⟩ := S.l20Rd_pick_is (rp := rp') (n := 2) h1 h2 (by omega) (by omega)
  rw [e3]
  simp only
  by_cases hx : x = 0
  · rw [cnd_t (by simpa using hx)]
    rcases NetOk_cases net with ⟨h, g1, g2⟩ | ⟨_, g1, g2⟩
    · rw [S.ApartOk_n h g2]
      simp only
      have h64 := h.pow
      cases hA : (decide (0 ≤ (w : Int) ∧ (w : Int) < 2 ^ net.length) && apart net (w : Int).toNat) with
      | false => exact ⟨_, _, rfl, h3, by omega⟩
      | true =>
        rw [Bool.and_eq_true] at hA
        have hd := dec_true hA.1
        rw [two_pow_cast] at hd
        have hwl : w < 2 ^ net.length := by omega
        have hap : apart net w = true := hA.2
        have hg := (grown_is h hwl ((apart_iff hwl).1 hap)).1
        rw [cond_true, S.GrownApart_n h g2]
        simp only
        unfold grownI
        rw [if_pos ⟨by rw [two_pow_cast]; omega, hap⟩]
        exact ⟨_, _, rfl, h3, by rw [Int.toNat_natCast]; omega⟩
    · have : S.ApartOk_t net (w : Int) = some false := S.ApartOk_x g2 _
      rw [this]
      exact ⟨_, _, rfl, h3, by omega⟩
  · rw [cnd_f (by simpa using hx)]
    exact ⟨_, _, rfl, h3, by omega⟩
theorem S.DrawNeedsAllOk_is {code : List Int} (hb : Bytes code) : ∃ (v : Nat) (net : List Int), S.DrawNeedsAllOk_t code = some ((v : Int), net) ∧ net.length ≤ 6 ∧ v < 128 := by
  unfold S.DrawNeedsAllOk_t S.DrawNeedsAllOk_tree
  obtain ⟨rb, e1, h1, h2⟩ := S.l20Open_is hb
  rw [e1]
  simp only [optC]
  obtain ⟨rp', net, v, e2, a1, a2, h3, h4, h5⟩ := S.l20Watch_is (n := 12) h1 h2 (Int.le_refl 0) (by decide)
  rw [e2]
  obtain ⟨w, rfl⟩ : ∃ w : Nat, v = w := ⟨v.toNat, by omega⟩
  simp only
  obtain ⟨x, e3, x1, x2⟩ := S.l20Rd_pick_is (rp := rp') (n := 64) h1 h2 (by omega) (by omega)
  have x3 := x2 (by decide)
  rw [e3]
  simp only
  obtain ⟨y, e4, y1, y2⟩ := S.l20Rd_pick_is (rp := rp' + 1) (n := 64) h1 h2 (by omega) (by omega)
  have y3 := y2 (by decide)
  rw [e4]
  simp only
  obtain ⟨z, e5, z1, z2⟩ := S.l20Rd_pick_is (rp := rp' + 1 + 1) (n := 2) h1 h2 (by omega) (by omega)
  have z3 := z2 (by decide)
  rw [e5]
  simp only
  obtain ⟨x, rfl⟩ : ∃ x' : Nat, x = x' := ⟨x.toNat, by omega⟩
  obtain ⟨y, rfl⟩ : ∃ y' : Nat, y = y' := ⟨y.toNat, by omega⟩
  obtain ⟨z, rfl⟩ : ∃ z' : Nat, z = z' := ⟨z.toNat, by omega⟩
  have o1 : x ||| y < 2 ^ 7 := Nat.or_lt_two_pow (by omega) (by omega)
  have o2 : (x ||| y) ||| z * 64 < 2 ^ 7 := Nat.or_lt_two_pow o1 (by omega)
  have o3 : w &&& ((x ||| y) ||| z * 64) ≤ w := Nat.and_le_left
  rw [i64_or_nat x y (by omega) (by omega), show IntKind.i64.wrap ((z : Int) * 64) = ((z * 64 : Nat) : Int) from mul_nat (b := 64) (by omega), i64_or_nat _ _ (by omega) (by omega), i64_and_nat _ _ (by omega) (by omega)]
  exact ⟨_, _, rfl, h3, by omega⟩
theorem S.DrawPrivateOf_is {code : List Int} (hb : Bytes code) : ∃ (v g : Nat) (net : List Int), S.DrawPrivateOf_t code = some ((v : Int), (g : Int), net) ∧ net.length ≤ 6 ∧ v < 65536 ∧ g ≤ 12 := by
  unfold S.DrawPrivateOf_t S.DrawPrivateOf_tree
  obtain ⟨rb, e1, h1, h2⟩ := S.l20Open_is hb
  rw [e1]
  simp only [optC]
  obtain ⟨rp', net, v, e2, a1, a2, h3, h4, h5⟩ := S.l20Watch_is (n := 14) h1 h2 (Int.le_refl 0) (by decide)
  rw [e2]
  obtain ⟨w, rfl⟩ : ∃ w : Nat, v = w := ⟨v.toNat, by omega⟩
  simp only
  obtain ⟨x, e3, x1, x2⟩ := S.l20Rd_pick_is (rp := rp') (n := if 1 > (net.length : Int) then 1 else (net.length : Int)) h1 h2 (by omega) (by omega)
  have x3 : x < 7 := by
    have := x2 (by split <;> omega)
    split at this <;> omega
  rw [e3]
  simp only
  obtain ⟨y, e4, y1, y2⟩ := S.l20Rd_pick_is (rp := rp' + 1) (n := 40) h1 h2 (by omega) (by omega)
  have y3 := y2 (by decide)
  rw [e4]
  simp only
  obtain ⟨z, e5, z1, z2⟩ := S.l20Rd_pick_is (rp := rp' + 1 + 1) (n := 2) h1 h2 (by omega) (by omega)
  rw [e5]
  simp only
  obtain ⟨g, hg, hgl⟩ : ∃ g : Nat, IntKind.i64.wrap (x + IntKind.i64.wrap (IntKind.i64.wrap (y.tdiv 39) * 6)) = (g : Int) ∧ g ≤ 12 := by
    rcases tdiv_small (v := y) (a := 39) y1 (by omega) with hh | hh
    · rw [hh, i64_wrap (n := 0) (by decide) (by decide), i64_wrap (n := 0 * 6) (by decide) (by decide), i64_wrap (by omega) (by omega)]
      exact ⟨x.toNat, by omega, by omega⟩
    · rw [hh, i64_wrap (n := 1) (by decide) (by decide), i64_wrap (n := 1 * 6) (by decide) (by decide), i64_wrap (by omega) (by omega)]
      exact ⟨(x + 6).toNat, by omega, by omega⟩
  rw [hg]
  by_cases hz : z = 0
  · have hp : 2 ^ g < 2 ^ 13 := Nat.pow_lt_pow_right (by omega) (by omega)
    have ho : w ||| 2 ^ g < 2 ^ 13 := Nat.or_lt_two_pow (by omega) hp
    rw [cnd_t (by simpa using hz), cnd_f (by simp), one_shl (by omega), i64_or_nat _ _ (by omega) (by omega)]
    exact ⟨_, _, _, rfl, h3, by omega, hgl⟩
  · rw [cnd_f (by simpa using hz)]
    exact ⟨_, _, _, rfl, h3, by omega, hgl⟩
end Go.Proofs.Ytojgnfejoeaehaa
