/- Laws of chapter 3, and of chapter 4 over sets. Conditions: those of each theorem. -/
import Derived.Test.YtojgnfejoeaehaaDr3
import Derived.Test.YtojgnfejoeaehaaL2
import Derived.Test.YtojgnfejoeaehaaI3
namespace Go.Proofs.Ytojgnfejoeaehaa
open D Go.RowKit
set_option linter.unusedVariables false
set_option linter.unusedSimpArgs false


theorem set_lt {net : List Int} {s : Nat} (h : decide (0 ≤ (s : Int) ∧ (s : Int) < 2 ^ net.length) = true) : s < 2 ^ net.length := by
  have := dec_true h
  rw [two_pow_cast] at this; omega
theorem minus_key : ∀ a, a < 64 → ∀ b, b < 64 → (minus b a = 0) → minus a b = a - b ∧ b ≤ a := by decide +kernel
/-- Without the guard the set sees just less by its private places. -/
theorem seen_less {net : List Int} (h : Ok net) {s g : Nat} (hs : s < 2 ^ net.length) (hg : s.testBit g = true) : seen net (s - 2 ^ g) = seen net s - priv net s g ∧ priv net s g ≤ seen net s := by
  have h6 := h.hi
  have hgl := in_lt hs hg
  have h64 := h.pow
  have hp := priv_lt h hs hgl
  have hsl := h.seen_lt hs
  have hsl2 := h.seen_lt (sub_lt (k := g) hs)
  have hsub : ∀ j, (priv net s g).testBit j = true → (seen net s).testBit j = true := fun j hj => (seen_balls h hs).2 ⟨g, hgl, hg, ((priv_testBit h hs hg j).1 hj).1⟩
  obtain ⟨k1, k2⟩ := minus_key (seen net s) (by omega) (priv net s g) (by omega) (by
    refine zero_iff.2 fun j => ?_
    rw [minus_testBit _ _ (by omega) (by omega)]
    cases hb : (priv net s g).testBit j with
    | false => rfl
    | true => rw [hsub j hb]; rfl)
  refine ⟨?_, k2⟩
  rw [← k1]
  apply Nat.eq_of_testBit_eq
  intro j
  rw [minus_testBit _ _ (by omega) (by omega), Bool.eq_iff_iff, Bool.and_eq_true, Bool.not_eq_true', seen_balls h (sub_lt hs), seen_balls h hs]
  constructor
  · rintro ⟨k, hk, a, b⟩
    rw [sub_testBit (by omega) (by omega) hg, Bool.and_eq_true] at a
    refine ⟨⟨k, hk, a.1, b⟩, not_true fun hc => ?_⟩
    have := ((priv_testBit h hs hg j).1 hc).2 k a.1 b
    rw [this] at a; simp at a
  · rintro ⟨⟨k, hk, a, b⟩, c⟩
    by_cases hkg : k = g
    · -- another guard sees it, too
      refine Classical.byContradiction fun hno => ?_
      rw [(priv_testBit h hs hg j).2 ⟨by rw [← hkg]; exact b, fun i hi hb => Classical.byContradiction fun hne => hno ⟨i, in_lt hs hi, by rw [sub_testBit (by omega) (by omega) hg, hi]; simp [hne], hb⟩⟩] at c
      cases c
    · exact ⟨k, hk, by rw [sub_testBit (by omega) (by omega) hg, a]; simp [hkg], b⟩
theorem L.FnPrivateOf_is {code : List Int} (hm : code.length ≤ maxLen) (hw : ∀ n ∈ code, (Lit.int .u8 n).wf = true) : L.FnPrivateOf_t code = some true := by
  unfold L.FnPrivateOf_t L.FnPrivateOf_tree
  by_cases hc : (code.length : Int) > 1048576
  · rw [cnd_t (by simpa using hc)]
  rw [cnd_f (by simpa using hc)]
  obtain ⟨s, g, net, e1, h1, h2, h3⟩ := S.DrawPrivateOf_is (Bytes.wf hw)
  rw [e1]
  simp only [optC]
  rcases NetOk_cases net with ⟨h, g1, g2⟩ | ⟨_, g1, g2⟩
  · have h6 := h.hi
    have h64 := h.pow
    rw [I.PrivateOf_n h g1, S.PrivateOf_n h g2]
    simp only
    rw [cnd_f (by simp)]
    by_cases hA : (0 ≤ (s : Int) ∧ (s : Int) < 2 ^ net.length) ∧ (0 ≤ (g : Int) ∧ (g : Int) < net.length) ∧ (s : Int).toNat.testBit (g : Int).toNat = true
    · have hs : s < 2 ^ net.length := by have := hA.1.2; rw [two_pow_cast] at this; omega
      have hgl : g < net.length := by have := hA.2.1; omega
      have hg : s.testBit g = true := hA.2.2
      have e2 : privI net (s : Int) (g : Int) = ((priv net s g : Nat) : Int) := by unfold privI; rw [if_pos hA]; rfl
      have hp := priv_lt h hs hgl
      have hb := h.ball_lt hgl
      have hge := (bits_sub s (by omega) g (by omega) hg).2.1
      obtain ⟨k1, k2⟩ := seen_less h hs hg
      have hsl := h.seen_lt hs
      rw [e2, cnd_f (by simp), I.BallOf_n h g1 hgl]
      simp only
      rw [i64_andNot_nat _ _ (by omega) (by omega), cnd_t ((and_not_zero (by omega) (by omega)).2 fun j hj => ((priv_testBit h hs hg j).1 hj).1), cnd_f (by simp), one_shl (by omega), sub_nat hge (by omega), I.SeenBy_n h g1 (sub_lt hs), I.SeenBy_n h g1 hs]
      simp only
      rw [sub_nat k2 (by omega), k1]
      simp
    · have e2 : privI net (s : Int) (g : Int) = -1 := by unfold privI; rw [if_neg hA]
      rw [e2, cnd_t (by decide), cnd_t (by decide), L.alive_is]
  · rw [I.PrivateOf_x g1, S.PrivateOf_x g2]
    simp only
    rw [cnd_f (by decide), cnd_t (by decide), cnd_t (by decide), L.alive_is]
theorem L.FnNeedsAllOk_is {code : List Int} (hm : code.length ≤ maxLen) (hw : ∀ n ∈ code, (Lit.int .u8 n).wf = true) : L.FnNeedsAllOk_t code = some true := by
  unfold L.FnNeedsAllOk_t L.FnNeedsAllOk_tree
  by_cases hc : (code.length : Int) > 1048576
  · rw [cnd_t (by simpa using hc)]
  rw [cnd_f (by simpa using hc)]
  obtain ⟨s, net, e1, h1, h2⟩ := S.DrawNeedsAllOk_is (Bytes.wf hw)
  rw [e1]
  simp only [optC]
  rcases NetOk_cases net with ⟨h, g1, g2⟩ | ⟨_, g1, g2⟩
  · have h6 := h.hi
    have h64 := h.pow
    rw [I.NeedsAllOk_n h g1, S.NeedsAllOk_n h g2, g2, pow_shl h]
    simp only
    rw [cnd_f (by simp), Bool.not_true, cond_false]
    by_cases hs : s < 2 ^ net.length
    · rw [cnd_f (by rw [decide_eq_false_iff_not]; omega), set_in hs, Int.toNat_natCast, Bool.true_and]
      have one : ∀ k, k < net.length → I.NeedsAllOk_t net ((2 ^ k : Nat) : Int) = some true := fun k hk => by
        have hpk : 2 ^ k < 2 ^ net.length := Nat.pow_lt_pow_right (by omega) hk
        rw [I.NeedsAllOk_n h g1, set_in hpk, Int.toNat_natCast, (needs_iff h hpk).2 (Needs.one net k)]; rfl
      have zero : I.NeedsAllOk_t net 0 = some true := by
        have := I.NeedsAllOk_n h g1 ((0 : Nat) : Int)
        rw [set_in (Nat.two_pow_pos _), Int.toNat_natCast, (needs_iff h (Nat.two_pow_pos _)).2 (Needs.zero net)] at this
        exact this
      have loop := (run_for (run := L.FnNeedsAllOk_run10 (s : Int) (needs net s)) (len := net.length) (fun k (_ : Unit) => ((k : Int), net)) (fun t k => ()) (fun t => Sum.inr net) (fun k t => True) (by omega) (fun n k t hk ht => ?_) (fun n t ht => ?_) (t0 := ()) trivial).1
      · rw [show L.FnNeedsAllOk_run10 (s : Int) (needs net s) FUEL (0, net) = _ from loop]
        simp only [sumC]
        rw [zero]
        simp only
        rw [cond_true, L.alive_is]
      · refine ⟨?_, trivial⟩
        simp only [L.FnNeedsAllOk_run10, L.FnNeedsAllOk_step10]
        rw [cnd_t (by simp; omega), one_shl (by omega), one k hk, bit_shr _ _ (by omega), bool_eq1, add1_nat (by omega)]
        have k0 : decide ((k : Int) < 0) = false := neg_nat k
        rw [k0]
        cases hN : needs net s with
        | false => rfl
        | true =>
          cases hb : s.testBit k with
          | false => rfl
          | true =>
            have hge := (bits_sub s (by omega) k (by omega) hb).2.1
            have hsl : s - 2 ^ k < 2 ^ net.length := sub_lt hs
            have hsub : needs net (s - 2 ^ k) = true := (needs_iff h hsl).2 (((needs_iff h hs).1 hN).mono fun j hj => by rw [sub_testBit (by omega) (by omega) hb, Bool.and_eq_true] at hj; exact hj.1)
            rw [sub_nat hge (by omega), I.NeedsAllOk_n h g1, set_in hsl, Int.toNat_natCast, hsub]
            rfl
      · simp only [L.FnNeedsAllOk_run10, L.FnNeedsAllOk_step10]
        rw [cnd_f (by simp)]
    · rw [cnd_t (by rw [decide_eq_true_eq]; omega), show decide (0 ≤ (s : Int) ∧ (s : Int) < 2 ^ net.length) = false by rw [two_pow_cast, decide_eq_false_iff_not]; omega, Bool.false_and, cnd_t (by rfl), L.alive_is]
  · rw [I.NeedsAllOk_x g1, S.NeedsAllOk_x g2, g2]
    simp only
    rw [cnd_f (by decide), cnd_t (by decide), cnd_t (by decide), L.alive_is]
theorem L.FnFullNeedsOk_is {code : List Int} (hm : code.length ≤ maxLen) (hw : ∀ n ∈ code, (Lit.int .u8 n).wf = true) : L.FnFullNeedsOk_t code = some true := by
  unfold L.FnFullNeedsOk_t L.FnFullNeedsOk_tree
  by_cases hc : (code.length : Int) > 1048576
  · rw [cnd_t (by simpa using hc)]
  rw [cnd_f (by simpa using hc)]
  obtain ⟨s, net, e1, h1, h2⟩ := S.DrawFullNeedsOk_is (Bytes.wf hw)
  rw [e1]
  simp only [optC]
  rcases NetOk_cases net with ⟨h, g1, g2⟩ | ⟨_, g1, g2⟩
  · have h6 := h.hi
    have h64 := h.pow
    rw [I.FullNeedsOk_n h g1, S.FullNeedsOk_n h g2, g2, pow_shl h]
    simp only
    rw [cnd_f (by simp), Bool.not_true, cond_false]
    by_cases hs : s < 2 ^ net.length
    · rw [cnd_f (by rw [decide_eq_false_iff_not]; omega), set_in hs, Int.toNat_natCast, Bool.true_and, I.LeastWatchOk_n h g1, I.WatchOk_n h g1, I.NeedsAllOk_n h g1, set_in hs, Int.toNat_natCast, L.alive_is]
      simp only [Bool.true_and]
      have hl : least net s = (W net s && needs net s) := by rw [Bool.eq_iff_iff, least_needs h hs, Bool.and_eq_true, needs_iff h hs]
      have hf : least net s = true → fullN net s = true := fun hh => (fullN_iff h hs).2 (least_full h hs hh)
      have hn : fullN net s = true → needs net s = true := fun hh => (needs_iff h hs).2 ((fullN_iff h hs).1 hh).1
      rw [hl] at hf ⊢
      cases hW : W net s <;> cases hN : needs net s <;> cases hF : fullN net s <;> simp_all
    · rw [cnd_t (by rw [decide_eq_true_eq]; omega), show decide (0 ≤ (s : Int) ∧ (s : Int) < 2 ^ net.length) = false by rw [two_pow_cast, decide_eq_false_iff_not]; omega, Bool.false_and, cnd_t (by rfl), L.alive_is]
  · rw [I.FullNeedsOk_x g1, S.FullNeedsOk_x g2, g2]
    simp only
    rw [cnd_f (by decide), cnd_t (by decide), cnd_t (by decide), L.alive_is]
theorem privs_twice {net : List Int} (h : Ok net) {s : Nat} (hs : s < 2 ^ net.length) {p : Nat} (hp : ∀ j, p.testBit j = true ↔ ∃ g, g < net.length ∧ s.testBit g = true ∧ (priv net s g).testBit j = true) : p &&& twice net s = 0 ∧ p ||| twice net s = seen net s := by
  have hT := twice_is h hs
  have key : ∀ j, p.testBit j = true → ∀ a, s.testBit a = true → ∀ b, s.testBit b = true → (ball net a).testBit j = true → (ball net b).testBit j = true → a = b := fun j hj a ha b hb h1 h2 => by
    obtain ⟨g, _, hg, hgp⟩ := (hp j).1 hj
    have hx := ((priv_testBit h hs hg j).1 hgp).2
    rw [hx a ha h1, hx b hb h2]
  constructor
  · refine and_zero.2 fun j hj => not_true fun hc => ?_
    obtain ⟨a, b, ha, hb, hne, h1, h2⟩ := (hT.bit j).1 hj
    exact hne (key j hc a ha b hb h1 h2)
  · apply Nat.eq_of_testBit_eq
    intro j
    rw [Nat.testBit_or, Bool.eq_iff_iff, Bool.or_eq_true, hp, hT.bit, seen_balls h hs]
    constructor
    · rintro (⟨g, hgl, hg, hx⟩ | ⟨a, b, ha, hb, _, h1, _⟩)
      · exact ⟨g, hgl, hg, ((priv_testBit h hs hg j).1 hx).1⟩
      · exact ⟨a, in_lt hs ha, ha, h1⟩
    · rintro ⟨k, hk, hks, hkb⟩
      by_cases hx : ∃ b, s.testBit b = true ∧ b ≠ k ∧ (ball net b).testBit j = true
      · obtain ⟨b, hb, hne, hbb⟩ := hx
        exact .inr ⟨k, b, hks, hb, Ne.symm hne, hkb, hbb⟩
      · exact .inl ⟨k, hk, hks, (priv_testBit h hs hks j).2 ⟨hkb, fun i hi hib => Classical.byContradiction fun hne => hx ⟨i, hi, hne, hib⟩⟩⟩
theorem L.FnSeenTwice_is {code : List Int} (hm : code.length ≤ maxLen) (hw : ∀ n ∈ code, (Lit.int .u8 n).wf = true) : L.FnSeenTwice_t code = some true := by
  unfold L.FnSeenTwice_t L.FnSeenTwice_tree
  by_cases hc : (code.length : Int) > 1048576
  · rw [cnd_t (by simpa using hc)]
  rw [cnd_f (by simpa using hc)]
  obtain ⟨s, net, e1, h1, h2⟩ := S.DrawSeenTwice_is (Bytes.wf hw)
  rw [e1]
  simp only [optC]
  rcases NetOk_cases net with ⟨h, g1, g2⟩ | ⟨_, g1, g2⟩
  · have h6 := h.hi
    have h64 := h.pow
    rw [I.SeenTwice_n h g1, S.SeenTwice_n h g2]
    simp only
    rw [cnd_f (by simp)]
    by_cases hs : s < 2 ^ net.length
    · have e2 : twiceI net (s : Int) = ((twice net s : Nat) : Int) := by unfold twiceI; rw [if_pos (dec_true (set_in hs))]; rfl
      have hT := (twice_is h hs).lt
      rw [e2, cnd_f (by simp)]
      have loop := run_for (run := L.FnSeenTwice_run11 (s : Int) ((twice net s : Nat) : Int)) (len := net.length) (fun k (t : Nat) => ((t : Int), (k : Int), net)) (fun t k => if s.testBit k = true then t ||| priv net s k else t) (fun t => ((t : Int), net)) (fun k t => t < 2 ^ net.length) (by omega) (fun n k t hk ht => ?_) (fun n t ht => ?_) (t0 := 0) (Nat.two_pow_pos _)
      · obtain ⟨loop, hbd⟩ := loop
        rw [show L.FnSeenTwice_run11 (s : Int) ((twice net s : Nat) : Int) FUEL (0, 0, net) = _ from loop]
        have hpv := privs_twice h hs (p := fold net.length (fun t k => if s.testBit k = true then t ||| priv net s k else t) 0) (fun j => orN_testBit net.length (fun k => s.testBit k) (priv net s) j)
        generalize fold net.length (fun t k => if s.testBit k = true then t ||| priv net s k else t) 0 = p at hbd hpv ⊢
        simp only
        rw [i64_and_nat _ _ (by omega) (by omega), hpv.1, cnd_t (by rfl), i64_or_nat _ _ (by omega) (by omega), hpv.2, I.SeenBy_n h g1 hs]
        simp only
        rw [cnd_t (by simp), L.alive_is]
      · have hp := priv_lt h hs hk
        simp only [L.FnSeenTwice_run11, L.FnSeenTwice_step11]
        rw [cnd_t (by simp; omega), cnd_f (by simp), bit_shr _ _ (by omega), bool_eq1]
        cases hb : s.testBit k with
        | true =>
          have e3 : privI net (s : Int) (k : Int) = ((priv net s k : Nat) : Int) := by unfold privI; rw [if_pos ⟨dec_true (set_in hs), by omega, hb⟩]; rfl
          rw [cond_true, I.PrivateOf_n h g1, e3]
          simp only [optC]
          rw [i64_or_nat _ _ (by omega) (by omega), add1_nat (by omega), if_pos trivial]
          exact ⟨rfl, Nat.or_lt_two_pow ht hp⟩
        | false => rw [cond_false, add1_nat (by omega), if_neg (by simp)]; exact ⟨rfl, ht⟩
      · simp only [L.FnSeenTwice_run11, L.FnSeenTwice_step11]
        rw [cnd_f (by simp)]
    · have e2 : twiceI net (s : Int) = -1 := by unfold twiceI; rw [if_neg]; rw [two_pow_cast]; omega
      rw [e2, cnd_t (by decide), cnd_t (by decide), L.alive_is]
  · rw [I.SeenTwice_x g1, S.SeenTwice_x g2]
    simp only
    rw [cnd_f (by decide), cnd_t (by decide), cnd_t (by decide), L.alive_is]
theorem L.FnApartOk_is {code : List Int} (hm : code.length ≤ maxLen) (hw : ∀ n ∈ code, (Lit.int .u8 n).wf = true) : L.FnApartOk_t code = some true := by
  unfold L.FnApartOk_t L.FnApartOk_tree
  by_cases hc : (code.length : Int) > 1048576
  · rw [cnd_t (by simpa using hc)]
  rw [cnd_f (by simpa using hc)]
  obtain ⟨s, net, e1, h1, h2⟩ := S.DrawApartOk_is (Bytes.wf hw)
  rw [e1]
  simp only [optC]
  rcases NetOk_cases net with ⟨h, g1, g2⟩ | ⟨_, g1, g2⟩
  · have h6 := h.hi
    have h64 := h.pow
    rw [I.ApartOk_n h g1, S.ApartOk_n h g2]
    simp only
    rw [cnd_f (by simp)]
    cases hA : (decide (0 ≤ (s : Int) ∧ (s : Int) < 2 ^ net.length) && apart net (s : Int).toNat) with
    | false => rw [cnd_t (by rfl), L.alive_is]
    | true =>
      rw [Bool.and_eq_true] at hA
      have hs := set_lt hA.1
      have hap : Apart net s := (apart_iff hs).1 hA.2
      have zero : I.ApartOk_t net 0 = some true := by
        have := I.ApartOk_n h g1 ((0 : Nat) : Int)
        rw [set_in (Nat.two_pow_pos _), Int.toNat_natCast, (apart_iff (Nat.two_pow_pos _)).2 (Apart.zero net)] at this
        exact this
      rw [cnd_f (by rfl)]
      have loop := (run_for (run := L.FnApartOk_run10 (s : Int)) (len := net.length) (fun k (_ : Unit) => ((k : Int), net)) (fun t k => ()) (fun t => Sum.inr net) (fun k t => True) (by omega) (fun n k t hk ht => ?_) (fun n t ht => ?_) (t0 := ()) trivial).1
      · rw [show L.FnApartOk_run10 (s : Int) FUEL (0, net) = _ from loop]
        simp only [sumC]
        rw [I.NeedsAllOk_n h g1, hA.1, Int.toNat_natCast, (needs_iff h hs).2 (hap.needs h hs), zero]
        rfl
      · refine ⟨?_, trivial⟩
        simp only [L.FnApartOk_run10, L.FnApartOk_step10]
        rw [cnd_t (by simp; omega), cnd_f (by simp), bit_shr _ _ (by omega), bool_eq1, add1_nat (by omega)]
        cases hb : s.testBit k with
        | false => rfl
        | true =>
          have hge := (bits_sub s (by omega) k (by omega) hb).2.1
          have hsl : s - 2 ^ k < 2 ^ net.length := sub_lt hs
          have hsub : apart net (s - 2 ^ k) = true := (apart_iff hsl).2 (hap.mono fun j hj => by rw [sub_testBit (by omega) (by omega) hb, Bool.and_eq_true] at hj; exact hj.1)
          have e3 : privI net (s : Int) (k : Int) = ((priv net s k : Nat) : Int) := by unfold privI; rw [if_pos ⟨dec_true hA.1, by omega, hb⟩]; rfl
          have hpk : (priv net s k).testBit k = true := (priv_testBit h hs hb k).2 ⟨sees_self net k, apart_only h hs hap hb⟩
          rw [cond_true, cnd_f (by simp), one_shl (by omega), sub_nat hge (by omega), I.ApartOk_n h g1, set_in hsl, Int.toNat_natCast, hsub, I.PrivateOf_n h g1, e3]
          simp only [optC]
          rw [cnd_f (by rfl), cnd_f (by simp), bit_shr _ _ (by omega), hpk]
          rfl
      · simp only [L.FnApartOk_run10, L.FnApartOk_step10]
        rw [cnd_f (by simp)]
  · rw [I.ApartOk_x g1, S.ApartOk_x g2]
    simp only
    rw [cnd_f (by decide), cnd_t (by decide), L.alive_is]
theorem L.FnFullApartOk_is {code : List Int} (hm : code.length ≤ maxLen) (hw : ∀ n ∈ code, (Lit.int .u8 n).wf = true) : L.FnFullApartOk_t code = some true := by
  unfold L.FnFullApartOk_t L.FnFullApartOk_tree
  by_cases hc : (code.length : Int) > 1048576
  · rw [cnd_t (by simpa using hc)]
  rw [cnd_f (by simpa using hc)]
  obtain ⟨s, net, e1, h1, h2⟩ := S.DrawFullApartOk_is (Bytes.wf hw)
  rw [e1]
  simp only [optC]
  rcases NetOk_cases net with ⟨h, g1, g2⟩ | ⟨_, g1, g2⟩
  · have h6 := h.hi
    have h64 := h.pow
    rw [I.FullApartOk_n h g1, S.FullApartOk_n h g2, I.ApartOk_n h g1, I.WatchOk_n h g1, I.LeastWatchOk_n h g1, L.alive_is]
    simp only
    rw [cnd_f (by simp)]
    cases hd : decide (0 ≤ (s : Int) ∧ (s : Int) < 2 ^ net.length) with
    | false => rfl
    | true =>
      have hs := set_lt hd
      have hf : fullA net s = (apart net s && W net s) := by rw [Bool.eq_iff_iff, fullA_iff h hs, Bool.and_eq_true, apart_iff hs]
      have hl : fullA net s = true → least net s = true := fun hh => fullA_least h hs hh
      rw [Int.toNat_natCast]
      simp only [Bool.true_and]
      rw [hf] at hl ⊢
      cases hW : W net s <;> cases hA : apart net s <;> simp_all
  · rw [I.FullApartOk_x g1, S.FullApartOk_x g2, I.ApartOk_x g1]
    simp only
    rw [cnd_f (by decide), cnd_f (by decide), cnd_t (by decide), cnd_t (by decide), L.alive_is]
end Go.Proofs.Ytojgnfejoeaehaa
