/- A net by other names is as the net was. Conditions: those of each theorem. -/
import Derived.Test.YtpnbeljphimifaaNm
import Derived.Test.YtpnbeljphimifaaL1
namespace Go.Proofs.Ytpnbeljphimifaa
open D Go.RowKit
set_option linter.unusedVariables false
set_option linter.unusedSimpArgs false


theorem NamedTo.nb_ {net o x : List Int} (hx : NamedTo net o x) {k : Nat} (hk : k < net.length) : nb x (oo o k) = named net.length o (nb net k) := by
  have := hx.at_ k hk
  show (D.eli x (oo o k)).toNat = _
  rw [this, Int.toNat_natCast]
theorem NamedTo.bit {net o x : List Int} (ho : Ord net.length o) (hx : NamedTo net o x) {k j : Nat} (hk : k < net.length) (hj : j < net.length) : (nb x (oo o k)).testBit (oo o j) = (nb net k).testBit j := by
  rw [hx.nb_ hk, named_at ho _ hj]
theorem NamedTo.ok {net o x : List Int} (h : Ok net) (ho : Ord net.length o) (hx : NamedTo net o x) : Ok x := by
  have onto : ∀ {v : Nat}, v < net.length → ∃ k, k < net.length ∧ oo o k = v := fun hv => onto_of_inj ho.lt ho.inj hv
  have hl := hx.len
  refine ⟨by rw [hl]; exact h.lo, by rw [hl]; exact h.hi, fun v hv => ?_, fun v hv => ?_, fun u v hu hv => ?_, fun v hv => ?_⟩
  · obtain ⟨k, hk, rfl⟩ := onto (by rw [← hl]; exact hv)
    show D.eli x (oo o k) = _
    rw [hx.at_ k hk, hx.nb_ hk]
  · obtain ⟨k, hk, rfl⟩ := onto (by rw [← hl]; exact hv)
    rw [hx.nb_ hk, hl]; exact named_lt ho _
  · obtain ⟨j, hj, rfl⟩ := onto (by rw [← hl]; exact hu)
    obtain ⟨k, hk, rfl⟩ := onto (by rw [← hl]; exact hv)
    rw [hx.bit ho hk hj, hx.bit ho hj hk]; exact h.sym j k hj hk
  · obtain ⟨k, hk, rfl⟩ := onto (by rw [← hl]; exact hv)
    rw [hx.bit ho hk hk]; exact h.irr k hk
theorem NamedTo.wires_ {net o x : List Int} (h : Ok net) (ho : Ord net.length o) (hx : NamedTo net o x) : wires x = wires net := by
  have hX := hx.ok h ho
  unfold wires
  congr 1
  unfold ends
  rw [hx.len, ← sumN_perm ho.lt ho.inj (fun v => size (nb x v))]
  refine sumN_congr fun k hk => ?_
  have hlt := ho.lt k hk
  rw [size_cnt hX (hX.lt _ (by rw [hx.len]; exact hlt)), size_cnt h (h.lt k hk), hx.len]
  show sumN net.length (fun v => ((nb x (oo o k)).testBit v).toNat) = _
  rw [← sumN_perm ho.lt ho.inj (fun v => ((nb x (oo o k)).testBit v).toNat)]
  exact sumN_congr fun j hj => by rw [hx.bit ho hk hj]
theorem NamedTo.reach {net o x : List Int} (h : Ok net) (ho : Ord net.length o) (hx : NamedTo net o x) {i j : Nat} (hi : i < net.length) (hr : Reach net (allOf net) i j) : j < net.length ∧ Reach x (allOf x) (oo o i) (oo o j) := by
  induction hr with
  | here _ => exact ⟨hi, .here (by rw [allOf_testBit, hx.len]; simpa using ho.lt i hi)⟩
  | step hr hj hn ha ih =>
    have hk := h.nb_lt hj hn
    refine ⟨hk, .step ih.2 (by rw [hx.len]; exact ho.lt _ hj) (by rw [hx.bit ho hj hk]; exact hn) (by rw [allOf_testBit, hx.len]; simpa using ho.lt _ hk)⟩
theorem NamedTo.reach_back {net o x : List Int} (h : Ok net) (ho : Ord net.length o) (hx : NamedTo net o x) {i v : Nat} (hi : i < net.length) (hr : Reach x (allOf x) (oo o i) v) : ∃ j, j < net.length ∧ oo o j = v ∧ Reach net (allOf net) i j := by
  have hX := hx.ok h ho
  induction hr with
  | here _ => exact ⟨i, hi, rfl, .here (by rw [allOf_testBit]; simpa using hi)⟩
  | step hr hj hn ha ih =>
    obtain ⟨j, hjl, rfl, hjr⟩ := ih
    have hk := hX.nb_lt hj hn
    rw [hx.len] at hk
    obtain ⟨k, hkl, rfl⟩ := onto_of_inj ho.lt ho.inj hk
    rw [hx.bit ho hjl hkl] at hn
    exact ⟨k, hkl, rfl, .step hjr hjl hn (by rw [allOf_testBit]; simpa using hkl)⟩
theorem NamedTo.comp_ {net o x : List Int} (h : Ok net) (ho : Ord net.length o) (hx : NamedTo net o x) {i j : Nat} (hi : i < net.length) (hj : j < net.length) : (comp x (oo o i)).testBit (oo o j) = (comp net i).testBit j := by
  have hX := hx.ok h ho
  rw [Bool.eq_iff_iff, hX.comp_testBit (by rw [hx.len]; exact ho.lt i hi), h.comp_testBit hi]
  constructor
  · intro hr
    obtain ⟨k, hk, he, hkr⟩ := hx.reach_back h ho hi hr
    rw [← ho.inj k j hk hj he]; exact hkr
  · intro hr; exact (hx.reach h ho hi hr).2
theorem NamedTo.parts_ {net o x : List Int} (h : Ok net) (ho : Ord net.length o) (hx : NamedTo net o x) : parts x = parts net := by
  have hX := hx.ok h ho
  have hl := hx.len
  rw [parts_cnt, parts_cnt, hl]
  -- the least place of the part of a place
  have hrx : ∀ v, ∃ r, v < net.length → r < net.length ∧ root x r = true ∧ comp x r = comp x v := fun v => by
    by_cases hv : v < net.length
    · obtain ⟨r, a, b, c⟩ := root_of hX (k := v) (by rw [hl]; exact hv)
      exact ⟨r, fun _ => ⟨by omega, b, c⟩⟩
    · exact ⟨0, fun hh => absurd hh hv⟩
  have hrn : ∀ v, ∃ r, v < net.length → r < net.length ∧ root net r = true ∧ ∃ k, k < net.length ∧ oo o k = v ∧ comp net r = comp net k := fun v => by
    by_cases hv : v < net.length
    · obtain ⟨k, hk, he⟩ := onto_of_inj ho.lt ho.inj hv
      obtain ⟨r, a, b, c⟩ := root_of h hk
      exact ⟨r, fun _ => ⟨by omega, b, k, hk, he, c⟩⟩
    · exact ⟨0, fun hh => absurd hh hv⟩
  apply Nat.le_antisymm
  · refine cnt_inj (fun v => Classical.choose (hrn v)) (fun v hv hr => ?_) (fun u v hu hv hru hrv he => ?_)
    · have := Classical.choose_spec (hrn v) hv
      exact ⟨this.1, this.2.1⟩
    · obtain ⟨_, _, j, hj, hju, hjc⟩ := Classical.choose_spec (hrn u) hu
      obtain ⟨_, _, k, hk, hkv, hkc⟩ := Classical.choose_spec (hrn v) hv
      rw [he] at hjc
      have hjk : comp net j = comp net k := hjc.symm.trans hkc
      have : (comp x (oo o j)).testBit (oo o k) = true := by rw [hx.comp_ h ho hj hk, hjk]; exact h.comp_self hk
      rw [hju, hkv] at this
      exact root_same hX (by rw [hl]; exact hu) (by rw [hl]; exact hv) hru hrv (hX.comp_same (by rw [hl]; exact hu) (by rw [hl]; exact hv) this)
  · refine cnt_inj (fun k => Classical.choose (hrx (oo o k))) (fun k hk hr => ?_) (fun j k hj hk hrj hrk he => ?_)
    · have := Classical.choose_spec (hrx (oo o k)) (ho.lt k hk)
      exact ⟨this.1, this.2.1⟩
    · have h1 := Classical.choose_spec (hrx (oo o j)) (ho.lt j hj)
      have h2 := Classical.choose_spec (hrx (oo o k)) (ho.lt k hk)
      rw [he] at h1
      have hjk : comp x (oo o j) = comp x (oo o k) := h1.2.2.symm.trans h2.2.2
      have : (comp net j).testBit k = true := by rw [← hx.comp_ h ho hj hk, hjk]; exact hX.comp_self (by rw [hl]; exact ho.lt k hk)
      exact root_same h hj hk hrj hrk (h.comp_same hj hk this)
theorem NamedTo.ball_ {net o x : List Int} (ho : Ord net.length o) (hx : NamedTo net o x) {k : Nat} (hk : k < net.length) : ball x (oo o k) = named net.length o (ball net k) := by
  apply Nat.eq_of_testBit_eq
  intro v
  rw [Bool.eq_iff_iff, ball_testBit, hx.nb_ hk, named_testBit, named_testBit]
  constructor
  · rintro (⟨j, hj, a, b⟩ | rfl)
    · exact ⟨j, hj, (ball_testBit _ _ _).2 (.inl a), b⟩
    · exact ⟨k, hk, (ball_testBit _ _ _).2 (.inr rfl), rfl⟩
  · rintro ⟨j, hj, a, b⟩
    rcases (ball_testBit _ _ _).1 a with a | rfl
    · exact .inl ⟨j, hj, a, b⟩
    · exact .inr b
theorem L.sameInts_is2 {a : List Int} (ha : a.length ≤ 1000000) : L.sameInts_t a a = some true := by
  unfold L.sameInts_t L.sameInts_tree
  have := (run_for (run := L.sameInts_run4 a a) (len := a.length) (fun k (_ : Unit) => (k : Int)) (fun t k => ()) (fun t => Sum.inr ()) (fun k t => True) (by omega) (fun n k t hk ht => ?_) (fun n t ht => ?_) (t0 := ()) trivial).1
  · rw [cnd_f (by simp), show L.sameInts_run4 a a FUEL 0 = _ from this]
    rfl
  · refine ⟨?_, trivial⟩
    simp only [L.sameInts_run4, L.sameInts_step4]
    rw [cnd_t (by simp; omega), cnd_t (by simp; omega), cnd_t (by simp; omega), cnd_f (by simp), add1_nat (by omega)]
  · simp only [L.sameInts_run4, L.sameInts_step4]
    rw [cnd_f (by simp)]
theorem L.FnNamedNet_is {code : List Int} (hm : code.length ≤ maxLen) (hw : ∀ n ∈ code, (Lit.int .u8 n).wf = true) : L.FnNamedNet_t code = some true := by
  unfold L.FnNamedNet_t L.FnNamedNet_tree
  by_cases hc : (code.length : Int) > 1048576
  · rw [cnd_t (by simpa using hc)]
  rw [cnd_f (by simpa using hc)]
  obtain ⟨net, o, e1, h1, h2⟩ := S.DrawNamedNet_is (Bytes.wf hw)
  rw [e1]
  simp only [optC]
  obtain ⟨w, x, s1, i1, hx, hcase⟩ := NamedNet_same (a0 := net) (a1 := o) (by omega)
  rw [i1, s1]
  simp only
  rw [L.sameInts_is2 hx]
  simp only
  rw [cnd_f (by rfl), cnd_f (by simp)]
  rcases hcase with ⟨rfl, rfl⟩ | ⟨rfl, h, ho, hN⟩
  · rw [cnd_t (by rfl), cnd_t (by rfl), L.alive_is]
  · rw [cnd_f (by rfl)]
    have h6 := h.hi
    have h64 := h.pow
    have hX := hN.ok h ho
    have hol := ho.len
    rcases NetOk_cases net with ⟨_, g1, g2⟩ | ⟨hno, _⟩
    · rcases NetOk_cases x with ⟨_, k1, k2⟩ | ⟨hno, _⟩
      · have loop := (run_for (run := L.FnNamedNet_run11) (len := net.length) (fun k (_ : Unit) => ((k : Int), net, o, x)) (fun t k => ()) (fun t => Sum.inr (net, x)) (fun k t => True) (by omega) (fun n k t hk ht => ?_) (fun n t ht => ?_) (t0 := ()) trivial).1
        · rw [show L.FnNamedNet_run11 FUEL (0, net, o, x) = _ from loop]
          simp only [sumC]
          rw [k1, I.WiresOf_n hX k1, I.WiresOf_n h g1, hN.wires_ h ho]
          simp only
          rw [cond_true, cnd_t (by simp), I.PartMany_n hX k1, I.PartMany_n h g1, hN.parts_ h ho]
          simp
        · refine ⟨?_, trivial⟩
          have hlt := ho.lt k hk
          simp only [L.FnNamedNet_run11, L.FnNamedNet_step11]
          rw [cnd_t (by simp; omega), cnd_t (by simp; omega), cnd_t (by simp; omega), Int.toNat_natCast, ho.eq k hk, I.BallOf_n hX k1 (by rw [hN.len]; exact hlt), I.BallOf_n h g1 hk]
          simp only [optC]
          rw [L.namedSet_n ho h6, hN.ball_ ho hk]
          simp only
          rw [cnd_f (by simp), add1_nat (by omega)]
        · simp only [L.FnNamedNet_run11, L.FnNamedNet_step11]
          rw [cnd_f (by simp)]
      · exact absurd hX hno
    · exact absurd h hno
theorem L.FnExactNamedNet_is {a0 : List Int} {a1 : List Int} : L.FnExactNamedNet_t a0 a1 = some true := by
  unfold L.FnExactNamedNet_t L.FnExactNamedNet_tree
  by_cases ha0 : (a0.length : Int) > 1048576
  · rw [cnd_t (by simpa using ha0)]
  rw [cnd_f (by simpa using ha0)]
  by_cases ha1 : (a1.length : Int) > 1048576
  · rw [cnd_t (by simpa using ha1)]
  rw [cnd_f (by simpa using ha1)]
  have ta0 := L.toIntS_is (a := a0) (by omega)
  have ea0 := L.eqIntS_is (a := a0) (b := a0) (by omega)
  have ta1 := L.toIntS_is (a := a1) (by omega)
  have ea1 := L.eqIntS_is (a := a1) (b := a1) (by omega)
  obtain ⟨w, v, h1, h2, hv, _⟩ := NamedNet_same (a0 := a0) (a1 := a1) (by omega)
  obtain ⟨m, m1, m4⟩ := L.marked hv
  have ev := L.eqIntS_is (a := v) (b := v) (by omega)
  obtain ⟨ma0, ka0, _, _⟩ := L.markIntS_is (a := a0) (k0 := 1) (by omega) (by omega)
  have ka0' : L.markIntS_t a0 1 = _ := ka0
  obtain ⟨ma1, ka1, _, _⟩ := L.markIntS_is (a := a1) (k0 := 1 + a0.length) (by omega) (by omega)
  simp only [optC, ta0, ta1, ea0, ea1, h1, h2, ev, m1, m4, ka0', ka1, decide_true, Bool.not_true, cond_false, neg_nat, not_beq_self]
  simp
end Go.Proofs.Ytpnbeljphimifaa
