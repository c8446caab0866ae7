/- The laws of chapter 2: ThinnedWatch, WatchCounts, LeastWatches. Conditions: those of each theorem. -/
import Derived.Test.YtjflfhcdphkejaaL2
namespace Go.Proofs.Ytjflfhcdphkejaa
open D Go.RowKit
set_option linter.unusedVariables false
set_option linter.unusedSimpArgs false


theorem thinStep_sub {net : List Int} {t p : Nat} (ht : t < 64) (hp : p < 6) {j : Nat} (hj : (thinStep net t p).testBit j = true) : t.testBit j = true := by
  unfold thinStep at hj
  split at hj
  · rename_i hc
    rw [Bool.and_eq_true] at hc
    rw [sub_testBit ht hp hc.1, Bool.and_eq_true] at hj
    exact hj.1
  · exact hj
/-- What is left is a least watch within the set. -/
theorem thin_least {net : List Int} (h : Ok net) {s : Nat} (hs : s < 2 ^ net.length) (hw : W net s = true) : thin net s < 2 ^ net.length ∧ least net (thin net s) = true ∧ ∀ j, (thin net s).testBit j = true → s.testBit j = true := by
  have h6 := h.hi
  have key : ∀ k, k ≤ net.length → fold k (fun t k => thinStep net t (net.length - 1 - k)) s < 2 ^ net.length ∧ W net (fold k (fun t k => thinStep net t (net.length - 1 - k)) s) = true ∧
      (∀ j, (fold k (fun t k => thinStep net t (net.length - 1 - k)) s).testBit j = true → s.testBit j = true) ∧
      ∀ q, net.length - k ≤ q → q < net.length → (fold k (fun t k => thinStep net t (net.length - 1 - k)) s).testBit q = true → W net (fold k (fun t k => thinStep net t (net.length - 1 - k)) s - 2 ^ q) = false := by
    intro k
    induction k with
    | zero => intro _; exact ⟨hs, hw, fun j hj => hj, fun q h1 h2 => by omega⟩
    | succ k ih =>
      intro hk
      rw [fold_succ]
      obtain ⟨a, b, c, d⟩ := ih (by omega)
      generalize fold k (fun t k => thinStep net t (net.length - 1 - k)) s = t at a b c d ⊢
      have ht := lt64 h a
      have hp : net.length - 1 - k < 6 := by omega
      have hlt : thinStep net t (net.length - 1 - k) < 2 ^ net.length := thinStep_lt a
      refine ⟨hlt, thinStep_W b, fun j hj => c j (thinStep_sub ht hp hj), fun q h1 h2 hq => ?_⟩
      have hqt := thinStep_sub ht hp hq
      by_cases hqp : q = net.length - 1 - k
      · rw [hqp] at hq hqt ⊢
        unfold thinStep at hq ⊢
        split at hq
        · rw [sub_testBit ht hp hqt] at hq; simp at hq
        · rename_i hc
          rw [if_neg hc]
          rw [hqt, Bool.true_and] at hc
          simpa using hc
      · have hd := d q (by omega) h2 hqt
        cases hx : W net (thinStep net t (net.length - 1 - k) - 2 ^ q) with
        | false => rfl
        | true =>
          rw [W_mono h (sub_lt hlt) (sub_lt a) (fun j hj => ?_) hx] at hd
          · cases hd
          · rw [sub_testBit (lt64 h hlt) (by omega) hq, Bool.and_eq_true] at hj
            rw [sub_testBit ht (by omega) hqt, thinStep_sub ht hp hj.1, Bool.true_and]
            exact hj.2
  obtain ⟨a, b, c, d⟩ := key net.length (Nat.le_refl _)
  exact ⟨a, least_iff.2 ⟨b, fun k hk hb => d k (by omega) hk hb⟩, c⟩
theorem thin_same {net : List Int} (h : Ok net) {s : Nat} (hl : least net s = true) : thin net s = s := by
  have key : ∀ k, k ≤ net.length → fold k (fun t k => thinStep net t (net.length - 1 - k)) s = s := by
    intro k
    induction k with
    | zero => intro _; rfl
    | succ k ih =>
      intro hk
      rw [fold_succ, ih (by omega)]
      unfold thinStep
      rw [if_neg]
      intro hc
      rw [Bool.and_eq_true] at hc
      rw [(least_iff.1 hl).2 _ (by omega) hc.1] at hc
      exact absurd hc.2 (by simp)
  exact key _ (Nat.le_refl _)
theorem L.FnThinnedWatch_is {code : List Int} (hm : code.length ≤ maxLen) (hw : ∀ n ∈ code, (Lit.int .u8 n).wf = true) : L.FnThinnedWatch_t code = some true := by
  unfold L.FnThinnedWatch_t L.FnThinnedWatch_tree
  by_cases hc : (code.length : Int) > 1048576
  · rw [cnd_t (by simpa using hc)]
  rw [cnd_f (by simpa using hc)]
  obtain ⟨s, net, e1, h1, h2⟩ := S.DrawThinnedWatch_is (Bytes.wf hw)
  rw [e1]
  simp only [optC]
  obtain ⟨b, w1, w2⟩ := WatchOk_same (a0 := net) (a1 := (s : Int))
  cases b with
  | false =>
    rw [I.ThinnedWatch_x w2, S.ThinnedWatch_x w1]
    simp only
    rw [cnd_f (by decide), cnd_t (by decide), cnd_t (by decide), w2]
    simp only
    rw [cnd_t (by rfl), L.alive_is]
  | true =>
    rcases NetOk_cases net with ⟨h, g1, g2⟩ | ⟨_, g1, g2⟩
    · have h64 := h.pow
      rw [I.WatchOk_n h g1] at w2
      rcases set_cases h s with ⟨q, hq, hqn, hd⟩ | hd
      · obtain rfl : s = q := by omega
        rw [hd, Bool.true_and, Int.toNat_natCast, Option.some_inj] at w2
        obtain ⟨a, b, c⟩ := thin_least h hqn w2
        have hwt := (least_iff.1 b).1
        rw [I.ThinnedWatch_y h g1 hqn w2, S.ThinnedWatch_y h g2 hqn w2]
        simp only
        rw [cnd_f (by simp), cnd_f (by simp), i64_andNot_nat _ _ (by omega) (by omega), cnd_t ((and_not_zero (by omega) (by omega)).2 c), I.LeastWatchOk_n h g1, set_in a, Int.toNat_natCast, b]
        simp only
        rw [cnd_t (by rfl), I.ThinnedWatch_y h g1 a hwt, thin_same h b]
        simp only
        rw [cnd_t (by simp), L.sizeOf_n (by omega), I.FewestWatch_y h g1]
        have := (fewest_few h).le _ a hwt
        simp only
        congr 1
        rw [decide_eq_true_eq]; omega
      · rw [hd] at w2; cases w2
    · rw [I.WatchOk_x g1] at w2; cases w2

/-! ### Counts -/
def cw (net : List Int) (j : Nat) : Nat := cnt (2 ^ net.length) (fun s => W net s && (size s == j))
theorem counts_at {net : List Int} (h : Ok net) {j : Nat} : D.eli (counts net) j = ((cw net j : Nat) : Int) := by
  have key : ∀ N, N ≤ 2 ^ net.length → (fold N (fun l s => if W net s = true then l.set (size s) (D.eli l (size s) + 1) else l) (List.replicate (net.length + 1) 0)).length = net.length + 1 ∧
      D.eli (fold N (fun l s => if W net s = true then l.set (size s) (D.eli l (size s) + 1) else l) (List.replicate (net.length + 1) 0)) j = ((cnt N (fun s => W net s && (size s == j)) : Nat) : Int) := by
    intro N
    induction N with
    | zero => intro _; exact ⟨by simp [fold_zero], by rw [fold_zero, eli_rep]; rfl⟩
    | succ N ih =>
      intro hN
      rw [fold_succ]
      obtain ⟨a, b⟩ := ih (by omega)
      generalize fold N _ (List.replicate (net.length + 1) 0) = l at a b ⊢
      have hz := size_le_len h (s := N) (by omega)
      have e2 : cnt (N + 1) (fun s => W net s && (size s == j)) = cnt N (fun s => W net s && (size s == j)) + (W net N && (size N == j)).toNat := rfl
      rw [e2]
      cases hW : W net N with
      | false => simp only [Bool.false_eq_true, if_false, Bool.false_and, Bool.toNat_false]; exact ⟨a, by rw [b]; rfl⟩
      | true =>
        simp only [if_true, Bool.true_and]
        refine ⟨by rw [List.length_set]; exact a, ?_⟩
        rw [eli_set (by omega)]
        by_cases hj : size N = j
        · rw [if_pos hj, hj, b]; simp
        · rw [if_neg hj, b, show (size N == j) = false by simpa using hj]; rfl
  exact (key _ (Nat.le_refl _)).2
theorem cw_sum {net : List Int} (h : Ok net) : sumN (net.length + 1) (cw net) = cnt (2 ^ net.length) (W net) := by
  unfold cw cnt
  rw [sumN_swap]
  refine sumN_congr fun s hs => ?_
  have hz := size_le_len h hs
  rw [sumN_one (k := size s) (by omega) (fun j _ hj => by
    show (W net s && (size s == j)).toNat = 0
    rw [show (size s == j) = false by simp; omega, Bool.and_false]; rfl)]
  simp
theorem cw_few {net : List Int} (h : Ok net) : 0 < cw net (fewest net) ∧ ∀ i, i < fewest net → cw net i = 0 := by
  obtain ⟨s, hs, hW, hz⟩ := few_size h
  constructor
  · have := sumN_pos (f := fun s => (W net s && (size s == fewest net)).toNat) hs
    rw [hW, hz] at this
    simp only [BEq.rfl, Bool.and_self, Bool.toNat_true] at this
    exact this
  · intro i hi
    show sumN (2 ^ net.length) (fun s => (W net s && (size s == i)).toNat) = 0
    rw [sumN_congr (g := fun _ => 0) (fun t ht => ?_), sumN_zero]
    cases hWt : W net t with
    | false => rfl
    | true =>
      have := (fewest_few h).le t ht hWt
      rw [show (size t == i) = false by simp; omega]; rfl
theorem cw_last {net : List Int} (h : Ok net) : cw net net.length = 1 := by
  show sumN (2 ^ net.length) (fun s => (W net s && (size s == net.length)).toNat) = 1
  have hsu := allOf_succ net
  rw [sumN_one (k := allOf net) (allOf_lt net) (fun t ht hne => ?_)]
  · rw [W_all h, size_all h]; simp
  · have := size_lt_len h (s := t) (by omega)
    rw [show (size t == net.length) = false by simp; omega, Bool.and_false]; rfl
theorem cw_le {net : List Int} (h : Ok net) (j : Nat) : cw net j ≤ 64 := Nat.le_trans (cnt_le _ _) h.pow
theorem L.sameInts_is {a : List Int} (ha : a.length ≤ 1000000) : L.sameInts_t a a = some true := by
  unfold L.sameInts_t L.sameInts_tree
  have := (run_for (run := L.sameInts_run4 a a) (len := a.length) (fun k (_ : Unit) => (k : Int)) (fun t k => ()) (fun t => Sum.inr ()) (fun k t => True) (by omega) (fun n k t hk ht => ?_) (fun n t ht => ?_) (t0 := ()) trivial).1
  · rw [cnd_f (by simp), show L.sameInts_run4 a a FUEL 0 = _ from this]
    rfl
  · refine ⟨?_, trivial⟩
    simp only [L.sameInts_run4, L.sameInts_step4]
    rw [cnd_t (by simp; omega), cnd_t (by simp; omega), cnd_t (by simp; omega), cnd_f (by simp), add1_nat (by omega)]
  · simp only [L.sameInts_run4, L.sameInts_step4]
    rw [cnd_f (by simp)]
theorem L.FnWatchCounts_is {code : List Int} (hm : code.length ≤ maxLen) (hw : ∀ n ∈ code, (Lit.int .u8 n).wf = true) : L.FnWatchCounts_t code = some true := by
  unfold L.FnWatchCounts_t L.FnWatchCounts_tree
  by_cases hc : (code.length : Int) > 1048576
  · rw [cnd_t (by simpa using hc)]
  rw [cnd_f (by simpa using hc)]
  obtain ⟨net, e1, h1⟩ := S.DrawWatchCounts_is (Bytes.wf hw)
  rw [e1]
  simp only [optC]
  rcases NetOk_cases net with ⟨h, g1, g2⟩ | ⟨_, g1, g2⟩
  · have h6 := h.hi
    have h64 := h.pow
    have hlen := counts_len h
    rw [I.WatchCounts_y h g1, S.WatchCounts_y h g2]
    simp only
    rw [L.sameInts_is (by omega)]
    simp only
    rw [cnd_f (by rfl), cnd_f (by rw [hlen]; simp; omega)]
    have loop := run_for (run := L.FnWatchCounts_run12) (len := net.length + 1) (fun k (t : Nat × Int) => ((t.1 : Int), t.2, (k : Int), net, counts net)) (fun t k => (t.1 + cw net k, if t.2 < 0 ∧ 0 < cw net k then (k : Int) else t.2)) (fun t => ((t.1 : Int), t.2, net, counts net))
      (fun k t => t.1 = sumN k (cw net) ∧ t.1 ≤ 64 * k ∧ ((t.2 = -1 ∧ ∀ i, i < k → cw net i = 0) ∨ ∃ j : Nat, t.2 = j ∧ j < k ∧ 0 < cw net j ∧ ∀ i, i < j → cw net i = 0)) (by omega) (fun n k t hk ht => ?_) (fun n t ht => ?_) (t0 := (0, -1)) ⟨rfl, by simp, .inl ⟨rfl, fun i hi => by omega⟩⟩
    · obtain ⟨loop, l1, l2, l3⟩ := loop
      rw [show L.FnWatchCounts_run12 FUEL (0, -1, 0, net, counts net) = _ from loop]
      generalize fold (net.length + 1) (fun (t : Nat × Int) k => (t.1 + cw net k, if t.2 < 0 ∧ 0 < cw net k then (k : Int) else t.2)) (0, -1) = t at l1 l2 l3 ⊢
      obtain ⟨a, b⟩ := t
      simp only at l1 l2 l3 ⊢
      rw [tmod2_nat, l1, cw_sum h, watch_odd h, cnd_t (by rfl), I.FewestWatch_y h g1]
      simp only
      have hfew := cw_few h
      have hb : b = ((fewest net : Nat) : Int) := by
        rcases l3 with ⟨_, hz⟩ | ⟨j, hj, hjl, hp, hz⟩
        · obtain ⟨s, hs, _, hsz⟩ := few_size h
          have := size_le_len h hs
          have := hz (fewest net) (by omega)
          omega
        · rcases Nat.lt_trichotomy j (fewest net) with hlt | he | hgt
          · have := hfew.2 j hlt; omega
          · rw [hj, he]
          · have := hz _ hgt; omega
      rw [hb, cnd_t (by simp), hlen]
      have ew : IntKind.i64.wrap (((net.length + 1 : Nat) : Int) - 1) = ((net.length : Nat) : Int) := by rw [i64_wrap (by omega) (by omega)]; omega
      rw [ew, cnd_t (by simp; omega), cnd_t (by simp), Int.toNat_natCast, counts_at h, cw_last h, cnd_t (by rfl), add1_nat (by omega)]
      simp
    · obtain ⟨l1, l2, l3⟩ := ht
      have hcl := cw_le h k
      obtain ⟨a, b⟩ := t
      simp only at l1 l2 l3 ⊢
      refine ⟨?_, by rw [l1]; rfl, by omega, ?_⟩
      · simp only [L.FnWatchCounts_run12, L.FnWatchCounts_step12]
        rw [cnd_t (by rw [hlen]; simp; omega), cnd_t (by rw [hlen]; simp; omega), cnd_t (by rw [hlen]; simp; omega), Int.toNat_natCast, counts_at h, add_nat (by omega), add1_nat (by omega)]
        by_cases hb : b < 0
        · rw [cnd_t (by simpa using hb), cnd_t (by rw [hlen]; simp; omega), cnd_t (by rw [hlen]; simp; omega)]
          by_cases hp : 0 < cw net k
          · rw [cnd_t (by simpa using hp), if_pos ⟨hb, hp⟩]
          · rw [cnd_f (by simp; omega), if_neg (fun hh => hp hh.2)]
        · rw [cnd_f (by simp; omega), if_neg (fun hh => hb hh.1)]
      · rcases l3 with ⟨hb, hz⟩ | ⟨j, hj, hjl, hp, hz⟩
        · by_cases hp : 0 < cw net k
          · rw [if_pos ⟨by omega, hp⟩]
            exact .inr ⟨k, rfl, by omega, hp, hz⟩
          · rw [if_neg (fun hh => hp hh.2)]
            exact .inl ⟨hb, fun i hi => by
              by_cases hik : i = k
              · rw [hik]; omega
              · exact hz i (by omega)⟩
        · rw [if_neg (fun hh => by omega)]
          exact .inr ⟨j, hj, by omega, hp, hz⟩
    · simp only [L.FnWatchCounts_run12, L.FnWatchCounts_step12]
      rw [cnd_f (by rw [hlen]; simp)]
  · rw [I.WatchCounts_x g1, S.WatchCounts_x g2]
    simp only
    rw [L.sameInts_is (by simp), g1]
    simp only
    rw [cnd_f (by decide), cnd_t (by decide), cnd_t (by decide), L.alive_is]

/-! ### Least watches -/
theorem L.ascend_is {l : List Int} (hl : l.length ≤ 1000000) (h : ∀ j k, j < k → k < l.length → D.eli l j < D.eli l k) : L.ascend_t l = some true := by
  unfold L.ascend_t L.ascend_tree
  have : L.ascend_run2 l FUEL 1 = some (.inr ()) := by
    refine run_fuel (run := L.ascend_run2 l) (fun x => ∃ k : Nat, x = ((k + 1 : Nat) : Int) ∧ k ≤ l.length) (fun x => l.length + 1 - x.toNat) (fun _ => .inr ()) ?_ ⟨0, rfl, by omega⟩ (by simp; omega)
    rintro n _ ⟨k, rfl, hk⟩
    simp only [L.ascend_run2, L.ascend_step2]
    by_cases hlt : k + 1 < l.length
    · right
      have e1 : IntKind.i64.wrap (((k + 1 : Nat) : Int) - 1) = (k : Int) := by rw [i64_wrap (by omega) (by omega)]; omega
      have hh := h k (k + 1) (by omega) hlt
      rw [cnd_t (by simp; omega), e1, cnd_t (by simp; omega), cnd_t (by simp; omega), Int.toNat_natCast, Int.toNat_natCast, cnd_f (by rw [decide_eq_false_iff_not]; omega), add1_nat (by omega)]
      exact ⟨_, rfl, ⟨k + 1, rfl, by omega⟩, by simp only [Int.toNat_natCast]; omega, trivial⟩
    · left
      rw [cnd_f (by simp; omega)]
  rw [this]; rfl
theorem L.FnLeastWatches_in {net : List Int} (h : Ok net) {s : Nat} (hs : s < 2 ^ net.length) : L.FnLeastWatches_run14 (s : Int) FUEL (false, 0, net, listOfN (2 ^ net.length) (least net)) = some (W net s, net, listOfN (2 ^ net.length) (least net)) := by
  have h64 := h.pow
  have hlen := listOfN_len (2 ^ net.length) (least net)
  have := run_for (run := L.FnLeastWatches_run14 (s : Int)) (len := (listOfN (2 ^ net.length) (least net)).length) (fun k (t : Bool) => (t, (k : Int), net, listOfN (2 ^ net.length) (least net))) (fun t k => t || (minus (D.eli (listOfN (2 ^ net.length) (least net)) k).toNat s == 0)) (fun t => (t, net, listOfN (2 ^ net.length) (least net)))
    (fun k t => t = true ↔ ∃ j, j < k ∧ (minus (D.eli (listOfN (2 ^ net.length) (least net)) j).toNat s == 0) = true) (by omega) (fun n k t hk ht => ?_) (fun n t ht => ?_) (t0 := false) ⟨fun hh => (by cases hh), fun ⟨j, hj, _⟩ => by omega⟩
  · refine this.1.trans ?_
    congr 2
    rw [Bool.eq_iff_iff, this.2]
    constructor
    · rintro ⟨j, hj, he⟩
      obtain ⟨t, ht, hl, hte⟩ := listOfN_eli hj
      rw [hte, Int.toNat_natCast] at he
      have := (and_not_zero (p := t) (s := s) (by omega) (by omega)).1 (by rw [show (((minus t s : Nat) : Int) == 0) = (minus t s == 0) from nat_beq _ 0]; exact he)
      exact W_mono h ht hs this (least_iff.1 hl).1
    · intro hW
      obtain ⟨t, ht, hsub, hl, _⟩ := least_in h 6 s (size_le _) hs hW
      obtain ⟨k, hk, he⟩ := mem_eli ((listOfN_mem (2 ^ net.length) (least net) (t : Int)).2 ⟨t, ht, hl, rfl⟩)
      refine ⟨k, hk, ?_⟩
      rw [he, Int.toNat_natCast]
      have := (and_not_zero (p := t) (s := s) (by omega) (by omega)).2 hsub
      rw [show (((minus t s : Nat) : Int) == 0) = (minus t s == 0) from nat_beq _ 0] at this
      exact this
  · obtain ⟨q, hq, hl, he⟩ := listOfN_eli hk
    refine ⟨?_, ?_⟩
    · simp only [L.FnLeastWatches_run14, L.FnLeastWatches_step14]
      rw [cnd_t (by simp; omega)]
      cases t with
      | true => rw [cond_true, add1_nat (by omega), Bool.true_or]
      | false =>
        rw [cond_false, cnd_t (by simp; omega), cnd_t (by simp; omega), Int.toNat_natCast, he, i64_andNot_nat _ _ (by omega) (by omega), add1_nat (by omega), Int.toNat_natCast, Bool.false_or, show (((minus q s : Nat) : Int) == 0) = (minus q s == 0) from nat_beq _ 0]
    · rw [Bool.or_eq_true, ht]
      constructor
      · rintro (⟨j, hj, a⟩ | a)
        · exact ⟨j, by omega, a⟩
        · exact ⟨k, by omega, a⟩
      · rintro ⟨j, hj, a⟩
        by_cases hjk : j = k
        · rw [hjk] at a; exact .inr a
        · exact .inl ⟨j, by omega, a⟩
  · simp only [L.FnLeastWatches_run14, L.FnLeastWatches_step14]
    rw [cnd_f (by simp)]
theorem L.FnLeastWatches_is {code : List Int} (hm : code.length ≤ maxLen) (hw : ∀ n ∈ code, (Lit.int .u8 n).wf = true) : L.FnLeastWatches_t code = some true := by
  unfold L.FnLeastWatches_t L.FnLeastWatches_tree
  by_cases hc : (code.length : Int) > 1048576
  · rw [cnd_t (by simpa using hc)]
  rw [cnd_f (by simpa using hc)]
  obtain ⟨net, e1, h1⟩ := S.DrawLeastWatches_is (Bytes.wf hw)
  rw [e1]
  simp only [optC]
  rcases NetOk_cases net with ⟨h, g1, g2⟩ | ⟨_, g1, g2⟩
  · have h6 := h.hi
    have h64 := h.pow
    have hlen := listOfN_len (2 ^ net.length) (least net)
    have hpos := leasts_pos h
    rw [I.LeastWatches_y h g1, S.LeastWatches_y h g2]
    simp only
    rw [L.sameInts_is (by omega)]
    simp only
    rw [cnd_f (by rfl), cnd_f (by simp; intro hh; rw [hh] at hpos; simp at hpos)]
    have loop := (run_for (run := L.FnLeastWatches_run10) (len := 2 ^ net.length) (fun k (_ : Unit) => ((k : Int), net, listOfN (2 ^ net.length) (least net))) (fun t k => ()) (fun t => Sum.inr (net, listOfN (2 ^ net.length) (least net))) (fun k t => True) (by omega) (fun n k t hk ht => ?_) (fun n t ht => ?_) (t0 := ()) trivial).1
    · rw [show L.FnLeastWatches_run10 FUEL (0, net, listOfN (2 ^ net.length) (least net)) = _ from loop]
      simp only [sumC]
      have loop2 := (run_for (run := L.FnLeastWatches_run20) (len := (listOfN (2 ^ net.length) (least net)).length) (fun k (_ : Unit) => ((k : Int), net, listOfN (2 ^ net.length) (least net))) (fun t k => ()) (fun t => Sum.inr (listOfN (2 ^ net.length) (least net))) (fun k t => True) (by omega) (fun n k t hk ht => ?_) (fun n t ht => ?_) (t0 := ()) trivial).1
      · rw [show L.FnLeastWatches_run20 FUEL (0, net, listOfN (2 ^ net.length) (least net)) = _ from loop2]
        simp only
        rw [L.ascend_is (by omega) (fun j k hjk hk => listOfN_asc hjk hk)]
      · refine ⟨?_, trivial⟩
        obtain ⟨q, hq, hl, he⟩ := listOfN_eli hk
        simp only [L.FnLeastWatches_run20, L.FnLeastWatches_step20]
        rw [cnd_t (by simp; omega), cnd_t (by simp; omega), cnd_t (by simp; omega), Int.toNat_natCast, he, I.LeastWatchOk_n h g1, set_in hq, Int.toNat_natCast, hl]
        simp only [optC]
        rw [cnd_f (by rfl), add1_nat (by omega)]
      · simp only [L.FnLeastWatches_run20, L.FnLeastWatches_step20]
        rw [cnd_f (by simp)]
    · refine ⟨?_, trivial⟩
      simp only [L.FnLeastWatches_run10, L.FnLeastWatches_step10]
      rw [pow_shl h, cnd_t (by rw [decide_eq_true_eq]; omega), L.FnLeastWatches_in h hk]
      simp only [optC]
      rw [I.WatchOk_n h g1, set_in hk, Int.toNat_natCast]
      simp only
      rw [cnd_f (by simp), add1_nat (by omega)]
    · simp only [L.FnLeastWatches_run10, L.FnLeastWatches_step10]
      rw [pow_shl h, cnd_f (by rw [decide_eq_false_iff_not]; omega)]
  · rw [I.LeastWatches_x g1, S.LeastWatches_x g2]
    simp only
    rw [L.sameInts_is (by simp), g1]
    simp only
    rw [cnd_f (by decide), cnd_t (by decide), cnd_t (by decide), L.alive_is]
end Go.Proofs.Ytjflfhcdphkejaa
