/- Several texts in one: L9b, L3, L9c, Ex9. Conditions: those of each theorem. -/
import Derived.Test.YtbfgmhhmnnjajaaBzb1
import Derived.Test.YtbfgmhhmnnjajaaBzb0
/- Law of AnsweredAll. Conditions: those of each theorem. -/
namespace Go.Proofs.Ytbfgmhhmnnjajaa
open D Go.RowKit
set_option linter.unusedVariables false
set_option linter.unusedSimpArgs false


theorem L.FnAnsweredAll_is {code : List Int} (hm : code.length ≤ maxLen) (hw : ∀ n ∈ code, (Lit.int .u8 n).wf = true) : L.FnAnsweredAll_t code = some true := by
  unfold L.FnAnsweredAll_t L.FnAnsweredAll_tree
  by_cases hc : (code.length : Int) > 1048576
  · rw [cnd_t (by simpa using hc)]
  rw [cnd_f (by simpa using hc)]
  obtain ⟨s, net, places, e1, h1, h2, h3⟩ := S.DrawAnsweredAll_is (Bytes.wf hw)
  rw [e1]
  simp only [optC]
  rcases NetOk_cases net with ⟨h, g1, g2⟩ | ⟨_, g1, g2⟩
  · have h6 := h.hi
    have h64 := h.pow
    rw [I.AnsweredAll_n h g1 _ (by omega), S.AnsweredAll_n h g2 _ (by omega)]
    simp only
    by_cases hA : (0 ≤ (s : Int) ∧ (s : Int) < 2 ^ net.length) ∧ eternalB net (s : Int).toNat = true
    · have hs : s < 2 ^ net.length := by
        have := hA.1.2
        rw [two_pow_cast] at this; omega
      have he := eternalB_iff.1 hA.2
      rw [Int.toNat_natCast] at he
      have hinv := ans_inv h places hs he places.length
      unfold answeredI
      rw [if_pos hA, Int.toNat_natCast]
      unfold answered
      cases hq : loopE places.length (ansStep net places) (s, [(s : Int)]) with
      | inl d =>
        simp only
        rw [L.sameInts_self (by simp)]
        simp only
        rw [cnd_f (by rfl), cnd_t (by rfl), L.alive_is]
      | inr t =>
        obtain ⟨i1, i2, i3, i4, i5⟩ := hinv t hq
        simp only
        rw [L.sameInts_self (by omega)]
        simp only
        rw [cnd_f (by rfl), cnd_f (by rw [i2]; simp; omega), i2, add1_nat (by omega), cnd_f (by simp), cnd_t (by rw [decide_eq_true_eq]; omega), cnd_t (by rw [decide_eq_true_eq]; omega), i3, cnd_f (by simp)]
        have loop := (run_for (run := L.FnAnsweredAll_run12 (s : Int)) (len := t.2.length) (fun k (_ : Unit) => ((k : Int), net, places, t.2)) (fun t k => ()) (fun _ => Sum.inr ()) (fun k t => True) (by omega) (fun n k u hk _ => by
          simp only [L.FnAnsweredAll_run12, L.FnAnsweredAll_step12]
          obtain ⟨v, v1, v2, v3, v4, _⟩ := i4 k (by omega)
          rw [cnd_t (by rw [decide_eq_true_eq]; omega), cnd_t (by simp only [Bool.and_eq_true, decide_eq_true_eq]; omega), cnd_t (by rw [decide_eq_true_eq]; omega), Int.toNat_natCast, v1, I.EternalOk_n h g1, set_in v2, Int.toNat_natCast, eternalB_iff.2 v3]
          simp only [optC]
          rw [cnd_f (by rfl), cnd_t (by simp only [Bool.and_eq_true, decide_eq_true_eq]; omega), cnd_t (by rw [decide_eq_true_eq]; omega), L.sizeOf_n (by omega)]
          simp only
          rw [L.sizeOf_n (by omega), v4]
          simp only
          rw [cnd_f (by simp), add1_nat (by omega)]
          by_cases hk0 : 0 < k
          · obtain ⟨p, p1, p2, p3⟩ := i5 (k - 1) (by omega)
            rw [show k - 1 + 1 = k by omega, v1, Int.toNat_natCast] at p3
            rw [cnd_t (by rw [decide_eq_true_eq]; omega), cnd_t (by simp only [Bool.and_eq_true, decide_eq_true_eq]; omega), cnd_t (by rw [decide_eq_true_eq]; omega), sub1_nat (by omega) (by omega), cnd_t (by simp only [Bool.and_eq_true, decide_eq_true_eq]; omega), cnd_t (by rw [decide_eq_true_eq]; omega), Int.toNat_natCast, p1, cnd_f (by simp), bit_shr _ _ (by omega), p3]
            exact ⟨rfl, trivial⟩
          · rw [cnd_f (by rw [decide_eq_false_iff_not]; omega)]
            exact ⟨rfl, trivial⟩) (fun n u _ => by
          simp only [L.FnAnsweredAll_run12, L.FnAnsweredAll_step12]
          rw [cnd_f (by rw [decide_eq_false_iff_not]; omega)]) (t0 := ()) trivial).1
        rw [show L.FnAnsweredAll_run12 (s : Int) FUEL (0, net, places, t.2) = _ from loop]
        rfl
    · have e : answeredI net s places = [] := by unfold answeredI; rw [if_neg hA]
      rw [e, L.sameInts_self (by simp)]
      simp only
      rw [cnd_f (by rfl), cnd_t (by rfl), L.alive_is]
  · rw [I.AnsweredAll_x g1, S.AnsweredAll_x g2]
    simp only
    rw [L.sameInts_self (by simp)]
    simp only
    rw [cnd_f (by rfl), cnd_t (by rfl), L.alive_is]
end Go.Proofs.Ytbfgmhhmnnjajaa
/- The laws of chapter 2: ThinnedWatch, WatchCounts, LeastWatches. Conditions: those of each theorem. -/
namespace Go.Proofs.Ytbfgmhhmnnjajaa
open D Go.RowKit
set_option linter.unusedVariables false
set_option linter.unusedSimpArgs false


theorem thinStep_sub {net : List Int} {t p : Nat} (ht : t < 64) (hp : p < 6) {j : Nat} (hj : (thinStep net t p).testBit j = true) : t.testBit j = true := by
  unfold thinStep at hj
  split at hj
  · rename_i hc
    rw [Bool.and_eq_true] at hc
    rw [sub_testBit ht hp hc.1, Bool.and_eq_true] at hj
    exact hj.1
  · exact hj
/-- What is left is a least watch within the set. -/
theorem thin_least {net : List Int} (h : Ok net) {s : Nat} (hs : s < 2 ^ net.length) (hw : W net s = true) : thin net s < 2 ^ net.length ∧ least net (thin net s) = true ∧ ∀ j, (thin net s).testBit j = true → s.testBit j = true := by
  have h6 := h.hi
  have key : ∀ k, k ≤ net.length → fold k (fun t k => thinStep net t (net.length - 1 - k)) s < 2 ^ net.length ∧ W net (fold k (fun t k => thinStep net t (net.length - 1 - k)) s) = true ∧
      (∀ j, (fold k (fun t k => thinStep net t (net.length - 1 - k)) s).testBit j = true → s.testBit j = true) ∧
      ∀ q, net.length - k ≤ q → q < net.length → (fold k (fun t k => thinStep net t (net.length - 1 - k)) s).testBit q = true → W net (fold k (fun t k => thinStep net t (net.length - 1 - k)) s - 2 ^ q) = false := by
    intro k
    induction k with
    | zero => intro _; exact ⟨hs, hw, fun j hj => hj, fun q h1 h2 => by omega⟩
    | succ k ih =>
      intro hk
      rw [fold_succ]
      obtain ⟨a, b, c, d⟩ := ih (by omega)
      generalize fold k (fun t k => thinStep net t (net.length - 1 - k)) s = t at a b c d ⊢
      have ht := lt64 h a
      have hp : net.length - 1 - k < 6 := by omega
      have hlt : thinStep net t (net.length - 1 - k) < 2 ^ net.length := thinStep_lt a
      refine ⟨hlt, thinStep_W b, fun j hj => c j (thinStep_sub ht hp hj), fun q h1 h2 hq => ?_⟩
      have hqt := thinStep_sub ht hp hq
      by_cases hqp : q = net.length - 1 - k
      · rw [hqp] at hq hqt ⊢
        unfold thinStep at hq ⊢
        split at hq
        · rw [sub_testBit ht hp hqt] at hq; simp at hq
        · rename_i hc
          rw [if_neg hc]
          rw [hqt, Bool.true_and] at hc
          simpa using hc
      · have hd := d q (by omega) h2 hqt
        cases hx : W net (thinStep net t (net.length - 1 - k) - 2 ^ q) with
        | false => rfl
        | true =>
          rw [W_mono h (sub_lt hlt) (sub_lt a) (fun j hj => ?_) hx] at hd
          · cases hd
          · rw [sub_testBit (lt64 h hlt) (by omega) hq, Bool.and_eq_true] at hj
            rw [sub_testBit ht (by omega) hqt, thinStep_sub ht hp hj.1, Bool.true_and]
            exact hj.2
  obtain ⟨a, b, c, d⟩ := key net.length (Nat.le_refl _)
  exact ⟨a, least_iff.2 ⟨b, fun k hk hb => d k (by omega) hk hb⟩, c⟩
theorem thin_same {net : List Int} (h : Ok net) {s : Nat} (hl : least net s = true) : thin net s = s := by
  have key : ∀ k, k ≤ net.length → fold k (fun t k => thinStep net t (net.length - 1 - k)) s = s := by
    intro k
    induction k with
    | zero => intro _; rfl
    | succ k ih =>
      intro hk
      rw [fold_succ, ih (by omega)]
      unfold thinStep
      rw [if_neg]
      intro hc
      rw [Bool.and_eq_true] at hc
      rw [(least_iff.1 hl).2 _ (by omega) hc.1] at hc
      exact absurd hc.2 (by simp)
  exact key _ (Nat.le_refl _)
/-! ### Counts -/
def cw (net : List Int) (j : Nat) : Nat := cnt (2 ^ net.length) (fun s => W net s && (size s == j))
theorem counts_at {net : List Int} (h : Ok net) {j : Nat} : D.eli (counts net) j = ((cw net j : Nat) : Int) := by
  have key : ∀ N, N ≤ 2 ^ net.length → (fold N (fun l s => if W net s = true then l.set (size s) (D.eli l (size s) + 1) else l) (List.replicate (net.length + 1) 0)).length = net.length + 1 ∧
      D.eli (fold N (fun l s => if W net s = true then l.set (size s) (D.eli l (size s) + 1) else l) (List.replicate (net.length + 1) 0)) j = ((cnt N (fun s => W net s && (size s == j)) : Nat) : Int) := by
    intro N
    induction N with
    | zero => intro _; exact ⟨by simp [fold_zero], by rw [fold_zero, eli_rep]; rfl⟩
    | succ N ih =>
      intro hN
      rw [fold_succ]
      obtain ⟨a, b⟩ := ih (by omega)
      generalize fold N _ (List.replicate (net.length + 1) 0) = l at a b ⊢
      have hz := size_le_len h (s := N) (by omega)
      have e2 : cnt (N + 1) (fun s => W net s && (size s == j)) = cnt N (fun s => W net s && (size s == j)) + (W net N && (size N == j)).toNat := rfl
      rw [e2]
      cases hW : W net N with
      | false => simp only [Bool.false_eq_true, if_false, Bool.false_and, Bool.toNat_false]; exact ⟨a, by rw [b]; rfl⟩
      | true =>
        simp only [if_true, Bool.true_and]
        refine ⟨by rw [List.length_set]; exact a, ?_⟩
        rw [eli_set (by omega)]
        by_cases hj : size N = j
        · rw [if_pos hj, hj, b]; simp
        · rw [if_neg hj, b, show (size N == j) = false by simpa using hj]; rfl
  exact (key _ (Nat.le_refl _)).2
theorem cw_sum {net : List Int} (h : Ok net) : sumN (net.length + 1) (cw net) = cnt (2 ^ net.length) (W net) := by
  unfold cw cnt
  rw [sumN_swap]
  refine sumN_congr fun s hs => ?_
  have hz := size_le_len h hs
  rw [sumN_one (k := size s) (by omega) (fun j _ hj => by
    show (W net s && (size s == j)).toNat = 0
    rw [show (size s == j) = false by simp; omega, Bool.and_false]; rfl)]
  simp
theorem cw_few {net : List Int} (h : Ok net) : 0 < cw net (fewest net) ∧ ∀ i, i < fewest net → cw net i = 0 := by
  obtain ⟨s, hs, hW, hz⟩ := few_size h
  constructor
  · have := sumN_pos (f := fun s => (W net s && (size s == fewest net)).toNat) hs
    rw [hW, hz] at this
    simp only [BEq.rfl, Bool.and_self, Bool.toNat_true] at this
    exact this
  · intro i hi
    show sumN (2 ^ net.length) (fun s => (W net s && (size s == i)).toNat) = 0
    rw [sumN_congr (g := fun _ => 0) (fun t ht => ?_), sumN_zero]
    cases hWt : W net t with
    | false => rfl
    | true =>
      have := (fewest_few h).le t ht hWt
      rw [show (size t == i) = false by simp; omega]; rfl
theorem cw_last {net : List Int} (h : Ok net) : cw net net.length = 1 := by
  show sumN (2 ^ net.length) (fun s => (W net s && (size s == net.length)).toNat) = 1
  have hsu := allOf_succ net
  rw [sumN_one (k := allOf net) (allOf_lt net) (fun t ht hne => ?_)]
  · rw [W_all h, size_all h]; simp
  · have := size_lt_len h (s := t) (by omega)
    rw [show (size t == net.length) = false by simp; omega, Bool.and_false]; rfl
theorem cw_le {net : List Int} (h : Ok net) (j : Nat) : cw net j ≤ 64 := Nat.le_trans (cnt_le _ _) h.pow
theorem L.sameInts_is {a : List Int} (ha : a.length ≤ 1000000) : L.sameInts_t a a = some true := by
  unfold L.sameInts_t L.sameInts_tree
  have := (run_for (run := L.sameInts_run4 a a) (len := a.length) (fun k (_ : Unit) => (k : Int)) (fun t k => ()) (fun t => Sum.inr ()) (fun k t => True) (by omega) (fun n k t hk ht => ?_) (fun n t ht => ?_) (t0 := ()) trivial).1
  · rw [cnd_f (by simp), show L.sameInts_run4 a a FUEL 0 = _ from this]
    rfl
  · refine ⟨?_, trivial⟩
    simp only [L.sameInts_run4, L.sameInts_step4]
    rw [cnd_t (by simp; omega), cnd_t (by simp; omega), cnd_t (by simp; omega), cnd_f (by simp), add1_nat (by omega)]
  · simp only [L.sameInts_run4, L.sameInts_step4]
    rw [cnd_f (by simp)]
/-! ### Least watches -/
theorem L.ascend_is {l : List Int} (hl : l.length ≤ 1000000) (h : ∀ j k, j < k → k < l.length → D.eli l j < D.eli l k) : L.ascend_t l = some true := by
  unfold L.ascend_t L.ascend_tree
  have : L.ascend_run2 l FUEL 1 = some (.inr ()) := by
    refine run_fuel (run := L.ascend_run2 l) (fun x => ∃ k : Nat, x = ((k + 1 : Nat) : Int) ∧ k ≤ l.length) (fun x => l.length + 1 - x.toNat) (fun _ => .inr ()) ?_ ⟨0, rfl, by omega⟩ (by simp; omega)
    rintro n _ ⟨k, rfl, hk⟩
    simp only [L.ascend_run2, L.ascend_step2]
    by_cases hlt : k + 1 < l.length
    · right
      have e1 : IntKind.i64.wrap (((k + 1 : Nat) : Int) - 1) = (k : Int) := by rw [i64_wrap (by omega) (by omega)]; omega
      have hh := h k (k + 1) (by omega) hlt
      rw [cnd_t (by simp; omega), e1, cnd_t (by simp; omega), cnd_t (by simp; omega), Int.toNat_natCast, Int.toNat_natCast, cnd_f (by rw [decide_eq_false_iff_not]; omega), add1_nat (by omega)]
      exact ⟨_, rfl, ⟨k + 1, rfl, by omega⟩, by simp only [Int.toNat_natCast]; omega, trivial⟩
    · left
      rw [cnd_f (by simp; omega)]
  rw [this]; rfl
end Go.Proofs.Ytbfgmhhmnnjajaa
/- The law of EternalSets. Conditions: those of each theorem. -/
namespace Go.Proofs.Ytbfgmhhmnnjajaa
open D Go.RowKit
set_option linter.unusedVariables false
set_option linter.unusedSimpArgs false


theorem S.DrawEternalSets_is {code : List Int} (hb : Bytes code) : ∃ net, S.DrawEternalSets_t code = some net ∧ net.length ≤ 6 := by
  unfold S.DrawEternalSets_t S.DrawEternalSets_tree
  obtain ⟨rb, e1, h1, h2⟩ := S.l20Open_is hb
  rw [e1]
  simp only [optC]
  obtain ⟨rp', net, e2, _, _, h3⟩ := S.l20Net_is (n := 9) h1 h2 (Int.le_refl 0) (by decide)
  rw [e2]
  exact ⟨_, rfl, h3⟩
theorem L.hasInt_is {l : List Int} (hl : l.length ≤ 1000000) (x : Int) : L.hasInt_t l x = some (l.contains x) := by
  unfold L.hasInt_t L.hasInt_tree
  rw [run_search (run := L.hasInt_run2 l x) (len := l.length) (fun k => if (D.eli l k == x) = true then some true else none) () (by omega) (fun n k hk => ?_) (fun n => ?_), find_testT]
  · have : ((List.range l.length).any fun k => D.eli l k == x) = l.contains x := by
      rw [Bool.eq_iff_iff, List.any_eq_true, List.contains_iff_mem]
      constructor
      · rintro ⟨k, hk, he⟩
        have hk := List.mem_range.1 hk
        rw [beq_iff_eq] at he
        rw [← he]; exact at_mem hk
      · intro hx
        obtain ⟨k, hk, he⟩ := mem_at hx
        exact ⟨k, List.mem_range.2 hk, by rw [beq_iff_eq]; exact he⟩
    rw [this]
    cases l.contains x <;> rfl
  · simp only [L.hasInt_run2, L.hasInt_step2]
    rw [cnd_t (by simp; omega), cnd_t (by simp; omega), Int.toNat_natCast, add1_nat (by omega)]
    cases D.eli l k == x <;> rfl
  · simp only [L.hasInt_run2, L.hasInt_step2]
    rw [cnd_f (by simp)]
theorem eternal_hasInt {net : List Int} {k : Nat} (hk : k < 2 ^ net.length) : (listOfN (2 ^ net.length) (eternalB net)).contains (k : Int) = eternalB net k := by
  rw [Bool.eq_iff_iff, List.contains_iff_mem, listOfN_mem]
  constructor
  · rintro ⟨s, hs, hp, he⟩
    rw [show k = s by omega]; exact hp
  · intro hp; exact ⟨k, hk, hp, rfl⟩
theorem eternal_last {net : List Int} (h : Ok net) : 1 ≤ (listOfN (2 ^ net.length) (eternalB net)).length ∧ D.eli (listOfN (2 ^ net.length) (eternalB net)) ((listOfN (2 ^ net.length) (eternalB net)).length - 1) = ((allOf net : Nat) : Int) := by
  have hsu := allOf_succ net
  have e : listOfN (2 ^ net.length) (eternalB net) = listOfN (allOf net) (eternalB net) ++ [((allOf net : Nat) : Int)] := by
    rw [← hsu]
    unfold listOfN
    rw [fold_succ, if_pos (eternalB_iff.2 eternal_all)]
  rw [e, List.length_append]
  refine ⟨by simp, ?_⟩
  show D.eli _ ((listOfN (allOf net) (eternalB net)).length + 1 - 1) = _
  rw [Nat.add_sub_cancel]
  exact eli_app_end _ _
theorem L.FnEternalSets_is {code : List Int} (hm : code.length ≤ maxLen) (hw : ∀ n ∈ code, (Lit.int .u8 n).wf = true) : L.FnEternalSets_t code = some true := by
  unfold L.FnEternalSets_t L.FnEternalSets_tree
  by_cases hc : (code.length : Int) > 1048576
  · rw [cnd_t (by simpa using hc)]
  rw [cnd_f (by simpa using hc)]
  obtain ⟨net, e1, h1⟩ := S.DrawEternalSets_is (Bytes.wf hw)
  rw [e1]
  simp only [optC]
  rcases NetOk_cases net with ⟨h, g1, g2⟩ | ⟨_, g1, g2⟩
  · have h6 := h.hi
    have h64 := h.pow
    have hlen := listOfN_len (2 ^ net.length) (eternalB net)
    obtain ⟨hpos, hlast⟩ := eternal_last h
    rw [I.EternalSets_y h g1, S.EternalSets_y h g2]
    simp only
    rw [L.sameInts_is (by omega)]
    simp only
    rw [cnd_f (by rfl), cnd_f (by simp; intro hh; rw [hh] at hpos; simp at hpos)]
    have loop := (run_for (run := L.FnEternalSets_run10) (len := 2 ^ net.length) (fun k (_ : Unit) => ((k : Int), net, listOfN (2 ^ net.length) (eternalB net))) (fun t k => ()) (fun t => Sum.inr (net, listOfN (2 ^ net.length) (eternalB net))) (fun k t => True) (by omega) (fun n k t hk ht => ?_) (fun n t ht => ?_) (t0 := ()) trivial).1
    · rw [show L.FnEternalSets_run10 FUEL (0, net, listOfN (2 ^ net.length) (eternalB net)) = _ from loop]
      simp only [sumC]
      rw [L.ascend_is (by omega) (fun j k hjk hk => listOfN_asc hjk hk)]
      simp only
      rw [cond_true, sub1_nat hpos (by omega), cnd_t (by simp only [Bool.and_eq_true, decide_eq_true_eq]; omega), Int.toNat_natCast, cnd_t (by rw [decide_eq_true_eq]; omega), hlast, all_shl h]
      simp
    · refine ⟨?_, trivial⟩
      simp only [L.FnEternalSets_run10, L.FnEternalSets_step10]
      rw [pow_shl h, cnd_t (by rw [decide_eq_true_eq]; omega), L.hasInt_is (by omega), eternal_hasInt hk]
      simp only [optC]
      rw [I.EternalOk_n h g1, set_in hk, Int.toNat_natCast]
      simp only
      rw [cnd_f (by simp), add1_nat (by omega)]
    · simp only [L.FnEternalSets_run10, L.FnEternalSets_step10]
      rw [pow_shl h, cnd_f (by rw [decide_eq_false_iff_not]; omega)]
  · rw [I.EternalSets_x g1, S.EternalSets_x g2]
    simp only
    rw [L.sameInts_is (by simp), g1]
    simp only
    rw [cnd_f (by decide), cnd_t (by decide), cnd_t (by decide), L.alive_is]
end Go.Proofs.Ytbfgmhhmnnjajaa
/- Exact laws of chapter 9. Conditions: those of each theorem. -/
namespace Go.Proofs.Ytbfgmhhmnnjajaa
open D Go.RowKit
set_option linter.unusedVariables false
set_option linter.unusedSimpArgs false


theorem EternalOk_same {a0 : List Int} {a1 : Int} : ∃ v, S.EternalOk_t a0 a1 = some v ∧ I.EternalOk_t a0 a1 = some v := by
  rcases NetOk_cases a0 with ⟨h, e1, e2⟩ | ⟨_, e1, e2⟩
  · exact ⟨_, S.EternalOk_n h e2 a1, I.EternalOk_n h e1 a1⟩
  · exact ⟨_, S.EternalOk_x e2 a1, I.EternalOk_x e1 a1⟩
theorem L.FnExactEternalOk_is {a0 : List Int} {a1 : Int} : L.FnExactEternalOk_t a0 a1 = some true := by
  unfold L.FnExactEternalOk_t L.FnExactEternalOk_tree
  by_cases ha0 : (a0.length : Int) > 1048576
  · rw [cnd_t (by simpa using ha0)]
  rw [cnd_f (by simpa using ha0)]
  have ta0 := L.toIntS_is (a := a0) (by omega)
  have ea0 := L.eqIntS_is (a := a0) (b := a0) (by omega)
  obtain ⟨b, h1, h2⟩ := EternalOk_same (a0 := a0) (a1 := a1)
  simp only [optC, ta0, ea0, h1, h2]
  simp
theorem FewestEternal_same {a0 : List Int} : ∃ v, S.FewestEternal_t a0 = some v ∧ I.FewestEternal_t a0 = some v := by
  rcases NetOk_cases a0 with ⟨h, e1, e2⟩ | ⟨_, e1, e2⟩
  · exact ⟨_, S.FewestEternal_y h e2, I.FewestEternal_y h e1⟩
  · exact ⟨_, S.FewestEternal_x e2, I.FewestEternal_x e1⟩
theorem L.FnExactFewestEternal_is {a0 : List Int} : L.FnExactFewestEternal_t a0 = some true := by
  unfold L.FnExactFewestEternal_t L.FnExactFewestEternal_tree
  by_cases ha0 : (a0.length : Int) > 1048576
  · rw [cnd_t (by simpa using ha0)]
  rw [cnd_f (by simpa using ha0)]
  have ta0 := L.toIntS_is (a := a0) (by omega)
  have ea0 := L.eqIntS_is (a := a0) (b := a0) (by omega)
  obtain ⟨b, h1, h2⟩ := FewestEternal_same (a0 := a0)
  simp only [optC, ta0, ea0, h1, h2]
  simp
theorem EternalSets_same {a0 : List Int} : ∃ v, S.EternalSets_t a0 = some v ∧ I.EternalSets_t a0 = some v ∧ v.length ≤ 1000000 := by
  rcases NetOk_cases a0 with ⟨h, e1, e2⟩ | ⟨_, e1, e2⟩
  · exact ⟨_, S.EternalSets_y h e2, I.EternalSets_y h e1, by have := listOfN_len (2 ^ a0.length) (eternalB a0); have := h.pow; omega⟩
  · exact ⟨_, S.EternalSets_x e2, I.EternalSets_x e1, by simp⟩
theorem L.FnExactEternalSets_is {a0 : List Int} : L.FnExactEternalSets_t a0 = some true := by
  unfold L.FnExactEternalSets_t L.FnExactEternalSets_tree
  by_cases ha0 : (a0.length : Int) > 1048576
  · rw [cnd_t (by simpa using ha0)]
  rw [cnd_f (by simpa using ha0)]
  have ta0 := L.toIntS_is (a := a0) (by omega)
  have ea0 := L.eqIntS_is (a := a0) (b := a0) (by omega)
  obtain ⟨v, h1, h2, hv⟩ := EternalSets_same (a0 := a0)
  obtain ⟨m, m1, m4⟩ := L.marked (v := v) (by omega)
  have ev := L.eqIntS_is (a := v) (b := v) (by omega)
  obtain ⟨ma0, ka0, _, _⟩ := L.markIntS_is (a := a0) (k0 := 1) (by omega) (by omega)
  have ka0' : L.markIntS_t a0 1 = _ := ka0
  simp only [optC, ta0, ea0, h1, h2, ev, m1, m4, ka0', decide_true, Bool.not_true, cond_false, neg_nat, not_beq_self]
theorem AnswerOf_same {a0 : List Int} {a1 a2 : Int} : ∃ v, S.AnswerOf_t a0 a1 a2 = some v ∧ I.AnswerOf_t a0 a1 a2 = some v := by
  rcases NetOk_cases a0 with ⟨h, e1, e2⟩ | ⟨_, e1, e2⟩
  · exact ⟨_, S.AnswerOf_n h e2 a1 a2, I.AnswerOf_n h e1 a1 a2⟩
  · exact ⟨_, S.AnswerOf_x e2 a1 a2, I.AnswerOf_x e1 a1 a2⟩
theorem L.FnExactAnswerOf_is {a0 : List Int} {a1 : Int} {a2 : Int} : L.FnExactAnswerOf_t a0 a1 a2 = some true := by
  unfold L.FnExactAnswerOf_t L.FnExactAnswerOf_tree
  by_cases ha0 : (a0.length : Int) > 1048576
  · rw [cnd_t (by simpa using ha0)]
  rw [cnd_f (by simpa using ha0)]
  have ta0 := L.toIntS_is (a := a0) (by omega)
  have ea0 := L.eqIntS_is (a := a0) (b := a0) (by omega)
  obtain ⟨b, h1, h2⟩ := AnswerOf_same (a0 := a0) (a1 := a1) (a2 := a2)
  simp only [optC, ta0, ea0, h1, h2]
  simp
theorem answered_len (net : List Int) (s : Nat) (places : List Int) : (answered net s places).length ≤ places.length + 1 := by
  unfold answered
  have key : ∀ k, ∀ t, loopE k (ansStep net places) (s, [(s : Int)]) = .inr t → t.2.length = k + 1 := by
    intro k
    induction k with
    | zero => intro t ht; rw [loopE_zero] at ht; injection ht with ht; subst ht; rfl
    | succ k ih =>
      intro t ht
      cases hq : loopE k (ansStep net places) (s, [(s : Int)]) with
      | inl d =>
        have e : loopE (k + 1) (ansStep net places) (s, [(s : Int)]) = .inl d := by unfold loopE at hq ⊢; rw [fold_succ, hq]
        rw [e] at ht; cases ht
      | inr u =>
        rw [loopE_succ hq] at ht
        have := ih u hq
        unfold ansStep at ht
        split at ht
        · injection ht with ht; subst ht; rw [List.length_append]; simp; omega
        · cases ht
  cases hq : loopE places.length (ansStep net places) (s, [(s : Int)]) with
  | inl d => simp
  | inr t => have := key _ t hq; simp only; omega
theorem AnsweredAll_same {a0 : List Int} {a1 : Int} {a2 : List Int} (hp : a2.length ≤ 1048576) : ∃ v, S.AnsweredAll_t a0 a1 a2 = some v ∧ I.AnsweredAll_t a0 a1 a2 = some v ∧ v.length ≤ 1500000 := by
  rcases NetOk_cases a0 with ⟨h, e1, e2⟩ | ⟨_, e1, e2⟩
  · refine ⟨_, S.AnsweredAll_n h e2 a1 (by omega), I.AnsweredAll_n h e1 a1 (by omega), ?_⟩
    unfold answeredI
    split
    · have := answered_len a0 a1.toNat a2; omega
    · simp
  · exact ⟨_, S.AnsweredAll_x e2 a1 a2, I.AnsweredAll_x e1 a1 a2, by simp⟩
theorem L.FnExactAnsweredAll_is {a0 : List Int} {a1 : Int} {a2 : List Int} : L.FnExactAnsweredAll_t a0 a1 a2 = some true := by
  unfold L.FnExactAnsweredAll_t L.FnExactAnsweredAll_tree
  by_cases ha0 : (a0.length : Int) > 1048576
  · rw [cnd_t (by simpa using ha0)]
  rw [cnd_f (by simpa using ha0)]
  by_cases ha2 : (a2.length : Int) > 1048576
  · rw [cnd_t (by simpa using ha2)]
  rw [cnd_f (by simpa using ha2)]
  have ta0 := L.toIntS_is (a := a0) (by omega)
  have ea0 := L.eqIntS_is (a := a0) (b := a0) (by omega)
  have ta2 := L.toIntS_is (a := a2) (by omega)
  have ea2 := L.eqIntS_is (a := a2) (b := a2) (by omega)
  obtain ⟨v, h1, h2, hv⟩ := AnsweredAll_same (a0 := a0) (a1 := a1) (a2 := a2) (by omega)
  obtain ⟨m, m1, m4⟩ := L.marked (v := v) (by omega)
  have ev := L.eqIntS_is (a := v) (b := v) (by omega)
  obtain ⟨ma0, ka0, _, _⟩ := L.markIntS_is (a := a0) (k0 := 1) (by omega) (by omega)
  have ka0' : L.markIntS_t a0 1 = _ := ka0
  obtain ⟨ma2, ka2, _, _⟩ := L.markIntS_is (a := a2) (k0 := 1 + a0.length) (by omega) (by omega)
  simp only [optC, ta0, ta2, ea0, ea2, h1, h2, ev, m1, m4, ka0', ka2, decide_true, Bool.not_true, cond_false, neg_nat, not_beq_self]
end Go.Proofs.Ytbfgmhhmnnjajaa
