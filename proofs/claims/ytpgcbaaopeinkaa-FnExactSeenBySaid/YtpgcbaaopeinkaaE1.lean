/- Chapter 1: the program's functions answer as the model's, at every argument. Conditions: none. -/
import Derived.Test.YtpgcbaaopeinkaaM1
import Derived.Test.YtpgcbaaopeinkaaN1
namespace Go.Proofs.Ytpgcbaaopeinkaa
open Go.RowKit
set_option linter.unusedVariables false
set_option linter.unusedSimpArgs false

theorem eq_NetOk (net : List Int) : I.NetOk net = S.NetOk net := by
  rw [Bool.eq_iff_iff, I.NetOk_iff, S.NetOk_iff]
theorem fold_congr {α : Type} {n : Nat} {F G : α → Nat → α} (h : ∀ (a : α) (k : Nat), k < n → F a k = G a k) (a : α) : fold n F a = fold n G a := by
  induction n with
  | zero => rfl
  | succ n ih => rw [fold_succ, fold_succ, ih fun a k hk => h a k (by omega), h _ n (by omega)]
theorem in_place (net : List Int) (p : Int) : I.placeIn net p = S.l1In p 0 ((net.length : Int) - 1) := by
  rw [Bool.eq_iff_iff, I.placeIn_eq, S.l1In_eq]; omega
theorem S.setOk_iff (net : List Int) (s : Int) : S.l1SetOk net s = true ↔ Ok net ∧ 0 ≤ s ∧ s < ((2 ^ net.length : Nat) : Int) := by
  unfold S.l1SetOk
  rw [Bool.and_eq_true, S.NetOk_iff, S.l1In_eq]
  constructor
  · rintro ⟨h, h1, h2⟩
    refine ⟨h, h1, ?_⟩
    have hp := h.pow
    have hq : 1 ≤ (2 : Nat) ^ net.length := Nat.two_pow_pos _
    rw [wrap64_pow _ (by have := h.hi; omega)] at h2
    generalize (2 : Nat) ^ net.length = P at hp hq h2 ⊢
    unfold wrap64 at h2; omega
  · rintro ⟨h, h1, h2⟩
    refine ⟨h, h1, ?_⟩
    have hp := h.pow
    have hq : 1 ≤ (2 : Nat) ^ net.length := Nat.two_pow_pos _
    rw [wrap64_pow _ (by have := h.hi; omega)]
    generalize (2 : Nat) ^ net.length = P at hp hq h2 ⊢
    unfold wrap64; omega
theorem in_set (net : List Int) (s : Int) : (I.NetOk net && I.setIn net s) = S.l1SetOk net s := by
  rw [Bool.eq_iff_iff, Bool.and_eq_true, I.NetOk_iff, S.setOk_iff]
  constructor
  · rintro ⟨h, h1⟩; exact ⟨h, (I.setIn_iff h.hi s).1 h1⟩
  · rintro ⟨h, h1⟩; exact ⟨h, (I.setIn_iff h.hi s).2 h1⟩
theorem eq_BallOf (net : List Int) (p : Int) : I.BallOf net p = S.BallOf net p := by
  unfold I.BallOf S.BallOf I.ballIn
  rw [eq_NetOk, in_place]
theorem eq_SeenBy (net : List Int) (s : Int) : I.SeenBy net s = S.SeenBy net s := by
  unfold I.SeenBy S.SeenBy
  rw [← Bool.not_and, in_set]
  cases h : S.l1SetOk net s with
  | false => simp
  | true =>
    obtain ⟨ho, h1, h2⟩ := (S.setOk_iff net s).1 h
    obtain ⟨t, rfl⟩ := Int.eq_ofNat_of_zero_le h1
    have ht : t < 2 ^ net.length := by omega
    have hp := ho.pow
    have hn := ho.near_lt t
    simp only [Bool.not_true, Bool.false_eq_true, if_false]
    rw [I.seenIn_nat ho ht, S.l1Near_nat ho, i64_or_nat _ _ (by omega) (by omega)]
    rfl
theorem eq_WiresOf (net : List Int) : I.WiresOf net = S.WiresOf net := by
  unfold I.WiresOf S.WiresOf
  rw [eq_NetOk]
  cases h : S.NetOk net with
  | false => simp
  | true =>
    have ho := (S.NetOk_iff net).1 h
    simp only [Bool.not_true, Bool.false_eq_true, if_false]
    rw [fold_congr (F := I.WiresOf_L0 net) (G := S.WiresOf_L0 net) fun a k hk => ?_]
    simp only [I.WiresOf_L0, S.WiresOf_L0]
    rw [ho.el k hk, I.sizeOf_nat _ (ho.lt64 hk), S.l1Size_nat _ (ho.lt64 hk)]
theorem all_wrap {net : List Int} (h : Ok net) : wrap64 (wrap64 (2 ^ net.length) - 1) = ((allOf net : Nat) : Int) := by
  have hp := h.pow
  have hq : 1 ≤ (2 : Nat) ^ net.length := Nat.two_pow_pos _
  rw [wrap64_pow _ (by have := h.hi; omega)]
  unfold allOf
  generalize (2 : Nat) ^ net.length = P at hp hq ⊢
  unfold wrap64; omega
theorem Ok.all_lt {net : List Int} (h : Ok net) : allOf net < 64 := by
  have hp := h.pow
  have hq : 1 ≤ (2 : Nat) ^ net.length := Nat.two_pow_pos _
  unfold allOf; omega
theorem S.part_all {net : List Int} (h : Ok net) {i : Nat} (hi : i < net.length) : S.l1Part net (wrap64 (wrap64 (2 ^ net.length) - 1)) (i : Int) = ((comp net i : Nat) : Int) := by
  have e := S.l1Part_nat h h.all_lt hi
  rw [← all_wrap h] at e
  exact e
theorem eq_PartOf (net : List Int) (p : Int) : I.PartOf net p = S.PartOf net p := by
  unfold I.PartOf S.PartOf
  rw [eq_NetOk, in_place]
  cases h : S.NetOk net with
  | false => simp
  | true =>
    have ho := (S.NetOk_iff net).1 h
    cases h2 : S.l1In p 0 ((net.length : Int) - 1) with
    | false => simp
    | true =>
      have h3 := (S.l1In_eq _ _ _).1 h2
      obtain ⟨i, rfl⟩ := Int.eq_ofNat_of_zero_le h3.1
      simp only [Bool.not_true, Bool.or_self, Bool.false_eq_true, if_false]
      rw [I.partIn_nat ho (by omega), S.part_all ho (by omega)]
theorem S.parts_nat {net : List Int} (h : Ok net) : S.l1Parts net = ((parts net : Nat) : Int) := by
  unfold S.l1Parts parts
  refine (fold_nat (s0 := 0) (I := fun k a => a ≤ k) (Nat.zero_le _) fun k acc hk ha => ?_).1
  have hk6 : k ≤ 5 := by have := h.hi; omega
  have hq : 1 ≤ (2 : Nat) ^ k := Nat.two_pow_pos _
  have hp : (2 : Nat) ^ k ≤ 32 := Nat.pow_le_pow_right (by omega) hk6
  have hw : wrap64 (wrap64 (2 ^ k) - 1) = ((2 ^ k - 1 : Nat) : Int) := by
    rw [wrap64_pow _ (by omega)]
    generalize (2 : Nat) ^ k = P at hp hq ⊢
    unfold wrap64; omega
  have hc := h.comp_lt hk
  have h64 := h.pow
  simp only [S.l1Parts_L0]
  rw [S.part_all h hk, hw, i64_and_nat _ _ (by omega) (by omega)]
  have e : (((comp net k &&& (2 ^ k - 1) : Nat) : Int) == 0) = decide ((comp net k &&& (2 ^ k - 1)) = 0) := by
    rw [Bool.eq_iff_iff]; simp only [beq_iff_eq, decide_eq_true_eq]; omega
  rw [e]
  simp only [decide_eq_true_eq]
  split
  · refine ⟨?_, by omega⟩
    have hk5 : acc ≤ 5 := by omega
    unfold wrap64; omega
  · exact ⟨rfl, by omega⟩
theorem low_zero (c k : Nat) : (c &&& (2 ^ k - 1)) = 0 ↔ ∀ j, j < k → c.testBit j = false := by
  rw [Nat.and_two_pow_sub_one_eq_mod]
  constructor
  · intro h j hj
    have : (c % 2 ^ k).testBit j = false := by rw [h]; simp
    rw [Nat.testBit_mod_two_pow] at this
    simpa [hj] using this
  · intro h
    apply Nat.eq_of_testBit_eq
    intro j
    rw [Nat.testBit_mod_two_pow]
    by_cases hj : j < k
    · simp [hj, h j hj]
    · simp [hj]
theorem I.PartMany_step {net : List Int} (h : Ok net) (m : Nat) (hm : m ≤ net.length) :
    fold m (I.PartMany_L0 net) (0, 0) = (((fold m (fun a k => if (comp net k &&& (2 ^ k - 1)) = 0 then a + 1 else a) 0 : Nat) : Int), ((orN m (fun _ => true) (comp net) : Nat) : Int)) ∧ fold m (fun a k => if (comp net k &&& (2 ^ k - 1)) = 0 then a + 1 else a) 0 ≤ m := by
  induction m with
  | zero => exact ⟨rfl, Nat.le_refl _⟩
  | succ m ih =>
    obtain ⟨e, hle⟩ := ih (by omega)
    have hlt : orN m (fun _ => true) (comp net) < 2 ^ net.length := orN_lt fun k hk _ => h.comp_lt (by omega)
    have h64 := h.pow
    have hc := h.comp_lt (show m < net.length by omega)
    rw [fold_succ, e, fold_succ]
    simp only [I.PartMany_L0, I.hasPlace_nat]
    -- not reached: the least of its part
    have key : (!((orN m (fun _ => true) (comp net)).testBit m)) = true ↔ (comp net m &&& (2 ^ m - 1)) = 0 := by
      rw [Bool.not_eq_true', ← Bool.not_eq_true, orN_testBit, low_zero]
      constructor
      · intro hn j hj
        refine Bool.eq_false_iff.2 fun ht => hn ⟨j, hj, rfl, ?_⟩
        rw [h.comp_symm (by omega) (by omega)]; exact ht
      · rintro hn ⟨j, hj, _, ht⟩
        have := hn j hj
        rw [h.comp_symm (by omega) (by omega), ht] at this
        cases this
    have keep : (orN (m + 1) (fun _ => true) (comp net)) = orN m (fun _ => true) (comp net) ||| comp net m := by simp only [orN, fold_succ, if_true]
    by_cases hz : (comp net m &&& (2 ^ m - 1)) = 0
    · rw [if_pos (key.2 hz), if_pos (key.2 hz), if_pos hz, I.partIn_nat h (by omega), i64_or_nat _ _ (by omega) (by omega), keep]
      refine ⟨?_, by omega⟩
      congr 1
      have : net.length ≤ 6 := h.hi
      unfold wrap64; omega
    · have hn : ¬ ((!((orN m (fun _ => true) (comp net)).testBit m)) = true) := fun hk => hz (key.1 hk)
      rw [if_neg hn, if_neg hn, if_neg hz, keep]
      refine ⟨?_, by omega⟩
      congr 2
      -- a reached place brings nothing new
      apply Nat.eq_of_testBit_eq
      intro i
      rw [Nat.testBit_or]
      cases hi : (comp net m).testBit i with
      | false => simp
      | true =>
        simp only [Bool.or_true]
        have hb : (orN m (fun _ => true) (comp net)).testBit m = true := by simpa using hn
        obtain ⟨j, hj, _, hjm⟩ := (orN_testBit _ _ _ _).1 hb
        refine (orN_testBit _ _ _ _).2 ⟨j, hj, rfl, ?_⟩
        rw [h.comp_same (by omega) (by omega) hjm]; exact hi
theorem I.PartMany_nat {net : List Int} (h : Ok net) : I.PartMany net = ((parts net : Nat) : Int) := by
  unfold I.PartMany
  rw [(I.NetOk_iff net).2 h]
  simp only [Bool.not_true, Bool.false_eq_true, if_false]
  rw [(I.PartMany_step h net.length (Nat.le_refl _)).1]
  rfl
theorem eq_PartMany (net : List Int) : I.PartMany net = S.PartMany net := by
  cases h : S.NetOk net with
  | false => unfold I.PartMany S.PartMany; rw [eq_NetOk, h]; simp
  | true =>
    have ho := (S.NetOk_iff net).1 h
    rw [I.PartMany_nat ho]
    unfold S.PartMany
    rw [h, S.parts_nat ho]
    rfl
theorem eq_LoneOf (net : List Int) : I.LoneOf net = S.LoneOf net := by
  unfold I.LoneOf S.LoneOf
  rw [eq_NetOk]
  rfl

end Go.Proofs.Ytpgcbaaopeinkaa
