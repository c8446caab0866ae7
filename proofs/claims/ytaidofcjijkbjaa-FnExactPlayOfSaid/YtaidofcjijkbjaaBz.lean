/- Several texts in one: J12, Ch11b, Ch11c, S11, I11, L2, L3, I12, L4, L5, L12, Ex12. Conditions: those of each theorem. -/
import Derived.Test.YtaidofcjijkbjaaBzb0
/- The program's functions of chapters 12 and 13 (at ae9a42a) in natural numbers. Conditions: those of each theorem. -/
namespace Go.Proofs.Ytaidofcjijkbjaa
open D Go.RowKit
set_option linter.unusedVariables false
set_option linter.unusedSimpArgs false


theorem I.PlayMay_n {net : List Int} (h : Ok net) (e : I.NetOk_t net = some true) (s p : Int) : I.PlayMay_t net s p = some (mayB net s p) := by
  unfold I.PlayMay_t I.PlayMay_tree
  rw [e]
  simp only [optC]
  rw [cond_true, I.setIn_n h]
  simp only
  unfold mayB
  rcases set_cases h s with ⟨t, rfl, ht, hd⟩ | hd
  · rw [hd, cond_true, I.placeIn_n]
    simp only
    rcases place_cases net p with ⟨k, rfl, hk, hd2⟩ | hd2
    · rw [hd2, cond_true, I.playIn_n h ht hk, Int.toNat_natCast, Int.toNat_natCast, Bool.true_and, Bool.true_and]; rfl
    · rw [hd2]; rfl
  · rw [hd]; rfl
/-- The greatest number of a kind, from 0 on. -/
def maxStepV (p : Nat → Bool) (v : Nat → Nat) (t : Nat) (s : Nat) : Nat := if p s = true then (if v s > t then v s else t) else t
theorem maxV_fold (p : Nat → Bool) (v : Nat → Nat) (N : Nat) : (∀ s, s < N → p s = true → v s ≤ fold N (maxStepV p v) 0) ∧ (fold N (maxStepV p v) 0 = 0 ∨ ∃ s, s < N ∧ p s = true ∧ v s = fold N (maxStepV p v) 0) := by
  induction N with
  | zero => exact ⟨fun s hs => by omega, .inl rfl⟩
  | succ N ih =>
    rw [fold_succ]
    generalize fold N (maxStepV p v) 0 = g at ih ⊢
    obtain ⟨a, b⟩ := ih
    unfold maxStepV
    have old : ∀ r, g ≤ r → (p N = true → v N ≤ r) → ∀ s, s < N + 1 → p s = true → v s ≤ r := fun r hr hN s hs hp => by
      by_cases he : s = N
      · rw [he] at hp ⊢; exact hN hp
      · have := a s (by omega) hp; omega
    have oldE : g = 0 ∨ ∃ s, s < N + 1 ∧ p s = true ∧ v s = g := by
      rcases b with b | ⟨s, b1, b2⟩
      · exact .inl b
      · exact .inr ⟨s, by omega, b2⟩
    cases hp : p N with
    | false =>
      simp only [Bool.false_eq_true, if_false]
      exact ⟨old g (Nat.le_refl _) (fun hc => by rw [hp] at hc; cases hc), oldE⟩
    | true =>
      simp only [if_true]
      by_cases hv : v N > g
      · rw [if_pos hv]; exact ⟨old _ (by omega) (fun _ => Nat.le_refl _), .inr ⟨N, by omega, hp, rfl⟩⟩
      · rw [if_neg hv]; exact ⟨old _ (Nat.le_refl _) (fun _ => by omega), oldE⟩
theorem game_min {net : List Int} (h : Ok net) {A : Nat} (hA : A < 2 ^ net.length) (hne : A ≠ allOf net) :
    fold net.length (minStepV (leg net A) fun k => game net (A ||| ball net k) false) (-1) = ((game net A true : Nat) : Int) - 1 := by
  obtain ⟨⟨k, k1, k2, k3⟩, ka⟩ := game_is h true hA hne
  rw [Bool.not_true] at k3
  rcases minV_fold (leg net A) (fun k => game net (A ||| ball net k) false) net.length with ⟨_, hno⟩ | ⟨m, e, ⟨s, s1, s2, s3⟩, hm⟩
  · rw [hno k k1] at k2; cases k2
  · rw [e]
    have h1 := hm k k1 k2
    have h2 := ka s s1 s2
    simp only [if_true, Bool.not_true] at h2
    omega
theorem game_max {net : List Int} (h : Ok net) {A : Nat} (hA : A < 2 ^ net.length) (hne : A ≠ allOf net) :
    fold net.length (maxStepV (leg net A) fun k => game net (A ||| ball net k) true) 0 + 1 = game net A false := by
  obtain ⟨⟨k, k1, k2, k3⟩, ka⟩ := game_is h false hA hne
  rw [Bool.not_false] at k3
  obtain ⟨hm, hx⟩ := maxV_fold (leg net A) (fun k => game net (A ||| ball net k) true) net.length
  have h1 := hm k k1 k2
  rcases hx with hx | ⟨s, s1, s2, s3⟩
  · omega
  · have h2 := ka s s1 s2
    simp only [Bool.false_eq_true, if_false, Bool.not_false] at h2
    omega
/-- Behind each set from A on, how many guards are to come. -/
structure GamesUp (net : List Int) (A : Nat) (gl : List Int) : Prop where
  len : gl.length = 2 ^ net.length * 2
  few : ∀ B, A ≤ B → B < 2 ^ net.length → D.eli gl (B * 2) = ((game net B true : Nat) : Int)
  many : ∀ B, A ≤ B → B < 2 ^ net.length → D.eli gl (B * 2 + 1) = ((game net B false : Nat) : Int)
theorem GamesUp.half {net : List Int} {A : Nat} {gl : List Int} (g : GamesUp net A gl) : gl.length / 2 = 2 ^ net.length := by rw [g.len]; omega
theorem leg_up {net : List Int} (h : Ok net) {A k : Nat} (hA : A < 2 ^ net.length) (hk : k < net.length) (hl : leg net A k = true) : A + 1 ≤ A ||| ball net k := by
  obtain ⟨_, b⟩ := leg_more h hA hk hl
  have h1 : A ≤ A ||| ball net k := Nat.left_le_or
  have h2 : A ≠ A ||| ball net k := fun e => by rw [← e] at b; omega
  omega
theorem I.gameFrom_n {net gl : List Int} (h : Ok net) {A : Nat} (hA : A < 2 ^ net.length) (hne : A ≠ allOf net) (hg : GamesUp net (A + 1) gl) : I.gameFrom_t net gl (A : Int) = some (((game net A true : Nat) : Int), ((game net A false : Nat) : Int)) := by
  unfold I.gameFrom_t I.gameFrom_tree
  have h6 := h.hi
  have h64 := h.pow
  have hlen := hg.len
  have := run_for (run := I.gameFrom_run4 net gl (A : Int)) (len := net.length) (fun k (t : Int × Nat) => (t.1, (t.2 : Int), (k : Int), 0, 0)) (fun t k => (minStepV (leg net A) (fun k => game net (A ||| ball net k) false) t.1 k, maxStepV (leg net A) (fun k => game net (A ||| ball net k) true) t.2 k)) (fun t => (t.1, (t.2 : Int), 0, 0))
    (fun k t => t.1 = fold k (minStepV (leg net A) fun k => game net (A ||| ball net k) false) (-1) ∧ t.2 = fold k (maxStepV (leg net A) fun k => game net (A ||| ball net k) true) 0) (by omega) (fun n k t hk ht => ?_) (fun n t ht => ?_) (t0 := (-1, 0)) ⟨rfl, rfl⟩
  · obtain ⟨e, i1, i2⟩ := this
    rw [show I.gameFrom_run4 net gl (A : Int) FUEL (-1, 0, 0, 0, 0) = _ from e]
    simp only [optC]
    rw [i1, i2, game_min h hA hne]
    have hm := game_max h hA hne
    have b1 := game_bound h true hA
    have b2 := game_bound h false hA
    rw [i64_wrap (by omega) (by omega), i64_wrap (by omega) (by omega)]
    congr 2 <;> omega
  · obtain ⟨i1, i2⟩ := ht
    refine ⟨?_, by rw [i1, fold_succ], by rw [i2, fold_succ]⟩
    have hbl := h.ball_lt hk
    simp only [I.gameFrom_run4, I.gameFrom_step4]
    rw [cnd_t (by simp; omega), I.playIn_n h hA hk, show (minus (ball net k) A != 0) = leg net A k from rfl, add1_nat (by omega)]
    simp only [optC]
    cases hl : leg net A k with
    | false =>
      rw [Bool.not_false, cond_true]
      unfold minStepV maxStepV
      rw [hl]; rfl
    | true =>
      have hup := leg_up h hA hk hl
      obtain ⟨hB, _⟩ := leg_more h hA hk hl
      rw [Bool.not_true, cond_false, I.ballIn_n h hk]
      simp only
      have hf : I.fewerOf_t t.1 ((game net (A ||| ball net k) false : Nat) : Int) = some (minStepV (leg net A) (fun k => game net (A ||| ball net k) false) t.1 k) := I.fewerOf_V (leg net A) (fun k => game net (A ||| ball net k) false) hl
      rw [i64_or_nat _ _ (by omega) (by omega), hg.half, cnd_t (by simp only [Bool.and_eq_true, decide_eq_true_eq]; omega), Int.toNat_natCast]
      have e1 := hg.few _ hup hB
      have e2 := hg.many _ hup hB
      simp only [Nat.add_zero, e1, e2, hf]
      unfold maxStepV
      rw [if_pos hl]
      by_cases hv : game net (A ||| ball net k) true > t.2
      · rw [if_pos hv, cnd_t (by rw [decide_eq_true_eq]; omega)]
      · rw [if_neg hv, cnd_f (by rw [decide_eq_false_iff_not]; omega)]
  · simp only [I.gameFrom_run4, I.gameFrom_step4]
    rw [cnd_f (by simp)]
theorem eli_put {l : List Int} {i : Nat} (hi : i + 2 ≤ l.length) (a b : Int) (j : Nat) : D.eli (l.take i ++ ([a, b] ++ l.drop (i + 2))) j = if j = i then a else if j = i + 1 then b else D.eli l j := by
  unfold D.eli
  have hl : (l.take i).length = i := by rw [List.length_take]; omega
  by_cases h1 : j < i
  · rw [if_neg (by omega), if_neg (by omega), List.getD, List.getElem?_append_left (by omega), List.getElem?_take, if_pos h1]; rfl
  · rw [List.getD, List.getElem?_append_right (by omega), hl]
    by_cases h2 : j = i
    · rw [if_pos h2, show j - i = 0 by omega]; rfl
    · rw [if_neg h2]
      by_cases h3 : j = i + 1
      · rw [if_pos h3, show j - i = 1 by omega]; rfl
      · rw [if_neg h3]
        obtain ⟨q, rfl⟩ : ∃ q, j = i + 2 + q := ⟨j - (i + 2), by omega⟩
        rw [show i + 2 + q - i = q + 2 by omega]
        show ((l.drop (i + 2))[q]?).getD 0 = _
        rw [List.getElem?_drop]; rfl
theorem I.gamesIn_n {net : List Int} (h : Ok net) : ∃ gl, I.gamesIn_t net = some gl ∧ GamesUp net 0 gl := by
  unfold I.gamesIn_t I.gamesIn_tree
  have h6 := h.hi
  have h64 := h.pow
  have hF := FUEL_le
  have hall : allOf net = 2 ^ net.length - 1 := rfl
  have hp := Nat.two_pow_pos net.length
  have key : ∀ (m : Nat) (gl : List Int) (N : Nat), m ≤ allOf net → m < N → GamesUp net m gl → ∃ gl', I.gamesIn_run3 net N ((m : Int) - 1, gl) = some gl' ∧ GamesUp net 0 gl' := by
    intro m
    induction m with
    | zero =>
      intro gl N hm hN hg
      obtain ⟨N, rfl⟩ : ∃ q, N = q + 1 := ⟨N - 1, by omega⟩
      simp only [I.gamesIn_run3, I.gamesIn_step3]
      rw [cnd_f (by rw [decide_eq_false_iff_not]; omega)]
      exact ⟨gl, rfl, hg⟩
    | succ m ih =>
      intro gl N hm hN hg
      obtain ⟨N, rfl⟩ : ∃ q, N = q + 1 := ⟨N - 1, by omega⟩
      have hlen := hg.len
      have hhalf := hg.half
      simp only [I.gamesIn_run3, I.gamesIn_step3]
      rw [show ((m + 1 : Nat) : Int) - 1 = (m : Int) by omega, cnd_t (by rw [decide_eq_true_eq]; omega), I.gameFrom_n h (by omega) (by omega) hg]
      simp only [optC]
      rw [hhalf, cnd_t (by simp only [Bool.and_eq_true, decide_eq_true_eq]; omega), Int.toNat_natCast, cnd_t (by rw [decide_eq_true_eq]; omega), i64_wrap (by omega) (by omega)]
      have hi : m * 2 + 2 ≤ gl.length := by omega
      refine ih _ N (by omega) (by omega) ⟨by simp; omega, fun B hB hB2 => ?_, fun B hB hB2 => ?_⟩
      · rw [eli_put hi]
        by_cases he : B = m
        · rw [if_pos (by omega), he]
        · rw [if_neg (by omega), if_neg (by omega), hg.few B (by omega) hB2]
      · rw [eli_put hi]
        by_cases he : B = m
        · rw [if_neg (by omega), if_pos (by omega), he]
        · rw [if_neg (by omega), if_neg (by omega), hg.many B (by omega) hB2]
  rw [I.allOf_n h]
  simp only [optC]
  rw [add1_nat (by omega), cnd_t (by simp [small]; omega), Int.toNat_natCast, i64_wrap (by omega) (by omega)]
  have hz : ∀ j, D.eli (List.replicate ((allOf net + 1) * 2) (0 : Int)) j = 0 := fun j => by
    unfold D.eli
    rw [List.getD]
    by_cases hj : j < (allOf net + 1) * 2
    · rw [List.getElem?_replicate, if_pos hj]; rfl
    · rw [List.getElem?_replicate, if_neg hj]; rfl
  have g0 : GamesUp net (allOf net) (List.replicate ((allOf net + 1) * 2) 0) := by
    refine ⟨by rw [List.length_replicate]; omega, fun B h1 h2 => ?_, fun B h1 h2 => ?_⟩
    · rw [hz, show B = allOf net by omega, game_full h]; rfl
    · rw [hz, show B = allOf net by omega, game_full h]; rfl
  obtain ⟨gl, e, hg⟩ := key (allOf net) (List.replicate ((allOf net + 1) * 2) 0) FUEL (Nat.le_refl _) (by omega) g0
  rw [e]; exact ⟨gl, rfl, hg⟩
theorem I.guardsToCome_n (a b : Int) (few : Bool) : I.guardsToCome_t a b few = some (bif few then a else b) := by
  unfold I.guardsToCome_t I.guardsToCome_tree
  cases few <;> rfl
theorem GamesUp.come {net gl : List Int} (g : GamesUp net 0 gl) {B : Nat} (hB : B < 2 ^ net.length) (few : Bool) : I.guardsToCome_t (D.eli gl (B * 2)) (D.eli gl (B * 2 + 1)) few = some ((game net B few : Nat) : Int) := by
  rw [I.guardsToCome_n, g.few B (by omega) hB, g.many B (by omega) hB]
  cases few <;> rfl
theorem I.bestIn_n {net gl : List Int} (h : Ok net) (g : GamesUp net 0 gl) {A : Nat} (hA : A < 2 ^ net.length) (few : Bool) : I.bestIn_t net gl (A : Int) few = some (playK net A few) := by
  unfold I.bestIn_t I.bestIn_tree
  have h6 := h.hi
  have h64 := h.pow
  have hb := game_bound h few hA
  rw [g.half, cnd_t (by simp only [Bool.and_eq_true, decide_eq_true_eq]; omega), Int.toNat_natCast]
  simp only [Nat.add_zero]
  rw [g.come hA]
  simp only [optC]
  rw [run_search (run := I.bestIn_run3 net gl (A : Int) few (IntKind.i64.wrap (((game net A few : Nat) : Int) - 1))) (len := net.length) (fun k => if playP net A few k = true then some (k : Int) else none) () (by omega) (fun n k hk => ?_) (fun n => ?_)]
  · unfold playK
    cases find net.length (fun k => if playP net A few k = true then some (k : Int) else none) <;> rfl
  · have hbl := h.ball_lt hk
    simp only [I.bestIn_run3, I.bestIn_step3]
    rw [cnd_t (by simp; omega), I.playIn_n h hA hk, show (minus (ball net k) A != 0) = leg net A k from rfl, add1_nat (by omega)]
    simp only [optC]
    unfold playP
    cases hl : leg net A k with
    | false => rfl
    | true =>
      obtain ⟨hB, _⟩ := leg_more h hA hk hl
      have hb2 := game_bound h (!few) hB
      rw [cond_true, I.ballIn_n h hk]
      simp only [Bool.true_and]
      rw [i64_or_nat _ _ (by omega) (by omega), g.half, cnd_t (by simp only [Bool.and_eq_true, decide_eq_true_eq]; omega), Int.toNat_natCast]
      simp only [Nat.add_zero]
      rw [g.come hB]
      simp only
      rw [i64_wrap (by omega) (by omega), show (((game net (A ||| ball net k) (!few) : Nat) : Int) == ((game net A few : Nat) : Int) - 1) = (1 + game net (A ||| ball net k) (!few) == game net A few) by rw [Bool.eq_iff_iff, beq_iff_eq, beq_iff_eq]; omega]
      cases (1 + game net (A ||| ball net k) (!few) == game net A few) <;> rfl
  · simp only [I.bestIn_run3, I.bestIn_step3]
    rw [cnd_f (by simp)]
theorem I.GameMoves_x {net : List Int} (e : I.NetOk_t net = some false) (s : Int) (few : Bool) : I.GameMoves_t net s few = some (-1) := by
  unfold I.GameMoves_t I.GameMoves_tree; rw [e]; rfl
theorem I.GameMoves_n {net : List Int} (h : Ok net) (e : I.NetOk_t net = some true) (s : Int) (few : Bool) : I.GameMoves_t net s few = some (gameI net s few) := by
  unfold I.GameMoves_t I.GameMoves_tree
  rw [e]
  simp only [optC, Bool.not_true, cond_false]
  rw [I.setIn_n h]
  simp only
  unfold gameI
  rcases set_cases h s with ⟨t, rfl, ht, hd⟩ | hd
  · obtain ⟨gl, e2, g⟩ := I.gamesIn_n h
    have hlen := g.len
    rw [hd, Bool.not_true, cond_false, if_pos (dec_true hd), e2]
    simp only
    rw [g.half, cnd_t (by simp only [Bool.and_eq_true, decide_eq_true_eq]; omega), Int.toNat_natCast, cnd_t (by rw [decide_eq_true_eq]; omega)]
    simp only [Nat.add_zero]
    rw [g.come ht]
  · rw [hd, if_neg (dec_false hd)]; rfl
theorem I.BestPlay_x {net : List Int} (e : I.NetOk_t net = some false) (s : Int) (few : Bool) : I.BestPlay_t net s few = some (-1) := by
  unfold I.BestPlay_t I.BestPlay_tree; rw [e]; rfl
theorem I.BestPlay_n {net : List Int} (h : Ok net) (e : I.NetOk_t net = some true) (s : Int) (few : Bool) : I.BestPlay_t net s few = some (bestI net s few) := by
  unfold I.BestPlay_t I.BestPlay_tree
  rw [e]
  simp only [optC, Bool.not_true, cond_false]
  rw [I.setIn_n h]
  simp only
  unfold bestI
  rcases set_cases h s with ⟨t, rfl, ht, hd⟩ | hd
  · obtain ⟨gl, e2, g⟩ := I.gamesIn_n h
    rw [hd, Bool.not_true, cond_false, if_pos (dec_true hd), e2]
    simp only
    rw [I.bestIn_n h g ht, Int.toNat_natCast]
  · rw [hd, if_neg (dec_false hd)]; rfl
theorem I.PlayOf_x {net : List Int} (e : I.NetOk_t net = some false) (few : Bool) : I.PlayOf_t net few = some [] := by
  unfold I.PlayOf_t I.PlayOf_tree; rw [e]; rfl
theorem I.PlayOf_n {net : List Int} (h : Ok net) (e : I.NetOk_t net = some true) (few : Bool) : I.PlayOf_t net few = some (plays net few) := by
  unfold I.PlayOf_t I.PlayOf_tree
  have h6 := h.hi
  have h64 := h.pow
  obtain ⟨gl, e2, g⟩ := I.gamesIn_n h
  rw [e]
  simp only [optC, Bool.not_true, cond_false]
  rw [e2]
  simp only
  have key : ∀ (m : Nat) (A : Nat) (f : Bool) (out : List Int) (N : Nat), A < 2 ^ net.length → net.length - size A ≤ m → m < N → out.length + m ≤ 100 → I.PlayOf_run8 net N ((A : Int), f, playK net A f, out, gl) = some (out ++ playN net m A f) := by
    intro m
    induction m with
    | zero =>
      intro A f out N hA hm hN hl
      obtain ⟨N, rfl⟩ : ∃ q, N = q + 1 := ⟨N - 1, by omega⟩
      have := size_len h hA
      have hf : A = allOf net := full_size h hA (by omega)
      simp only [I.PlayOf_run8, I.PlayOf_step8]
      rcases playK_cases h f hA with ⟨_, ek⟩ | ⟨hx, _⟩
      · rw [ek, cnd_f (by rw [decide_eq_false_iff_not]; omega)]; simp [playN]
      · exact absurd hf hx
    | succ m ih =>
      intro A f out N hA hm hN hl
      obtain ⟨N, rfl⟩ : ∃ q, N = q + 1 := ⟨N - 1, by omega⟩
      simp only [I.PlayOf_run8, I.PlayOf_step8]
      unfold playN
      rcases playK_cases h f hA with ⟨hf, ek⟩ | ⟨hf, k, hk, ek, hp, _⟩
      · rw [if_pos hf, ek, cnd_f (by rw [decide_eq_false_iff_not]; omega)]; simp
      · have hl2 : leg net A k = true := by unfold playP at hp; exact (Bool.and_eq_true _ _ ▸ hp).1
        obtain ⟨a, b⟩ := leg_more h hA hk hl2
        have := size_len h a
        have hbl := h.ball_lt hk
        rw [if_neg hf, ek, cnd_t (by rw [decide_eq_true_eq]; omega), cnd_t (by unfold D.small; rw [decide_eq_true_eq, List.length_append]; simp; omega), I.ballIn_n h hk]
        simp only [optC]
        rw [i64_or_nat _ _ (by omega) (by omega), I.bestIn_n h g a, Int.toNat_natCast]
        simp only
        rw [ih _ _ _ N a (by omega) (by omega) (by rw [List.length_append]; simp; omega)]
        simp
  have hF := FUEL_le
  have hb0 : I.bestIn_t net gl 0 few = some (playK net 0 few) := I.bestIn_n h g (A := 0) (Nat.two_pow_pos _) few
  rw [hb0]
  simp only
  have := key 7 0 few [] FUEL (Nat.two_pow_pos _) (by omega) (by omega) (by simp)
  rw [show I.PlayOf_run8 net FUEL (0, few, playK net 0 few, [], gl) = _ from this]
  simp [plays]
end Go.Proofs.Ytaidofcjijkbjaa
/- Forests: wires and parts are places. Conditions: those of each theorem. -/
namespace Go.Proofs.Ytaidofcjijkbjaa
set_option linter.unusedVariables false
set_option linter.unusedSimpArgs false

/-- The ends of wires within a set. -/
def inEnd (net : List Int) (s i j : Nat) : Nat := (s.testBit i && s.testBit j && (nb net i).testBit j).toNat
def ends2 (net : List Int) (s : Nat) : Nat := sumN net.length fun i => sumN net.length (inEnd net s i)
/-- A set within another one that nobody leaves by a wire. -/
def Closed (net : List Int) (s t : Nat) : Prop := (∀ j, t.testBit j = true → s.testBit j = true) ∧ ∀ i j, t.testBit i = true → s.testBit j = true → (nb net i).testBit j = true → t.testBit j = true
def Covers (net : List Int) (s z : Nat) : Prop := (∀ j, z.testBit j = true → s.testBit j = true) ∧ ∀ t, t < 2 ^ net.length → t ≠ 0 → Closed net s t → ∃ j, z.testBit j = true ∧ t.testBit j = true
/-- Places go till nobody can. -/
inductive Down (net : List Int) (r : Nat) : Nat → Prop
  | here : Down net r r
  | step {s k : Nat} : s.testBit k = true → size (nb net k &&& s) ≤ 1 → Down net r (s - 2 ^ k) → Down net r s
end Go.Proofs.Ytaidofcjijkbjaa
/- Grown packings and sets that see each place once. Conditions: those of each theorem. -/
namespace Go.Proofs.Ytaidofcjijkbjaa
open D Go.RowKit
set_option linter.unusedVariables false
set_option linter.unusedSimpArgs false

def growP (net : List Int) (t k : Nat) : Nat := if packed net (t ||| 2 ^ k) = true then t ||| 2 ^ k else t
def grownP (net : List Int) (s : Nat) : Nat := fold net.length (growP net) s
def GrowI (net : List Int) (s k t : Nat) : Prop := t < 2 ^ net.length ∧ packed net t = true ∧ (∀ j, s.testBit j = true → t.testBit j = true) ∧ ∀ j, j < k → t.testBit j = false → packed net (t ||| 2 ^ j) = false
/-- Each place is seen once. -/
def efficientB (net : List Int) (s : Nat) : Bool := packed net s && W net s
theorem Down.trans {net : List Int} {r t s : Nat} (h1 : Down net r t) (h2 : Down net t s) : Down net r s := by
  induction h2 with
  | here => exact h1
  | step a b _ ih => exact .step a b ih
/-- One sweep over the places: each with at most one neighbour left goes. -/
def peelStep (net : List Int) (t : Bool × Nat) (k : Nat) : Bool × Nat := if (t.2.testBit k && decide (size (nb net k &&& t.2) < 2)) = true then (true, t.2 - 2 ^ k) else t
def PeelI (net : List Int) (s k : Nat) (t : Bool × Nat) : Prop := Down net t.2 s ∧ t.2 ≤ s ∧ (t.1 = false → t.2 = s ∧ ∀ j, j < k → s.testBit j = true → 2 ≤ size (nb net j &&& s)) ∧ (t.1 = true → t.2 < s)
noncomputable def forestB (net : List Int) : Bool := @decide (Peel net (allOf net)) (Classical.propDecidable _)
end Go.Proofs.Ytaidofcjijkbjaa
/- The model's functions of chapter 11 in natural numbers: packings. Conditions: those of each theorem. -/
namespace Go.Proofs.Ytaidofcjijkbjaa
open D Go.RowKit
set_option linter.unusedVariables false
set_option linter.unusedSimpArgs false


def mostPacked (net : List Int) : Nat := maxSize net (packed net)
def efficientI (net : List Int) : Int := (find (2 ^ net.length) (fun s => if efficientB net s = true then some (s : Int) else none)).getD (-1)
def grownPI (net : List Int) (s : Int) : Int := if (0 ≤ s ∧ s < 2 ^ net.length) ∧ packed net s.toNat = true then ((grownP net s.toNat : Nat) : Int) else -1
end Go.Proofs.Ytaidofcjijkbjaa
/- The program's functions of chapter 11 in natural numbers. Conditions: those of each theorem. -/
namespace Go.Proofs.Ytaidofcjijkbjaa
open D Go.RowKit
set_option linter.unusedVariables false
set_option linter.unusedSimpArgs false


/-- The first place with at most one neighbour left. -/
def leafF (net : List Int) (s : Nat) : Int := (find net.length (fun k => if (s.testBit k && decide (size (nb net k &&& s) ≤ 1)) = true then some (k : Int) else none)).getD (-1)
end Go.Proofs.Ytaidofcjijkbjaa
/- The laws of chapter 2: WatchOk, LeastWatchOk, FewestWatch, WatchOf. Conditions: those of each theorem. -/
namespace Go.Proofs.Ytaidofcjijkbjaa
open D Go.RowKit
set_option linter.unusedVariables false
set_option linter.unusedSimpArgs false


end Go.Proofs.Ytaidofcjijkbjaa
/- The laws of chapter 2: ThinnedWatch, WatchCounts, LeastWatches. Conditions: those of each theorem. -/
namespace Go.Proofs.Ytaidofcjijkbjaa
open D Go.RowKit
set_option linter.unusedVariables false
set_option linter.unusedSimpArgs false


/-! ### Counts -/
def cw (net : List Int) (j : Nat) : Nat := cnt (2 ^ net.length) (fun s => W net s && (size s == j))
theorem L.sameInts_is {a : List Int} (ha : a.length ≤ 1000000) : L.sameInts_t a a = some true := by
  unfold L.sameInts_t L.sameInts_tree
  have := (run_for (run := L.sameInts_run4 a a) (len := a.length) (fun k (_ : Unit) => (k : Int)) (fun t k => ()) (fun t => Sum.inr ()) (fun k t => True) (by omega) (fun n k t hk ht => ?_) (fun n t ht => ?_) (t0 := ()) trivial).1
  · rw [cnd_f (by simp), show L.sameInts_run4 a a FUEL 0 = _ from this]
    rfl
  · refine ⟨?_, trivial⟩
    simp only [L.sameInts_run4, L.sameInts_step4]
    rw [cnd_t (by simp; omega), cnd_t (by simp; omega), cnd_t (by simp; omega), cnd_f (by simp), add1_nat (by omega)]
  · simp only [L.sameInts_run4, L.sameInts_step4]
    rw [cnd_f (by simp)]
/-! ### Least watches -/
end Go.Proofs.Ytaidofcjijkbjaa
/- The program's functions that the laws of chapters 12 and 13 call. Conditions: none. -/
namespace Go.Proofs.Ytaidofcjijkbjaa
end Go.Proofs.Ytaidofcjijkbjaa
/- Laws of chapter 3, and of chapter 4 over sets. Conditions: those of each theorem. -/
namespace Go.Proofs.Ytaidofcjijkbjaa
open D Go.RowKit
set_option linter.unusedVariables false
set_option linter.unusedSimpArgs false


end Go.Proofs.Ytaidofcjijkbjaa
/- Laws of chapter 5, and of chapter 4 over a net. Conditions: those of each theorem. -/
namespace Go.Proofs.Ytaidofcjijkbjaa
open D Go.RowKit
set_option linter.unusedVariables false
set_option linter.unusedSimpArgs false


/-- The net in which all are neighbours. -/
def whole (n : Nat) : List Int := fold n (fun l k => l ++ [((2 ^ n - 1 - 2 ^ k : Nat) : Int)]) []
end Go.Proofs.Ytaidofcjijkbjaa
/- Laws of chapters 12 and 13. Conditions: those of each theorem. -/
namespace Go.Proofs.Ytaidofcjijkbjaa
open D Go.RowKit
set_option linter.unusedVariables false
set_option linter.unusedSimpArgs false


theorem mayB_in {net : List Int} {s p : Nat} (hs : s < 2 ^ net.length) (hp : p < net.length) : mayB net (s : Int) (p : Int) = leg net s p := by
  unfold mayB
  rw [set_in hs, Int.toNat_natCast, Int.toNat_natCast, show decide (0 ≤ (p : Int) ∧ (p : Int) < net.length) = true by simp; omega]
  rfl
theorem gameI_in {net : List Int} {s : Nat} {few : Bool} (hs : s < 2 ^ net.length) : gameI net (s : Int) few = ((game net s few : Nat) : Int) := by
  unfold gameI
  rw [if_pos ⟨by omega, by rw [two_pow_cast]; omega⟩, Int.toNat_natCast]
theorem bestI_in {net : List Int} {s : Nat} {few : Bool} (hs : s < 2 ^ net.length) : bestI net (s : Int) few = playK net s few := by
  unfold bestI
  rw [if_pos ⟨by omega, by rw [two_pow_cast]; omega⟩, Int.toNat_natCast]
theorem L.FnGameMoves_is {code : List Int} (hm : code.length ≤ maxLen) (hw : ∀ n ∈ code, (Lit.int .u8 n).wf = true) : L.FnGameMoves_t code = some true := by
  unfold L.FnGameMoves_t L.FnGameMoves_tree
  by_cases hc : (code.length : Int) > 1048576
  · rw [cnd_t (by simpa using hc)]
  rw [cnd_f (by simpa using hc)]
  obtain ⟨v, few, net, e1, h1, h2⟩ := S.DrawGameMoves_is (Bytes.wf hw)
  rw [e1]
  simp only [optC]
  rcases NetOk_cases net with ⟨h, g1, g2⟩ | ⟨_, g1, g2⟩
  · have h6 := h.hi
    have h64 := h.pow
    rw [I.GameMoves_n h g1, S.GameMoves_n h g2]
    simp only
    rw [cnd_f (by simp)]
    rcases set_cases h (v : Int) with ⟨s, hs, hsl, hd⟩ | hd
    · obtain rfl : v = s := by omega
      rw [gameI_in hsl, cnd_f (by rw [decide_eq_false_iff_not]; omega)]
      have loop := (run_for (run := L.FnGameMoves_run10 (v : Int) few ((game net v few : Nat) : Int)) (len := net.length) (fun k (_ : Unit) => ((k : Int), net)) (fun t k => ()) (fun _ => Sum.inr net) (fun k t => True) (by omega) (fun n k t hk ht => ?_) (fun n t ht => ?_) (t0 := ()) trivial).1
      · rw [show L.FnGameMoves_run10 (v : Int) few ((game net v few : Nat) : Int) FUEL (0, net) = _ from loop]
        simp only [sumC]
        have hz : (0 : Nat) < 2 ^ net.length := Nat.two_pow_pos _
        have hfw := fewest_few h
        have b1 := game_least h hfw true
        have b2 := game_least h hfw false
        have b3 := game_bounds h hfw
        have b4 := game_turn h hsl
        have c1 := game_bound h true hz
        have c2 := game_bound h false hz
        have c3 := game_bound h few hsl
        have c4 := game_bound h (!few) hsl
        have e10 : I.GameMoves_t net 0 true = some ((game net 0 true : Nat) : Int) := by
          rw [I.GameMoves_n h g1]; exact congrArg some (gameI_in (s := 0) hz)
        have e11 : I.GameMoves_t net 0 false = some ((game net 0 false : Nat) : Int) := by
          rw [I.GameMoves_n h g1]; exact congrArg some (gameI_in (s := 0) hz)
        have d1 : game net v few ≤ game net v (!few) + 1 ∧ game net v (!few) ≤ game net v few + 1 := by
          cases few with
          | true => exact b4
          | false => exact ⟨b4.2, b4.1⟩
        rw [I.GameMoves_n h g1, gameI_in hsl, I.FewestWatch_y h g1, e10, e11]
        simp only
        rw [i64_wrap (n := ((game net v few : Nat) : Int) - ((game net v (!few) : Nat) : Int)) (by omega) (by omega), i64_wrap (n := ((game net v (!few) : Nat) : Int) - ((game net v few : Nat) : Int)) (by omega) (by omega),
          i64_wrap (n := 2 * ((fewest net : Nat) : Int)) (by omega) (by omega), i64_wrap (n := 2 * ((fewest net : Nat) : Int) - 1) (by omega) (by omega),
          cnd_t (by rw [decide_eq_true_eq]; omega), cnd_t (by rw [decide_eq_true_eq]; omega), cnd_t (by rw [decide_eq_true_eq]; omega), cnd_t (by rw [decide_eq_true_eq]; omega), cnd_t (by rw [decide_eq_true_eq]; omega), cnd_t (by rw [decide_eq_true_eq]; omega), all_shl h]
        have e3 : (((game net v few : Nat) : Int) == 0) = ((v : Int) == ((allOf net : Nat) : Int)) := by
          rw [Bool.eq_iff_iff, beq_iff_eq, beq_iff_eq]
          have := game_zero h few hsl
          constructor
          · intro e; have := this.1 (by omega); omega
          · intro e; have := this.2 (by omega); omega
        rw [e3, beq_self_eq_true]
      · simp only [L.FnGameMoves_run10, L.FnGameMoves_step10]
        have h2k : 2 ^ k < 2 ^ 6 := Nat.pow_lt_pow_right (by omega) (by omega)
        have hor := or_lt hsl hk
        have hle := game_more h few hsl hor (fun j hj => (or_testBit _ _ _).2 (.inl hj))
        rw [cnd_t (by rw [decide_eq_true_eq]; omega), cnd_f (by simp), one_shl (by omega), i64_or_nat _ _ (by omega) (by omega), I.GameMoves_n h g1, gameI_in hor]
        simp only [optC]
        rw [cnd_f (by rw [decide_eq_false_iff_not]; omega), add1_nat (by omega)]
        exact ⟨rfl, trivial⟩
      · simp only [L.FnGameMoves_run10, L.FnGameMoves_step10]
        rw [cnd_f (by rw [decide_eq_false_iff_not]; omega)]
    · have : gameI net (v : Int) few = -1 := by unfold gameI; rw [if_neg (dec_false hd)]
      rw [this, cnd_t (by decide), cnd_t (by decide), I.SeenBy_o h g1 hd]
      simp only
      rw [cnd_t (by decide), L.alive_is]
  · rw [I.GameMoves_x g1, S.GameMoves_x g2, I.SeenBy_x g1]
    simp only
    rw [cnd_f (by decide), cnd_t (by decide), cnd_t (by decide), cnd_t (by decide), L.alive_is]
theorem L.FnBestPlay_is {code : List Int} (hm : code.length ≤ maxLen) (hw : ∀ n ∈ code, (Lit.int .u8 n).wf = true) : L.FnBestPlay_t code = some true := by
  unfold L.FnBestPlay_t L.FnBestPlay_tree
  by_cases hc : (code.length : Int) > 1048576
  · rw [cnd_t (by simpa using hc)]
  rw [cnd_f (by simpa using hc)]
  obtain ⟨v, few, net, e1, h1, h2⟩ := S.DrawBestPlay_is (Bytes.wf hw)
  rw [e1]
  simp only [optC]
  rcases NetOk_cases net with ⟨h, g1, g2⟩ | ⟨_, g1, g2⟩
  · have h6 := h.hi
    have h64 := h.pow
    rw [I.BestPlay_n h g1, S.BestPlay_n h g2]
    simp only
    rw [cnd_f (by simp)]
    rcases set_cases h (v : Int) with ⟨s, hs, hsl, hd⟩ | hd
    · obtain rfl : v = s := by omega
      rw [bestI_in hsl, I.GameMoves_n h g1, gameI_in hsl]
      rcases playK_cases h few hsl with ⟨hx, hy⟩ | ⟨hne, k, hk, ek, hp, hlt⟩
      · rw [hy, cnd_t (by decide), cnd_t (by decide)]
        simp only
        rw [hx, game_full h few, cnd_t (by decide), L.alive_is]
      · rw [ek, cnd_f (by rw [decide_eq_false_iff_not]; omega)]
        simp only
        have hpos := game_pos h few hsl hne
        have hgb := game_bound h few hsl
        have ball_next : ∀ j : Nat, j < net.length → (I.GameMoves_t net (bits .or .i64 (v : Int) ((ball net j : Nat) : Int)) (!few)) = some ((game net (v ||| ball net j) (!few) : Nat) : Int) := by
          intro j hj
          have hb := h.ball_lt hj
          rw [i64_or_nat _ _ (by omega) (by omega), I.GameMoves_n h g1, gameI_in (Nat.or_lt_two_pow hsl hb)]
        have loop := (run_for (run := L.FnBestPlay_run11 (v : Int) few (k : Int) ((game net v few : Nat) : Int)) (len := k) (fun j (_ : Unit) => ((j : Int), net)) (fun t k => ()) (fun _ => Sum.inr net) (fun k t => True) (by omega) (fun n j t hj ht => ?_) (fun n t ht => ?_) (t0 := ()) trivial).1
        · rw [show L.FnBestPlay_run11 (v : Int) few (k : Int) ((game net v few : Nat) : Int) FUEL (0, net) = _ from loop]
          simp only [sumC]
          unfold playP at hp
          rw [Bool.and_eq_true, beq_iff_eq] at hp
          rw [I.PlayMay_n h g1, mayB_in hsl hk, hp.1]
          simp only [cond_true]
          rw [I.BallOf_n h g1 hk]
          simp only
          rw [ball_next k hk, i64_wrap (by omega) (by omega)]
          simp only
          congr 1
          rw [beq_iff_eq]
          omega
        · simp only [L.FnBestPlay_run11, L.FnBestPlay_step11]
          rw [cnd_t (by rw [decide_eq_true_eq]; omega), I.PlayMay_n h g1, mayB_in hsl (by omega), add1_nat (by omega)]
          simp only [optC]
          cases hl : leg net v j with
          | false => exact ⟨rfl, trivial⟩
          | true =>
            have hnp := hlt j hj
            unfold playP at hnp
            rw [hl, Bool.true_and, beq_eq_false_iff_ne] at hnp
            rw [cond_true, I.BallOf_n h g1 (by omega)]
            simp only
            rw [ball_next j (by omega), i64_wrap (by omega) (by omega)]
            simp only
            rw [cnd_f (by rw [beq_eq_false_iff_ne]; omega)]
            exact ⟨rfl, trivial⟩
        · simp only [L.FnBestPlay_run11, L.FnBestPlay_step11]
          rw [cnd_f (by rw [decide_eq_false_iff_not]; omega)]
    · have hb : bestI net (v : Int) few = -1 := by unfold bestI; rw [if_neg (dec_false hd)]
      have hg : gameI net (v : Int) few = -1 := by unfold gameI; rw [if_neg (dec_false hd)]
      rw [hb, cnd_t (by decide), cnd_t (by decide), I.GameMoves_n h g1, hg]
      simp only
      rw [cnd_t (by decide), L.alive_is]
  · rw [I.BestPlay_x g1, S.BestPlay_x g2, I.GameMoves_x g1]
    simp only
    rw [cnd_f (by decide), cnd_t (by decide), cnd_t (by decide), cnd_t (by decide), L.alive_is]
theorem playN_game {net : List Int} (h : Ok net) : ∀ m A few, A < 2 ^ net.length → net.length - size A ≤ m → (playN net m A few).length = game net A few := by
  intro m
  induction m with
  | zero =>
    intro A few hA hm
    have := size_len h hA
    rw [full_size h hA (by omega), game_full h few]; rfl
  | succ m ih =>
    intro A few hA hm
    unfold playN
    by_cases hf : A = allOf net
    · rw [if_pos hf, hf, game_full h few]; rfl
    · rw [if_neg hf]
      rcases playK_cases h few hA with ⟨hx, _⟩ | ⟨_, k, hk, e, hp, _⟩
      · exact absurd hx hf
      · unfold playP at hp
        rw [Bool.and_eq_true, beq_iff_eq] at hp
        obtain ⟨a, b⟩ := leg_more h hA hk hp.1
        have := size_len h a
        rw [e, Int.toNat_natCast, List.length_cons, ih _ _ a (by omega)]
        omega
theorem seen_pow (net : List Int) {k : Nat} (hk : k < net.length) : ∀ s, seen net (s ||| 2 ^ k) = seen net s ||| ball net k := by
  intro s
  rw [seen_or]
  congr 1
  refine Nat.eq_of_testBit_eq fun j => ?_
  rw [Bool.eq_iff_iff, seen_testBit, ball_testBit, testBit_pow, decide_eq_true_eq]
  constructor
  · rintro (a | ⟨i, hi, a, b⟩)
    · exact .inr a
    · rw [testBit_pow, decide_eq_true_eq] at a
      subst a
      exact .inl b
  · rintro (a | a)
    · exact .inr ⟨k, hk, by rw [testBit_pow]; simp, a⟩
    · exact .inl a
theorem eli_at (a : List Int) (x : Int) (b : List Int) : D.eli (a ++ x :: b) a.length = x := by unfold D.eli; simp [List.getD]
theorem L.FnPlayOf_loop {net : List Int} (h : Ok net) (g1 : I.NetOk_t net = some true) (few0 : Bool) : ∀ (m A S : Nat) (f : Bool) (out : List Int) (n : Nat), A < 2 ^ net.length → S < 2 ^ net.length → seen net S = A → net.length - size A ≤ m → m < n → out.length + m ≤ 100 →
    ∃ S' : Nat, L.FnPlayOf_run12 few0 n ((A : Int), (S : Int), (out.length : Int), net, out ++ playN net m A f) = some (.inr ((S' : Int), net, out ++ playN net m A f)) ∧ S' < 2 ^ net.length ∧ seen net S' = allOf net := by
  have h6 := h.hi
  have h64 := h.pow
  have stop : ∀ (m A S : Nat) (f : Bool) (out : List Int) (n : Nat), A = allOf net → S < 2 ^ net.length → seen net S = A → ∃ S' : Nat, L.FnPlayOf_run12 few0 (n + 1) ((A : Int), (S : Int), (out.length : Int), net, out ++ playN net m A f) = some (.inr ((S' : Int), net, out ++ playN net m A f)) ∧ S' < 2 ^ net.length ∧ seen net S' = allOf net := by
    intro m A S f out n hf hS hs
    have hp : playN net m A f = [] := by
      cases m with
      | zero => rfl
      | succ m => unfold playN; rw [if_pos hf]
    rw [hp, List.append_nil]
    simp only [L.FnPlayOf_run12, L.FnPlayOf_step12]
    rw [cnd_f (by rw [decide_eq_false_iff_not]; omega)]
    exact ⟨S, rfl, hS, by rw [hs, hf]⟩
  intro m
  induction m with
  | zero =>
    intro A S f out n hA hS hs hm hn hl
    obtain ⟨n, rfl⟩ : ∃ q, n = q + 1 := ⟨n - 1, by omega⟩
    have := size_len h hA
    exact stop 0 A S f out n (full_size h hA (by omega)) hS hs
  | succ m ih =>
    intro A S f out n hA hS hs hm hn hl
    obtain ⟨n, rfl⟩ : ∃ q, n = q + 1 := ⟨n - 1, by omega⟩
    by_cases hf : A = allOf net
    · exact stop (m + 1) A S f out n hf hS hs
    · rcases playK_cases h f hA with ⟨hx, _⟩ | ⟨_, k, hk, e, hp, _⟩
      · exact absurd hx hf
      · unfold playP at hp
        rw [Bool.and_eq_true, beq_iff_eq] at hp
        obtain ⟨a, b⟩ := leg_more h hA hk hp.1
        have hsz := size_len h a
        have hbl := h.ball_lt hk
        have h2k : 2 ^ k < 2 ^ 6 := Nat.pow_lt_pow_right (by omega) (by omega)
        have epl : playN net (m + 1) A f = (k : Int) :: playN net m (A ||| ball net k) (!f) := by
          rw [show playN net (m + 1) A f = if A = allOf net then [] else playK net A f :: playN net m (A ||| ball net (playK net A f).toNat) (!f) from rfl, if_neg hf, e, Int.toNat_natCast]
        rw [epl]
        have hlen : (out ++ (k : Int) :: playN net m (A ||| ball net k) (!f)).length = out.length + 1 + (playN net m (A ||| ball net k) (!f)).length := by simp; omega
        simp only [L.FnPlayOf_run12, L.FnPlayOf_step12]
        rw [Int.toNat_natCast, eli_at]
        rw [cnd_t (by rw [decide_eq_true_eq, hlen]; omega), cnd_t (by rw [Bool.and_eq_true, decide_eq_true_eq, decide_eq_true_eq, hlen]; omega), cnd_t (by rw [decide_eq_true_eq, hlen]; omega), I.PlayMay_n h g1, mayB_in hA hk, hp.1]
        simp only [optC, Bool.not_true, cond_false]
        rw [cnd_t (by rw [Bool.and_eq_true, decide_eq_true_eq, decide_eq_true_eq, hlen]; omega), cnd_t (by rw [decide_eq_true_eq, hlen]; omega), I.BallOf_n h g1 hk]
        simp only
        rw [cnd_t (by rw [Bool.and_eq_true, decide_eq_true_eq, decide_eq_true_eq, hlen]; omega), cnd_t (by rw [decide_eq_true_eq, hlen]; omega), cnd_f (by simp), one_shl (by omega), i64_or_nat _ _ (by omega) (by omega), i64_or_nat _ _ (by omega) (by omega), add1_nat (by omega)]
        obtain ⟨S', s1, s2, s3⟩ := ih (A ||| ball net k) (S ||| 2 ^ k) (!f) (out ++ [(k : Int)]) n a (or_lt hS hk) (by rw [seen_pow net hk, hs]) (by omega) (by omega) (by simp; omega)
        rw [List.append_assoc, List.singleton_append, List.length_append, List.length_singleton] at s1
        exact ⟨S', s1, s2, s3⟩
theorem L.FnPlayOf_is {code : List Int} (hm : code.length ≤ maxLen) (hw : ∀ n ∈ code, (Lit.int .u8 n).wf = true) : L.FnPlayOf_t code = some true := by
  unfold L.FnPlayOf_t L.FnPlayOf_tree
  by_cases hc : (code.length : Int) > 1048576
  · rw [cnd_t (by simpa using hc)]
  rw [cnd_f (by simpa using hc)]
  obtain ⟨few, net, e1, h1⟩ := S.DrawPlayOf_is (Bytes.wf hw)
  rw [e1]
  simp only [optC]
  rcases NetOk_cases net with ⟨h, g1, g2⟩ | ⟨_, g1, g2⟩
  · have h6 := h.hi
    have h64 := h.pow
    have hF := FUEL_le
    have hlo := h.lo
    have hz : (0 : Nat) < 2 ^ net.length := Nat.two_pow_pos _
    have hlen := playN_game h 7 0 few hz (by omega)
    have hgb := game_bound h few hz
    have hne : (0 : Nat) ≠ allOf net := by
      have := allOf_succ net
      have : 2 ^ 1 ≤ 2 ^ net.length := Nat.pow_le_pow_right (by omega) hlo
      omega
    have hpos := game_pos h few hz hne
    rw [I.PlayOf_n h g1, S.PlayOf_n h g2]
    simp only
    rw [L.sameInts_is (by unfold plays; omega)]
    simp only [Bool.not_true, cond_false]
    rw [cnd_f (by rw [beq_eq_false_iff_ne]; unfold plays; omega)]
    obtain ⟨S', s1, s2, s3⟩ := L.FnPlayOf_loop h g1 few 7 0 0 few [] FUEL hz hz (seen_zero net) (by omega) (by omega) (by simp)
    rw [show L.FnPlayOf_run12 few FUEL (0, 0, 0, net, plays net few) = _ from s1]
    simp only [sumC]
    have e10 : I.GameMoves_t net 0 few = some ((game net 0 few : Nat) : Int) := by
      rw [I.GameMoves_n h g1]; exact congrArg some (gameI_in (s := 0) hz)
    rw [e10]
    simp only
    rw [List.nil_append, cnd_t (by rw [hlen]; simp), I.WatchOk_n h g1, set_in s2, Int.toNat_natCast]
    simp only [Bool.true_and]
    congr 1
    unfold W
    rw [s3, beq_self_eq_true]
  · rw [I.PlayOf_x g1, S.PlayOf_x g2]
    simp only
    rw [L.sameInts_is (by simp)]
    simp only [Bool.not_true, cond_false]
    rw [cnd_t (by rfl), g1]
    simp only [Bool.not_false, cond_true]
    rw [L.alive_is]
end Go.Proofs.Ytaidofcjijkbjaa
/- Exact laws of chapters 12 and 13. Conditions: those of each theorem. -/
namespace Go.Proofs.Ytaidofcjijkbjaa
open D Go.RowKit
set_option linter.unusedVariables false
set_option linter.unusedSimpArgs false


theorem GameMoves_same {a0 : List Int} {a1 : Int} {a2 : Bool} : ∃ v, S.GameMoves_t a0 a1 a2 = some v ∧ I.GameMoves_t a0 a1 a2 = some v := by
  rcases NetOk_cases a0 with ⟨h, e1, e2⟩ | ⟨_, e1, e2⟩
  · exact ⟨_, S.GameMoves_n h e2 a1 a2, I.GameMoves_n h e1 a1 a2⟩
  · exact ⟨_, S.GameMoves_x e2 a1 a2, I.GameMoves_x e1 a1 a2⟩
theorem L.FnExactGameMoves_is {a0 : List Int} {a1 : Int} {a2 : Bool} : L.FnExactGameMoves_t a0 a1 a2 = some true := by
  unfold L.FnExactGameMoves_t L.FnExactGameMoves_tree
  by_cases ha0 : (a0.length : Int) > 1048576
  · rw [cnd_t (by simpa using ha0)]
  rw [cnd_f (by simpa using ha0)]
  have ta0 := L.toIntS_is (a := a0) (by omega)
  have ea0 := L.eqIntS_is (a := a0) (b := a0) (by omega)
  obtain ⟨b, h1, h2⟩ := GameMoves_same (a0 := a0) (a1 := a1) (a2 := a2)
  simp only [optC, ta0, ea0, h1, h2]
  simp
theorem BestPlay_same {a0 : List Int} {a1 : Int} {a2 : Bool} : ∃ v, S.BestPlay_t a0 a1 a2 = some v ∧ I.BestPlay_t a0 a1 a2 = some v := by
  rcases NetOk_cases a0 with ⟨h, e1, e2⟩ | ⟨_, e1, e2⟩
  · exact ⟨_, S.BestPlay_n h e2 a1 a2, I.BestPlay_n h e1 a1 a2⟩
  · exact ⟨_, S.BestPlay_x e2 a1 a2, I.BestPlay_x e1 a1 a2⟩
theorem L.FnExactBestPlay_is {a0 : List Int} {a1 : Int} {a2 : Bool} : L.FnExactBestPlay_t a0 a1 a2 = some true := by
  unfold L.FnExactBestPlay_t L.FnExactBestPlay_tree
  by_cases ha0 : (a0.length : Int) > 1048576
  · rw [cnd_t (by simpa using ha0)]
  rw [cnd_f (by simpa using ha0)]
  have ta0 := L.toIntS_is (a := a0) (by omega)
  have ea0 := L.eqIntS_is (a := a0) (b := a0) (by omega)
  obtain ⟨b, h1, h2⟩ := BestPlay_same (a0 := a0) (a1 := a1) (a2 := a2)
  simp only [optC, ta0, ea0, h1, h2]
  simp
theorem PlayOf_same {a0 : List Int} {a1 : Bool} : ∃ v, S.PlayOf_t a0 a1 = some v ∧ I.PlayOf_t a0 a1 = some v ∧ v.length ≤ 1000000 := by
  rcases NetOk_cases a0 with ⟨h, e1, e2⟩ | ⟨_, e1, e2⟩
  · have h6 := h.hi
    refine ⟨_, S.PlayOf_n h e2 a1, I.PlayOf_n h e1 a1, ?_⟩
    exact Nat.le_trans (playN_len h 7 0 a1) (by omega)
  · exact ⟨_, S.PlayOf_x e2 a1, I.PlayOf_x e1 a1, by simp⟩
theorem L.FnExactPlayOf_is {a0 : List Int} {a1 : Bool} : L.FnExactPlayOf_t a0 a1 = some true := by
  unfold L.FnExactPlayOf_t L.FnExactPlayOf_tree
  by_cases ha0 : (a0.length : Int) > 1048576
  · rw [cnd_t (by simpa using ha0)]
  rw [cnd_f (by simpa using ha0)]
  have ta0 := L.toIntS_is (a := a0) (by omega)
  have ea0 := L.eqIntS_is (a := a0) (b := a0) (by omega)
  obtain ⟨v, h1, h2, hv⟩ := PlayOf_same (a0 := a0) (a1 := a1)
  obtain ⟨m, m1, m4⟩ := L.marked (v := v) (by omega)
  have ev := L.eqIntS_is (a := v) (b := v) (by omega)
  obtain ⟨ma0, ka0, _, _⟩ := L.markIntS_is (a := a0) (k0 := 1) (by omega) (by omega)
  have ka0' : L.markIntS_t a0 1 = _ := ka0
  simp only [optC, ta0, ea0, h1, h2, ev, m1, m4, ka0', decide_true, Bool.not_true, cond_false, neg_nat, not_beq_self]
end Go.Proofs.Ytaidofcjijkbjaa
