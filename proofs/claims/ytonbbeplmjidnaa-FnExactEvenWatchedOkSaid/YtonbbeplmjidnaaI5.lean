/- The program's functions of chapter 4 over nets, and of chapter 5, in natural numbers. Conditions: those of each theorem. -/
import Derived.Test.YtonbbeplmjidnaaI3
namespace Go.Proofs.Ytonbbeplmjidnaa
open D Go.RowKit
set_option linter.unusedVariables false
set_option linter.unusedSimpArgs false


theorem I.FewestApart_x {net : List Int} (e : I.NetOk_t net = some false) : I.FewestApart_t net = some (-1) := by
  unfold I.FewestApart_t I.FewestApart_tree; rw [e]; rfl
theorem I.MostApart_x {net : List Int} (e : I.NetOk_t net = some false) : I.MostApart_t net = some (-1) := by
  unfold I.MostApart_t I.MostApart_tree; rw [e]; rfl
theorem I.ApartCount_x {net : List Int} (e : I.NetOk_t net = some false) : I.ApartCount_t net = some (-1) := by
  unfold I.ApartCount_t I.ApartCount_tree; rw [e]; rfl
theorem I.FewestNeeds_x {net : List Int} (e : I.NetOk_t net = some false) : I.FewestNeeds_t net = some (-1) := by
  unfold I.FewestNeeds_t I.FewestNeeds_tree; rw [e]; rfl
theorem I.MostNeeds_x {net : List Int} (e : I.NetOk_t net = some false) : I.MostNeeds_t net = some (-1) := by
  unfold I.MostNeeds_t I.MostNeeds_tree; rw [e]; rfl
theorem I.MostLeast_x {net : List Int} (e : I.NetOk_t net = some false) : I.MostLeast_t net = some (-1) := by
  unfold I.MostLeast_t I.MostLeast_tree; rw [e]; rfl
theorem I.ChainRow_x {net : List Int} (e : I.NetOk_t net = some false) : I.ChainRow_t net = some [] := by
  unfold I.ChainRow_t I.ChainRow_tree; rw [e]; rfl
theorem I.EvenWatchedOk_x {net : List Int} (e : I.NetOk_t net = some false) : I.EvenWatchedOk_t net = some false := by
  unfold I.EvenWatchedOk_t I.EvenWatchedOk_tree; rw [e]; rfl
theorem I.FewestApart_y {net : List Int} (h : Ok net) (e : I.NetOk_t net = some true) : I.FewestApart_t net = some ((minSize net (fullA net) : Nat) : Int) := by
  unfold I.FewestApart_t I.FewestApart_tree
  have h64 := h.pow
  have h6 := h.hi
  have hsu := allOf_succ net
  rw [e]
  have := (run_for (run := I.FewestApart_run5 net) (len := 2 ^ net.length) (fun k (t : Nat) => ((t : Int), (k : Int))) (minStep (fullA net)) (fun t => (t : Int)) (fun k t => t ≤ 6) (by omega) (fun n k t hk ht => ?_) (fun n t ht => ?_) (t0 := net.length) (by omega)).1
  · exact congrArg (fun o => optC o (fun q => some q) none) this
  · refine ⟨?_, minStep_le ht⟩
    simp only [I.FewestApart_run5, I.FewestApart_step5]
    rw [I.allOf_n h]
    simp only [optC]
    rw [cnd_t (by rw [decide_eq_true_eq]; omega), I.sizeOf_n]
    simp only
    by_cases hc : size k < t
    · rw [cnd_t (by rw [decide_eq_true_eq]; omega), I.fullApartIn_n h hk, minStep_lt hc]
      simp only
      cases hp : fullA net k with
      | true => simp only [cond_true, if_true]; rw [add1_nat (by omega)]
      | false => simp only [cond_false, Bool.false_eq_true, if_false]; rw [add1_nat (by omega)]
    · rw [cnd_f (by rw [decide_eq_false_iff_not]; omega), minStep_ge hc, add1_nat (by omega)]
  · simp only [I.FewestApart_run5, I.FewestApart_step5]
    rw [I.allOf_n h]
    simp only [optC]
    rw [cnd_f (by rw [decide_eq_false_iff_not]; omega)]
theorem I.MostApart_y {net : List Int} (h : Ok net) (e : I.NetOk_t net = some true) : I.MostApart_t net = some ((maxSize net (apart net) : Nat) : Int) := by
  unfold I.MostApart_t I.MostApart_tree
  have h64 := h.pow
  have h6 := h.hi
  have hsu := allOf_succ net
  rw [e]
  have := (run_for (run := I.MostApart_run5 net) (len := 2 ^ net.length) (fun k (t : Nat) => ((t : Int), (k : Int))) (maxStep (apart net)) (fun t => (t : Int)) (fun k t => t ≤ 6) (by omega) (fun n k t hk ht => ?_) (fun n t ht => ?_) (t0 := 0) (by omega)).1
  · exact congrArg (fun o => optC o (fun q => some q) none) this
  · refine ⟨?_, maxStep_le ht⟩
    simp only [I.MostApart_run5, I.MostApart_step5]
    rw [I.allOf_n h]
    simp only [optC]
    rw [cnd_t (by rw [decide_eq_true_eq]; omega), I.sizeOf_n]
    simp only
    by_cases hc : size k > t
    · rw [cnd_t (by rw [decide_eq_true_eq]; omega), I.apartIn_n h hk, maxStep_lt hc]
      simp only
      cases hp : apart net k with
      | true => simp only [cond_true, if_true]; rw [add1_nat (by omega)]
      | false => simp only [cond_false, Bool.false_eq_true, if_false]; rw [add1_nat (by omega)]
    · rw [cnd_f (by rw [decide_eq_false_iff_not]; omega), maxStep_ge hc, add1_nat (by omega)]
  · simp only [I.MostApart_run5, I.MostApart_step5]
    rw [I.allOf_n h]
    simp only [optC]
    rw [cnd_f (by rw [decide_eq_false_iff_not]; omega)]
theorem I.ApartCount_y {net : List Int} (h : Ok net) (e : I.NetOk_t net = some true) : I.ApartCount_t net = some ((apartCount net : Nat) : Int) := by
  unfold I.ApartCount_t I.ApartCount_tree
  have h64 := h.pow
  have hsu := allOf_succ net
  rw [e]
  have := (run_for (run := I.ApartCount_run5 net) (len := 2 ^ net.length) (fun k (t : Nat) => ((t : Int), (k : Int))) (fun t s => t + (apart net s).toNat) (fun t => (t : Int)) (fun k t => t ≤ k) (by omega) (fun n k t hk ht => ?_) (fun n t ht => ?_) (t0 := 0) (Nat.le_refl _)).1
  · unfold apartCount cnt
    rw [← fold_sum]
    exact congrArg (fun o => optC o (fun q => some q) none) this
  · simp only [I.ApartCount_run5, I.ApartCount_step5]
    rw [I.allOf_n h]
    simp only [optC]
    rw [cnd_t (by rw [decide_eq_true_eq]; omega), I.apartIn_n h hk]
    simp only
    cases apart net k with
    | true => rw [cond_true, add1_nat (by omega), add1_nat (by omega)]; exact ⟨rfl, by simp; omega⟩
    | false => rw [cond_false, add1_nat (by omega)]; exact ⟨rfl, by simp; omega⟩
  · simp only [I.ApartCount_run5, I.ApartCount_step5]
    rw [I.allOf_n h]
    simp only [optC]
    rw [cnd_f (by rw [decide_eq_false_iff_not]; omega)]
/-- One of two numbers, by a test and then a call. -/
def sel {α : Type} (a : Bool) (o : Option Bool) (x y : Int) (k : Int → Option α) : Option α := bif a then optC o (fun c => bif c then k x else k y) none else k y
theorem sel_is {α : Type} (a p : Bool) (x y : Int) (k : Int → Option α) : sel a (some p) x y k = k (bif a && p then x else y) := by cases a <;> cases p <;> rfl
theorem sel_min (p : Nat → Bool) (t s : Nat) : (bif decide (((size s : Nat) : Int) < (t : Int)) && p s then ((size s : Nat) : Int) else (t : Int)) = ((minStep p t s : Nat) : Int) := by
  unfold minStep
  by_cases h : size s < t
  · rw [decide_eq_true (by omega), Bool.true_and]
    cases p s with
    | true => rw [if_pos rfl, if_pos h]; rfl
    | false => rw [if_neg (by simp)]; rfl
  · rw [decide_eq_false (by omega), Bool.false_and]
    cases p s with
    | true => rw [if_pos rfl, if_neg h]; rfl
    | false => rw [if_neg (by simp)]; rfl
theorem sel_max (p : Nat → Bool) (t s : Nat) : (bif decide (((size s : Nat) : Int) > (t : Int)) && p s then ((size s : Nat) : Int) else (t : Int)) = ((maxStep p t s : Nat) : Int) := by
  unfold maxStep
  by_cases h : size s > t
  · rw [decide_eq_true (by omega), Bool.true_and]
    cases p s with
    | true => rw [if_pos rfl, if_pos h]; rfl
    | false => rw [if_neg (by simp)]; rfl
  · rw [decide_eq_false (by omega), Bool.false_and]
    cases p s with
    | true => rw [if_pos rfl, if_neg h]; rfl
    | false => rw [if_neg (by simp)]; rfl
theorem I.chainWith_sel (a b c d e f : Int) (net : List Int) (s : Int) : I.chainWith_t a b c d e f net s = optC (I.sizeOf_t s) (fun z => sel (decide (z < a)) (I.fullNeedsIn_t net s) z a fun x0 => sel (decide (z < b)) (I.watchIn_t net s) z b fun x1 => sel (decide (z < c)) (I.fullApartIn_t net s) z c fun x2 => sel (decide (z > d)) (I.apartIn_t net s) z d fun x3 => sel (decide (z > e)) (I.leastWatchIn_t net s) z e fun x4 => sel (decide (z > f)) (I.needsAllIn_t net s) z f fun x5 => some (x0, x1, x2, x3, x4, x5)) none := by kernel_rfl
theorem I.chainWith_n {net : List Int} (h : Ok net) {s : Nat} (hs : s < 2 ^ net.length) (a b c d e f : Nat) : I.chainWith_t a b c d e f net s =
    some (((minStep (fullN net) a s : Nat) : Int), ((minStep (W net) b s : Nat) : Int), ((minStep (fullA net) c s : Nat) : Int), ((maxStep (apart net) d s : Nat) : Int), ((maxStep (least net) e s : Nat) : Int), ((maxStep (needs net) f s : Nat) : Int)) := by
  rw [I.chainWith_sel, I.sizeOf_n, I.fullNeedsIn_n h hs, I.watchIn_n h hs, I.fullApartIn_n h hs, I.apartIn_n h hs, I.leastWatchIn_n h hs, I.needsAllIn_n h hs]
  simp only [optC]
  rw [sel_is, sel_min]
  rw [sel_is, sel_min]
  rw [sel_is, sel_min]
  rw [sel_is, sel_max]
  rw [sel_is, sel_max]
  rw [sel_is, sel_max]
def ch6 (net : List Int) (q : Nat × Nat × Nat × Nat × Nat × Nat) (s : Nat) : Nat × Nat × Nat × Nat × Nat × Nat :=
  (minStep (fullN net) q.1 s, minStep (W net) q.2.1 s, minStep (fullA net) q.2.2.1 s, maxStep (apart net) q.2.2.2.1 s, maxStep (least net) q.2.2.2.2.1 s, maxStep (needs net) q.2.2.2.2.2 s)
theorem fold_ch6 (net : List Int) (n a b c d e f : Nat) : fold n (ch6 net) (a, b, c, d, e, f) = (fold n (minStep (fullN net)) a, fold n (minStep (W net)) b, fold n (minStep (fullA net)) c, fold n (maxStep (apart net)) d, fold n (maxStep (least net)) e, fold n (maxStep (needs net)) f) := by
  induction n with
  | zero => rfl
  | succ n ih => simp only [fold_succ, ih]; rfl
theorem I.chainIn_n {net : List Int} (h : Ok net) : I.chainIn_t net = some (((minSize net (fullN net) : Nat) : Int), ((fewest net : Nat) : Int), ((minSize net (fullA net) : Nat) : Int), ((maxSize net (apart net) : Nat) : Int), ((maxSize net (least net) : Nat) : Int), ((maxSize net (needs net) : Nat) : Int)) := by
  unfold I.chainIn_t I.chainIn_tree
  have h64 := h.pow
  have h6 := h.hi
  have hsu := allOf_succ net
  have := (run_for (run := I.chainIn_run4 net) (len := 2 ^ net.length) (fun k (q : Nat × Nat × Nat × Nat × Nat × Nat) => ((k : Int), 0, 0, 0, 0, 0, 0, (q.1 : Int), (q.2.1 : Int), (q.2.2.1 : Int), (q.2.2.2.1 : Int), (q.2.2.2.2.1 : Int), (q.2.2.2.2.2 : Int))) (ch6 net)
    (fun q => (0, 0, 0, 0, 0, 0, (q.1 : Int), (q.2.1 : Int), (q.2.2.1 : Int), (q.2.2.2.1 : Int), (q.2.2.2.2.1 : Int), (q.2.2.2.2.2 : Int))) (fun _ _ => True) (by omega) (fun n k q hk _ => ?_) (fun n q _ => ?_) (t0 := (net.length, net.length, net.length, 0, 0, 0)) trivial).1
  · rw [fold_ch6] at this
    rw [show I.chainIn_run4 net FUEL (0, 0, 0, 0, 0, 0, 0, (net.length : Int), (net.length : Int), (net.length : Int), 0, 0, 0) = _ from this]
    rfl
  · simp only [I.chainIn_run4, I.chainIn_step4]
    rw [I.allOf_n h]
    simp only [optC]
    rw [cnd_t (by rw [decide_eq_true_eq]; omega), I.chainWith_n h hk]
    simp only
    rw [add1_nat (by omega)]
    exact ⟨rfl, trivial⟩
  · simp only [I.chainIn_run4, I.chainIn_step4]
    rw [I.allOf_n h]
    simp only [optC]
    rw [cnd_f (by rw [decide_eq_false_iff_not]; omega)]
theorem I.FewestNeeds_y {net : List Int} (h : Ok net) (e : I.NetOk_t net = some true) : I.FewestNeeds_t net = some ((minSize net (fullN net) : Nat) : Int) := by
  unfold I.FewestNeeds_t I.FewestNeeds_tree
  rw [e, I.chainIn_n h]
  rfl
theorem I.MostNeeds_y {net : List Int} (h : Ok net) (e : I.NetOk_t net = some true) : I.MostNeeds_t net = some ((maxSize net (needs net) : Nat) : Int) := by
  unfold I.MostNeeds_t I.MostNeeds_tree
  rw [e, I.chainIn_n h]
  rfl
theorem I.MostLeast_y {net : List Int} (h : Ok net) (e : I.NetOk_t net = some true) : I.MostLeast_t net = some ((maxSize net (least net) : Nat) : Int) := by
  unfold I.MostLeast_t I.MostLeast_tree
  rw [e, I.chainIn_n h]
  rfl
theorem I.ChainRow_y {net : List Int} (h : Ok net) (e : I.NetOk_t net = some true) : I.ChainRow_t net = some (chain net) := by
  unfold I.ChainRow_t I.ChainRow_tree
  rw [e, I.chainIn_n h]
  rfl
theorem I.EvenWatchedOk_y {net : List Int} (h : Ok net) (e : I.NetOk_t net = some true) : I.EvenWatchedOk_t net = some (fewest net == maxSize net (least net)) := by
  unfold I.EvenWatchedOk_t I.EvenWatchedOk_tree
  rw [e, I.chainIn_n h]
  simp only [optC, Bool.not_true, cond_false]
  rw [nat_beq]
end Go.Proofs.Ytonbbeplmjidnaa
