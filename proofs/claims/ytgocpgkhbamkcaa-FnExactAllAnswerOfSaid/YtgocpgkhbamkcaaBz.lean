/- Several texts in one: Jm, J10, I7, L7, L8, I9, L9, Ex10. Conditions: those of each theorem. -/
import Derived.Test.YtgocpgkhbamkcaaBzb1
import Derived.Test.YtgocpgkhbamkcaaBzb0
/- A new place for each guard: the program's matching. Conditions: those of each theorem. -/
namespace Go.Proofs.Ytgocpgkhbamkcaa
open D Go.RowKit
set_option linter.unusedVariables false
set_option linter.unusedSimpArgs false


/-- The answer of a matching, in Go's numbers. -/
def kAns (c : Nat → Nat) (T : Nat) (f : Bool) : Int × Int × Int × Int × Int × Int × Int × Bool := (((c 0 : Nat) : Int), ((c 1 : Nat) : Int), ((c 2 : Nat) : Int), ((c 3 : Nat) : Int), ((c 4 : Nat) : Int), ((c 5 : Nat) : Int), ((T : Nat) : Int), f)
theorem eli6 (c : Nat → Nat) {k : Nat} (hk : k < 6) : D.eli [((c 0 : Nat) : Int), ((c 1 : Nat) : Int), ((c 2 : Nat) : Int), ((c 3 : Nat) : Int), ((c 4 : Nat) : Int), ((c 5 : Nat) : Int)] k = ((c k : Nat) : Int) := by
  match k, hk with
  | 0, _ => rfl
  | 1, _ => rfl
  | 2, _ => rfl
  | 3, _ => rfl
  | 4, _ => rfl
  | 5, _ => rfl
theorem upd_bif (c : Nat → Nat) (k v j : Nat) : (bif ((k : Nat) : Int) == ((j : Nat) : Int) then ((v : Nat) : Int) else ((c j : Nat) : Int)) = ((upd c k v j : Nat) : Int) := by
  rw [nat_beq]
  unfold upd
  by_cases h : j = k
  · subst h; simp
  · rw [if_neg h]
    have : (k == j) = false := by rw [beq_eq_false_iff_ne]; exact fun e => h e.symm
    rw [this]; rfl
theorem upd_b0 (c : Nat → Nat) (k v : Nat) : (bif ((k : Nat) : Int) == (0 : Int) then ((v : Nat) : Int) else ((c 0 : Nat) : Int)) = ((upd c k v 0 : Nat) : Int) := upd_bif c k v 0
theorem upd_b1 (c : Nat → Nat) (k v : Nat) : (bif ((k : Nat) : Int) == (0 + 1 : Int) then ((v : Nat) : Int) else ((c 1 : Nat) : Int)) = ((upd c k v 1 : Nat) : Int) := upd_bif c k v 1
theorem upd_b2 (c : Nat → Nat) (k v : Nat) : (bif ((k : Nat) : Int) == (0 + 1 + 1 : Int) then ((v : Nat) : Int) else ((c 2 : Nat) : Int)) = ((upd c k v 2 : Nat) : Int) := upd_bif c k v 2
theorem upd_b3 (c : Nat → Nat) (k v : Nat) : (bif ((k : Nat) : Int) == (0 + 1 + 1 + 1 : Int) then ((v : Nat) : Int) else ((c 3 : Nat) : Int)) = ((upd c k v 3 : Nat) : Int) := upd_bif c k v 3
theorem upd_b4 (c : Nat → Nat) (k v : Nat) : (bif ((k : Nat) : Int) == (0 + 1 + 1 + 1 + 1 : Int) then ((v : Nat) : Int) else ((c 4 : Nat) : Int)) = ((upd c k v 4 : Nat) : Int) := upd_bif c k v 4
theorem upd_b5 (c : Nat → Nat) (k v : Nat) : (bif ((k : Nat) : Int) == (0 + 1 + 1 + 1 + 1 + 1 : Int) then ((v : Nat) : Int) else ((c 5 : Nat) : Int)) = ((upd c k v 5 : Nat) : Int) := upd_bif c k v 5
theorem I.matchedWith_loop [r_ : I.matchedWith_r_R] {net : List Int} (h : Ok net) {to g T0 : Nat} (hto : to < 2 ^ net.length) (hg : g < net.length) {c : Nat → Nat} (hv : KValid net to c)
    (hrec : ∀ g2 T2, g2 < net.length → T2 < 2 ^ net.length → card net.length T0 < card net.length T2 → ∃ T3 c3 f3, I.matchedWith_r0_t net (to : Int) (g2 : Int) (c 0 : Nat) (c 1 : Nat) (c 2 : Nat) (c 3 : Nat) (c 4 : Nat) (c 5 : Nat) (T2 : Int) false = some (kAns c3 T3 f3) ∧ KOut net to g2 T2 c T3 c3 f3) :
    ∀ (m k N T : Nat), k + m = net.length → m < N → KInv net to g T0 c k T →
      (∃ T3 c3, I.matchedWith_r_run3 net (to : Int) (g : Int) N ((k : Int), 0, 0, 0, 0, 0, 0, 0, false, (c 0 : Nat), (c 1 : Nat), (c 2 : Nat), (c 3 : Nat), (c 4 : Nat), (c 5 : Nat), (T : Int), false) =
        some (.inl (((c3 0 : Nat) : Int), ((c3 1 : Nat) : Int), ((c3 2 : Nat) : Int), ((c3 3 : Nat) : Int), ((c3 4 : Nat) : Int), ((c3 5 : Nat) : Int), ((T3 : Nat) : Int), true, ((c3 0 : Nat) : Int), ((c3 1 : Nat) : Int), ((c3 2 : Nat) : Int), ((c3 3 : Nat) : Int), ((c3 4 : Nat) : Int), ((c3 5 : Nat) : Int), ((T3 : Nat) : Int), true)) ∧ KOut net to g T0 c T3 c3 true) ∨
      (∃ T3, I.matchedWith_r_run3 net (to : Int) (g : Int) N ((k : Int), 0, 0, 0, 0, 0, 0, 0, false, (c 0 : Nat), (c 1 : Nat), (c 2 : Nat), (c 3 : Nat), (c 4 : Nat), (c 5 : Nat), (T : Int), false) =
        some (.inr (0, 0, 0, 0, 0, 0, 0, false, ((c 0 : Nat) : Int), ((c 1 : Nat) : Int), ((c 2 : Nat) : Int), ((c 3 : Nat) : Int), ((c 4 : Nat) : Int), ((c 5 : Nat) : Int), ((T3 : Nat) : Int), false)) ∧ KOut net to g T0 c T3 c false) := by
  have h6 := h.hi
  have h64 := h.pow
  have hbl := h.ball_lt hg
  have hab : to &&& ball net g < 2 ^ net.length := Nat.lt_of_le_of_lt Nat.and_le_left hto
  intro m
  induction m with
  | zero =>
    intro k N T hk hN hi
    obtain ⟨N, rfl⟩ : ∃ N', N = N' + 1 := ⟨N - 1, by omega⟩
    obtain rfl : k = net.length := by omega
    right
    refine ⟨T, ?_, kout_end h hg hi⟩
    simp only [I.matchedWith_r_run3, I.matchedWith_r_step3]
    rw [cnd_f (by simp)]
  | succ m ih =>
    intro k N T hk hN hi
    obtain ⟨N, rfl⟩ : ∃ N', N = N' + 1 := ⟨N - 1, by omega⟩
    have hkn : k < net.length := by omega
    have hT := hi.lt
    have hmin : minus (to &&& ball net g) T < 2 ^ net.length := Nat.lt_of_le_of_lt Nat.and_le_left hab
    simp only [I.matchedWith_r_run3, I.matchedWith_r_step3]
    rw [cnd_t (by simp; omega), I.ballIn_n h hg]
    simp only [optC]
    rw [i64_and_nat _ _ (by omega) (by omega), i64_andNot_nat _ _ (by omega) (by omega), I.hasPlace_n _ _ (by omega)]
    simp only
    have hcd : (minus (to &&& ball net g) T).testBit k = ((to.testBit k && (ball net g).testBit k) && !T.testBit k) := by
      rw [minus_testBit _ _ (by omega) (by omega), Nat.testBit_and]
    rw [hcd]
    cases hc : (to.testBit k && (ball net g).testBit k) && !T.testBit k with
    | false =>
      rw [Bool.not_false, cond_true, add1_nat (by omega)]
      refine ih (k + 1) N T (by omega) (by omega) (kinv_skip hi fun a b => ?_)
      rw [a, b] at hc
      simpa using hc
    | true =>
      rw [Bool.and_eq_true, Bool.and_eq_true, Bool.not_eq_true'] at hc
      obtain ⟨⟨a, b⟩, hTk⟩ := hc
      have hT2 : T ||| 2 ^ k < 2 ^ net.length := Nat.or_lt_two_pow hT (Nat.pow_lt_pow_right (by omega) hkn)
      rw [Bool.not_true, cond_false, I.with_n (by omega) (by omega)]
      simp only
      rw [cnd_t (by simp; omega), Int.toNat_natCast, eli6 c (by omega), nat_eq0]
      cases h0 : c k == 0 with
      | true =>
        rw [cond_true, cnd_t (by simp; omega), add1_nat (a := g) (by omega)]
        rw [upd_b0, upd_b1, upd_b2, upd_b3, upd_b4, upd_b5]
        exact .inl ⟨T ||| 2 ^ k, upd c k (g + 1), rfl, kout_free h6 hi hv hg hkn a b hTk (by simpa using h0)⟩
      | false =>
        have hck : c k ≠ 0 := by simpa using h0
        have hle := (hv k (by omega) hck).2.2
        rw [cond_false, cnd_t (by simp; omega), sub1_nat (by omega) (by omega)]
        obtain ⟨T3, c3, f3, e3, ho⟩ := hrec (c k - 1) (T ||| 2 ^ k) (by omega) hT2 (by
          refine Nat.lt_of_le_of_lt (card_mono (t := T) fun j _ hj => hi.sub j hj) (card_lt (i := k) (fun j _ hj => or_pow.2 (.inl hj)) hkn hTk (or_pow.2 (.inr rfl))))
        rw [e3]
        simp only [kAns]
        cases f3 with
        | true =>
          rw [cond_true, cnd_t (by simp; omega), add1_nat (a := g) (by omega)]
          rw [upd_b0, upd_b1, upd_b2, upd_b3, upd_b4, upd_b5]
          exact .inl ⟨T3, upd c3 k (g + 1), rfl, kout_take h6 hi hg hkn a b hTk hck ho⟩
        | false =>
          have hsame := (ho.no rfl).1
          rw [cond_false, add1_nat (by omega), hsame 0 (by omega), hsame 1 (by omega), hsame 2 (by omega), hsame 3 (by omega), hsame 4 (by omega), hsame 5 (by omega)]
          exact ih (k + 1) N T3 (by omega) (by omega) (kinv_fail hi hck ho)
theorem I.matchedWith_d {net : List Int} (h : Ok net) {to : Nat} (hto : to < 2 ^ net.length) : ∀ (d g T : Nat) (c : Nat → Nat), g < net.length → T < 2 ^ net.length → net.length < d + card net.length T → KValid net to c →
    ∃ T3 c3 f3, I.matchedWith_td d net (to : Int) (g : Int) (c 0 : Nat) (c 1 : Nat) (c 2 : Nat) (c 3 : Nat) (c 4 : Nat) (c 5 : Nat) (T : Int) false = some (kAns c3 T3 f3) ∧ KOut net to g T c T3 c3 f3 := by
  intro d
  induction d with
  | zero => intro g T c _ _ hd _; have := card_le net.length T; omega
  | succ d ih =>
    intro g T c hg hT hd hv
    have hF := FUEL_le
    have h6 := h.hi
    have key := @I.matchedWith_loop ⟨I.matchedWith_td d⟩ net h to g T hto hg c hv (fun g2 T2 h2 hT2 hc => ih g2 T2 c h2 hT2 (by omega) hv) net.length 0 FUEL T (by omega) (by omega) (kinv_start hT)
    show ∃ T3 c3 f3, @I.matchedWith_r_t ⟨I.matchedWith_td d⟩ net (to : Int) (g : Int) (c 0 : Nat) (c 1 : Nat) (c 2 : Nat) (c 3 : Nat) (c 4 : Nat) (c 5 : Nat) (T : Int) false = some (kAns c3 T3 f3) ∧ KOut net to g T c T3 c3 f3
    unfold I.matchedWith_r_t I.matchedWith_r_tree
    rcases key with ⟨T3, c3, e, ho⟩ | ⟨T3, e, ho⟩
    · refine ⟨T3, c3, true, ?_, ho⟩
      rw [show (0 : Int) = ((0 : Nat) : Int) from rfl] at e
      rw [show (0 : Int) = ((0 : Nat) : Int) from rfl, e]
      rfl
    · refine ⟨T3, c, false, ?_, ho⟩
      rw [show (0 : Int) = ((0 : Nat) : Int) from rfl] at e
      rw [show (0 : Int) = ((0 : Nat) : Int) from rfl, e]
      rfl
theorem I.matchedWith_n {net : List Int} (h : Ok net) {to : Nat} (hto : to < 2 ^ net.length) {g : Nat} (hg : g < net.length) {c : Nat → Nat} (hv : KValid net to c) :
    ∃ T3 c3 f3, I.matchedWith_t net (to : Int) (g : Int) (c 0 : Nat) (c 1 : Nat) (c 2 : Nat) (c 3 : Nat) (c 4 : Nat) (c 5 : Nat) 0 false = some (kAns c3 T3 f3) ∧ KOut net to g 0 c T3 c3 f3 :=
  I.matchedWith_d h hto FUEL g 0 c hg (Nat.two_pow_pos _) (by have := FUEL_le; have := h.hi; omega) hv
theorem I.allMoveIn_loop {net : List Int} (h : Ok net) {src to : Nat} (hs : src < 2 ^ net.length) (hto : to < 2 ^ net.length) : ∀ (m k N : Nat) (c : Nat → Nat) (T : Int) (f : Bool), k + m = net.length → m < N → KValid net to c → KDone src c k →
    I.allMoveIn_run5 net (src : Int) (to : Int) N ((k : Int), (c 0 : Nat), (c 1 : Nat), (c 2 : Nat), (c 3 : Nat), (c 4 : Nat), (c 5 : Nat), T, f) = some (bif fitB net src 0 to then .inr () else .inl false) := by
  have h6 := h.hi
  have h64 := h.pow
  intro m
  induction m with
  | zero =>
    intro k N c T f hk hN hv hd
    obtain ⟨N, rfl⟩ : ∃ N', N = N' + 1 := ⟨N - 1, by omega⟩
    obtain rfl : k = net.length := by omega
    simp only [I.allMoveIn_run5, I.allMoveIn_step5]
    rw [cnd_f (by simp), fitB_iff.2 (kuhn_yes h hs hv hd)]
    rfl
  | succ m ih =>
    intro k N c T f hk hN hv hd
    obtain ⟨N, rfl⟩ : ∃ N', N = N' + 1 := ⟨N - 1, by omega⟩
    have hkn : k < net.length := by omega
    simp only [I.allMoveIn_run5, I.allMoveIn_step5]
    rw [cnd_t (by simp; omega), I.hasPlace_n _ _ (by omega)]
    simp only [optC]
    cases hb : src.testBit k with
    | false =>
      rw [Bool.not_false, cond_true, add1_nat (by omega)]
      exact ih (k + 1) N c T f (by omega) (by omega) hv (kdone_skip hd hb)
    | true =>
      obtain ⟨T3, c3, f3, e3, ho⟩ := I.matchedWith_n h hto hkn hv
      rw [Bool.not_true, cond_false, e3]
      simp only [kAns]
      cases f3 with
      | false =>
        have : fitB net src 0 to = false := not_true fun hc => kuhn_no h hto hd hb ho (fitB_iff.1 hc)
        rw [this]
        rfl
      | true =>
        rw [Bool.not_true, cond_false, add1_nat (by omega)]
        exact ih (k + 1) N c3 _ _ (by omega) (by omega) (ho.yes rfl).2.1 (kdone_step hd hb ho)
theorem I.allMoveIn_n {net : List Int} (h : Ok net) {src to : Nat} (hs : src < 2 ^ net.length) (hto : to < 2 ^ net.length) : I.allMoveIn_t net (src : Int) (to : Int) = some (allMoveB net src to) := by
  unfold I.allMoveIn_t I.allMoveIn_tree
  have h6 := h.hi
  have hF := FUEL_le
  rw [I.sizeOf_n, I.sizeOf_n]
  simp only [optC]
  rw [nat_beq]
  unfold allMoveB
  cases hz : size src == size to with
  | false => rfl
  | true =>
    have := I.allMoveIn_loop h hs hto net.length 0 FUEL (fun _ => 0) 0 false (by omega) (by omega) (fun p hp h0 => absurd rfl h0) (kdone_start src fun p hp => rfl)
    rw [Bool.not_true, cond_false, Bool.true_and]
    rw [show I.allMoveIn_run5 net (src : Int) (to : Int) FUEL (0, 0, 0, 0, 0, 0, 0, 0, false) = _ from this]
    cases fitB net src 0 to <;> rfl
end Go.Proofs.Ytgocpgkhbamkcaa
/- The program's functions of chapter 10 in natural numbers. Conditions: those of each theorem. -/
namespace Go.Proofs.Ytgocpgkhbamkcaa
open D Go.RowKit
set_option linter.unusedVariables false
set_option linter.unusedSimpArgs false


theorem I.AllMoveOk_x {net : List Int} (e : I.NetOk_t net = some false) (s t : Int) : I.AllMoveOk_t net s t = some false := by
  unfold I.AllMoveOk_t I.AllMoveOk_tree; rw [e]; rfl
theorem I.AllMoveOk_n {net : List Int} (h : Ok net) (e : I.NetOk_t net = some true) (s t : Int) : I.AllMoveOk_t net s t = some (decide (0 ≤ s ∧ s < 2 ^ net.length) && (decide (0 ≤ t ∧ t < 2 ^ net.length) && allMoveB net s.toNat t.toNat)) := by
  unfold I.AllMoveOk_t I.AllMoveOk_tree
  rw [e]
  simp only [optC]
  rw [cond_true, I.setIn_n h]
  simp only
  rcases set_cases h s with ⟨a, rfl, ha, hd⟩ | hd
  · rw [hd, cond_true, I.setIn_n h]
    simp only
    rcases set_cases h t with ⟨b, rfl, hb, hd2⟩ | hd2
    · rw [hd2, cond_true, I.allMoveIn_n h ha hb]; rfl
    · rw [hd2]; rfl
  · rw [hd]; rfl
/-- The sets to which all can move. -/
noncomputable def avs (net : List Int) (s : Nat) : List Int := listOfN (2 ^ net.length) (allMoveB net s)
theorem I.allMovesOf_n {net : List Int} (h : Ok net) {s : Nat} (hs : s < 2 ^ net.length) : I.allMovesOf_t net (s : Int) = some (avs net s) := by
  unfold I.allMovesOf_t I.allMovesOf_tree
  have h6 := h.hi
  have h64 := h.pow
  have hsu := allOf_succ net
  have := (run_for (run := I.allMovesOf_run3 net s) (len := 2 ^ net.length) (fun k (t : List Int) => ((k : Int), t)) (fun t k => if allMoveB net s k = true then t ++ [(k : Int)] else t) (fun t => t) (fun k t => t.length ≤ k) (by omega) (fun n k t hk ht => ?_) (fun n t ht => ?_) (t0 := []) (Nat.le_refl _)).1
  · exact congrArg (fun o => optC o (fun q => some q) none) this
  · simp only [I.allMovesOf_run3, I.allMovesOf_step3]
    rw [I.allOf_n h]
    simp only [optC]
    rw [cnd_t (by rw [decide_eq_true_eq]; omega), I.allMoveIn_n h hs hk, add1_nat (by omega)]
    simp only
    cases hb : allMoveB net s k with
    | false => simp only [cond_false, Bool.false_eq_true, if_false]; exact ⟨trivial, by omega⟩
    | true =>
      rw [cond_true, if_pos rfl, cnd_t (by unfold D.small; rw [decide_eq_true_eq, List.length_append]; simp; omega)]
      exact ⟨rfl, by rw [List.length_append]; simp; omega⟩
  · simp only [I.allMovesOf_run3, I.allMovesOf_step3]
    rw [I.allOf_n h]
    simp only [optC]
    rw [cnd_f (by rw [decide_eq_false_iff_not]; omega)]
theorem I.allMovesIn_n {net : List Int} (h : Ok net) : I.allMovesIn_t net = some ((List.range (2 ^ net.length)).map (avs net)) := by
  unfold I.allMovesIn_t I.allMovesIn_tree
  have h6 := h.hi
  have h64 := h.pow
  have hsu := allOf_succ net
  rw [I.allOf_n h]
  simp only [optC]
  have := run_for (run := I.allMovesIn_run3 net) (len := 2 ^ net.length) (fun k (t : List (List Int)) => ((k : Int), t)) (fun t k => t.set k (avs net k)) (fun t => t) (fun k t => t.length = 2 ^ net.length ∧ ∀ j, j < k → D.elr t j = avs net j) (by omega) (fun n k t hk ht => ?_) (fun n t ht => ?_) (t0 := List.replicate (2 ^ net.length) []) ⟨by simp, fun j hj => by omega⟩
  · obtain ⟨e, l1, l2⟩ := this
    rw [add1_nat (by omega), hsu, Int.toNat_natCast, cnd_t (by simp only [D.small, Bool.and_true, Bool.and_eq_true, decide_eq_true_eq]; exact ⟨Int.natCast_nonneg _, by omega⟩), show I.allMovesIn_run3 net FUEL (0, List.replicate (2 ^ net.length) []) = _ from e]
    show some _ = some _
    rw [rows_ext l1 l2]
  · obtain ⟨l1, l2⟩ := ht
    refine ⟨?_, by simp [l1], fun j hj => ?_⟩
    · simp only [I.allMovesIn_run3, I.allMovesIn_step3]
      rw [I.allOf_n h]
      simp only [optC]
      rw [cnd_t (by rw [decide_eq_true_eq]; omega), I.allMovesOf_n h hk, add1_nat (by omega)]
      simp only
      rw [cnd_t (by simp only [Bool.and_eq_true, decide_eq_true_eq]; omega), Int.toNat_natCast, cnd_t (by rw [decide_eq_true_eq]; omega)]
    · rw [elr_set (by omega)]
      by_cases he : j = k
      · rw [if_pos he, he]
      · rw [if_neg he]; exact l2 j (by omega)
  · simp only [I.allMovesIn_run3, I.allMovesIn_step3]
    rw [I.allOf_n h]
    simp only [optC]
    rw [cnd_f (by rw [decide_eq_false_iff_not]; omega)]
theorem avs_among {net : List Int} (h : Ok net) (s : Nat) : Among net.length (avs net s) := by
  have h64 := h.pow
  refine ⟨by have := listOfN_len (2 ^ net.length) (allMoveB net s); unfold avs; omega, fun k hk => ?_⟩
  obtain ⟨u, hu, _, e⟩ := listOfN_eli hk
  exact ⟨u, e, hu⟩
theorem I.allEternalIn_n {net : List Int} (h : Ok net) : I.allEternalIn_t net = some (lastsA net) := by
  unfold I.allEternalIn_t I.allEternalIn_tree
  have h6 := h.hi
  have h64 := h.pow
  rw [I.allMovesIn_n h]
  simp only [optC]
  obtain ⟨m, e, hm, hiff⟩ := I.lastingIn_n h (R := (List.range (2 ^ net.length)).map (avs net)) (by simp) (fun s hs => by rw [rows_at hs]; exact avs_among h s) (G := AllEternal net)
    (fun m hm hin s hs he => by
      rw [rows_at hs, all_bits (ansS_lt2 hs (avs_among h s))]
      intro k hk
      refine (ansS_bit _ _ _ _).2 ?_
      cases hb : s.testBit k with
      | true => exact .inl rfl
      | false =>
        right
        obtain ⟨u, a, b, c, d⟩ := allEternal_closed net s hs he k hk hb
        obtain ⟨i, hi, ei⟩ := mem_at ((listOfN_mem (2 ^ net.length) (allMoveB net s) (u : Int)).2 ⟨u, a, allMoveB_iff.2 c, rfl⟩)
        refine ⟨i, hi, ?_, ?_⟩
        · rw [show D.eli (avs net s) i = (u : Int) from ei, Int.toNat_natCast]; exact hin _ a d
        · rw [show D.eli (avs net s) i = (u : Int) from ei, Int.toNat_natCast]; exact b)
    (fun m hm hst s hs hb => by
      refine ⟨fun q => q < 2 ^ net.length ∧ D.elb m q = true, fun t ht ⟨_, htm⟩ k hk hbk => ?_, hs, hb⟩
      have hx := hst t ht htm
      rw [rows_at ht, all_bits (ansS_lt2 ht (avs_among h t))] at hx
      rcases (ansS_bit _ _ _ _).1 (hx k hk) with h1 | ⟨i, hi, h1, h2⟩
      · rw [hbk] at h1; cases h1
      · obtain ⟨u, hu, hmv, e⟩ := listOfN_eli hi
        rw [show D.eli (avs net t) i = (u : Int) from e, Int.toNat_natCast] at h1 h2
        exact ⟨u, hu, h2, allMoveB_iff.1 hmv, hu, h1⟩)
  rw [e]
  simp only
  congr 1
  refine elb_ext (by rw [hm, lastsA_len]) (fun s hs => ?_)
  rw [hm] at hs
  rw [lastsA_elb hs, Bool.eq_iff_iff, allEternalB_iff]
  exact hiff s hs
theorem I.AllEternalOk_x {net : List Int} (e : I.NetOk_t net = some false) (s : Int) : I.AllEternalOk_t net s = some false := by
  unfold I.AllEternalOk_t I.AllEternalOk_tree; rw [e]; rfl
theorem I.AllEternalOk_n {net : List Int} (h : Ok net) (e : I.NetOk_t net = some true) (s : Int) : I.AllEternalOk_t net s = some (decide (0 ≤ s ∧ s < 2 ^ net.length) && allEternalB net s.toNat) := by
  unfold I.AllEternalOk_t I.AllEternalOk_tree
  rw [e]
  simp only [optC]
  rw [cond_true, I.setIn_n h]
  simp only
  rcases set_cases h s with ⟨t, rfl, ht, hd⟩ | hd
  · rw [hd, cond_true, I.allEternalIn_n h]
    simp only
    rw [lastsA_len, cnd_t (by simp only [Bool.and_eq_true, decide_eq_true_eq]; omega), Int.toNat_natCast, cnd_t (by simpa using ht), lastsA_elb ht]
    rfl
  · rw [hd]; rfl
theorem I.FewestAllEternal_x {net : List Int} (e : I.NetOk_t net = some false) : I.FewestAllEternal_t net = some (-1) := by
  unfold I.FewestAllEternal_t I.FewestAllEternal_tree; rw [e]; rfl
theorem I.FewestAllEternal_y {net : List Int} (h : Ok net) (e : I.NetOk_t net = some true) : I.FewestAllEternal_t net = some ((fewestAllEternal net : Nat) : Int) := by
  unfold I.FewestAllEternal_t I.FewestAllEternal_tree
  have h64 := h.pow
  rw [e, I.allEternalIn_n h]
  simp only [optC, Bool.not_true, cond_false]
  rw [I.fewestIn_n (by rw [lastsA_len]; omega), fewest_marks h (lastsA_len net) (p := allEternalB net) (fun s hs => lastsA_elb hs) ⟨allOf net, allOf_lt net, allEternalB_iff.2 (allEternal_all net h)⟩]
  rfl
theorem I.allAnswerIn_n {net : List Int} (h : Ok net) {l : List Bool} (hl : l.length = 2 ^ net.length) {s p : Nat} (hs : s < 2 ^ net.length) (hp : p < net.length) : I.allAnswerIn_t net l (s : Int) (p : Int) = some (ansA net l s p) := by
  unfold I.allAnswerIn_t I.allAnswerIn_tree
  have h6 := h.hi
  have h64 := h.pow
  have hsu := allOf_succ net
  rw [run_search (run := I.allAnswerIn_run2 net l s p) (len := 2 ^ net.length) (fun u => if ansAP net l (fitB net s 0) s p u = true then some (u : Int) else none) () (by omega) (fun n k hk => ?_) (fun n => ?_)]
  · unfold ansA
    cases find (2 ^ net.length) (fun u => if ansAP net l (fitB net s 0) s p u = true then some (u : Int) else none) <;> rfl
  · simp only [I.allAnswerIn_run2, I.allAnswerIn_step2]
    rw [I.allOf_n h]
    simp only [optC]
    rw [cnd_t (by rw [decide_eq_true_eq]; omega), cnd_t (by simp only [Bool.and_eq_true, decide_eq_true_eq]; omega), Int.toNat_natCast, add1_nat (by omega)]
    unfold ansAP
    cases hb : D.elb l k with
    | false => rfl
    | true =>
      rw [cond_true, I.hasPlace_n _ _ (by omega)]
      simp only
      cases hb2 : k.testBit p with
      | false => rfl
      | true =>
        rw [cond_true, I.allMoveIn_n h hs hk]
        simp only [Bool.true_and]
        have : allMoveB net s k = (size k == size s && fitB net s 0 k) := by
          unfold allMoveB
          rw [show (size s == size k) = (size k == size s) by rw [Bool.eq_iff_iff, beq_iff_eq, beq_iff_eq]; exact ⟨Eq.symm, Eq.symm⟩]
        rw [this]
        cases (size k == size s && fitB net s 0 k) <;> rfl
  · simp only [I.allAnswerIn_run2, I.allAnswerIn_step2]
    rw [I.allOf_n h]
    simp only [optC]
    rw [cnd_f (by rw [decide_eq_false_iff_not]; omega)]
theorem I.AllAnswerOf_x {net : List Int} (e : I.NetOk_t net = some false) (s p : Int) : I.AllAnswerOf_t net s p = some (-1) := by
  unfold I.AllAnswerOf_t I.AllAnswerOf_tree; rw [e]; rfl
theorem I.AllAnswerOf_n {net : List Int} (h : Ok net) (e : I.NetOk_t net = some true) (s p : Int) : I.AllAnswerOf_t net s p = some (allAnswerI net s p) := by
  unfold I.AllAnswerOf_t I.AllAnswerOf_tree
  have h6 := h.hi
  have h64 := h.pow
  rw [e]
  simp only [optC]
  rw [Bool.not_true, cond_false, I.setIn_n h]
  simp only
  unfold allAnswerI
  rcases set_cases h s with ⟨t, rfl, ht, hd⟩ | hd
  · rw [hd, Bool.not_true, cond_false, I.placeIn_n]
    simp only
    rcases place_cases net p with ⟨k, rfl, hk, hd2⟩ | hd2
    · rw [hd2, Bool.not_true, cond_false, I.hasPlace_n _ _ (by omega)]
      simp only [Int.toNat_natCast]
      cases hb : t.testBit k with
      | true => rw [if_neg (fun hc => by cases hc.2.2.2)]; rfl
      | false =>
        rw [cond_false, I.allEternalIn_n h]
        simp only
        rw [lastsA_len, cnd_t (by simp only [Bool.and_eq_true, decide_eq_true_eq]; omega), cnd_t (by simpa using ht)]
        rw [lastsA_elb ht]
        cases he : allEternalB net t with
        | false => rw [if_neg (fun hc => by cases hc.2.2.1)]; rfl
        | true =>
          rw [Bool.not_true, cond_false, I.allAnswerIn_n h (lastsA_len net) ht hk, if_pos ⟨dec_true hd, dec_true hd2, by trivial, by trivial⟩]
    · rw [hd2, if_neg (fun hc => dec_false hd2 hc.2.1)]; rfl
  · rw [hd, if_neg (fun hc => dec_false hd hc.1)]; rfl
end Go.Proofs.Ytgocpgkhbamkcaa
/- The program's functions of chapters 4 to 10, together. Conditions: none. -/
/- Laws of chapter 7, and TotalOk. Conditions: those of each theorem. -/
namespace Go.Proofs.Ytgocpgkhbamkcaa
open D Go.RowKit
set_option linter.unusedVariables false
set_option linter.unusedSimpArgs false


theorem watch_in {net : List Int} (h : Ok net) (g1 : I.NetOk_t net = some true) {t : Nat} (ht : t < 2 ^ net.length) (hw : W net t = true) : I.WatchOk_t net (t : Int) = some true := by
  rw [I.WatchOk_n h g1, set_in ht, Int.toNat_natCast, hw]; rfl
/-- All places have a guard, or are seen by two. -/
theorem roman_cover {net : List Int} (h : Ok net) {r : Nat → Nat} (hr : RomanP net r) : withN net.length r 1 ||| seen net (withN net.length r 2) = allOf net := by
  refine Nat.eq_of_testBit_eq fun j => ?_
  rw [Bool.eq_iff_iff, or2, allOf_testBit, decide_eq_true_eq]
  constructor
  · rintro (a | a)
    · exact ((withN_testBit _ _ _ _).1 a).1
    · exact testBit_lt (h.seen_lt (withN_lt _ _ _)) a
  · intro hj
    by_cases h0 : r j = 0
    · obtain ⟨k, hk, a, b⟩ := hr j hj h0
      exact .inr ((seen_balls h (withN_lt _ _ _)).2 ⟨k, hk, (withN_testBit _ _ _ _).2 ⟨hk, b⟩, (ball_testBit _ _ _).2 (.inl (by rw [h.sym j k hj hk]; exact a))⟩)
    · exact .inl ((withN_testBit _ _ _ _).2 ⟨hj, by omega⟩)
def fr (net : List Int) (s : Nat) : Nat := 2 * size s + net.length - size (seen net s)
theorem roman_best {net : List Int} (h : Ok net) : fold (2 ^ net.length) (fun t s => if fr net s < t then fr net s else t) net.length = fewestRoman net := by
  have hmin := fewestRoman_min h
  obtain ⟨r, hr1, hr2, hr3⟩ := hmin.ex
  obtain ⟨m1, m2⟩ := minFold2 (n := 2 ^ net.length) (c := net.length) (f := fr net)
  have hge : fewestRoman net ≤ fold (2 ^ net.length) (fun t s => if fr net s < t then fr net s else t) net.length := by
    have key : ∀ N, N ≤ 2 ^ net.length → fewestRoman net ≤ fold N (fun t s => if fr net s < t then fr net s else t) net.length := by
      intro N
      induction N with
      | zero => intro _; have := hmin.le (fun _ => 1) (fun _ _ => by show 1 ≤ 2; omega) ones_row.1; rw [ones_row (net := net) |>.2] at this; exact this
      | succ N ih =>
        intro hN
        rw [fold_succ]
        split
        · have hs : N < 2 ^ net.length := by omega
          obtain ⟨q1, q2⟩ := rowOfN_roman h hs
          have := hmin.le _ q1 q2
          have := rowOfN_sum h hs
          unfold fr; omega
        · exact ih (by omega)
    exact key _ (Nat.le_refl _)
  have hle := m1 _ (withN_lt net.length r 2)
  have := roman_ge h hr2
  unfold fr at hle
  have hz := size_le_len h (h.seen_lt (withN_lt net.length r 2))
  unfold fr at hge ⊢
  omega
theorem rowOf_eli {net : List Int} {s k : Nat} (hk : k < net.length) : D.eli (rowOf net s) k = ((rowOfN net s k : Nat) : Int) := fold_app_eli hk
theorem rowOf_rv {net : List Int} {s k : Nat} (hk : k < net.length) : rv (rowOf net s) k = rowOfN net s k := by show (D.eli (rowOf net s) k).toNat = _; rw [rowOf_eli hk]; omega
theorem rowOf_row {net : List Int} (h : Ok net) {s : Nat} (hs : s < 2 ^ net.length) : RowIs net.length (rowOf net s) :=
  ⟨rowOf_len net s, fun k hk => by rw [rowOf_rv hk]; exact rowOf_eli hk, fun k hk => by rw [rowOf_rv hk]; exact (rowOfN_roman h hs).1 k hk⟩
theorem rowOf_two {net : List Int} {s : Nat} (hs : s < 2 ^ net.length) : withN net.length (rv (rowOf net s)) 2 = s := by
  refine Nat.eq_of_testBit_eq fun j => ?_
  rw [Bool.eq_iff_iff, withN_testBit]
  constructor
  · rintro ⟨hj, h2⟩
    rw [rowOf_rv hj] at h2
    unfold rowOfN at h2
    cases hb : s.testBit j with
    | true => rfl
    | false =>
      rw [hb] at h2
      simp only [Bool.false_eq_true, if_false] at h2
      split at h2 <;> omega
  · intro hj
    have hl := in_lt hs hj
    refine ⟨hl, ?_⟩
    rw [rowOf_rv hl]
    unfold rowOfN
    rw [if_pos hj]; omega
end Go.Proofs.Ytgocpgkhbamkcaa
/- Laws of chapter 8 that were left. Conditions: those of each theorem. -/
namespace Go.Proofs.Ytgocpgkhbamkcaa
open D Go.RowKit
set_option linter.unusedVariables false
set_option linter.unusedSimpArgs false


/-- A truth that comes up in a loop. -/
theorem fold_or {n : Nat} {p : Nat → Bool} {b : Bool} (h : b = true ∨ ∃ k, k < n ∧ p k = true) : fold n (fun t k => t || p k) b = true := by
  induction n with
  | zero =>
    rcases h with h | ⟨k, hk, _⟩
    · exact h
    · omega
  | succ n ih =>
    rw [fold_succ, Bool.or_eq_true]
    rcases h with h | ⟨k, hk, hp⟩
    · exact .inl (ih (.inl h))
    · by_cases hkn : k = n
      · right; rw [← hkn]; exact hp
      · exact .inl (ih (.inr ⟨k, by omega, hp⟩))
theorem row01 {row : List Int} (hall : ∀ k, k < row.length → 0 ≤ D.eli row k ∧ D.eli row k ≤ 1) : RowIs row.length row ∧ ∀ k, k < row.length → rv row k ≤ 1 := by
  refine ⟨⟨rfl, fun k hk => ?_, fun k hk => ?_⟩, fun k hk => ?_⟩ <;> have := hall k hk
  · show _ = ((D.eli row k).toNat : Int); omega
  · show (D.eli row k).toNat ≤ 2; omega
  · show (D.eli row k).toNat ≤ 1; omega
theorem L.FnAllMoveOk_is {code : List Int} (hm : code.length ≤ maxLen) (hw : ∀ n ∈ code, (Lit.int .u8 n).wf = true) : L.FnAllMoveOk_t code = some true := by
  unfold L.FnAllMoveOk_t L.FnAllMoveOk_tree
  by_cases hc : (code.length : Int) > 1048576
  · rw [cnd_t (by simpa using hc)]
  rw [cnd_f (by simpa using hc)]
  obtain ⟨v, t, net, e1, h1⟩ := S.DrawAllMoveOk_is (Bytes.wf hw)
  rw [e1]
  simp only [optC]
  rcases NetOk_cases net with ⟨h, g1, g2⟩ | ⟨_, g1, g2⟩
  · have h6 := h.hi
    have h64 := h.pow
    have hb : ∀ a b : Nat, a < 2 ^ net.length → b < 2 ^ net.length → I.AllMoveOk_t net (a : Int) (b : Int) = some (allMoveB net a b) := fun a b ha hb => by rw [I.AllMoveOk_n h g1, set_in ha, set_in hb, Int.toNat_natCast, Int.toNat_natCast]; rfl
    rw [I.AllMoveOk_n h g1, S.AllMoveOk_n h g2]
    simp only
    rw [cnd_f (by simp)]
    generalize hok : (decide (0 ≤ v ∧ v < 2 ^ net.length) && (decide (0 ≤ t ∧ t < 2 ^ net.length) && allMoveB net v.toNat t.toNat)) = ok
    rcases set_cases h v with ⟨s, rfl, hs, hd⟩ | hd
    · have hsl := h.seen_lt hs
      rw [I.SeenBy_n h g1 hs]
      simp only
      rw [cnd_f (by rw [decide_eq_false_iff_not]; omega)]
      have loop := (run_for (run := L.FnAllMoveOk_run10 (s : Int) t ok) (len := net.length) (fun k (_ : Unit) => ((k : Int), net)) (fun t k => ()) (fun _ => Sum.inr net) (fun k t => True) (by omega) (fun n k _ hk ht => ?_) (fun n t ht => ?_) (t0 := ()) trivial).1
      · rw [show L.FnAllMoveOk_run10 (s : Int) t ok FUEL (0, net) = _ from loop]
        simp only [sumC]
        rw [hb s s hs hs, allMoveB_iff.2 (allMove_refl net s), L.alive_is]
        cases ok with
        | false => rfl
        | true =>
          simp only [Bool.and_eq_true] at hok
          obtain ⟨_, hd2, hm⟩ := hok
          rcases set_cases h t with ⟨u, rfl, hu, _⟩ | hd3
          · rw [Int.toNat_natCast, Int.toNat_natCast] at hm
            have hM := allMoveB_iff.1 hm
            have hz := hM.1
            have hmz : minus u (seen net s) = 0 := by
              refine zero_iff.2 fun j => ?_
              rw [minus_testBit _ _ (by omega) (by omega)]
              cases hj : u.testBit j with
              | false => rfl
              | true => rw [allMove_seen h hs hu hM j hj]; rfl
            rw [cond_true, hb u s hu hs, allMoveB_iff.2 (allMove_symm h hs hu hM), L.sizeOf_n (by omega), L.sizeOf_n (by omega)]
            simp only [Bool.not_true, cond_false]
            rw [cnd_f (by rw [nat_beq, hz]; simp), I.SeenBy_n h g1 hs]
            simp only
            rw [i64_andNot_nat _ _ (by omega) (by omega), hmz]
            rfl
          · rw [hd3] at hd2; cases hd2
      · refine ⟨?_, trivial⟩
        simp only [L.FnAllMoveOk_run10, L.FnAllMoveOk_step10]
        rw [cnd_t (by rw [decide_eq_true_eq]; omega)]
        have inner := (run_for (run := L.FnAllMoveOk_run13 (s : Int) t ok (k : Int)) (len := net.length) (fun j (_ : Unit) => ((j : Int), net)) (fun t j => ()) (fun _ => Sum.inr net) (fun _ _ => True) (by omega) (fun n j _ hj _ => ?_) (fun n t _ => ?_) (t0 := ()) trivial).1
        · rw [show L.FnAllMoveOk_run13 (s : Int) t ok (k : Int) FUEL (0, net) = _ from inner]
          simp only [optC, sumC]
          rw [add1_nat (by omega)]
        · refine ⟨?_, trivial⟩
          simp only [L.FnAllMoveOk_run13, L.FnAllMoveOk_step13]
          rw [cnd_t (by rw [decide_eq_true_eq]; omega), I.GuardMoved_n h g1, movedI_nat hs hk hj]
          simp only [optC]
          cases hmv : mayMove net s k j with
          | true =>
            have hml := moved_lt hs hj (f := k)
            unfold mayMove at hmv
            simp only [Bool.and_eq_true, Bool.not_eq_true'] at hmv
            simp only [if_true]
            rw [cnd_t (by rw [decide_eq_true_eq]; omega), hb _ _ hs hml, allMoveB_iff.2 (allMove_one h hs hj hmv.1 hmv.2.1 hmv.2.2)]
            simp only [Bool.not_true, cond_false]
            rw [add1_nat (by omega)]
          | false =>
            simp only [Bool.false_eq_true, if_false]
            rw [cnd_f (by decide), add1_nat (by omega)]
        · simp only [L.FnAllMoveOk_run13, L.FnAllMoveOk_step13]
          rw [cnd_f (by rw [decide_eq_false_iff_not]; omega)]
      · simp only [L.FnAllMoveOk_run10, L.FnAllMoveOk_step10]
        rw [cnd_f (by rw [decide_eq_false_iff_not]; omega)]
    · rw [hd] at hok
      simp only [Bool.false_and] at hok
      subst hok
      rw [I.SeenBy_o h g1 hd, L.alive_is]
      rfl
  · rw [I.AllMoveOk_x g1, S.AllMoveOk_x g2, I.SeenBy_x g1, L.alive_is]
    rfl
end Go.Proofs.Ytgocpgkhbamkcaa
/- The program's functions of chapters 4 to 9, together, and moves that there are and are not. Conditions: those of each theorem. -/
namespace Go.Proofs.Ytgocpgkhbamkcaa
open D Go.RowKit
set_option linter.unusedVariables false
set_option linter.unusedSimpArgs false


theorem pow_cast {net : List Int} {s : Nat} (hs : s < 2 ^ net.length) : (0 : Int) ≤ (s : Int) ∧ (s : Int) < 2 ^ net.length := dec_true (set_in hs)
theorem I.GuardMoved_y {net : List Int} (h : Ok net) (e : I.NetOk_t net = some true) {s f p : Nat} (hs : s < 2 ^ net.length) (hf : f < net.length) (hp : p < net.length) (a : s.testBit f = true) (b : s.testBit p = false) (c : (nb net f).testBit p = true) : I.GuardMoved_t net s f p = some ((moved s f p : Nat) : Int) := by
  rw [I.GuardMoved_n h e]
  unfold movedI
  rw [if_pos ⟨pow_cast hs, ⟨by omega, by omega⟩, ⟨by omega, by omega⟩, by simp only [Int.toNat_natCast]; unfold mayMove; rw [a, b, c]; rfl⟩]
  simp only [Int.toNat_natCast]
theorem I.GuardMoved_o {net : List Int} (h : Ok net) (e : I.NetOk_t net = some true) {s f p : Nat} (hs : s < 2 ^ net.length) (hf : f < net.length) (hp : p < net.length) (a : ¬ (s.testBit f = true ∧ (nb net f).testBit p = true)) : I.GuardMoved_t net s f p = some (-1) := by
  rw [I.GuardMoved_n h e]
  unfold movedI
  rw [if_neg]
  rintro ⟨_, _, _, hm⟩
  simp only [Int.toNat_natCast] at hm
  unfold mayMove at hm
  rw [Bool.and_eq_true, Bool.and_eq_true] at hm
  exact a ⟨hm.1, hm.2.2⟩
end Go.Proofs.Ytgocpgkhbamkcaa
/- Laws of chapters 8 to 10: the fewest guards. Conditions: those of each theorem. -/
namespace Go.Proofs.Ytgocpgkhbamkcaa
open D Go.RowKit
set_option linter.unusedVariables false
set_option linter.unusedSimpArgs false


theorem S.DrawFewestAllEternal_is {code : List Int} (hb : Bytes code) : ∃ net, S.DrawFewestAllEternal_t code = some net ∧ net.length ≤ 6 := by
  unfold S.DrawFewestAllEternal_t S.DrawFewestAllEternal_tree
  obtain ⟨rb, e1, h1, h2⟩ := S.l20Open_is hb
  rw [e1]
  simp only [optC]
  obtain ⟨rp', net, e2, _, _, h3⟩ := S.l20Net_is (n := 9) h1 h2 (Int.le_refl 0) (by decide)
  rw [e2]
  exact ⟨_, rfl, h3⟩
theorem secure_wires {net : List Int} (h : Ok net) : fewestSecure net = net.length ↔ wires net = 0 := by
  rw [ends_zero h]
  have hmin := fewestSecure_min h
  constructor
  · intro he k hk
    refine Classical.byContradiction fun hn => ?_
    have h1 := hmin.le _ (sub_lt (k := k) (allOf_lt net)) ((secureB_iff h (sub_lt (allOf_lt net))).2 (secure_less h hk hn))
    have h2 := (few_lt h hk hn).2
    omega
  · intro h0
    obtain ⟨s, a, b, c⟩ := hmin.ex
    have hw := ((secureB_iff h a).1 b).1
    have hall : s = allOf net := by
      apply Nat.eq_of_testBit_eq
      intro j
      rw [Bool.eq_iff_iff, allOf_testBit, decide_eq_true_eq]
      constructor
      · intro hj; exact in_lt a hj
      · intro hj
        rcases (seen_iff h s hj).1 ((W_iff h a).1 hw j hj) with hb | ⟨f, hf, hb, hn⟩
        · exact hb
        · rw [h0 j hj] at hn; simp at hn
    rw [← c, hall, size_all h]
theorem L.FnFewestAllEternal_is {code : List Int} (hm : code.length ≤ maxLen) (hw : ∀ n ∈ code, (Lit.int .u8 n).wf = true) : L.FnFewestAllEternal_t code = some true := by
  unfold L.FnFewestAllEternal_t L.FnFewestAllEternal_tree
  by_cases hc : (code.length : Int) > 1048576
  · rw [cnd_t (by simpa using hc)]
  rw [cnd_f (by simpa using hc)]
  obtain ⟨net, e1, h1⟩ := S.DrawFewestAllEternal_is (Bytes.wf hw)
  rw [e1]
  simp only [optC]
  rcases NetOk_cases net with ⟨h, g1, g2⟩ | ⟨_, g1, g2⟩
  · have h6 := h.hi
    have h64 := h.pow
    rw [I.FewestAllEternal_y h g1, S.FewestAllEternal_y h g2]
    simp only
    rw [cnd_f (by simp), cnd_f (by simp)]
    rw [I.PartMany_n h g1]
    simp only
    have hmin := fewestAllEternal_min h
    have key : optC (I.FewestWatch_t net) (fun c => bif decide (((fewestAllEternal net : Nat) : Int) ≥ c) then optC (I.MostApart_t net) (fun c => some (decide (((fewestAllEternal net : Nat) : Int) ≤ c))) none else some false) none = some true := by
      rw [I.FewestWatch_y h g1]
      simp only [optC]
      obtain ⟨s, a, b, c⟩ := hmin.ex
      have h1 := (fewest_few h).le s a (allEternal_watch h a (allEternalB_iff.1 b))
      rw [cnd_t (by rw [decide_eq_true_eq]; omega), I.MostApart_y h g1]
      simp only
      obtain ⟨t, p, q, r⟩ := allEternal_upper h (maxSize_is (ex_apart net))
      have h2 := hmin.le t p (allEternalB_iff.2 q)
      congr 1
      rw [decide_eq_true_eq]; omega
    by_cases hp : parts net = 1
    · rw [cnd_t (by rw [hp]; rfl)]
      rcases minI_is net (joined net) with ⟨_, hno⟩ | ⟨m, hm1, hm2⟩
      · obtain ⟨s2, a2, b2, c2⟩ := (fewest_few h).ex
        obtain ⟨t, p, q, r, z⟩ := joined_three h hp a2 b2
        have := hno t p
        unfold joined at this
        rw [together_iff.2 q, r] at this; cases this
      · obtain ⟨s, a, b, c⟩ := hm2.ex
        unfold joined at b
        rw [Bool.and_eq_true] at b
        obtain ⟨t, p, q, r⟩ := allEternal_joined h a (together_iff.1 b.1) b.2
        have h2 := hmin.le t p (allEternalB_iff.2 q)
        have hs7 := size_le s
        rw [I.FewestJoined_y h g1, hm1]
        simp only
        rw [i64_wrap (by omega) (by omega), cnd_f (by rw [decide_eq_false_iff_not]; omega)]
        exact key
    · rw [cnd_f (by rw [beq_eq_false_iff_ne]; omega)]
      exact key
  · rw [I.FewestAllEternal_x g1, S.FewestAllEternal_x g2, g1]
    simp only
    rw [cnd_f (by decide), cnd_t (by decide), cnd_t (by decide), cnd_t (by decide), L.alive_is]
theorem L.FnAllEternalOk_is {code : List Int} (hm : code.length ≤ maxLen) (hw : ∀ n ∈ code, (Lit.int .u8 n).wf = true) : L.FnAllEternalOk_t code = some true := by
  unfold L.FnAllEternalOk_t L.FnAllEternalOk_tree
  by_cases hc : (code.length : Int) > 1048576
  · rw [cnd_t (by simpa using hc)]
  rw [cnd_f (by simpa using hc)]
  obtain ⟨s, net, e1, h1, h2⟩ := S.DrawAllEternalOk_is (Bytes.wf hw)
  rw [e1]
  simp only [optC]
  rcases NetOk_cases net with ⟨h, g1, g2⟩ | ⟨_, g1, g2⟩
  · have h6 := h.hi
    have h64 := h.pow
    rw [I.AllEternalOk_n h g1, S.AllEternalOk_n h g2]
    simp only
    rw [cnd_f (by simp)]
    rcases set_cases h (s : Int) with ⟨t, ht0, ht, hd⟩ | hd
    · obtain rfl : s = t := by omega
      rw [hd, Int.toNat_natCast, Bool.true_and]
      cases hb : allEternalB net s with
      | false =>
        rw [Bool.not_false, cond_true, I.EternalOk_n h g1, hd, Int.toNat_natCast]
        have : eternalB net s = false := not_true fun hc => by
          rw [allEternalB_iff.2 (eternal_allEternal h ht (eternalB_iff.1 hc))] at hb; cases hb
        simp only
        rw [this, Bool.and_false, Bool.not_false, cond_true, L.alive_is]
      | true =>
        have he := allEternalB_iff.1 hb
        rw [Bool.not_true, cond_false]
        have hin : ∀ t : Nat, t < 2 ^ net.length → I.AllEternalOk_t net (t : Int) = some (allEternalB net t) := fun t ht => by rw [I.AllEternalOk_n h g1, set_in ht, Int.toNat_natCast]; rfl
        have loop := (run_for (run := L.FnAllEternalOk_run10 (s : Int)) (len := net.length) (fun k (_ : Unit) => ((k : Int), net)) (fun t k => ()) (fun t => Sum.inr net) (fun k t => True) (by omega) (fun n k t hk ht2 => by
          simp only [L.FnAllEternalOk_run10, L.FnAllEternalOk_step10]
          rw [cnd_t (by rw [decide_eq_true_eq]; omega), cnd_f (by simp), bit_shr _ _ (by omega), bool_eq0, add1_nat (by omega)]
          cases hk2 : s.testBit k with
          | true => exact ⟨rfl, trivial⟩
          | false =>
            obtain ⟨u, u1, u2, u3, u4, u5⟩ := allAnswerI_is h ht hk he hk2
            rw [Bool.not_false, cond_true, I.AllAnswerOf_n h g1, u2]
            simp only [optC]
            rw [hin _ u1, allEternalB_iff.2 u5]
            exact ⟨rfl, trivial⟩) (fun n t ht2 => by
          simp only [L.FnAllEternalOk_run10, L.FnAllEternalOk_step10]
          rw [cnd_f (by rw [decide_eq_false_iff_not]; omega)]) (t0 := ()) trivial).1
        rw [show L.FnAllEternalOk_run10 (s : Int) FUEL (0, net) = _ from loop]
        simp only [sumC]
        rw [I.WatchOk_n h g1, set_in ht, Int.toNat_natCast, allEternal_watch h ht he]
        rfl
    · rw [hd, Bool.false_and, Bool.not_false, cond_true, I.EternalOk_n h g1, hd]
      simp only
      rw [Bool.false_and, Bool.not_false, cond_true, L.alive_is]
  · rw [I.AllEternalOk_x g1, S.AllEternalOk_x g2]
    simp only
    rw [cnd_f (by simp), Bool.not_false, cond_true, I.EternalOk_x g1]
    simp only
    rw [Bool.not_false, cond_true, L.alive_is]
theorem L.FnAllAnswerOf_is {code : List Int} (hm : code.length ≤ maxLen) (hw : ∀ n ∈ code, (Lit.int .u8 n).wf = true) : L.FnAllAnswerOf_t code = some true := by
  unfold L.FnAllAnswerOf_t L.FnAllAnswerOf_tree
  by_cases hc : (code.length : Int) > 1048576
  · rw [cnd_t (by simpa using hc)]
  rw [cnd_f (by simpa using hc)]
  obtain ⟨s, q, net, e1, h1, h2, h3⟩ := S.DrawAllAnswerOf_is (Bytes.wf hw)
  rw [e1]
  simp only [optC]
  rcases NetOk_cases net with ⟨h, g1, g2⟩ | ⟨_, g1, g2⟩
  · have h6 := h.hi
    have h64 := h.pow
    rw [I.AllAnswerOf_n h g1, S.AllAnswerOf_n h g2]
    simp only
    rw [cnd_f (by simp)]
    by_cases hcond : (0 ≤ (s : Int) ∧ (s : Int) < 2 ^ net.length) ∧ (0 ≤ (q : Int) ∧ (q : Int) < net.length) ∧ allEternalB net (s : Int).toNat = true ∧ (s : Int).toNat.testBit (q : Int).toNat = false
    · obtain ⟨c1, c2, c3, c4⟩ := hcond
      rw [Int.toNat_natCast] at c3 c4
      rw [Int.toNat_natCast] at c4
      have hs : s < 2 ^ net.length := by
        have := c1.2
        have e : ((2 : Int) ^ net.length) = ((2 ^ net.length : Nat) : Int) := by simp
        rw [e] at this; omega
      have hq : q < net.length := by omega
      obtain ⟨u, u1, u2, u3, u4, u5⟩ := allAnswerI_is h hs hq (allEternalB_iff.1 c3) c4
      rw [u2, cnd_f (by rw [decide_eq_false_iff_not]; omega), cnd_f (by simp), bit_shr _ _ (by omega), bool_eq1, u3, cond_true, I.AllMoveOk_n h g1, set_in hs, set_in u1, Int.toNat_natCast, Int.toNat_natCast, allMoveB_iff.2 u4]
      simp only [Bool.true_and]
      rw [cond_true, I.AllEternalOk_n h g1, set_in u1, Int.toNat_natCast, allEternalB_iff.2 u5]
      rfl
    · have e : allAnswerI net s q = -1 := by unfold allAnswerI; rw [if_neg hcond]
      rw [e, cnd_t (by decide), cnd_t (by decide), L.alive_is]
  · rw [I.AllAnswerOf_x g1, S.AllAnswerOf_x g2]
    simp only
    rw [cnd_f (by decide), cnd_t (by decide), cnd_t (by decide), L.alive_is]
/-- The least one that answers. -/
theorem ansI_first {net : List Int} {l : List Bool} {s t f : Nat} (he : ansI net l s t = (f : Int)) : ∀ k, k < f → ansP net l s t k = false := by
  intro k hk
  have key : ∀ n, (∀ j, j < n → ansP net l s t j = false) ∨ ∃ g, g < n ∧ (∀ j, j < g → ansP net l s t j = false) ∧ find n (fun f => if ansP net l s t f = true then some (f : Int) else none) = some (g : Int) := by
    intro n
    induction n with
    | zero => exact .inl (fun j hj => by omega)
    | succ n ih =>
      rcases ih with h | ⟨g, a, b, c⟩
      · cases hp : ansP net l s t n with
        | false =>
          exact .inl (fun j hj => by
            by_cases e : j = n
            · rw [e]; exact hp
            · exact h j (by omega))
        | true =>
          refine .inr ⟨n, by omega, h, ?_⟩
          rw [find_succ, find_none.2 (fun j hj => by rw [h j hj]; rfl), hp]
          rfl
      · exact .inr ⟨g, by omega, b, by rw [find_succ, c]; rfl⟩
  unfold ansI at he
  rcases key net.length with h | ⟨g, a, b, c⟩
  · rw [find_none.2 (fun j hj => by rw [h j hj]; rfl)] at he
    have : (-1 : Int) = (f : Int) := he
    omega
  · rw [c] at he
    have : (g : Int) = (f : Int) := he
    exact b k (by omega)
end Go.Proofs.Ytgocpgkhbamkcaa
/- Exact laws of chapter 10. Conditions: those of each theorem. -/
namespace Go.Proofs.Ytgocpgkhbamkcaa
open D Go.RowKit
set_option linter.unusedVariables false
set_option linter.unusedSimpArgs false


theorem AllMoveOk_same {a0 : List Int} {a1 a2 : Int} : ∃ v, S.AllMoveOk_t a0 a1 a2 = some v ∧ I.AllMoveOk_t a0 a1 a2 = some v := by
  rcases NetOk_cases a0 with ⟨h, e1, e2⟩ | ⟨_, e1, e2⟩
  · exact ⟨_, S.AllMoveOk_n h e2 a1 a2, I.AllMoveOk_n h e1 a1 a2⟩
  · exact ⟨_, S.AllMoveOk_x e2 a1 a2, I.AllMoveOk_x e1 a1 a2⟩
theorem L.FnExactAllMoveOk_is {a0 : List Int} {a1 : Int} {a2 : Int} : L.FnExactAllMoveOk_t a0 a1 a2 = some true := by
  unfold L.FnExactAllMoveOk_t L.FnExactAllMoveOk_tree
  by_cases ha0 : (a0.length : Int) > 1048576
  · rw [cnd_t (by simpa using ha0)]
  rw [cnd_f (by simpa using ha0)]
  have ta0 := L.toIntS_is (a := a0) (by omega)
  have ea0 := L.eqIntS_is (a := a0) (b := a0) (by omega)
  obtain ⟨b, h1, h2⟩ := AllMoveOk_same (a0 := a0) (a1 := a1) (a2 := a2)
  simp only [optC, ta0, ea0, h1, h2]
  simp
theorem AllAnswerOf_same {a0 : List Int} {a1 a2 : Int} : ∃ v, S.AllAnswerOf_t a0 a1 a2 = some v ∧ I.AllAnswerOf_t a0 a1 a2 = some v := by
  rcases NetOk_cases a0 with ⟨h, e1, e2⟩ | ⟨_, e1, e2⟩
  · exact ⟨_, S.AllAnswerOf_n h e2 a1 a2, I.AllAnswerOf_n h e1 a1 a2⟩
  · exact ⟨_, S.AllAnswerOf_x e2 a1 a2, I.AllAnswerOf_x e1 a1 a2⟩
theorem L.FnExactAllAnswerOf_is {a0 : List Int} {a1 : Int} {a2 : Int} : L.FnExactAllAnswerOf_t a0 a1 a2 = some true := by
  unfold L.FnExactAllAnswerOf_t L.FnExactAllAnswerOf_tree
  by_cases ha0 : (a0.length : Int) > 1048576
  · rw [cnd_t (by simpa using ha0)]
  rw [cnd_f (by simpa using ha0)]
  have ta0 := L.toIntS_is (a := a0) (by omega)
  have ea0 := L.eqIntS_is (a := a0) (b := a0) (by omega)
  obtain ⟨b, h1, h2⟩ := AllAnswerOf_same (a0 := a0) (a1 := a1) (a2 := a2)
  simp only [optC, ta0, ea0, h1, h2]
  simp
theorem AllEternalOk_same {a0 : List Int} {a1 : Int} : ∃ v, S.AllEternalOk_t a0 a1 = some v ∧ I.AllEternalOk_t a0 a1 = some v := by
  rcases NetOk_cases a0 with ⟨h, e1, e2⟩ | ⟨_, e1, e2⟩
  · exact ⟨_, S.AllEternalOk_n h e2 a1, I.AllEternalOk_n h e1 a1⟩
  · exact ⟨_, S.AllEternalOk_x e2 a1, I.AllEternalOk_x e1 a1⟩
theorem L.FnExactAllEternalOk_is {a0 : List Int} {a1 : Int} : L.FnExactAllEternalOk_t a0 a1 = some true := by
  unfold L.FnExactAllEternalOk_t L.FnExactAllEternalOk_tree
  by_cases ha0 : (a0.length : Int) > 1048576
  · rw [cnd_t (by simpa using ha0)]
  rw [cnd_f (by simpa using ha0)]
  have ta0 := L.toIntS_is (a := a0) (by omega)
  have ea0 := L.eqIntS_is (a := a0) (b := a0) (by omega)
  obtain ⟨b, h1, h2⟩ := AllEternalOk_same (a0 := a0) (a1 := a1)
  simp only [optC, ta0, ea0, h1, h2]
  simp
theorem FewestAllEternal_same {a0 : List Int} : ∃ v, S.FewestAllEternal_t a0 = some v ∧ I.FewestAllEternal_t a0 = some v := by
  rcases NetOk_cases a0 with ⟨h, e1, e2⟩ | ⟨_, e1, e2⟩
  · exact ⟨_, S.FewestAllEternal_y h e2, I.FewestAllEternal_y h e1⟩
  · exact ⟨_, S.FewestAllEternal_x e2, I.FewestAllEternal_x e1⟩
theorem L.FnExactFewestAllEternal_is {a0 : List Int} : L.FnExactFewestAllEternal_t a0 = some true := by
  unfold L.FnExactFewestAllEternal_t L.FnExactFewestAllEternal_tree
  by_cases ha0 : (a0.length : Int) > 1048576
  · rw [cnd_t (by simpa using ha0)]
  rw [cnd_f (by simpa using ha0)]
  have ta0 := L.toIntS_is (a := a0) (by omega)
  have ea0 := L.eqIntS_is (a := a0) (b := a0) (by omega)
  obtain ⟨b, h1, h2⟩ := FewestAllEternal_same (a0 := a0)
  simp only [optC, ta0, ea0, h1, h2]
  simp
end Go.Proofs.Ytgocpgkhbamkcaa
