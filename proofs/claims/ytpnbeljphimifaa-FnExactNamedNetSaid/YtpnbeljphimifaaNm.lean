/- Nets by other names. Conditions: those of each theorem. -/
import Derived.Test.YtpnbeljphimifaaChap1
import Derived.Test.YtpnbeljphimifaaEx
import Derived.Test.YtpnbeljphimifaaN3
namespace Go.Proofs.Ytpnbeljphimifaa
open D Go.RowKit
set_option linter.unusedVariables false
set_option linter.unusedSimpArgs false


/-- The number that an order tells for a place. -/
def oo (o : List Int) (k : Nat) : Nat := (D.eli o k).toNat
structure Ord (n : Nat) (o : List Int) : Prop where
  len : o.length = n
  eq : ∀ k, k < n → D.eli o k = (oo o k : Int)
  lt : ∀ k, k < n → oo o k < n
  inj : ∀ j k, j < n → k < n → oo o j = oo o k → j = k
def ordStep (n : Nat) (o : List Int) (t k : Nat) : Unit ⊕ Nat := if 0 ≤ D.eli o k ∧ D.eli o k < n ∧ t.testBit (oo o k) = false then .inr (t ||| 2 ^ oo o k) else .inl ()
def ordB (n : Nat) (o : List Int) : Bool := match loopE o.length (ordStep n o) 0 with | .inl _ => false | .inr _ => true
theorem ordStep_inr {n : Nat} {o : List Int} {t k u : Nat} (h : ordStep n o t k = .inr u) : (0 ≤ D.eli o k ∧ D.eli o k < n ∧ t.testBit (oo o k) = false) ∧ u = t ||| 2 ^ oo o k := by
  unfold ordStep at h
  split at h
  · rename_i hc; cases h; exact ⟨hc, rfl⟩
  · cases h
theorem ordStep_lt {n : Nat} {o : List Int} {t k u : Nat} (ht : t < 2 ^ n) (h : ordStep n o t k = .inr u) : u < 2 ^ n := by
  obtain ⟨⟨a, b, _⟩, rfl⟩ := ordStep_inr h
  have : oo o k < n := by unfold oo; omega
  exact Nat.or_lt_two_pow ht (Nat.pow_lt_pow_right (by omega) this)
theorem ord_loop {n : Nat} {o : List Int} : ∀ k, ∀ t, loopE k (ordStep n o) 0 = .inr t → (∀ j, j < k → 0 ≤ D.eli o j ∧ D.eli o j < n) ∧ (∀ v, t.testBit v = true ↔ ∃ j, j < k ∧ oo o j = v) ∧ ∀ i j, i < k → j < k → oo o i = oo o j → i = j := by
  intro k
  induction k with
  | zero =>
    intro t h
    cases h
    exact ⟨fun j hj => by omega, fun v => by simp, fun i j hi => by omega⟩
  | succ k ih =>
    intro t h
    cases hq : loopE k (ordStep n o) 0 with
    | inl d =>
      have : loopE (k + 1) (ordStep n o) 0 = .inl d := by unfold loopE at hq ⊢; rw [fold_succ, hq]
      rw [this] at h; cases h
    | inr u =>
      rw [loopE_succ hq] at h
      obtain ⟨⟨a, b, c⟩, rfl⟩ := ordStep_inr h
      obtain ⟨i1, i2, i3⟩ := ih u hq
      have hnew : ∀ j, j < k → oo o j ≠ oo o k := fun j hj he => by
        rw [(i2 (oo o k)).2 ⟨j, hj, he⟩] at c; cases c
      refine ⟨fun j hj => ?_, fun v => ?_, fun i j hi hj he => ?_⟩
      · by_cases hjk : j = k
        · rw [hjk]; exact ⟨a, b⟩
        · exact i1 j (by omega)
      · rw [Nat.testBit_or, Bool.or_eq_true, i2 v, testBit_pow, decide_eq_true_eq]
        constructor
        · rintro (⟨j, hj, e⟩ | e)
          · exact ⟨j, by omega, e⟩
          · exact ⟨k, by omega, e⟩
        · rintro ⟨j, hj, e⟩
          by_cases hjk : j = k
          · rw [hjk] at e; exact .inr e
          · exact .inl ⟨j, by omega, e⟩
      · by_cases hik : i = k
        · by_cases hjk : j = k
          · omega
          · rw [hik] at he; exact absurd he.symm (hnew j (by omega))
        · by_cases hjk : j = k
          · rw [hjk] at he; exact absurd he (hnew i (by omega))
          · exact i3 i j (by omega) (by omega) he
theorem ordB_ord {n : Nat} {o : List Int} (hl : o.length = n) (h : ordB n o = true) : Ord n o := by
  unfold ordB at h
  cases hq : loopE o.length (ordStep n o) 0 with
  | inl d => rw [hq] at h; cases h
  | inr t =>
    obtain ⟨a, b, c⟩ := ord_loop _ t hq
    rw [hl] at a c
    have hlt : ∀ k, k < n → D.eli o k = (oo o k : Int) := fun k hk => by have := (a k hk).1; show _ = ((D.eli o k).toNat : Int); omega
    refine ⟨hl, hlt, fun k hk => ?_, c⟩
    have := (a k hk).2
    rw [hlt k hk] at this
    omega
theorem I.orderIn_n {net o : List Int} (h : Ok net) (ho : o.length ≤ 1048576) : I.orderIn_t net o = some (decide (o.length = net.length) && ordB net.length o) := by
  unfold I.orderIn_t I.orderIn_tree
  have h6 := h.hi
  have h64 := h.pow
  by_cases hl : o.length = net.length
  · rw [cnd_f (by simp [hl])]
    have := (run_forE (run := I.orderIn_run5 net o) (len := o.length) (fun k (t : Nat) => ((t : Int), (k : Int))) (fun t k => ordStep net.length o t k) (fun (_ : Unit) => .inl false) (fun _ => .inr ()) (fun k t => t < 2 ^ net.length) (by omega) (fun n k t hk ht => ?_) (fun n t ht => ?_) (t0 := 0) (Nat.two_pow_pos _)).1
    · rw [show I.orderIn_run5 net o FUEL (0, 0) = _ from this]
      unfold ordB
      simp only [hl, decide_true, Bool.true_and]
      cases loopE net.length (ordStep net.length o) 0 <;> rfl
    · have hstep : I.orderIn_run5 net o (n + 1) ((t : Int), (k : Int)) = match ordStep net.length o t k with | .inl _ => some (.inl false) | .inr u => I.orderIn_run5 net o n ((u : Int), ((k + 1 : Nat) : Int)) := by
        simp only [I.orderIn_run5, I.orderIn_step5]
        rw [cnd_t (by simp; omega), cnd_t (by simp; omega), I.placeIn_n, Int.toNat_natCast]
        simp only [optC]
        rcases place_cases net (D.eli o k) with ⟨v, hv, hvn, hd⟩ | hd
        · have hov : oo o k = v := by unfold oo; omega
          rw [hd, Bool.not_true, cond_false, cnd_t (by simp; omega), hv, I.hasPlace_n _ _ (by omega)]
          simp only
          cases hb : t.testBit v with
          | true =>
            have : ordStep net.length o t k = .inl () := by unfold ordStep; rw [if_neg]; intro hc; rw [hov, hb] at hc; exact absurd hc.2.2 (by simp)
            rw [this]; rfl
          | false =>
            have : ordStep net.length o t k = .inr (t ||| 2 ^ oo o k) := by unfold ordStep; rw [if_pos]; rw [hov, hb]; exact ⟨by omega, by omega, rfl⟩
            rw [this, cond_false, cnd_t (by simp; omega), cnd_f (by simp), one_shl (by omega), i64_or_nat _ _ (by omega) (pow2_lt (by omega)), add1_nat (by omega), hov]
        · have : ordStep net.length o t k = .inl () := by
            unfold ordStep; rw [if_neg]; rintro ⟨a, b, _⟩
            rw [decide_eq_true (⟨a, b⟩ : 0 ≤ D.eli o k ∧ D.eli o k < net.length)] at hd; cases hd
          rw [this, hd]; rfl
      cases hs : ordStep net.length o t k with
      | inl d => rw [hs] at hstep; exact hstep
      | inr u => rw [hs] at hstep; exact ⟨hstep, ordStep_lt ht hs⟩
    · simp only [I.orderIn_run5, I.orderIn_step5]
      rw [cnd_f (by simp)]
  · rw [cnd_t (by simp; omega)]
    simp [hl]
theorem S.l1Order_n {n : Nat} {o : List Int} (hn : n ≤ 6) (ho : o.length ≤ 1048576) : S.l1Order_t (n : Int) o = some (decide (o.length = n) && ordB n o) := by
  unfold S.l1Order_t S.l1Order_tree
  have h64 := pow_le_64 hn
  have := (run_forE (run := S.l1Order_run3 (n : Int) o) (len := o.length) (fun k (t : Nat) => ((t : Int), (k : Int))) (fun t k => ordStep n o t k) (fun (_ : Unit) => .inl false) (fun _ => .inr ()) (fun k t => t < 2 ^ n) (by omega) (fun m k t hk ht => ?_) (fun m t ht => ?_) (t0 := 0) (Nat.two_pow_pos _)).1
  · rw [show S.l1Order_run3 (n : Int) o FUEL (0, 0) = _ from this]
    unfold ordB
    cases loopE o.length (ordStep n o) 0 with
    | inl d => simp [optC, sumC]
    | inr t =>
      simp only [optC, sumC, Bool.and_true]
      rw [nat_beq]; rfl
  · have hstep : S.l1Order_run3 (n : Int) o (m + 1) ((t : Int), (k : Int)) = match ordStep n o t k with | .inl _ => some (.inl false) | .inr u => S.l1Order_run3 (n : Int) o m ((u : Int), ((k + 1 : Nat) : Int)) := by
      simp only [S.l1Order_run3, S.l1Order_step3]
      rw [cnd_t (by simp; omega), cnd_t (by simp; omega), Int.toNat_natCast]
      by_cases h0 : D.eli o k < 0
      · have : ordStep n o t k = .inl () := by unfold ordStep; rw [if_neg]; rintro ⟨a, _⟩; omega
        rw [this, cnd_t (by simpa using h0)]
      · rw [cnd_f (by simpa using h0), cnd_t (by simp; omega)]
        by_cases h1 : D.eli o k ≥ n
        · have : ordStep n o t k = .inl () := by unfold ordStep; rw [if_neg]; rintro ⟨_, a, _⟩; omega
          rw [this, cnd_t (by simpa using h1)]
        · obtain ⟨v, hv⟩ : ∃ v : Nat, D.eli o k = v := ⟨(D.eli o k).toNat, by omega⟩
          have hov : oo o k = v := by unfold oo; omega
          rw [cnd_f (by simpa using h1), cnd_t (by simp; omega), cnd_f (by simpa using h0), hv, bit_shr _ _ (by omega), bool_eq1]
          cases hb : t.testBit v with
          | true =>
            have : ordStep n o t k = .inl () := by unfold ordStep; rw [if_neg]; intro hc; rw [hov, hb] at hc; exact absurd hc.2.2 (by simp)
            rw [this]; rfl
          | false =>
            have : ordStep n o t k = .inr (t ||| 2 ^ oo o k) := by unfold ordStep; rw [if_pos]; rw [hov, hb]; exact ⟨by omega, by omega, rfl⟩
            rw [this, cond_false, cnd_t (by simp; omega), cnd_f (by simp), one_shl (by omega), i64_or_nat _ _ (by omega) (pow2_lt (by omega)), add1_nat (by omega), hov]
    cases hs : ordStep n o t k with
    | inl d => rw [hs] at hstep; exact hstep
    | inr u => rw [hs] at hstep; exact ⟨hstep, ordStep_lt ht hs⟩
  · simp only [S.l1Order_run3, S.l1Order_step3]
    rw [cnd_f (by simp)]

/-! ### Sets by other names -/
def named (n : Nat) (o : List Int) (s : Nat) : Nat := orN n (fun j => s.testBit j) (fun j => 2 ^ oo o j)
theorem named_testBit (n : Nat) (o : List Int) (s v : Nat) : (named n o s).testBit v = true ↔ ∃ j, j < n ∧ s.testBit j = true ∧ oo o j = v := by
  unfold named
  rw [orN_testBit]
  simp only [testBit_pow, decide_eq_true_eq]
theorem named_lt {n : Nat} {o : List Int} (ho : Ord n o) (s : Nat) : named n o s < 2 ^ n := orN_lt fun j hj _ => Nat.pow_lt_pow_right (by omega) (ho.lt j hj)
theorem named_at {n : Nat} {o : List Int} (ho : Ord n o) (s : Nat) {j : Nat} (hj : j < n) : (named n o s).testBit (oo o j) = s.testBit j := by
  rw [Bool.eq_iff_iff, named_testBit]
  constructor
  · rintro ⟨i, hi, a, b⟩
    rw [← ho.inj i j hi hj b]; exact a
  · intro a; exact ⟨j, hj, a, rfl⟩
theorem I.namedSet_n {n : Nat} {o : List Int} (ho : Ord n o) (hn : n ≤ 6) (s : Nat) : I.namedSet_t (s : Int) o = some ((named n o s : Nat) : Int) := by
  unfold I.namedSet_t I.namedSet_tree
  have h64 := pow_le_64 hn
  have hol := ho.len
  have := (run_for (run := I.namedSet_run3 (s : Int) o) (len := n) (fun k (t : Nat) => ((t : Int), (k : Int))) (fun t k => if s.testBit k = true then t ||| 2 ^ oo o k else t) (fun t => (t : Int)) (fun k t => t < 2 ^ n) (by omega) (fun m k t hk ht => ?_) (fun m t ht => ?_) (t0 := 0) (Nat.two_pow_pos _)).1
  · exact congrArg (fun o => optC o (fun q => some q) none) this
  · have hlt := ho.lt k hk
    have hp : 2 ^ oo o k < 2 ^ n := Nat.pow_lt_pow_right (by omega) hlt
    simp only [I.namedSet_run3, I.namedSet_step3]
    rw [cnd_t (by simp; omega), I.hasPlace_n _ _ (by omega)]
    simp only [optC]
    cases hb : s.testBit k with
    | true =>
      rw [cond_true, cnd_t (by simp; omega), Int.toNat_natCast, ho.eq k hk, cnd_f (by simp), one_shl (by omega), i64_or_nat _ _ (by omega) (by omega), add1_nat (by omega), if_pos rfl]
      exact ⟨rfl, Nat.or_lt_two_pow ht hp⟩
    | false => rw [cond_false, add1_nat (by omega), if_neg (by simp)]; exact ⟨rfl, ht⟩
  · simp only [I.namedSet_run3, I.namedSet_step3]
    rw [cnd_f (by simp; omega)]
theorem bit_shl {s k v n : Nat} (hv : v < n) (hn : n ≤ 6) (hk : k ≤ 64) : IntKind.i64.wrap (((s : Int).fdiv (2 ^ min (k : Int).toNat IntKind.i64.bits)).tmod 2 * 2 ^ min (v : Int).toNat IntKind.i64.bits) = (((if s.testBit k = true then 2 ^ v else 0) : Nat) : Int) := by
  rw [bit_shr _ _ hk]
  cases s.testBit k with
  | true =>
    have := one_shl (k := v) (by omega)
    simpa using this
  | false =>
    rw [if_neg (by simp)]
    simp
    exact wrap_nat (a := 0) (by omega)
theorem L.namedSet_n {n : Nat} {o : List Int} (ho : Ord n o) (hn : n ≤ 6) (s : Nat) : L.namedSet_t (s : Int) o = some ((named n o s : Nat) : Int) := by
  unfold L.namedSet_t L.namedSet_tree
  have h64 := pow_le_64 hn
  have hol := ho.len
  have := (run_for (run := L.namedSet_run3 (s : Int) o) (len := n) (fun k (t : Nat) => ((t : Int), (k : Int))) (fun t k => if s.testBit k = true then t ||| 2 ^ oo o k else t) (fun t => (t : Int)) (fun k t => t < 2 ^ n) (by omega) (fun m k t hk ht => ?_) (fun m t ht => ?_) (t0 := 0) (Nat.two_pow_pos _)).1
  · exact congrArg (fun o => optC o (fun q => some q) none) this
  · have hlt := ho.lt k hk
    have hp : 2 ^ oo o k < 2 ^ n := Nat.pow_lt_pow_right (by omega) hlt
    simp only [L.namedSet_run3, L.namedSet_step3]
    rw [cnd_t (by simp; omega), cnd_f (by simp), cnd_t (by simp; omega)]
    have he : D.eli o (k : Int).toNat = (oo o k : Int) := by rw [Int.toNat_natCast]; exact ho.eq k hk
    rw [he, cnd_f (by simp), bit_shl hlt hn (by omega), i64_or_nat _ _ (by omega) (by split <;> omega), add1_nat (by omega)]
    cases hb : s.testBit k with
    | true => rw [if_pos rfl]; exact ⟨rfl, Nat.or_lt_two_pow ht hp⟩
    | false => rw [if_neg (by simp), Nat.or_zero]; exact ⟨rfl, ht⟩
  · simp only [L.namedSet_run3, L.namedSet_step3]
    rw [cnd_f (by simp; omega)]

/-! ### The net -/
structure NamedTo (net o x : List Int) : Prop where
  len : x.length = net.length
  at_ : ∀ k, k < net.length → D.eli x (oo o k) = ((named net.length o (nb net k) : Nat) : Int)
theorem NamedTo.uniq {net o x y : List Int} (ho : Ord net.length o) (hx : NamedTo net o x) (hy : NamedTo net o y) : x = y := by
  apply List.ext_getElem (by rw [hx.len, hy.len])
  intro v hv hv2
  obtain ⟨k, hk, he⟩ := onto_of_inj ho.lt ho.inj (v := v) (by rw [← hx.len]; exact hv)
  have h1 := hx.at_ k hk
  have h2 := hy.at_ k hk
  rw [he] at h1 h2
  unfold D.eli at h1 h2
  simp only [List.getD, List.getElem?_eq_getElem hv, List.getElem?_eq_getElem hv2, Option.getD_some] at h1 h2
  rw [h1, h2]
theorem I.NamedNet_n {net o : List Int} (h : Ok net) (e : I.NetOk_t net = some true) (ho : Ord net.length o) (hb : ordB net.length o = true) : ∃ x, I.NamedNet_t net o = some (true, x) ∧ NamedTo net o x := by
  unfold I.NamedNet_t I.NamedNet_tree
  have h6 := h.hi
  have h64 := h.pow
  have hol := ho.len
  rw [e, I.orderIn_n h (by omega), hb, hol]
  have := run_for (run := I.NamedNet_run5 net o) (len := net.length) (fun k (t : List Int) => ((k : Int), t)) (fun t k => t.set (oo o k) ((named net.length o (nb net k) : Nat) : Int)) (fun t => t) (fun k t => t.length = net.length ∧ ∀ j, j < k → D.eli t (oo o j) = ((named net.length o (nb net j) : Nat) : Int)) (by omega) (fun m k t hk ht => ?_) (fun m t ht => ?_) (t0 := List.replicate net.length 0) ⟨by simp, fun j hj => by omega⟩
  · simp only [optC, Bool.not_true, cond_false, decide_true, Bool.and_self]
    rw [Int.toNat_natCast, small_of (by omega)]
    simp only [Bool.and_self, cond_true]
    rw [show I.NamedNet_run5 net o FUEL (0, List.replicate net.length 0) = _ from this.1]
    exact ⟨_, rfl, this.2.1, this.2.2⟩
  · obtain ⟨t1, t2⟩ := ht
    have hlt := ho.lt k hk
    refine ⟨?_, by rw [List.length_set]; exact t1, fun j hj => ?_⟩
    · simp only [I.NamedNet_run5, I.NamedNet_step5]
      rw [cnd_t (by simp; omega), cnd_t (by simp; omega), cnd_t (by simp; omega), Int.toNat_natCast, h.eli hk, I.namedSet_n ho h6]
      simp only [optC]
      rw [ho.eq k hk, cnd_t (by simp; omega), cnd_t (by simp; omega), add1_nat (by omega), Int.toNat_natCast]
    · rw [eli_set2 (by omega)]
      by_cases hjk : j = k
      · rw [hjk, if_pos rfl]
      · rw [if_neg (fun he => hjk (ho.inj j k (by omega) hk he.symm))]; exact t2 j (by omega)
  · simp only [I.NamedNet_run5, I.NamedNet_step5]
    rw [cnd_f (by simp)]
theorem orN_succ (n : Nat) (p : Nat → Bool) (f : Nat → Nat) : orN (n + 1) p f = orN n p f ||| (if p n = true then f n else 0) := by
  unfold orN
  rw [fold_succ]
  cases p n <;> simp
theorem S.NamedNet_in {net o : List Int} (h : Ok net) (ho : Ord net.length o) {k : Nat} (hk : k < net.length) {t0 : List Int} (hl : t0.length = net.length) (hz : D.eli t0 (oo o k) = 0) :
    ∃ t, S.NamedNet_run8 net o (k : Int) FUEL (0, t0) = some t ∧ t.length = net.length ∧ D.eli t (oo o k) = ((named net.length o (nb net k) : Nat) : Int) ∧ ∀ v, v ≠ oo o k → D.eli t v = D.eli t0 v := by
  have h6 := h.hi
  have h64 := h.pow
  have hol := ho.len
  have hltk := ho.lt k hk
  have := run_for (run := S.NamedNet_run8 net o (k : Int)) (len := net.length) (fun m (t : List Int) => ((m : Int), t)) (fun t m => t.set (oo o k) (((orN (m + 1) (fun j => (nb net k).testBit j) (fun j => 2 ^ oo o j) : Nat) : Int))) (fun t => t)
    (fun m t => t.length = net.length ∧ D.eli t (oo o k) = ((orN m (fun j => (nb net k).testBit j) (fun j => 2 ^ oo o j) : Nat) : Int) ∧ ∀ v, v ≠ oo o k → D.eli t v = D.eli t0 v) (by omega) (fun n m t hm ht => ?_) (fun n t ht => ?_) (t0 := t0) ⟨hl, hz, fun v _ => rfl⟩
  · exact ⟨_, this.1, this.2.1, this.2.2.1, this.2.2.2⟩
  · obtain ⟨t1, t2, t3⟩ := ht
    have hltm := ho.lt m hm
    have hb : orN m (fun j => (nb net k).testBit j) (fun j => 2 ^ oo o j) < 2 ^ net.length := orN_lt fun j hj _ => Nat.pow_lt_pow_right (by omega) (ho.lt j (by omega))
    have hp : 2 ^ oo o m < 2 ^ net.length := Nat.pow_lt_pow_right (by omega) hltm
    refine ⟨?_, by rw [List.length_set]; exact t1, ?_, fun v hv => ?_⟩
    · simp only [S.NamedNet_run8, S.NamedNet_step8]
      have hek : D.eli o (k : Int).toNat = (oo o k : Int) := by rw [Int.toNat_natCast]; exact ho.eq k hk
      have hem : D.eli o (m : Int).toNat = (oo o m : Int) := by rw [Int.toNat_natCast]; exact ho.eq m hm
      have hnk : D.eli net (k : Int).toNat = (nb net k : Int) := by rw [Int.toNat_natCast]; exact h.eli hk
      rw [hek, hem, hnk]
      rw [cnd_t (by simp; omega), cnd_t (by simp; omega), cnd_t (by simp; omega), cnd_t (by simp; omega), cnd_t (by simp; omega), cnd_t (by simp; omega), cnd_f (by simp), cnd_t (by simp; omega), cnd_f (by simp), cnd_t (by simp; omega), cnd_t (by simp; omega), add1_nat (by omega)]
      have e2 : (oo o k : Int).toNat = oo o k := Int.toNat_natCast _
      rw [e2, t2, bit_shl hltm h6 (by omega), i64_or_nat _ _ (by omega) (by split <;> omega), ← orN_succ]
    · rw [eli_set2 (by omega), if_pos rfl]
    · rw [eli_set2 (by omega), if_neg (Ne.symm hv)]; exact t3 v hv
  · simp only [S.NamedNet_run8, S.NamedNet_step8]
    rw [cnd_f (by simp)]
theorem S.NamedNet_n {net o : List Int} (h : Ok net) (e : S.NetOk_t net = some true) (ho : Ord net.length o) (hb : ordB net.length o = true) : ∃ x, S.NamedNet_t net o = some (true, x) ∧ NamedTo net o x := by
  unfold S.NamedNet_t S.NamedNet_tree
  have h6 := h.hi
  have h64 := h.pow
  have hol := ho.len
  rw [e, S.l1Order_n h6 (by omega), hb, hol]
  have := run_post (run := S.NamedNet_run5 net o) (fun s => ∃ (k : Nat) (t : List Int), s = ((k : Int), t) ∧ k ≤ net.length ∧ t.length = net.length ∧ (∀ j, j < k → D.eli t (oo o j) = ((named net.length o (nb net j) : Nat) : Int)) ∧ ∀ j, k ≤ j → j < net.length → D.eli t (oo o j) = 0) (fun s => net.length - s.1.toNat) (fun d => NamedTo net o d)
    (fun m s => ?_) (s := (0, List.replicate net.length 0)) ⟨0, _, rfl, by omega, by simp, fun j hj => by omega, fun j _ hj => by
      unfold D.eli; have := ho.lt j hj; simp [List.getD, this]⟩ (by simp; omega)
  · obtain ⟨d, e1, e2⟩ := this
    simp only [optC, Bool.not_true, cond_false, decide_true, Bool.and_self]
    rw [Int.toNat_natCast, small_of (by omega)]
    simp only [Bool.and_self, cond_true]
    rw [e1]
    exact ⟨_, rfl, e2⟩
  · rintro ⟨k, t, rfl, hk, t1, t2, t3⟩
    simp only [S.NamedNet_run5, S.NamedNet_step5]
    by_cases hlt : k < net.length
    · right
      obtain ⟨u, u1, u2, u3, u4⟩ := S.NamedNet_in h ho hlt t1 (t3 k (Nat.le_refl _) hlt)
      rw [cnd_t (by simp; omega), u1]
      simp only [optC]
      rw [add1_nat (by omega)]
      refine ⟨_, rfl, ⟨k + 1, u, rfl, by omega, u2, fun j hj => ?_, fun j hj hjn => ?_⟩, by simp only [Int.toNat_natCast]; omega⟩
      · by_cases hjk : j = k
        · rw [hjk]; exact u3
        · rw [u4 _ (fun he => hjk (ho.inj j k (by omega) hlt he))]; exact t2 j (by omega)
      · rw [u4 _ (fun he => by have := ho.inj j k hjn hlt he; omega)]; exact t3 j (by omega) hjn
    · left
      rw [cnd_f (by simp; omega)]
      exact ⟨_, rfl, t1, fun j hj => t2 j (by omega)⟩
theorem NamedNet_same {a0 a1 : List Int} (ha : a1.length ≤ 1048576) : ∃ w v, S.NamedNet_t a0 a1 = some (w, v) ∧ I.NamedNet_t a0 a1 = some (w, v) ∧ v.length ≤ 1000000 ∧ ((w = false ∧ v = []) ∨ (w = true ∧ Ok a0 ∧ Ord a0.length a1 ∧ NamedTo a0 a1 v)) := by
  rcases NetOk_cases a0 with ⟨h, e1, e2⟩ | ⟨_, e1, e2⟩
  · have h6 := h.hi
    by_cases hb : (decide (a1.length = a0.length) && ordB a0.length a1) = true
    · rw [Bool.and_eq_true, decide_eq_true_eq] at hb
      have ho := ordB_ord hb.1 hb.2
      obtain ⟨x, x1, x2⟩ := I.NamedNet_n h e1 ho hb.2
      obtain ⟨y, y1, y2⟩ := S.NamedNet_n h e2 ho hb.2
      have := x2.uniq ho y2
      subst this
      exact ⟨true, x, y1, x1, by rw [x2.len]; omega, .inr ⟨rfl, h, ho, x2⟩⟩
    · have hb' : (decide (a1.length = a0.length) && ordB a0.length a1) = false := by simpa using hb
      refine ⟨false, [], ?_, ?_, by simp, .inl ⟨rfl, rfl⟩⟩
      · unfold S.NamedNet_t S.NamedNet_tree
        rw [e2, S.l1Order_n h6 ha, hb']; rfl
      · unfold I.NamedNet_t I.NamedNet_tree
        rw [e1, I.orderIn_n h ha, hb']; rfl
  · refine ⟨false, [], ?_, ?_, by simp, .inl ⟨rfl, rfl⟩⟩
    · unfold S.NamedNet_t S.NamedNet_tree; rw [e2]; rfl
    · unfold I.NamedNet_t I.NamedNet_tree; rw [e1]; rfl
end Go.Proofs.Ytpnbeljphimifaa
