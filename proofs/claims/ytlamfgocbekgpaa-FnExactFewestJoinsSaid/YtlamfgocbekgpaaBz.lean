/- Several texts in one: Nt3, Dr, Dr2, Dr3, S6, S6b, S7, S8, S9, S10, Br3, S13, S16, Dr16, Pm, I3, I6, J7, S8b, J8, S9b, J9, Kuhn, Jm, J10, J13, J16, Ch11c, S11, I11, L2, L3, I16, L4, I5, L5, Set, L16, Ex16. Conditions: those of each theorem. -/
import Derived.Test.YtlamfgocbekgpaaBzb0
import Derived.Test.YtlamfgocbekgpaaBza2
/- What drawn nets are. Conditions: those of each theorem. -/
namespace Go.Proofs.Ytlamfgocbekgpaa
open D Go.RowKit
set_option linter.unusedVariables false
set_option linter.unusedSimpArgs false


/-- A code of bytes. -/
def Bytes (rb : List Int) : Prop := ∀ n ∈ rb, 0 ≤ n ∧ n ≤ 255
theorem Bytes.eli {rb : List Int} (h : Bytes rb) (k : Nat) : 0 ≤ D.eli rb k ∧ D.eli rb k ≤ 255 := by
  by_cases hk : k < rb.length
  · have : D.eli rb k = rb[k] := by simp [D.eli, List.getD, hk]
    rw [this]; exact h _ (List.getElem_mem hk)
  · have : D.eli rb k = 0 := by simp [D.eli, List.getD, List.getElem?_eq_none (by omega : rb.length ≤ k)]
    rw [this]; decide
theorem Bytes.wf {rb : List Int} (h : ∀ n ∈ rb, (Lit.int .u8 n).wf = true) : Bytes rb := fun n hn => by
  have := h n hn
  have e1 : IntKind.u8.min = 0 := by kernel_rfl
  have e2 : IntKind.u8.max = 255 := by kernel_rfl
  simpa [Lit.wf, e1, e2] using this

theorem xor_pos {a b : Int} (ha : 0 ≤ a ∧ a < 9223372036854775808) (hb : 0 ≤ b ∧ b < 9223372036854775808) : 0 ≤ bits .xor .i64 a b := by
  obtain ⟨x, rfl⟩ := Int.eq_ofNat_of_zero_le ha.1
  obtain ⟨y, rfl⟩ := Int.eq_ofNat_of_zero_le hb.1
  rw [i64_xor_nat x y (by omega) (by omega)]
  omega

theorem S.l20Rd_pick_is {rb : List Int} {rp n : Int} (hb : Bytes rb) (hl : rb.length ≤ 2000) (h0 : 0 ≤ rp) (h1 : rp ≤ 1099511627776) :
    ∃ v, S.l20Rd_pick_t rb rp n = some (v, rb, rp + 1) ∧ 0 ≤ v ∧ (1 ≤ n → v < n) := by
  unfold S.l20Rd_pick_t S.l20Rd_pick_tree
  have e1 : IntKind.i64.wrap (rp + 1) = rp + 1 := i64_wrap (by omega) (by omega)
  have e2 : IntKind.i64.wrap (rp + 1 - 1) = rp := by rw [i64_wrap (by omega) (by omega)]; omega
  rw [e1, e2]
  by_cases hn : n < 1
  · rw [cnd_t (by simpa using hn)]; exact ⟨_, rfl, Int.le_refl _, fun h => by omega⟩
  rw [cnd_f (by simpa using hn)]
  by_cases hz : rb.length = 0
  · rw [cnd_t (by simp [hz])]; exact ⟨_, rfl, Int.le_refl _, fun h => by omega⟩
  have hnz : (n == 0) = false := by simp; omega
  have hlz : ((rb.length : Int) == 0) = false := by simp; exact fun h => hz (by simp [h])
  rw [cnd_f hlz]
  have fin : ∀ x : Int, 0 ≤ x → 0 ≤ x.tmod n ∧ (1 ≤ n → x.tmod n < n) := fun x hx => ⟨Int.tmod_nonneg _ hx, fun h => Int.tmod_lt_of_pos _ (by omega)⟩
  by_cases hx : rp < rb.length
  · rw [cnd_t (by simpa using hx), cnd_t (by simp; omega), cnd_f hnz]
    have hv := hb.eli rp.toNat
    rw [i64_wrap (n := D.eli rb rp.toNat) (by omega) (by omega)]
    exact ⟨_, rfl, fin _ hv.1⟩
  · rw [cnd_f (by simpa using hx), cnd_f hlz]
    have hL : 0 < (rb.length : Int) := by omega
    have m1 : 0 ≤ rp.tmod rb.length := Int.tmod_nonneg _ h0
    have m2 : rp.tmod rb.length < rb.length := Int.tmod_lt_of_pos _ hL
    rw [cnd_t (by simp; omega), cnd_f hlz]
    have e3 : IntKind.i64.wrap (IntKind.i64.wrap (rp * 7) + 3) = rp * 7 + 3 := by rw [i64_wrap (n := rp * 7) (by omega) (by omega)]; exact i64_wrap (by omega) (by omega)
    rw [e3]
    have m3 : 0 ≤ (rp * 7 + 3).tmod rb.length := Int.tmod_nonneg _ (by omega)
    have m4 : (rp * 7 + 3).tmod rb.length < rb.length := Int.tmod_lt_of_pos _ hL
    rw [cnd_t (by simp; omega), cnd_f hlz, cnd_f hnz]
    have d1 : 0 ≤ rp.tdiv rb.length := Int.tdiv_nonneg h0 (by omega)
    have d2 : rp.tdiv rb.length ≤ rp := Int.tdiv_le_self _ h0
    have v1 := hb.eli (rp.tmod rb.length).toNat
    have v2 := hb.eli ((rp * 7 + 3).tmod rb.length).toNat
    generalize rp.tdiv rb.length = d at d1 d2
    generalize D.eli rb (rp.tmod rb.length).toNat = b1 at v1
    generalize D.eli rb ((rp * 7 + 3).tmod rb.length).toNat = b2 at v2
    have key : ∀ x : Int, 0 ≤ x → x < 9223372036854775808 → 0 ≤ bits .xor .i64 x (IntKind.i64.wrap (x.tdiv 64)) := fun x hx0 hx1 => by
      have a1 : 0 ≤ x.tdiv 64 := Int.tdiv_nonneg hx0 (by decide)
      have a2 : x.tdiv 64 ≤ x := Int.tdiv_le_self _ hx0
      rw [i64_wrap (by omega) (by omega)]
      exact xor_pos ⟨hx0, hx1⟩ ⟨a1, by omega⟩
    refine ⟨_, rfl, fin _ (key _ ?_ ?_)⟩ <;> simp (disch := omega) only [i64_wrap] <;> omega
theorem cnd_case {α : Type} {P : α → Prop} {b : Bool} {x y : α} (h1 : b = true → P x) (h2 : b = false → P y) : P (bif b then x else y) := by
  cases b with
  | true => exact h1 rfl
  | false => exact h2 rfl
theorem S.l20Net_p8 {α : Type} (P : α → Prop) {x1 x5 x7 x8 x9 rp : Int} {rb r : List Int} {next : Int × (List Int) × Int × (List Int) → α} {out : (List Int) × Int × (List Int) → α} {fail : α}
    (hb : Bytes rb) (hl : rb.length ≤ 2000) (h0 : 0 ≤ rp) (h1 : rp ≤ 1099511627000) (h9 : 0 ≤ x9) (h8 : x8 < r.length) (hr : r.length ≤ 1048576)
    (hleaf : x9 < x8 → ∀ rp' r', rp < rp' → rp' ≤ rp + 2 → r'.length = r.length → P (next (x9 + 1, rb, rp', r')))
    (hout : ¬ x9 < x8 → P (out (rb, rp, r))) : P (S.l20Net_step8 x1 x5 x7 x8 x9 rb rp r next out fail) := by
  unfold S.l20Net_step8
  refine cnd_case (P := P) (fun h => ?_) (fun h => hout (by simpa using h))
  have hlt : x9 < x8 := by simpa using h
  obtain ⟨v, hv, _, _⟩ := S.l20Rd_pick_is (n := 3) hb hl h0 (by omega)
  obtain ⟨v', hv', _, _⟩ := S.l20Rd_pick_is (n := 3) (rp := rp + 1) hb hl (by omega) (by omega)
  rw [hv]
  simp only [optC]
  rw [hv']
  simp only [optC]
  rw [i64_wrap (n := x9 + 1) (by omega) (by omega)]
  repeat' first
    | exact hleaf hlt _ _ (by omega) (by omega) (by simp)
    | rw [cnd_t (by simp; omega)]
    | rw [cnd_f (by simp; omega)]
    | refine cnd_case (P := P) (fun _ => ?_) (fun _ => ?_)
theorem S.l20Net_q8 {x1 x5 x7 x8 rp : Int} {rb r : List Int} (hb : Bytes rb) (hl : rb.length ≤ 2000) (h0 : 0 ≤ rp) (h1 : rp ≤ 1099511620000) (hx : 0 ≤ x8) (h8 : x8 < r.length) (h6 : x8 ≤ 100) (hr : r.length ≤ 1048576) :
    ∃ d, S.l20Net_run8 x1 x5 x7 x8 FUEL (0, rb, rp, r) = some d ∧ d.1 = rb ∧ rp ≤ d.2.1 ∧ d.2.1 ≤ rp + 2 * x8 ∧ d.2.2.length = r.length := by
  refine run_post (run := S.l20Net_run8 x1 x5 x7 x8) (fun s => s.2.1 = rb ∧ 0 ≤ s.1 ∧ s.1 ≤ x8 ∧ rp ≤ s.2.2.1 ∧ s.2.2.1 ≤ rp + 2 * s.1 ∧ s.2.2.2.length = r.length) (fun s => (x8 - s.1).toNat) (fun d => d.1 = rb ∧ rp ≤ d.2.1 ∧ d.2.1 ≤ rp + 2 * x8 ∧ d.2.2.length = r.length) ?_ ?_ ?_
  · rintro n ⟨x9, rb', rp', r'⟩ ⟨i0, i1, i2, i3, i4, i5⟩
    simp only at i0 i1 i2 i3 i4 i5
    subst i0
    refine S.l20Net_p8 (x1 := x1) (x5 := x5) (x7 := x7) (x8 := x8) (x9 := x9) (rp := rp') (rb := rb') (r := r') (next := S.l20Net_run8 x1 x5 x7 x8 n) (out := fun d => some d) (fail := none) (fun t => (∃ d, t = some d ∧ (d.1 = rb' ∧ rp ≤ d.2.1 ∧ d.2.1 ≤ rp + 2 * x8 ∧ d.2.2.length = r.length)) ∨ ∃ s', t = S.l20Net_run8 x1 x5 x7 x8 n s' ∧ (s'.2.1 = rb' ∧ 0 ≤ s'.1 ∧ s'.1 ≤ x8 ∧ rp ≤ s'.2.2.1 ∧ s'.2.2.1 ≤ rp + 2 * s'.1 ∧ s'.2.2.2.length = r.length) ∧ (x8 - s'.1).toNat < (x8 - x9).toNat) hb hl (by omega) (by omega) i1 (by omega) (by omega) (fun hlt rp2 r2 a1 a2 a3 => .inr ⟨_, rfl, ⟨rfl, ?_, ?_, ?_, ?_, ?_⟩, ?_⟩) (fun hge => .inl ⟨_, rfl, rfl, ?_, ?_, ?_⟩) <;> simp only <;> omega
  · exact ⟨rfl, by simp only; omega, by simp only; omega, by simp only; omega, by simp only; omega, rfl⟩
  · simp only; omega
theorem S.l20Net_q5 {x1 x5 x7 rp : Int} {rb r : List Int} (hb : Bytes rb) (hl : rb.length ≤ 2000) (h0 : 0 ≤ rp) (h1 : rp ≤ 1099511600000) (hx : 0 ≤ x5) (h5 : x5 = r.length) (h6 : x5 ≤ 6) :
    ∃ d, S.l20Net_run5 x1 x5 x7 FUEL (0, rb, rp, r) = some d ∧ d.1 = rb ∧ rp ≤ d.2.1 ∧ d.2.1 ≤ rp + 100 ∧ d.2.2.length = r.length := by
  refine run_post (run := S.l20Net_run5 x1 x5 x7) (fun s => s.2.1 = rb ∧ 0 ≤ s.1 ∧ s.1 ≤ x5 ∧ rp ≤ s.2.2.1 ∧ s.2.2.1 ≤ rp + 12 * s.1 ∧ s.2.2.2.length = r.length) (fun s => (x5 - s.1).toNat) (fun d => d.1 = rb ∧ rp ≤ d.2.1 ∧ d.2.1 ≤ rp + 100 ∧ d.2.2.length = r.length) ?_ ?_ ?_
  · rintro n ⟨x8, rb', rp', r'⟩ ⟨i0, i1, i2, i3, i4, i5⟩
    simp only at i0 i1 i2 i3 i4 i5
    subst i0
    simp only [S.l20Net_run5, S.l20Net_step5]
    by_cases hlt : x8 < x5
    · rw [cnd_t (by simpa using hlt)]
      obtain ⟨⟨d1, d2, d3⟩, e1, e2, e3, e4, e5⟩ := S.l20Net_q8 (x1 := x1) (x5 := x5) (x7 := x7) (x8 := x8) (r := r') hb hl (by omega : 0 ≤ rp') (by omega) i1 (by omega) (by omega) (by omega)
      simp only at e2 e3 e4 e5
      rw [e1]
      simp only [optC]
      rw [i64_wrap (n := x8 + 1) (by omega) (by omega)]
      refine .inr ⟨_, rfl, ⟨e2, ?_, ?_, ?_, ?_, ?_⟩, ?_⟩ <;> simp only <;> omega
    · rw [cnd_f (by simpa using hlt)]
      refine .inl ⟨_, rfl, rfl, ?_, ?_, ?_⟩ <;> simp only <;> omega
  · exact ⟨rfl, by simp only; omega, by simp only; omega, by simp only; omega, by simp only; omega, rfl⟩
  · simp only; omega
theorem S.l20Rd_odd_is {rb : List Int} {rp n : Int} (hb : Bytes rb) (hl : rb.length ≤ 2000) (h0 : 0 ≤ rp) (h1 : rp ≤ 1099511627776) :
    ∃ b rp', S.l20Rd_odd_t rb rp n = some (b, rb, rp') ∧ rp ≤ rp' ∧ rp' ≤ rp + 1 := by
  unfold S.l20Rd_odd_t S.l20Rd_odd_tree
  by_cases hn : n > 0
  · rw [cnd_t (by simpa using hn)]
    obtain ⟨v, hv, _, _⟩ := S.l20Rd_pick_is (n := n) hb hl h0 h1
    rw [hv]
    exact ⟨_, rp + 1, rfl, by omega, by omega⟩
  · rw [cnd_f (by simpa using hn)]
    exact ⟨_, rp, rfl, by omega, by omega⟩
theorem S.l20Net_is {rb : List Int} {rp n : Int} (hb : Bytes rb) (hl : rb.length ≤ 2000) (h0 : 0 ≤ rp) (h1 : rp ≤ 1000000) :
    ∃ rp' net, S.l20Net_t rb rp n = some (rb, rp', net) ∧ rp ≤ rp' ∧ rp' ≤ rp + 200 ∧ net.length ≤ 6 := by
  unfold S.l20Net_t
  have gen : ∀ {α : Type} (P : α → Prop) (leaf : (List Int) × Int × (List Int) → α) (fail : α), (∀ rp' net, rp ≤ rp' → rp' ≤ rp + 200 → net.length ≤ 6 → P (leaf (rb, rp', net))) → P (S.l20Net_tree rb rp n leaf fail) := by
    intro α P leaf fail hleaf
    unfold S.l20Net_tree
    obtain ⟨v1, e1, a1, a2⟩ := S.l20Rd_pick_is (n := 6) hb hl h0 (by omega)
    have a2' := a2 (by decide)
    rw [e1]
    simp only [optC]
    rw [i64_wrap (n := 1 + v1) (by omega) (by omega)]
    rw [cnd_t (by simp [small]; omega)]
    obtain ⟨v2, e2, _, _⟩ := S.l20Rd_pick_is (n := 4) (rp := rp + 1) hb hl (by omega) (by omega)
    rw [e2]
    simp only
    obtain ⟨⟨d1, d2, d3⟩, e3, f1, f2, f3, f4⟩ := S.l20Net_q5 (x1 := n) (x5 := 1 + v1) (x7 := v2) (rp := rp + 1 + 1) (r := List.replicate (1 + v1).toNat 0) hb hl (by omega) (by omega) (by omega) (by simp; omega) (by omega)
    simp only at f1 f2 f3 f4
    subst f1
    rw [e3]
    simp only [List.length_replicate] at f4 ⊢
    obtain ⟨b, rp4, e4, g1, g2⟩ := S.l20Rd_odd_is (n := n) (rp := d2) hb hl (by omega) (by omega)
    rw [e4]
    simp only
    obtain ⟨v5, e5, _, _⟩ := S.l20Rd_pick_is (n := 3) (rp := rp4) hb hl (by omega) (by omega)
    rw [e5]
    simp only
    have e6 : IntKind.i64.wrap (1 + v1 - 1) = v1 := by rw [i64_wrap (by omega) (by omega)]; omega
    rw [e6]
    repeat' first
      | exact hleaf _ _ (by omega) (by omega) (by (try simp only [List.length_set, List.length_nil]); omega)
      | rw [cnd_t (by simp; omega)]
      | rw [cnd_f (by simp; omega)]
      | refine cnd_case (P := P) (fun _ => ?_) (fun _ => ?_)
  exact gen (fun t => ∃ rp' net, t = some (rb, rp', net) ∧ rp ≤ rp' ∧ rp' ≤ rp + 200 ∧ net.length ≤ 6) (fun d => some d) none (fun rp' net a b c => ⟨rp', net, rfl, a, b, c⟩)
theorem S.l20Open_is {code : List Int} (hb : Bytes code) : ∃ rb, S.l20Open_t code = some (rb, 0) ∧ Bytes rb ∧ rb.length ≤ 2000 := by
  unfold S.l20Open_t S.l20Open_tree
  by_cases h : (code.length : Int) > 2000
  · rw [cnd_t (by simpa using h), cnd_t (by simp; omega)]
    refine ⟨_, rfl, fun n hn => hb n ?_, ?_⟩
    · exact List.mem_of_mem_drop (List.mem_of_mem_take hn)
    · rw [List.length_take]; exact Nat.min_le_left _ _
  · rw [cnd_f (by simpa using h)]
    exact ⟨_, rfl, hb, by omega⟩
end Go.Proofs.Ytlamfgocbekgpaa
/- What the draws give: nets of at most six places, sets and places within bounds. Conditions: those of each theorem. -/
namespace Go.Proofs.Ytlamfgocbekgpaa
open D Go.RowKit
set_option linter.unusedVariables false
set_option linter.unusedSimpArgs false


theorem I.NetOk_12 : I.NetOk_t [2, 1] = some true := by rw [I.NetOk_is]; decide +kernel
theorem I.NetOk_1 : I.NetOk_t [1] = some false := by rw [I.NetOk_is]; decide +kernel
theorem L.alive_is : L.alive_t = some true := by
  unfold L.alive_t L.alive_tree
  rw [I.NetOk_12, I.NetOk_1]
  rfl
theorem tdiv_small {v a : Int} (h0 : 0 ≤ v) (h1 : v ≤ a) : v.tdiv a = 0 ∨ v.tdiv a = 1 := by
  have ha : 0 ≤ a := by omega
  rw [Int.tdiv_eq_ediv_of_nonneg h0]
  rcases Int.lt_or_eq_of_le h1 with h | h
  · exact .inl (Int.ediv_eq_zero_of_lt h0 h)
  · subst h
    by_cases hz : v = 0
    · subst hz; exact .inl rfl
    · exact .inr (Int.ediv_self hz)
/-! ### The draws of the laws -/
end Go.Proofs.Ytlamfgocbekgpaa
/- Draws that use watches; lists of all numbers of a kind. Conditions: those of each theorem. -/
namespace Go.Proofs.Ytlamfgocbekgpaa
open D Go.RowKit
set_option linter.unusedVariables false
set_option linter.unusedSimpArgs false


end Go.Proofs.Ytlamfgocbekgpaa
/- Draws of chapters 3 to 5. Conditions: those of each theorem. -/
namespace Go.Proofs.Ytlamfgocbekgpaa
open D Go.RowKit
set_option linter.unusedVariables false
set_option linter.unusedSimpArgs false


end Go.Proofs.Ytlamfgocbekgpaa
/- The model's functions of chapter 6 in natural numbers, and draws. Conditions: those of each theorem. -/
namespace Go.Proofs.Ytlamfgocbekgpaa
open D Go.RowKit
set_option linter.unusedVariables false
set_option linter.unusedSimpArgs false


/-- The least size of sets of a kind; -1 if there is none. -/
def minStep (p : Nat → Bool) (t : Int) (s : Nat) : Int := if p s = true then (if t < 0 then ((size s : Nat) : Int) else if ((size s : Nat) : Int) < t then ((size s : Nat) : Int) else t) else t
def minI (net : List Int) (p : Nat → Bool) : Int := fold (2 ^ net.length) (minStep p) (-1)
/-- Does a set stand together? -/
noncomputable def together (net : List Int) (s : Nat) : Bool := @decide (Together net s) (Classical.propDecidable _)
noncomputable def joined (net : List Int) (s : Nat) : Bool := together net s && W net s
end Go.Proofs.Ytlamfgocbekgpaa
/- MostLeaves of the model. Conditions: those of each theorem. -/
namespace Go.Proofs.Ytlamfgocbekgpaa
open D Go.RowKit
set_option linter.unusedVariables false
set_option linter.unusedSimpArgs false


theorem sumN_front (n : Nat) (f : Nat → Nat) : sumN (n + 1) f = f 0 + sumN n (fun k => f (k + 1)) := by
  induction n with
  | zero => show 0 + f 0 = f 0 + 0; omega
  | succ n ih =>
    show sumN (n + 1) f + f (n + 1) = f 0 + (sumN n (fun k => f (k + 1)) + f (n + 1))
    rw [ih]; omega
theorem cnt_half {s : Nat} (hs : s < 2 ^ 15) : cnt 15 (fun k => s.testBit k) = s % 2 + cnt 15 (fun k => (s / 2).testBit k) := by
  have e1 : cnt 15 (fun k => s.testBit k) = (s.testBit 0).toNat + cnt 14 (fun k => s.testBit (k + 1)) := by unfold cnt; exact sumN_front 14 _
  have e2 : cnt 15 (fun k => (s / 2).testBit k) = cnt 14 (fun k => (s / 2).testBit k) := cnt_more (by omega) fun k hk => Nat.testBit_lt_two_pow (Nat.lt_of_lt_of_le (by omega : s / 2 < 2 ^ 14) (Nat.pow_le_pow_right (by omega) hk))
  rw [e1, e2, cnt_congr (q := fun k => (s / 2).testBit k) (fun k _ => by rw [Nat.testBit_succ])]
  congr 1
  rw [Nat.testBit_zero]
  have : s % 2 = 0 ∨ s % 2 = 1 := by omega
  rcases this with e | e <;> rw [e] <;> rfl
theorem S.l1Size_w {s : Nat} (hs : s < 2 ^ 15) : S.l1Size_t s = some ((cnt 15 (fun k => s.testBit k) : Nat) : Int) := by
  unfold S.l1Size_t S.l1Size_tree
  have : S.l1Size_run2 FUEL ((s : Int), 0) = some ((cnt 15 (fun k => s.testBit k) : Nat) : Int) := by
    have hc := cnt_le 15 (fun k => s.testBit k)
    refine run_fuel (run := S.l1Size_run2) (fun q => ∃ a t : Nat, q = ((a : Int), (t : Int)) ∧ a < 2 ^ 15 ∧ t + cnt 15 (fun k => a.testBit k) = cnt 15 (fun k => s.testBit k)) (fun q => q.1.toNat) (fun _ => ((cnt 15 (fun k => s.testBit k) : Nat) : Int)) ?_ ⟨s, 0, rfl, hs, by omega⟩ (by simp only [Int.toNat_natCast]; omega)
    rintro n _ ⟨a, t, rfl, ha, ht⟩
    simp only [S.l1Size_run2, S.l1Size_step2]
    by_cases h0 : a = 0
    · subst h0
      left
      rw [cnd_f (by simp)]
      have e0 : cnt 15 (fun k => (0 : Nat).testBit k) = 0 := by decide
      rw [← ht, e0]; rfl
    · right
      have h1 := cnt_half ha
      rw [cnd_t (by simp; omega), div2_nat (by omega), tmod2_nat, add_nat (by omega)]
      exact ⟨_, rfl, ⟨_, _, rfl, by omega, by omega⟩, by simp only [Int.toNat_natCast]; omega, trivial⟩
  rw [this]; rfl
def wl (L : List (Nat × Nat)) : List (List Int) := L.map fun p => [(p.1 : Int), (p.2 : Int)]
theorem wl_len (L : List (Nat × Nat)) : (wl L).length = L.length := by simp [wl]
theorem wl_app (L : List (Nat × Nat)) (a b : Nat) : wl (L ++ [(a, b)]) = wl L ++ [[(a : Int), (b : Int)]] := by simp [wl]
theorem wl_at {L : List (Nat × Nat)} {i : Nat} (hi : i < L.length) : D.elr (wl L) i = [((pt L i).1 : Int), ((pt L i).2 : Int)] := by
  unfold D.elr wl pt
  simp [List.getD, hi]
theorem S.l6Wires_n {net : List Int} (h : Ok net) : S.l6Wires_t net = some (wl (pairs net)) := by
  unfold S.l6Wires_t S.l6Wires_tree
  have h6 := h.hi
  have := (run_for (run := S.l6Wires_run3 net) (len := net.length) (fun k (t : List (Nat × Nat)) => ((k : Int), wl t)) (pairRow net) (fun t => wl t) (fun k t => t.length ≤ 6 * k) (by omega) (fun n k t hk ht => ?_) (fun n t ht => ?_) (t0 := []) (by simp)).1
  · exact congrArg (fun o => optC o (fun q => some q) none) this
  · have hlt := h.lt64 hk
    have inner := run_for (run := S.l6Wires_run6 net (k : Int)) (len := net.length - (k + 1)) (fun i (t : List (Nat × Nat)) => (((k + 1 + i : Nat) : Int), wl t)) (pairStep net k) (fun t => wl t) (fun i u => u.length ≤ t.length + i) (by omega) (fun n i u hi hu => ?_) (fun n u hu => ?_) (t0 := t) (Nat.le_refl _)
    · obtain ⟨e, hlen⟩ := inner
      simp only [S.l6Wires_run3, S.l6Wires_step3]
      rw [cnd_t (by rw [decide_eq_true_eq]; omega), add1_nat (by omega), show S.l6Wires_run6 net (k : Int) FUEL (((k + 1 : Nat) : Int), wl t) = _ from e]
      exact ⟨rfl, Nat.le_trans hlen (by omega)⟩
    · simp only [S.l6Wires_run6, S.l6Wires_step6]
      rw [cnd_t (by rw [decide_eq_true_eq]; omega), cnd_t (by simp only [Bool.and_eq_true, decide_eq_true_eq]; omega), cnd_f (by rw [decide_eq_false_iff_not]; omega), show D.eli net (k : Int).toNat = (nb net k : Int) by rw [Int.toNat_natCast]; exact h.eli hk, bit_shr _ _ (by omega), bool_eq1, add1_nat (by omega)]
      unfold pairStep
      cases hb : (nb net k).testBit (k + 1 + i) with
      | false => rw [cond_false, if_neg (by simp)]; exact ⟨rfl, by omega⟩
      | true =>
        rw [cond_true, cnd_t (small_of (by rw [List.length_append, wl_len]; simp; omega)), if_pos rfl, wl_app]
        exact ⟨rfl, by rw [List.length_append]; simp; omega⟩
    · simp only [S.l6Wires_run6, S.l6Wires_step6]
      rw [cnd_f (by rw [decide_eq_false_iff_not]; omega)]
  · simp only [S.l6Wires_run3, S.l6Wires_step3]
    rw [cnd_f (by rw [decide_eq_false_iff_not]; omega)]
def mostLeaves (net : List Int) : Int := if net.length < 2 then -1 else fold (2 ^ (pairs net).length) (lfStep net) (-1)
end Go.Proofs.Ytlamfgocbekgpaa
/- The model's functions of chapter 7 in natural numbers. Conditions: those of each theorem. -/
namespace Go.Proofs.Ytlamfgocbekgpaa
open D Go.RowKit
set_option linter.unusedVariables false
set_option linter.unusedSimpArgs false


/-- The number at a place of a row. -/
def rv (row : List Int) (k : Nat) : Nat := (D.eli row k).toNat
def rowB (n : Nat) (row : List Int) : Bool := decide (row.length = n) && (List.range row.length).all fun k => decide (0 ≤ D.eli row k ∧ D.eli row k ≤ 2)
structure RowIs (n : Nat) (row : List Int) : Prop where
  len : row.length = n
  eq : ∀ k, k < n → D.eli row k = (rv row k : Int)
  le : ∀ k, k < n → rv row k ≤ 2
def romanB (net row : List Int) : Bool := (List.range net.length).all fun k => !(rv row k == 0 && (nb net k &&& withN net.length (rv row) 2) == 0)
def italianB (net row : List Int) : Bool := (List.range net.length).all fun k => !(rv row k == 0 && decide (help net (rv row) k < 2))
/-- The row of the digits of a number. -/
def digs (n m : Nat) : List Int := (List.range n).map fun k => ((dig n m k : Nat) : Int)
/-- The first least row of a kind, and the least sum. -/
def rowStep (n : Nat) (p : List Int → Bool) (best : List Int) (m : Nat) : List Int := if p (digs n m) = true ∧ (best.length = 0 ∨ sumN n (rv (digs n m)) < sumN n (rv best)) then digs n m else best
def bestRow (n : Nat) (p : List Int → Bool) : List Int := fold (3 ^ n) (rowStep n p) []
theorem roman_congr {net : List Int} {r q : Nat → Nat} (h : ∀ k, k < net.length → r k = q k) (hr : RomanP net r) : RomanP net q := fun k hk h0 => by
  obtain ⟨j, hj, a, b⟩ := hr k hk (by rw [h k hk]; exact h0)
  exact ⟨j, hj, a, by rw [← h j hj]; exact b⟩
/-- The least Roman row. -/
structure FirstRoman (net : List Int) (b : Nat) : Prop where
  lt : b < 3 ^ net.length
  roman : RomanP net (dig net.length b)
  le : ∀ m, m < 3 ^ net.length → RomanP net (dig net.length m) → sumN net.length (dig net.length b) ≤ sumN net.length (dig net.length m)
  first : ∀ m, m < b → RomanP net (dig net.length m) → sumN net.length (dig net.length b) < sumN net.length (dig net.length m)
theorem FirstRoman.uniq {net : List Int} {a b : Nat} (ha : FirstRoman net a) (hb : FirstRoman net b) : a = b := by
  have h1 := ha.le b hb.lt hb.roman
  have h2 := hb.le a ha.lt ha.roman
  rcases Nat.lt_trichotomy a b with hl | hl | hl
  · have := hb.first a hl ha.roman; omega
  · exact hl
  · have := ha.first b hl hb.roman; omega
theorem FirstRoman.min {net : List Int} {b : Nat} (hb : FirstRoman net b) : MinRow net.length (RomanP net) (sumN net.length (dig net.length b)) := by
  refine ⟨⟨dig net.length b, fun k _ => dig_lt _ _ _, hb.roman, rfl⟩, fun r hr hR => ?_⟩
  obtain ⟨m, hm, hd⟩ := dig_all hr
  have h1 := hb.le m hm (roman_congr (fun k hk => (hd k hk).symm) hR)
  rw [sumN_congr (f := dig net.length m) hd] at h1
  exact h1
def fewestRoman (net : List Int) : Nat := sumN net.length (rv (bestRow net.length (romanB net)))
def fewestItalian (net : List Int) : Nat := fold (3 ^ net.length) (fun t m => if italianB net (digs net.length m) = true then (if sumN net.length (rv (digs net.length m)) < t then sumN net.length (rv (digs net.length m)) else t) else t) net.length
/-- The row of a set. -/
def rowOf (net : List Int) (s : Nat) : List Int := fold net.length (fun l k => l ++ [((rowOfN net s k : Nat) : Int)]) []
def rowOfI (net : List Int) (s : Int) : List Int := if 0 ≤ s ∧ s < 2 ^ net.length then rowOf net s.toNat else []
end Go.Proofs.Ytlamfgocbekgpaa
/- The model's functions of chapter 8 in natural numbers. Conditions: those of each theorem. -/
namespace Go.Proofs.Ytlamfgocbekgpaa
open D Go.RowKit
set_option linter.unusedVariables false
set_option linter.unusedSimpArgs false


/-- Can a guard come? -/
def canB (net : List Int) (s t : Nat) : Bool := (List.range net.length).any fun f => s.testBit f && ((nb net t).testBit f && W net (moved s f t))
def secureB (net : List Int) (s : Nat) : Bool := W net s && (List.range net.length).all fun k => !(!s.testBit k && !canB net s k)
def fewestSecure (net : List Int) : Nat := minSize net (secureB net)
def leaveB (net : List Int) (r : Nat → Nat) (p : Nat) : Bool := (List.range net.length).any fun f => decide (1 ≤ r f) && ((nb net p).testBit f && W net (withN net.length (leave r f p) 1))
def weakB (net row : List Int) : Bool := (List.range net.length).all fun k => !(rv row k == 0 && !leaveB net (rv row) k)
def fewestWeak (net : List Int) : Nat := fold (3 ^ net.length) (fun t m => if weakB net (digs net.length m) = true then (if sumN net.length (rv (digs net.length m)) < t then sumN net.length (rv (digs net.length m)) else t) else t) net.length
end Go.Proofs.Ytlamfgocbekgpaa
/- The model's functions of chapter 9 in natural numbers. Conditions: those of each theorem. -/
namespace Go.Proofs.Ytlamfgocbekgpaa
open D Go.RowKit
set_option linter.unusedVariables false
set_option linter.unusedSimpArgs false


/-- Can this guard come, so that a set of the list is there? -/
def ansP (net : List Int) (l : List Bool) (s t f : Nat) : Bool := s.testBit f && ((nb net t).testBit f && D.elb l (moved s f t))
def ansI (net : List Int) (l : List Bool) (s t : Nat) : Int := (find net.length (fun f => if ansP net l s t f = true then some (f : Int) else none)).getD (-1)
def holdsB (net : List Int) (l : List Bool) (s : Nat) : Bool := ((List.range net.length).all fun k => !(!s.testBit k && decide (ansI net l s k < 0))) && D.elb l s
noncomputable def eternalB (net : List Int) (s : Nat) : Bool := @decide (Eternal net s) (Classical.propDecidable _)
noncomputable def lasts (net : List Int) : List Bool := (List.range (2 ^ net.length)).map (eternalB net)
noncomputable def fewestEternal (net : List Int) : Nat := minSize net (eternalB net)
/-- The answer of an eternal set. -/
noncomputable def answerI (net : List Int) (s p : Int) : Int := if (0 ≤ s ∧ s < 2 ^ net.length) ∧ (0 ≤ p ∧ p < net.length) ∧ eternalB net s.toNat = true ∧ s.toNat.testBit p.toNat = false then ansI net (lasts net) s.toNat p.toNat else -1
end Go.Proofs.Ytlamfgocbekgpaa
/- The model's functions of chapter 10 in natural numbers. Conditions: those of each theorem. -/
namespace Go.Proofs.Ytlamfgocbekgpaa
open D Go.RowKit
set_option linter.unusedVariables false
set_option linter.unusedSimpArgs false


/-- The guards from a place on fit into a set. -/
def FitP (net : List Int) (f a l : Nat) : Prop := ∃ g : Nat → Nat, (∀ i, a ≤ i → f.testBit i = true → l.testBit (g i) = true ∧ (ball net i).testBit (g i) = true) ∧ ∀ i j, a ≤ i → a ≤ j → f.testBit i = true → f.testBit j = true → g i = g j → i = j
noncomputable def fitB (net : List Int) (f a l : Nat) : Bool := @decide (FitP net f a l) (Classical.propDecidable _)
noncomputable def allMoveB (net : List Int) (a b : Nat) : Bool := size a == size b && fitB net a 0 b
def ansAP (net : List Int) (l : List Bool) (fit : Nat → Bool) (s p u : Nat) : Bool := D.elb l u && (u.testBit p && (size u == size s && fit u))
noncomputable def ansA (net : List Int) (l : List Bool) (s p : Nat) : Int := (find (2 ^ net.length) (fun u => if ansAP net l (fitB net s 0) s p u = true then some (u : Int) else none)).getD (-1)
noncomputable def badA (net : List Int) (l : List Bool) (s k : Nat) : Bool := !s.testBit k && decide (ansA net l s k < 0)
noncomputable def holdsA (net : List Int) (l : List Bool) (s : Nat) : Bool := !((List.range net.length).any (badA net l s))
noncomputable def inStep (net : List Int) (s : Nat) (t : Bool × List Bool) (k : Nat) : Bool × List Bool := if (D.elb t.2 s && badA net t.2 s k) = true then (true, t.2.set s false) else t
noncomputable def allEternalB (net : List Int) (s : Nat) : Bool := @decide (AllEternal net s) (Classical.propDecidable _)
noncomputable def lastsA (net : List Int) : List Bool := (List.range (2 ^ net.length)).map (allEternalB net)
noncomputable def fewestAllEternal (net : List Int) : Nat := minSize net (allEternalB net)
/-- The answer of a set that all can keep up. -/
noncomputable def allAnswerI (net : List Int) (s p : Int) : Int := if (0 ≤ s ∧ s < 2 ^ net.length) ∧ (0 ≤ p ∧ p < net.length) ∧ allEternalB net s.toNat = true ∧ s.toNat.testBit p.toNat = false then ansA net (lastsA net) s.toNat p.toNat else -1
end Go.Proofs.Ytlamfgocbekgpaa
/- Other ways to the sets and numbers of chapters 3 to 5. Conditions: those of each theorem. -/
namespace Go.Proofs.Ytlamfgocbekgpaa
set_option linter.unusedVariables false
set_option linter.unusedSimpArgs false

theorem fold_near (net : List Int) (s : Nat) : fold net.length (fun t k => if s.testBit k = true then t ||| nb net k else t) 0 = near net s := rfl
def minStepN (p : Nat → Bool) (t s : Nat) : Nat := if p s = true then (if size s < t then size s else t) else t
def maxStepN (p : Nat → Bool) (t s : Nat) : Nat := if p s = true then (if size s > t then size s else t) else t
theorem maxStepN_lt {p : Nat → Bool} {t s : Nat} (hl : size s > t) : maxStepN p t s = if p s = true then size s else t := by unfold maxStepN; rw [if_pos hl]
theorem maxStepN_ge {p : Nat → Bool} {t s : Nat} (hl : ¬ size s > t) : maxStepN p t s = t := by unfold maxStepN; rw [if_neg hl, ite_self]
theorem maxStepN_le {p : Nat → Bool} {t s : Nat} (ht : t ≤ 6) : maxStepN p t s ≤ 6 := by
  have := size_le s
  unfold maxStepN; split
  · split <;> omega
  · exact ht
end Go.Proofs.Ytlamfgocbekgpaa
/- The model's functions of chapter 13 in natural numbers: cliques and the other net. Conditions: those of each theorem. -/
namespace Go.Proofs.Ytlamfgocbekgpaa
open D Go.RowKit
set_option linter.unusedVariables false
set_option linter.unusedSimpArgs false


def cliqueB (net : List Int) (s : Nat) : Bool := (List.range net.length).all fun k => !(s.testBit k && (minus s (ball net k) != 0))
/-- Does a list of numbers begin with a row that counts up? -/
def rgStep (row : List Int) (t k : Nat) : Unit ⊕ Nat := if 0 ≤ D.eli row k ∧ D.eli row k ≤ t then .inr (max t ((D.eli row k).toNat + 1)) else .inl ()
noncomputable def crB (net row : List Int) : Bool := @decide (∃ q : List Nat, row = nl q ∧ q.length = net.length ∧ RG q ∧ CliqueL net q) (Classical.propDecidable _)
/-- The row that a call hands back. -/
def outOf : (List Int) ⊕ ((List Int) × (List Int)) → List Int
  | .inl r => r
  | .inr p => p.2
def rowO : Option (List Nat) → List Int
  | none => []
  | some q => nl q
def findStep {Q : Type} (g : Nat → Option Q) (_ : Unit) (v : Nat) : Q ⊕ Unit := match g v with | some q => .inl q | none => .inr ()
theorem loopE_find {Q : Type} (g : Nat → Option Q) : ∀ b, (∃ q, find b g = some q ∧ loopE b (findStep g) () = .inl q) ∨ (find b g = none ∧ loopE b (findStep g) () = .inr ()) := by
  intro b
  induction b with
  | zero => exact .inr ⟨rfl, rfl⟩
  | succ b ih =>
    rcases ih with ⟨q, a1, a2⟩ | ⟨a1, a2⟩
    · refine .inl ⟨q, by rw [find_succ, a1]; rfl, ?_⟩
      unfold loopE at a2 ⊢; rw [fold_succ, a2]
    · rw [find_succ, a1, loopE_succ a2]
      unfold findStep
      cases g b with
      | some q => exact .inl ⟨q, rfl, rfl⟩
      | none => exact .inr ⟨rfl, rfl⟩
/-- The first row of a kind. -/
noncomputable def firstOf (P : List Nat → Prop) : List Nat := @dite _ (∃ q, IsFirst P q) (Classical.propDecidable _) (fun h => h.choose) (fun _ => [])
noncomputable def clRow (net : List Int) : List Nat := firstOf (CRow net (fewestCl net))
theorem minus_all_dec : ∀ n : Fin 7, ∀ b : Fin 64, b.val < 2 ^ n.val → minus (2 ^ n.val - 1) b.val = 2 ^ n.val - 1 - b.val := by decide +kernel
theorem or_pow_dec : ∀ b : Fin 64, ∀ k : Fin 6, b.val.testBit k.val = false → b.val ||| 2 ^ k.val = b.val + 2 ^ k.val := by decide +kernel
theorem other_num {net : List Int} (h : Ok net) {k : Nat} (hk : k < net.length) : nb net k + 2 ^ k ≤ allOf net ∧ allOf net - nb net k - 2 ^ k = minus (allOf net) (ball net k) := by
  have h6 := h.hi
  have hb := h.ball_lt hk
  have h64 := h.pow
  have e1 : ball net k = nb net k + 2 ^ k := or_pow_dec ⟨nb net k, h.lt64 hk⟩ ⟨k, by omega⟩ (h.irr k hk)
  have e2 : minus (allOf net) (ball net k) = allOf net - ball net k := minus_all_dec ⟨net.length, by omega⟩ ⟨ball net k, by omega⟩ hb
  rw [e2, e1]
  rw [e1] at hb
  unfold allOf
  omega
theorem S.OtherNet_y {net : List Int} (h : Ok net) (e : S.NetOk_t net = some true) : S.OtherNet_t net = some (otherN net) := by
  have h6 := h.hi
  have h64 := h.pow
  unfold S.OtherNet_t S.OtherNet_tree
  have := (run_for (run := S.OtherNet_run3 net) (len := net.length) (fun k (t : Unit) => ((k : Int), (List.range k).map fun k => ((minus (allOf net) (ball net k) : Nat) : Int))) (fun t k => t) (fun t => otherN net) (fun k t => True) (by omega) (fun f k t hk ht => ?_) (fun f t ht => ?_) (t0 := ()) trivial).1
  · exact congrArg (fun o => optC o (fun q => some q) none) this
  · obtain ⟨hle, hnum⟩ := other_num h hk
    have hall := allOf_succ net
    have h2k : 2 ^ k < 2 ^ 6 := Nat.pow_lt_pow_right (by omega) (by omega)
    have h2p : 0 < 2 ^ k := Nat.two_pow_pos k
    simp only [S.OtherNet_run3, S.OtherNet_step3]
    rw [cnd_t (by simp; omega), e]
    simp only [optC, cond_true]
    rw [cnd_t (by simp; omega), cnd_f (by simp), all_shl h, one_shl (by omega), Int.toNat_natCast, h.eli hk, sub_nat (by omega) (by omega), sub_nat (by omega) (by omega), hnum, add1_nat (by omega),
      cnd_t (by simp [small]; omega)]
    refine ⟨?_, trivial⟩
    rw [List.range_succ, List.map_append]
    rfl
  · simp only [S.OtherNet_run3, S.OtherNet_step3]
    rw [cnd_f (by simp)]
    rfl
end Go.Proofs.Ytlamfgocbekgpaa
/- The model's functions of chapter 16 in natural numbers: wires cut and joined. Conditions: those of each theorem. -/
namespace Go.Proofs.Ytlamfgocbekgpaa
open D Go.RowKit
set_option linter.unusedVariables false
set_option linter.unusedSimpArgs false


def pairI (net : List Int) (a b : Int) : Bool := decide (0 ≤ a ∧ a < net.length) && (decide (0 ≤ b ∧ b < net.length) && (a != b))
theorem S.l16Pair_x {net : List Int} (e : S.NetOk_t net = some false) (a b : Int) : S.l16Pair_t net a b = some false := by
  unfold S.l16Pair_t S.l16Pair_tree; rw [e]; rfl
theorem S.l16Pair_n {net : List Int} (h : Ok net) (e : S.NetOk_t net = some true) (a b : Int) : S.l16Pair_t net a b = some (pairI net a b) := by
  unfold S.l16Pair_t S.l16Pair_tree pairI
  rw [e, S.l1In_is, l1In_place h]
  simp only [optC, cond_true]
  cases decide (0 ≤ a ∧ a < net.length) with
  | false => rfl
  | true =>
    rw [cond_true, S.l1In_is, l1In_place h]
    simp only
    cases decide (0 ≤ b ∧ b < net.length) <;> rfl
theorem pairI_cases (net : List Int) (a b : Int) : (∃ u v : Nat, a = (u : Int) ∧ b = (v : Int) ∧ u < net.length ∧ v < net.length ∧ u ≠ v ∧ pairI net a b = true) ∨ pairI net a b = false := by
  unfold pairI
  by_cases ha : 0 ≤ a ∧ a < net.length
  · by_cases hb : 0 ≤ b ∧ b < net.length
    · by_cases hab : a = b
      · right; rw [hab]; simp
      · left
        exact ⟨a.toNat, b.toNat, by omega, by omega, by omega, by omega, by omega, by rw [decide_eq_true ha, decide_eq_true hb]; simpa using hab⟩
    · right; rw [decide_eq_false hb]; simp
  · right; rw [decide_eq_false ha]; rfl
theorem set_el {T : List Int} {a b : Nat} (hb : b < T.length) (hab : a ≠ b) (v : Int) : D.eli (T.set a v) b = D.eli T b := by
  unfold D.eli
  simp [List.getD, List.getElem?_set, hab]
theorem S.l16Turned_n {net : List Int} (h : Ok net) {a b : Nat} (ha : a < net.length) (hb : b < net.length) (hab : a ≠ b) : S.l16Turned_t net (a : Int) (b : Int) = some (turnN net a b) := by
  unfold S.l16Turned_t S.l16Turned_tree
  have h6 := h.hi
  have hna := h.lt64 ha
  have hnb := h.lt64 hb
  have h2a : 2 ^ a < 2 ^ 6 := Nat.pow_lt_pow_right (by omega) (by omega)
  have h2b : 2 ^ b < 2 ^ 6 := Nat.pow_lt_pow_right (by omega) (by omega)
  rw [List.nil_append, cnd_t (small_of (by omega)), cnd_t (by rw [Bool.and_eq_true, decide_eq_true_eq, decide_eq_true_eq]; omega), cnd_t (by rw [decide_eq_true_eq]; omega), cnd_f (by simp), cnd_t (by rw [Bool.and_eq_true, decide_eq_true_eq, decide_eq_true_eq]; omega), cnd_t (by rw [decide_eq_true_eq]; omega)]
  rw [List.length_set, cnd_t (by rw [Bool.and_eq_true, decide_eq_true_eq, decide_eq_true_eq]; omega), cnd_t (by rw [decide_eq_true_eq]; omega), cnd_f (by simp), cnd_t (by rw [Bool.and_eq_true, decide_eq_true_eq, decide_eq_true_eq]; omega), cnd_t (by rw [decide_eq_true_eq]; omega)]
  rw [one_shl (by omega), one_shl (by omega), Int.toNat_natCast, Int.toNat_natCast, set_el hb hab, h.eli ha, h.eli hb, i64_xor_nat _ _ (by omega) (by omega), i64_xor_nat _ _ (by omega) (by omega)]
  unfold turnN
  rw [nb_set ha, if_neg (Ne.symm hab)]
/-- The net with the wire cut; no places if there is none. -/
def cutL (net : List Int) (a b : Int) : List Int := if (pairI net a b && (nb net a.toNat).testBit b.toNat) = true then turnN net a.toNat b.toNat else []
def joinL (net : List Int) (a b : Int) : List Int := if (pairI net a b && !(nb net a.toNat).testBit b.toNat) = true then turnN net a.toNat b.toNat else []
theorem S.WireCut_x {net : List Int} (e : S.NetOk_t net = some false) (a b : Int) : S.WireCut_t net a b = some [] := by
  unfold S.WireCut_t S.WireCut_tree; rw [S.l16Pair_x e]; rfl
theorem S.WireCut_n {net : List Int} (h : Ok net) (e : S.NetOk_t net = some true) (a b : Int) : S.WireCut_t net a b = some (cutL net a b) := by
  unfold S.WireCut_t S.WireCut_tree cutL
  have h6 := h.hi
  rw [S.l16Pair_n h e]
  simp only [optC]
  rcases pairI_cases net a b with ⟨u, v, rfl, rfl, hu, hv, huv, hp⟩ | hp
  · have hlt := h.lt64 hu
    rw [hp, Bool.not_true, cond_false, cnd_t (by rw [Bool.and_eq_true, decide_eq_true_eq, decide_eq_true_eq]; omega), cnd_f (by simp), Int.toNat_natCast, Int.toNat_natCast, h.eli hu, show ((nb net u : Nat) : Int).fdiv (2 ^ min v IntKind.i64.bits) = ((nb net u : Nat) : Int).fdiv (2 ^ min (v : Int).toNat IntKind.i64.bits) by rw [Int.toNat_natCast], bit_shr _ _ (by omega), bool_eq0]
    cases hb : (nb net u).testBit v with
    | true => simp only [Bool.not_true, cond_false, Bool.and_self, if_true]; rw [S.l16Turned_n h hu hv huv]
    | false => rfl
  · rw [hp]; rfl
theorem S.WireJoined_x {net : List Int} (e : S.NetOk_t net = some false) (a b : Int) : S.WireJoined_t net a b = some [] := by
  unfold S.WireJoined_t S.WireJoined_tree; rw [S.l16Pair_x e]; rfl
theorem S.WireJoined_n {net : List Int} (h : Ok net) (e : S.NetOk_t net = some true) (a b : Int) : S.WireJoined_t net a b = some (joinL net a b) := by
  unfold S.WireJoined_t S.WireJoined_tree joinL
  have h6 := h.hi
  rw [S.l16Pair_n h e]
  simp only [optC]
  rcases pairI_cases net a b with ⟨u, v, rfl, rfl, hu, hv, huv, hp⟩ | hp
  · have hlt := h.lt64 hu
    rw [hp, Bool.not_true, cond_false, cnd_t (by rw [Bool.and_eq_true, decide_eq_true_eq, decide_eq_true_eq]; omega), cnd_f (by simp), Int.toNat_natCast, Int.toNat_natCast, h.eli hu, show ((nb net u : Nat) : Int).fdiv (2 ^ min v IntKind.i64.bits) = ((nb net u : Nat) : Int).fdiv (2 ^ min (v : Int).toNat IntKind.i64.bits) by rw [Int.toNat_natCast], bit_shr _ _ (by omega), bool_eq1]
    cases hb : (nb net u).testBit v with
    | false => simp only [Bool.not_false, cond_false, Bool.and_self, if_true]; rw [S.l16Turned_n h hu hv huv]
    | true => rfl
  · rw [hp]; rfl
theorem S.l16Some_n {net : List Int} (h : Ok net) {P : List (Nat × Nat)} (hP : PairsOf net.length P) (hl : P.length ≤ 15) {x : Nat} (hx : x < 2 ^ 15) : S.l16Some_t net (wl P) (x : Int) = some (selN net P x) := by
  unfold S.l16Some_t S.l16Some_tree
  have h6 := h.hi
  have hwl := wl_len P
  rw [List.nil_append, cnd_t (small_of (by omega))]
  have := (run_for (run := S.l16Some_run3 (wl P) (x : Int)) (len := P.length) (fun k (t : List Int) => ((k : Int), t)) (selStep P x) (fun t => t) (fun k t => SelI net P x k t) (by omega) (fun n k t hk ht => ?_) (fun n t ht => ?_) (t0 := net) (selw_is h hP x 0 (Nat.zero_le _))).1
  · exact congrArg (fun o => optC o (fun q => some q) none) this
  · refine ⟨?_, sel_step hP hk ht⟩
    have hlt := hP.lt k hk
    have htl := ht.len
    simp only [S.l16Some_run3, S.l16Some_step3]
    rw [cnd_t (by rw [decide_eq_true_eq]; omega), cnd_f (by simp), bit_shr _ _ (by omega), bool_eq1, add1_nat (by omega)]
    unfold selStep
    cases hb : x.testBit k with
    | false => rfl
    | true =>
      have hat : D.elr (wl P) (k : Int).toNat = [((pt P k).1 : Int), ((pt P k).2 : Int)] := by rw [Int.toNat_natCast]; exact wl_at hk
      rw [cond_true, cnd_t (by rw [Bool.and_eq_true, decide_eq_true_eq, decide_eq_true_eq]; omega), hat, cnd_t (by rfl), cnd_t (by rw [Bool.and_eq_true, decide_eq_true_eq, decide_eq_true_eq]; omega), cnd_t (by rfl),
        show S.l16Turned_t t (D.eli [((pt P k).1 : Int), ((pt P k).2 : Int)] (Int.toNat 0)) (D.eli [((pt P k).1 : Int), ((pt P k).2 : Int)] (Int.toNat 1)) = some (turnN t (pt P k).1 (pt P k).2) from S.l16Turned_n ht.ok (by omega) (by omega) (by omega)]
      rfl
  · simp only [S.l16Some_run3, S.l16Some_step3]
    rw [cnd_f (by rw [decide_eq_false_iff_not]; omega)]
theorem cnt_short {L x : Nat} (hL : L ≤ 15) (hx : x < 2 ^ L) : cnt 15 (fun k => x.testBit k) = cnt L (fun k => x.testBit k) := cnt_more hL fun k hk => Nat.testBit_lt_two_pow (Nat.lt_of_lt_of_le hx (Nat.pow_le_pow_right (by omega) hk))
theorem fewest_le {net : List Int} (h : Ok net) : fewest net ≤ net.length := by
  obtain ⟨s, a, b, c⟩ := (fewest_few h).ex
  have := size_le_len h a
  omega
theorem netOkS_is {net : List Int} (h : Ok net) : S.NetOk_t net = some true := by
  rcases NetOk_cases net with ⟨_, _, g2⟩ | ⟨hn, _, _⟩
  · exact g2
  · exact absurd h hn
theorem S.FewestCuts_x {net : List Int} (e : S.NetOk_t net = some false) : S.FewestCuts_t net = some (-1) := by
  unfold S.FewestCuts_t S.FewestCuts_tree; rw [e]; rfl
theorem S.FewestCuts_y {net : List Int} (h : Ok net) (e : S.NetOk_t net = some true) : S.FewestCuts_t net = some (leastI (CutBy net)) := by
  have h6 := h.hi
  have hP := pairs_of h6
  obtain ⟨_, _, p3⟩ := pairs_is h6
  have hwl := wl_len (pairs net)
  have h15 : (2 : Nat) ^ (pairs net).length ≤ 2 ^ 15 := Nat.pow_le_pow_right (by omega) p3
  let q : Nat → Bool := fun x => decide (fewest net < fewest (selN net (pairs net) x))
  let c : Nat → Nat := fun x => cnt 15 (fun k => x.testBit k)
  have hl := (least_fold q c (2 ^ (pairs net).length)).congr (q := CutBy net) fun m => by
    rw [cut_sel h]
    constructor
    · rintro ⟨x, a, b, d⟩; exact ⟨x, a, by rw [← cnt_short p3 a]; exact d, by simpa [q] using b⟩
    · rintro ⟨x, a, b, d⟩; exact ⟨x, a, by simpa [q] using d, by show cnt 15 _ = m; rw [cnt_short p3 a]; exact b⟩
  rw [← hl.uniq (leastI_is _)]
  unfold S.FewestCuts_t S.FewestCuts_tree
  rw [e, S.l6Wires_n h, S.FewestWatch_y h e]
  simp only [optC, Bool.not_true, cond_false]
  have := (run_for (run := S.FewestCuts_run7 net ((fewest net : Nat) : Int)) (len := 2 ^ (pairs net).length) (fun k (t : Int) => (t, (k : Int), wl (pairs net))) (leastStep q c) (fun t => t) (fun k t => True) (by omega) (fun n k t hk ht => ?_) (fun n t ht => ?_) (t0 := -1) trivial).1
  · rw [show S.FewestCuts_run7 net ((fewest net : Nat) : Int) FUEL (-1, 0, wl (pairs net)) = _ from this]
  · refine ⟨?_, trivial⟩
    have hso := (selw_is h hP k _ (Nat.le_refl _)).ok
    have hfw : S.FewestWatch_t (selN net (pairs net) k) = some ((fewest (selN net (pairs net) k) : Nat) : Int) := S.FewestWatch_y hso (netOkS_is hso)
    have hc15 := cnt_le 15 (fun j => k.testBit j)
    simp only [S.FewestCuts_run7, S.FewestCuts_step7]
    rw [hwl, one_shl (by omega), cnd_t (by rw [decide_eq_true_eq]; omega), S.l16Some_n h hP p3 (by omega), S.l1Size_w (by omega), add1_nat (by omega)]
    simp only [optC]
    rw [hfw]
    simp only
    have hq : decide (((fewest (selN net (pairs net) k) : Nat) : Int) > ((fewest net : Nat) : Int)) = q k := by
      simp only [q]; rw [decide_eq_decide]; omega
    rw [hq]
    unfold leastStep
    by_cases ht0 : t < 0
    · rw [cnd_t (by simpa using ht0), if_pos ht0]
      cases q k <;> rfl
    · rw [cnd_f (by simpa using ht0), if_neg ht0]
      by_cases hlt : ((c k : Nat) : Int) < t
      · rw [cnd_t (by simpa [c] using hlt), if_pos hlt]
        cases q k <;> rfl
      · rw [cnd_f (by simpa [c] using hlt), if_neg hlt]
  · simp only [S.FewestCuts_run7, S.FewestCuts_step7]
    rw [hwl, one_shl (by omega), cnd_f (by rw [decide_eq_false_iff_not]; omega)]
theorem S.FewestJoins_x {net : List Int} (e : S.NetOk_t net = some false) : S.FewestJoins_t net = some (-1) := by
  unfold S.FewestJoins_t S.FewestJoins_tree; rw [e]; rfl
theorem S.FewestJoins_y {net : List Int} (h : Ok net) (e : S.NetOk_t net = some true) : S.FewestJoins_t net = some (leastI (JoinBy net)) := by
  have hF := FUEL_le
  have h6 := h.hi
  have ho := otherN_ok h
  have hol := otherN_len net
  have hP : PairsOf net.length (pairs (otherN net)) := by have := pairs_of ho.hi; rwa [hol] at this
  obtain ⟨_, _, p3⟩ := pairs_is ho.hi
  have hwl := wl_len (pairs (otherN net))
  have h15 : (2 : Nat) ^ (pairs (otherN net)).length ≤ 2 ^ 15 := Nat.pow_le_pow_right (by omega) p3
  unfold S.FewestJoins_t S.FewestJoins_tree
  rw [e, S.OtherNet_y h e]
  simp only [optC, Bool.not_true, cond_false]
  rw [S.l6Wires_n ho, S.FewestWatch_y h e]
  simp only
  by_cases h2 : 2 ≤ fewest net
  · let q : Nat → Bool := fun x => decide (fewest (selN net (pairs (otherN net)) x) < fewest net)
    let c : Nat → Nat := fun x => cnt 15 (fun k => x.testBit k)
    have hl := (least_fold q c (2 ^ (pairs (otherN net)).length)).congr (q := JoinBy net) fun m => by
      rw [join_sel h]
      constructor
      · rintro ⟨x, a, b, d⟩; exact ⟨x, a, by rw [← cnt_short p3 a]; exact d, by simpa [q] using b⟩
      · rintro ⟨x, a, b, d⟩; exact ⟨x, a, by simpa [q] using d, by show cnt 15 _ = m; rw [cnt_short p3 a]; exact b⟩
    rw [← hl.uniq (leastI_is _)]
    have := (run_for (run := S.FewestJoins_run7 net ((fewest net : Nat) : Int)) (len := 2 ^ (pairs (otherN net)).length) (fun k (t : Int) => (t, (k : Int), wl (pairs (otherN net)))) (leastStep q c) (fun t => t) (fun k t => True) (by omega) (fun n k t hk ht => ?_) (fun n t ht => ?_) (t0 := -1) trivial).1
    · rw [show S.FewestJoins_run7 net ((fewest net : Nat) : Int) FUEL (-1, 0, wl (pairs (otherN net))) = _ from this]
    · refine ⟨?_, trivial⟩
      have hso := (selw_is h hP k _ (Nat.le_refl _)).ok
      have hfw : S.FewestWatch_t (selN net (pairs (otherN net)) k) = some ((fewest (selN net (pairs (otherN net)) k) : Nat) : Int) := S.FewestWatch_y hso (netOkS_is hso)
      simp only [S.FewestJoins_run7, S.FewestJoins_step7]
      rw [cnd_t (by rw [decide_eq_true_eq]; omega), hwl, one_shl (by omega), cnd_t (by rw [decide_eq_true_eq]; omega), S.l16Some_n h hP p3 (by omega), S.l1Size_w (by omega), add1_nat (by omega)]
      simp only [optC]
      rw [hfw]
      simp only
      have hq : decide (((fewest (selN net (pairs (otherN net)) k) : Nat) : Int) < ((fewest net : Nat) : Int)) = q k := by
        simp only [q]; rw [decide_eq_decide]; omega
      rw [hq]
      unfold leastStep
      by_cases ht0 : t < 0
      · rw [cnd_t (by simpa using ht0), if_pos ht0]
        cases q k <;> rfl
      · rw [cnd_f (by simpa using ht0), if_neg ht0]
        by_cases hlt : ((c k : Nat) : Int) < t
        · rw [cnd_t (by simpa [c] using hlt), if_pos hlt]
          cases q k <;> rfl
        · rw [cnd_f (by simpa [c] using hlt), if_neg hlt]
    · simp only [S.FewestJoins_run7, S.FewestJoins_step7]
      rw [cnd_t (by rw [decide_eq_true_eq]; omega), hwl, one_shl (by omega), cnd_f (by rw [decide_eq_false_iff_not]; omega)]
  · have hj := joins_is h
    rw [if_neg h2] at hj
    rw [← hj.uniq (leastI_is _)]
    obtain ⟨n, hn⟩ : ∃ q, FUEL = q + 1 := ⟨FUEL - 1, by omega⟩
    rw [hn]
    simp only [S.FewestJoins_run7, S.FewestJoins_step7]
    rw [cnd_f (by rw [decide_eq_false_iff_not]; omega)]
def seenI (net : List Int) (g : Int) : Int := if g < 0 then -1 else ((seenMost net g.toNat : Nat) : Int)
theorem S.SeenMost_x {net : List Int} (e : S.NetOk_t net = some false) (g : Int) : S.SeenMost_t net g = some (-1) := by
  unfold S.SeenMost_t S.SeenMost_tree; rw [e]; rfl
theorem S.SeenMost_n {net : List Int} (h : Ok net) (e : S.NetOk_t net = some true) (g : Int) : S.SeenMost_t net g = some (seenI net g) := by
  unfold S.SeenMost_t S.SeenMost_tree seenI
  have h6 := h.hi
  have h64 := h.pow
  rw [e]
  simp only [optC, Bool.not_true, cond_false]
  by_cases hg : g < 0
  · rw [cnd_t (by simpa using hg), if_pos hg]
  · rw [cnd_f (by simpa using hg), if_neg hg]
    obtain ⟨k, rfl⟩ : ∃ k : Nat, g = k := ⟨g.toNat, by omega⟩
    rw [Int.toNat_natCast]
    have := (run_for (run := S.SeenMost_run5 net (k : Int)) (len := 2 ^ net.length) (fun i (t : Nat) => ((t : Int), (i : Int))) (fun t s => if size s ≤ k then max t (size (seen net s)) else t) (fun t => (t : Int)) (fun i t => True) (by omega) (fun n i t hi ht => ?_) (fun n t ht => ?_) (t0 := 0) trivial).1
    · rw [show S.SeenMost_run5 net (k : Int) FUEL (0, 0) = _ from this]; rfl
    · refine ⟨?_, trivial⟩
      have hsn := h.seen_lt hi
      simp only [S.SeenMost_run5, S.SeenMost_step5]
      rw [pow_shl h, cnd_t (by rw [decide_eq_true_eq]; omega), S.l1Size_n (by omega)]
      simp only [optC]
      rw [add1_nat (by omega)]
      by_cases hs : size i ≤ k
      · rw [cnd_t (by rw [decide_eq_true_eq]; omega), if_pos hs, S.SeenBy_n h e hi]
        simp only
        rw [S.l1Size_n (by omega)]
        simp only
        congr 2
        by_cases hm : size (seen net i) > t
        · rw [if_pos (by omega), Nat.max_eq_right (by omega)]
        · rw [if_neg (by omega), Nat.max_eq_left (by omega)]
      · rw [cnd_f (by rw [decide_eq_false_iff_not]; omega), if_neg hs]
    · simp only [S.SeenMost_run5, S.SeenMost_step5]
      rw [pow_shl h, cnd_f (by rw [decide_eq_false_iff_not]; omega)]
end Go.Proofs.Ytlamfgocbekgpaa
/- Draws of chapter 16. Conditions: those of each theorem. -/
namespace Go.Proofs.Ytlamfgocbekgpaa
open D Go.RowKit
set_option linter.unusedVariables false
set_option linter.unusedSimpArgs false


theorem S.l20Pair_is {rb : List Int} {rp n : Int} (hb : Bytes rb) (hl : rb.length ≤ 2000) (h0 : 0 ≤ rp) (h1 : rp ≤ 1000000) :
    ∃ rp' net a b, S.l20Pair_t rb rp n = some (a, b, rb, rp', net) ∧ rp ≤ rp' ∧ rp' ≤ rp + 400 ∧ net.length ≤ 6 ∧ 0 ≤ a ∧ a ≤ 12 ∧ -6 ≤ b ∧ b ≤ 6 := by
  unfold S.l20Pair_t S.l20Pair_tree
  obtain ⟨rp1, net, e1, a1, a2, a3⟩ := S.l20Net_is (n := n) hb hl h0 h1
  rw [e1]
  simp only [optC]
  obtain ⟨v, e2, b1, b2⟩ := S.l20Rd_pick_is (rp := rp1) (n := if 1 > (net.length : Int) then 1 else (net.length : Int)) hb hl (by omega) (by omega)
  have b3 : v < 7 := by
    have := b2 (by split <;> omega)
    split at this <;> omega
  rw [e2]
  simp only
  obtain ⟨u, e3, c1, c2⟩ := S.l20Rd_pick_is (rp := rp1 + 1) (n := 40) hb hl (by omega) (by omega)
  have c3 := c2 (by decide)
  rw [e3]
  simp only
  obtain ⟨x, e4, d1, d2⟩ := S.l20Rd_pick_is (rp := rp1 + 1 + 1) (n := if 1 > (net.length : Int) then 1 else (net.length : Int)) hb hl (by omega) (by omega)
  have d3 : x < 7 := by
    have := d2 (by split <;> omega)
    split at this <;> omega
  rw [e4]
  simp only
  obtain ⟨y, e5, f1, f2⟩ := S.l20Rd_pick_is (rp := rp1 + 1 + 1 + 1) (n := 40) hb hl (by omega) (by omega)
  have f3 := f2 (by decide)
  rw [e5]
  simp only
  have g1 : ∃ z : Int, IntKind.i64.wrap (IntKind.i64.wrap (u.tdiv 39) * 6) = z ∧ 0 ≤ z ∧ z ≤ 6 := by
    rcases tdiv_small (v := u) (a := 39) c1 (by omega) with h | h
    · rw [h, i64_wrap (n := 0) (by decide) (by decide)]; exact ⟨0, by decide, by decide, by decide⟩
    · rw [h, i64_wrap (n := 1) (by decide) (by decide)]; exact ⟨6, by decide, by decide, by decide⟩
  have g2 : ∃ z : Int, IntKind.i64.wrap (IntKind.i64.wrap (y.tdiv 39) * 6) = z ∧ 0 ≤ z ∧ z ≤ 6 := by
    rcases tdiv_small (v := y) (a := 39) f1 (by omega) with h | h
    · rw [h, i64_wrap (n := 0) (by decide) (by decide)]; exact ⟨0, by decide, by decide, by decide⟩
    · rw [h, i64_wrap (n := 1) (by decide) (by decide)]; exact ⟨6, by decide, by decide, by decide⟩
  obtain ⟨z, ez, z1, z2⟩ := g1
  obtain ⟨w, ew, w1, w2⟩ := g2
  rw [ez, ew, i64_wrap (n := v + z) (by omega) (by omega), i64_wrap (n := x - w) (by omega) (by omega)]
  exact ⟨_, _, _, _, rfl, by omega, by omega, a3, by omega, by omega, by omega, by omega⟩
theorem S.l6First_is {s : Nat} (hs : s < 64) (hne : s ≠ 0) : ∃ k : Nat, S.l6First_t (s : Int) = some (k : Int) ∧ k < 6 := by
  have hF := FUEL_le
  have hex : ∃ j, j < 6 ∧ s.testBit j = true := Classical.byContradiction fun hn => hne (zero_iff.2 fun j => not_true fun hj => by
    refine hn ⟨j, ?_, hj⟩
    rcases Nat.lt_or_ge j 6 with hlt | hge
    · exact hlt
    · rw [Nat.testBit_lt_two_pow (Nat.lt_of_lt_of_le (show s < 2 ^ 6 by omega) (Nat.pow_le_pow_right (by omega) hge))] at hj; cases hj)
  obtain ⟨j, hj, hb⟩ := hex
  have key : ∀ d a n, a + d = j → d < n → ∃ k : Nat, S.l6First_run2 (s : Int) n (a : Int) = some (k : Int) ∧ k < 6 := by
    intro d
    induction d with
    | zero =>
      intro a n ha hn
      obtain ⟨n, rfl⟩ : ∃ q, n = q + 1 := ⟨n - 1, by omega⟩
      simp only [S.l6First_run2, S.l6First_step2]
      rw [cnd_f (by simp), bit_shr _ _ (by omega), bool_eq0, show a = j by omega, hb]
      exact ⟨j, rfl, hj⟩
    | succ d ih =>
      intro a n ha hn
      obtain ⟨n, rfl⟩ : ∃ q, n = q + 1 := ⟨n - 1, by omega⟩
      simp only [S.l6First_run2, S.l6First_step2]
      rw [cnd_f (by simp), bit_shr _ _ (by omega), bool_eq0, add1_nat (by omega)]
      cases s.testBit a with
      | true => exact ⟨a, rfl, by omega⟩
      | false => exact ih (a + 1) n (by omega) (by omega)
  unfold S.l6First_t S.l6First_tree
  obtain ⟨k, e, hk⟩ := key j 0 FUEL (by omega) (by omega)
  rw [show S.l6First_run2 (s : Int) FUEL 0 = _ from e]
  exact ⟨k, rfl, hk⟩
theorem S.DrawWireCut_is {code : List Int} (hb : Bytes code) : ∃ (a b : Int) (net : List Int), S.DrawWireCut_t code = some (a, b, net) ∧ net.length ≤ 6 := by
  unfold S.DrawWireCut_t S.DrawWireCut_tree
  obtain ⟨rb, e1, h1, h2⟩ := S.l20Open_is hb
  rw [e1]
  simp only [optC]
  obtain ⟨rp', net, a, b, e2, a1, a2, h3, h4, h5, h6, h7⟩ := S.l20Pair_is (n := 12) h1 h2 (Int.le_refl 0) (by decide)
  rw [e2]
  simp only
  rcases NetOk_cases net with ⟨h, g1, g2⟩ | ⟨_, g1, g2⟩
  · rw [g2]
    simp only [cond_true]
    by_cases ha : a < (net.length : Int)
    · obtain ⟨k, rfl⟩ : ∃ k : Nat, a = k := ⟨a.toNat, by omega⟩
      have hk : k < net.length := by omega
      rw [cnd_t (by simpa using ha), cnd_t (by rw [Bool.and_eq_true, decide_eq_true_eq, decide_eq_true_eq]; omega), cnd_t (by rw [decide_eq_true_eq]; omega), Int.toNat_natCast, h.eli hk]
      by_cases hz : nb net k = 0
      · rw [cnd_f (by rw [decide_eq_false_iff_not]; omega)]
        exact ⟨_, _, _, rfl, h3⟩
      · rw [cnd_t (by rw [decide_eq_true_eq]; omega)]
        obtain ⟨u, e3, b1, b2⟩ := S.l20Rd_pick_is (rp := rp') (n := 3) h1 h2 (by omega) (by omega)
        rw [e3]
        simp only
        by_cases hu : 0 < u
        · obtain ⟨w, e4, hw⟩ := S.l6First_is (h.lt64 hk) hz
          rw [cnd_t (by rw [decide_eq_true_eq]; omega), cnd_t (by rw [Bool.and_eq_true, decide_eq_true_eq, decide_eq_true_eq]; omega), cnd_t (by rw [decide_eq_true_eq]; omega), e4]
          exact ⟨_, _, _, rfl, h3⟩
        · rw [cnd_f (by rw [decide_eq_false_iff_not]; omega)]
          exact ⟨_, _, _, rfl, h3⟩
    · rw [cnd_f (by simpa using ha)]
      exact ⟨_, _, _, rfl, h3⟩
  · rw [g2]
    exact ⟨_, _, _, rfl, h3⟩
theorem S.DrawWireJoined_is {code : List Int} (hb : Bytes code) : ∃ (a b : Int) (net : List Int), S.DrawWireJoined_t code = some (a, b, net) ∧ net.length ≤ 6 := by
  unfold S.DrawWireJoined_t S.DrawWireJoined_tree
  obtain ⟨rb, e1, h1, h2⟩ := S.l20Open_is hb
  rw [e1]
  simp only [optC]
  obtain ⟨rp', net, a, b, e2, a1, a2, h3, h4, h5, h6, h7⟩ := S.l20Pair_is (n := 12) h1 h2 (Int.le_refl 0) (by decide)
  rw [e2]
  exact ⟨_, _, _, rfl, h3⟩
theorem S.DrawSeenMost_is {code : List Int} (hb : Bytes code) : ∃ (g : Int) (net : List Int), S.DrawSeenMost_t code = some (g, net) ∧ net.length ≤ 6 ∧ -10 ≤ g ∧ g ≤ 8 := by
  unfold S.DrawSeenMost_t S.DrawSeenMost_tree
  obtain ⟨rb, e1, h1, h2⟩ := S.l20Open_is hb
  rw [e1]
  simp only [optC]
  obtain ⟨rp', net, e2, a1, a2, h3⟩ := S.l20Net_is (n := 9) h1 h2 (Int.le_refl 0) (by decide)
  rw [e2]
  simp only
  obtain ⟨x, e3, x1, x2⟩ := S.l20Rd_pick_is (rp := rp') (n := 8) h1 h2 (by omega) (by omega)
  have x3 := x2 (by decide)
  rw [e3]
  simp only
  obtain ⟨y, e4, y1, y2⟩ := S.l20Rd_pick_is (rp := rp' + 1) (n := 15) h1 h2 (by omega) (by omega)
  have y3 := y2 (by decide)
  rw [e4]
  simp only
  have g1 : ∃ z : Int, IntKind.i64.wrap (IntKind.i64.wrap (y.tdiv 14) * 9) = z ∧ 0 ≤ z ∧ z ≤ 9 := by
    rcases tdiv_small (v := y) (a := 14) y1 (by omega) with h | h
    · rw [h, i64_wrap (n := 0) (by decide) (by decide)]; exact ⟨0, by decide, by decide, by decide⟩
    · rw [h, i64_wrap (n := 1) (by decide) (by decide)]; exact ⟨9, by decide, by decide, by decide⟩
  obtain ⟨z, ez, z1, z2⟩ := g1
  rw [ez, i64_wrap (n := x - z) (by omega) (by omega)]
  exact ⟨_, _, rfl, h3, by omega, by omega⟩
theorem S.DrawFewestCuts_is {code : List Int} (hb : Bytes code) : ∃ net, S.DrawFewestCuts_t code = some net ∧ net.length ≤ 6 := by
  unfold S.DrawFewestCuts_t S.DrawFewestCuts_tree
  obtain ⟨rb, e1, h1, h2⟩ := S.l20Open_is hb
  rw [e1]
  simp only [optC]
  obtain ⟨rp', net, e2, _, _, h3⟩ := S.l20Net_is (n := 9) h1 h2 (Int.le_refl 0) (by decide)
  rw [e2]
  exact ⟨_, rfl, h3⟩
theorem S.DrawFewestJoins_is {code : List Int} (hb : Bytes code) : ∃ net, S.DrawFewestJoins_t code = some net ∧ net.length ≤ 6 := by
  unfold S.DrawFewestJoins_t S.DrawFewestJoins_tree
  obtain ⟨rb, e1, h1, h2⟩ := S.l20Open_is hb
  rw [e1]
  simp only [optC]
  obtain ⟨rp', net, e2, _, _, h3⟩ := S.l20Net_is (n := 9) h1 h2 (Int.le_refl 0) (by decide)
  rw [e2]
  exact ⟨_, rfl, h3⟩
end Go.Proofs.Ytlamfgocbekgpaa
/- Plain facts about the program's own ways of chapters 6 to 9: least numbers from -1 on, the first row of the fewest guards, the least place of a set. Conditions: those of each theorem. -/
namespace Go.Proofs.Ytlamfgocbekgpaa
open D Go.RowKit
set_option linter.unusedVariables false
set_option linter.unusedSimpArgs false

/-- The least number of a kind; -1 if there is none. -/
def minStepV (p : Nat → Bool) (v : Nat → Nat) (t : Int) (s : Nat) : Int := if p s = true then (if t < 0 then ((v s : Nat) : Int) else if ((v s : Nat) : Int) < t then ((v s : Nat) : Int) else t) else t
def lessStep (n : Nat) (p : List Int → Bool) (best : List Int) (m : Nat) : List Int := if sumN n (rv (digs n m)) < sumN n (rv best) ∧ p (digs n m) = true then digs n m else best
end Go.Proofs.Ytlamfgocbekgpaa
/- The program's functions of chapters 3 and 4 in natural numbers. Conditions: those of each theorem. -/
namespace Go.Proofs.Ytlamfgocbekgpaa
open D Go.RowKit
set_option linter.unusedVariables false
set_option linter.unusedSimpArgs false


theorem I.nextTo_n {net : List Int} (h : Ok net) {s : Nat} (hs : s < 2 ^ net.length) : I.nextTo_t net s = some ((near net s : Nat) : Int) := by
  unfold I.nextTo_t I.nextTo_tree
  have h6 := h.hi
  have h64 := h.pow
  have := (run_for (run := I.nextTo_run3 net s) (len := net.length) (fun k (t : Nat) => ((t : Int), (k : Int))) (fun t k => if s.testBit k = true then t ||| nb net k else t) (fun t => (t : Int)) (fun k t => t < 2 ^ net.length) (by omega) (fun n k t hk ht => ?_) (fun n t ht => ?_) (t0 := 0) (Nat.two_pow_pos _)).1
  · rw [fold_near] at this
    exact congrArg (fun o => optC o (fun q => some q) none) this
  · have hb := h.lt k hk
    simp only [I.nextTo_run3, I.nextTo_step3]
    rw [cnd_t (by simp; omega), I.hasPlace_n _ _ (by omega)]
    simp only [optC]
    cases hbit : s.testBit k with
    | true =>
      rw [cond_true, cnd_t (by simp; omega), if_pos rfl, Int.toNat_natCast, h.eli hk, i64_or_nat _ _ (by omega) (by omega), add1_nat (by omega)]
      exact ⟨rfl, Nat.or_lt_two_pow ht hb⟩
    | false =>
      rw [cond_false, if_neg (by simp), add1_nat (by omega)]
      exact ⟨rfl, ht⟩
  · simp only [I.nextTo_run3, I.nextTo_step3]
    rw [cnd_f (by simp)]
theorem I.apartIn_n {net : List Int} (h : Ok net) {s : Nat} (hs : s < 2 ^ net.length) : I.apartIn_t net s = some (apart net s) := by
  unfold I.apartIn_t I.apartIn_tree
  have h64 := h.pow
  have hnl := h.near_lt s
  rw [I.nextTo_n h hs]
  simp only [optC]
  rw [i64_and_nat _ _ (by omega) (by omega), nat_eq0, Nat.and_comm]
  rfl
end Go.Proofs.Ytlamfgocbekgpaa
/- The program's functions of chapter 6 but MostLeaves, in natural numbers. Conditions: those of each theorem. -/
namespace Go.Proofs.Ytlamfgocbekgpaa
open D Go.RowKit
set_option linter.unusedVariables false
set_option linter.unusedSimpArgs false


end Go.Proofs.Ytlamfgocbekgpaa
/- The program's functions of chapter 7 in natural numbers. Conditions: those of each theorem. -/
namespace Go.Proofs.Ytlamfgocbekgpaa
open D Go.RowKit
set_option linter.unusedVariables false
set_option linter.unusedSimpArgs false


/-- The places that have just so many. -/
def eqN (n : Nat) (r : Nat → Nat) (m : Nat) : Nat := orN n (fun k => decide (r k = m)) (fun k => 2 ^ k)
end Go.Proofs.Ytlamfgocbekgpaa
/- GuardMoved in natural numbers. Conditions: those of each theorem. -/
namespace Go.Proofs.Ytlamfgocbekgpaa
open D Go.RowKit
set_option linter.unusedVariables false
set_option linter.unusedSimpArgs false


def mayMove (net : List Int) (s f t : Nat) : Bool := s.testBit f && (!s.testBit t && (nb net f).testBit t)
def movedI (net : List Int) (s f t : Int) : Int := if (0 ≤ s ∧ s < 2 ^ net.length) ∧ (0 ≤ f ∧ f < net.length) ∧ (0 ≤ t ∧ t < net.length) ∧ mayMove net s.toNat f.toNat t.toNat = true then ((moved s.toNat f.toNat t.toNat : Nat) : Int) else -1
end Go.Proofs.Ytlamfgocbekgpaa
/- The program's functions of chapter 8 in natural numbers. Conditions: those of each theorem. -/
namespace Go.Proofs.Ytlamfgocbekgpaa
open D Go.RowKit
set_option linter.unusedVariables false
set_option linter.unusedSimpArgs false


/-- Can a guard come to a place without one? -/
def comeB (net : List Int) (s t : Nat) : Bool := (List.range net.length).any fun f => mayMove net s f t && W net (moved s f t)
/-- The places with guards, when one guard leaves a place. -/
def lessN (n : Nat) (r : Nat → Nat) (f : Nat) : Nat := if r f = 1 then (if (eqN n r 1 ||| eqN n r 2).testBit f = true then (eqN n r 1 ||| eqN n r 2) - 2 ^ f else eqN n r 1 ||| eqN n r 2) else eqN n r 1 ||| eqN n r 2
end Go.Proofs.Ytlamfgocbekgpaa
/- AnsweredAll in natural numbers. Conditions: those of each theorem. -/
namespace Go.Proofs.Ytlamfgocbekgpaa
open D Go.RowKit
set_option linter.unusedVariables false
set_option linter.unusedSimpArgs false


/-- The set after one ask. -/
noncomputable def ansNext (net : List Int) (s p : Nat) : Nat := if s.testBit p = true then s else moved s (ansI net (lasts net) s p).toNat p
noncomputable def ansStep (net places : List Int) (t : Nat × List Int) (k : Nat) : List Int ⊕ (Nat × List Int) :=
  if 0 ≤ D.eli places k ∧ D.eli places k < net.length then .inr (ansNext net t.1 (D.eli places k).toNat, t.2 ++ [((ansNext net t.1 (D.eli places k).toNat : Nat) : Int)]) else .inl t.2
noncomputable def answered (net : List Int) (s : Nat) (places : List Int) : List Int := match loopE places.length (ansStep net places) (s, [(s : Int)]) with | .inl _ => [] | .inr t => t.2
noncomputable def answeredI (net : List Int) (s : Int) (places : List Int) : List Int := if (0 ≤ s ∧ s < 2 ^ net.length) ∧ eternalB net s.toNat = true then answered net s.toNat places else []
/-- What the list of answers holds. -/
def AnsInv (net places : List Int) (s k : Nat) (t : Nat × List Int) : Prop :=
  t.1 < 2 ^ net.length ∧ t.2.length = k + 1 ∧ D.eli t.2 0 = s ∧
  (∀ j, j ≤ k → ∃ u : Nat, D.eli t.2 j = u ∧ u < 2 ^ net.length ∧ Eternal net u ∧ size u = size s ∧ (j = k → u = t.1)) ∧
  ∀ j, j < k → ∃ p : Nat, D.eli places j = p ∧ p < net.length ∧ (D.eli t.2 (j + 1)).toNat.testBit p = true
end Go.Proofs.Ytlamfgocbekgpaa
/- The program's functions of chapter 9 in natural numbers. Conditions: those of each theorem. -/
namespace Go.Proofs.Ytlamfgocbekgpaa
open D Go.RowKit
set_option linter.unusedVariables false
set_option linter.unusedSimpArgs false


/-- The sets in which one guard has moved. -/
def mvIn (net : List Int) (s f : Nat) (l : List Int) (t : Nat) : List Int := if mayMove net s f t = true then l ++ [((moved s f t : Nat) : Int)] else l
def mvOut (net : List Int) (s : Nat) (l : List Int) (f : Nat) : List Int := fold net.length (mvIn net s f) l
def mvs (net : List Int) (s : Nat) : List Int := fold net.length (mvOut net s) []
/-- What is answered by going to sets that last. -/
def ansS (l : List Bool) (s : Nat) (L : List Int) : Nat := fold L.length (fun t k => if D.elb l (D.eli L k).toNat = true then t ||| (D.eli L k).toNat else t) s
def Among (n : Nat) (L : List Int) : Prop := L.length ≤ 1000 ∧ ∀ k, k < L.length → ∃ u : Nat, D.eli L k = (u : Int) ∧ u < 2 ^ n
end Go.Proofs.Ytlamfgocbekgpaa
/- All guards move: a place for one more guard, who is matched already may have to take another one. Conditions: those of each theorem. -/
namespace Go.Proofs.Ytlamfgocbekgpaa
open D Go.RowKit
set_option linter.unusedVariables false
set_option linter.unusedSimpArgs false

/-- Whom a place has is near, and the place is one of the new ones. -/
def KValid (net : List Int) (to : Nat) (c : Nat → Nat) : Prop := ∀ p, p < 6 → c p ≠ 0 → to.testBit p = true ∧ (ball net (c p - 1)).testBit p = true ∧ c p ≤ net.length
def upd (c : Nat → Nat) (k v p : Nat) : Nat := if p = k then v else c p
structure KOut (net : List Int) (to g T : Nat) (c : Nat → Nat) (T' : Nat) (c' : Nat → Nat) (f : Bool) : Prop where
  lt : T' < 2 ^ net.length
  sub : ∀ p, T.testBit p = true → T'.testBit p = true
  no : f = false → (∀ p, p < 6 → c' p = c p) ∧ (∀ p, to.testBit p = true → (ball net g).testBit p = true → T'.testBit p = true) ∧
    ∀ p, T'.testBit p = true → T.testBit p = false → c p ≠ 0 ∧ ∀ q, to.testBit q = true → (ball net (c p - 1)).testBit q = true → T'.testBit q = true
  yes : f = true → (∀ p, p < 6 → T.testBit p = true → c' p = c p) ∧ KValid net to c' ∧ ∀ x, cnt 6 (fun p => !T.testBit p && c' p == x + 1) = cnt 6 (fun p => !T.testBit p && c p == x + 1) + (decide (x = g)).toNat
structure KInv (net : List Int) (to g T0 : Nat) (c : Nat → Nat) (k T : Nat) : Prop where
  lt : T < 2 ^ net.length
  sub : ∀ p, T0.testBit p = true → T.testBit p = true
  done : ∀ p, p < k → to.testBit p = true → (ball net g).testBit p = true → T.testBit p = true
  clo : ∀ p, T.testBit p = true → T0.testBit p = false → c p ≠ 0 ∧ ∀ q, to.testBit q = true → (ball net (c p - 1)).testBit q = true → T.testBit q = true
/-- Those of the guards below k that are in a set have one place each. -/
def KDone (src : Nat) (c : Nat → Nat) (k : Nat) : Prop := ∀ x, cnt 6 (fun p => c p == x + 1) = (decide (x < k) && src.testBit x).toNat
end Go.Proofs.Ytlamfgocbekgpaa
/- A new place for each guard: the program's matching. Conditions: those of each theorem. -/
namespace Go.Proofs.Ytlamfgocbekgpaa
open D Go.RowKit
set_option linter.unusedVariables false
set_option linter.unusedSimpArgs false


/-- The answer of a matching, in Go's numbers. -/
def kAns (c : Nat → Nat) (T : Nat) (f : Bool) : Int × Int × Int × Int × Int × Int × Int × Bool := (((c 0 : Nat) : Int), ((c 1 : Nat) : Int), ((c 2 : Nat) : Int), ((c 3 : Nat) : Int), ((c 4 : Nat) : Int), ((c 5 : Nat) : Int), ((T : Nat) : Int), f)
end Go.Proofs.Ytlamfgocbekgpaa
/- The program's functions of chapter 10 in natural numbers. Conditions: those of each theorem. -/
namespace Go.Proofs.Ytlamfgocbekgpaa
open D Go.RowKit
set_option linter.unusedVariables false
set_option linter.unusedSimpArgs false


/-- The sets to which all can move. -/
noncomputable def avs (net : List Int) (s : Nat) : List Int := listOfN (2 ^ net.length) (allMoveB net s)
end Go.Proofs.Ytlamfgocbekgpaa
/- The program's functions of chapter 13 (at ae9a42a), and PlayMay, in natural numbers. Conditions: those of each theorem. -/
namespace Go.Proofs.Ytlamfgocbekgpaa
open D Go.RowKit
set_option linter.unusedVariables false
set_option linter.unusedSimpArgs false


theorem eli_ext {l m : List Int} (hl : l.length = m.length) (h : ∀ k, k < l.length → D.eli l k = D.eli m k) : l = m := by
  refine List.ext_getElem hl fun k h1 h2 => ?_
  have := h k h1
  unfold D.eli at this
  simpa [List.getD, h1, h2] using this
theorem I.OtherNet_y {net : List Int} (h : Ok net) (e : I.NetOk_t net = some true) : I.OtherNet_t net = some (otherN net) := by
  unfold I.OtherNet_t I.OtherNet_tree
  have h6 := h.hi
  have h64 := h.pow
  rw [e]
  simp only [optC, Bool.not_true, cond_false]
  rw [cnd_t (by simp [small]; omega)]
  have := run_for (run := I.OtherNet_run5 net) (len := net.length) (fun k (t : List Int) => ((k : Int), t)) (fun t k => t.set k ((minus (allOf net) (ball net k) : Nat) : Int)) (fun t => t) (fun k t => t.length = net.length ∧ ∀ j, j < k → D.eli t j = ((minus (allOf net) (ball net j) : Nat) : Int)) (by omega) (fun f k t hk ht => ?_) (fun f t ht => ?_) (t0 := List.replicate net.length 0) ⟨by simp, fun j hj => by omega⟩
  · obtain ⟨h1, h2, h3⟩ := this
    rw [show I.OtherNet_run5 net FUEL (0, List.replicate ((net.length : Nat) : Int).toNat 0) = _ from h1]
    simp only
    congr 1
    refine eli_ext (by rw [h2, otherN_len]) fun k hk => ?_
    rw [h2] at hk
    rw [h3 k hk, otherN_eli hk]
  · obtain ⟨hl, hv⟩ := ht
    have hb := h.ball_lt hk
    have hall := allOf_lt net
    simp only [I.OtherNet_run5, I.OtherNet_step5]
    rw [cnd_t (by simp; omega), I.allOf_n h]
    simp only [optC]
    rw [I.ballIn_n h hk]
    simp only
    rw [cnd_t (by simp; omega), cnd_t (by simp; omega), Int.toNat_natCast, i64_andNot_nat _ _ (by omega) (by omega), add1_nat (by omega)]
    refine ⟨rfl, by simpa using hl, fun j hj => ?_⟩
    unfold D.eli
    by_cases hjk : j = k
    · subst hjk
      simp [List.getD, show j < t.length by omega]
    · have := hv j (by omega)
      unfold D.eli at this
      simpa [List.getD, List.getElem?_set, show ¬ k = j from fun e => hjk e.symm] using this
  · simp only [I.OtherNet_run5, I.OtherNet_step5]
    rw [cnd_f (by simp)]
end Go.Proofs.Ytlamfgocbekgpaa
/- The program's functions of chapter 16 (at ae9a42a) in natural numbers. Conditions: those of each theorem. -/
namespace Go.Proofs.Ytlamfgocbekgpaa
open D Go.RowKit
set_option linter.unusedVariables false
set_option linter.unusedSimpArgs false


/-- Pairs of numbers, one behind the other. -/
def fl : List (Nat × Nat) → List Int
  | [] => []
  | p :: r => (p.1 : Int) :: (p.2 : Int) :: fl r
theorem fl_len : ∀ P : List (Nat × Nat), (fl P).length = P.length * 2
  | [] => rfl
  | p :: r => by simp only [fl, List.length_cons, fl_len r]; omega
theorem fl_app : ∀ (P : List (Nat × Nat)) (a b : Nat), fl (P ++ [(a, b)]) = fl P ++ [(a : Int), (b : Int)]
  | [], a, b => rfl
  | p :: r, a, b => by simp only [List.cons_append, fl, fl_app r a b]
theorem fl_div (P : List (Nat × Nat)) : (fl P).length / 2 = P.length := by rw [fl_len]; omega
theorem I.wiresIn_n {net : List Int} (h : Ok net) : I.wiresIn_t net = some (fl (pairs net)) := by
  unfold I.wiresIn_t I.wiresIn_tree
  have h6 := h.hi
  have := (run_for (run := I.wiresIn_run3 net) (len := net.length) (fun k (t : List (Nat × Nat)) => ((k : Int), fl t)) (pairRow net) (fun t => fl t) (fun k t => t.length ≤ 6 * k) (by omega) (fun n k t hk ht => ?_) (fun n t ht => ?_) (t0 := []) (by simp)).1
  · exact congrArg (fun o => optC o (fun q => some q) none) this
  · have hlt := h.lt64 hk
    have inner := run_for (run := I.wiresIn_run6 net (k : Int)) (len := net.length - (k + 1)) (fun i (t : List (Nat × Nat)) => (((k + 1 + i : Nat) : Int), fl t)) (pairStep net k) (fun t => fl t) (fun i u => u.length ≤ t.length + i) (by omega) (fun n i u hi hu => ?_) (fun n u hu => ?_) (t0 := t) (Nat.le_refl _)
    · obtain ⟨e, hlen⟩ := inner
      simp only [I.wiresIn_run3, I.wiresIn_step3]
      rw [cnd_t (by rw [decide_eq_true_eq]; omega), add1_nat (by omega), show I.wiresIn_run6 net (k : Int) FUEL (((k + 1 : Nat) : Int), fl t) = _ from e]
      exact ⟨rfl, Nat.le_trans hlen (by omega)⟩
    · simp only [I.wiresIn_run6, I.wiresIn_step6]
      rw [cnd_t (by rw [decide_eq_true_eq]; omega), cnd_t (by simp only [Bool.and_eq_true, decide_eq_true_eq]; omega), show D.eli net (k : Int).toNat = (nb net k : Int) by rw [Int.toNat_natCast]; exact h.eli hk, I.hasPlace_n _ _ (by omega), add1_nat (by omega)]
      simp only [optC]
      unfold pairStep
      cases hb : (nb net k).testBit (k + 1 + i) with
      | false => rw [cond_false, if_neg (by simp)]; exact ⟨rfl, by omega⟩
      | true =>
        rw [cond_true, cnd_t (small_of (by rw [fl_len]; simp; omega)), if_pos rfl, fl_app]
        exact ⟨rfl, by rw [List.length_append]; simp; omega⟩
    · simp only [I.wiresIn_run6, I.wiresIn_step6]
      rw [cnd_f (by rw [decide_eq_false_iff_not]; omega)]
  · simp only [I.wiresIn_run3, I.wiresIn_step3]
    rw [cnd_f (by rw [decide_eq_false_iff_not]; omega)]
theorem I.turnedBy_n {net : List Int} (h : Ok net) {a b : Nat} (ha : a < net.length) (hb : b < net.length) (hab : a ≠ b) : I.turnedBy_t net (a : Int) (b : Int) = some (turnN net a b) := by
  unfold I.turnedBy_t I.turnedBy_tree
  have h6 := h.hi
  have hna := h.lt64 ha
  have hnb := h.lt64 hb
  have h2a : 2 ^ a < 2 ^ 6 := Nat.pow_lt_pow_right (by omega) (by omega)
  have h2b : 2 ^ b < 2 ^ 6 := Nat.pow_lt_pow_right (by omega) (by omega)
  rw [List.nil_append, cnd_t (small_of (by omega)), cnd_t (by rw [Bool.and_eq_true, decide_eq_true_eq, decide_eq_true_eq]; omega), cnd_t (by rw [decide_eq_true_eq]; omega), cnd_f (by simp), cnd_t (by rw [Bool.and_eq_true, decide_eq_true_eq, decide_eq_true_eq]; omega), cnd_t (by rw [decide_eq_true_eq]; omega)]
  rw [List.length_set, cnd_t (by rw [Bool.and_eq_true, decide_eq_true_eq, decide_eq_true_eq]; omega), cnd_t (by rw [decide_eq_true_eq]; omega), cnd_f (by simp), cnd_t (by rw [Bool.and_eq_true, decide_eq_true_eq, decide_eq_true_eq]; omega), cnd_t (by rw [decide_eq_true_eq]; omega)]
  rw [one_shl (by omega), one_shl (by omega), Int.toNat_natCast, Int.toNat_natCast, set_el hb hab, h.eli ha, h.eli hb, i64_xor_nat _ _ (by omega) (by omega), i64_xor_nat _ _ (by omega) (by omega)]
  unfold turnN
  rw [nb_set ha, if_neg (Ne.symm hab)]
theorem I.WireCut_x {net : List Int} (e : I.NetOk_t net = some false) (a b : Int) : I.WireCut_t net a b = some [] := by
  unfold I.WireCut_t I.WireCut_tree; rw [e]; rfl
theorem I.WireCut_n {net : List Int} (h : Ok net) (e : I.NetOk_t net = some true) (a b : Int) : I.WireCut_t net a b = some (cutL net a b) := by
  unfold I.WireCut_t I.WireCut_tree
  have h6 := h.hi
  rw [e]
  simp only [optC, Bool.not_true, cond_false]
  rw [I.placeIn_n]
  simp only
  have no : pairI net a b = false → cutL net a b = [] := fun hp => by unfold cutL; rw [hp]; rfl
  rcases place_cases net a with ⟨u, rfl, hu, hd⟩ | hd
  · rw [hd, Bool.not_true, cond_false, I.placeIn_n]
    simp only
    rcases place_cases net b with ⟨v, rfl, hv, hd2⟩ | hd2
    · have hlt := h.lt64 hu
      rw [hd2, Bool.not_true, cond_false, cnd_t (by simp only [Bool.and_eq_true, decide_eq_true_eq]; omega), Int.toNat_natCast, h.eli hu, I.hasPlace_n _ _ (by omega)]
      simp only
      cases hb : (nb net u).testBit v with
      | false =>
        have : cutL net (u : Int) (v : Int) = [] := by unfold cutL; rw [Int.toNat_natCast, Int.toNat_natCast, hb, Bool.and_false]; rfl
        rw [this]; rfl
      | true =>
        have huv : u ≠ v := fun hc => by rw [hc, h.irr v hv] at hb; cases hb
        have : cutL net (u : Int) (v : Int) = turnN net u v := by
          unfold cutL pairI
          rw [Int.toNat_natCast, Int.toNat_natCast, hb, hd, hd2]
          have : ((u : Int) != (v : Int)) = true := by rw [bne_iff_ne]; omega
          rw [this]; rfl
        rw [Bool.not_true, cond_false, I.turnedBy_n h hu hv huv, this]
    · rw [hd2, no (by unfold pairI; rw [hd2]; simp)]; rfl
  · rw [hd, no (by unfold pairI; rw [hd]; rfl)]; rfl
theorem I.WireJoined_x {net : List Int} (e : I.NetOk_t net = some false) (a b : Int) : I.WireJoined_t net a b = some [] := by
  unfold I.WireJoined_t I.WireJoined_tree; rw [e]; rfl
theorem I.WireJoined_n {net : List Int} (h : Ok net) (e : I.NetOk_t net = some true) (a b : Int) : I.WireJoined_t net a b = some (joinL net a b) := by
  unfold I.WireJoined_t I.WireJoined_tree
  have h6 := h.hi
  rw [e]
  simp only [optC, Bool.not_true, cond_false]
  rw [I.placeIn_n]
  simp only
  have no : pairI net a b = false → joinL net a b = [] := fun hp => by unfold joinL; rw [hp]; rfl
  rcases place_cases net a with ⟨u, rfl, hu, hd⟩ | hd
  · rw [hd, Bool.not_true, cond_false, I.placeIn_n]
    simp only
    rcases place_cases net b with ⟨v, rfl, hv, hd2⟩ | hd2
    · rw [hd2, Bool.not_true, cond_false, I.ballIn_n h hu]
      simp only
      rw [I.hasPlace_n _ _ (by omega)]
      simp only
      have hball := ball_testBit net u v
      cases hb : (ball net u).testBit v with
      | true =>
        have : joinL net (u : Int) (v : Int) = [] := by
          unfold joinL
          rw [Int.toNat_natCast, Int.toNat_natCast]
          rcases hball.1 hb with h1 | h1
          · rw [h1, Bool.not_true, Bool.and_false]; rfl
          · have hp : pairI net (u : Int) (v : Int) = false := by unfold pairI; rw [h1]; simp
            rw [hp]; rfl
        rw [this]; rfl
      | false =>
        have h1 : (nb net u).testBit v = false := not_true fun hc => by rw [hball.2 (.inl hc)] at hb; cases hb
        have huv : u ≠ v := fun hc => by rw [hball.2 (.inr hc)] at hb; cases hb
        have : joinL net (u : Int) (v : Int) = turnN net u v := by
          unfold joinL pairI
          rw [Int.toNat_natCast, Int.toNat_natCast, h1, hd, hd2]
          have : ((u : Int) != (v : Int)) = true := by rw [bne_iff_ne]; omega
          rw [this]; rfl
        rw [cond_false, I.turnedBy_n h hu hv huv, this]
    · rw [hd2, no (by unfold pairI; rw [hd2]; simp)]; rfl
  · rw [hd, no (by unfold pairI; rw [hd]; rfl)]; rfl
theorem I.seenMostIn_n {net : List Int} (h : Ok net) (k : Nat) : I.seenMostIn_t net (k : Int) = some ((seenMost net k : Nat) : Int) := by
  unfold I.seenMostIn_t I.seenMostIn_tree
  have h6 := h.hi
  have h64 := h.pow
  have hsu := allOf_succ net
  have := (run_for (run := I.seenMostIn_run3 net (k : Int)) (len := 2 ^ net.length) (fun i (t : Nat) => ((t : Int), (i : Int))) (fun t s => if size s ≤ k then max t (size (seen net s)) else t) (fun t => (t : Int)) (fun i t => True) (by omega) (fun n i t hi ht => ?_) (fun n t ht => ?_) (t0 := 0) trivial).1
  · exact congrArg (fun o => optC o (fun q => some q) none) this
  · refine ⟨?_, trivial⟩
    simp only [I.seenMostIn_run3, I.seenMostIn_step3]
    rw [I.allOf_n h]
    simp only [optC]
    rw [cnd_t (by rw [decide_eq_true_eq]; omega), I.sizeOf_n]
    simp only
    rw [add1_nat (by omega)]
    by_cases hs : size i ≤ k
    · rw [cnd_t (by rw [decide_eq_true_eq]; omega), if_pos hs, I.seenIn_n h hi]
      simp only
      rw [I.sizeOf_n]
      simp only
      by_cases hm : size (seen net i) > t
      · rw [cnd_t (by rw [decide_eq_true_eq]; omega), Nat.max_eq_right (by omega)]
      · rw [cnd_f (by rw [decide_eq_false_iff_not]; omega), Nat.max_eq_left (by omega)]
    · rw [cnd_f (by rw [decide_eq_false_iff_not]; omega), if_neg hs]
  · simp only [I.seenMostIn_run3, I.seenMostIn_step3]
    rw [I.allOf_n h]
    simp only [optC]
    rw [cnd_f (by rw [decide_eq_false_iff_not]; omega)]
theorem I.SeenMost_x {net : List Int} (e : I.NetOk_t net = some false) (g : Int) : I.SeenMost_t net g = some (-1) := by
  unfold I.SeenMost_t I.SeenMost_tree; rw [e]; rfl
theorem I.SeenMost_n {net : List Int} (h : Ok net) (e : I.NetOk_t net = some true) (g : Int) : I.SeenMost_t net g = some (seenI net g) := by
  unfold I.SeenMost_t I.SeenMost_tree seenI
  rw [e]
  simp only [optC, Bool.not_true, cond_false]
  by_cases hg : g < 0
  · rw [cnd_t (by simpa using hg), if_pos hg]
  · rw [cnd_f (by simpa using hg), if_neg hg]
    obtain ⟨k, rfl⟩ : ∃ k : Nat, g = k := ⟨g.toNat, by omega⟩
    rw [Int.toNat_natCast, I.seenMostIn_n h]
theorem I.watchedBy_n {net : List Int} (h : Ok net) (k : Nat) : I.watchedBy_t net (k : Int) = some (decide (fewest net ≤ k)) := by
  unfold I.watchedBy_t I.watchedBy_tree
  rw [I.seenMostIn_n h]
  simp only [optC]
  congr 1
  rw [Bool.eq_iff_iff, beq_iff_eq, decide_eq_true_eq, ← seenMost_all h k]
  omega
/-! Some wires of a row turned, one after the other. -/
def PairsIn (n : Nat) (P : List (Nat × Nat)) : Prop := ∀ p, p ∈ P → p.1 < p.2 ∧ p.2 < n
/-- Can so many of the pairs be turned that it comes out so? -/
def tt (g : Nat) (w : Bool) : List (Nat × Nat) → List Int → Nat → Bool
  | _, T, 0 => decide (fewest T ≤ g) == w
  | [], _, _ + 1 => false
  | p :: P, T, m + 1 => if P.length + 1 < m + 1 then false else tt g w P (turnN T p.1 p.2) m || tt g w P T (m + 1)
theorem tt_step [c : I.turnsTill_r_R] {T : List Int} (h : Ok T) {P : List (Nat × Nat)} (hP : PairsIn T.length P) (hl : P.length ≤ 15) (m g : Nat) (hm : m ≤ 100) (w : Bool)
    (hrec : ∀ p r, P = p :: r → ∀ T2, Ok T2 → T2.length = T.length → ∀ k : Nat, k ≤ 100 → I.turnsTill_r0_t T2 (fl r) (k : Int) (g : Int) w = some (tt g w r T2 k)) :
    I.turnsTill_r_t T (fl P) (m : Int) (g : Int) w = some (tt g w P T m) := by
  unfold I.turnsTill_r_t I.turnsTill_r_tree
  rw [fl_div]
  cases m with
  | zero =>
    rw [cnd_t (by rfl), I.watchedBy_n h]
    cases P <;> rfl
  | succ m =>
    rw [cnd_f (by rw [beq_eq_false_iff_ne]; omega)]
    cases P with
    | nil => rw [cnd_t (by rw [decide_eq_true_eq]; simp)]; rfl
    | cons p r =>
      have hp := hP p (by simp)
      have hl2 : (p :: r).length = r.length + 1 := rfl
      unfold tt
      by_cases hc : r.length + 1 < m + 1
      · rw [cnd_t (by rw [decide_eq_true_eq]; omega), if_pos hc]
      · rw [cnd_f (by rw [decide_eq_false_iff_not]; omega), if_neg hc, cnd_t (by rw [decide_eq_true_eq]; omega)]
        have e1 : D.eli (fl (p :: r)) (Int.toNat 0 * 2 + 0) = (p.1 : Int) := rfl
        have e2 : D.eli (fl (p :: r)) (Int.toNat 0 * 2 + 1) = (p.2 : Int) := rfl
        have e3 : List.take (((p :: r).length - Int.toNat 1) * 2) (List.drop (Int.toNat 1 * 2) (fl (p :: r))) = fl r := by
          show List.take ((r.length + 1 - 1) * 2) (fl r) = fl r
          exact List.take_of_length_le (by rw [fl_len]; omega)
        rw [e1, e2, e3, I.turnedBy_n h (by omega) (by omega) (by omega)]
        simp only [optC]
        rw [cnd_t (by simp only [Bool.and_eq_true, decide_eq_true_eq]; omega), show ((m + 1 : Nat) : Int) - 1 = (m : Int) by omega, i64_wrap (by omega) (by omega), hrec p r rfl _ (turn_ok h (by omega) (by omega) (by omega)) (turn_len _ _ _) m (by omega)]
        simp only
        cases tt g w r (turnN T p.1 p.2) m with
        | true => rfl
        | false =>
          rw [cond_false, cnd_t (by simp only [Bool.and_eq_true, decide_eq_true_eq]; omega), hrec p r rfl T h rfl (m + 1) hm]
          rfl
theorem I.turnsTill_d (g : Nat) (w : Bool) : ∀ (P : List (Nat × Nat)) (d : Nat) (T : List Int), Ok T → PairsIn T.length P → P.length ≤ 15 → P.length < d → ∀ m : Nat, m ≤ 100 → I.turnsTill_td d T (fl P) (m : Int) (g : Int) w = some (tt g w P T m) := by
  intro P
  induction P with
  | nil =>
    intro d T h hP hl hd m hm
    obtain ⟨d, rfl⟩ : ∃ q, d = q + 1 := ⟨d - 1, by omega⟩
    exact @tt_step ⟨I.turnsTill_td d⟩ T h [] hP hl m g hm w (fun p r e => by cases e)
  | cons p r ih =>
    intro d T h hP hl hd m hm
    simp only [List.length_cons] at hd hl
    obtain ⟨d, rfl⟩ : ∃ q, d = q + 1 := ⟨d - 1, by omega⟩
    refine @tt_step ⟨I.turnsTill_td d⟩ T h (p :: r) hP (by simpa using hl) m g hm w (fun p2 r2 e T2 h2 hT2 k hk => ?_)
    cases e
    exact ih d T2 h2 (fun q hq => by rw [hT2]; exact hP q (by simp [hq])) (by omega) (by omega) k hk
theorem I.turnsTill_n {T : List Int} (h : Ok T) {P : List (Nat × Nat)} (hP : PairsIn T.length P) (hl : P.length ≤ 15) {m : Nat} (hm : m ≤ 100) (g : Nat) (w : Bool) : I.turnsTill_t T (fl P) (m : Int) (g : Int) w = some (tt g w P T m) :=
  I.turnsTill_d g w P FUEL T h hP hl (by have := FUEL_le; omega) m hm
theorem first_found {ρ : Type} {n : Nat} {f : Nat → Option ρ} {r : ρ} (h : find n f = some r) : ∃ k, k < n ∧ f k = some r ∧ ∀ j, j < k → f j = none := by
  induction n with
  | zero => cases h
  | succ n ih =>
    rw [find_succ] at h
    cases hf : find n f with
    | some q =>
      rw [hf] at h
      obtain ⟨k, a, b, c⟩ := ih (by rw [hf]; exact h)
      exact ⟨k, by omega, b, c⟩
    | none =>
      rw [hf] at h
      exact ⟨n, by omega, h, fun j hj => find_none.1 hf j hj⟩
theorem fold_first {T : Type} (f : T → Nat → T) : ∀ (n : Nat) (t : T), fold (n + 1) f t = fold n (fun t k => f t (k + 1)) (f t 0) := by
  intro n
  induction n with
  | zero => intro t; rfl
  | succ n ih => intro t; rw [fold_succ, ih, fold_succ]
theorem sel_cons (p : Nat × Nat) (r : List (Nat × Nat)) (T : List Int) (x : Nat) : selN T (p :: r) x = selN (if x.testBit 0 = true then turnN T p.1 p.2 else T) r (x / 2) := by
  unfold selN
  rw [show (p :: r).length = r.length + 1 from rfl, fold_first]
  have e0 : selStep (p :: r) x T 0 = if x.testBit 0 = true then turnN T p.1 p.2 else T := rfl
  rw [e0]
  congr 1
  funext t k
  unfold selStep
  rw [Nat.testBit_succ]
  rfl
theorem cnt_cons (L x : Nat) : cnt (L + 1) (fun k => x.testBit k) = (x.testBit 0).toNat + cnt L (fun k => (x / 2).testBit k) := by
  induction L with
  | zero => show 0 + (x.testBit 0).toNat = (x.testBit 0).toNat + 0; omega
  | succ L ih =>
    have e1 : cnt (L + 1 + 1) (fun k => x.testBit k) = cnt (L + 1) (fun k => x.testBit k) + (x.testBit (L + 1)).toNat := rfl
    have e2 : cnt (L + 1) (fun k => (x / 2).testBit k) = cnt L (fun k => (x / 2).testBit k) + ((x / 2).testBit L).toNat := rfl
    rw [e1, e2, ih, Nat.testBit_succ]; omega
theorem cnt_zero_of {L x : Nat} (hx : x < 2 ^ L) (hc : cnt L (fun k => x.testBit k) = 0) : x = 0 := by
  have hn := cnt_not L (fun k => x.testBit k)
  refine Nat.eq_of_testBit_eq fun j => ?_
  rw [Nat.zero_testBit]
  rcases Nat.lt_or_ge j L with hj | hj
  · have : cnt L (fun k => !x.testBit k) = L := by omega
    have := cnt_all this hj
    simpa using this
  · exact Nat.testBit_lt_two_pow (Nat.lt_of_lt_of_le hx (Nat.pow_le_pow_right (by omega) hj))
theorem sel_zero (T : List Int) : ∀ P : List (Nat × Nat), selN T P 0 = T := by
  intro P
  induction P with
  | nil => rfl
  | cons p r ih => rw [sel_cons]; simpa using ih
theorem cnt_of_zero (L : Nat) : cnt L (fun k => Nat.testBit 0 k) = 0 := by
  have h1 := cnt_not L (fun k => Nat.testBit 0 k)
  have h2 : cnt L (fun k => !Nat.testBit 0 k) = L := by rw [cnt_congr (q := fun _ => true) (fun k _ => by simp), cnt_true]
  omega
theorem tt_iff (g : Nat) (w : Bool) : ∀ (P : List (Nat × Nat)) (T : List Int) (m : Nat), tt g w P T m = true ↔ ∃ x, x < 2 ^ P.length ∧ cnt P.length (fun k => x.testBit k) = m ∧ (decide (fewest (selN T P x) ≤ g) == w) = true := by
  intro P
  induction P with
  | nil =>
    intro T m
    cases m with
    | zero =>
      show (decide (fewest T ≤ g) == w) = true ↔ _
      constructor
      · exact fun h => ⟨0, by decide, rfl, h⟩
      · rintro ⟨x, _, _, h⟩; exact h
    | succ m =>
      constructor
      · intro h; cases h
      · rintro ⟨x, _, h, _⟩; cases h
  | cons p r ih =>
    intro T m
    have hpow : 2 ^ (p :: r).length = 2 * 2 ^ r.length := by rw [List.length_cons, Nat.pow_succ, Nat.mul_comm]
    cases m with
    | zero =>
      show (decide (fewest T ≤ g) == w) = true ↔ _
      constructor
      · exact fun h => ⟨0, Nat.two_pow_pos _, cnt_of_zero _, by rw [sel_zero]; exact h⟩
      · rintro ⟨x, h1, h2, h3⟩
        have := cnt_zero_of h1 h2
        subst this
        rw [sel_zero] at h3; exact h3
    | succ m =>
      unfold tt
      by_cases hc : r.length + 1 < m + 1
      · rw [if_pos hc]
        constructor
        · intro h; cases h
        · rintro ⟨x, _, h2, _⟩
          have := cnt_le (p :: r).length (fun k => x.testBit k)
          rw [List.length_cons] at this h2
          omega
      · rw [if_neg hc, Bool.or_eq_true, ih, ih]
        constructor
        · rintro (⟨x, h1, h2, h3⟩ | ⟨x, h1, h2, h3⟩)
          · have hb : (2 * x + 1).testBit 0 = true := by simp
            have hd : (2 * x + 1) / 2 = x := by omega
            refine ⟨2 * x + 1, by rw [hpow]; omega, ?_, ?_⟩
            · rw [List.length_cons, cnt_cons, hb, hd, h2]; simp; omega
            · rw [sel_cons, hb, hd, if_pos rfl]; exact h3
          · have hb : (2 * x).testBit 0 = false := by simp
            have hd : (2 * x) / 2 = x := by omega
            refine ⟨2 * x, by rw [hpow]; omega, ?_, ?_⟩
            · rw [List.length_cons, cnt_cons, hb, hd, h2]; simp
            · rw [sel_cons, hb, hd, if_neg (by simp)]; exact h3
        · rintro ⟨x, h1, h2, h3⟩
          rw [List.length_cons, cnt_cons] at h2
          rw [sel_cons] at h3
          rw [hpow] at h1
          cases hb : x.testBit 0 with
          | true =>
            rw [hb, if_pos rfl] at h3
            rw [hb] at h2
            exact .inl ⟨x / 2, by omega, by simp at h2; omega, h3⟩
          | false =>
            rw [hb, if_neg (by simp)] at h3
            rw [hb] at h2
            exact .inr ⟨x / 2, by omega, by simp at h2; omega, h3⟩
/-- The least number of pairs that must be turned. -/
theorem I.fewestTurns_n {T : List Int} (h : Ok T) {P : List (Nat × Nat)} (hP : PairsIn T.length P) (hl : P.length ≤ 15) (g : Nat) (w : Bool) (h0 : (decide (fewest T ≤ g) == w) = false) :
    ∃ r, I.fewestTurns_t T (fl P) (g : Int) w = some r ∧ LeastI (fun m => ∃ x, x < 2 ^ P.length ∧ cnt P.length (fun k => x.testBit k) = m ∧ (decide (fewest (selN T P x) ≤ g) == w) = true) r := by
  unfold I.fewestTurns_t I.fewestTurns_tree
  have l2 := (run_forE (run := I.fewestTurns_run2 T (fl P) (g : Int) w) (len := P.length) (fun k (t : Unit) => ((k + 1 : Nat) : Int)) (findStep fun k => if tt g w P T (k + 1) = true then some (((k + 1 : Nat) : Int)) else none) (fun q => Sum.inl q) (fun _ => Sum.inr ()) (fun k t => True) (by omega) (fun n k t hk ht => ?_) (fun n t ht => ?_) (t0 := ()) trivial).1
  · rw [show I.fewestTurns_run2 T (fl P) (g : Int) w FUEL 1 = _ from l2]
    have hz : ¬ ∃ x, x < 2 ^ P.length ∧ cnt P.length (fun k => x.testBit k) = 0 ∧ (decide (fewest (selN T P x) ≤ g) == w) = true := by
      rintro ⟨x, h1, h2, h3⟩
      have := cnt_zero_of h1 h2
      subst this
      rw [sel_zero, h0] at h3; cases h3
    rcases loopE_find (fun k => if tt g w P T (k + 1) = true then some (((k + 1 : Nat) : Int)) else none) P.length with ⟨q, a1, a2⟩ | ⟨a1, a2⟩
    · rw [a2]
      refine ⟨q, rfl, .inr ?_⟩
      obtain ⟨k, hk, hq, hno⟩ := first_found a1
      by_cases ht : tt g w P T (k + 1) = true
      · rw [if_pos ht] at hq
        injection hq with hq
        refine ⟨k + 1, hq.symm, (tt_iff g w P T _).1 ht, fun j hj => ?_⟩
        rcases Nat.lt_or_ge j (k + 1) with hjk | hjk
        · exfalso
          cases j with
          | zero => exact hz hj
          | succ j =>
            have := hno j (by omega)
            rw [if_pos ((tt_iff g w P T _).2 hj)] at this; cases this
        · exact hjk
      · rw [if_neg ht] at hq; cases hq
    · rw [a2]
      refine ⟨-1, rfl, .inl ⟨rfl, fun m hm => ?_⟩⟩
      cases m with
      | zero => exact hz hm
      | succ m =>
        have hm2 := hm
        obtain ⟨x, _, hx, _⟩ := hm2
        have := cnt_le P.length (fun k => x.testBit k)
        have := find_none.1 a1 m (by omega)
        rw [if_pos ((tt_iff g w P T _).2 hm)] at this; cases this
  · simp only [I.fewestTurns_run2, I.fewestTurns_step2]
    rw [fl_div, cnd_t (by rw [decide_eq_true_eq]; omega), I.turnsTill_n h hP hl (by omega), add1_nat (by omega)]
    simp only [optC]
    unfold findStep
    dsimp only
    cases tt g w P T (k + 1) with
    | true => rfl
    | false => exact ⟨rfl, trivial⟩
  · simp only [I.fewestTurns_run2, I.fewestTurns_step2]
    rw [fl_div, cnd_f (by rw [decide_eq_false_iff_not]; omega)]
theorem pairs_in {net : List Int} (h : Ok net) : PairsIn net.length (pairs net) ∧ (pairs net).length ≤ 15 := by
  obtain ⟨p1, _, p3⟩ := pairs_is h.hi
  exact ⟨fun p hp => by obtain ⟨a, b, _⟩ := (p1 p.1 p.2).1 hp; exact ⟨a, b⟩, p3⟩
theorem I.FewestCuts_x {net : List Int} (e : I.NetOk_t net = some false) : I.FewestCuts_t net = some (-1) := by
  unfold I.FewestCuts_t I.FewestCuts_tree; rw [e]; rfl
theorem I.FewestCuts_y {net : List Int} (h : Ok net) (e : I.NetOk_t net = some true) : I.FewestCuts_t net = some (leastI (CutBy net)) := by
  unfold I.FewestCuts_t I.FewestCuts_tree
  obtain ⟨hP, hl⟩ := pairs_in h
  rw [e]
  simp only [optC, Bool.not_true, cond_false]
  rw [I.wiresIn_n h]
  simp only
  rw [I.FewestWatch_y h e]
  simp only
  obtain ⟨r, a, b⟩ := I.fewestTurns_n h hP hl (fewest net) false (by simp)
  rw [a]
  simp only
  congr 1
  refine (b.congr (q := CutBy net) fun m => ?_).uniq (leastI_is _)
  rw [cut_sel h]
  constructor
  · rintro ⟨x, h1, h2, h3⟩; exact ⟨x, h1, h2, by simpa using h3⟩
  · rintro ⟨x, h1, h2, h3⟩; exact ⟨x, h1, h2, by simpa using h3⟩
theorem I.FewestJoins_x {net : List Int} (e : I.NetOk_t net = some false) : I.FewestJoins_t net = some (-1) := by
  unfold I.FewestJoins_t I.FewestJoins_tree; rw [I.FewestWatch_x e]; rfl
theorem I.FewestJoins_y {net : List Int} (h : Ok net) (e : I.NetOk_t net = some true) : I.FewestJoins_t net = some (leastI (JoinBy net)) := by
  unfold I.FewestJoins_t I.FewestJoins_tree
  have ho := otherN_ok h
  have hol := otherN_len net
  have hfl := fewest_le h
  have h6 := h.hi
  rw [I.FewestWatch_y h e]
  simp only [optC]
  by_cases h2 : 2 ≤ fewest net
  · rw [cnd_f (by rw [decide_eq_false_iff_not]; omega), I.OtherNet_y h e]
    simp only
    rw [I.wiresIn_n ho]
    simp only
    obtain ⟨hP, hl⟩ := pairs_in ho
    rw [hol] at hP
    obtain ⟨r, a, b⟩ := I.fewestTurns_n h hP hl (fewest net - 1) true (by rw [decide_eq_false (by omega)]; rfl)
    rw [i64_wrap (by omega) (by omega), show ((fewest net : Nat) : Int) - 1 = ((fewest net - 1 : Nat) : Int) by omega, a]
    simp only
    congr 1
    refine (b.congr (q := JoinBy net) fun m => ?_).uniq (leastI_is _)
    rw [join_sel h]
    constructor
    · rintro ⟨x, q1, q2, q3⟩
      have : fewest (selN net (pairs (otherN net)) x) ≤ fewest net - 1 := by simpa using q3
      exact ⟨x, q1, q2, by omega⟩
    · rintro ⟨x, q1, q2, q3⟩; exact ⟨x, q1, q2, by rw [decide_eq_true (by omega)]; rfl⟩
  · rw [cnd_t (by rw [decide_eq_true_eq]; omega)]
    have hj := joins_is h
    rw [if_neg h2] at hj
    rw [← hj.uniq (leastI_is _)]
end Go.Proofs.Ytlamfgocbekgpaa
/- Grown packings and sets that see each place once. Conditions: those of each theorem. -/
namespace Go.Proofs.Ytlamfgocbekgpaa
open D Go.RowKit
set_option linter.unusedVariables false
set_option linter.unusedSimpArgs false

def growP (net : List Int) (t k : Nat) : Nat := if packed net (t ||| 2 ^ k) = true then t ||| 2 ^ k else t
def grownP (net : List Int) (s : Nat) : Nat := fold net.length (growP net) s
def GrowI (net : List Int) (s k t : Nat) : Prop := t < 2 ^ net.length ∧ packed net t = true ∧ (∀ j, s.testBit j = true → t.testBit j = true) ∧ ∀ j, j < k → t.testBit j = false → packed net (t ||| 2 ^ j) = false
/-- Each place is seen once. -/
def efficientB (net : List Int) (s : Nat) : Bool := packed net s && W net s
theorem Down.trans {net : List Int} {r t s : Nat} (h1 : Down net r t) (h2 : Down net t s) : Down net r s := by
  induction h2 with
  | here => exact h1
  | step a b _ ih => exact .step a b ih
/-- One sweep over the places: each with at most one neighbour left goes. -/
def peelStep (net : List Int) (t : Bool × Nat) (k : Nat) : Bool × Nat := if (t.2.testBit k && decide (size (nb net k &&& t.2) < 2)) = true then (true, t.2 - 2 ^ k) else t
def PeelI (net : List Int) (s k : Nat) (t : Bool × Nat) : Prop := Down net t.2 s ∧ t.2 ≤ s ∧ (t.1 = false → t.2 = s ∧ ∀ j, j < k → s.testBit j = true → 2 ≤ size (nb net j &&& s)) ∧ (t.1 = true → t.2 < s)
noncomputable def forestB (net : List Int) : Bool := @decide (Peel net (allOf net)) (Classical.propDecidable _)
theorem forestB_iff {net : List Int} : forestB net = true ↔ Peel net (allOf net) := by unfold forestB; exact @decide_eq_true_iff _ (Classical.propDecidable _)
end Go.Proofs.Ytlamfgocbekgpaa
/- The model's functions of chapter 11 in natural numbers: packings. Conditions: those of each theorem. -/
namespace Go.Proofs.Ytlamfgocbekgpaa
open D Go.RowKit
set_option linter.unusedVariables false
set_option linter.unusedSimpArgs false


def mostPacked (net : List Int) : Nat := maxSize net (packed net)
def efficientI (net : List Int) : Int := (find (2 ^ net.length) (fun s => if efficientB net s = true then some (s : Int) else none)).getD (-1)
def grownPI (net : List Int) (s : Int) : Int := if (0 ≤ s ∧ s < 2 ^ net.length) ∧ packed net s.toNat = true then ((grownP net s.toNat : Nat) : Int) else -1
end Go.Proofs.Ytlamfgocbekgpaa
/- The program's functions of chapter 11 in natural numbers. Conditions: those of each theorem. -/
namespace Go.Proofs.Ytlamfgocbekgpaa
open D Go.RowKit
set_option linter.unusedVariables false
set_option linter.unusedSimpArgs false


/-- The first place with at most one neighbour left. -/
def leafF (net : List Int) (s : Nat) : Int := (find net.length (fun k => if (s.testBit k && decide (size (nb net k &&& s) ≤ 1)) = true then some (k : Int) else none)).getD (-1)
theorem leafF_cases (net : List Int) {s : Nat} (hs : s < 2 ^ net.length) : (leafF net s = -1 ∧ Stuck net s) ∨ ∃ k : Nat, k < net.length ∧ leafF net s = (k : Int) ∧ s.testBit k = true ∧ size (nb net k &&& s) ≤ 1 := by
  unfold leafF
  cases hf : find net.length (fun k => if (s.testBit k && decide (size (nb net k &&& s) ≤ 1)) = true then some (k : Int) else none) with
  | none =>
    refine .inl ⟨rfl, fun k hk => ?_⟩
    have := find_none.1 hf k (in_lt hs hk)
    by_cases hc : size (nb net k &&& s) ≤ 1
    · rw [hk, decide_eq_true hc] at this; simp at this
    · omega
  | some r =>
    obtain ⟨k, hk, he⟩ := find_some_ex hf
    right
    by_cases hc : (s.testBit k && decide (size (nb net k &&& s) ≤ 1)) = true
    · rw [if_pos hc] at he
      injection he with he
      rw [Bool.and_eq_true, decide_eq_true_eq] at hc
      exact ⟨k, hk, he.symm, hc.1, hc.2⟩
    · rw [if_neg hc] at he; cases he
theorem I.leafIn_n {net : List Int} (h : Ok net) {s : Nat} (hs : s < 2 ^ net.length) : I.leafIn_t net (s : Int) = some (leafF net s) := by
  unfold I.leafIn_t I.leafIn_tree
  have h6 := h.hi
  have h64 := h.pow
  rw [run_search (run := I.leafIn_run2 net s) (len := net.length) (fun k => if (s.testBit k && decide (size (nb net k &&& s) ≤ 1)) = true then some (k : Int) else none) () (by omega) (fun n k hk => ?_) (fun n => ?_)]
  · unfold leafF
    cases find net.length (fun k => if (s.testBit k && decide (size (nb net k &&& s) ≤ 1)) = true then some (k : Int) else none) <;> rfl
  · simp only [I.leafIn_run2, I.leafIn_step2]
    have hnb := h.lt64 hk
    rw [cnd_t (by simp; omega), I.hasPlace_n _ _ (by omega), add1_nat (by omega)]
    simp only [optC]
    cases hb : s.testBit k with
    | false => rfl
    | true =>
      rw [cond_true, cnd_t (by simp; omega), Int.toNat_natCast, h.eli hk, i64_and_nat _ _ (by omega) (by omega), I.sizeOf_n, Bool.true_and]
      simp only
      by_cases hc : size (nb net k &&& s) ≤ 1
      · rw [cnd_t (by rw [decide_eq_true_eq]; omega), if_pos (by simpa using hc)]
      · rw [cnd_f (by rw [decide_eq_false_iff_not]; omega), if_neg (by simpa using hc)]
  · simp only [I.leafIn_run2, I.leafIn_step2]
    rw [cnd_f (by simp)]
theorem I.prunedIn_n {net : List Int} (h : Ok net) : ∃ r : Nat, I.prunedIn_t net = some (r : Int) ∧ r < 2 ^ net.length ∧ Down net r (allOf net) ∧ Stuck net r := by
  unfold I.prunedIn_t I.prunedIn_tree
  have h6 := h.hi
  have h64 := h.pow
  have hall := allOf_lt net
  rw [I.allOf_n h]
  simp only [optC]
  rw [I.leafIn_n h hall]
  simp only
  have := run_post (run := I.prunedIn_run3 net) (fun q => ∃ t : Nat, q = ((t : Int), leafF net t) ∧ t < 2 ^ net.length ∧ Down net t (allOf net)) (fun q => q.1.toNat)
    (fun d => ∃ r : Nat, d = (r : Int) ∧ r < 2 ^ net.length ∧ Down net r (allOf net) ∧ Stuck net r) (fun f q => ?_) (s := ((allOf net : Nat), leafF net (allOf net))) ⟨allOf net, rfl, hall, .here⟩ (by simp only [Int.toNat_natCast]; omega)
  · obtain ⟨d, e1, r, rfl, r1, r2, r3⟩ := this
    rw [e1]
    exact ⟨r, rfl, r1, r2, r3⟩
  · rintro ⟨t, rfl, i1, i2⟩
    simp only [I.prunedIn_run3, I.prunedIn_step3]
    rcases leafF_cases net i1 with ⟨e1, hst⟩ | ⟨k, hk, e1, hb, hc⟩
    · left
      rw [e1, cnd_f (show decide ((-1 : Int) ≥ 0) = false from rfl)]
      exact ⟨_, rfl, t, rfl, i1, i2, hst⟩
    · right
      have hge : 2 ^ k ≤ t := Nat.ge_two_pow_of_testBit hb
      have hpos := Nat.two_pow_pos k
      have hlt : t - 2 ^ k < 2 ^ net.length := Nat.lt_of_le_of_lt (Nat.sub_le _ _) i1
      rw [e1, cnd_t (by rw [decide_eq_true_eq]; omega), I.without_n (by omega) (by omega), if_pos hb]
      simp only [optC]
      rw [I.leafIn_n h hlt]
      simp only
      exact ⟨_, rfl, ⟨t - 2 ^ k, rfl, hlt, (Down.step hb hc .here : Down net (t - 2 ^ k) t).trans i2⟩, by simp only [Int.toNat_natCast]; omega⟩
theorem I.ForestOk_y {net : List Int} (h : Ok net) (e : I.NetOk_t net = some true) : I.ForestOk_t net = some (forestB net) := by
  unfold I.ForestOk_t I.ForestOk_tree
  obtain ⟨r, e1, r1, r2, r3⟩ := I.prunedIn_n h
  rw [e]
  simp only [optC]
  rw [cond_true, e1]
  simp only
  rw [nat_eq0]
  congr 1
  rw [Bool.eq_iff_iff, beq_iff_eq, forestB_iff]
  exact forest_left h r2 r1 r3
end Go.Proofs.Ytlamfgocbekgpaa
/- The laws of chapter 2: WatchOk, LeastWatchOk, FewestWatch, WatchOf. Conditions: those of each theorem. -/
namespace Go.Proofs.Ytlamfgocbekgpaa
open D Go.RowKit
set_option linter.unusedVariables false
set_option linter.unusedSimpArgs false


end Go.Proofs.Ytlamfgocbekgpaa
/- The laws of chapter 2: ThinnedWatch, WatchCounts, LeastWatches. Conditions: those of each theorem. -/
namespace Go.Proofs.Ytlamfgocbekgpaa
open D Go.RowKit
set_option linter.unusedVariables false
set_option linter.unusedSimpArgs false


/-! ### Counts -/
def cw (net : List Int) (j : Nat) : Nat := cnt (2 ^ net.length) (fun s => W net s && (size s == j))
theorem L.sameInts_is {a : List Int} (ha : a.length ≤ 1000000) : L.sameInts_t a a = some true := by
  unfold L.sameInts_t L.sameInts_tree
  have := (run_for (run := L.sameInts_run4 a a) (len := a.length) (fun k (_ : Unit) => (k : Int)) (fun t k => ()) (fun t => Sum.inr ()) (fun k t => True) (by omega) (fun n k t hk ht => ?_) (fun n t ht => ?_) (t0 := ()) trivial).1
  · rw [cnd_f (by simp), show L.sameInts_run4 a a FUEL 0 = _ from this]
    rfl
  · refine ⟨?_, trivial⟩
    simp only [L.sameInts_run4, L.sameInts_step4]
    rw [cnd_t (by simp; omega), cnd_t (by simp; omega), cnd_t (by simp; omega), cnd_f (by simp), add1_nat (by omega)]
  · simp only [L.sameInts_run4, L.sameInts_step4]
    rw [cnd_f (by simp)]
/-! ### Least watches -/
end Go.Proofs.Ytlamfgocbekgpaa
/- The program's functions that the laws of chapter 16 call. Conditions: none. -/
namespace Go.Proofs.Ytlamfgocbekgpaa
end Go.Proofs.Ytlamfgocbekgpaa
/- Laws of chapter 3, and of chapter 4 over sets. Conditions: those of each theorem. -/
namespace Go.Proofs.Ytlamfgocbekgpaa
open D Go.RowKit
set_option linter.unusedVariables false
set_option linter.unusedSimpArgs false


end Go.Proofs.Ytlamfgocbekgpaa
/- The program's functions of chapter 4 over nets, and of chapter 5, in natural numbers. Conditions: those of each theorem. -/
namespace Go.Proofs.Ytlamfgocbekgpaa
open D Go.RowKit
set_option linter.unusedVariables false
set_option linter.unusedSimpArgs false


theorem I.MostApart_y {net : List Int} (h : Ok net) (e : I.NetOk_t net = some true) : I.MostApart_t net = some ((maxSize net (apart net) : Nat) : Int) := by
  unfold I.MostApart_t I.MostApart_tree
  have h64 := h.pow
  have h6 := h.hi
  have hsu := allOf_succ net
  rw [e]
  have := (run_for (run := I.MostApart_run5 net) (len := 2 ^ net.length) (fun k (t : Nat) => ((t : Int), (k : Int))) (maxStepN (apart net)) (fun t => (t : Int)) (fun k t => t ≤ 6) (by omega) (fun n k t hk ht => ?_) (fun n t ht => ?_) (t0 := 0) (by omega)).1
  · exact congrArg (fun o => optC o (fun q => some q) none) this
  · refine ⟨?_, maxStepN_le ht⟩
    simp only [I.MostApart_run5, I.MostApart_step5]
    rw [I.allOf_n h]
    simp only [optC]
    rw [cnd_t (by rw [decide_eq_true_eq]; omega), I.sizeOf_n]
    simp only
    by_cases hc : size k > t
    · rw [cnd_t (by rw [decide_eq_true_eq]; omega), I.apartIn_n h hk, maxStepN_lt hc]
      simp only
      cases hp : apart net k with
      | true => simp only [cond_true, if_true]; rw [add1_nat (by omega)]
      | false => simp only [cond_false, Bool.false_eq_true, if_false]; rw [add1_nat (by omega)]
    · rw [cnd_f (by rw [decide_eq_false_iff_not]; omega), maxStepN_ge hc, add1_nat (by omega)]
  · simp only [I.MostApart_run5, I.MostApart_step5]
    rw [I.allOf_n h]
    simp only [optC]
    rw [cnd_f (by rw [decide_eq_false_iff_not]; omega)]
/-- One of two numbers, by a test and then a call. -/
def sel {α : Type} (a : Bool) (o : Option Bool) (x y : Int) (k : Int → Option α) : Option α := bif a then optC o (fun c => bif c then k x else k y) none else k y
def ch6 (net : List Int) (q : Nat × Nat × Nat × Nat × Nat × Nat) (s : Nat) : Nat × Nat × Nat × Nat × Nat × Nat :=
  (minStepN (fullN net) q.1 s, minStepN (W net) q.2.1 s, minStepN (fullA net) q.2.2.1 s, maxStepN (apart net) q.2.2.2.1 s, maxStepN (least net) q.2.2.2.2.1 s, maxStepN (needs net) q.2.2.2.2.2 s)
end Go.Proofs.Ytlamfgocbekgpaa
/- Laws of chapter 5, and of chapter 4 over a net. Conditions: those of each theorem. -/
namespace Go.Proofs.Ytlamfgocbekgpaa
open D Go.RowKit
set_option linter.unusedVariables false
set_option linter.unusedSimpArgs false


theorem maxSize_le {net : List Int} (h : Ok net) {p : Nat → Bool} {m : Nat} (hm : MaxOf net p m) : m ≤ net.length := by
  obtain ⟨s, a, _, c⟩ := hm.ex
  have := size_le_len h a; omega
/-- The net in which all are neighbours. -/
def whole (n : Nat) : List Int := fold n (fun l k => l ++ [((2 ^ n - 1 - 2 ^ k : Nat) : Int)]) []
end Go.Proofs.Ytlamfgocbekgpaa
/- A net that is one; the places with a number, by the laws' own function. Conditions: those of each theorem. -/
namespace Go.Proofs.Ytlamfgocbekgpaa
open D Go.RowKit
set_option linter.unusedVariables false
set_option linter.unusedSimpArgs false


theorem netOk_of {net : List Int} (h : Ok net) : I.NetOk_t net = some true ∧ S.NetOk_t net = some true := by
  rcases NetOk_cases net with ⟨_, g1, g2⟩ | ⟨hn, _, _⟩
  · exact ⟨g1, g2⟩
  · exact absurd h hn
end Go.Proofs.Ytlamfgocbekgpaa
/- Laws of chapter 16. Conditions: those of each theorem. -/
namespace Go.Proofs.Ytlamfgocbekgpaa
open D Go.RowKit
set_option linter.unusedVariables false
set_option linter.unusedSimpArgs false


theorem turn_back {T : List Int} (h : Ok T) {a b : Nat} (ha : a < T.length) (hb : b < T.length) (hab : a ≠ b) : turnN (turnN T a b) b a = T := by
  have hl := turn_len T a b
  refine nets_eq h (turn_ok (turn_ok h ha hb hab) (by omega) (by omega) (Ne.symm hab)) (by rw [turn_len, hl]) fun i j hi hj => ?_
  rw [turn_bit (by omega) (by omega) (Ne.symm hab), turn_bit ha hb hab]
  have e : isW b a i j = isW a b i j := by unfold isW; exact Bool.or_comm _ _
  rw [e]
  cases (nb T i).testBit j <;> cases isW a b i j <;> rfl
theorem pairI_in {net : List Int} {u v : Nat} (hu : u < net.length) (hv : v < net.length) (huv : u ≠ v) : pairI net (u : Int) (v : Int) = true := by
  unfold pairI
  rw [decide_eq_true ⟨by omega, by omega⟩, decide_eq_true ⟨by omega, by omega⟩]
  simp; omega
theorem fewest_pos {net : List Int} (h : Ok net) : 1 ≤ fewest net := by
  obtain ⟨w, w1, w2, w3⟩ := (fewest_few h).ex
  rcases Nat.eq_zero_or_pos (fewest net) with hz | hz
  · exfalso
    have hs0 : w = 0 := by
      have hzz : size w = 0 := by omega
      rw [size_cnt h w1] at hzz
      refine zero_iff.2 fun j => not_true fun hj => ?_
      have := cnt_inj (n := 1) (m := net.length) (p := fun _ => true) (q := fun k => w.testBit k) (fun _ => j) (fun _ _ _ => ⟨in_lt w1 hj, hj⟩) (fun a b ha hb _ _ _ => by omega)
      rw [cnt_true] at this
      omega
    rw [hs0, W_zero h] at w2; cases w2
  · exact hz
theorem wires_le36 {net : List Int} (h : Ok net) : wires net ≤ 36 := by
  have h6 := h.hi
  have e := ends_wires h
  unfold ends at e
  have : sumN net.length (fun k => size (nb net k)) ≤ sumN net.length (fun _ => 6) := sumN_le fun k hk => by
    have := size_le_len h (h.lt k hk)
    omega
  rw [sumN_const] at this
  omega
theorem L.FnWireCut_is {code : List Int} (hm : code.length ≤ maxLen) (hw : ∀ n ∈ code, (Lit.int .u8 n).wf = true) : L.FnWireCut_t code = some true := by
  unfold L.FnWireCut_t L.FnWireCut_tree
  by_cases hc : (code.length : Int) > 1048576
  · rw [cnd_t (by simpa using hc)]
  rw [cnd_f (by simpa using hc)]
  obtain ⟨a, b, net, e1, h1⟩ := S.DrawWireCut_is (Bytes.wf hw)
  rw [e1]
  simp only [optC]
  rcases NetOk_cases net with ⟨h, g1, g2⟩ | ⟨_, g1, g2⟩
  rotate_left
  · rw [I.WireCut_x g1, S.WireCut_x g2]
    simp only
    rw [L.sameInts_is (by simp)]
    simp only [Bool.not_true, cond_false]
    rw [cnd_t (by rfl), L.alive_is]
  have h6 := h.hi
  have hlo := h.lo
  rw [I.WireCut_n h g1, S.WireCut_n h g2]
  simp only
  have gone : cutL net a b = [] → (optC (L.sameInts_t (cutL net a b) (cutL net a b)) (fun c_4 => bif !c_4 then (some false : Option Bool) else optC (L.alive_t) (fun c_5 => some c_5) none) none) = some true := fun he => by
    rw [he, L.sameInts_is (by simp)]
    simp only [optC, Bool.not_true, cond_false]
    rw [L.alive_is]
  by_cases hc2 : (pairI net a b && (nb net a.toNat).testBit b.toNat) = true
  rotate_left
  · have he : cutL net a b = [] := by unfold cutL; rw [if_neg hc2]
    rw [he, L.sameInts_is (by simp)]
    simp only [Bool.not_true, cond_false]
    rw [cnd_t (by rfl), L.alive_is]
  rcases pairI_cases net a b with ⟨u, v, rfl, rfl, hu, hv, huv, hp⟩ | hp
  rotate_left
  · rw [hp] at hc2; cases hc2
  have he : cutL net (u : Int) (v : Int) = turnN net u v := by unfold cutL; rw [if_pos hc2, Int.toNat_natCast, Int.toNat_natCast]
  rw [hp, Bool.true_and, Int.toNat_natCast, Int.toNat_natCast] at hc2
  have ho := turn_ok h hu hv huv
  have hol := turn_len net u v
  obtain ⟨o1, o2⟩ := netOk_of ho
  have hc3 := turn_cut h hu hv huv hc2
  have hw := cut_wires h hc3
  have hwl := wires_le36 h
  have hf := cut_few h hc3 (few_min.1 (fewest_few h)) (few_min.1 (fewest_few ho))
  have hfl := fewest_le h
  have hback : joinL (turnN net u v) (v : Int) (u : Int) = net := by
    unfold joinL
    rw [pairI_in (by omega) (by omega) (Ne.symm huv), Int.toNat_natCast, Int.toNat_natCast, turn_bit hu hv huv, isW_iff.2 (.inr ⟨rfl, rfl⟩), h.sym u v hu hv, hc2]
    exact turn_back h hu hv huv
  rw [he, L.sameInts_is (by omega)]
  simp only [Bool.not_true, cond_false]
  rw [cnd_f (by rw [beq_eq_false_iff_ne]; omega), I.FewestWatch_y ho o1, I.FewestWatch_y h g1, o1]
  simp only [cond_true]
  rw [I.WiresOf_n ho o1, I.WiresOf_n h g1]
  simp only
  rw [i64_wrap (n := ((wires net : Nat) : Int) - 1) (by omega) (by omega), cnd_t (by rw [beq_iff_eq]; omega), I.WireJoined_n ho o1, hback]
  simp only
  rw [L.sameInts_is (by omega)]
  simp only [cond_true]
  rw [i64_wrap (by omega) (by omega), cnd_t (by rw [decide_eq_true_eq]; omega)]
  congr 1
  rw [decide_eq_true_eq]; omega
theorem L.FnWireJoined_is {code : List Int} (hm : code.length ≤ maxLen) (hw : ∀ n ∈ code, (Lit.int .u8 n).wf = true) : L.FnWireJoined_t code = some true := by
  unfold L.FnWireJoined_t L.FnWireJoined_tree
  by_cases hc : (code.length : Int) > 1048576
  · rw [cnd_t (by simpa using hc)]
  rw [cnd_f (by simpa using hc)]
  obtain ⟨a, b, net, e1, h1⟩ := S.DrawWireJoined_is (Bytes.wf hw)
  rw [e1]
  simp only [optC]
  rcases NetOk_cases net with ⟨h, g1, g2⟩ | ⟨_, g1, g2⟩
  rotate_left
  · rw [I.WireJoined_x g1, S.WireJoined_x g2]
    simp only
    rw [L.sameInts_is (by simp)]
    simp only [Bool.not_true, cond_false]
    rw [cnd_t (by rfl), L.alive_is]
  have h6 := h.hi
  have hlo := h.lo
  rw [I.WireJoined_n h g1, S.WireJoined_n h g2]
  simp only
  have gone : joinL net a b = [] → (optC (L.sameInts_t (joinL net a b) (joinL net a b)) (fun c_4 => bif !c_4 then (some false : Option Bool) else optC (L.alive_t) (fun c_5 => some c_5) none) none) = some true := fun he => by
    rw [he, L.sameInts_is (by simp)]
    simp only [optC, Bool.not_true, cond_false]
    rw [L.alive_is]
  by_cases hc2 : (pairI net a b && !(nb net a.toNat).testBit b.toNat) = true
  rotate_left
  · have he : joinL net a b = [] := by unfold joinL; rw [if_neg hc2]
    rw [he, L.sameInts_is (by simp)]
    simp only [Bool.not_true, cond_false]
    rw [cnd_t (by rfl), L.alive_is]
  rcases pairI_cases net a b with ⟨u, v, rfl, rfl, hu, hv, huv, hp⟩ | hp
  rotate_left
  · rw [hp] at hc2; cases hc2
  have he : joinL net (u : Int) (v : Int) = turnN net u v := by unfold joinL; rw [if_pos hc2, Int.toNat_natCast, Int.toNat_natCast]
  rw [hp, Bool.true_and, Int.toNat_natCast, Int.toNat_natCast] at hc2
  have ho := turn_ok h hu hv huv
  have hol := turn_len net u v
  obtain ⟨o1, o2⟩ := netOk_of ho
  have hc2 : (nb net u).testBit v = false := by simpa using hc2
  have hc3 := turn_join h hu hv huv hc2
  have hw := cut_wires ho hc3
  have hwl := wires_le36 h
  have hf := cut_few ho hc3 (few_min.1 (fewest_few ho)) (few_min.1 (fewest_few h))
  have hap := cut_apart ho hc3 (maxSize_is (ex_apart (turnN net u v))) (maxSize_is (ex_apart net))
  have hfl := fewest_le h
  have hml := maxSize_le h (maxSize_is (ex_apart net))
  have hback : cutL (turnN net u v) (v : Int) (u : Int) = net := by
    unfold cutL
    rw [pairI_in (by omega) (by omega) (Ne.symm huv), Int.toNat_natCast, Int.toNat_natCast, turn_bit hu hv huv, isW_iff.2 (.inr ⟨rfl, rfl⟩), h.sym u v hu hv, hc2]
    exact turn_back h hu hv huv
  rw [he, L.sameInts_is (by omega)]
  simp only [Bool.not_true, cond_false]
  rw [cnd_f (by rw [beq_eq_false_iff_ne]; omega), I.FewestWatch_y h g1, I.FewestWatch_y ho o1, I.MostApart_y h g1, I.MostApart_y ho o1, o1]
  simp only [cond_true]
  rw [I.WiresOf_n ho o1, I.WiresOf_n h g1]
  simp only
  rw [i64_wrap (n := ((wires net : Nat) : Int) + 1) (by omega) (by omega), cnd_t (by rw [beq_iff_eq]; omega), I.WireCut_n ho o1, hback]
  simp only
  rw [L.sameInts_is (by omega)]
  simp only [cond_true]
  rw [i64_wrap (n := ((fewest net : Nat) : Int) - ((fewest (turnN net u v) : Nat) : Int)) (by omega) (by omega), cnd_t (by rw [decide_eq_true_eq]; omega), cnd_t (by rw [decide_eq_true_eq]; omega), i64_wrap (by omega) (by omega), cnd_t (by rw [decide_eq_true_eq]; omega)]
  congr 1
  rw [decide_eq_true_eq]; omega
theorem L.FnFewestCuts_is {code : List Int} (hm : code.length ≤ maxLen) (hw : ∀ n ∈ code, (Lit.int .u8 n).wf = true) : L.FnFewestCuts_t code = some true := by
  unfold L.FnFewestCuts_t L.FnFewestCuts_tree
  by_cases hc : (code.length : Int) > 1048576
  · rw [cnd_t (by simpa using hc)]
  rw [cnd_f (by simpa using hc)]
  obtain ⟨net, e1, h1⟩ := S.DrawFewestCuts_is (Bytes.wf hw)
  rw [e1]
  simp only [optC]
  rcases NetOk_cases net with ⟨h, g1, g2⟩ | ⟨_, g1, g2⟩
  rotate_left
  · rw [I.FewestCuts_x g1, S.FewestCuts_x g2, g1]
    simp only
    rw [cnd_f (by decide), cnd_t (by decide), cnd_t (by decide), L.alive_is]
  have h6 := h.hi
  have h64 := h.pow
  rw [I.FewestCuts_y h g1, S.FewestCuts_y h g2]
  simp only
  rw [cnd_f (by simp), g1]
  simp only [Bool.not_true, cond_false]
  rw [I.WiresOf_n h g1]
  simp only
  have hL := leastI_is (CutBy net)
  by_cases hw : wires net = 0
  · rw [cnd_t (by rw [hw]; rfl)]
    rcases hL with ⟨e, _⟩ | ⟨m, e, hm, _⟩
    · rw [e]; rfl
    · exact absurd hw (cut_wire h hm).1
  rw [cnd_f (by rw [beq_eq_false_iff_ne]; omega)]
  rcases hL with ⟨e, hno⟩ | ⟨m, e, hm, hle⟩
  · obtain ⟨m, hm⟩ := wire_cut h hw
    exact absurd hm (hno m)
  rw [e]
  have hin : ∀ u, u < net.length → L.FnFewestCuts_run15 (m : Int) (u : Int) FUEL (0, net) = some (.inr net) := fun u hu => by
    refine (run_for (run := L.FnFewestCuts_run15 (m : Int) (u : Int)) (len := net.length) (fun k (_ : Unit) => ((k : Int), net)) (fun t k => ()) (fun _ => Sum.inr net) (fun k t => True) (by omega) (fun n k t hk ht => ?_) (fun n t ht => ?_) (t0 := ()) trivial).1
    · have hlu := h.lt64 hu
      have hlk := h.lt64 hk
      have hzu := size_le_len h (h.lt u hu)
      have hzk := size_le_len h (h.lt k hk)
      simp only [L.FnFewestCuts_run15, L.FnFewestCuts_step15]
      rw [cnd_t (by rw [decide_eq_true_eq]; omega), cnd_t (by rw [Bool.and_eq_true, decide_eq_true_eq, decide_eq_true_eq]; omega), cnd_t (by rw [decide_eq_true_eq]; omega), cnd_f (by simp), show D.eli net (u : Int).toNat = (nb net u : Int) by rw [Int.toNat_natCast]; exact h.eli hu, bit_shr _ _ (by omega), bool_eq1, add1_nat (by omega)]
      cases hb : (nb net u).testBit k with
      | false => exact ⟨rfl, trivial⟩
      | true =>
        have hmin := hle _ (iso_cut h hu hk hb)
        have hpos : 1 ≤ size (nb net u) := by
          rw [nb_size h hu]
          have := sumN_pos (n := net.length) (f := fun j => ((nb net u).testBit j).toNat) hk
          simp only [hb, Bool.toNat_true] at this
          exact this
        rw [cond_true, cnd_t (by rw [Bool.and_eq_true, decide_eq_true_eq, decide_eq_true_eq]; omega), cnd_t (by rw [decide_eq_true_eq]; omega), L.sizeOf_n (by omega)]
        simp only [optC]
        rw [cnd_t (by rw [Bool.and_eq_true, decide_eq_true_eq, decide_eq_true_eq]; omega), cnd_t (by rw [decide_eq_true_eq]; omega), show D.eli net (k : Int).toNat = (nb net k : Int) by rw [Int.toNat_natCast]; exact h.eli hk, L.sizeOf_n (by omega)]
        simp only
        rw [i64_wrap (n := ((size (nb net u) : Nat) : Int) + ((size (nb net k) : Nat) : Int)) (by omega) (by omega), i64_wrap (by omega) (by omega), cnd_f (by rw [decide_eq_false_iff_not]; omega)]
        exact ⟨rfl, trivial⟩
    · simp only [L.FnFewestCuts_run15, L.FnFewestCuts_step15]
      rw [cnd_f (by rw [decide_eq_false_iff_not]; omega)]
  have loop := (run_for (run := L.FnFewestCuts_run12 (m : Int)) (len := net.length) (fun k (_ : Unit) => ((k : Int), net)) (fun t k => ()) (fun _ => Sum.inr net) (fun k t => True) (by omega) (fun n k t hk ht => ?_) (fun n t ht => ?_) (t0 := ()) trivial).1
  · rw [show L.FnFewestCuts_run12 (m : Int) FUEL (0, net) = _ from loop]
    simp only [sumC]
    have h1m := (cut_wire h hm).2
    rw [cnd_t (by rw [decide_eq_true_eq]; omega), I.ForestOk_y h g1]
    simp only
    cases hf : forestB net with
    | false => rfl
    | true =>
      obtain ⟨k, k2, hk⟩ := forest_cut h (forestB_iff.1 hf) hw
      have := hle k hk
      simp only [Bool.not_true, cond_false]
      congr 1
      rw [decide_eq_true_eq]; omega
  · simp only [L.FnFewestCuts_run12, L.FnFewestCuts_step12]
    rw [cnd_t (by rw [decide_eq_true_eq]; omega), hin k hk, add1_nat (by omega)]
    exact ⟨rfl, trivial⟩
  · simp only [L.FnFewestCuts_run12, L.FnFewestCuts_step12]
    rw [cnd_f (by rw [decide_eq_false_iff_not]; omega)]
theorem L.FnFewestJoins_is {code : List Int} (hm : code.length ≤ maxLen) (hw : ∀ n ∈ code, (Lit.int .u8 n).wf = true) : L.FnFewestJoins_t code = some true := by
  unfold L.FnFewestJoins_t L.FnFewestJoins_tree
  by_cases hc : (code.length : Int) > 1048576
  · rw [cnd_t (by simpa using hc)]
  rw [cnd_f (by simpa using hc)]
  obtain ⟨net, e1, h1⟩ := S.DrawFewestJoins_is (Bytes.wf hw)
  rw [e1]
  simp only [optC]
  rcases NetOk_cases net with ⟨h, g1, g2⟩ | ⟨_, g1, g2⟩
  rotate_left
  · rw [I.FewestJoins_x g1, S.FewestJoins_x g2, g1]
    simp only
    rw [cnd_f (by decide), cnd_t (by decide), cnd_t (by decide), L.alive_is]
  have h6 := h.hi
  rw [I.FewestJoins_y h g1, S.FewestJoins_y h g2]
  simp only
  rw [cnd_f (by simp), g1]
  simp only [Bool.not_true, cond_false]
  rw [I.FewestWatch_y h g1]
  simp only
  have hpos := fewest_pos h
  have hfl := fewest_le h
  rw [(leastI_is (JoinBy net)).uniq (joins_is h)]
  by_cases h2 : 2 ≤ fewest net
  · have hsl := seenMost_le h (fewest net - 1)
    rw [if_pos h2, cnd_f (by rw [beq_eq_false_iff_ne]; omega), i64_wrap (by omega) (by omega), I.SeenMost_n h g1]
    simp only
    have hse : seenI net (((fewest net : Nat) : Int) - 1) = ((seenMost net (fewest net - 1) : Nat) : Int) := by
      unfold seenI
      rw [if_neg (by omega), show (((fewest net : Nat) : Int) - 1).toNat = fewest net - 1 by omega]
    rw [hse, i64_wrap (by omega) (by omega)]
    congr 1
    rw [beq_iff_eq]; omega
  · rw [if_neg h2, cnd_t (by rw [beq_iff_eq]; omega)]; rfl
theorem L.FnSeenMost_is {code : List Int} (hm : code.length ≤ maxLen) (hw : ∀ n ∈ code, (Lit.int .u8 n).wf = true) : L.FnSeenMost_t code = some true := by
  unfold L.FnSeenMost_t L.FnSeenMost_tree
  by_cases hc : (code.length : Int) > 1048576
  · rw [cnd_t (by simpa using hc)]
  rw [cnd_f (by simpa using hc)]
  obtain ⟨g, net, e1, h1, h2, h3⟩ := S.DrawSeenMost_is (Bytes.wf hw)
  rw [e1]
  simp only [optC]
  rcases NetOk_cases net with ⟨h, g1, g2⟩ | ⟨_, g1, g2⟩
  rotate_left
  · rw [I.SeenMost_x g1, S.SeenMost_x g2]
    simp only
    rw [cnd_f (by decide), cnd_t (by decide), cnd_t (by decide), L.alive_is]
  have h6 := h.hi
  rw [I.SeenMost_n h g1, S.SeenMost_n h g2]
  simp only
  rw [cnd_f (by simp)]
  by_cases hg : g < 0
  · have : seenI net g = -1 := by unfold seenI; rw [if_pos hg]
    rw [this, cnd_t (by decide), cnd_t (by decide), L.alive_is]
  · obtain ⟨k, rfl⟩ : ∃ k : Nat, g = k := ⟨g.toNat, by omega⟩
    have e2 : seenI net (k : Int) = ((seenMost net k : Nat) : Int) := by unfold seenI; rw [if_neg hg, Int.toNat_natCast]
    have e3 : seenI net ((k + 1 : Nat) : Int) = ((seenMost net (k + 1) : Nat) : Int) := by unfold seenI; rw [if_neg (by omega), Int.toNat_natCast]
    have f1 := seenMost_mono (net := net) (show k ≤ k + 1 by omega)
    have f2 := seenMost_all h k
    have f3 := seenMost_min h k
    rw [e2, cnd_f (by rw [decide_eq_false_iff_not]; omega), add1_nat (by omega), I.SeenMost_n h g1, e3]
    simp only
    rw [cnd_t (by rw [decide_eq_true_eq]; omega), I.FewestWatch_y h g1]
    simp only
    have hb : (((seenMost net k : Nat) : Int) == (net.length : Int)) = decide ((k : Int) ≥ ((fewest net : Nat) : Int)) := by
      rw [Bool.eq_iff_iff, beq_iff_eq, decide_eq_true_eq]
      constructor
      · intro e; have := f2.1 (by omega); omega
      · intro e; have := f2.2 (by omega); omega
    rw [cnd_t (by rw [hb]; simp)]
    congr 1
    rw [decide_eq_true_eq]
    split <;> omega
end Go.Proofs.Ytlamfgocbekgpaa
/- Exact laws of chapters 15 and 16. Conditions: those of each theorem. -/
namespace Go.Proofs.Ytlamfgocbekgpaa
open D Go.RowKit
set_option linter.unusedVariables false
set_option linter.unusedSimpArgs false


theorem FewestCuts_same {a0 : List Int} : ∃ v, S.FewestCuts_t a0 = some v ∧ I.FewestCuts_t a0 = some v := by
  rcases NetOk_cases a0 with ⟨h, e1, e2⟩ | ⟨_, e1, e2⟩
  · exact ⟨_, S.FewestCuts_y h e2, I.FewestCuts_y h e1⟩
  · exact ⟨_, S.FewestCuts_x e2, I.FewestCuts_x e1⟩
theorem L.FnExactFewestCuts_is {a0 : List Int} : L.FnExactFewestCuts_t a0 = some true := by
  unfold L.FnExactFewestCuts_t L.FnExactFewestCuts_tree
  by_cases ha0 : (a0.length : Int) > 1048576
  · rw [cnd_t (by simpa using ha0)]
  rw [cnd_f (by simpa using ha0)]
  have ta0 := L.toIntS_is (a := a0) (by omega)
  have ea0 := L.eqIntS_is (a := a0) (b := a0) (by omega)
  obtain ⟨b, h1, h2⟩ := FewestCuts_same (a0 := a0)
  simp only [optC, ta0, ea0, h1, h2]
  simp
theorem FewestJoins_same {a0 : List Int} : ∃ v, S.FewestJoins_t a0 = some v ∧ I.FewestJoins_t a0 = some v := by
  rcases NetOk_cases a0 with ⟨h, e1, e2⟩ | ⟨_, e1, e2⟩
  · exact ⟨_, S.FewestJoins_y h e2, I.FewestJoins_y h e1⟩
  · exact ⟨_, S.FewestJoins_x e2, I.FewestJoins_x e1⟩
theorem L.FnExactFewestJoins_is {a0 : List Int} : L.FnExactFewestJoins_t a0 = some true := by
  unfold L.FnExactFewestJoins_t L.FnExactFewestJoins_tree
  by_cases ha0 : (a0.length : Int) > 1048576
  · rw [cnd_t (by simpa using ha0)]
  rw [cnd_f (by simpa using ha0)]
  have ta0 := L.toIntS_is (a := a0) (by omega)
  have ea0 := L.eqIntS_is (a := a0) (b := a0) (by omega)
  obtain ⟨b, h1, h2⟩ := FewestJoins_same (a0 := a0)
  simp only [optC, ta0, ea0, h1, h2]
  simp
theorem WireCut_same {a0 : List Int} {a1 : Int} {a2 : Int} : ∃ v, S.WireCut_t a0 a1 a2 = some v ∧ I.WireCut_t a0 a1 a2 = some v ∧ v.length ≤ 1000000 := by
  rcases NetOk_cases a0 with ⟨h, e1, e2⟩ | ⟨_, e1, e2⟩
  · have h6 := h.hi
    refine ⟨_, S.WireCut_n h e2 a1 a2, I.WireCut_n h e1 a1 a2, ?_⟩
    unfold cutL; split
    · rw [turn_len]; omega
    · simp
  · exact ⟨_, S.WireCut_x e2 a1 a2, I.WireCut_x e1 a1 a2, by simp⟩
theorem L.FnExactWireCut_is {a0 : List Int} {a1 : Int} {a2 : Int} : L.FnExactWireCut_t a0 a1 a2 = some true := by
  unfold L.FnExactWireCut_t L.FnExactWireCut_tree
  by_cases ha0 : (a0.length : Int) > 1048576
  · rw [cnd_t (by simpa using ha0)]
  rw [cnd_f (by simpa using ha0)]
  have ta0 := L.toIntS_is (a := a0) (by omega)
  have ea0 := L.eqIntS_is (a := a0) (b := a0) (by omega)
  obtain ⟨v, h1, h2, hv⟩ := WireCut_same (a0 := a0) (a1 := a1) (a2 := a2)
  obtain ⟨m, m1, m4⟩ := L.marked (v := v) (by omega)
  have ev := L.eqIntS_is (a := v) (b := v) (by omega)
  obtain ⟨ma0, ka0, _, _⟩ := L.markIntS_is (a := a0) (k0 := 1) (by omega) (by omega)
  have ka0' : L.markIntS_t a0 1 = _ := ka0
  simp only [optC, ta0, ea0, h1, h2, ev, m1, m4, ka0', decide_true, Bool.not_true, cond_false, neg_nat, not_beq_self]
theorem WireJoined_same {a0 : List Int} {a1 : Int} {a2 : Int} : ∃ v, S.WireJoined_t a0 a1 a2 = some v ∧ I.WireJoined_t a0 a1 a2 = some v ∧ v.length ≤ 1000000 := by
  rcases NetOk_cases a0 with ⟨h, e1, e2⟩ | ⟨_, e1, e2⟩
  · have h6 := h.hi
    refine ⟨_, S.WireJoined_n h e2 a1 a2, I.WireJoined_n h e1 a1 a2, ?_⟩
    unfold joinL; split
    · rw [turn_len]; omega
    · simp
  · exact ⟨_, S.WireJoined_x e2 a1 a2, I.WireJoined_x e1 a1 a2, by simp⟩
theorem L.FnExactWireJoined_is {a0 : List Int} {a1 : Int} {a2 : Int} : L.FnExactWireJoined_t a0 a1 a2 = some true := by
  unfold L.FnExactWireJoined_t L.FnExactWireJoined_tree
  by_cases ha0 : (a0.length : Int) > 1048576
  · rw [cnd_t (by simpa using ha0)]
  rw [cnd_f (by simpa using ha0)]
  have ta0 := L.toIntS_is (a := a0) (by omega)
  have ea0 := L.eqIntS_is (a := a0) (b := a0) (by omega)
  obtain ⟨v, h1, h2, hv⟩ := WireJoined_same (a0 := a0) (a1 := a1) (a2 := a2)
  obtain ⟨m, m1, m4⟩ := L.marked (v := v) (by omega)
  have ev := L.eqIntS_is (a := v) (b := v) (by omega)
  obtain ⟨ma0, ka0, _, _⟩ := L.markIntS_is (a := a0) (k0 := 1) (by omega) (by omega)
  have ka0' : L.markIntS_t a0 1 = _ := ka0
  simp only [optC, ta0, ea0, h1, h2, ev, m1, m4, ka0', decide_true, Bool.not_true, cond_false, neg_nat, not_beq_self]
theorem SeenMost_same {a0 : List Int} {a1 : Int} : ∃ v, S.SeenMost_t a0 a1 = some v ∧ I.SeenMost_t a0 a1 = some v := by
  rcases NetOk_cases a0 with ⟨h, e1, e2⟩ | ⟨_, e1, e2⟩
  · exact ⟨_, S.SeenMost_n h e2 a1, I.SeenMost_n h e1 a1⟩
  · exact ⟨_, S.SeenMost_x e2 a1, I.SeenMost_x e1 a1⟩
theorem L.FnExactSeenMost_is {a0 : List Int} {a1 : Int} : L.FnExactSeenMost_t a0 a1 = some true := by
  unfold L.FnExactSeenMost_t L.FnExactSeenMost_tree
  by_cases ha0 : (a0.length : Int) > 1048576
  · rw [cnd_t (by simpa using ha0)]
  rw [cnd_f (by simpa using ha0)]
  have ta0 := L.toIntS_is (a := a0) (by omega)
  have ea0 := L.eqIntS_is (a := a0) (b := a0) (by omega)
  obtain ⟨b, h1, h2⟩ := SeenMost_same (a0 := a0) (a1 := a1)
  simp only [optC, ta0, ea0, h1, h2]
  simp
end Go.Proofs.Ytlamfgocbekgpaa
