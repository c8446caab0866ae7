/- What drawn nets are. Conditions: those of each theorem. -/
import Derived.Test.YtonbbeplmjidnaaNt2
namespace Go.Proofs.Ytonbbeplmjidnaa
open D Go.RowKit
set_option linter.unusedVariables false
set_option linter.unusedSimpArgs false


/-- A code of bytes. -/
def Bytes (rb : List Int) : Prop := ∀ n ∈ rb, 0 ≤ n ∧ n ≤ 255
theorem Bytes.eli {rb : List Int} (h : Bytes rb) (k : Nat) : 0 ≤ D.eli rb k ∧ D.eli rb k ≤ 255 := by
  by_cases hk : k < rb.length
  · have : D.eli rb k = rb[k] := by simp [D.eli, List.getD, hk]
    rw [this]; exact h _ (List.getElem_mem hk)
  · have : D.eli rb k = 0 := by simp [D.eli, List.getD, List.getElem?_eq_none (by omega : rb.length ≤ k)]
    rw [this]; decide
theorem Bytes.wf {rb : List Int} (h : ∀ n ∈ rb, (Lit.int .u8 n).wf = true) : Bytes rb := fun n hn => by
  have := h n hn
  have e1 : IntKind.u8.min = 0 := by kernel_rfl
  have e2 : IntKind.u8.max = 255 := by kernel_rfl
  simpa [Lit.wf, e1, e2] using this

theorem xor_pos {a b : Int} (ha : 0 ≤ a ∧ a < 9223372036854775808) (hb : 0 ≤ b ∧ b < 9223372036854775808) : 0 ≤ bits .xor .i64 a b := by
  obtain ⟨x, rfl⟩ := Int.eq_ofNat_of_zero_le ha.1
  obtain ⟨y, rfl⟩ := Int.eq_ofNat_of_zero_le hb.1
  rw [i64_xor_nat x y (by omega) (by omega)]
  omega

theorem S.l20Rd_pick_is {rb : List Int} {rp n : Int} (hb : Bytes rb) (hl : rb.length ≤ 2000) (h0 : 0 ≤ rp) (h1 : rp ≤ 1099511627776) :
    ∃ v, S.l20Rd_pick_t rb rp n = some (v, rb, rp + 1) ∧ 0 ≤ v ∧ (1 ≤ n → v < n) := by
  unfold S.l20Rd_pick_t S.l20Rd_pick_tree
  have e1 : IntKind.i64.wrap (rp + 1) = rp + 1 := i64_wrap (by omega) (by omega)
  have e2 : IntKind.i64.wrap (rp + 1 - 1) = rp := by rw [i64_wrap (by omega) (by omega)]; omega
  rw [e1, e2]
  by_cases hn : n < 1
  · rw [cnd_t (by simpa using hn)]; exact ⟨_, rfl, Int.le_refl _, fun h => by omega⟩
  rw [cnd_f (by simpa using hn)]
  by_cases hz : rb.length = 0
  · rw [cnd_t (by simp [hz])]; exact ⟨_, rfl, Int.le_refl _, fun h => by omega⟩
  have hnz : (n == 0) = false := by simp; omega
  have hlz : ((rb.length : Int) == 0) = false := by simp; exact fun h => hz (by simp [h])
  rw [cnd_f hlz]
  have fin : ∀ x : Int, 0 ≤ x → 0 ≤ x.tmod n ∧ (1 ≤ n → x.tmod n < n) := fun x hx => ⟨Int.tmod_nonneg _ hx, fun h => Int.tmod_lt_of_pos _ (by omega)⟩
  by_cases hx : rp < rb.length
  · rw [cnd_t (by simpa using hx), cnd_t (by simp; omega), cnd_f hnz]
    have hv := hb.eli rp.toNat
    rw [i64_wrap (n := D.eli rb rp.toNat) (by omega) (by omega)]
    exact ⟨_, rfl, fin _ hv.1⟩
  · rw [cnd_f (by simpa using hx), cnd_f hlz]
    have hL : 0 < (rb.length : Int) := by omega
    have m1 : 0 ≤ rp.tmod rb.length := Int.tmod_nonneg _ h0
    have m2 : rp.tmod rb.length < rb.length := Int.tmod_lt_of_pos _ hL
    rw [cnd_t (by simp; omega), cnd_f hlz]
    have e3 : IntKind.i64.wrap (IntKind.i64.wrap (rp * 7) + 3) = rp * 7 + 3 := by rw [i64_wrap (n := rp * 7) (by omega) (by omega)]; exact i64_wrap (by omega) (by omega)
    rw [e3]
    have m3 : 0 ≤ (rp * 7 + 3).tmod rb.length := Int.tmod_nonneg _ (by omega)
    have m4 : (rp * 7 + 3).tmod rb.length < rb.length := Int.tmod_lt_of_pos _ hL
    rw [cnd_t (by simp; omega), cnd_f hlz, cnd_f hnz]
    have d1 : 0 ≤ rp.tdiv rb.length := Int.tdiv_nonneg h0 (by omega)
    have d2 : rp.tdiv rb.length ≤ rp := Int.tdiv_le_self _ h0
    have v1 := hb.eli (rp.tmod rb.length).toNat
    have v2 := hb.eli ((rp * 7 + 3).tmod rb.length).toNat
    generalize rp.tdiv rb.length = d at d1 d2
    generalize D.eli rb (rp.tmod rb.length).toNat = b1 at v1
    generalize D.eli rb ((rp * 7 + 3).tmod rb.length).toNat = b2 at v2
    have key : ∀ x : Int, 0 ≤ x → x < 9223372036854775808 → 0 ≤ bits .xor .i64 x (IntKind.i64.wrap (x.tdiv 64)) := fun x hx0 hx1 => by
      have a1 : 0 ≤ x.tdiv 64 := Int.tdiv_nonneg hx0 (by decide)
      have a2 : x.tdiv 64 ≤ x := Int.tdiv_le_self _ hx0
      rw [i64_wrap (by omega) (by omega)]
      exact xor_pos ⟨hx0, hx1⟩ ⟨a1, by omega⟩
    refine ⟨_, rfl, fin _ (key _ ?_ ?_)⟩ <;> simp (disch := omega) only [i64_wrap] <;> omega
theorem cnd_case {α : Type} {P : α → Prop} {b : Bool} {x y : α} (h1 : b = true → P x) (h2 : b = false → P y) : P (bif b then x else y) := by
  cases b with
  | true => exact h1 rfl
  | false => exact h2 rfl
theorem S.l20Net_p8 {α : Type} (P : α → Prop) {x1 x5 x7 x8 x9 rp : Int} {rb r : List Int} {next : Int × (List Int) × Int × (List Int) → α} {out : (List Int) × Int × (List Int) → α} {fail : α}
    (hb : Bytes rb) (hl : rb.length ≤ 2000) (h0 : 0 ≤ rp) (h1 : rp ≤ 1099511627000) (h9 : 0 ≤ x9) (h8 : x8 < r.length) (hr : r.length ≤ 1048576)
    (hleaf : x9 < x8 → ∀ rp' r', rp < rp' → rp' ≤ rp + 2 → r'.length = r.length → P (next (x9 + 1, rb, rp', r')))
    (hout : ¬ x9 < x8 → P (out (rb, rp, r))) : P (S.l20Net_step8 x1 x5 x7 x8 x9 rb rp r next out fail) := by
  unfold S.l20Net_step8
  refine cnd_case (P := P) (fun h => ?_) (fun h => hout (by simpa using h))
  have hlt : x9 < x8 := by simpa using h
  obtain ⟨v, hv, _, _⟩ := S.l20Rd_pick_is (n := 3) hb hl h0 (by omega)
  obtain ⟨v', hv', _, _⟩ := S.l20Rd_pick_is (n := 3) (rp := rp + 1) hb hl (by omega) (by omega)
  rw [hv]
  simp only [optC]
  rw [hv']
  simp only [optC]
  rw [i64_wrap (n := x9 + 1) (by omega) (by omega)]
  repeat' first
    | exact hleaf hlt _ _ (by omega) (by omega) (by simp)
    | rw [cnd_t (by simp; omega)]
    | rw [cnd_f (by simp; omega)]
    | refine cnd_case (P := P) (fun _ => ?_) (fun _ => ?_)
theorem S.l20Net_q8 {x1 x5 x7 x8 rp : Int} {rb r : List Int} (hb : Bytes rb) (hl : rb.length ≤ 2000) (h0 : 0 ≤ rp) (h1 : rp ≤ 1099511620000) (hx : 0 ≤ x8) (h8 : x8 < r.length) (h6 : x8 ≤ 100) (hr : r.length ≤ 1048576) :
    ∃ d, S.l20Net_run8 x1 x5 x7 x8 FUEL (0, rb, rp, r) = some d ∧ d.1 = rb ∧ rp ≤ d.2.1 ∧ d.2.1 ≤ rp + 2 * x8 ∧ d.2.2.length = r.length := by
  refine run_post (run := S.l20Net_run8 x1 x5 x7 x8) (fun s => s.2.1 = rb ∧ 0 ≤ s.1 ∧ s.1 ≤ x8 ∧ rp ≤ s.2.2.1 ∧ s.2.2.1 ≤ rp + 2 * s.1 ∧ s.2.2.2.length = r.length) (fun s => (x8 - s.1).toNat) (fun d => d.1 = rb ∧ rp ≤ d.2.1 ∧ d.2.1 ≤ rp + 2 * x8 ∧ d.2.2.length = r.length) ?_ ?_ ?_
  · rintro n ⟨x9, rb', rp', r'⟩ ⟨i0, i1, i2, i3, i4, i5⟩
    simp only at i0 i1 i2 i3 i4 i5
    subst i0
    refine S.l20Net_p8 (x1 := x1) (x5 := x5) (x7 := x7) (x8 := x8) (x9 := x9) (rp := rp') (rb := rb') (r := r') (next := S.l20Net_run8 x1 x5 x7 x8 n) (out := fun d => some d) (fail := none) (fun t => (∃ d, t = some d ∧ (d.1 = rb' ∧ rp ≤ d.2.1 ∧ d.2.1 ≤ rp + 2 * x8 ∧ d.2.2.length = r.length)) ∨ ∃ s', t = S.l20Net_run8 x1 x5 x7 x8 n s' ∧ (s'.2.1 = rb' ∧ 0 ≤ s'.1 ∧ s'.1 ≤ x8 ∧ rp ≤ s'.2.2.1 ∧ s'.2.2.1 ≤ rp + 2 * s'.1 ∧ s'.2.2.2.length = r.length) ∧ (x8 - s'.1).toNat < (x8 - x9).toNat) hb hl (by omega) (by omega) i1 (by omega) (by omega) (fun hlt rp2 r2 a1 a2 a3 => .inr ⟨_, rfl, ⟨rfl, ?_, ?_, ?_, ?_, ?_⟩, ?_⟩) (fun hge => .inl ⟨_, rfl, rfl, ?_, ?_, ?_⟩) <;> simp only <;> omega
  · exact ⟨rfl, by simp only; omega, by simp only; omega, by simp only; omega, by simp only; omega, rfl⟩
  · simp only; omega
theorem S.l20Net_q5 {x1 x5 x7 rp : Int} {rb r : List Int} (hb : Bytes rb) (hl : rb.length ≤ 2000) (h0 : 0 ≤ rp) (h1 : rp ≤ 1099511600000) (hx : 0 ≤ x5) (h5 : x5 = r.length) (h6 : x5 ≤ 6) :
    ∃ d, S.l20Net_run5 x1 x5 x7 FUEL (0, rb, rp, r) = some d ∧ d.1 = rb ∧ rp ≤ d.2.1 ∧ d.2.1 ≤ rp + 100 ∧ d.2.2.length = r.length := by
  refine run_post (run := S.l20Net_run5 x1 x5 x7) (fun s => s.2.1 = rb ∧ 0 ≤ s.1 ∧ s.1 ≤ x5 ∧ rp ≤ s.2.2.1 ∧ s.2.2.1 ≤ rp + 12 * s.1 ∧ s.2.2.2.length = r.length) (fun s => (x5 - s.1).toNat) (fun d => d.1 = rb ∧ rp ≤ d.2.1 ∧ d.2.1 ≤ rp + 100 ∧ d.2.2.length = r.length) ?_ ?_ ?_
  · rintro n ⟨x8, rb', rp', r'⟩ ⟨i0, i1, i2, i3, i4, i5⟩
    simp only at i0 i1 i2 i3 i4 i5
    subst i0
    simp only [S.l20Net_run5, S.l20Net_step5]
    by_cases hlt : x8 < x5
    · rw [cnd_t (by simpa using hlt)]
      obtain ⟨⟨d1, d2, d3⟩, e1, e2, e3, e4, e5⟩ := S.l20Net_q8 (x1 := x1) (x5 := x5) (x7 := x7) (x8 := x8) (r := r') hb hl (by omega : 0 ≤ rp') (by omega) i1 (by omega) (by omega) (by omega)
      simp only at e2 e3 e4 e5
      rw [e1]
      simp only [optC]
      rw [i64_wrap (n := x8 + 1) (by omega) (by omega)]
      refine .inr ⟨_, rfl, ⟨e2, ?_, ?_, ?_, ?_, ?_⟩, ?_⟩ <;> simp only <;> omega
    · rw [cnd_f (by simpa using hlt)]
      refine .inl ⟨_, rfl, rfl, ?_, ?_, ?_⟩ <;> simp only <;> omega
  · exact ⟨rfl, by simp only; omega, by simp only; omega, by simp only; omega, by simp only; omega, rfl⟩
  · simp only; omega
theorem S.l20Rd_odd_is {rb : List Int} {rp n : Int} (hb : Bytes rb) (hl : rb.length ≤ 2000) (h0 : 0 ≤ rp) (h1 : rp ≤ 1099511627776) :
    ∃ b rp', S.l20Rd_odd_t rb rp n = some (b, rb, rp') ∧ rp ≤ rp' ∧ rp' ≤ rp + 1 := by
  unfold S.l20Rd_odd_t S.l20Rd_odd_tree
  by_cases hn : n > 0
  · rw [cnd_t (by simpa using hn)]
    obtain ⟨v, hv, _, _⟩ := S.l20Rd_pick_is (n := n) hb hl h0 h1
    rw [hv]
    exact ⟨_, rp + 1, rfl, by omega, by omega⟩
  · rw [cnd_f (by simpa using hn)]
    exact ⟨_, rp, rfl, by omega, by omega⟩
theorem S.l20Net_is {rb : List Int} {rp n : Int} (hb : Bytes rb) (hl : rb.length ≤ 2000) (h0 : 0 ≤ rp) (h1 : rp ≤ 1000000) :
    ∃ rp' net, S.l20Net_t rb rp n = some (rb, rp', net) ∧ rp ≤ rp' ∧ rp' ≤ rp + 200 ∧ net.length ≤ 6 := by
  unfold S.l20Net_t
  have gen : ∀ {α : Type} (P : α → Prop) (leaf : (List Int) × Int × (List Int) → α) (fail : α), (∀ rp' net, rp ≤ rp' → rp' ≤ rp + 200 → net.length ≤ 6 → P (leaf (rb, rp', net))) → P (S.l20Net_tree rb rp n leaf fail) := by
    intro α P leaf fail hleaf
    unfold S.l20Net_tree
    obtain ⟨v1, e1, a1, a2⟩ := S.l20Rd_pick_is (n := 6) hb hl h0 (by omega)
    have a2' := a2 (by decide)
    rw [e1]
    simp only [optC]
    rw [i64_wrap (n := 1 + v1) (by omega) (by omega)]
    rw [cnd_t (by simp [small]; omega)]
    obtain ⟨v2, e2, _, _⟩ := S.l20Rd_pick_is (n := 4) (rp := rp + 1) hb hl (by omega) (by omega)
    rw [e2]
    simp only
    obtain ⟨⟨d1, d2, d3⟩, e3, f1, f2, f3, f4⟩ := S.l20Net_q5 (x1 := n) (x5 := 1 + v1) (x7 := v2) (rp := rp + 1 + 1) (r := List.replicate (1 + v1).toNat 0) hb hl (by omega) (by omega) (by omega) (by simp; omega) (by omega)
    simp only at f1 f2 f3 f4
    subst f1
    rw [e3]
    simp only [List.length_replicate] at f4 ⊢
    obtain ⟨b, rp4, e4, g1, g2⟩ := S.l20Rd_odd_is (n := n) (rp := d2) hb hl (by omega) (by omega)
    rw [e4]
    simp only
    obtain ⟨v5, e5, _, _⟩ := S.l20Rd_pick_is (n := 3) (rp := rp4) hb hl (by omega) (by omega)
    rw [e5]
    simp only
    have e6 : IntKind.i64.wrap (1 + v1 - 1) = v1 := by rw [i64_wrap (by omega) (by omega)]; omega
    rw [e6]
    repeat' first
      | exact hleaf _ _ (by omega) (by omega) (by (try simp only [List.length_set, List.length_nil]); omega)
      | rw [cnd_t (by simp; omega)]
      | rw [cnd_f (by simp; omega)]
      | refine cnd_case (P := P) (fun _ => ?_) (fun _ => ?_)
  exact gen (fun t => ∃ rp' net, t = some (rb, rp', net) ∧ rp ≤ rp' ∧ rp' ≤ rp + 200 ∧ net.length ≤ 6) (fun d => some d) none (fun rp' net a b c => ⟨rp', net, rfl, a, b, c⟩)
theorem S.l20Open_is {code : List Int} (hb : Bytes code) : ∃ rb, S.l20Open_t code = some (rb, 0) ∧ Bytes rb ∧ rb.length ≤ 2000 := by
  unfold S.l20Open_t S.l20Open_tree
  by_cases h : (code.length : Int) > 2000
  · rw [cnd_t (by simpa using h), cnd_t (by simp; omega)]
    refine ⟨_, rfl, fun n hn => hb n ?_, ?_⟩
    · exact List.mem_of_mem_drop (List.mem_of_mem_take hn)
    · rw [List.length_take]; exact Nat.min_le_left _ _
  · rw [cnd_f (by simpa using h)]
    exact ⟨_, rfl, hb, by omega⟩
end Go.Proofs.Ytonbbeplmjidnaa
