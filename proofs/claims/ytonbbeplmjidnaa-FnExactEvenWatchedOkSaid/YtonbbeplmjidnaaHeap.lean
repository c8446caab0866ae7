/- Operations on rows and blocks. Conditions: those of each theorem. -/
import Derived.Test.YtonbbeplmjidnaaOps
namespace Go.Proofs.Ytonbbeplmjidnaa.D
open Go.RowKit
set_option linter.unusedVariables false
set_option linter.unusedSimpArgs false

theorem add_none (b off k : Nat) : (⟨b, off, none⟩ : Addr).add k = ⟨b, off + k, none⟩ := by
  unfold Addr.add; split
  · rename_i h; subst h; rfl
  · rfl

theorem L.cut_len {l : L} {a n : Nat} (h : a + n ≤ l.len) : (l.cut a n).len = n := by
  cases l <;> simp [L.cut, L.len] at h ⊢ <;> omega
theorem L.cut_at {l : L} {a n j : Nat} (h : a + n ≤ l.len) (hj : j < n) : (l.cut a n).at_ j = l.at_ (a + j) := by
  cases l <;> simp [L.cut, L.at_, L.len, eli, elb, els, elr, List.getD, List.getElem?_take, hj]
theorem L.app_len {l m r : L} (h : l.app m = some r) : r.len = l.len + m.len := by
  cases l <;> cases m <;> simp [L.app] at h
  · obtain ⟨_, rfl⟩ := h; simp [L.len]
  all_goals (subst h; simp [L.len])
theorem L.app_at {l m r : L} (h : l.app m = some r) (j : Nat) : r.at_ j = if j < l.len then l.at_ j else m.at_ (j - l.len) := by
  cases l <;> cases m <;> simp [L.app] at h
  · obtain ⟨rfl, rfl⟩ := h
    simp only [L.len, L.at_, eli, List.getD, List.getElem?_append]
    split <;> simp_all
    all_goals (intro; omega)
  all_goals
    subst h
    simp only [L.len, L.at_, elb, els, elr, List.getD, List.getElem?_append]
    split <;> simp_all
    all_goals (intro; omega)

/-- The atom that a value is. -/
def V.atom : V → Option Atom
  | .int k n => some (.int k n)
  | .bool b => some (.bool b)
  | .str s => some (.str s)
  | _ => none
theorem L.set_ok {l l' : L} {i : Nat} {v : V} (h : l.set_ i v = some l') : l'.len = l.len ∧ ∃ a, v.atom = some a ∧ (∀ j, j < l.len → l'.at_ j = if j = i then a else l.at_ j) := by
  cases l <;> cases v <;> simp [L.set_] at h
  · obtain ⟨rfl, rfl⟩ := h
    refine ⟨by simp [L.len], _, rfl, fun j hj => ?_⟩
    simp only [L.at_, eli, List.getD, L.len] at hj ⊢
    by_cases hji : j = i
    · subst hji; simp [hj]
    · have : ¬ i = j := fun e => hji e.symm
      simp [hji, this]
  · subst h
    refine ⟨by simp [L.len], _, rfl, fun j hj => ?_⟩
    simp only [L.at_, elb, List.getD, L.len] at hj ⊢
    by_cases hji : j = i
    · subst hji; simp [hj]
    · have : ¬ i = j := fun e => hji e.symm
      simp [hji, this]
  · subst h
    refine ⟨by simp [L.len], _, rfl, fun j hj => ?_⟩
    simp only [L.at_, els, List.getD, L.len] at hj ⊢
    by_cases hji : j = i
    · subst hji; simp [hj]
    · have : ¬ i = j := fun e => hji e.symm
      simp [hji, this]

theorem own_cells {w : World} {e : TypeId} {v : Value} {n : Nat} {xs : List Value} (h : w.ownsRow 0 e 1 v n xs) :
    ∃ a cap, v = .slice a n cap ∧ n ≤ cap ∧ cap ≤ maxLen ∧ xs.length = n ∧ (n = 0 ∨ ∃ g, a = some ⟨g, 0, none⟩ ∧ blk v = some g ∧ ∀ j, w.cell? ⟨g, j, none⟩ = xs[j]? ∨ n ≤ j) := by
  have hx : xs.length = n := by have := h.1; omega
  rcases h.2 with ⟨rfl, rfl⟩ | ⟨g, cap, cur, rfl, _, hg, hn, hm, hs, ht⟩
  · exact ⟨none, 0, rfl, Nat.le_refl _, by simp [maxLen], hx, .inl rfl⟩
  · refine ⟨_, cap, rfl, hn, hm, hx, .inr ⟨g, rfl, rfl, fun j => ?_⟩⟩
    rcases Nat.lt_or_ge j n with hj | hj
    · left
      rw [cell_of_row w g j cur e (0, 0) hg, ← ht, List.getElem?_take, if_pos (by omega)]
      simp
    · exact .inr hj

/-- A list in memory. -/
def Seen (c : Cx) (l : L) (v : Value) : Prop :=
  ∃ a cap, v = .slice a l.len cap ∧ l.len ≤ cap ∧ (l.len = 0 ∨ ∃ b off, a = some ⟨b, off, none⟩ ∧ ∀ j, j < l.len → ∃ y, c.w.cell? ⟨b, off + j, none⟩ = some y ∧ AtomR c (l.at_ j) y)

section
variable {P : Program} {c : Cx} {r : V × List E}

theorem seen_own (hr : Rel c) {id : Nat} {l : L} (hid : id < c.h.length) (hl : getE c.h id = .row l) : Seen c l (c.hv id) ∧ (l.len = 0 ∨ ∃ g cap, c.hv id = .slice (some ⟨g, 0, none⟩) l.len cap) := by
  have he := hr.ent id hid
  rw [hl] at he
  obtain ⟨e, xs, ho, ha⟩ := he
  obtain ⟨a, cap, hv, hn, _, hx, h0⟩ := own_cells ho
  refine ⟨⟨a, cap, hv, hn, ?_⟩, ?_⟩
  · rcases h0 with h0 | ⟨g, rfl, hb, hc⟩
    · exact .inl h0
    · refine .inr ⟨g, 0, rfl, fun j hj => ?_⟩
      obtain ⟨y, hy, hya⟩ := ha j hj
      refine ⟨y, ?_, hya⟩
      rcases hc j with h | h
      · rw [Nat.zero_add, h, hy]
      · omega
  · rcases h0 with h0 | ⟨g, rfl, hb, hc⟩
    · exact .inl h0
    · exact .inr ⟨g, cap, hv⟩

theorem list_ok (hr : Rel c) {x : V} {l : L} {vx : Value} (h : listOf c.h x = some l) (hx : VR c x vx) : Seen c l vx := by
  cases x with
  | ro s m =>
    simp [listOf] at h; subst h
    obtain ⟨a, cap, rfl, hc, h0⟩ := (show RoR c s m vx from hx)
    refine ⟨a, cap, rfl, hc, ?_⟩
    rcases h0 with h0 | ⟨b, off, ha, _, _, hcell⟩
    · exact .inl h0
    · exact .inr ⟨b, off, ha, hcell⟩
  | own id =>
    obtain ⟨hid, rfl⟩ := (show id < c.h.length ∧ vx = c.hv id from hx)
    simp only [listOf] at h
    split at h
    · rename_i l' hl
      simp at h; subst h
      exact (seen_own hr hid hl).1
    · cases h
  | sub id off n =>
    obtain ⟨hid, a, cap, rfl, hn, hg, hl⟩ := (show VR0 c (.sub id off n) vx from hx)
    simp only [listOf] at h
    split at h
    · rename_i l' hl'
      simp at h; subst h
      have hle := hl l' hl'
      refine ⟨a, cap, by rw [L.cut_len hle], by rw [L.cut_len hle]; exact hn, ?_⟩
      rw [L.cut_len hle]
      rcases hg with h0 | ⟨g, hbg, rfl⟩
      · exact .inl h0
      · rcases Nat.eq_zero_or_pos n with h0 | hp
        · exact .inl h0
        · refine .inr ⟨g, off, rfl, fun j hj => ?_⟩
          obtain ⟨⟨a', cap', hv, _, h0⟩, _⟩ := seen_own hr hid hl'
          rcases h0 with h0 | ⟨b, o, rfl, hc⟩
          · omega
          · obtain ⟨y, hy, hya⟩ := hc (off + j) (by omega)
            have e := seen_own hr hid hl'
            rcases e.2 with e0 | ⟨g', cap'', hv'⟩
            · omega
            · rw [hv'] at hv; cases hv
              rw [hv'] at hbg; simp [blk] at hbg; subst hbg
              rw [L.cut_at hle hj]
              exact ⟨y, by simpa using hy, hya⟩
    · cases h
  | _ => simp [listOf] at h

theorem atom_vr {c : Cx} {a : Atom} {y : Value} (h : AtomR c a y) : VR c a.v y := by
  cases a with
  | row xs =>
    obtain ⟨a, cap, rfl, hc, h0⟩ := h
    refine ⟨a, cap, rfl, hc, ?_⟩
    rcases h0 with h0 | ⟨b, off, ha, hF, hU, hcell⟩
    · exact .inl h0
    · exact .inr ⟨b, off, ha, fun _ => hF, hU, fun j hj => ⟨_, hcell j hj, rfl⟩⟩
  | _ => exact h

theorem idx_ok {TD : TypeId → Option TI} (hT : TyOk P TD) (hr : Rel c) {t e : TypeId} {i0 i1 : TI} (ht : TD t = some i0) (hd : i0.desc = .slice e) (he : TD e = some i1) (hsz : i1.size = 1)
    {x i : V} {κ : V → R} {vx vi : Value} (h : idxC x i c.h κ = some r) (hx : VR c x vx) (hi : VR c i vi) :
    ∃ v z, κ v = some r ∧ VR c v z ∧ (Instr.indexAt t vx vi).run P c.w = .ok z c.w := by
  obtain ⟨u1, _⟩ := hT.ok _ _ ht
  obtain ⟨_, f, hf, hfs, _⟩ := hT.ok _ _ he
  rw [hd] at u1
  have hrun : ∀ (b off len cap k : Nat) (kk : IntKind) (n : Int), 0 ≤ n → n < (len : Int) → (Instr.indexAt t (.slice (some ⟨b, off, none⟩) len cap) (.int kk n)).run P c.w = .ok (.pointer (some ⟨b, off + n.toNat, none⟩)) c.w := by
    intro b off len cap k kk n h0 h1
    have hs : f.size = 1 := by omega
    simp [Instr.indexAt, asIntOf, run_underlying u1, sizeOf, typeInfo, hf, hs, h0, h1, add_none]
  unfold idxC at h
  split at h
  · rename_i s l k n
    have ei := vr_int hi; subst ei
    obtain ⟨h1, h2⟩ := bif_some h
    simp only [idxOk, Bool.and_eq_true, decide_eq_true_eq] at h1
    obtain ⟨a, cap, rfl, hc, h0⟩ := (show RoR c s l vx from hx)
    rcases h0 with h0 | ⟨b, off, rfl, _, hU, hcell⟩
    · omega
    · obtain ⟨y, hy, hya⟩ := hcell n.toNat (by omega)
      exact ⟨_, .pointer (some ⟨b, off + n.toNat, none⟩), h2, ⟨b, _, y, rfl, hU, hy, hya⟩, hrun b off _ cap 0 k n h1.1 h1.2⟩
  · rename_i id k n
    have ei := vr_int hi; subst ei
    split at h
    · rename_i l hl
      obtain ⟨h1, h2⟩ := bif_some h
      simp only [idxOk, Bool.and_eq_true, decide_eq_true_eq] at h1
      obtain ⟨hid, rfl⟩ := (show id < c.h.length ∧ vx = c.hv id from hx)
      rcases (seen_own hr hid hl).2 with h0 | ⟨g, cap, hv⟩
      · omega
      · rw [hv]
        refine ⟨_, .pointer (some ⟨g, 0 + n.toNat, none⟩), h2, ⟨hid, g, by rw [hv]; rfl, by simp⟩, hrun g 0 _ cap 0 k n h1.1 h1.2⟩
    · cases h
  · rename_i id o m k n
    have ei := vr_int hi; subst ei
    split at h
    · rename_i l hl
      obtain ⟨h1, h2⟩ := bif_some h
      simp only [idxOk, Bool.and_eq_true, decide_eq_true_eq] at h1
      obtain ⟨hid, a, cap, rfl, hn, hg, hle⟩ := (show VR0 c (.sub id o m) vx from hx)
      rcases hg with h0 | ⟨g, hbg, rfl⟩
      · omega
      · exact ⟨_, .pointer (some ⟨g, o + n.toNat, none⟩), h2, ⟨hid, g, hbg, rfl⟩, hrun g o _ cap 0 k n h1.1 h1.2⟩
    · cases h
  · cases h

theorem load_ok (hr : Rel c) {t : TypeId} {d : TypeDesc} (hu : P.underlying t = some d) (hd : (∀ fs, d ≠ .struct fs) ∧ ∀ n e, d ≠ .array n e)
    {p : V} {κ : V → R} {vp : Value} (h : loadC p c.h κ = some r) (hp : VR c p vp) :
    ∃ v z, κ v = some r ∧ VR c v z ∧ (Instr.loadAt t vp).run P c.w = .ok z c.w := by
  have hrun : ∀ (b off : Nat) (y : Value), c.w.cell? ⟨b, off, none⟩ = some y → (Instr.loadAt t (.pointer (some ⟨b, off, none⟩))).run P c.w = .ok y c.w := by
    intro b off y hy
    have hagg : (isAgg t).run P c.w = .ok false c.w := by
      simp only [isAgg, Sem.run_bind, run_underlying hu, Result.andThen_ok]
      cases d <;> first | rfl | exact absurd rfl (hd.1 _) | exact absurd rfl (hd.2 _ _)
    simp [Instr.loadAt, Instr.sureAddr, loadVar, hagg, hy]
  unfold loadC at h
  split at h
  · rename_i a
    obtain ⟨b, off, y, rfl, hU, hy, hya⟩ := (show VR0 c (.ref a) vp from hp)
    exact ⟨_, y, h, atom_vr hya, hrun b off y hy⟩
  · rename_i id off
    obtain ⟨hid, g, hbg, rfl⟩ := (show VR0 c (.ptr id off) vp from hp)
    split at h
    · rename_i l hl
      obtain ⟨h1, h2⟩ := bif_some h
      have h1' : off < l.len := of_decide_eq_true h1
      rcases (seen_own hr hid hl).2 with h0 | ⟨g', cap, hv⟩
      · omega
      · obtain ⟨⟨a, cap', hv', _, h0⟩, _⟩ := seen_own hr hid hl
        rw [hv] at hv'; cases hv'
        rw [hv] at hbg; simp [blk] at hbg; subst hbg
        rcases h0 with h0 | ⟨b, o, hbo, hcell⟩
        · omega
        · cases hbo
          obtain ⟨y, hy, hya⟩ := hcell off h1'
          exact ⟨_, y, h2, atom_vr hya, hrun _ _ y (by simpa using hy)⟩
    · rename_i vs hl
      obtain ⟨h1, h2⟩ := bif_some h
      have h1' : off < vs.length := of_decide_eq_true h1
      have he := hr.ent id hid
      rw [hl] at he
      obtain ⟨b, e, cs, hv, hg, hs, ha⟩ := he
      rw [hv] at hbg; simp [blk] at hbg; subst hbg
      obtain ⟨y, hy, hya⟩ := ha off h1'
      exact ⟨_, y, h2, hya.vr, hrun _ _ y (by rw [cell_of_row c.w b off cs e (0, 0) hg]; exact hy)⟩
    · cases h
  · cases h

theorem len_ok (hr : Rel c) {t e ty : TypeId} (hu : P.underlying t = some (.slice e)) {x : V} {κ : V → R} {vx : Value} (h : lenC x c.h κ = some r) (hx : VR c x vx) :
    ∃ v z, κ v = some r ∧ VR c v z ∧ (Builtin.len_ #[t] ty #[vx]).run P c.w = .ok z c.w := by
  have hrun : ∀ a n cap, (Builtin.len_ #[t] ty #[.slice a n cap]).run P c.w = .ok (.int .i64 n) c.w := fun a n cap => by
    simp [Builtin.len_, run_underlying hu, goInt]
  unfold lenC at h
  split at h
  · rename_i s l
    obtain ⟨a, cap, rfl, hc, h0⟩ := (show RoR c s l vx from hx)
    exact ⟨_, _, h, rfl, hrun _ _ _⟩
  · have : vx = .slice none 0 0 := hx
    subst this
    exact ⟨_, _, h, rfl, hrun _ _ _⟩
  · rename_i id
    split at h
    · rename_i l hl
      obtain ⟨hid, rfl⟩ := (show id < c.h.length ∧ vx = c.hv id from hx)
      obtain ⟨⟨a, cap, hv, _⟩, _⟩ := seen_own hr hid hl
      rw [hv]
      exact ⟨_, _, h, rfl, hrun _ _ _⟩
    · cases h
  · rename_i id o n
    obtain ⟨hid, a, cap, rfl, hn, hg, hle⟩ := (show VR0 c (.sub id o n) vx from hx)
    exact ⟨_, _, h, rfl, hrun _ _ _⟩
  · cases h

theorem atom_of_vr {c : Cx} {v : V} {a : Atom} {x : Value} (h : v.atom = some a) (hv : VR c v x) : AtomR c a x ∧ x.oneCell' = true := by
  cases v <;> simp [V.atom] at h
  · have := vr_int hv; subst h; subst this; exact ⟨rfl, rfl⟩
  · have := vr_bool hv; subst h; subst this; exact ⟨rfl, rfl⟩
  · have := vr_str hv; subst h; subst this; exact ⟨rfl, rfl⟩

theorem flat_one {c : Cx} (hr : Rel c) {v : V} {x : Value} (hf : v.flat = true) (hv : VR c v x) : VR0 c v x ∧ x.oneCell' = true ∧ x.cells = #[x] := by
  have h0 : VR0 c v x := by cases v <;> simp [V.flat] at hf <;> exact hv
  refine ⟨h0, ?_⟩
  cases v with
  | ro s l => obtain ⟨a, cap, rfl, _⟩ := h0; exact ⟨rfl, rfl⟩
  | nil => have : x = .slice none 0 0 := h0; subst this; exact ⟨rfl, rfl⟩
  | int k n => have : x = .int k n := h0; subst this; exact ⟨rfl, rfl⟩
  | bool b => have : x = .bool b := h0; subst this; exact ⟨rfl, rfl⟩
  | str s => have : x = .string s := h0; subst this; exact ⟨rfl, rfl⟩
  | sub id o n => obtain ⟨_, a, cap, rfl, _⟩ := h0; exact ⟨rfl, rfl⟩
  | ptr id o => obtain ⟨_, g, _, rfl⟩ := h0; exact ⟨rfl, rfl⟩
  | ref a => obtain ⟨b, o, y, rfl, _⟩ := h0; exact ⟨rfl, rfl⟩
  | fn f => have : x = .func (.func f) #[] #[] := h0; subst this; exact ⟨rfl, rfl⟩
  | own id =>
    obtain ⟨hid, rfl⟩ := (show id < c.h.length ∧ x = c.hv id from h0)
    rcases hr.one id hid with ⟨a, l, k, e⟩ | ⟨b, e⟩ <;> rw [e] <;> exact ⟨rfl, rfl⟩
  | _ => simp [V.flat] at hf
end

end Go.Proofs.Ytonbbeplmjidnaa.D
