/- The exact laws of chapter 2. Conditions: those of each theorem. -/
import Derived.Test.YtjflfhcdphkejaaN3
import Derived.Test.YtjflfhcdphkejaaEx
namespace Go.Proofs.Ytjflfhcdphkejaa
open D Go.RowKit
set_option linter.unusedVariables false
set_option linter.unusedSimpArgs false


theorem I.WatchOk_x {net : List Int} (e : I.NetOk_t net = some false) (s : Int) : I.WatchOk_t net s = some false := by
  unfold I.WatchOk_t I.WatchOk_tree; rw [e]; rfl
theorem S.l1SetOk_x {net : List Int} (e : S.NetOk_t net = some false) (s : Int) : S.l1SetOk_t net s = some false := by
  unfold S.l1SetOk_t S.l1SetOk_tree; rw [e]; rfl
theorem S.WatchOk_x {net : List Int} (e : S.NetOk_t net = some false) (s : Int) : S.WatchOk_t net s = some false := by
  unfold S.WatchOk_t S.WatchOk_tree; rw [S.l1SetOk_x e]; rfl
theorem I.LeastWatchOk_x {net : List Int} (e : I.NetOk_t net = some false) (s : Int) : I.LeastWatchOk_t net s = some false := by
  unfold I.LeastWatchOk_t I.LeastWatchOk_tree; rw [e]; rfl
theorem S.LeastWatchOk_x {net : List Int} (e : S.NetOk_t net = some false) (s : Int) : S.LeastWatchOk_t net s = some false := by
  unfold S.LeastWatchOk_t S.LeastWatchOk_tree; rw [S.l1SetOk_x e]; rfl
theorem WatchOk_same {a0 : List Int} {a1 : Int} : ∃ v, S.WatchOk_t a0 a1 = some v ∧ I.WatchOk_t a0 a1 = some v := by
  rcases NetOk_cases a0 with ⟨h, e1, e2⟩ | ⟨_, e1, e2⟩
  · exact ⟨_, S.WatchOk_n h e2 a1, I.WatchOk_n h e1 a1⟩
  · exact ⟨_, S.WatchOk_x e2 a1, I.WatchOk_x e1 a1⟩
theorem LeastWatchOk_same {a0 : List Int} {a1 : Int} : ∃ v, S.LeastWatchOk_t a0 a1 = some v ∧ I.LeastWatchOk_t a0 a1 = some v := by
  rcases NetOk_cases a0 with ⟨h, e1, e2⟩ | ⟨_, e1, e2⟩
  · exact ⟨_, S.LeastWatchOk_n h e2 a1, I.LeastWatchOk_n h e1 a1⟩
  · exact ⟨_, S.LeastWatchOk_x e2 a1, I.LeastWatchOk_x e1 a1⟩
theorem I.FewestWatch_x {net : List Int} (e : I.NetOk_t net = some false) : I.FewestWatch_t net = some (-1) := by
  unfold I.FewestWatch_t I.FewestWatch_tree; rw [e]; rfl
theorem S.FewestWatch_x {net : List Int} (e : S.NetOk_t net = some false) : S.FewestWatch_t net = some (-1) := by
  unfold S.FewestWatch_t S.FewestWatch_tree; rw [e]; rfl
theorem FewestWatch_same {a0 : List Int} : ∃ v, S.FewestWatch_t a0 = some v ∧ I.FewestWatch_t a0 = some v := by
  rcases NetOk_cases a0 with ⟨h, e1, e2⟩ | ⟨_, e1, e2⟩
  · exact ⟨_, S.FewestWatch_y h e2, I.FewestWatch_y h e1⟩
  · exact ⟨_, S.FewestWatch_x e2, I.FewestWatch_x e1⟩
theorem I.WatchOf_x {net : List Int} (e : I.NetOk_t net = some false) : I.WatchOf_t net = some (-1) := by
  unfold I.WatchOf_t I.WatchOf_tree; rw [e]; rfl
theorem fuel_succ : ∃ n, FUEL = n + 1 := ⟨FUEL - 1, by have := FUEL_le; omega⟩
theorem S.WatchOf_x {net : List Int} (e : S.NetOk_t net = some false) : S.WatchOf_t net = some (-1) := by
  unfold S.WatchOf_t S.WatchOf_tree; rw [S.FewestWatch_x e]
  obtain ⟨n, hn⟩ := fuel_succ
  rw [hn]; rfl
theorem WatchOf_same {a0 : List Int} : ∃ v, S.WatchOf_t a0 = some v ∧ I.WatchOf_t a0 = some v := by
  rcases NetOk_cases a0 with ⟨h, e1, e2⟩ | ⟨_, e1, e2⟩
  · exact ⟨_, S.WatchOf_y h e2, I.WatchOf_y h e1⟩
  · exact ⟨_, S.WatchOf_x e2, I.WatchOf_x e1⟩
theorem I.LeastWatches_x {net : List Int} (e : I.NetOk_t net = some false) : I.LeastWatches_t net = some [] := by
  unfold I.LeastWatches_t I.LeastWatches_tree; rw [e]; rfl
theorem LeastWatches_same {a0 : List Int} : ∃ v, S.LeastWatches_t a0 = some v ∧ I.LeastWatches_t a0 = some v ∧ v.length ≤ 1000000 := by
  rcases NetOk_cases a0 with ⟨h, e1, e2⟩ | ⟨_, e1, e2⟩
  · exact ⟨_, S.LeastWatches_y h e2, I.LeastWatches_y h e1, by have h1 := listOfN_len (2 ^ a0.length) (least a0); have h2 := h.pow; omega⟩
  · exact ⟨_, S.LeastWatches_x e2, I.LeastWatches_x e1, by simp⟩
theorem counts_len {net : List Int} (h : Ok net) : (counts net).length = net.length + 1 := by
  have key : ∀ k, k ≤ 2 ^ net.length → CInv net k (fold k (fun l s => if W net s = true then l.set (size s) (D.eli l (size s) + 1) else l) (List.replicate (net.length + 1) 0)) := by
    intro k
    induction k with
    | zero => intro _; exact CInv.zero net
    | succ k ih => intro hk; rw [fold_succ]; exact (ih (by omega)).step h (by omega)
  exact (key _ (Nat.le_refl _)).1
theorem I.WatchCounts_x {net : List Int} (e : I.NetOk_t net = some false) : I.WatchCounts_t net = some [] := by
  unfold I.WatchCounts_t I.WatchCounts_tree; rw [e]; rfl
theorem S.WatchCounts_x {net : List Int} (e : S.NetOk_t net = some false) : S.WatchCounts_t net = some [] := by
  unfold S.WatchCounts_t S.WatchCounts_tree; rw [e]; rfl
theorem WatchCounts_same {a0 : List Int} : ∃ v, S.WatchCounts_t a0 = some v ∧ I.WatchCounts_t a0 = some v ∧ v.length ≤ 1000000 := by
  rcases NetOk_cases a0 with ⟨h, e1, e2⟩ | ⟨_, e1, e2⟩
  · exact ⟨_, S.WatchCounts_y h e2, I.WatchCounts_y h e1, by rw [counts_len h]; have := h.hi; omega⟩
  · exact ⟨_, S.WatchCounts_x e2, I.WatchCounts_x e1, by simp⟩
theorem I.ThinnedWatch_x {net : List Int} {s : Int} (e : I.WatchOk_t net s = some false) : I.ThinnedWatch_t net s = some (-1) := by
  unfold I.ThinnedWatch_t I.ThinnedWatch_tree; rw [e]; rfl
theorem S.ThinnedWatch_x {net : List Int} {s : Int} (e : S.WatchOk_t net s = some false) : S.ThinnedWatch_t net s = some (-1) := by
  unfold S.ThinnedWatch_t S.ThinnedWatch_tree; rw [e]; rfl
theorem ThinnedWatch_same {a0 : List Int} {a1 : Int} : ∃ v, S.ThinnedWatch_t a0 a1 = some v ∧ I.ThinnedWatch_t a0 a1 = some v := by
  obtain ⟨b, w1, w2⟩ := WatchOk_same (a0 := a0) (a1 := a1)
  cases b with
  | false => exact ⟨_, S.ThinnedWatch_x w1, I.ThinnedWatch_x w2⟩
  | true =>
    rcases NetOk_cases a0 with ⟨h, e1, e2⟩ | ⟨_, e1, e2⟩
    · rw [I.WatchOk_n h e1] at w2
      rcases set_cases h a1 with ⟨t, rfl, ht, hd⟩ | hd
      · rw [hd] at w2
        have hw : W a0 t = true := by simpa using w2
        exact ⟨_, S.ThinnedWatch_y h e2 ht hw, I.ThinnedWatch_y h e1 ht hw⟩
      · rw [hd] at w2; cases w2
    · rw [I.WatchOk_x e1] at w2; cases w2
theorem L.FnExactWatchOk_is {a0 : List Int} {a1 : Int} : L.FnExactWatchOk_t a0 a1 = some true := by
  unfold L.FnExactWatchOk_t L.FnExactWatchOk_tree
  by_cases ha0 : (a0.length : Int) > 1048576
  · rw [cnd_t (by simpa using ha0)]
  rw [cnd_f (by simpa using ha0)]
  have ta0 := L.toIntS_is (a := a0) (by omega)
  have ea0 := L.eqIntS_is (a := a0) (b := a0) (by omega)
  obtain ⟨b, h1, h2⟩ := WatchOk_same (a0 := a0) (a1 := a1)
  simp only [optC, ta0, ea0, h1, h2]
  simp
theorem L.FnExactLeastWatchOk_is {a0 : List Int} {a1 : Int} : L.FnExactLeastWatchOk_t a0 a1 = some true := by
  unfold L.FnExactLeastWatchOk_t L.FnExactLeastWatchOk_tree
  by_cases ha0 : (a0.length : Int) > 1048576
  · rw [cnd_t (by simpa using ha0)]
  rw [cnd_f (by simpa using ha0)]
  have ta0 := L.toIntS_is (a := a0) (by omega)
  have ea0 := L.eqIntS_is (a := a0) (b := a0) (by omega)
  obtain ⟨b, h1, h2⟩ := LeastWatchOk_same (a0 := a0) (a1 := a1)
  simp only [optC, ta0, ea0, h1, h2]
  simp
theorem L.FnExactFewestWatch_is {a0 : List Int} : L.FnExactFewestWatch_t a0 = some true := by
  unfold L.FnExactFewestWatch_t L.FnExactFewestWatch_tree
  by_cases ha0 : (a0.length : Int) > 1048576
  · rw [cnd_t (by simpa using ha0)]
  rw [cnd_f (by simpa using ha0)]
  have ta0 := L.toIntS_is (a := a0) (by omega)
  have ea0 := L.eqIntS_is (a := a0) (b := a0) (by omega)
  obtain ⟨b, h1, h2⟩ := FewestWatch_same (a0 := a0)
  simp only [optC, ta0, ea0, h1, h2]
  simp
theorem L.FnExactWatchOf_is {a0 : List Int} : L.FnExactWatchOf_t a0 = some true := by
  unfold L.FnExactWatchOf_t L.FnExactWatchOf_tree
  by_cases ha0 : (a0.length : Int) > 1048576
  · rw [cnd_t (by simpa using ha0)]
  rw [cnd_f (by simpa using ha0)]
  have ta0 := L.toIntS_is (a := a0) (by omega)
  have ea0 := L.eqIntS_is (a := a0) (b := a0) (by omega)
  obtain ⟨b, h1, h2⟩ := WatchOf_same (a0 := a0)
  simp only [optC, ta0, ea0, h1, h2]
  simp
theorem L.FnExactLeastWatches_is {a0 : List Int} : L.FnExactLeastWatches_t a0 = some true := by
  unfold L.FnExactLeastWatches_t L.FnExactLeastWatches_tree
  by_cases ha0 : (a0.length : Int) > 1048576
  · rw [cnd_t (by simpa using ha0)]
  rw [cnd_f (by simpa using ha0)]
  have ta0 := L.toIntS_is (a := a0) (by omega)
  have ea0 := L.eqIntS_is (a := a0) (b := a0) (by omega)
  obtain ⟨v, h1, h2, hv⟩ := LeastWatches_same (a0 := a0)
  obtain ⟨m, m1, m4⟩ := L.marked hv
  have ev := L.eqIntS_is (a := v) (b := v) (by omega)
  obtain ⟨ma0, ka0, _, _⟩ := L.markIntS_is (a := a0) (k0 := 1) (by omega) (by omega)
  have ka0' : L.markIntS_t a0 1 = _ := ka0
  simp only [optC, ta0, ea0, h1, h2, ev, m1, m4, ka0', decide_true, Bool.not_true, cond_false, neg_nat, not_beq_self]
theorem L.FnExactWatchCounts_is {a0 : List Int} : L.FnExactWatchCounts_t a0 = some true := by
  unfold L.FnExactWatchCounts_t L.FnExactWatchCounts_tree
  by_cases ha0 : (a0.length : Int) > 1048576
  · rw [cnd_t (by simpa using ha0)]
  rw [cnd_f (by simpa using ha0)]
  have ta0 := L.toIntS_is (a := a0) (by omega)
  have ea0 := L.eqIntS_is (a := a0) (b := a0) (by omega)
  obtain ⟨v, h1, h2, hv⟩ := WatchCounts_same (a0 := a0)
  obtain ⟨m, m1, m4⟩ := L.marked hv
  have ev := L.eqIntS_is (a := v) (b := v) (by omega)
  obtain ⟨ma0, ka0, _, _⟩ := L.markIntS_is (a := a0) (k0 := 1) (by omega) (by omega)
  have ka0' : L.markIntS_t a0 1 = _ := ka0
  simp only [optC, ta0, ea0, h1, h2, ev, m1, m4, ka0', decide_true, Bool.not_true, cond_false, neg_nat, not_beq_self]
theorem L.FnExactThinnedWatch_is {a0 : List Int} {a1 : Int} : L.FnExactThinnedWatch_t a0 a1 = some true := by
  unfold L.FnExactThinnedWatch_t L.FnExactThinnedWatch_tree
  by_cases ha0 : (a0.length : Int) > 1048576
  · rw [cnd_t (by simpa using ha0)]
  rw [cnd_f (by simpa using ha0)]
  have ta0 := L.toIntS_is (a := a0) (by omega)
  have ea0 := L.eqIntS_is (a := a0) (b := a0) (by omega)
  obtain ⟨b, h1, h2⟩ := ThinnedWatch_same (a0 := a0) (a1 := a1)
  simp only [optC, ta0, ea0, h1, h2]
  simp
end Go.Proofs.Ytjflfhcdphkejaa
