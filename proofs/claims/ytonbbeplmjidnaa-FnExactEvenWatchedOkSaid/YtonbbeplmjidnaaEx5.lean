/- Exact laws of chapter 4 over nets, and of chapter 5. Conditions: those of each theorem. -/
import Derived.Test.YtonbbeplmjidnaaI5
namespace Go.Proofs.Ytonbbeplmjidnaa
open D Go.RowKit
set_option linter.unusedVariables false
set_option linter.unusedSimpArgs false


theorem FewestApart_same {a0 : List Int} : ∃ v, S.FewestApart_t a0 = some v ∧ I.FewestApart_t a0 = some v := by
  rcases NetOk_cases a0 with ⟨h, e1, e2⟩ | ⟨_, e1, e2⟩
  · exact ⟨_, S.FewestApart_y h e2, I.FewestApart_y h e1⟩
  · exact ⟨_, S.FewestApart_x e2, I.FewestApart_x e1⟩
theorem L.FnExactFewestApart_is {a0 : List Int} : L.FnExactFewestApart_t a0 = some true := by
  unfold L.FnExactFewestApart_t L.FnExactFewestApart_tree
  by_cases ha0 : (a0.length : Int) > 1048576
  · rw [cnd_t (by simpa using ha0)]
  rw [cnd_f (by simpa using ha0)]
  have ta0 := L.toIntS_is (a := a0) (by omega)
  have ea0 := L.eqIntS_is (a := a0) (b := a0) (by omega)
  obtain ⟨b, h1, h2⟩ := FewestApart_same (a0 := a0)
  simp only [optC, ta0, ea0, h1, h2]
  simp
theorem MostApart_same {a0 : List Int} : ∃ v, S.MostApart_t a0 = some v ∧ I.MostApart_t a0 = some v := by
  rcases NetOk_cases a0 with ⟨h, e1, e2⟩ | ⟨_, e1, e2⟩
  · exact ⟨_, S.MostApart_y h e2, I.MostApart_y h e1⟩
  · exact ⟨_, S.MostApart_x e2, I.MostApart_x e1⟩
theorem L.FnExactMostApart_is {a0 : List Int} : L.FnExactMostApart_t a0 = some true := by
  unfold L.FnExactMostApart_t L.FnExactMostApart_tree
  by_cases ha0 : (a0.length : Int) > 1048576
  · rw [cnd_t (by simpa using ha0)]
  rw [cnd_f (by simpa using ha0)]
  have ta0 := L.toIntS_is (a := a0) (by omega)
  have ea0 := L.eqIntS_is (a := a0) (b := a0) (by omega)
  obtain ⟨b, h1, h2⟩ := MostApart_same (a0 := a0)
  simp only [optC, ta0, ea0, h1, h2]
  simp
theorem ApartCount_same {a0 : List Int} : ∃ v, S.ApartCount_t a0 = some v ∧ I.ApartCount_t a0 = some v := by
  rcases NetOk_cases a0 with ⟨h, e1, e2⟩ | ⟨_, e1, e2⟩
  · exact ⟨_, S.ApartCount_y h e2, I.ApartCount_y h e1⟩
  · exact ⟨_, S.ApartCount_x e2, I.ApartCount_x e1⟩
theorem L.FnExactApartCount_is {a0 : List Int} : L.FnExactApartCount_t a0 = some true := by
  unfold L.FnExactApartCount_t L.FnExactApartCount_tree
  by_cases ha0 : (a0.length : Int) > 1048576
  · rw [cnd_t (by simpa using ha0)]
  rw [cnd_f (by simpa using ha0)]
  have ta0 := L.toIntS_is (a := a0) (by omega)
  have ea0 := L.eqIntS_is (a := a0) (b := a0) (by omega)
  obtain ⟨b, h1, h2⟩ := ApartCount_same (a0 := a0)
  simp only [optC, ta0, ea0, h1, h2]
  simp
theorem FewestNeeds_same {a0 : List Int} : ∃ v, S.FewestNeeds_t a0 = some v ∧ I.FewestNeeds_t a0 = some v := by
  rcases NetOk_cases a0 with ⟨h, e1, e2⟩ | ⟨_, e1, e2⟩
  · exact ⟨_, S.FewestNeeds_y h e2, I.FewestNeeds_y h e1⟩
  · exact ⟨_, S.FewestNeeds_x e2, I.FewestNeeds_x e1⟩
theorem L.FnExactFewestNeeds_is {a0 : List Int} : L.FnExactFewestNeeds_t a0 = some true := by
  unfold L.FnExactFewestNeeds_t L.FnExactFewestNeeds_tree
  by_cases ha0 : (a0.length : Int) > 1048576
  · rw [cnd_t (by simpa using ha0)]
  rw [cnd_f (by simpa using ha0)]
  have ta0 := L.toIntS_is (a := a0) (by omega)
  have ea0 := L.eqIntS_is (a := a0) (b := a0) (by omega)
  obtain ⟨b, h1, h2⟩ := FewestNeeds_same (a0 := a0)
  simp only [optC, ta0, ea0, h1, h2]
  simp
theorem MostNeeds_same {a0 : List Int} : ∃ v, S.MostNeeds_t a0 = some v ∧ I.MostNeeds_t a0 = some v := by
  rcases NetOk_cases a0 with ⟨h, e1, e2⟩ | ⟨_, e1, e2⟩
  · exact ⟨_, S.MostNeeds_y h e2, I.MostNeeds_y h e1⟩
  · exact ⟨_, S.MostNeeds_x e2, I.MostNeeds_x e1⟩
theorem L.FnExactMostNeeds_is {a0 : List Int} : L.FnExactMostNeeds_t a0 = some true := by
  unfold L.FnExactMostNeeds_t L.FnExactMostNeeds_tree
  by_cases ha0 : (a0.length : Int) > 1048576
  · rw [cnd_t (by simpa using ha0)]
  rw [cnd_f (by simpa using ha0)]
  have ta0 := L.toIntS_is (a := a0) (by omega)
  have ea0 := L.eqIntS_is (a := a0) (b := a0) (by omega)
  obtain ⟨b, h1, h2⟩ := MostNeeds_same (a0 := a0)
  simp only [optC, ta0, ea0, h1, h2]
  simp
theorem MostLeast_same {a0 : List Int} : ∃ v, S.MostLeast_t a0 = some v ∧ I.MostLeast_t a0 = some v := by
  rcases NetOk_cases a0 with ⟨h, e1, e2⟩ | ⟨_, e1, e2⟩
  · exact ⟨_, S.MostLeast_y h e2, I.MostLeast_y h e1⟩
  · exact ⟨_, S.MostLeast_x e2, I.MostLeast_x e1⟩
theorem L.FnExactMostLeast_is {a0 : List Int} : L.FnExactMostLeast_t a0 = some true := by
  unfold L.FnExactMostLeast_t L.FnExactMostLeast_tree
  by_cases ha0 : (a0.length : Int) > 1048576
  · rw [cnd_t (by simpa using ha0)]
  rw [cnd_f (by simpa using ha0)]
  have ta0 := L.toIntS_is (a := a0) (by omega)
  have ea0 := L.eqIntS_is (a := a0) (b := a0) (by omega)
  obtain ⟨b, h1, h2⟩ := MostLeast_same (a0 := a0)
  simp only [optC, ta0, ea0, h1, h2]
  simp
theorem EvenWatchedOk_same {a0 : List Int} : ∃ v, S.EvenWatchedOk_t a0 = some v ∧ I.EvenWatchedOk_t a0 = some v := by
  rcases NetOk_cases a0 with ⟨h, e1, e2⟩ | ⟨_, e1, e2⟩
  · exact ⟨_, S.EvenWatchedOk_y h e2, I.EvenWatchedOk_y h e1⟩
  · exact ⟨_, S.EvenWatchedOk_x e2, I.EvenWatchedOk_x e1⟩
theorem L.FnExactEvenWatchedOk_is {a0 : List Int} : L.FnExactEvenWatchedOk_t a0 = some true := by
  unfold L.FnExactEvenWatchedOk_t L.FnExactEvenWatchedOk_tree
  by_cases ha0 : (a0.length : Int) > 1048576
  · rw [cnd_t (by simpa using ha0)]
  rw [cnd_f (by simpa using ha0)]
  have ta0 := L.toIntS_is (a := a0) (by omega)
  have ea0 := L.eqIntS_is (a := a0) (b := a0) (by omega)
  obtain ⟨b, h1, h2⟩ := EvenWatchedOk_same (a0 := a0)
  simp only [optC, ta0, ea0, h1, h2]
  simp
theorem ChainRow_same {a0 : List Int} : ∃ v, S.ChainRow_t a0 = some v ∧ I.ChainRow_t a0 = some v ∧ v.length ≤ 1000000 := by
  rcases NetOk_cases a0 with ⟨h, e1, e2⟩ | ⟨_, e1, e2⟩
  · exact ⟨_, S.ChainRow_y h e2, I.ChainRow_y h e1, by show 6 ≤ _; omega⟩
  · exact ⟨_, S.ChainRow_x e2, I.ChainRow_x e1, by simp⟩
theorem L.FnExactChainRow_is {a0 : List Int} : L.FnExactChainRow_t a0 = some true := by
  unfold L.FnExactChainRow_t L.FnExactChainRow_tree
  by_cases ha0 : (a0.length : Int) > 1048576
  · rw [cnd_t (by simpa using ha0)]
  rw [cnd_f (by simpa using ha0)]
  have ta0 := L.toIntS_is (a := a0) (by omega)
  have ea0 := L.eqIntS_is (a := a0) (b := a0) (by omega)
  obtain ⟨v, h1, h2, hv⟩ := ChainRow_same (a0 := a0)
  obtain ⟨m, m1, m4⟩ := L.marked hv
  have ev := L.eqIntS_is (a := v) (b := v) (by omega)
  obtain ⟨ma0, ka0, _, _⟩ := L.markIntS_is (a := a0) (k0 := 1) (by omega) (by omega)
  have ka0' : L.markIntS_t a0 1 = _ := ka0
  simp only [optC, ta0, ea0, h1, h2, ev, m1, m4, ka0', decide_true, Bool.not_true, cond_false, neg_nat, not_beq_self]
end Go.Proofs.Ytonbbeplmjidnaa
