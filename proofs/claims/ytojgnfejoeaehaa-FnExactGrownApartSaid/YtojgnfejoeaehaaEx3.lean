/- Exact laws of chapters 3 and 4 over sets. Conditions: those of each theorem. -/
import Derived.Test.YtojgnfejoeaehaaI3
namespace Go.Proofs.Ytojgnfejoeaehaa
open D Go.RowKit
set_option linter.unusedVariables false
set_option linter.unusedSimpArgs false


theorem NeedsAllOk_same {a0 : List Int} {a1 : Int} : ∃ v, S.NeedsAllOk_t a0 a1 = some v ∧ I.NeedsAllOk_t a0 a1 = some v := by
  rcases NetOk_cases a0 with ⟨h, e1, e2⟩ | ⟨_, e1, e2⟩
  · exact ⟨_, S.NeedsAllOk_n h e2 a1, I.NeedsAllOk_n h e1 a1⟩
  · exact ⟨_, S.NeedsAllOk_x e2 a1, I.NeedsAllOk_x e1 a1⟩
theorem L.FnExactNeedsAllOk_is {a0 : List Int} {a1 : Int} : L.FnExactNeedsAllOk_t a0 a1 = some true := by
  unfold L.FnExactNeedsAllOk_t L.FnExactNeedsAllOk_tree
  by_cases ha0 : (a0.length : Int) > 1048576
  · rw [cnd_t (by simpa using ha0)]
  rw [cnd_f (by simpa using ha0)]
  have ta0 := L.toIntS_is (a := a0) (by omega)
  have ea0 := L.eqIntS_is (a := a0) (b := a0) (by omega)
  obtain ⟨b, h1, h2⟩ := NeedsAllOk_same (a0 := a0) (a1 := a1)
  simp only [optC, ta0, ea0, h1, h2]
  simp
theorem FullNeedsOk_same {a0 : List Int} {a1 : Int} : ∃ v, S.FullNeedsOk_t a0 a1 = some v ∧ I.FullNeedsOk_t a0 a1 = some v := by
  rcases NetOk_cases a0 with ⟨h, e1, e2⟩ | ⟨_, e1, e2⟩
  · exact ⟨_, S.FullNeedsOk_n h e2 a1, I.FullNeedsOk_n h e1 a1⟩
  · exact ⟨_, S.FullNeedsOk_x e2 a1, I.FullNeedsOk_x e1 a1⟩
theorem L.FnExactFullNeedsOk_is {a0 : List Int} {a1 : Int} : L.FnExactFullNeedsOk_t a0 a1 = some true := by
  unfold L.FnExactFullNeedsOk_t L.FnExactFullNeedsOk_tree
  by_cases ha0 : (a0.length : Int) > 1048576
  · rw [cnd_t (by simpa using ha0)]
  rw [cnd_f (by simpa using ha0)]
  have ta0 := L.toIntS_is (a := a0) (by omega)
  have ea0 := L.eqIntS_is (a := a0) (b := a0) (by omega)
  obtain ⟨b, h1, h2⟩ := FullNeedsOk_same (a0 := a0) (a1 := a1)
  simp only [optC, ta0, ea0, h1, h2]
  simp
theorem SeenTwice_same {a0 : List Int} {a1 : Int} : ∃ v, S.SeenTwice_t a0 a1 = some v ∧ I.SeenTwice_t a0 a1 = some v := by
  rcases NetOk_cases a0 with ⟨h, e1, e2⟩ | ⟨_, e1, e2⟩
  · exact ⟨_, S.SeenTwice_n h e2 a1, I.SeenTwice_n h e1 a1⟩
  · exact ⟨_, S.SeenTwice_x e2 a1, I.SeenTwice_x e1 a1⟩
theorem L.FnExactSeenTwice_is {a0 : List Int} {a1 : Int} : L.FnExactSeenTwice_t a0 a1 = some true := by
  unfold L.FnExactSeenTwice_t L.FnExactSeenTwice_tree
  by_cases ha0 : (a0.length : Int) > 1048576
  · rw [cnd_t (by simpa using ha0)]
  rw [cnd_f (by simpa using ha0)]
  have ta0 := L.toIntS_is (a := a0) (by omega)
  have ea0 := L.eqIntS_is (a := a0) (b := a0) (by omega)
  obtain ⟨b, h1, h2⟩ := SeenTwice_same (a0 := a0) (a1 := a1)
  simp only [optC, ta0, ea0, h1, h2]
  simp
theorem ApartOk_same {a0 : List Int} {a1 : Int} : ∃ v, S.ApartOk_t a0 a1 = some v ∧ I.ApartOk_t a0 a1 = some v := by
  rcases NetOk_cases a0 with ⟨h, e1, e2⟩ | ⟨_, e1, e2⟩
  · exact ⟨_, S.ApartOk_n h e2 a1, I.ApartOk_n h e1 a1⟩
  · exact ⟨_, S.ApartOk_x e2 a1, I.ApartOk_x e1 a1⟩
theorem L.FnExactApartOk_is {a0 : List Int} {a1 : Int} : L.FnExactApartOk_t a0 a1 = some true := by
  unfold L.FnExactApartOk_t L.FnExactApartOk_tree
  by_cases ha0 : (a0.length : Int) > 1048576
  · rw [cnd_t (by simpa using ha0)]
  rw [cnd_f (by simpa using ha0)]
  have ta0 := L.toIntS_is (a := a0) (by omega)
  have ea0 := L.eqIntS_is (a := a0) (b := a0) (by omega)
  obtain ⟨b, h1, h2⟩ := ApartOk_same (a0 := a0) (a1 := a1)
  simp only [optC, ta0, ea0, h1, h2]
  simp
theorem FullApartOk_same {a0 : List Int} {a1 : Int} : ∃ v, S.FullApartOk_t a0 a1 = some v ∧ I.FullApartOk_t a0 a1 = some v := by
  rcases NetOk_cases a0 with ⟨h, e1, e2⟩ | ⟨_, e1, e2⟩
  · exact ⟨_, S.FullApartOk_n h e2 a1, I.FullApartOk_n h e1 a1⟩
  · exact ⟨_, S.FullApartOk_x e2 a1, I.FullApartOk_x e1 a1⟩
theorem L.FnExactFullApartOk_is {a0 : List Int} {a1 : Int} : L.FnExactFullApartOk_t a0 a1 = some true := by
  unfold L.FnExactFullApartOk_t L.FnExactFullApartOk_tree
  by_cases ha0 : (a0.length : Int) > 1048576
  · rw [cnd_t (by simpa using ha0)]
  rw [cnd_f (by simpa using ha0)]
  have ta0 := L.toIntS_is (a := a0) (by omega)
  have ea0 := L.eqIntS_is (a := a0) (b := a0) (by omega)
  obtain ⟨b, h1, h2⟩ := FullApartOk_same (a0 := a0) (a1 := a1)
  simp only [optC, ta0, ea0, h1, h2]
  simp
theorem GrownApart_same {a0 : List Int} {a1 : Int} : ∃ v, S.GrownApart_t a0 a1 = some v ∧ I.GrownApart_t a0 a1 = some v := by
  rcases NetOk_cases a0 with ⟨h, e1, e2⟩ | ⟨_, e1, e2⟩
  · exact ⟨_, S.GrownApart_n h e2 a1, I.GrownApart_n h e1 a1⟩
  · exact ⟨_, S.GrownApart_x e2 a1, I.GrownApart_x e1 a1⟩
theorem L.FnExactGrownApart_is {a0 : List Int} {a1 : Int} : L.FnExactGrownApart_t a0 a1 = some true := by
  unfold L.FnExactGrownApart_t L.FnExactGrownApart_tree
  by_cases ha0 : (a0.length : Int) > 1048576
  · rw [cnd_t (by simpa using ha0)]
  rw [cnd_f (by simpa using ha0)]
  have ta0 := L.toIntS_is (a := a0) (by omega)
  have ea0 := L.eqIntS_is (a := a0) (b := a0) (by omega)
  obtain ⟨b, h1, h2⟩ := GrownApart_same (a0 := a0) (a1 := a1)
  simp only [optC, ta0, ea0, h1, h2]
  simp
theorem PrivateOf_same {a0 : List Int} {a1 a2 : Int} : ∃ v, S.PrivateOf_t a0 a1 a2 = some v ∧ I.PrivateOf_t a0 a1 a2 = some v := by
  rcases NetOk_cases a0 with ⟨h, e1, e2⟩ | ⟨_, e1, e2⟩
  · exact ⟨_, S.PrivateOf_n h e2 a1 a2, I.PrivateOf_n h e1 a1 a2⟩
  · exact ⟨_, S.PrivateOf_x e2 a1 a2, I.PrivateOf_x e1 a1 a2⟩
theorem L.FnExactPrivateOf_is {a0 : List Int} {a1 : Int} {a2 : Int} : L.FnExactPrivateOf_t a0 a1 a2 = some true := by
  unfold L.FnExactPrivateOf_t L.FnExactPrivateOf_tree
  by_cases ha0 : (a0.length : Int) > 1048576
  · rw [cnd_t (by simpa using ha0)]
  rw [cnd_f (by simpa using ha0)]
  have ta0 := L.toIntS_is (a := a0) (by omega)
  have ea0 := L.eqIntS_is (a := a0) (b := a0) (by omega)
  obtain ⟨b, h1, h2⟩ := PrivateOf_same (a0 := a0) (a1 := a1) (a2 := a2)
  simp only [optC, ta0, ea0, h1, h2]
  simp
end Go.Proofs.Ytojgnfejoeaehaa
