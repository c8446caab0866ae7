/- Draws of chapters 3 to 5. Conditions: those of each theorem. -/
import Derived.Test.YtonbbeplmjidnaaDr2
import Derived.Test.YtonbbeplmjidnaaS3
namespace Go.Proofs.Ytonbbeplmjidnaa
open D Go.RowKit
set_option linter.unusedVariables false
set_option linter.unusedSimpArgs false


theorem S.DrawFewestApart_is {code : List Int} (hb : Bytes code) : ∃ net, S.DrawFewestApart_t code = some net ∧ net.length ≤ 6 := by
  unfold S.DrawFewestApart_t S.DrawFewestApart_tree
  obtain ⟨rb, e1, h1, h2⟩ := S.l20Open_is hb
  rw [e1]
  simp only [optC]
  obtain ⟨rp', net, e2, _, _, h3⟩ := S.l20Net_is (n := 9) h1 h2 (Int.le_refl 0) (by decide)
  rw [e2]
  exact ⟨_, rfl, h3⟩
theorem S.DrawMostApart_is {code : List Int} (hb : Bytes code) : ∃ net, S.DrawMostApart_t code = some net ∧ net.length ≤ 6 := by
  unfold S.DrawMostApart_t S.DrawMostApart_tree
  obtain ⟨rb, e1, h1, h2⟩ := S.l20Open_is hb
  rw [e1]
  simp only [optC]
  obtain ⟨rp', net, e2, _, _, h3⟩ := S.l20Net_is (n := 9) h1 h2 (Int.le_refl 0) (by decide)
  rw [e2]
  exact ⟨_, rfl, h3⟩
theorem S.DrawApartCount_is {code : List Int} (hb : Bytes code) : ∃ net, S.DrawApartCount_t code = some net ∧ net.length ≤ 6 := by
  unfold S.DrawApartCount_t S.DrawApartCount_tree
  obtain ⟨rb, e1, h1, h2⟩ := S.l20Open_is hb
  rw [e1]
  simp only [optC]
  obtain ⟨rp', net, e2, _, _, h3⟩ := S.l20Net_is (n := 9) h1 h2 (Int.le_refl 0) (by decide)
  rw [e2]
  exact ⟨_, rfl, h3⟩
theorem S.DrawFewestNeeds_is {code : List Int} (hb : Bytes code) : ∃ net, S.DrawFewestNeeds_t code = some net ∧ net.length ≤ 6 := by
  unfold S.DrawFewestNeeds_t S.DrawFewestNeeds_tree
  obtain ⟨rb, e1, h1, h2⟩ := S.l20Open_is hb
  rw [e1]
  simp only [optC]
  obtain ⟨rp', net, e2, _, _, h3⟩ := S.l20Net_is (n := 9) h1 h2 (Int.le_refl 0) (by decide)
  rw [e2]
  exact ⟨_, rfl, h3⟩
theorem S.DrawMostNeeds_is {code : List Int} (hb : Bytes code) : ∃ net, S.DrawMostNeeds_t code = some net ∧ net.length ≤ 6 := by
  unfold S.DrawMostNeeds_t S.DrawMostNeeds_tree
  obtain ⟨rb, e1, h1, h2⟩ := S.l20Open_is hb
  rw [e1]
  simp only [optC]
  obtain ⟨rp', net, e2, _, _, h3⟩ := S.l20Net_is (n := 9) h1 h2 (Int.le_refl 0) (by decide)
  rw [e2]
  exact ⟨_, rfl, h3⟩
theorem S.DrawMostLeast_is {code : List Int} (hb : Bytes code) : ∃ net, S.DrawMostLeast_t code = some net ∧ net.length ≤ 6 := by
  unfold S.DrawMostLeast_t S.DrawMostLeast_tree
  obtain ⟨rb, e1, h1, h2⟩ := S.l20Open_is hb
  rw [e1]
  simp only [optC]
  obtain ⟨rp', net, e2, _, _, h3⟩ := S.l20Net_is (n := 9) h1 h2 (Int.le_refl 0) (by decide)
  rw [e2]
  exact ⟨_, rfl, h3⟩
theorem S.DrawChainRow_is {code : List Int} (hb : Bytes code) : ∃ net, S.DrawChainRow_t code = some net ∧ net.length ≤ 6 := by
  unfold S.DrawChainRow_t S.DrawChainRow_tree
  obtain ⟨rb, e1, h1, h2⟩ := S.l20Open_is hb
  rw [e1]
  simp only [optC]
  obtain ⟨rp', net, e2, _, _, h3⟩ := S.l20Net_is (n := 9) h1 h2 (Int.le_refl 0) (by decide)
  rw [e2]
  exact ⟨_, rfl, h3⟩
theorem S.DrawEvenWatchedOk_is {code : List Int} (hb : Bytes code) : ∃ net, S.DrawEvenWatchedOk_t code = some net ∧ net.length ≤ 6 := by
  unfold S.DrawEvenWatchedOk_t S.DrawEvenWatchedOk_tree
  obtain ⟨rb, e1, h1, h2⟩ := S.l20Open_is hb
  rw [e1]
  simp only [optC]
  obtain ⟨rp', net, e2, _, _, h3⟩ := S.l20Net_is (n := 9) h1 h2 (Int.le_refl 0) (by decide)
  rw [e2]
  exact ⟨_, rfl, h3⟩
end Go.Proofs.Ytonbbeplmjidnaa
