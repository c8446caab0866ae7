/- The law of NetOk. Conditions: those of each theorem. -/
import Derived.Test.YtcpdnljldlpnjaaNt3
namespace Go.Proofs.Ytcpdnljldlpnjaa
open D Go.RowKit
set_option linter.unusedVariables false
set_option linter.unusedSimpArgs false

theorem I.NetOk_empty {n : Nat} (h : n ≤ 6) : I.NetOk_t (List.replicate n 0) = some (decide (1 ≤ n)) := by
  rw [I.NetOk_is]
  have hn : n = 0 ∨ n = 1 ∨ n = 2 ∨ n = 3 ∨ n = 4 ∨ n = 5 ∨ n = 6 := by omega
  rcases hn with rfl | rfl | rfl | rfl | rfl | rfl | rfl <;> decide +kernel
theorem L.FnNetOk_is {code : List Int} (hm : code.length ≤ maxLen) (hw : ∀ n ∈ code, (Lit.int .u8 n).wf = true) : L.FnNetOk_t code = some true := by
  unfold L.FnNetOk_t L.FnNetOk_tree
  by_cases h : (code.length : Int) > 1048576
  · rw [cnd_t (by simpa using h)]
  · rw [cnd_f (by simpa using h)]
    obtain ⟨net, e1, h1⟩ := S.DrawNetOk_is (Bytes.wf hw)
    obtain ⟨b, e2, e3⟩ := NetOk_some (net := net)
    rw [e1]
    simp only [optC]
    rw [e3]
    simp only
    rw [e2]
    simp only
    rw [cnd_f (by simp), show ([0] : List Int) = List.replicate 1 0 from rfl, I.NetOk_empty (by decide)]
    simp only
    rw [cnd_t (by decide), show ([] : List Int) = List.replicate 0 0 from rfl, I.NetOk_empty (by decide)]
    simp only
    rw [cnd_t (by decide), cnd_t (by simp [small]; omega), I.NetOk_empty (by simpa using h1)]
    simp only
    congr 1
    simp
    omega
end Go.Proofs.Ytcpdnljldlpnjaa
