/- Walks of the laws' own small functions on rows: copies. Conditions: those of each theorem. -/
import Derived.Test.YtpgcbaaopeinkaaChecked
import Derived.Test.YtpgcbaaopeinkaaLib
import Derived.Test.YtpgcbaaopeinkaaBits
import Derived.Lib.Hide
namespace Go.Proofs.Ytpgcbaaopeinkaa
open Go.RowKit
set_option linter.unusedVariables false
set_option linter.unusedSimpArgs false

theorem infoInt : (Try.prog.info? 3).map (fun i => (i.zero, i.size, i.bytes)) = some (some (.int .i64 0), 1, 8) := by kernel_rfl

/-- The list whose first k numbers are those of zs; the others are 0. -/
def copyTo (zs : List Int) (k : Nat) : List Int := zs.take k ++ List.replicate (zs.length - k) 0
theorem copyTo_length (zs : List Int) (k : Nat) (hk : k ≤ zs.length) : (copyTo zs k).length = zs.length := by simp [copyTo]; omega
theorem copyTo_set (zs : List Int) (k : Nat) (hk : k < zs.length) : (copyTo zs k).set k (el zs k) = copyTo zs (k + 1) := by
  apply List.ext_getElem?
  intro j
  simp only [copyTo, el]
  by_cases hj : j < zs.length
  · rcases Nat.lt_trichotomy j k with h | h | h
    · rw [List.getElem?_set_ne (by omega), List.getElem?_append_left (by simp; omega), List.getElem?_append_left (by simp; omega), List.getElem?_take, List.getElem?_take, if_pos h, if_pos (by omega)]
    · subst h
      rw [List.getElem?_set_self (by simp; omega), List.getElem?_append_left (by simp; omega), List.getElem?_take, if_pos (by omega)]
      simp [List.getD, hk]
    · rw [List.getElem?_set_ne (by omega), List.getElem?_append_right (by simp; omega), List.getElem?_append_right (by simp; omega), List.getElem?_replicate, List.getElem?_replicate]
      simp only [List.length_take]
      rw [if_pos (by omega), if_pos (by omega)]
  · rw [List.getElem?_eq_none (by simp; omega), List.getElem?_eq_none (by simp; omega)]
theorem copyTo_end (zs : List Int) : copyTo zs zs.length = zs := by simp [copyTo]

theorem L.toIntS_calls {a : List Int} {a_a : Option Addr} {c_a : Nat} {w : World} (r_a : Row w a_a a) (hl : a.length ≤ 1048576) :
    Calls Try.prog 47 #[.slice a_a a.length c_a] w fun e w' => ∃ v, e = .returned v ∧ OwnI 3 w.heap.size w' v a ∧ Below w.heap.size w w' := by
  obtain ⟨i0, hi, hz0, hz1, hz2⟩ := info_parts infoInt
  go_enter Try.func47, Try.ntmps47
  go_wp2_with (at_make; refine wpList_make_full _ rfl _ _ 23 rfl w.heap.size 3 i0 (.int .i64 0) 1 Try.underlying23 hi hz0 hz1 .i64 .i64 _ _ a.length rfl rfl rfl rfl (by rw [hz2]; omega) (by unfold maxLen; omega) (Nat.le_refl _) ?_)
  intro w1 hown1 hgr1
  have hO : OwnI 3 w.heap.size w1 (.slice (some ⟨w.heap.size, 0, none⟩) a.length a.length) (copyTo a 0) := by
    rw [toList_madeCells_one] at hown1
    have e : List.replicate a.length (Value.int IntKind.i64 0) = (copyTo a 0).map (Value.int .i64) := by simp [copyTo]
    rw [e] at hown1
    unfold OwnI
    rw [copyTo_length _ _ (Nat.zero_le _)]
    exact hown1
  have hB1 : Below w.heap.size w w1 := (Below.refl _ _).grown hgr1 (Nat.le_refl _) (fun k hk => by cases hk)
  clear hown1 hgr1
  go_wp2
  go_loopg [4] (a.length) (fun g s4 wr => ∃ k : Nat, k + g = a.length ∧ s4 = .int .i64 k ∧ OwnI 3 w.heap.size wr (.slice (some ⟨w.heap.size, 0, none⟩) a.length a.length) (copyTo a k) ∧ Below w.heap.size w wr)
  case atStart => exact ⟨0, by omega, rfl, hO, hB1⟩
  case round =>
    obtain ⟨g0, rfl⟩ : ∃ g : Nat, g = gk := ⟨_, rfl⟩
    obtain ⟨k, hk, rfl, hOr, hBr⟩ := hrel
    clear hO hB1
    by_cases hlt : k < a.length
    · obtain ⟨b, off, rfl, hc⟩ := (r_a.below hBr).get hlt
      have hck := hc k hlt
      have hOr' := hOr
      unfold OwnI at hOr'
      rw [copyTo_length _ _ (by omega)] at hOr'
      have hcell : wr.cell? ⟨w.heap.size, k, none⟩ = some (.int .i64 (el (copyTo a k) k)) := by
        rw [World.ownsRow.cellAt hOr' k (by omega)]
        have := copyTo_length a k (by omega)
        simp [el, List.getD, this, hlt]
      have hfr := World.ownsRow.frozenAt hOr' k
      have hst := World.ownsRow.stored hOr' k (.int .i64 (el a k))
      have hB' : Below w.heap.size w (wr.setCell ⟨w.heap.size, k, none⟩ (.int .i64 (el a k))) := hBr.setCell (Nat.le_refl _) _
      have hO' : OwnI 3 w.heap.size (wr.setCell ⟨w.heap.size, k, none⟩ (.int .i64 (el a k))) (.slice (some ⟨w.heap.size, 0, none⟩) a.length a.length) (copyTo a (k + 1)) := by
        have h1 := hst.1
        rw [← List.map_set, copyTo_set a k hlt] at h1
        unfold OwnI
        rw [copyTo_length _ _ (by omega)]
        exact h1
      have HO := Lib.hid hO'
      have HB := Lib.hid hB'
      clear hst hO' hB' hOr hOr' hBr hc
      go_wp2
      go_roundg (g0 - 1)
      case measure => omega
      case rel => exact ⟨k + 1, by omega, by go_num, HO.out, HB.out⟩
    · obtain rfl : k = a.length := by omega
      rw [copyTo_end] at hOr
      go_wp2
      go_ret
      exact ⟨_, rfl, hOr, hBr⟩

end Go.Proofs.Ytpgcbaaopeinkaa
