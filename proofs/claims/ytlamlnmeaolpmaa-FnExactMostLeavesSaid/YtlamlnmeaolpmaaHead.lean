/- What the head of the translation says. Conditions: none. -/
import Derived.Test.YtlamlnmeaolpmaaRows
import Derived.JoinedOf
import Derived.KernelRfl
namespace Go.Proofs.Ytlamlnmeaolpmaa

theorem headIs : Try.prog.initOrder = String.ofList (List.map Char.ofNat [104, 97, 114, 110, 101, 115, 115, 32, 55, 57, 49, 100, 57, 97, 56, 101, 102, 56, 55, 102, 100, 54, 54, 50, 51, 101, 101, 53, 97, 50, 55, 48, 51, 57, 101, 52, 100, 52, 52, 54, 53, 102, 54, 53, 52, 99, 99, 49, 100, 101, 102, 97, 55, 57, 101, 98, 50, 99, 97, 101, 99, 100, 99, 48, 50, 48, 56, 53, 101, 101, 48, 53, 32, 99, 117, 116, 32, 97, 116, 32, 108, 111, 111, 112, 46, 101, 120, 97, 109, 112, 108, 101, 47, 103, 117, 97, 114, 100, 115, 111, 110, 110, 101, 116, 115, 47, 108, 97, 119, 115, 46, 70, 110, 77, 111, 115, 116, 76, 101, 97, 118, 101, 115, 32, 108, 111, 111, 112, 46, 101, 120, 97, 109, 112, 108, 101, 47, 103, 117, 97, 114, 100, 115, 111, 110, 110, 101, 116, 115, 47, 108, 97, 119, 115, 46, 70, 110, 69, 120, 97, 99, 116, 77, 111, 115, 116, 76, 101, 97, 118, 101, 115]) := by kernel_rfl
set_option maxRecDepth 100000 in
theorem headList : Try.prog.initOrder.toList = List.map Char.ofNat [104, 97, 114, 110, 101, 115, 115, 32, 55, 57, 49, 100, 57, 97, 56, 101, 102, 56, 55, 102, 100, 54, 54, 50, 51, 101, 101, 53, 97, 50, 55, 48, 51, 57, 101, 52, 100, 52, 52, 54, 53, 102, 54, 53, 52, 99, 99, 49, 100, 101, 102, 97, 55, 57, 101, 98, 50, 99, 97, 101, 99, 100, 99, 48, 50, 48, 56, 53, 101, 101, 48, 53, 32, 99, 117, 116, 32, 97, 116, 32, 108, 111, 111, 112, 46, 101, 120, 97, 109, 112, 108, 101, 47, 103, 117, 97, 114, 100, 115, 111, 110, 110, 101, 116, 115, 47, 108, 97, 119, 115, 46, 70, 110, 77, 111, 115, 116, 76, 101, 97, 118, 101, 115, 32, 108, 111, 111, 112, 46, 101, 120, 97, 109, 112, 108, 101, 47, 103, 117, 97, 114, 100, 115, 111, 110, 110, 101, 116, 115, 47, 108, 97, 119, 115, 46, 70, 110, 69, 120, 97, 99, 116, 77, 111, 115, 116, 76, 101, 97, 118, 101, 115] :=
  (congrArg String.toList headIs).trans String.toList_ofList
set_option maxRecDepth 100000 in
theorem headWords : behindMainWord (wordsSigns Try.prog.initOrder.toList) = [List.map Char.ofNat [99, 117, 116], List.map Char.ofNat [97, 116], List.map Char.ofNat [108, 111, 111, 112, 46, 101, 120, 97, 109, 112, 108, 101, 47, 103, 117, 97, 114, 100, 115, 111, 110, 110, 101, 116, 115, 47, 108, 97, 119, 115, 46, 70, 110, 77, 111, 115, 116, 76, 101, 97, 118, 101, 115], List.map Char.ofNat [108, 111, 111, 112, 46, 101, 120, 97, 109, 112, 108, 101, 47, 103, 117, 97, 114, 100, 115, 111, 110, 110, 101, 116, 115, 47, 108, 97, 119, 115, 46, 70, 110, 69, 120, 97, 99, 116, 77, 111, 115, 116, 76, 101, 97, 118, 101, 115]] := by
  rw [headList]
  kernel_rfl
theorem headFinal : Try.prog.liftsFinal = false := by
  unfold Program.liftsFinal Program.headLifts
  rw [headWords]
  kernel_rfl
theorem headLifts : Try.prog.headLifts = [] := by
  unfold Program.headLifts
  rw [headWords]
  kernel_rfl
theorem headMay : Try.prog.mayEnter = true := by
  rw [Program.mayEnter.eq_1, headWords]
  kernel_rfl
theorem headMake : Try.prog.make = some .cut := by
  rw [Program.make.eq_1, headWords, headLifts]
  kernel_rfl

end Go.Proofs.Ytlamlnmeaolpmaa
