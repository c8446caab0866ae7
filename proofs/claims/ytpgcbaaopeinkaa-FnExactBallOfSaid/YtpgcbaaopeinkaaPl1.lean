/- Plain twins of Go functions (l1), written by program off their text. Conditions: none. -/
import Derived.Test.YtpgcbaaopeinkaaLib
namespace Go.Proofs.Ytpgcbaaopeinkaa
open Go.RowKit
set_option linter.unusedVariables false

-- laws.eqIntS
def L.eqIntS_L0 (a : List Int) (b_ : List Int) (k0 : Nat) : Option Bool :=
  (if ((el a k0) != (el b_ k0)) = true then (some false) else none)
def L.eqIntS (a : List Int) (b_ : List Int) : Bool :=
  (if ((a.length : Int) != (b_.length : Int)) = true then false else (Option.getD (find a.length (L.eqIntS_L0 a b_)) true))

-- laws.sameInts
def L.sameInts_L0 (a : List Int) (b_ : List Int) (k0 : Nat) : Option Bool :=
  (if ((el a k0) != (el b_ k0)) = true then (some false) else none)
def L.sameInts (a : List Int) (b_ : List Int) : Bool :=
  (if ((a.length : Int) != (b_.length : Int)) = true then false else (Option.getD (find a.length (L.sameInts_L0 a b_)) true))

-- laws.sizeOf
def L.sizeOf_L0_c (n : Int) (st0 : Int × Int) : Bool :=
  (decide (0 < st0.2))
def L.sizeOf_L0 (n : Int) (st0 : Int × Int) : Int × Int :=
  ((wrap64 (st0.1 + (st0.2 % 2))), (st0.2 / 2))
def L.sizeOf (n : Int) : Int :=
  (fs (wh n.toNat (L.sizeOf_L0_c n) (L.sizeOf_L0 n) (0, n)))

-- laws.namedSet
def L.namedSet_L0 (set_ : Int) (order : List Int) (st0 : Int) (k0 : Nat) : Int :=
  (bits BinOp.or IntKind.i64 st0 (wrap64 ((Int.tmod (set_ / 2 ^ k0) 2) * 2 ^ ((el order k0)).toNat)))
def L.namedSet (set_ : Int) (order : List Int) : Int :=
  (fold order.length (L.namedSet_L0 set_ order) 0)

end Go.Proofs.Ytpgcbaaopeinkaa
