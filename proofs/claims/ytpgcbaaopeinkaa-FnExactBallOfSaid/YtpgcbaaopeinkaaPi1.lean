/- Plain twins of Go functions (i1), written by program off their text. Conditions: none. -/
import Derived.Test.YtpgcbaaopeinkaaLib
namespace Go.Proofs.Ytpgcbaaopeinkaa
open Go.RowKit
set_option linter.unusedVariables false

-- impl.hasPlace
def I.hasPlace (set_ : Int) (place : Int) : Bool :=
  ((bits BinOp.and IntKind.i64 (set_ / 2 ^ (place).toNat) 1) == 1)

-- impl.placeIn
def I.placeIn (net : List Int) (place : Int) : Bool :=
  ((decide (0 ≤ place)) && (decide (place < (net.length : Int))))

-- impl.setIn
def I.setIn (net : List Int) (set_ : Int) : Bool :=
  ((decide (0 ≤ set_)) && (decide (set_ < (wrap64 (2 ^ min net.length 64)))))

-- impl.sizeOf
def I.sizeOf_L0 (set_ : Int) (st0 : Int) (k0 : Nat) : Int :=
  (wrap64 (st0 + (bits BinOp.and IntKind.i64 (set_ / 2 ^ k0) 1)))
def I.sizeOf (set_ : Int) : Int :=
  (fold 6 (I.sizeOf_L0 set_) 0)

-- impl.knownBack
def I.knownBack_L0 (net : List Int) (place : Int) (k0 : Nat) : Option Bool :=
  (if ((I.hasPlace (el net (place).toNat) (k0 : Int)) && (!(I.hasPlace (el net k0) place))) = true then (some false) else none)
def I.knownBack (net : List Int) (place : Int) : Bool :=
  (Option.getD (find net.length (I.knownBack_L0 net place)) true)

-- impl.NetOk
def I.NetOk_L0 (net : List Int) (k0 : Nat) : Option Bool :=
  (if (((!(I.setIn net (el net k0))) || (I.hasPlace (el net k0) (k0 : Int))) || (!(I.knownBack net (k0 : Int)))) = true then (some false) else none)
def I.NetOk (net : List Int) : Bool :=
  (if ((decide ((net.length : Int) < 1)) || (decide (6 < (net.length : Int)))) = true then false else (Option.getD (find net.length (I.NetOk_L0 net)) true))

-- impl.ballIn
def I.ballIn (net : List Int) (place : Int) : Int :=
  (bits BinOp.or IntKind.i64 (el net (place).toNat) (wrap64 (2 ^ (place).toNat)))

-- impl.BallOf
def I.BallOf (net : List Int) (place : Int) : Int :=
  (if ((!(I.NetOk net)) || (!(I.placeIn net place))) = true then (-1) else (I.ballIn net place))

-- impl.seenIn
def I.seenIn_L0 (net : List Int) (set_ : Int) (st0 : Int) (k0 : Nat) : Int :=
  (if (I.hasPlace set_ (k0 : Int)) = true then (bits BinOp.or IntKind.i64 st0 (I.ballIn net (k0 : Int))) else st0)
def I.seenIn (net : List Int) (set_ : Int) : Int :=
  (fold net.length (I.seenIn_L0 net set_) 0)

-- impl.SeenBy
def I.SeenBy (net : List Int) (set_ : Int) : Int :=
  (if ((!(I.NetOk net)) || (!(I.setIn net set_))) = true then (-1) else (I.seenIn net set_))

-- impl.WiresOf
def I.WiresOf_L0 (net : List Int) (st0 : Int) (k0 : Nat) : Int :=
  (wrap64 (st0 + (I.sizeOf (el net k0))))
def I.WiresOf (net : List Int) : Int :=
  (if (!(I.NetOk net)) = true then (-1) else (wrap64 (Int.tdiv (fold net.length (I.WiresOf_L0 net) 0) 2)))

-- impl.partIn
def I.partIn_L0 (net : List Int) (place : Int) (st0 : Int) (k0 : Nat) : Int :=
  (I.seenIn net st0)
def I.partIn (net : List Int) (place : Int) : Int :=
  (fold (net.length - 1) (I.partIn_L0 net place) (wrap64 (2 ^ (place).toNat)))

-- impl.PartOf
def I.PartOf (net : List Int) (place : Int) : Int :=
  (if ((!(I.NetOk net)) || (!(I.placeIn net place))) = true then (-1) else (I.partIn net place))

-- impl.PartMany
def I.PartMany_L0 (net : List Int) (st0 : Int × Int) (k0 : Nat) : Int × Int :=
  ((if (!(I.hasPlace st0.2 (k0 : Int))) = true then (wrap64 (st0.1 + 1)) else st0.1), (if (!(I.hasPlace st0.2 (k0 : Int))) = true then (bits BinOp.or IntKind.i64 st0.2 (I.partIn net (k0 : Int))) else st0.2))
def I.PartMany (net : List Int) : Int :=
  (if (!(I.NetOk net)) = true then (-1) else (fs (fold net.length (I.PartMany_L0 net) (0, 0))))

-- impl.LoneOf
def I.LoneOf_L0 (net : List Int) (st0 : Int) (k0 : Nat) : Int :=
  (if ((el net k0) == 0) = true then (bits BinOp.or IntKind.i64 st0 (wrap64 (2 ^ k0))) else st0)
def I.LoneOf (net : List Int) : Int :=
  (if (!(I.NetOk net)) = true then (-1) else (fold net.length (I.LoneOf_L0 net) 0))

-- impl.namedSet
def I.namedSet_L0 (set_ : Int) (order : List Int) (st0 : Int) (k0 : Nat) : Int :=
  (if (I.hasPlace set_ (k0 : Int)) = true then (bits BinOp.or IntKind.i64 st0 (wrap64 (2 ^ ((el order k0)).toNat))) else st0)
def I.namedSet (set_ : Int) (order : List Int) : Int :=
  (fold order.length (I.namedSet_L0 set_ order) 0)

-- impl.orderIn
def I.orderIn_L0 (net : List Int) (order : List Int) (st0 : Int) (k0 : Nat) : Bool ⊕ Int :=
  (if ((!(I.placeIn net (el order k0))) || (I.hasPlace st0 (el order k0))) = true then (Sum.inl false) else (Sum.inr (bits BinOp.or IntKind.i64 st0 (wrap64 (2 ^ ((el order k0)).toNat)))))
def I.orderIn (net : List Int) (order : List Int) : Bool :=
  (if ((order.length : Int) != (net.length : Int)) = true then false else (match (loopE order.length (I.orderIn_L0 net order) 0) with | Sum.inl r => r | Sum.inr se0 => true))

end Go.Proofs.Ytpgcbaaopeinkaa
