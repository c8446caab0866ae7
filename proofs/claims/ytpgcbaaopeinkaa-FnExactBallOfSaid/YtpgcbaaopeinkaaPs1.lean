/- Plain twins of Go functions (s1), written by program off their text. Conditions: none. -/
import Derived.Test.YtpgcbaaopeinkaaLib
namespace Go.Proofs.Ytpgcbaaopeinkaa
open Go.RowKit
set_option linter.unusedVariables false

-- spec.l1In
def S.l1In (n : Int) (low : Int) (high : Int) : Bool :=
  ((decide (low ≤ n)) && (decide (n ≤ high)))

-- spec.NetOk
def S.NetOk_L0 (net : List Int) (k0 : Nat) : Option Bool :=
  (if (!(S.l1In (el net k0) 0 (wrap64 ((wrap64 (2 ^ net.length)) - 1)))) = true then (some false) else none)
def S.NetOk_L2 (net : List Int) (k1 : Nat) (k2 : Nat) : Option Bool :=
  (if (((Int.tmod ((el net k1) / 2 ^ k2) 2) != (Int.tmod ((el net k2) / 2 ^ k1) 2)) || (((k2 : Int) == (k1 : Int)) && ((Int.tmod ((el net k1) / 2 ^ k2) 2) == 1))) = true then (some false) else none)
def S.NetOk_L1 (net : List Int) (k1 : Nat) : Option Bool :=
  (match (find net.length (S.NetOk_L2 net k1)) with | some r => (some r) | none => none)
def S.NetOk (net : List Int) : Bool :=
  (if (!(S.l1In (net.length : Int) 1 6)) = true then false else (Option.getD (find net.length (S.NetOk_L0 net)) (Option.getD (find net.length (S.NetOk_L1 net)) true)))

-- spec.l1SetOk
def S.l1SetOk (net : List Int) (set_ : Int) : Bool :=
  ((S.NetOk net) && (S.l1In set_ 0 (wrap64 ((wrap64 (2 ^ net.length)) - 1))))

-- spec.l1Size
def S.l1Size_L0_c (set_ : Int) (st0 : Int × Int) : Bool :=
  (decide (0 < st0.2))
def S.l1Size_L0 (set_ : Int) (st0 : Int × Int) : Int × Int :=
  ((wrap64 (st0.1 + (st0.2 % 2))), (st0.2 / 2))
def S.l1Size (set_ : Int) : Int :=
  (fs (wh set_.toNat (S.l1Size_L0_c set_) (S.l1Size_L0 set_) (0, set_)))

-- spec.BallOf
def S.BallOf (net : List Int) (place : Int) : Int :=
  (if ((!(S.NetOk net)) || (!(S.l1In place 0 ((net.length : Int) - 1)))) = true then (-1) else (bits BinOp.or IntKind.i64 (el net (place).toNat) (wrap64 (2 ^ (place).toNat))))

-- spec.l1Near
def S.l1Near_L0 (net : List Int) (set_ : Int) (st0 : Int) (k0 : Nat) : Int :=
  (if ((Int.tmod (set_ / 2 ^ k0) 2) == 1) = true then (bits BinOp.or IntKind.i64 st0 (el net k0)) else st0)
def S.l1Near (net : List Int) (set_ : Int) : Int :=
  (fold net.length (S.l1Near_L0 net set_) 0)

-- spec.SeenBy
def S.SeenBy (net : List Int) (set_ : Int) : Int :=
  (if (!(S.l1SetOk net set_)) = true then (-1) else (bits BinOp.or IntKind.i64 set_ (S.l1Near net set_)))

-- spec.WiresOf
def S.WiresOf_L0 (net : List Int) (st0 : Int) (k0 : Nat) : Int :=
  (wrap64 (st0 + (S.l1Size (el net k0))))
def S.WiresOf (net : List Int) : Int :=
  (if (!(S.NetOk net)) = true then (-1) else (wrap64 (Int.tdiv (fold net.length (S.WiresOf_L0 net) 0) 2)))

-- spec.l1Part
def S.l1Part_L0_c (net : List Int) (among : Int) (place : Int) (st0 : Bool × Int) : Bool :=
  st0.1
def S.l1Part_L0 (net : List Int) (among : Int) (place : Int) (st0 : Bool × Int) : Bool × Int :=
  (((bits BinOp.or IntKind.i64 st0.2 (bits BinOp.and IntKind.i64 (S.l1Near net st0.2) among)) != st0.2), (bits BinOp.or IntKind.i64 st0.2 (bits BinOp.and IntKind.i64 (S.l1Near net st0.2) among)))
def S.l1Part (net : List Int) (among : Int) (place : Int) : Int :=
  (sn (wh 66 (S.l1Part_L0_c net among place) (S.l1Part_L0 net among place) (true, (bits BinOp.and IntKind.i64 (wrap64 (2 ^ (place).toNat)) among))))

-- spec.PartOf
def S.PartOf (net : List Int) (place : Int) : Int :=
  (if ((!(S.NetOk net)) || (!(S.l1In place 0 ((net.length : Int) - 1)))) = true then (-1) else (S.l1Part net (wrap64 ((wrap64 (2 ^ net.length)) - 1)) place))

-- spec.l1Parts
def S.l1Parts_L0 (net : List Int) (st0 : Int) (k0 : Nat) : Int :=
  (if ((bits BinOp.and IntKind.i64 (S.l1Part net (wrap64 ((wrap64 (2 ^ net.length)) - 1)) (k0 : Int)) (wrap64 ((wrap64 (2 ^ k0)) - 1))) == 0) = true then (wrap64 (st0 + 1)) else st0)
def S.l1Parts (net : List Int) : Int :=
  (fold net.length (S.l1Parts_L0 net) 0)

-- spec.PartMany
def S.PartMany (net : List Int) : Int :=
  (if (!(S.NetOk net)) = true then (-1) else (S.l1Parts net))

-- spec.LoneOf
def S.LoneOf_L0 (net : List Int) (st0 : Int) (k0 : Nat) : Int :=
  (if ((el net k0) == 0) = true then (bits BinOp.or IntKind.i64 st0 (wrap64 (2 ^ k0))) else st0)
def S.LoneOf (net : List Int) : Int :=
  (if (!(S.NetOk net)) = true then (-1) else (fold net.length (S.LoneOf_L0 net) 0))

-- spec.l1Order
def S.l1Order_L0 (many : Int) (order : List Int) (st0 : Int) (k0 : Nat) : Bool ⊕ Int :=
  (if (((decide ((el order k0) < 0)) || (decide (many ≤ (el order k0)))) || ((Int.tmod (st0 / 2 ^ ((el order k0)).toNat) 2) == 1)) = true then (Sum.inl false) else (Sum.inr (bits BinOp.or IntKind.i64 st0 (wrap64 (2 ^ ((el order k0)).toNat)))))
def S.l1Order (many : Int) (order : List Int) : Bool :=
  (match (loopE order.length (S.l1Order_L0 many order) 0) with | Sum.inl r => r | Sum.inr se0 => ((order.length : Int) == many))

end Go.Proofs.Ytpgcbaaopeinkaa
