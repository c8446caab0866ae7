/- Several texts in one: Den, Det, Rel, Ctx, Ops, Heap, Writ, Op2, Op3, Agg. Conditions: those of each theorem. -/
import Derived.WalkKit
import Derived.ProofKit
import Derived.Orders
import Derived.Below
import Derived.Deep.LoopGhost
import Derived.Laws.OwnMore
import Derived.Laws.MakeOwn
import Derived.Laws.BytesArg
/- A small machine over plain lists: what code of the translated kind does, told without addresses. Conditions: none. -/
namespace Go.Proofs.Ytgpgifpblchjjaa.D
open Go.RowKit
set_option linter.unusedVariables false
set_option linter.unusedSimpArgs false

/-- The content of one cell. -/
inductive Atom where
  | int (k : IntKind) (n : Int)
  | bool (b : Bool)
  | str (s : ByteArray)
  | row (xs : List Int)

/-- The content of a row of cells of one kind. -/
inductive L where
  | ints (k : IntKind) (xs : List Int)
  | bools (xs : List Bool)
  | strs (xs : List ByteArray)
  | rows (xs : List (List Int))

/-- A value: slices are lists that are not written any more ('ro true'), views for the time of a call ('ro false'), or rows of one's own by number. -/
inductive V where
  | int (k : IntKind) (n : Int)
  | bool (b : Bool)
  | str (s : ByteArray)
  | ro (safe : Bool) (l : L)
  | nil
  | own (id : Nat)
  | sub (id off len : Nat)
  | ptr (id off : Nat)
  | elt (id off n : Nat) (i : Int)
  | ref (a : Atom)
  | fn (f : FuncId)
  | junk
  | agg (vs : List V)
  | tup (vs : List V)
  | recs (safe : Bool) (n : Nat) (xs : List Int)
  | rref (n : Nat) (xs : List Int) (off : Nat)

/-- A block of one's own. -/
inductive E where
  | row (l : L)
  | cells (vs : List V)
  | dead
  | recs (n : Nat) (xs : List Int)

/-- Is the block a row? -/
def E.rowy : E → Bool
  | .row _ => true
  | .recs _ _ => true
  | _ => false

def eli (xs : List Int) (k : Nat) : Int := xs.getD k 0
def elb (xs : List Bool) (k : Nat) : Bool := xs.getD k false
def els (xs : List ByteArray) (k : Nat) : ByteArray := xs.getD k .empty
def elr (xs : List (List Int)) (k : Nat) : List Int := xs.getD k []

def L.len : L → Nat
  | .ints _ xs => xs.length
  | .bools xs => xs.length
  | .strs xs => xs.length
  | .rows xs => xs.length
def L.at_ : L → Nat → Atom
  | .ints k xs, i => .int k (eli xs i)
  | .bools xs, i => .bool (elb xs i)
  | .strs xs, i => .str (els xs i)
  | .rows xs, i => .row (elr xs i)
def L.set_ : L → Nat → V → Option L
  | .ints k xs, i, .int k' n => if k = k' then some (.ints k (xs.set i n)) else none
  | .bools xs, i, .bool b => some (.bools (xs.set i b))
  | .strs xs, i, .str s => some (.strs (xs.set i s))
  | .rows xs, i, .ro true (.ints .i64 ys) => some (.rows (xs.set i ys))
  | _, _, _ => none
def L.cut : L → Nat → Nat → L
  | .ints k xs, a, n => .ints k ((xs.drop a).take n)
  | .bools xs, a, n => .bools ((xs.drop a).take n)
  | .strs xs, a, n => .strs ((xs.drop a).take n)
  | .rows xs, a, n => .rows ((xs.drop a).take n)
def L.app : L → L → Option L
  | .ints k xs, .ints k' ys => if k = k' then some (.ints k (xs ++ ys)) else none
  | .bools xs, .bools ys => some (.bools (xs ++ ys))
  | .strs xs, .strs ys => some (.strs (xs ++ ys))
  | .rows xs, .rows ys => some (.rows (xs ++ ys))
  | _, _ => none
def Atom.v : Atom → V
  | .int k n => .int k n
  | .bool b => .bool b
  | .str s => .str s
  | .row xs => .ro true (.ints .i64 xs)

/-- A constant. -/
def ofConst : Value → V
  | .int k n => .int k n
  | .bool b => .bool b
  | .string s => .str s
  | .slice none 0 0 => .nil
  | .func (.func f) first captured => if first.size = 0 ∧ captured.size = 0 then .fn f else .junk
  | _ => .junk
def ofZero : Value → V
  | .agg cs => .agg (cs.toList.map ofConst)
  | v => ofConst v

/-- What is known of a type. -/
structure TI where
  desc : TypeDesc
  size : Nat
  bytes : Nat
  zero : Value

/-- Temporaries that are known, and the blocks of one's own. -/
structure St where
  n : Nat
  t : List (Nat × V)
  h : List E

@[reducible] def R := Option (V × List E)

def getT : List (Nat × V) → Nat → V
  | [], _ => .junk
  | (a, v) :: r, n => bif Nat.beq a n then v else getT r n
def putT : List (Nat × V) → Nat → V → List (Nat × V)
  | [], n, v => [(n, v)]
  | (a, x) :: r, n, v => bif Nat.beq a n then (a, v) :: r else (a, x) :: putT r n v
def St.put (σ : St) (d : Option Nat) (v : V) : St :=
  match d with
  | some n => bif Nat.blt n σ.n then { σ with t := putT σ.t n v } else σ
  | none => σ
def St.ev (σ : St) : Operand → V
  | .tmp t => getT σ.t t
  | .const v => ofConst v
  | .func f => .fn f
  | .global _ => .junk
/-- A test's outcome is known on each of its two ways. -/
def St.know (σ : St) (c : Operand) (b : Bool) : St :=
  match c with
  | .tmp t => σ.put (some t) (.bool b)
  | _ => σ
def getE (h : List E) (id : Nat) : E := h.getD id .dead

/-- The list that a slice shows. -/
def listOf (h : List E) : V → Option L
  | .ro _ l => some l
  | .own id => match getE h id with
    | .row l => some l
    | _ => none
  | .sub id off n => match getE h id with
    | .row l => some (l.cut off n)
    | _ => none
  | _ => none

def small (n : Nat) : Bool := decide (n ≤ 1099511627776)

def bitsV (op : BinOp) (k : IntKind) (x y : Int) : Int := bits op k x y

/-- Are two texts the same? -/
def strEq (a b : ByteArray) : Bool := a.toList == b.toList
/-- A byte of a text. -/
def strAt (s : ByteArray) (i : Nat) : Int := ((s.data.toList.getD i 0).toNat : Int)
/-- Operations on two values. -/
def binC (isB : Bool) (op : BinOp) (x y : V) (κ : V → R) : R :=
  match x, y with
  | .int k a, .int k' b =>
    match op with
    | .shl => bif decide (b < 0) then none else κ (.int k (k.wrap (a * 2 ^ (min b.toNat k.bits))))
    | .shr => bif decide (b < 0) then none else κ (.int k (a.fdiv (2 ^ (min b.toNat k.bits))))
    | _ => bif decide (k = k') then
      match op with
      | .add => κ (.int k (k.wrap (a + b)))
      | .sub => κ (.int k (k.wrap (a - b)))
      | .mul => κ (.int k (k.wrap (a * b)))
      | .quo => bif b == 0 then none else κ (.int k (k.wrap (a.tdiv b)))
      | .rem => bif b == 0 then none else κ (.int k (a.tmod b))
      | .and => κ (.int k (bits .and k a b))
      | .or => κ (.int k (bits .or k a b))
      | .xor => κ (.int k (bits .xor k a b))
      | .andNot => κ (.int k (bits .andNot k a b))
      | .eql => κ (.bool (a == b))
      | .neq => κ (.bool (a != b))
      | .lss => κ (.bool (decide (a < b)))
      | .leq => κ (.bool (decide (a ≤ b)))
      | .gtr => κ (.bool (decide (a > b)))
      | .geq => κ (.bool (decide (a ≥ b)))
      | _ => none
      else none
  | .bool a, .bool b => bif isB then
    match op with
    | .eql => κ (.bool (a == b))
    | .neq => κ (.bool (!(a == b)))
    | _ => none
    else none
  | .str a, .str b =>
    match op with
    | .add => bif small (a.size + b.size) then κ (.str (a ++ b)) else none
    | .eql => κ (.bool (strEq a b))
    | .neq => κ (.bool (!strEq a b))
    | _ => none
  | _, _ => none

def unC (op : UnOp) (x : V) (κ : V → R) : R :=
  match op, x with
  | .not, .bool b => κ (.bool (!b))
  | .neg, .int k n => κ (.int k (k.wrap (0 - n)))
  | _, _ => none

def minmaxC (mx : Bool) : V → List V → (V → R) → R
  | x, [], κ => κ x
  | .int k a, .int k' b :: r, κ => bif mx then minmaxC mx (.int k (if b > a then b else a)) r κ else minmaxC mx (.int k (if b < a then b else a)) r κ
  | _, _, _ => none

def bytesOf (xs : List Int) : ByteArray := ⟨(xs.map fun n => UInt8.ofNat n.toNat).toArray⟩

def idxOk (i : Int) (n : Nat) : Bool := decide (0 ≤ i) && decide (i < n)
def cutOk (a b : Int) (n : Nat) : Bool := decide (0 ≤ a) && decide (a ≤ b) && decide (b ≤ n)

/-- A slice expression over something of so many cells. -/
def cutC (lo hi : Option V) (n : Nat) (κ : Nat → Nat → R) : R :=
  match lo, hi with
  | none, none => κ 0 n
  | some (.int _ a), none => bif cutOk a n n then κ a.toNat (n - a.toNat) else none
  | none, some (.int _ b) => bif cutOk 0 b n then κ 0 b.toNat else none
  | some (.int _ a), some (.int _ b) => bif cutOk a b n then κ a.toNat (b.toNat - a.toNat) else none
  | _, _ => none

def sliceC (x : V) (lo hi : Option V) (h : List E) (κ : V → R) : R :=
  match x with
  | .ro s l => cutC lo hi l.len fun a n => κ (.ro s (l.cut a n))
  | .own id => match getE h id with
    | .row l => match lo, hi with
      | none, none => κ (.own id)
      | lo, hi => cutC lo hi l.len fun a n => κ (.sub id a n)
    | _ => none
  | .sub id o m => cutC lo hi m fun a n => κ (.sub id (o + a) n)
  | _ => none

/-- A part of a text. -/
def sliceStrC (x : V) (lo hi : Option V) (κ : V → R) : R :=
  match x with
  | .str s => cutC lo hi s.size fun a n => κ (.str (s.extract a (a + n)))
  | _ => none
/-- A byte of a text by its place. -/
def idxStrC (x i : V) (κ : V → R) : R :=
  match x, i with
  | .str s, .int _ i => bif idxOk i s.size then κ (.int .u8 (strAt s i.toNat)) else none
  | _, _ => none
def lenStrC (x : V) (κ : V → R) : R :=
  match x with
  | .str s => κ (.int .i64 s.size)
  | _ => none
/-- Bytes become a text. -/
def toStrC (x : V) (h : List E) (κ : V → R) : R :=
  match x with
  | .nil => κ (.str .empty)
  | x => match listOf h x with
    | some (.ints .u8 xs) => κ (.str (bytesOf xs))
    | _ => none

def idxC (x i : V) (h : List E) (κ : V → R) : R :=
  match x, i with
  | .ro _ l, .int _ i => bif idxOk i l.len then κ (.ref (l.at_ i.toNat)) else none
  | .own id, .int _ i => match getE h id with
    | .row l => bif idxOk i l.len then κ (.ptr id i.toNat) else none
    | _ => none
  | .sub id o n, .int _ i => match getE h id with
    | .row l => bif idxOk i n then κ (.ptr id (o + i.toNat)) else none
    | _ => none
  | _, _ => none

/-- Cells that are whole numbers. -/
def ints64 : List V → Option (List Int)
  | [] => some []
  | .int .i64 n :: r => (ints64 r).map fun xs => n :: xs
  | _ => none
/-- One of some numbers is written. -/
def putI (i x : Int) : Nat → List Int → List V
  | _, [] => []
  | j, n :: r => .int .i64 (bif i == (j : Int) then x else n) :: putI i x (j + 1) r
def loadC (p : V) (h : List E) (κ : V → R) : R :=
  match p with
  | .ref a => κ a.v
  | .elt id off n i => match getE h id with
    | .cells vs => match ints64 ((vs.drop off).take n) with
      | some xs => bif Nat.beq xs.length n then κ (.int .i64 (eli xs i.toNat)) else none
      | none => none
    | _ => none
  | .ptr id off => match getE h id with
    | .row l => bif decide (off < l.len) then κ (l.at_ off).v else none
    | .cells vs => bif decide (off < vs.length) then κ (vs.getD off .junk) else none
    | .recs _ xs => bif decide (off < xs.length) then κ (.int .i64 (eli xs off)) else none
    | .dead => none
  | _ => none

def V.flat : V → Bool
  | .agg _ | .tup _ | .junk => false
  | _ => true

def storeC (p v : V) (h : List E) (κ : List E → R) : R :=
  match p with
  | .elt id off n i => match getE h id, v with
    | .cells vs, .int .i64 x => match ints64 ((vs.drop off).take n) with
      | some xs => bif Nat.beq xs.length n then κ (h.set id (.cells (vs.take off ++ (putI i x 0 xs ++ vs.drop (off + n))))) else none
      | none => none
    | _, _ => none
  | .ptr id off => match getE h id with
    | .row l => bif decide (off < l.len) then (match l.set_ off v with
        | some l' => κ (h.set id (.row l'))
        | none => none) else none
    | .cells vs => match v with
      | .agg _ | .tup _ | .junk => none
      | v => bif decide (off < vs.length) then κ (h.set id (.cells (vs.set off v))) else none
    | .recs _ _ => none
    | .dead => none
  | _ => none

/-- A whole struct out of its cells, and into them. -/
def loadAggC (n : Nat) (p : V) (h : List E) (κ : V → R) : R :=
  match p with
  | .ptr id 0 => match getE h id with
    | .cells vs => bif Nat.beq vs.length n then κ (.agg vs) else none
    | _ => none
  | _ => none
/-- An array out of the cells of a struct. -/
def loadArrC (n : Nat) (p : V) (h : List E) (κ : V → R) : R :=
  match p with
  | .ptr id off => match getE h id with
    | .cells vs => bif decide (off + n ≤ vs.length) then κ (.agg ((vs.drop off).take n)) else none
    | _ => none
  | _ => none
def storeAggC (n : Nat) (p v : V) (h : List E) (κ : List E → R) : R :=
  match p, v with
  | .ptr id 0, .agg ws => match getE h id with
    | .cells vs => bif Nat.beq vs.length n && Nat.beq ws.length n && ws.all V.flat then κ (h.set id (.cells ws)) else none
    | _ => none
  | _, _ => none

def lenC (x : V) (h : List E) (κ : V → R) : R :=
  match x with
  | .ro _ l => κ (.int .i64 l.len)
  | .nil => κ (.int .i64 0)
  | .own id => match getE h id with
    | .row l => κ (.int .i64 l.len)
    | _ => none
  | .sub _ _ n => κ (.int .i64 n)
  | _ => none

/-- append: a new row takes the old one's place. -/
def appC (s x : V) (h : List E) (κ : V → List E → R) : R :=
  match s with
  | .own id => match getE h id, listOf h x with
    | .row l, some m => match l.app m with
      | some r => bif small r.len then κ (.own h.length) (h.set id .dead ++ [.row r]) else none
      | none => none
    | _, _ => none
  | .nil => match listOf h x with
    | some m => bif m.len == 0 then κ .nil h else bif small m.len then κ (.own h.length) (h ++ [.row m]) else none
    | none => none
  | .sub id 0 n => match getE h id, listOf h x with
    | .row l, some m => match (l.cut 0 n).app m with
      | some r => bif small r.len then κ (.own h.length) (h.set id .dead ++ [.row r]) else none
      | none => none
    | _, _ => none
  | _ => none

def convC (src dst : Option TI) (x : V) (κ : V → R) : R :=
  match src, dst, x with
  | some _, some ⟨.int k, _, _, _⟩, .int _ n => κ (.int k (k.wrap n))
  | _, _, _ => none

/-- A row out of its parts, as many as it is long. -/
def rowOf (elem : TypeDesc) (vs : List V) : Option L :=
  match elem with
  | .int k => if vs.all (fun v => match v with | .int k' _ => decide (k = k') | _ => false) then some (.ints k (vs.map fun v => match v with | .int _ n => n | _ => 0)) else none
  | .bool => if vs.all (fun v => match v with | .bool _ => true | _ => false) then some (.bools (vs.map fun v => match v with | .bool b => b | _ => false)) else none
  | .string => if vs.all (fun v => match v with | .str _ => true | _ => false) then some (.strs (vs.map fun v => match v with | .str s => s | _ => .empty)) else none
  | _ => none
def zeroRow (elem : TypeDesc) (n : Nat) : Option L :=
  match elem with
  | .int k => some (.ints k (List.replicate n 0))
  | .bool => some (.bools (List.replicate n false))
  | .string => some (.strs (List.replicate n .empty))
  | .slice _ => some (.rows (List.replicate n []))
  | _ => none

/-- The zero of a cell. -/
def zeroFits (d : TypeDesc) (z : Value) : Bool :=
  match d, z with
  | .int k, .int k' n => decide (k = k') && n == 0
  | .bool, .bool b => !b
  | .string, .string s => decide (s = .empty)
  | .slice _, .slice none 0 0 => true
  | _, _ => false
def notAgg : Value → Bool
  | .agg _ => false
  | _ => true

/-- Slices that become the cells of a row: their own rows are written no more. -/
def freeze : List E → List V → Option (List (List Int) × List E)
  | h, [] => some ([], h)
  | h, .own id :: r => match getE h id with
    | .row (.ints .i64 xs) => (freeze (h.set id .dead) r).map fun p => (xs :: p.1, p.2)
    | _ => none
  | h, .ro true (.ints .i64 xs) :: r => (freeze h r).map fun p => (xs :: p.1, p.2)
  | _, _ => none
/-- A store; a row that becomes a cell of a row is written no more. -/
def storeF (p v : V) (h : List E) (κ : List E → R) : R :=
  match v with
  | .own i => match p with
    | .ptr id off => match getE h id with
      | .row (.rows _) => match freeze h [.own i] with
        | some ([xs], h') => storeC (.ptr id off) (.ro true (.ints .i64 xs)) h' κ
        | _ => none
      | _ => storeC (.ptr id off) (.own i) h κ
    | _ => none
  | v => storeC p v h κ
/-- An empty row of a kind. -/
def emptyRow (elem : TypeDesc) : Option L :=
  match elem with
  | .int k => some (.ints k [])
  | .bool => some (.bools [])
  | .string => some (.strs [])
  | .slice _ => some (.rows [])
  | _ => none

/-- The parts of a literal in their order: 0, 1, .. -/
def inOrder : Nat → List (Nat × Operand) → Bool
  | _, [] => true
  | n, (i, _) :: r => Nat.beq i n && inOrder (n + 1) r

def sameOperand : Operand → Operand → Bool
  | .tmp a, .tmp b => Nat.beq a b
  | .const (.int _ a), .const (.int _ b) => a == b
  | _, _ => false

variable (TD : TypeId → Option TI) (K : FuncId → List V → List E → (V → List E → R) → R)

def descOf (t : TypeId) : TypeDesc := match TD t with | some i => i.desc | none => .invalid

def fitsOne (t : TypeId) : Bool := match TD t with | some ⟨_, 1, _, _⟩ => true | _ => false
/-- May these parts be laid into the zero of a struct? -/
def buildOk (fs : Array Field) (parts : Array (Nat × Operand)) (n : Nat) (ev : Operand → V) : Bool :=
  fs.all (fun f => (TD f.type).isSome) && parts.all fun p => match fs[p.1]? with
    | some fd => fitsOne TD fd.type && decide (fd.offset < n) && (ev p.2).flat
    | none => false

def layParts (fs : Array Field) (ev : Operand → V) (ps : List (Nat × Operand)) (zs : List V) : List V :=
  ps.foldl (fun acc p => match fs[p.1]? with | some fd => acc.set fd.offset (ev p.2) | none => acc) zs

def sizeIs (t : TypeId) (n : Nat) : Bool := match TD t with | some ti => Nat.beq ti.size n | none => false
/-- One part that is an array, laid into the zero of a struct. -/
def buildA (fs : Array Field) (ps : List (Nat × Operand)) (zs : List V) (ev : Operand → V) (κ : V → R) : R :=
  match ps with
  | [p] => match fs[p.1]?, ev p.2 with
    | some fd, .agg ws => bif fs.all (fun f => (TD f.type).isSome) && sizeIs TD fd.type ws.length && decide (fd.offset + ws.length ≤ zs.length) then
        κ (.agg (zs.take fd.offset ++ (ws ++ zs.drop (fd.offset + ws.length)))) else none
    | _, _ => none
  | _ => none
/-- The width of a slice's parts, where these are structs. -/
def strideOf (t : TypeId) : Option Nat :=
  match TD t with
  | some ⟨.slice e, _, _, _⟩ => match TD e with
    | some ⟨.struct _, n, _, _⟩ => bif Nat.ble 2 n then some n else none
    | _ => none
  | _ => none
/-- A new row of structs with so many parts, all of them zero. -/
def zeroRecs (t : TypeId) : Option (Nat × Nat) :=
  match TD t with
  | some ⟨.slice e, _, _, _⟩ => match TD e with
    | some ⟨.struct _, n, b, .agg cs⟩ => match ints64 (cs.toList.map ofConst) with
      | some zs => bif Nat.ble 2 n && Nat.beq zs.length n && zs.all (fun z => z == 0) then some (n, b) else none
      | none => none
    | _ => none
  | _ => none
/-- Some cells of a row. -/
def cellsV (xs : List Int) (off n : Nat) : List V := (List.range n).map fun j => V.int .i64 (eli xs (off + j))
/-- No row of structs becomes an empty one of one's own. -/
def opRA (ty : TypeId) (x : Operand) (h : List E) : Option ((V → List E → R) → R) :=
  match x with
  | .const (.slice none 0 0) => match strideOf TD ty with
    | some n => some fun κ => κ (.own h.length) (h ++ [.recs n []])
    | none => none
  | _ => none
def V.isNil : V → Bool
  | .nil => true
  | _ => false
/-- The zero of a struct with slices: each is an empty row of its own. -/
def ownZ (fs : Array Field) : Nat → List V → List E → Option (List V × List E)
  | _, [], h => some ([], h)
  | j, v :: r, h =>
    match v with
    | .nil => match fs.toList.find? (fun f => Nat.beq f.offset j) with
      | some fd => match TD fd.type with
        | some ⟨.slice e, _, _, _⟩ => match TD e with
          | some i => match emptyRow i.desc with
            | some l => (ownZ fs (j + 1) r (h ++ [.row l])).map fun p => (.own h.length :: p.1, p.2)
            | none => none
          | none => none
        | _ => none
      | none => none
    | v => (ownZ fs (j + 1) r h).map fun p => (v :: p.1, p.2)
def opRB (t : TypeId) (parts : Array (Nat × Operand)) (h : List E) : Option ((V → List E → R) → R) :=
  match parts.toList with
  | [] => match TD t with
    | some ⟨.struct fs, _, _, z⟩ => match ofZero z with
      | .agg zs => bif zs.any V.isNil && fs.toList.all (fun f => (TD f.type).isSome) then
          (match ownZ TD fs 0 zs h with
           | some (vs, h') => some fun κ => κ (.agg vs) h'
           | none => none) else none
      | _ => none
    | _ => none
  | _ => none
/-- Rows of structs of numbers: one operation, where it is one on them. -/
def opR (o : Oper) (σ : St) : Option ((V → List E → R) → R) :=
  match o.op with
  | .assign x => opRA TD o.type x σ.h
  | .build t parts => opRB TD t parts σ.h
  | .indexAddr t x i => match strideOf TD t with
    | some n => match σ.ev x, σ.ev i with
      | .recs _ m xs, .int _ k => some fun κ => bif Nat.beq m n && idxOk k (xs.length / n) then κ (.rref n xs (k.toNat * n)) σ.h else none
      | .own id, .int _ k => match getE σ.h id with
        | .recs m xs => some fun κ => bif Nat.beq m n && idxOk k (xs.length / n) then κ (.ptr id (k.toNat * n)) σ.h else none
        | _ => none
      | _, _ => none
    | none => none
  | .fieldAddr t x f => match TD t with
    | some ⟨.struct fs, _, _, _⟩ => match σ.ev x with
      | .rref m xs off => match fs[f]? with
        | some fd => match TD fd.type with
          | some ⟨_, n + 1, _, _⟩ => some fun κ => bif Nat.blt fd.offset m then κ (.ref (.int .i64 (eli xs (off + fd.offset)))) σ.h else none
          | _ => none
        | none => none
      | _ => none
    | _ => none
  | .load t p => match TD t with
    | some ⟨.struct _, n, _, _⟩ => match σ.ev p with
      | .rref m xs off => some fun κ => bif Nat.beq m n then κ (.agg (cellsV xs off n)) σ.h else none
      | .ptr id off => match getE σ.h id with
        | .recs _ xs => some fun κ => bif decide (off + n ≤ xs.length) then κ (.agg (cellsV xs off n)) σ.h else none
        | _ => none
      | _ => none
    | _ => none
  | .store t p x => match TD t with
    | some ⟨.struct _, n, _, _⟩ => match σ.ev p, σ.ev x with
      | .ptr id off, .agg ws => match getE σ.h id with
        | .recs m xs => match ints64 ws with
          | some ys => some fun κ => bif Nat.beq ys.length n && decide (off + n ≤ xs.length) then κ .junk (σ.h.set id (.recs m (xs.take off ++ (ys ++ xs.drop (off + n))))) else none
          | none => none
        | _ => none
      | _, _ => none
    | _ => none
  | .slice t x lo hi none => match strideOf TD t with
    | some n => match σ.ev x with
      | .recs s m xs => some fun κ => bif Nat.beq m n then cutC (lo.map σ.ev) (hi.map σ.ev) (xs.length / n) (fun a k => κ (.recs s n ((xs.drop (a * n)).take (k * n))) σ.h) else none
      | _ => none
    | none => none
  | .buildSlice t k parts => match strideOf TD t with
    | some n => match k, parts.toList with
      | 0, [] => some fun κ => κ (.own σ.h.length) (σ.h ++ [.recs n []])
      | 1, [(0, x)] => match σ.ev x with
        | .agg ws => match ints64 ws with
          | some ys => some fun κ => bif Nat.beq ys.length n && decide (n ≤ 1000) then κ (.own σ.h.length) (σ.h ++ [.recs n ys]) else none
          | none => none
        | _ => none
      | _, _ => none
    | none => none
  | .makeSlice t l c => match zeroRecs TD t with
    | some (n, b) => match σ.ev l with
      | .int .i64 k => some fun κ => bif sameOperand l c && decide (b ≤ 64) && decide (0 ≤ k) && small k.toNat then κ (.own σ.h.length) (σ.h ++ [.recs n (List.replicate (k.toNat * n) 0)]) else none
      | _ => none
    | none => none
  | .call ⟨.builtin .len, args, argTypes⟩ => match args.toList, argTypes.toList with
    | [x], [t] => match strideOf TD t with
      | some n => match σ.ev x with
        | .recs _ m xs => some fun κ => bif Nat.beq m n then κ (.int .i64 ((xs.length / n : Nat) : Int)) σ.h else none
        | .own id => match getE σ.h id with
          | .recs m xs => some fun κ => bif Nat.beq m n then κ (.int .i64 ((xs.length / n : Nat) : Int)) σ.h else none
          | _ => none
        | _ => none
      | none => none
    | _, _ => none
  | .call ⟨.builtin .append, args, argTypes⟩ => match args.toList, argTypes.toList with
    | [s, x], [t, u] => match zeroRecs TD t with
      | some (n, b) => match σ.ev s with
        | .own id => match getE σ.h id with
          | .recs m xs => match σ.ev x with
            | .own id2 => match getE σ.h id2 with
              | .recs m2 ys => some fun κ => bif Nat.beq t u && Nat.beq m n && Nat.beq m2 n && decide (b ≤ 64) && small (xs.length + ys.length) then κ (.own σ.h.length) (σ.h.set id .dead ++ [.recs n (xs ++ ys)]) else none
              | _ => none
            | .recs _ m2 ys => some fun κ => bif Nat.beq t u && Nat.beq m n && Nat.beq m2 n && decide (b ≤ 64) && small (xs.length + ys.length) then κ (.own σ.h.length) (σ.h.set id .dead ++ [.recs n (xs ++ ys)]) else none
            | _ => none
          | _ => none
        | _ => none
      | none => none
    | _, _ => none
  | _ => none
/-- One operation: its value and the blocks behind it. -/
def opC0 (o : Oper) (σ : St) (κ : V → List E → R) : R :=
  match o.op with
  | .move x => κ (σ.ev x) σ.h
  | .assign x => match x with
    | .const (.slice none 0 0) => match TD o.type with
      | some ⟨.slice e, _, _, _⟩ => match TD e with
        | some i => match emptyRow i.desc with
          | some l => κ (.own σ.h.length) (σ.h ++ [.row l])
          | none => none
        | none => none
      | _ => none
    | x => κ (σ.ev x) σ.h
  | .pick c a b => match σ.ev c with
    | .bool t => match σ.ev a, σ.ev b with
      | .bool x, .bool y => κ (.bool (bif t then x else y)) σ.h
      | x, y => bif t then κ x σ.h else κ y σ.h
    | _ => none
  | .binOp op t x y _ => binC (match descOf TD t with | .bool => true | _ => false) op (σ.ev x) (σ.ev y) fun v => κ v σ.h
  | .unOp op _ x => unC op (σ.ev x) fun v => κ v σ.h
  | .convert src dst x => match TD src, TD dst with
    | some ⟨.slice e, _, _, _⟩, some ⟨.string, _, _, _⟩ => match TD e with
      | some ⟨.int .u8, _, _, _⟩ => toStrC (σ.ev x) σ.h fun v => κ v σ.h
      | _ => none
    | s, d => convC s d (σ.ev x) fun v => κ v σ.h
  | .index t x i => match TD t with
    | some ⟨.string, _, _, _⟩ => idxStrC (σ.ev x) (σ.ev i) fun v => κ v σ.h
    | _ => none
  | .extract t i => match σ.ev t with
    | .tup vs => bif decide (i < vs.length) then κ (vs.getD i .junk) σ.h else none
    | _ => none
  | .nilCheck x => match σ.ev x with
    | .ptr id off => κ (.ptr id off) σ.h
    | _ => none
  | .indexAddr t x i => match TD t with
    | some ⟨.array n e, _, _, _⟩ => match TD e with
      | some ⟨_, 1, _, _⟩ => match σ.ev x, σ.ev i with
        | .ptr id off, .int _ k => bif idxOk k n then κ (.elt id off n k) σ.h else none
        | _, _ => none
      | _ => none
    | some ⟨.slice e, _, _, _⟩ => match TD e with
      | some ⟨_, 1, _, _⟩ => idxC (σ.ev x) (σ.ev i) σ.h fun v => κ v σ.h
      | _ => none
    | _ => none
  | .fieldAddr t x f => match TD t, σ.ev x with
    | some ⟨.struct fs, _, _, _⟩, .ptr id off => match fs[f]? with
      | some fd => match TD fd.type with
        | some ⟨_, n + 1, _, _⟩ => κ (.ptr id (off + fd.offset)) σ.h
        | _ => none
      | none => none
    | _, _ => none
  | .load t p => match TD t with
    | some ⟨.struct _, n, _, _⟩ => loadAggC n (σ.ev p) σ.h fun v => κ v σ.h
    | some ⟨.array _ _, n, _, _⟩ => loadArrC n (σ.ev p) σ.h fun v => κ v σ.h
    | some _ => loadC (σ.ev p) σ.h fun v => κ v σ.h
    | none => none
  | .store t p x => match TD t with
    | some ⟨.struct _, n, _, _⟩ => storeAggC n (σ.ev p) (σ.ev x) σ.h fun h => κ .junk h
    | some ⟨_, 1, _, _⟩ => match σ.ev x with
      | .agg _ | .tup _ | .junk => none
      | v => storeF (σ.ev p) v σ.h fun h => κ .junk h
    | _ => none
  | .slice t x lo hi none => match TD t with
    | some ⟨.slice e, _, _, _⟩ => match TD e with
      | some ⟨_, 1, _, _⟩ => sliceC (σ.ev x) (lo.map σ.ev) (hi.map σ.ev) σ.h fun v => κ v σ.h
      | _ => none
    | some ⟨.string, _, _, _⟩ => sliceStrC (σ.ev x) (lo.map σ.ev) (hi.map σ.ev) fun v => κ v σ.h
    | _ => none
  | .buildSlice t n parts => match TD t with
    | some ⟨.slice e, _, _, _⟩ => match TD e with
      | some ⟨d, 1, _, ze⟩ => bif Nat.beq parts.size n && inOrder 0 parts.toList && decide (n ≤ 1000) && notAgg ze then
          (match rowOf d (parts.toList.map fun p => σ.ev p.2) with
           | some l => κ (.own σ.h.length) (σ.h ++ [.row l])
           | none => match d with
             | .slice _ => match freeze σ.h (parts.toList.map fun p => σ.ev p.2) with
               | some (xs, h) => κ (.own h.length) (h ++ [.row (.rows xs)])
               | none => none
             | _ => none) else none
      | _ => none
    | _ => none
  | .makeSlice t l c => match TD t, σ.ev l with
    | some ⟨.slice e, _, _, _⟩, .int .i64 n => match TD e with
      | some ⟨d, 1, b, ze⟩ => bif sameOperand l c && decide (b ≤ 64) && decide (0 ≤ n) && small n.toNat && zeroFits d ze then
          (match zeroRow d n.toNat with
           | some r => κ (.own σ.h.length) (σ.h ++ [.row r])
           | none => none) else none
      | _ => none
    | _, _ => none
  | .box _ x => match σ.ev x with
    | .agg vs => bif vs.all V.flat then κ (.ptr σ.h.length 0) (σ.h ++ [.cells vs]) else none
    | .tup _ | .junk => none
    | v => κ (.ptr σ.h.length 0) (σ.h ++ [.cells [v]])
  | .build t parts => match TD t with
    | some ⟨.struct fs, n, _, z⟩ => match ofZero z with
      | .agg zs =>
        bif buildOk TD fs parts zs.length σ.ev then
          κ (.agg (layParts fs σ.ev parts.toList zs)) σ.h
        else buildA TD fs parts.toList zs σ.ev fun v => κ v σ.h
      | _ => none
    | _ => none
  | .alloc t => match TD t with
    | some ⟨_, _, _, z⟩ => match ofZero z with
      | .agg vs => bif vs.all V.flat then κ (.ptr σ.h.length 0) (σ.h ++ [.cells vs]) else none
      | .tup _ | .junk => none
      | v => κ (.ptr σ.h.length 0) (σ.h ++ [.cells [v]])
    | none => none
  | .field t x f => match TD t, σ.ev x with
    | some ⟨.struct fs, _, _, _⟩, .agg vs => match fs[f]? with
      | some fd => match TD fd.type with
        | some ⟨.struct _, _, _, _⟩ => none
        | some ⟨.array _ _, _, _, _⟩ => none
        | some _ => bif decide (fd.offset < vs.length) then κ (vs.getD fd.offset .junk) σ.h else none
        | none => none
      | none => none
    | _, _ => none
  | .call c => match c.callee with
    | .builtin .len => match c.args.toList, c.argTypes.toList with
      | [x], [t] => match TD t with
        | some ⟨.slice _, _, _, _⟩ => lenC (σ.ev x) σ.h fun v => κ v σ.h
        | some ⟨.string, _, _, _⟩ => lenStrC (σ.ev x) fun v => κ v σ.h
        | _ => none
      | _, _ => none
    | .builtin .min => match c.args.toList.map σ.ev with
      | x :: r => minmaxC false x r fun v => κ v σ.h
      | [] => none
    | .builtin .max => match c.args.toList.map σ.ev with
      | x :: r => minmaxC true x r fun v => κ v σ.h
      | [] => none
    | .builtin .append => match c.args.toList, c.argTypes.toList with
      | [s, x], [t, u] => bif Nat.beq t u then
        match TD t with
        | some ⟨.slice e, _, _, _⟩ => match TD e with
          | some ⟨_, 1, b, ze⟩ => bif decide (b ≤ 64) && notAgg ze then appC (σ.ev s) (σ.ev x) σ.h κ else none
          | _ => none
        | _ => none
        else none
      | _, _ => none
    | .value (.func f) => K f (c.args.toList.map σ.ev) σ.h κ
    | _ => none
  | _ => none

/-- One operation, be it on rows of structs or another. -/
def opC (o : Oper) (σ : St) (κ : V → List E → R) : R :=
  match opR TD o σ with
  | some f => f κ
  | none => opC0 TD K o σ κ

/-- The operations of a region in their order. -/
def opsC (ops : Array Oper) : List Oper → St → (St → R) → R
  | [], σ, κ => κ σ
  | o :: r, σ, κ =>
    match o.guard with
    | none => opC TD K o σ fun v h => opsC ops r (St.put { σ with h } o.dst v) κ
    | some (j, want) => match (ops[j]?).bind (·.dst) with
      | some t => match getT σ.t t with
        | .bool b =>
          bif b then
            (bif want then opC TD K o (σ.put (some t) (.bool true)) fun v h => opsC ops r (St.put { σ.put (some t) (.bool true) with h } o.dst v) κ
             else opsC ops r ((σ.put (some t) (.bool true)).put o.dst (.tup [])) κ)
          else
            (bif want then opsC ops r ((σ.put (some t) (.bool false)).put o.dst (.tup [])) κ
             else opC TD K o (σ.put (some t) (.bool false)) fun v h => opsC ops r (St.put { σ.put (some t) (.bool false) with h } o.dst v) κ)
        | .tup [] => opsC ops r (σ.put o.dst (.tup [])) κ
        | _ => none
      | none => none

/-- Of two ways, the one that is known. -/
inductive X where
  | normal
  | exit (id : Nat)
  | ret

def isNoneL : Option (List (Nat × Nat)) → Bool
  | none => true
  | some _ => false
def isNilL : Option (List (Nat × Nat)) → Bool
  | some [] => true
  | _ => false
def getL : Option (List (Nat × Nat)) → List (Nat × Nat)
  | some l => l
  | none => []
/-- The first region's number. -/
def headId : Code → Nat
  | .region id _ _ => id
  | .seq a _ => headId a
  | .block _ c => headId c
  | .loop c => headId c
  | .scope c => headId c
  | _ => 0

/-- The own blocks that a value names. -/
def V.ids0 : V → List Nat
  | .own id => [id]
  | .sub id _ _ => [id]
  | .ptr id _ => [id]
  | .elt id _ _ _ => [id]
  | _ => []
def V.ids : V → List Nat
  | .agg vs => vs.flatMap V.ids0
  | v => v.ids0
def E.ids : E → List Nat
  | .cells vs => vs.flatMap V.ids0
  | _ => []

/-- The blocks that an operation's operands name. -/
def idsAt (o : Oper) (σ : St) : List Nat := o.op.operands.toList.flatMap fun x => (σ.ev x).ids
/-- Do two operations name different blocks? -/
def apartM (need : List (Nat × Nat)) (ops : Array Oper) (q : Nat) (σ : St) : Bool :=
  need.all fun pq => !Nat.beq pq.2 q || (match ops[pq.1]?, ops[pq.2]? with
    | some a, some b => (idsAt a σ).all fun i => !(idsAt b σ).any (Nat.beq i)
    | _, _ => false)
/-- The operations of a region in their order, some of which must name different blocks. -/
def opsM (need : List (Nat × Nat)) (ops : Array Oper) : Nat → List Oper → St → (St → R) → R
  | _, [], σ, κ => κ σ
  | i, o :: r, σ, κ => bif apartM need ops i σ then opsC TD K ops [o] σ fun σ' => opsM need ops (i + 1) r σ' κ else none

def reName (ids : List Nat) (n : Nat) : Option Nat := ids.idxOf? n
def V.re0 (ids : List Nat) : V → V
  | .own id => match reName ids id with | some j => .own j | none => .junk
  | .sub id o n => match reName ids id with | some j => .sub j o n | none => .junk
  | .ptr id o => match reName ids id with | some j => .ptr j o | none => .junk
  | .elt id o n i => match reName ids id with | some j => .elt j o n i | none => .junk
  | .agg _ => .junk
  | .tup _ => .junk
  | v => v
def V.re (ids : List Nat) : V → V
  | .agg vs => .agg (vs.map (V.re0 ids))
  | v => V.re0 ids v
def E.re (ids : List Nat) : E → E
  | .cells vs => .cells (vs.map (V.re0 ids))
  | e => e

def addIds : List Nat → List Nat → List Nat
  | [], acc => acc
  | x :: r, acc => addIds r (bif acc.any (Nat.beq x) then acc else acc ++ [x])

/-- What stays of a state: some temporaries, the first m blocks, and those that are named. -/
def keepIds (m : Nat) (vs : List V) (h : List E) : List Nat :=
  let ids1 := vs.foldl (fun acc v => addIds v.ids acc) (List.range m)
  ids1.foldl (fun acc i => addIds (getE h i).ids acc) ids1
def norm (m : Nat) (live : List Nat) (σ : St) : St :=
  let vs := live.map fun t => getT σ.t t
  let ids := keepIds m vs σ.h
  { n := σ.n, t := live.map fun t => (t, (getT σ.t t).re ids), h := ids.map fun i => (getE σ.h i).re ids }

def iterC (m : Nat) (f : St → (X → St → R) → R) (live out : List Nat) : Nat → St → (X → St → R) → R
  | 0, _, _ => none
  | n + 1, σ, k => f σ fun x σ' => match x with
    | .normal => iterC m f live out n (norm m live σ') k
    | x => k x (norm m out σ')

variable (ann : Nat → List Nat × List Nat) (drawOk : Array Oper → Option (List (Nat × Nat))) (m fuel : Nat)

/-- Where two ways meet, what is not used any more may be left out. -/
def nrmS (b : Code) (σ : St) : St := match (ann (headId b + 100000)).2 with
  | [] => σ
  | _ :: _ => norm m (ann (headId b + 100000)).1 σ
def seqK (b : Code) (f : St → R) (k : X → St → R) : X → St → R := fun x σ' => match x with
  | .normal => f (nrmS ann m b σ')
  | x => k x σ'
def denC : Code → St → (X → St → R) → R
  | .skip, σ, k => k .normal σ
  | .label _, σ, k => k .normal σ
  | .region _ ops draw, σ, k => bif draw then (bif isNoneL (drawOk ops) then none else
      bif isNilL (drawOk ops) then opsC TD K ops ops.toList σ fun σ' => k .normal σ'
      else opsM TD K (getL (drawOk ops)) ops 0 ops.toList σ fun σ' => k .normal σ')
    else opsC TD K ops ops.toList σ fun σ' => k .normal σ'
  | .seq a b, σ, k => denC a σ (seqK ann m b (fun σ => denC b σ k) k)
  | .cond c a b, σ, k => match σ.ev c with
    | .bool t => bif t then denC a (σ.know c true) k else denC b (σ.know c false) k
    | _ => none
  | .block id c, σ, k => denC c σ fun x σ' => match x with
    | .exit j => bif Nat.beq j id then k .normal σ' else k (.exit j) σ'
    | x => k x σ'
  | .loop c, σ, k => iterC m (fun σ k => denC c σ k) (ann (headId c)).1 (ann (headId c)).2 fuel (norm m (ann (headId c)).1 σ) k
  | .exit id, σ, k => k (.exit id) σ
  | .ret, σ, k => k .ret σ
  | _, _, _ => none

/-- The body of a loop, by its first region. -/
def findLoop (id : Nat) : Code → Option Code
  | .seq a b => (findLoop id a).or (findLoop id b)
  | .cond _ a b => (findLoop id a).or (findLoop id b)
  | .block _ c => findLoop id c
  | .loop c => bif Nat.beq (headId c) id then some c else findLoop id c
  | _ => none

/-- One result of a function. -/
def resC (σ : St) : ResultVar → Option V
  | .tmp t => some (getT σ.t t)
  | .cell a t => match TD t with
    | some ⟨.struct _, n, _, _⟩ => match getT σ.t a with
      | .ptr id 0 => match getE σ.h id with
        | .cells vs => bif Nat.beq vs.length n then some (.agg vs) else none
        | _ => none
      | _ => none
    | _ => none
def resAll (σ : St) : List ResultVar → Option (List V)
  | [] => some []
  | r :: rs => match resC TD σ r, resAll σ rs with
    | some v, some vs => some (v :: vs)
    | _, _ => none

/-- May a value be handed on to the caller? -/
def V.out0 : V → Bool
  | .ro s _ => s
  | .ref _ => false
  | .rref .. => false
  | .recs s _ _ => s
  | .elt .. => false
  | .agg _ | .tup _ => false
  | _ => true
def V.out1 : V → Bool
  | .agg vs => vs.all V.out0
  | v => v.out0
def E.out : E → Bool
  | .cells vs => vs.all V.out0
  | _ => true

/-- What a call hands back: the values, and the blocks that they name behind the first m. -/
def outC (m : Nat) (vs : List V) (h : List E) (κ : V → List E → R) : R :=
  let ids := keepIds m vs h
  let h' := ids.map fun i => (getE h i).re ids
  let vs' := vs.map fun v => v.re ids
  bif vs'.all V.out1 && h'.all E.out then
    (match vs' with
     | [v] => κ v h'
     | vs' => κ (.tup vs') h') else none

def argTs : Nat → List V → List (Nat × V)
  | _, [] => []
  | n, v :: r => (n, v) :: argTs (n + 1) r

/-- A whole function. -/
def funC (fn : Func) (args : List V) (h : List E) (κ : V → List E → R) : R :=
  match fn.body with
  | some c => denC TD K ann drawOk h.length fuel c { n := max fn.ntmps args.length, t := argTs 0 args, h } fun x σ => match x with
    | .exit _ => none
    | _ => match resAll TD σ fn.results.toList with
      | some vs => outC h.length vs σ.h κ
      | none => none
  | none => none

/-- Does the callee write into this row? (told by a pointer in place of the kind) -/
def rwD : TypeDesc → Bool
  | .pointer _ => true
  | .func _ _ _ => true
  | _ => false
/-- An empty list of a kind, by its number. -/
def codeL : Nat → Option L
  | 1 => some (.ints .i64 [])
  | 2 => some (.ints .u8 [])
  | 3 => some (.bools [])
  | 4 => some (.strs [])
  | _ => none
/-- A cell of a struct that goes over: a view of its row, or the row itself where the callee writes into it. -/
def passV (rw keep : Bool) (h : List E) (code : Nat) (ids : List Nat) : V → Option (V × List Nat)
  | .ro s l => some (.ro (s && keep) l, ids)
  | .own id => match getE h id with
    | .row l => bif rw then (bif ids.any (Nat.beq id) then none else some (.own ids.length, ids ++ [id])) else some (.ro false l, ids)
    | _ => none
  | .sub id o n => match getE h id with
    | .row l => bif rw then none else some (.ro false (l.cut o n), ids)
    | _ => none
  | .nil => match codeL code with
    | some l => some (.ro false l, ids)
    | none => none
  | .int k n => some (.int k n, ids)
  | .bool b => some (.bool b, ids)
  | .str s => some (.str s, ids)
  | _ => none
def passVs (rw keep : Bool) (h : List E) : List Nat → List V → List Nat → Option (List V × List Nat)
  | [], [], ids => some ([], ids)
  | c :: cs, v :: vs, ids => match passV rw keep h c ids v with
    | some p => (passVs rw keep h cs vs p.2).map fun q => (p.1 :: q.1, q.2)
    | none => none
  | _, _, _ => none
/-- What a call hands over: views of slices; blocks behind pointers, and rows that are written. -/
def passC (keep : Bool) (h : List E) : List TypeDesc → List V → List Nat → Option (List V × List Nat)
  | [], [], ids => some ([], ids)
  | d :: ds, v :: r, ids =>
    match v with
    | .ro s l => (passC keep h ds r ids).map fun p => (.ro (s && keep) l :: p.1, p.2)
    | .recs s n xs => (passC keep h ds r ids).map fun p => (.recs (s && keep) n xs :: p.1, p.2)
    | .own id => match getE h id with
      | .recs n xs => bif rwD d then none else (passC keep h ds r ids).map fun p => (.recs false n xs :: p.1, p.2)
      | .row l => bif rwD d then (bif ids.any (Nat.beq id) then none else (passC keep h ds r (ids ++ [id])).map fun p => (.own ids.length :: p.1, p.2))
        else (passC keep h ds r ids).map fun p => (.ro false l :: p.1, p.2)
      | _ => none
    | .sub id o n => match getE h id with
      | .row l => (passC keep h ds r ids).map fun p => (.ro false (l.cut o n) :: p.1, p.2)
      | _ => none
    | .nil => match emptyRow d with
      | some l => (passC keep h ds r ids).map fun p => (.ro false l :: p.1, p.2)
      | none => none
    | .ptr id 0 => bif ids.any (Nat.beq id) then none else match getE h id with
      | .cells vs => bif vs.all (fun v => v.ids0.isEmpty && v.flat && v.out0) then (passC keep h ds r (ids ++ [id])).map fun p => (.ptr ids.length 0 :: p.1, p.2) else none
      | _ => none
    | .int k n => (passC keep h ds r ids).map fun p => (.int k n :: p.1, p.2)
    | .bool b => (passC keep h ds r ids).map fun p => (.bool b :: p.1, p.2)
    | .str s => (passC keep h ds r ids).map fun p => (.str s :: p.1, p.2)
    | .agg vs => match d with
      | .tuple cs => match passVs false keep h cs.toList vs ids with
        | some q => (passC keep h ds r q.2).map fun p => (.agg q.1 :: p.1, p.2)
        | none => none
      | .func cs _ _ => match passVs true keep h cs.toList vs ids with
        | some q => (passC keep h ds r q.2).map fun p => (.agg q.1 :: p.1, p.2)
        | none => none
      | _ => bif vs.all (fun v => v.ids0.isEmpty && v.flat && v.out0) then (passC keep h ds r ids).map fun p => (.agg vs :: p.1, p.2) else none
    | _ => none
  | _, _, _ => none

/-- The callee's blocks under the caller's numbers. -/
def mapId (ids : List Nat) (len : Nat) (j : Nat) : Nat := bif Nat.blt j ids.length then ids.getD j 0 else len + (j - ids.length)
def V.sh0 (ids : List Nat) (len : Nat) : V → V
  | .own id => .own (mapId ids len id)
  | .sub id o n => .sub (mapId ids len id) o n
  | .ptr id o => .ptr (mapId ids len id) o
  | .elt id o n i => .elt (mapId ids len id) o n i
  | .agg _ | .tup _ => .junk
  | v => v
def V.sh1 (ids : List Nat) (len : Nat) : V → V
  | .agg vs => .agg (vs.map (V.sh0 ids len))
  | v => v.sh0 ids len
def V.sh (ids : List Nat) (len : Nat) : V → V
  | .tup vs => .tup (vs.map (V.sh1 ids len))
  | v => v.sh1 ids len
def E.sh (ids : List Nat) (len : Nat) : E → E
  | .cells vs => .cells (vs.map (V.sh0 ids len))
  | e => e
def backE : List Nat → List E → List E → List E
  | i :: is, e :: es, h => backE is es (h.set i e)
  | _, _, h => h

/-- No row that is written is also looked at. -/
def apartC : List TypeDesc → List V → List Nat → Bool
  | d :: ds, v :: r, ids => (match v with
    | .own id => rwD d || !ids.any (Nat.beq id)
    | .sub id _ _ => !ids.any (Nat.beq id)
    | .agg vs => rwD d || vs.all fun v => v.ids0.all fun id => !ids.any (Nat.beq id)
    | _ => true) && apartC ds r ids
  | _, _, _ => true
def passA (keep : Bool) (h : List E) (ds : List TypeDesc) (args : List V) : Option (List V × List Nat) :=
  match passC keep h ds args [] with
  | some p => bif apartC ds args p.2 then some p else none
  | none => none
theorem passA_is {keep : Bool} {h : List E} {ds : List TypeDesc} {args : List V} {p : List V × List Nat} (hp : passA keep h ds args = some p) : passC keep h ds args [] = some p ∧ apartC ds args p.2 = true := by
  unfold passA at hp
  split at hp
  · rename_i q hq
    cases ha : apartC ds args q.2 with
    | false => rw [ha] at hp; cases hp
    | true => rw [ha] at hp; cases hp; exact ⟨hq, ha⟩
  · cases hp

/-- A call by what is known of the callee. -/
def callC (keep : Bool) (ds : List TypeDesc) (sp : List V → List E → (V → List E → R) → R) (args : List V) (h : List E) (κ : V → List E → R) : R :=
  match passA keep h ds args with
  | some (args', ids) => sp args' (ids.map (getE h)) fun v h1 =>
      κ (v.sh ids h.length) (backE ids ((h1.take ids.length).map (E.sh ids h.length)) h ++ (h1.drop ids.length).map (E.sh ids h.length))
  | none => none

end Go.Proofs.Ytgpgifpblchjjaa.D
/- The small machine's operations are determined, and look at their operands alone. Conditions: those of each theorem. -/
namespace Go.Proofs.Ytgpgifpblchjjaa.D
open Go.RowKit
set_option linter.unusedVariables false
set_option linter.unusedSimpArgs false

/-- What goes on with one value. -/
def Det1 (f : (V → R) → R) (r : V × List E) (κ : V → R) : Prop := ∃ v, κ v = some r ∧ ∀ κ2, f κ2 = κ2 v
def Det2 (f : (V → List E → R) → R) (r : V × List E) (κ : V → List E → R) : Prop := ∃ v h, κ v h = some r ∧ ∀ κ2, f κ2 = κ2 v h

theorem binC_det {isB : Bool} {op : BinOp} {x y : V} {κ : V → R} {r : V × List E} (h : binC isB op x y κ = some r) : Det1 (binC isB op x y) r κ := by
  unfold binC at h
  split at h
  · rename_i k m k' n
    split at h
    · cases hc : decide (n < 0) with
      | true => simp [hc] at h
      | false => rw [hc] at h; exact ⟨_, h, fun κ2 => by simp only [binC, hc, cond_false]⟩
    · cases hc : decide (n < 0) with
      | true => simp [hc] at h
      | false => rw [hc] at h; exact ⟨_, h, fun κ2 => by simp only [binC, hc, cond_false]⟩
    · cases hc : decide (k = k') with
      | false => simp [hc] at h
      | true =>
        rw [hc, cond_true] at h
        cases op <;> simp only at h <;> first
          | (cases h; done)
          | (refine ⟨_, h, fun κ2 => ?_⟩; simp only [binC, hc, cond_true]; done)
          | (cases hz : (n == 0) with
             | true => simp [hz] at h
             | false => rw [hz, cond_false] at h; refine ⟨_, h, fun κ2 => ?_⟩; simp only [binC, hc, hz, cond_true, cond_false])
          | contradiction
  · rename_i m n
    cases isB with
    | false => simp at h
    | true =>
      rw [cond_true] at h
      cases op <;> simp only at h <;> first | (cases h; done) | (refine ⟨_, h, fun κ2 => ?_⟩; simp only [binC, cond_true]; done)
  · rename_i m n
    cases op <;> simp only at h <;> first
      | (cases h; done)
      | (refine ⟨_, h, fun κ2 => ?_⟩; simp only [binC]; done)
      | (cases hc : small (m.size + n.size) with
         | false => rw [hc] at h; simp at h
         | true => rw [hc, cond_true] at h; refine ⟨_, h, fun κ2 => ?_⟩; simp only [binC, hc, cond_true])
  · cases h
theorem unC_det {op : UnOp} {x : V} {κ : V → R} {r : V × List E} (h : unC op x κ = some r) : Det1 (unC op x) r κ := by
  unfold unC at h
  split at h
  · exact ⟨_, h, fun κ2 => rfl⟩
  · exact ⟨_, h, fun κ2 => rfl⟩
  · cases h
theorem convC_det {s d : Option TI} {x : V} {κ : V → R} {r : V × List E} (h : convC s d x κ = some r) : Det1 (convC s d x) r κ := by
  unfold convC at h
  split at h
  · exact ⟨_, h, fun κ2 => rfl⟩
  · cases h
theorem toStrC_det {x : V} {h0 : List E} {κ : V → R} {r : V × List E} (h : toStrC x h0 κ = some r) : Det1 (toStrC x h0) r κ := by
  unfold toStrC at h
  split at h
  · exact ⟨_, h, fun κ2 => rfl⟩
  · split at h
    · rename_i xs hl
      refine ⟨_, h, fun κ2 => ?_⟩
      cases x <;> first | (simp only [toStrC, hl]; done) | simp [listOf] at hl
    · cases h
theorem idxStrC_det {x i : V} {κ : V → R} {r : V × List E} (h : idxStrC x i κ = some r) : Det1 (idxStrC x i) r κ := by
  unfold idxStrC at h
  split at h
  · rename_i s k i
    cases hc : idxOk i s.size with
    | false => rw [hc] at h; cases h
    | true => rw [hc, cond_true] at h; exact ⟨_, h, fun κ2 => by simp only [idxStrC, hc, cond_true]⟩
  · cases h
theorem lenStrC_det {x : V} {κ : V → R} {r : V × List E} (h : lenStrC x κ = some r) : Det1 (lenStrC x) r κ := by
  unfold lenStrC at h
  split at h
  · exact ⟨_, h, fun κ2 => rfl⟩
  · cases h
theorem minmaxC_det {mx : Bool} {κ : V → R} {r : V × List E} : ∀ (ys : List V) (x : V), minmaxC mx x ys κ = some r → Det1 (minmaxC mx x ys) r κ := by
  intro ys
  induction ys with
  | nil =>
    intro x h
    have e : ∀ κ2, minmaxC mx x [] κ2 = κ2 x := fun κ2 => by cases x <;> rfl
    exact ⟨x, by rw [e] at h; exact h, e⟩
  | cons y ys ih =>
    intro x h
    cases x with
    | int k m =>
      cases y with
      | int k' n =>
        cases mx with
        | true => exact ih _ h
        | false => exact ih _ h
      | _ => simp [minmaxC] at h
    | _ => simp [minmaxC] at h
theorem idxC_det {x i : V} {h0 : List E} {κ : V → R} {r : V × List E} (h : idxC x i h0 κ = some r) : Det1 (idxC x i h0) r κ := by
  unfold idxC at h
  split at h
  · rename_i s l k n
    cases hc : idxOk n l.len with
    | false => simp [hc] at h
    | true => rw [hc, cond_true] at h; exact ⟨_, h, fun κ2 => by simp only [idxC, hc, cond_true]⟩
  · rename_i id k n
    split at h
    · rename_i l hl
      cases hc : idxOk n l.len with
      | false => simp [hc] at h
      | true => rw [hc, cond_true] at h; exact ⟨_, h, fun κ2 => by simp only [idxC, hl, hc, cond_true]⟩
    · cases h
  · rename_i id o m k n
    split at h
    · rename_i l hl
      cases hc : idxOk n m with
      | false => simp [hc] at h
      | true => rw [hc, cond_true] at h; exact ⟨_, h, fun κ2 => by simp only [idxC, hl, hc, cond_true]⟩
    · cases h
  · cases h
theorem loadC_det {p : V} {h0 : List E} {κ : V → R} {r : V × List E} (h : loadC p h0 κ = some r) : Det1 (loadC p h0) r κ := by
  unfold loadC at h
  split at h
  · exact ⟨_, h, fun κ2 => rfl⟩
  · rename_i id off n i
    split at h
    · rename_i vs hl
      split at h
      · rename_i xs hx
        cases hc : Nat.beq xs.length n with
        | false => simp [hc] at h
        | true => rw [hc, cond_true] at h; exact ⟨_, h, fun κ2 => by simp only [loadC, hl, hx, hc, cond_true]⟩
      · cases h
    · cases h
  · rename_i id off
    split at h
    · rename_i l hl
      cases hc : decide (off < l.len) with
      | false => simp [hc] at h
      | true => rw [hc, cond_true] at h; exact ⟨_, h, fun κ2 => by simp only [loadC, hl, hc, cond_true]⟩
    · rename_i vs hl
      cases hc : decide (off < vs.length) with
      | false => simp [hc] at h
      | true => rw [hc, cond_true] at h; exact ⟨_, h, fun κ2 => by simp only [loadC, hl, hc, cond_true]⟩
    · rename_i n xs hl
      cases hc : decide (off < xs.length) with
      | false => simp [hc] at h
      | true => rw [hc, cond_true] at h; exact ⟨_, h, fun κ2 => by simp only [loadC, hl, hc, cond_true]⟩
    · cases h
  · cases h
theorem lenC_det {x : V} {h0 : List E} {κ : V → R} {r : V × List E} (h : lenC x h0 κ = some r) : Det1 (lenC x h0) r κ := by
  unfold lenC at h
  split at h
  · exact ⟨_, h, fun κ2 => rfl⟩
  · exact ⟨_, h, fun κ2 => rfl⟩
  · split at h
    · rename_i id l hl
      exact ⟨_, h, fun κ2 => by simp only [lenC, hl]⟩
    · cases h
  · exact ⟨_, h, fun κ2 => rfl⟩
  · cases h
theorem cutC_det {lo hi : Option V} {n : Nat} {κ : Nat → Nat → R} {r : V × List E} (h : cutC lo hi n κ = some r) : ∃ a m, κ a m = some r ∧ ∀ κ2, cutC lo hi n κ2 = κ2 a m := by
  unfold cutC at h
  split at h
  · exact ⟨_, _, h, fun κ2 => rfl⟩
  · rename_i k a
    cases hc : cutOk a n n with
    | false => simp [hc] at h
    | true => rw [hc, cond_true] at h; exact ⟨_, _, h, fun κ2 => by simp only [cutC, hc, cond_true]⟩
  · rename_i k b
    cases hc : cutOk 0 b n with
    | false => simp [hc] at h
    | true => rw [hc, cond_true] at h; exact ⟨_, _, h, fun κ2 => by simp only [cutC, hc, cond_true]⟩
  · rename_i k a k' b
    cases hc : cutOk a b n with
    | false => simp [hc] at h
    | true => rw [hc, cond_true] at h; exact ⟨_, _, h, fun κ2 => by simp only [cutC, hc, cond_true]⟩
  · cases h
theorem sliceC_det {x : V} {lo hi : Option V} {h0 : List E} {κ : V → R} {r : V × List E} (h : sliceC x lo hi h0 κ = some r) : Det1 (sliceC x lo hi h0) r κ := by
  unfold sliceC at h
  split at h
  · rename_i s l
    obtain ⟨a, m, h1, h2⟩ := cutC_det h
    exact ⟨_, h1, fun κ2 => h2 (fun a n => κ2 (.ro s (l.cut a n)))⟩
  · rename_i id
    split at h
    · rename_i l hl
      cases lo with
      | none =>
        cases hi with
        | none => exact ⟨_, h, fun κ2 => by simp only [sliceC, hl]⟩
        | some b =>
          obtain ⟨a, m, h1, h2⟩ := cutC_det h
          exact ⟨_, h1, fun κ2 => by simp only [sliceC, hl]; exact h2 _⟩
      | some a0 =>
        obtain ⟨a, m, h1, h2⟩ := cutC_det h
        exact ⟨_, h1, fun κ2 => by simp only [sliceC, hl]; exact h2 _⟩
    · cases h
  · rename_i id o k
    obtain ⟨a, m, h1, h2⟩ := cutC_det h
    exact ⟨_, h1, fun κ2 => h2 (fun a n => κ2 (.sub id (o + a) n))⟩
  · cases h
theorem sliceStrC_det {x : V} {lo hi : Option V} {κ : V → R} {r : V × List E} (h : sliceStrC x lo hi κ = some r) : Det1 (sliceStrC x lo hi) r κ := by
  unfold sliceStrC at h
  split at h
  · rename_i s
    obtain ⟨a, m, h1, h2⟩ := cutC_det h
    exact ⟨_, h1, fun κ2 => h2 (fun a n => κ2 (.str (s.extract a (a + n))))⟩
  · cases h
theorem storeC_det {p v : V} {h0 : List E} {κ : List E → R} {r : V × List E} (h : storeC p v h0 κ = some r) : ∃ h1, κ h1 = some r ∧ ∀ κ2, storeC p v h0 κ2 = κ2 h1 := by
  unfold storeC at h
  split at h
  · rename_i id off n i
    split at h
    · rename_i vs x hl
      split at h
      · rename_i xs hx
        cases hc : Nat.beq xs.length n with
        | false => simp [hc] at h
        | true => rw [hc, cond_true] at h; exact ⟨_, h, fun κ2 => by simp only [storeC, hl, hx, hc, cond_true]⟩
      · cases h
    · cases h
  · rename_i id off
    split at h
    · rename_i l hl
      cases hc : decide (off < l.len) with
      | false => simp [hc] at h
      | true =>
        rw [hc, cond_true] at h
        split at h
        · rename_i l' hl'
          exact ⟨_, h, fun κ2 => by simp only [storeC, hl, hc, cond_true, hl']⟩
        · cases h
    · rename_i vs hl
      cases hc : decide (off < vs.length) with
      | false => cases v <;> simp [hc] at h
      | true =>
        cases v <;> simp only [hc, cond_true] at h <;> first
          | (cases h; done)
          | exact ⟨_, h, fun κ2 => by simp only [storeC, hl, hc, cond_true]⟩
    · cases h
    · cases h
  · cases h
theorem storeF_det {p v : V} {h0 : List E} {κ : List E → R} {r : V × List E} (h : storeF p v h0 κ = some r) : ∃ h1, κ h1 = some r ∧ ∀ κ2, storeF p v h0 κ2 = κ2 h1 := by
  cases v with
  | own i =>
    cases p with
    | ptr id off =>
      simp only [storeF] at h
      split at h
      · rename_i hl
        split at h
        · rename_i xs h' hf
          obtain ⟨h1, e1, e2⟩ := storeC_det h
          exact ⟨h1, e1, fun κ2 => by simp only [storeF, hl, hf]; exact e2 κ2⟩
        · cases h
      · rename_i hno
        obtain ⟨h1, e1, e2⟩ := storeC_det h
        refine ⟨h1, e1, fun κ2 => ?_⟩
        have e : storeF (.ptr id off) (.own i) h0 κ2 = storeC (.ptr id off) (.own i) h0 κ2 := by
          simp only [storeF]
        rw [e]; exact e2 κ2
    | _ => cases h
  | _ => exact storeC_det (κ := κ) h
theorem loadArrC_det {n : Nat} {p : V} {h0 : List E} {κ : V → R} {r : V × List E} (h : loadArrC n p h0 κ = some r) : Det1 (loadArrC n p h0) r κ := by
  unfold loadArrC at h
  split at h
  · rename_i id off
    split at h
    · rename_i vs hl
      cases hc : decide (off + n ≤ vs.length) with
      | false => rw [hc, cond_false] at h; cases h
      | true => rw [hc, cond_true] at h; exact ⟨_, h, fun κ2 => by simp only [loadArrC, hl, hc, cond_true]⟩
    · cases h
  · cases h
theorem buildA_det {TD : TypeId → Option TI} {fs : Array Field} {ps : List (Nat × Operand)} {zs : List V} {ev : Operand → V} {κ : V → R} {r : V × List E} (h : buildA TD fs ps zs ev κ = some r) : Det1 (buildA TD fs ps zs ev) r κ := by
  unfold buildA at h
  split at h
  · rename_i p
    split at h
    · rename_i fd ws h1 h2
      cases hc : (fs.all (fun f => (TD f.type).isSome) && sizeIs TD fd.type ws.length && decide (fd.offset + ws.length ≤ zs.length)) with
      | false => rw [hc, cond_false] at h; cases h
      | true => rw [hc, cond_true] at h; exact ⟨_, h, fun κ2 => by simp only [buildA, h1, h2, hc, cond_true]⟩
    · cases h
  · cases h
theorem loadAggC_det {n : Nat} {p : V} {h0 : List E} {κ : V → R} {r : V × List E} (h : loadAggC n p h0 κ = some r) : Det1 (loadAggC n p h0) r κ := by
  unfold loadAggC at h
  split at h
  · rename_i id
    split at h
    · rename_i vs hl
      cases hc : Nat.beq vs.length n with
      | false => rw [hc, cond_false] at h; cases h
      | true => rw [hc, cond_true] at h; exact ⟨_, h, fun κ2 => by simp only [loadAggC, hl, hc, cond_true]⟩
    · cases h
  · cases h
theorem storeAggC_det {n : Nat} {p v : V} {h0 : List E} {κ : List E → R} {r : V × List E} (h : storeAggC n p v h0 κ = some r) : ∃ h1, κ h1 = some r ∧ ∀ κ2, storeAggC n p v h0 κ2 = κ2 h1 := by
  unfold storeAggC at h
  split at h
  · rename_i id ws
    split at h
    · rename_i vs hl
      cases hc : Nat.beq vs.length n && Nat.beq ws.length n && ws.all V.flat with
      | false => rw [hc, cond_false] at h; cases h
      | true => rw [hc, cond_true] at h; exact ⟨_, h, fun κ2 => by simp only [storeAggC, hl, hc, cond_true]⟩
    · cases h
  · cases h
theorem appC_det {s x : V} {h0 : List E} {κ : V → List E → R} {r : V × List E} (h : appC s x h0 κ = some r) : Det2 (appC s x h0) r κ := by
  unfold appC at h
  split at h
  · rename_i id
    split at h
    · rename_i l m hl hm
      split at h
      · rename_i q hq
        cases hc : small q.len with
        | false => simp [hc] at h
        | true => rw [hc, cond_true] at h; exact ⟨_, _, h, fun κ2 => by simp only [appC, hl, hm, hq, hc, cond_true]⟩
      · cases h
    · cases h
  · split at h
    · rename_i m hm
      cases h0' : (m.len == 0) with
      | true => rw [h0', cond_true] at h; exact ⟨_, _, h, fun κ2 => by simp only [appC, hm, h0', cond_true]⟩
      | false =>
        rw [h0', cond_false] at h
        cases hc : small m.len with
        | false => simp [hc] at h
        | true => rw [hc, cond_true] at h; exact ⟨_, _, h, fun κ2 => by simp only [appC, hm, h0', hc, cond_true, cond_false]⟩
    · cases h
  · rename_i id n
    split at h
    · rename_i l m hl hm
      split at h
      · rename_i q hq
        cases hc : small q.len with
        | false => simp [hc] at h
        | true => rw [hc, cond_true] at h; exact ⟨_, _, h, fun κ2 => by simp only [appC, hl, hm, hq, hc, cond_true]⟩
      · cases h
    · cases h
  · cases h

section
variable {TD : TypeId → Option TI} {K : FuncId → List V → List E → (V → List E → R) → R}

theorem Det1.to2 {f : (V → R) → R} {r : V × List E} {h0 : List E} {κ : V → List E → R} (h : Det1 f r fun v => κ v h0) : Det2 (fun κ => f fun v => κ v h0) r κ := by
  obtain ⟨v, h1, h2⟩ := h
  exact ⟨v, h0, h1, fun κ2 => h2 _⟩

/-- An operation's value and the blocks behind it. -/
theorem opC0_det (hK : ∀ f args h κ r, K f args h κ = some r → ∃ v h', κ v h' = some r ∧ ∀ κ2, K f args h κ2 = κ2 v h') {o : Oper} {σ : St} {κ : V → List E → R} {r : V × List E} (h : opC0 TD K o σ κ = some r) :
    Det2 (opC0 TD K o σ) r κ := by
  obtain ⟨dst, op, ty, pos, after, guard⟩ := o
  cases op with
  | move x => exact ⟨_, _, h, fun κ2 => rfl⟩
  | assign x =>
    simp only [opC0] at h
    split at h
    · split at h
      · rename_i h1
        split at h
        · rename_i h2
          split at h
          · rename_i h3
            exact ⟨_, _, h, fun κ2 => by simp only [opC0, h1, h2, h3]⟩
          · cases h
        · cases h
      · cases h
    · rename_i hne
      have e : ∀ κ2 : V → List E → R, opC0 TD K ⟨dst, .assign x, ty, pos, after, guard⟩ σ κ2 = κ2 (σ.ev x) σ.h := by
        intro κ2
        simp only [opC0]
      exact ⟨_, _, h, e⟩
  | pick c a b =>
    simp only [opC0] at h
    split at h
    · rename_i t hc
      split at h
      · rename_i x y ex ey
        exact ⟨_, _, h, fun κ2 => by simp only [opC0, hc, ex, ey]⟩
      · rename_i hne
        have e : ∀ κ2 : V → List E → R, opC0 TD K ⟨dst, .pick c a b, ty, pos, after, guard⟩ σ κ2 = bif t then κ2 (σ.ev a) σ.h else κ2 (σ.ev b) σ.h := by
          intro κ2
          simp only [opC0, hc]
        cases t with
        | true => exact ⟨_, _, h, fun κ2 => e κ2⟩
        | false => exact ⟨_, _, h, fun κ2 => e κ2⟩
    · cases h
  | binOp op' t x y yt => exact (binC_det (κ := fun v => κ v σ.h) h).to2
  | unOp op' t x => exact (unC_det (κ := fun v => κ v σ.h) h).to2
  | convert s d x =>
    simp only [opC0] at h
    split at h
    · rename_i h1 h2
      split at h
      · rename_i h3
        obtain ⟨v, e1, e2⟩ := toStrC_det (κ := fun v => κ v σ.h) h
        exact ⟨v, _, e1, fun κ2 => by simp only [opC0, h1, h2, h3]; exact e2 _⟩
      · cases h
    · rename_i hne
      obtain ⟨v, e1, e2⟩ := convC_det (κ := fun v => κ v σ.h) h
      refine ⟨v, _, e1, fun κ2 => ?_⟩
      have e : opC0 TD K ⟨dst, .convert s d x, ty, pos, after, guard⟩ σ κ2 = convC (TD s) (TD d) (σ.ev x) fun v => κ2 v σ.h := by
        simp only [opC0]
      rw [e]; exact e2 _
  | index t x i =>
    simp only [opC0] at h
    split at h
    · rename_i h1
      obtain ⟨v, e1, e2⟩ := idxStrC_det (κ := fun v => κ v σ.h) h
      exact ⟨v, _, e1, fun κ2 => by simp only [opC0, h1]; exact e2 _⟩
    · cases h
  | extract t i =>
    simp only [opC0] at h
    split at h
    · rename_i vs hv
      cases hc : decide (i < vs.length) with
      | false => simp [hc] at h
      | true => rw [hc, cond_true] at h; exact ⟨_, _, h, fun κ2 => by simp only [opC0, hv, hc, cond_true]⟩
    · cases h
  | nilCheck x =>
    simp only [opC0] at h
    split at h
    · rename_i id off hv
      exact ⟨_, _, h, fun κ2 => by simp only [opC0, hv]⟩
    · cases h
  | indexAddr t x i =>
    simp only [opC0] at h
    split at h
    · rename_i n e s b z h1
      split at h
      · rename_i d b2 z2 h2
        split at h
        · rename_i id off kk k hx hi
          cases hc : idxOk k n with
          | false => simp [hc] at h
          | true => rw [hc, cond_true] at h; exact ⟨_, _, h, fun κ2 => by simp only [opC0, h1, h2, hx, hi, hc, cond_true]⟩
        · cases h
      · cases h
    · rename_i h1
      split at h
      · rename_i h2
        obtain ⟨v, e1, e2⟩ := idxC_det (κ := fun v => κ v σ.h) h
        exact ⟨v, _, e1, fun κ2 => by simp only [opC0, h1, h2]; exact e2 _⟩
      · cases h
    · cases h
  | fieldAddr t x f =>
    simp only [opC0] at h
    split at h
    · rename_i h1 h2
      split at h
      · rename_i h3
        split at h
        · rename_i h4
          exact ⟨_, _, h, fun κ2 => by simp only [opC0, h1, h2, h3, h4]⟩
        · cases h
      · cases h
    · cases h
  | load t p =>
    simp only [opC0] at h
    split at h
    · rename_i hi
      obtain ⟨v, e1, e2⟩ := loadAggC_det (κ := fun v => κ v σ.h) h
      exact ⟨v, _, e1, fun κ2 => by simp only [opC0, hi]; exact e2 _⟩
    · rename_i hi
      obtain ⟨v, e1, e2⟩ := loadArrC_det (κ := fun v => κ v σ.h) h
      exact ⟨v, _, e1, fun κ2 => by simp only [opC0, hi]; exact e2 _⟩
    · rename_i i n1 n2 hi
      obtain ⟨v, e1, e2⟩ := loadC_det (κ := fun v => κ v σ.h) h
      refine ⟨v, _, e1, fun κ2 => ?_⟩
      have e : opC0 TD K ⟨dst, .load t p, ty, pos, after, guard⟩ σ κ2 = loadC (σ.ev p) σ.h fun v => κ2 v σ.h := by
        simp only [opC0]
        rw [hi]
        obtain ⟨d, s, b, z⟩ := i
        cases d <;> first | rfl | exact (n1 _ _ _ _ rfl).elim | exact (n2 _ _ _ _ _ rfl).elim
      rw [e]; exact e2 _
    · cases h
  | store t p x =>
    simp only [opC0] at h
    split at h
    · rename_i hi
      obtain ⟨h', e1, e2⟩ := storeAggC_det (κ := fun h => κ .junk h) h
      exact ⟨_, _, e1, fun κ2 => by simp only [opC0, hi]; exact e2 _⟩
    · rename_i h0 h1
      split at h
      · cases h
      · cases h
      · cases h
      · rename_i n1 n2 n3
        obtain ⟨h', e1, e2⟩ := storeF_det (κ := fun h => κ .junk h) h
        refine ⟨_, _, e1, fun κ2 => ?_⟩
        simp only [opC0, h1]
        exact e2 _
    · cases h
  | slice t x lo hi mx =>
    cases mx with
    | some m => simp [opC0] at h
    | none =>
      simp only [opC0] at h
      split at h
      · rename_i h1
        split at h
        · rename_i h2
          obtain ⟨v, e1, e2⟩ := sliceC_det (κ := fun v => κ v σ.h) h
          exact ⟨v, _, e1, fun κ2 => by simp only [opC0, h1, h2]; exact e2 _⟩
        · cases h
      · rename_i h1
        obtain ⟨v, e1, e2⟩ := sliceStrC_det (κ := fun v => κ v σ.h) h
        exact ⟨v, _, e1, fun κ2 => by simp only [opC0, h1]; exact e2 _⟩
      · cases h
  | buildSlice t n parts =>
    simp only [opC0] at h
    split at h
    · rename_i h1
      split at h
      · rename_i d by2 ze h2
        cases hc : (Nat.beq parts.size n && inOrder 0 parts.toList && decide (n ≤ 1000) && notAgg ze) with
        | false => simp [hc] at h
        | true =>
          rw [hc, cond_true] at h
          split at h
          · rename_i l hl
            exact ⟨_, _, h, fun κ2 => by simp only [opC0, h1, h2, hc, cond_true, hl]⟩
          · rename_i hl
            split at h
            · split at h
              · rename_i xs h' hfr
                exact ⟨_, _, h, fun κ2 => by simp only [opC0, h1, h2, hc, cond_true, hl, hfr]⟩
              · cases h
            · cases h
      · cases h
    · cases h
  | makeSlice t l cp =>
    simp only [opC0] at h
    split at h
    · rename_i e sz by_ z n h1 hn
      split at h
      · rename_i d b ze h2
        cases hc : (sameOperand l cp && decide (b ≤ 64) && decide (0 ≤ n) && small n.toNat && zeroFits d ze) with
        | false => simp [hc] at h
        | true =>
          rw [hc, cond_true] at h
          split at h
          · rename_i q hq
            exact ⟨_, _, h, fun κ2 => by simp only [opC0, h1, hn, h2, hc, cond_true, hq]⟩
          · cases h
      · cases h
    · cases h
  | box t x =>
    simp only [opC0] at h
    split at h
    · rename_i vs hv
      cases hc : vs.all V.flat with
      | false => simp [hc] at h
      | true => rw [hc, cond_true] at h; exact ⟨_, _, h, fun κ2 => by simp only [opC0, hv, hc, cond_true]⟩
    · cases h
    · cases h
    · rename_i n1 n2 n3
      refine ⟨_, _, h, fun κ2 => ?_⟩
      simp only [opC0]
  | alloc t =>
    simp only [opC0] at h
    split at h
    · rename_i h1
      split at h
      · rename_i vs hz
        cases hc : vs.all V.flat with
        | false => rw [hc, cond_false] at h; cases h
        | true => rw [hc, cond_true] at h; exact ⟨_, _, h, fun κ2 => by simp only [opC0, h1, hz, hc, cond_true]⟩
      · cases h
      · cases h
      · rename_i n1 n2 n3
        refine ⟨_, _, h, fun κ2 => ?_⟩
        simp only [opC0, h1]
    · cases h
  | field t x f =>
    simp only [opC0] at h
    split at h
    · rename_i fs sz by_ z vs h1 h2
      split at h
      · rename_i fd h3
        split at h
        · cases h
        · cases h
        · rename_i i n1 n2 h4
          cases hc : decide (fd.offset < vs.length) with
          | false => rw [hc, cond_false] at h; cases h
          | true => rw [hc, cond_true] at h; exact ⟨_, _, h, fun κ2 => by simp only [opC0, h1, h2, h3, h4, hc, cond_true]⟩
        · cases h
      · cases h
    · cases h
  | build t parts =>
    simp only [opC0] at h
    split at h
    · rename_i fs sz by_ z h1
      split at h
      · rename_i zs hz
        cases hc : buildOk TD fs parts zs.length σ.ev with
        | false =>
          rw [hc, cond_false] at h
          obtain ⟨v, e1, e2⟩ := buildA_det (κ := fun v => κ v σ.h) h
          exact ⟨v, _, e1, fun κ2 => by simp only [opC0, h1, hz, hc, cond_false]; exact e2 _⟩
        | true => rw [hc, cond_true] at h; exact ⟨_, _, h, fun κ2 => by simp only [opC0, h1, hz, hc, cond_true]⟩
      · cases h
    · cases h
  | call cl =>
    obtain ⟨callee, cargs, cats⟩ := cl
    simp only [opC0] at h
    split at h
    · split at h
      · rename_i x t h1 h2
        split at h
        · rename_i h3
          obtain ⟨v, e1, e2⟩ := lenC_det (κ := fun v => κ v σ.h) h
          exact ⟨v, _, e1, fun κ2 => by simp only [opC0, h1, h2, h3]; exact e2 _⟩
        · rename_i h3
          obtain ⟨v, e1, e2⟩ := lenStrC_det (κ := fun v => κ v σ.h) h
          exact ⟨v, _, e1, fun κ2 => by simp only [opC0, h1, h2, h3]; exact e2 _⟩
        · cases h
      · cases h
    · split at h
      · rename_i x rest h1
        obtain ⟨v, e1, e2⟩ := minmaxC_det (κ := fun v => κ v σ.h) _ _ h
        exact ⟨v, _, e1, fun κ2 => by simp only [opC0, h1]; exact e2 _⟩
      · cases h
    · split at h
      · rename_i x rest h1
        obtain ⟨v, e1, e2⟩ := minmaxC_det (κ := fun v => κ v σ.h) _ _ h
        exact ⟨v, _, e1, fun κ2 => by simp only [opC0, h1]; exact e2 _⟩
      · cases h
    · split at h
      · rename_i s x t u h1 h2
        cases htu : Nat.beq t u with
        | false => simp [htu] at h
        | true =>
          rw [htu, cond_true] at h
          split at h
          · rename_i h3
            split at h
            · rename_i d b ze h4
              cases hc : (decide (b ≤ 64) && notAgg ze) with
              | false => simp [hc] at h
              | true =>
                rw [hc, cond_true] at h
                obtain ⟨v, h', e1, e2⟩ := appC_det h
                exact ⟨v, h', e1, fun κ2 => by simp only [opC0, h1, h2, htu, h3, h4, hc, cond_true]; exact e2 _⟩
            · cases h
          · cases h
      · cases h
    · obtain ⟨v, h', e1, e2⟩ := hK _ _ _ _ _ h
      exact ⟨v, h', e1, e2⟩
    · cases h
  | _ => simp [opC0] at h
theorem cutC_form (lo hi : Option V) (n : Nat) : ∃ b a m, ∀ κ, cutC lo hi n κ = bif b then κ a m else none := by
  unfold cutC
  split
  · exact ⟨true, _, _, fun κ => rfl⟩
  · exact ⟨_, _, _, fun κ => rfl⟩
  · exact ⟨_, _, _, fun κ => rfl⟩
  · exact ⟨_, _, _, fun κ => rfl⟩
  · exact ⟨false, 0, 0, fun κ => rfl⟩
/-- What an operation on rows of structs comes to. -/
theorem opR_form {o : Oper} {σ : St} {f : (V → List E → R) → R} (h : opR TD o σ = some f) : ∃ b v h', ∀ κ, f κ = bif b then κ v h' else none := by
  obtain ⟨dst, op, ty, pos, after, guard⟩ := o
  cases op <;> first | (simp [opR] at h; done) | skip
  case assign x =>
    simp only [opR] at h
    unfold opRA at h
    repeat' (split at h)
    all_goals first | (cases h; done) | (injection h with h; subst h; exact ⟨true, _, _, fun κ => rfl⟩)
  case build t parts =>
    simp only [opR] at h
    unfold opRB at h
    split at h
    · split at h
      · split at h
        · unfold cond at h
          split at h
          · split at h
            · injection h with h; subst h; exact ⟨true, _, _, fun κ => rfl⟩
            · cases h
          · cases h
        · cases h
      · cases h
    · cases h
  case slice t x lo hi mx =>
    cases mx with
    | some m => simp [opR] at h
    | none =>
      simp only [opR] at h
      split at h
      · rename_i n _
        split at h
        · rename_i s m xs _
          injection h with h
          subst h
          obtain ⟨b, a, k, hb⟩ := cutC_form (lo.map σ.ev) (hi.map σ.ev) (xs.length / n)
          refine ⟨Nat.beq m n && b, .recs s n ((xs.drop (a * n)).take (k * n)), σ.h, fun κ => ?_⟩
          simp only [hb]
          cases Nat.beq m n <;> rfl
        · cases h
      · cases h
  case call c =>
    obtain ⟨callee, cargs, cats⟩ := c
    cases callee with
    | builtin bi =>
      cases bi <;> first | (simp [opR] at h; done) | skip
      all_goals
        simp only [opR] at h
        repeat' (split at h)
        all_goals first | (cases h; done) | (injection h with h; subst h; exact ⟨_, _, _, fun κ => rfl⟩)
    | _ => simp [opR] at h
  all_goals
    simp only [opR] at h
    repeat' (split at h)
    all_goals first
      | (cases h; done)
      | (injection h with h; subst h; exact ⟨_, _, _, fun κ => rfl⟩)
      | (injection h with h; subst h; exact ⟨true, _, _, fun κ => rfl⟩)
theorem opC_det (hK : ∀ f args h κ r, K f args h κ = some r → ∃ v h', κ v h' = some r ∧ ∀ κ2, K f args h κ2 = κ2 v h') {o : Oper} {σ : St} {κ : V → List E → R} {r : V × List E} (h : opC TD K o σ κ = some r) :
    Det2 (opC TD K o σ) r κ := by
  cases hR : opR TD o σ with
  | some f =>
    obtain ⟨b, v, h', hf⟩ := opR_form hR
    have e : ∀ κ2, opC TD K o σ κ2 = bif b then κ2 v h' else none := fun κ2 => by unfold opC; rw [hR]; exact hf κ2
    rw [e] at h
    cases b with
    | false => cases h
    | true => exact ⟨v, h', h, fun κ2 => e κ2⟩
  | none =>
    have e : ∀ κ2, opC TD K o σ κ2 = opC0 TD K o σ κ2 := fun κ2 => by unfold opC; rw [hR]
    rw [e] at h
    obtain ⟨v, h', h1, h2⟩ := opC0_det hK h
    exact ⟨v, h', h1, fun κ2 => (e κ2).trans (h2 κ2)⟩
end

end Go.Proofs.Ytgpgifpblchjjaa.D
/- What the small machine's states have to do with the model's worlds, and that it lasts. Conditions: those of each theorem. -/
namespace Go.Proofs.Ytgpgifpblchjjaa.D
open Go.RowKit
set_option linter.unusedVariables false
set_option linter.unusedSimpArgs false

/-- What a state is held against: the callers' blocks, the own blocks, their handles, the world. -/
structure Cx where
  F : Nat → Prop
  h : List E
  hv : Nat → Value
  w : World

def blk : Value → Option Nat
  | .slice (some a) _ _ => some a.block
  | .pointer (some a) => some a.block
  | _ => none

def E.alive : E → Bool
  | .dead => false
  | _ => true

/-- One of one's own blocks. -/
def Cx.U (c : Cx) (b : Nat) : Prop := ∃ i, (getE c.h i).alive = true ∧ blk (c.hv i) = some b

def RowV (c : Cx) (xs : List Int) (v : Value) : Prop :=
  ∃ a cap, v = .slice a xs.length cap ∧ xs.length ≤ cap ∧ (xs.length = 0 ∨ ∃ b off, a = some ⟨b, off, none⟩ ∧ ¬ c.F b ∧ ¬ c.U b ∧
    ∀ j, j < xs.length → c.w.cell? ⟨b, off + j, none⟩ = some (.int .i64 (eli xs j)))

def AtomR (c : Cx) : Atom → Value → Prop
  | .int k n, v => v = .int k n
  | .bool b, v => v = .bool b
  | .str s, v => v = .string s
  | .row xs, v => RowV c xs v

def RoR (c : Cx) (safe : Bool) (l : L) (v : Value) : Prop :=
  ∃ a cap, v = .slice a l.len cap ∧ l.len ≤ cap ∧ (l.len = 0 ∨ ∃ b off, a = some ⟨b, off, none⟩ ∧ (safe = true → ¬ c.F b) ∧ ¬ c.U b ∧
    ∀ j, j < l.len → ∃ x, c.w.cell? ⟨b, off + j, none⟩ = some x ∧ AtomR c (l.at_ j) x)

/-- A row of structs of n numbers each, cell after cell. -/
def RecR (c : Cx) (safe : Bool) (n : Nat) (xs : List Int) (v : Value) : Prop :=
  0 < n ∧ ∃ a m cap, v = .slice a m cap ∧ xs.length = m * n ∧ m ≤ cap ∧ (xs.length = 0 ∨ ∃ b off, a = some ⟨b, off, none⟩ ∧ (safe = true → ¬ c.F b) ∧ ¬ c.U b ∧
    ∀ j, j < xs.length → c.w.cell? ⟨b, off + j, none⟩ = some (.int .i64 (eli xs j)))

def VR0 (c : Cx) : V → Value → Prop
  | .int k n, v => v = .int k n
  | .bool b, v => v = .bool b
  | .str s, v => v = .string s
  | .ro s l, v => RoR c s l v
  | .nil, v => v = .slice none 0 0
  | .own id, v => id < c.h.length ∧ v = c.hv id
  | .sub id off n, v => id < c.h.length ∧ ∃ a cap, v = .slice a n cap ∧ n ≤ cap ∧
      (n = 0 ∨ ∃ g, blk (c.hv id) = some g ∧ a = some ⟨g, off, none⟩) ∧ (∀ l, getE c.h id = .row l → off + n ≤ l.len) ∧
      (off = 0 → (∃ L, c.hv id = .slice a L cap) ∧ (a = none ∨ ∃ g, a = some ⟨g, 0, none⟩))
  | .ptr id off, v => id < c.h.length ∧ ∃ g, blk (c.hv id) = some g ∧ v = .pointer (some ⟨g, off, none⟩)
  | .elt id off n i, v => id < c.h.length ∧ (0 ≤ i ∧ i < n) ∧ ∃ g, blk (c.hv id) = some g ∧ v = .pointer (some ⟨g, off + i.toNat, none⟩)
  | .ref a, v => ∃ b off x, v = .pointer (some ⟨b, off, none⟩) ∧ ¬ c.U b ∧ c.w.cell? ⟨b, off, none⟩ = some x ∧ AtomR c a x
  | .fn f, v => v = .func (.func f) #[] #[]
  | .junk, _ => True
  | .agg _, _ => False
  | .tup _, _ => False
  | .recs s n xs, v => RecR c s n xs v
  | .rref n xs o, v => 0 < n ∧ ∃ b off, v = .pointer (some ⟨b, off, none⟩) ∧ ¬ c.U b ∧ ∀ j, j < n → c.w.cell? ⟨b, off + j, none⟩ = some (.int .i64 (eli xs (o + j)))

def VR1 (c : Cx) : V → Value → Prop
  | .agg vs, v => ∃ cs : Array Value, v = .agg cs ∧ cs.size = vs.length ∧ ∀ j, j < vs.length → VR0 c (vs.getD j .junk) (cs.getD j undef)
  | u, v => VR0 c u v

def VR (c : Cx) : V → Value → Prop
  | .tup vs, v => ∃ cs : Array Value, v = .tuple cs ∧ cs.size = vs.length ∧ ∀ j, j < vs.length → VR1 c (vs.getD j .junk) (cs.getD j undef)
  | u, v => VR1 c u v

/-- What the blocks hold. -/
def Ent (c : Cx) (i : Nat) : E → Prop
  | .row l => ∃ e xs, c.w.ownsRow 0 e 1 (c.hv i) l.len xs ∧ ∀ j, j < l.len → ∃ x, xs[j]? = some x ∧ AtomR c (l.at_ j) x
  | .cells vs => ∃ b e cs, c.hv i = .pointer (some ⟨b, 0, none⟩) ∧ c.w.heap[b]? = some (.cells cs e (0, 0)) ∧ cs.size = vs.length ∧
      ∀ j, j < vs.length → ∃ x, cs[j]? = some x ∧ VR0 c (vs.getD j .junk) x
  | .dead => True
  | .recs n xs => 0 < n ∧ ∃ e m, xs.length = m * n ∧ c.w.ownsRow 0 e n (c.hv i) m (xs.map (Value.int .i64))

def Handle (v : Value) : Prop := (∃ a l k, v = .slice a l k) ∨ ∃ b, v = .pointer b
structure Rel (c : Cx) : Prop where
  one : ∀ i, i < c.h.length → Handle (c.hv i)
  ent : ∀ i, i < c.h.length → Ent c i (getE c.h i)
  inj : ∀ i j b, (getE c.h i).alive = true → (getE c.h j).alive = true → blk (c.hv i) = some b → blk (c.hv j) = some b → i = j
  lt : ∀ b, c.U b → b < c.w.heap.size
  far : ∀ b, c.F b → b < c.w.heap.size ∧ ¬ c.U b

def sameE : E → E → Bool
  | _, .dead => true
  | .row l, .row l' => decide (l.len = l'.len)
  | .cells vs, .cells ws => decide (vs.length = ws.length)
  | .recs n xs, .recs m ys => decide (n = m ∧ xs.length = ys.length)
  | _, _ => false

/-- What a step leaves as it was. -/
structure Ext (c c' : Cx) : Prop where
  F : c'.F = c.F
  os : c'.w.os = c.w.os
  tape : c'.w.tape = c.w.tape
  output : c'.w.output = c.w.output
  size : c.w.heap.size ≤ c'.w.heap.size
  block : ∀ k, k < c.w.heap.size → ¬ c.U k → c'.w.heap[k]? = c.w.heap[k]?
  own : ∀ b, c'.U b → c.U b ∨ c.w.heap.size ≤ b
  len : c.h.length ≤ c'.h.length
  ids : ∀ i, i < c.h.length → c'.hv i = c.hv i ∧ sameE (getE c.h i) (getE c'.h i) = true

theorem getE_out {h : List E} {i : Nat} (hi : h.length ≤ i) : getE h i = .dead := by
  simp [getE, List.getD, List.getElem?_eq_none hi]
theorem alive_lt {h : List E} {i : Nat} (ha : (getE h i).alive = true) : i < h.length := by
  rcases Nat.lt_or_ge i h.length with hi | hi
  · exact hi
  · rw [getE_out hi] at ha; cases ha

theorem sameE_refl (e : E) : sameE e e = true := by cases e <;> simp [sameE]
theorem sameE_trans {a b c : E} (h1 : sameE a b = true) (h2 : sameE b c = true) : sameE a c = true := by
  cases a <;> cases b <;> cases c <;> simp_all [sameE]
theorem Ext.refl (c : Cx) : Ext c c := ⟨rfl, rfl, rfl, rfl, Nat.le_refl _, fun _ _ _ => rfl, fun _ h => .inl h, Nat.le_refl _, fun i _ => ⟨rfl, sameE_refl _⟩⟩
theorem Ext.trans {a b c : Cx} (h : Ext a b) (k : Ext b c) : Ext a c where
  F := k.F.trans h.F
  os := k.os.trans h.os
  tape := k.tape.trans h.tape
  output := k.output.trans h.output
  size := Nat.le_trans h.size k.size
  block := fun i hi hu => (k.block i (Nat.lt_of_lt_of_le hi h.size) (fun hb => (h.own i hb).elim hu (fun hle => by omega))).trans (h.block i hi hu)
  own := fun x hx => (k.own x hx).elim (h.own x) (fun hle => .inr (Nat.le_trans h.size hle))
  len := Nat.le_trans h.len k.len
  ids := fun i hi => ⟨(k.ids i (Nat.lt_of_lt_of_le hi h.len)).1.trans (h.ids i hi).1, sameE_trans (h.ids i hi).2 (k.ids i (Nat.lt_of_lt_of_le hi h.len)).2⟩

theorem Ext.cell {c c' : Cx} (h : Ext c c') {b o : Nat} {x : Value} (hc : c.w.cell? ⟨b, o, none⟩ = some x) (hu : ¬ c.U b) : c'.w.cell? ⟨b, o, none⟩ = some x ∧ ¬ c'.U b := by
  have hlt : b < c.w.heap.size := World.block_lt_of_cell? c.w ⟨b, o, none⟩ hc
  refine ⟨?_, fun hb => (h.own b hb).elim hu (fun hle => by omega)⟩
  rw [World.cell?_of_block (w := c.w) (h.block b hlt hu)]; exact hc

theorem Ext.rowV {c c' : Cx} (h : Ext c c') {xs : List Int} {v : Value} (hr : RowV c xs v) : RowV c' xs v := by
  obtain ⟨a, cap, rfl, hcap, hr⟩ := hr
  refine ⟨a, cap, rfl, hcap, ?_⟩
  rcases hr with h0 | ⟨b, off, ha, hF, hU, hcell⟩
  · exact .inl h0
  · rcases Nat.eq_zero_or_pos xs.length with h0 | hp
    · exact .inl h0
    · exact .inr ⟨b, off, ha, by rw [h.F]; exact hF, (h.cell (hcell 0 hp) hU).2, fun j hj => (h.cell (hcell j hj) hU).1⟩
theorem Ext.atom {c c' : Cx} (h : Ext c c') {a : Atom} {v : Value} (hr : AtomR c a v) : AtomR c' a v := by
  cases a <;> first | exact hr | exact h.rowV hr
theorem Ext.ro {c c' : Cx} (h : Ext c c') {s : Bool} {l : L} {v : Value} (hr : RoR c s l v) : RoR c' s l v := by
  obtain ⟨a, cap, rfl, hcap, hr⟩ := hr
  refine ⟨a, cap, rfl, hcap, ?_⟩
  rcases hr with h0 | ⟨b, off, ha, hF, hU, hcell⟩
  · exact .inl h0
  · rcases Nat.eq_zero_or_pos l.len with h0 | hp
    · exact .inl h0
    · refine .inr ⟨b, off, ha, by rw [h.F]; exact hF, ?_, fun j hj => ?_⟩
      · obtain ⟨x, hx, _⟩ := hcell 0 hp
        exact (h.cell hx hU).2
      · obtain ⟨x, hx, hxa⟩ := hcell j hj
        exact ⟨x, (h.cell hx hU).1, h.atom hxa⟩
theorem Ext.recs {c c' : Cx} (h : Ext c c') {s : Bool} {n : Nat} {xs : List Int} {v : Value} (hr : RecR c s n xs v) : RecR c' s n xs v := by
  obtain ⟨hn, a, m, cap, rfl, hl, hcap, hr⟩ := hr
  refine ⟨hn, a, m, cap, rfl, hl, hcap, ?_⟩
  rcases hr with h0 | ⟨b, off, ha, hF, hU, hcell⟩
  · exact .inl h0
  · rcases Nat.eq_zero_or_pos xs.length with h0 | hp
    · exact .inl h0
    · exact .inr ⟨b, off, ha, by rw [h.F]; exact hF, (h.cell (hcell 0 hp) hU).2, fun j hj => (h.cell (hcell j hj) hU).1⟩
theorem Ext.vr0 {c c' : Cx} (h : Ext c c') {u : V} {v : Value} (hr : VR0 c u v) : VR0 c' u v := by
  cases u with
  | ro s l => exact h.ro hr
  | own id => exact ⟨Nat.lt_of_lt_of_le hr.1 h.len, hr.2.trans (h.ids id hr.1).1.symm⟩
  | sub id off n =>
    obtain ⟨hi, a, cap, rfl, hn, hg, hl, hz⟩ := hr
    obtain ⟨e1, e2⟩ := h.ids id hi
    refine ⟨Nat.lt_of_lt_of_le hi h.len, a, cap, rfl, hn, by rw [e1]; exact hg, fun l' hl' => ?_, fun h0 => by rw [e1]; exact hz h0⟩
    rw [hl'] at e2
    cases he : getE c.h id with
    | row l => rw [he] at e2; simp [sameE] at e2; have := hl l he; omega
    | cells vs => rw [he] at e2; simp [sameE] at e2
    | dead => rw [he] at e2; simp [sameE] at e2
    | recs n xs => rw [he] at e2; simp [sameE] at e2
  | ptr id off =>
    obtain ⟨hi, g, hg, rfl⟩ := hr
    exact ⟨Nat.lt_of_lt_of_le hi h.len, g, by rw [(h.ids id hi).1]; exact hg, rfl⟩
  | elt id off n i =>
    obtain ⟨hi, hn, g, hg, rfl⟩ := hr
    exact ⟨Nat.lt_of_lt_of_le hi h.len, hn, g, by rw [(h.ids id hi).1]; exact hg, rfl⟩
  | ref a =>
    obtain ⟨b, off, x, rfl, hU, hc, ha⟩ := hr
    exact ⟨b, off, x, rfl, (h.cell hc hU).2, (h.cell hc hU).1, h.atom ha⟩
  | recs s n xs => exact h.recs hr
  | rref n xs o =>
    obtain ⟨hp, b, off, rfl, hU, hc⟩ := hr
    exact ⟨hp, b, off, rfl, (h.cell (hc 0 hp) hU).2, fun j hj => (h.cell (hc j hj) hU).1⟩
  | _ => exact hr
theorem vr1_eq {c : Cx} {u : V} {v : Value} (hu : ∀ vs, u ≠ .agg vs) : VR1 c u v ↔ VR0 c u v := by
  cases u <;> first | exact Iff.rfl | exact absurd rfl (hu _)
theorem vr_eq {c : Cx} {u : V} {v : Value} (hu : ∀ vs, u ≠ .tup vs) : VR c u v ↔ VR1 c u v := by
  cases u <;> first | exact Iff.rfl | exact absurd rfl (hu _)
theorem Ext.vr1 {c c' : Cx} (h : Ext c c') {u : V} {v : Value} (hr : VR1 c u v) : VR1 c' u v := by
  by_cases hu : ∃ vs, u = .agg vs
  · obtain ⟨vs, rfl⟩ := hu
    obtain ⟨cs, rfl, hs, ha⟩ := hr
    exact ⟨cs, rfl, hs, fun j hj => h.vr0 (ha j hj)⟩
  · have hu' : ∀ vs, u ≠ .agg vs := fun vs e => hu ⟨vs, e⟩
    exact (vr1_eq hu').2 (h.vr0 ((vr1_eq hu').1 hr))
theorem Ext.vr {c c' : Cx} (h : Ext c c') {u : V} {v : Value} (hr : VR c u v) : VR c' u v := by
  by_cases hu : ∃ vs, u = .tup vs
  · obtain ⟨vs, rfl⟩ := hu
    obtain ⟨cs, rfl, hs, ha⟩ := hr
    exact ⟨cs, rfl, hs, fun j hj => h.vr1 (ha j hj)⟩
  · have hu' : ∀ vs, u ≠ .tup vs := fun vs e => hu ⟨vs, e⟩
    exact (vr_eq hu').2 (h.vr1 ((vr_eq hu').1 hr))
theorem VR0.vr1 {c : Cx} {u : V} {v : Value} (h : VR0 c u v) : VR1 c u v := by cases u <;> first | exact h | exact h.elim
theorem VR1.vr {c : Cx} {u : V} {v : Value} (h : VR1 c u v) : VR c u v := by cases u <;> first | exact h | exact h.elim
theorem VR0.vr {c : Cx} {u : V} {v : Value} (h : VR0 c u v) : VR c u v := h.vr1.vr

/-- The state of a frame. -/
structure RelT (c : Cx) (σ : St) (a : Act) : Prop where
  size : a.tmps.size = σ.n
  defers : a.defers = []
  h : σ.h = c.h
  t : ∀ t, VR c (getT σ.t t) (a.tmps.getD t undef)

theorem nbeq_ne {a b : Nat} (h : a ≠ b) : Nat.beq a b = false := by
  cases hx : Nat.beq a b with
  | false => rfl
  | true => exact absurd (Nat.eq_of_beq_eq_true hx) h
theorem nbeq_self (a : Nat) : Nat.beq a a = true := Nat.beq_refl a
theorem getT_putT (l : List (Nat × V)) (n m : Nat) (v : V) : getT (putT l n v) m = if n = m then v else getT l m := by
  induction l with
  | nil =>
    by_cases h : n = m
    · subst h; simp [putT, getT, nbeq_self]
    · simp [putT, getT, h, nbeq_ne h]
  | cons p r ih =>
    obtain ⟨a, x⟩ := p
    unfold putT
    by_cases h : a = n
    · subst h
      by_cases h2 : a = m
      · subst h2; simp [getT, nbeq_self]
      · simp [getT, h2, nbeq_self, nbeq_ne h2]
    · rw [nbeq_ne h]
      simp only [cond_false, getT]
      by_cases h2 : a = m
      · subst h2
        have : ¬ n = a := fun e => h e.symm
        simp [this, nbeq_self]
      · rw [nbeq_ne h2, cond_false, cond_false, ih]

theorem RelT.ext {c c' : Cx} {σ : St} {a : Act} (h : RelT c σ a) (he : Ext c c') : RelT c' { σ with h := c'.h } a :=
  ⟨h.size, h.defers, rfl, fun t => he.vr (h.t t)⟩
theorem RelT.put {c : Cx} {σ : St} {a : Act} (h : RelT c σ a) {v : V} {x : Value} (hv : VR c v x) (d : Option Nat) : RelT c (σ.put d v) (a.put d x) := by
  cases d with
  | none => exact h
  | some n =>
    unfold St.put Act.put
    by_cases hn : n < σ.n
    · have hb : Nat.blt n σ.n = true := by simpa [Nat.blt_eq] using hn
      simp only [hb, cond_true]
      refine ⟨by simpa using h.size, h.defers, h.h, fun t => ?_⟩
      simp only [getT_putT]
      by_cases ht : n = t
      · subst ht
        simp [h.size, hn, hv]
      · simp only [ht, if_false]
        have : (a.tmps.setIfInBounds n x).getD t undef = a.tmps.getD t undef := by simp [Array.getElem?_setIfInBounds_ne ht]
        rw [this]; exact h.t t
    · have hb : Nat.blt n σ.n = false := by
        cases hx : Nat.blt n σ.n with
        | false => rfl
        | true => rw [Nat.blt_eq] at hx; omega
      simp only [hb, cond_false]
      refine ⟨by simpa using h.size, h.defers, h.h, fun t => ?_⟩
      have : a.tmps.setIfInBounds n x = a.tmps := Array.setIfInBounds_eq_of_size_le (by rw [h.size]; omega)
      rw [this]; exact h.t t

theorem vr0_const (c : Cx) (v : Value) : VR0 c (ofConst v) v := by
  unfold ofConst
  split <;> first | exact rfl | exact trivial | skip
  rename_i f first captured
  split
  · rename_i hh
    obtain ⟨h1, h2⟩ := hh
    have e1 : first = #[] := Array.eq_empty_of_size_eq_zero h1
    have e2 : captured = #[] := Array.eq_empty_of_size_eq_zero h2
    subst e1; subst e2; exact rfl
  · exact trivial
theorem vr_const (c : Cx) (v : Value) : VR c (ofConst v) v := (vr0_const c v).vr
theorem RelT.ev {c : Cx} {σ : St} {a : Act} (h : RelT c σ a) (x : Operand) : VR c (σ.ev x) (a.eval x) := by
  cases x with
  | tmp t => exact h.t t
  | const v => exact vr_const c v
  | global g => exact trivial
  | func f => exact rfl

end Go.Proofs.Ytgpgifpblchjjaa.D
/- Steps of states: a new block, a store, an append. Conditions: those of each theorem. -/
namespace Go.Proofs.Ytgpgifpblchjjaa.D
open Go.RowKit
set_option linter.unusedVariables false
set_option linter.unusedSimpArgs false

theorem getE_append_lt {h : List E} {r : List E} {i : Nat} (hi : i < h.length) : getE (h ++ r) i = getE h i := by
  simp [getE, List.getD, List.getElem?_append_left hi]
theorem getE_append_new {h : List E} {e : E} : getE (h ++ [e]) h.length = e := by
  simp [getE, List.getD]
theorem getE_append_out {h : List E} {e : E} {i : Nat} (hi : h.length < i) : getE (h ++ [e]) i = .dead := getE_out (by simp; omega)
theorem getE_set {h : List E} {id i : Nat} {e : E} (hi : id < h.length) : getE (h.set id e) i = if id = i then e else getE h i := by
  by_cases hh : id = i
  · subst hh; simp [getE, List.getD, hi]
  · simp [getE, List.getD, hh]

theorem ownsRow_block {w w' : World} {e : TypeId} {v : Value} {s n : Nat} {xs : List Value} (h : w.ownsRow 0 e s v n xs)
    (hb : ∀ b, blk v = some b → w'.heap[b]? = w.heap[b]?) : w'.ownsRow 0 e s v n xs := by
  refine ⟨h.1, ?_⟩
  rcases h.2 with hn | ⟨g, cap, cur, rfl, hb0, hg, rest⟩
  · exact .inl hn
  · exact .inr ⟨g, cap, cur, rfl, hb0, by rw [hb g rfl]; exact hg, rest⟩

theorem Ent.keep {c c' : Cx} {i : Nat} {e : E} (he : Ext c c') (hi : i < c.h.length) (h : Ent c i e)
    (hb : ∀ b, blk (c.hv i) = some b → c'.w.heap[b]? = c.w.heap[b]?) : Ent c' i e := by
  have e1 := (he.ids i hi).1
  cases e with
  | row l =>
    obtain ⟨e, xs, ho, ha⟩ := h
    refine ⟨e, xs, by rw [e1]; exact ownsRow_block ho hb, fun j hj => ?_⟩
    obtain ⟨x, hx, hxa⟩ := ha j hj
    exact ⟨x, hx, he.atom hxa⟩
  | cells vs =>
    obtain ⟨b, e, cs, hv, hg, hs, ha⟩ := h
    refine ⟨b, e, cs, by rw [e1]; exact hv, by rw [hb b (by rw [hv]; rfl)]; exact hg, hs, fun j hj => ?_⟩
    obtain ⟨x, hx, hxa⟩ := ha j hj
    exact ⟨x, hx, he.vr0 hxa⟩
  | dead => trivial
  | recs n xs =>
    obtain ⟨hn, e, m, hx, ho⟩ := h
    exact ⟨hn, e, m, hx, by rw [e1]; exact ownsRow_block ho hb⟩

/-- A new own block. -/
def Cx.push (c : Cx) (e : E) (x : Value) (w' : World) : Cx :=
  ⟨c.F, c.h ++ [e], fun i => if i = c.h.length then x else c.hv i, w'⟩
theorem Cx.push_hv (c : Cx) (e : E) (x : Value) (w' : World) {i : Nat} (hi : i < c.h.length) : (c.push e x w').hv i = c.hv i := by
  have : i ≠ c.h.length := by omega
  simp [Cx.push, this]
theorem Cx.push_new (c : Cx) (e : E) (x : Value) (w' : World) : (c.push e x w').hv c.h.length = x := by simp [Cx.push]
theorem Cx.push_U {c : Cx} {e : E} {x : Value} {w' : World} {b : Nat} (h : (c.push e x w').U b) : c.U b ∨ blk x = some b := by
  obtain ⟨i, ha, hb⟩ := h
  have hl : i < (c.h ++ [e]).length := alive_lt ha
  simp at hl
  rcases Nat.lt_or_ge i c.h.length with hi | hi
  · left
    refine ⟨i, ?_, ?_⟩
    · rw [show (c.push e x w').h = c.h ++ [e] from rfl, getE_append_lt hi] at ha; exact ha
    · rw [c.push_hv e x w' hi] at hb; exact hb
  · obtain rfl : i = c.h.length := by omega
    right; rw [c.push_new] at hb; exact hb
theorem Cx.ext_push {c : Cx} (hr : Rel c) (e : E) (x : Value) {w' : World} (hg : c.w.grownBy w' none) (hx : ∀ b, blk x = some b → c.w.heap.size ≤ b) : Ext c (c.push e x w') where
  F := rfl
  os := hg.os
  tape := hg.tape
  output := hg.output
  size := hg.size
  block := fun k hk _ => hg.block k hk (by simp)
  own := fun b hb => (Cx.push_U hb).imp id (hx b)
  len := by simp [Cx.push]
  ids := fun i hi => ⟨c.push_hv e x w' hi, by rw [show (c.push e x w').h = c.h ++ [e] from rfl, getE_append_lt hi]; exact sameE_refl _⟩
theorem Cx.rel_push {c : Cx} (hr : Rel c) {e : E} {x : Value} {w' : World} (h1 : Handle x) (hg : c.w.grownBy w' none) (hx : ∀ b, blk x = some b → c.w.heap.size ≤ b ∧ b < w'.heap.size)
    (he : Ent (c.push e x w') c.h.length e) : Rel (c.push e x w') := by
  have hE := Cx.ext_push hr e x hg (fun b hb => (hx b hb).1)
  have hlt : ∀ i b, i < c.h.length → (getE c.h i).alive = true → blk (c.hv i) = some b → b < c.w.heap.size := fun i b _ ha hb => hr.lt b ⟨i, ha, hb⟩
  refine ⟨fun i hi => ?_, fun i hi => ?_, fun i j b hi hj hbi hbj => ?_, fun b hb => ?_, fun b hb => ?_⟩
  · rcases Nat.lt_or_ge i c.h.length with hi' | hi'
    · rw [c.push_hv e x w' hi']; exact hr.one i hi'
    · have : i < c.h.length + 1 := by simpa [Cx.push] using hi
      obtain rfl : i = c.h.length := by omega
      rw [c.push_new]; exact h1
  · have hl : i < (c.h ++ [e]).length := hi
    simp at hl
    rcases Nat.lt_or_ge i c.h.length with hi' | hi'
    · rw [show (c.push e x w').h = c.h ++ [e] from rfl, getE_append_lt hi']
      by_cases ha : (getE c.h i).alive = true
      · exact (hr.ent i hi').keep hE hi' (fun b hb => hg.block b (hlt i b hi' ha hb) (by simp))
      · cases hd : getE c.h i with
        | dead => trivial
        | row l => rw [hd] at ha; exact absurd rfl ha
        | cells vs => rw [hd] at ha; exact absurd rfl ha
        | recs n xs => rw [hd] at ha; exact absurd rfl ha
    · obtain rfl : i = c.h.length := by omega
      rw [show (c.push e x w').h = c.h ++ [e] from rfl, getE_append_new]; exact he
  · have li : i < (c.h ++ [e]).length := alive_lt hi
    have lj : j < (c.h ++ [e]).length := alive_lt hj
    simp at li lj
    rcases Nat.lt_or_ge i c.h.length with hi' | hi' <;> rcases Nat.lt_or_ge j c.h.length with hj' | hj'
    · rw [show (c.push e x w').h = c.h ++ [e] from rfl, getE_append_lt hi'] at hi
      rw [show (c.push e x w').h = c.h ++ [e] from rfl, getE_append_lt hj'] at hj
      rw [c.push_hv e x w' hi'] at hbi
      rw [c.push_hv e x w' hj'] at hbj
      exact hr.inj i j b hi hj hbi hbj
    · obtain rfl : j = c.h.length := by omega
      rw [show (c.push e x w').h = c.h ++ [e] from rfl, getE_append_lt hi'] at hi
      rw [c.push_hv e x w' hi'] at hbi
      rw [c.push_new] at hbj
      have := hlt i b hi' hi hbi
      have := (hx b hbj).1
      omega
    · obtain rfl : i = c.h.length := by omega
      rw [show (c.push e x w').h = c.h ++ [e] from rfl, getE_append_lt hj'] at hj
      rw [c.push_hv e x w' hj'] at hbj
      rw [c.push_new] at hbi
      have := hlt j b hj' hj hbj
      have := (hx b hbi).1
      omega
    · omega
  · rcases Cx.push_U hb with h | h
    · exact Nat.lt_of_lt_of_le (hr.lt b h) hg.size
    · exact (hx b h).2
  · have h := hr.far b hb
    refine ⟨Nat.lt_of_lt_of_le h.1 hg.size, fun hu => ?_⟩
    rcases Cx.push_U hu with h' | h'
    · exact h.2 h'
    · have := (hx b h').1; omega

/-- An own block whose content is another. -/
def Cx.upd (c : Cx) (id : Nat) (e : E) (w' : World) : Cx := ⟨c.F, c.h.set id e, c.hv, w'⟩
theorem Cx.upd_U {c : Cx} {id : Nat} {e : E} {w' : World} (hid : id < c.h.length) (ha : (getE c.h id).alive = true) {b : Nat} (h : (c.upd id e w').U b) : c.U b := by
  obtain ⟨i, hi, hb⟩ := h
  rw [show (c.upd id e w').h = c.h.set id e from rfl, getE_set hid] at hi
  by_cases hh : id = i
  · subst hh; exact ⟨id, ha, hb⟩
  · rw [if_neg hh] at hi; exact ⟨i, hi, hb⟩
theorem Cx.ext_upd {c : Cx} {id : Nat} {e : E} {w' : World} (hid : id < c.h.length) (ha : (getE c.h id).alive = true) (hs : sameE (getE c.h id) e = true)
    (hg : c.w.grownBy w' (blk (c.hv id))) : Ext c (c.upd id e w') where
  F := rfl
  os := hg.os
  tape := hg.tape
  output := hg.output
  size := hg.size
  block := fun k hk hu => hg.block k hk (fun e => hu ⟨id, ha, e.symm⟩)
  own := fun b hb => .inl (Cx.upd_U hid ha hb)
  len := by simp [Cx.upd]
  ids := fun i hi => ⟨rfl, by
    rw [show (c.upd id e w').h = c.h.set id e from rfl, getE_set hid]
    by_cases hh : id = i
    · subst hh; simpa using hs
    · rw [if_neg hh]; exact sameE_refl _⟩
theorem Cx.rel_upd {c : Cx} (hr : Rel c) {id : Nat} {e : E} {w' : World} (hid : id < c.h.length) (ha : (getE c.h id).alive = true) (hs : sameE (getE c.h id) e = true)
    (hg : c.w.grownBy w' (blk (c.hv id))) (he : Ent (c.upd id e w') id e) : Rel (c.upd id e w') := by
  have hE := Cx.ext_upd (e := e) hid ha hs hg
  have hal : ∀ i, (getE (c.h.set id e) i).alive = true → (getE c.h i).alive = true := fun i hi => by
    rw [getE_set hid] at hi
    by_cases hh : id = i
    · subst hh; exact ha
    · rw [if_neg hh] at hi; exact hi
  refine ⟨fun i hi => hr.one i (by simpa [Cx.upd] using hi), fun i hi => ?_, fun i j b hi hj hbi hbj => hr.inj i j b (hal i hi) (hal j hj) hbi hbj, fun b hb => Nat.lt_of_lt_of_le (hr.lt b (Cx.upd_U hid ha hb)) hg.size, fun b hb => ?_⟩
  · rw [show (c.upd id e w').h = c.h.set id e from rfl, getE_set hid]
    have hi' : i < c.h.length := by simpa [Cx.upd] using hi
    by_cases hh : id = i
    · subst hh; simpa using he
    · rw [if_neg hh]
      by_cases hai : (getE c.h i).alive = true
      · refine (hr.ent i hi').keep hE hi' (fun b hb => hg.block b (hr.lt b ⟨i, hai, hb⟩) (fun e => hh ?_))
        exact hr.inj id i b ha hai e.symm hb
      · cases hd : getE c.h i with
        | dead => trivial
        | row l => rw [hd] at hai; exact absurd rfl hai
        | cells vs => rw [hd] at hai; exact absurd rfl hai
        | recs n xs => rw [hd] at hai; exact absurd rfl hai
  · have h := hr.far b hb
    exact ⟨Nat.lt_of_lt_of_le h.1 hg.size, fun hu => h.2 (Cx.upd_U hid ha hu)⟩

/-- An own block that grows, perhaps elsewhere. -/
def Cx.grow (c : Cx) (id : Nat) (e : E) (x : Value) (w' : World) : Cx :=
  ⟨c.F, c.h.set id .dead ++ [e], fun i => if i = c.h.length then x else c.hv i, w'⟩
theorem Cx.grow_get {c : Cx} {id : Nat} {e : E} {x : Value} {w' : World} (hid : id < c.h.length) (i : Nat) :
    getE (c.grow id e x w').h i = if i = id then .dead else if i = c.h.length then e else getE c.h i := by
  rw [show (c.grow id e x w').h = c.h.set id .dead ++ [e] from rfl]
  have hl : (c.h.set id .dead).length = c.h.length := by simp
  rcases Nat.lt_or_ge i c.h.length with hi | hi
  · rw [getE_append_lt (by omega), getE_set hid]
    by_cases hh : id = i
    · subst hh; simp
    · have h1 : ¬ i = id := fun e => hh e.symm
      have h2 : ¬ i = c.h.length := by omega
      simp [hh, h1, h2]
  · have h1 : ¬ i = id := by omega
    rw [if_neg h1]
    by_cases h2 : i = c.h.length
    · subst h2
      rw [if_pos rfl]
      have := getE_append_new (h := c.h.set id .dead) (e := e)
      rw [hl] at this; exact this
    · rw [if_neg h2, getE_out (h := c.h) hi, getE_append_out (by omega)]
theorem Cx.grow_U {c : Cx} {id : Nat} {e : E} {x : Value} {w' : World} (hid : id < c.h.length) {b : Nat} (h : (c.grow id e x w').U b) :
    (∃ i, i < c.h.length ∧ i ≠ id ∧ (getE c.h i).alive = true ∧ blk (c.hv i) = some b) ∨ blk x = some b := by
  obtain ⟨i, ha, hb⟩ := h
  rw [Cx.grow_get hid] at ha
  by_cases h1 : i = id
  · rw [if_pos h1] at ha; cases ha
  · rw [if_neg h1] at ha
    by_cases h2 : i = c.h.length
    · subst h2
      right; simpa [Cx.grow] using hb
    · rw [if_neg h2] at ha
      left
      refine ⟨i, alive_lt ha, h1, ha, ?_⟩
      simpa [Cx.grow, h2] using hb
theorem Cx.ext_grow {c : Cx} {id : Nat} {e : E} {x : Value} {w' : World} (hid : id < c.h.length) (ha : (getE c.h id).alive = true)
    (hg : c.w.grownBy w' (blk (c.hv id))) (hx : ∀ b, blk x = some b → blk (c.hv id) = some b ∨ c.w.heap.size ≤ b) : Ext c (c.grow id e x w') where
  F := rfl
  os := hg.os
  tape := hg.tape
  output := hg.output
  size := hg.size
  block := fun k hk hu => hg.block k hk (fun e => hu ⟨id, ha, e.symm⟩)
  own := fun b hb => by
    rcases Cx.grow_U hid hb with ⟨i, _, _, h1, h2⟩ | h
    · exact .inl ⟨i, h1, h2⟩
    · exact (hx b h).imp (fun h => ⟨id, ha, h⟩) (fun h => h)
  len := by simp [Cx.grow]
  ids := fun i hi => ⟨by have : i ≠ c.h.length := by omega
                         simp [Cx.grow, this], by
    rw [Cx.grow_get hid]
    by_cases h1 : i = id
    · rw [if_pos h1]; cases getE c.h i <;> rfl
    · have h2 : ¬ i = c.h.length := by omega
      rw [if_neg h1, if_neg h2]; exact sameE_refl _⟩
theorem Cx.rel_grow {c : Cx} (hr : Rel c) {id : Nat} {e : E} {x : Value} {w' : World} (h1 : Handle x) (hid : id < c.h.length) (ha : (getE c.h id).alive = true)
    (hg : c.w.grownBy w' (blk (c.hv id))) (hx : ∀ b, blk x = some b → (blk (c.hv id) = some b ∨ c.w.heap.size ≤ b) ∧ b < w'.heap.size)
    (he : Ent (c.grow id e x w') c.h.length e) : Rel (c.grow id e x w') := by
  have hE := Cx.ext_grow (e := e) hid ha hg (fun b hb => (hx b hb).1)
  have hold : ∀ i b, i ≠ id → (getE c.h i).alive = true → blk (c.hv i) = some b → blk x ≠ some b := fun i b hne hai hb hxb => by
    rcases (hx b hxb).1 with h | h
    · exact hne (hr.inj i id b hai ha hb h)
    · have := hr.lt b ⟨i, hai, hb⟩; omega
  refine ⟨fun i hi => ?_, fun i hi => ?_, fun i j b hi hj hbi hbj => ?_, fun b hb => ?_, fun b hb => ?_⟩
  · have hl : i < c.h.length + 1 := by simpa [Cx.grow] using hi
    by_cases h2 : i = c.h.length
    · simpa [Cx.grow, h2] using h1
    · simpa [Cx.grow, h2] using hr.one i (by omega)
  · have hl : i < c.h.length + 1 := by simpa [Cx.grow] using hi
    rw [Cx.grow_get hid]
    by_cases h1 : i = id
    · rw [if_pos h1]; trivial
    · rw [if_neg h1]
      by_cases h2 : i = c.h.length
      · subst h2; rw [if_pos rfl]; exact he
      · rw [if_neg h2]
        have hi' : i < c.h.length := by omega
        by_cases hai : (getE c.h i).alive = true
        · exact (hr.ent i hi').keep hE hi' (fun b hb => hg.block b (hr.lt b ⟨i, hai, hb⟩) (fun e => h1 (hr.inj i id b hai ha hb e.symm)))
        · cases hd : getE c.h i with
          | dead => trivial
          | row l => rw [hd] at hai; exact absurd rfl hai
          | cells vs => rw [hd] at hai; exact absurd rfl hai
          | recs n xs => rw [hd] at hai; exact absurd rfl hai
  · rw [Cx.grow_get hid] at hi hj
    by_cases i1 : i = id
    · rw [if_pos i1] at hi; cases hi
    by_cases j1 : j = id
    · rw [if_pos j1] at hj; cases hj
    rw [if_neg i1] at hi; rw [if_neg j1] at hj
    by_cases i2 : i = c.h.length <;> by_cases j2 : j = c.h.length
    · omega
    · rw [if_neg j2] at hj
      have hb1 : blk x = some b := by simpa [Cx.grow, i2] using hbi
      have hb2 : blk (c.hv j) = some b := by simpa [Cx.grow, j2] using hbj
      exact absurd hb1 (hold j b j1 hj hb2)
    · rw [if_neg i2] at hi
      have hb1 : blk x = some b := by simpa [Cx.grow, j2] using hbj
      have hb2 : blk (c.hv i) = some b := by simpa [Cx.grow, i2] using hbi
      exact absurd hb1 (hold i b i1 hi hb2)
    · rw [if_neg i2] at hi; rw [if_neg j2] at hj
      exact hr.inj i j b hi hj (by simpa [Cx.grow, i2] using hbi) (by simpa [Cx.grow, j2] using hbj)
  · rcases Cx.grow_U hid hb with ⟨i, _, _, h1, h2⟩ | h
    · exact Nat.lt_of_lt_of_le (hr.lt b ⟨i, h1, h2⟩) hg.size
    · exact (hx b h).2
  · have h := hr.far b hb
    refine ⟨Nat.lt_of_lt_of_le h.1 hg.size, fun hu => ?_⟩
    rcases Cx.grow_U hid hu with ⟨i, _, _, h1, h2⟩ | h'
    · exact h.2 ⟨i, h1, h2⟩
    · rcases (hx b h').1 with h'' | h''
      · exact h.2 ⟨id, ha, h''⟩
      · omega

/-- An own block given up: it is written no more. -/
theorem Cx.ext_kill {c : Cx} {id : Nat} (hid : id < c.h.length) (ha : (getE c.h id).alive = true) : Ext c (c.upd id .dead c.w) :=
  Cx.ext_upd hid ha (by cases getE c.h id <;> rfl) ⟨rfl, rfl, rfl, Nat.le_refl _, fun _ _ _ => rfl⟩
theorem Cx.rel_kill {c : Cx} (hr : Rel c) {id : Nat} (hid : id < c.h.length) (ha : (getE c.h id).alive = true) : Rel (c.upd id .dead c.w) :=
  Cx.rel_upd hr hid ha (by cases getE c.h id <;> rfl) ⟨rfl, rfl, rfl, Nat.le_refl _, fun _ _ _ => rfl⟩ trivial

end Go.Proofs.Ytgpgifpblchjjaa.D
/- Each operation of the small machine is one of the model's. Conditions: those of each theorem. -/
namespace Go.Proofs.Ytgpgifpblchjjaa.D
open Go.RowKit
set_option linter.unusedVariables false
set_option linter.unusedSimpArgs false

structure TyOk (P : Program) (TD : TypeId → Option TI) : Prop where
  ok : ∀ t i, TD t = some i → P.underlying t = some i.desc ∧ ∃ f, P.info? t = some f ∧ f.size = i.size ∧ f.bytes = i.bytes ∧ f.zero = some i.zero

def ArgsR (c : Cx) (args : List V) (cargs : List Value) : Prop :=
  cargs.length = args.length ∧ ∀ j, j < args.length → VR c (args.getD j .junk) (cargs.getD j undef)

/-- What is told of the functions is true. -/
structure KOk (P : Program) (K : FuncId → List V → List E → (V → List E → R) → R) : Prop where
  fn : ∀ f args h κ r, K f args h κ = some r → ∃ fn, P.funcs[f]? = some fn ∧ fn.body.isNone = false ∧ (fn.name == "runtime.NumGoroutine") = false
  law : ∀ f args h κ r, K f args h κ = some r → ∃ v h', κ v h' = some r ∧ ∀ κ2, K f args h κ2 = κ2 v h'
  ok : ∀ f args h κ r, K f args h κ = some r → ∀ (c : Cx) (cargs : Array Value), c.h = h → Rel c → ArgsR c args cargs.toList →
    Calls P f cargs c.w fun e w' => ∃ x v c', e = .returned x ∧ κ v c'.h = some r ∧ Ext c c' ∧ Rel c' ∧ VR c' v x ∧ c'.w = w'

section
variable {P : Program} {o : Oper} {a : Act} {w w' : World} {N : Act → World → Prop} {Q : Exit → Act → World → Prop}
theorem wp_val {x : Value} (hrun : (execOp a.eval o).run P w = .ok (.value x) w') (h : N (a.put o.dst x) w') : o.wp P a w N Q := by
  unfold Oper.wp; rw [hrun]; exact h
theorem wp_skp (hrun : (execOp a.eval o).run P w = .ok .skip w') (h : N (a.put o.dst undef) w') : o.wp P a w N Q := by
  unfold Oper.wp; rw [hrun]; exact h
end

/-- What an operation owes: its value and the blocks behind it go on. -/
def Owed (c : Cx) (κ : V → List E → R) (r : V × List E) (M : Value → World → Prop) : Prop :=
  ∀ v c' x, κ v c'.h = some r → Ext c c' → Rel c' → VR c' v x → M x c'.w

theorem bif_some {b : Bool} {x : R} {r : V × List E} (h : (bif b then x else none) = some r) : b = true ∧ x = some r := by
  cases b with
  | true => exact ⟨rfl, h⟩
  | false => cases h
theorem bif_none {b : Bool} {x : R} {r : V × List E} (h : (bif b then none else x) = some r) : b = false ∧ x = some r := by
  cases b with
  | false => exact ⟨rfl, h⟩
  | true => cases h

theorem vr_int {c : Cx} {k : IntKind} {n : Int} {v : Value} (h : VR c (.int k n) v) : v = .int k n := h
theorem vr_bool {c : Cx} {b : Bool} {v : Value} (h : VR c (.bool b) v) : v = .bool b := h
theorem vr_str {c : Cx} {s : ByteArray} {v : Value} (h : VR c (.str s) v) : v = .string s := h

section
variable {P : Program} {c : Cx} {r : V × List E}

theorem run_eqGuard_int {op : BinOp} {t : TypeId} {x y : Operand} {k k' : IntKind} {m n : Int} {w : World} : (eqGuard op t x y (.int k m) (.int k' n)).run P w = .ok () w := by
  unfold eqGuard; split <;> rfl
theorem run_eqGuard_bool {op : BinOp} {t : TypeId} {x y : Operand} {m n : Bool} {w : World} : (eqGuard op t x y (.bool m) (.bool n)).run P w = .ok () w := by
  unfold eqGuard; split <;> rfl

theorem run_eqGuard_str {op : BinOp} {t : TypeId} {x y : Operand} {m n : ByteArray} {w : World} : (eqGuard op t x y (.string m) (.string n)).run P w = .ok () w := by
  unfold eqGuard; split <;> rfl
theorem run_equal_bool {t : TypeId} {m n : Bool} {w : World} (hu : P.underlying t = some .bool) : (Op.equal t (.bool m) (.bool n)).run P w = .ok (m == n) w := by
  have h : ∀ d, (Op.equalIn (d + 1) t (.bool m) (.bool n)).run P w = .ok (m == n) w := fun d => by
    rw [Op.equalIn]
    simp only [Sem.run_bind, run_underlying hu, Result.andThen_ok]
    rfl
  exact h 9999

theorem bin_ok {isB : Bool} {op : BinOp} {x y : V} {κ : V → R} {t : TypeId} {ox oy : Operand} {vx vy : Value} (h : binC isB op x y κ = some r) (hx : VR c x vx) (hy : VR c y vy)
    (hB : isB = true → P.underlying t = some .bool) :
    ∃ v z, κ v = some r ∧ VR c v z ∧ (do eqGuard op t ox oy vx vy; binOp op t vx vy : Sem Value).run P c.w = .ok z c.w := by
  unfold binC at h
  split at h
  · rename_i k m k' n
    have ex := vr_int hx; have ey := vr_int hy
    subst ex; subst ey
    simp only [Sem.run_bind, run_eqGuard_int, Result.andThen_ok]
    split at h
    · obtain ⟨h1, h2⟩ := bif_none h
      have h1' : ¬ n < 0 := of_decide_eq_false h1
      exact ⟨_, .int k (k.wrap (m * 2 ^ (min n.toNat k.bits))), h2, rfl, by simp [binOp, Op.shift, h1']⟩
    · obtain ⟨h1, h2⟩ := bif_none h
      have h1' : ¬ n < 0 := of_decide_eq_false h1
      exact ⟨_, .int k (m.fdiv (2 ^ (min n.toNat k.bits))), h2, rfl, by simp [binOp, Op.shift, h1']⟩
    · obtain ⟨h1, h2⟩ := bif_some h
      have hk : k = k' := of_decide_eq_true h1
      subst hk
      cases op <;> simp only at h2 <;> first
        | (cases h2; done)
        | (refine ⟨_, _, h2, rfl, ?_⟩; simp [binOp, Op.intArith, Op.intCmp, intBits_and, intBits_or, intBits_xor, intBits_andNot]; done)
        | (obtain ⟨h3, h4⟩ := bif_none h2
           have h5 : ¬ n = 0 := by simpa using h3
           refine ⟨_, _, h4, rfl, ?_⟩
           simp [binOp, Op.intDiv, h5]; done)
        | contradiction
  · rename_i m n
    have ex := vr_bool hx; have ey := vr_bool hy
    subst ex; subst ey
    obtain ⟨h1, h2⟩ := bif_some h
    have hu := hB h1
    simp only [Sem.run_bind, run_eqGuard_bool, Result.andThen_ok]
    split at h2
    · refine ⟨_, .bool (m == n), h2, rfl, ?_⟩
      show (do pure (.bool (← Op.equal t (.bool m) (.bool n))) : Sem Value).run P c.w = _
      simp only [Sem.run_bind, run_equal_bool hu, Result.andThen_ok, Sem.run_pure]
    · refine ⟨_, .bool (!(m == n)), h2, rfl, ?_⟩
      show (do pure (.bool (!(← Op.equal t (.bool m) (.bool n)))) : Sem Value).run P c.w = _
      simp only [Sem.run_bind, run_equal_bool hu, Result.andThen_ok, Sem.run_pure]
    · cases h2
  · rename_i m n
    have ex := vr_str hx; have ey := vr_str hy
    subst ex; subst ey
    simp only [Sem.run_bind, run_eqGuard_str, Result.andThen_ok]
    split at h
    · obtain ⟨h1, h2⟩ := bif_some h
      have h1' : m.size + n.size ≤ 1099511627776 := of_decide_eq_true h1
      refine ⟨_, .string (m ++ n), h2, rfl, ?_⟩
      have hn : ¬ (((m.size + n.size : Nat) : Int) > IntKind.i64.max) := by
        have : IntKind.i64.max = 9223372036854775807 := by decide
        omega
      show (Op.stringOp .add m n).run P c.w = _
      unfold Op.stringOp
      simp only [if_neg hn, Sem.run_pure]
    · exact ⟨_, .bool (strEq m n), h, rfl, by simp [binOp, Op.stringOp, strEq]⟩
    · exact ⟨_, .bool (!strEq m n), h, rfl, by simp [binOp, Op.stringOp, strEq]⟩
    · cases h
  · cases h

theorem un_ok {op : UnOp} {x : V} {κ : V → R} {vx : Value} (h : unC op x κ = some r) (hx : VR c x vx) : ∃ v z, κ v = some r ∧ VR c v z ∧ (Op.unary op vx).run P c.w = .ok z c.w := by
  unfold unC at h
  split at h
  · have ex := vr_bool hx; subst ex; exact ⟨_, _, h, rfl, by simp [Op.unary]⟩
  · have ex := vr_int hx; subst ex; exact ⟨_, _, h, rfl, by simp [Op.unary, Op.intArith]⟩
  · cases h

theorem conv_ok {TD : TypeId → Option TI} (hT : TyOk P TD) {s d : TypeId} {x : V} {κ : V → R} {vx : Value} (h : convC (TD s) (TD d) x κ = some r) (hx : VR c x vx) :
    ∃ v z, κ v = some r ∧ VR c v z ∧ (convert s d vx).run P c.w = .ok z c.w := by
  unfold convC at h
  split at h
  · rename_i i k sz by_ z k' n h1 h2
    have ex := vr_int hx; subst ex
    obtain ⟨u1, _⟩ := hT.ok _ _ h1
    obtain ⟨u2, _⟩ := hT.ok _ _ h2
    exact ⟨_, _, h, rfl, by simp [convert, run_underlying u1, run_underlying u2, Conv.intToInt]⟩
  · cases h

theorem minmax_ok {mx : Bool} {κ : V → R} : ∀ (ys : List V) (x : V) (vx : Value) (vys : List Value), minmaxC mx x ys κ = some r → VR c x vx → ArgsR c ys vys →
    ∃ v z, κ v = some r ∧ VR c v z ∧ (vys.foldlM (if mx then Builtin.max2 else Builtin.min2) vx).run P c.w = .ok z c.w := by
  intro ys
  induction ys with
  | nil =>
    intro x vx vys h hx ha
    have e : vys = [] := List.eq_nil_of_length_eq_zero (by simpa using ha.1)
    subst e
    have h' : κ x = some r := by
      cases x <;> exact h
    exact ⟨x, vx, h', hx, rfl⟩
  | cons y ys ih =>
    intro x vx vys h hx ha
    obtain ⟨vy, vys, rfl⟩ : ∃ u us, vys = u :: us := by
      cases vys with
      | nil => have := ha.1; simp at this
      | cons u us => exact ⟨u, us, rfl⟩
    have hy : VR c y vy := by simpa using ha.2 0 (by simp)
    have ha' : ArgsR c ys vys := ⟨by simpa using ha.1, fun j hj => by simpa using ha.2 (j + 1) (by simpa using hj)⟩
    cases x with
    | int k m =>
      cases y with
      | int k' n =>
        have ex := vr_int hx; have ey := vr_int hy
        subst ex; subst ey
        unfold minmaxC at h
        cases mx with
        | true =>
          obtain ⟨v, z, h1, h2, h3⟩ := ih _ _ _ h (show VR c _ _ from rfl) ha'
          exact ⟨v, z, h1, h2, by simpa [Builtin.max2] using h3⟩
        | false =>
          obtain ⟨v, z, h1, h2, h3⟩ := ih _ _ _ h (show VR c _ _ from rfl) ha'
          exact ⟨v, z, h1, h2, by simpa [Builtin.min2] using h3⟩
      | _ => simp [minmaxC] at h
    | _ => simp [minmaxC] at h
end

end Go.Proofs.Ytgpgifpblchjjaa.D
/- Operations on rows and blocks. Conditions: those of each theorem. -/
namespace Go.Proofs.Ytgpgifpblchjjaa.D
open Go.RowKit
set_option linter.unusedVariables false
set_option linter.unusedSimpArgs false

theorem add_none (b off k : Nat) : (⟨b, off, none⟩ : Addr).add k = ⟨b, off + k, none⟩ := by
  unfold Addr.add; split
  · rename_i h; subst h; rfl
  · rfl

theorem L.cut_len {l : L} {a n : Nat} (h : a + n ≤ l.len) : (l.cut a n).len = n := by
  cases l <;> simp [L.cut, L.len] at h ⊢ <;> omega
theorem L.cut_at {l : L} {a n j : Nat} (h : a + n ≤ l.len) (hj : j < n) : (l.cut a n).at_ j = l.at_ (a + j) := by
  cases l <;> simp [L.cut, L.at_, L.len, eli, elb, els, elr, List.getD, List.getElem?_take, hj]
theorem L.app_len {l m r : L} (h : l.app m = some r) : r.len = l.len + m.len := by
  cases l <;> cases m <;> simp [L.app] at h
  · obtain ⟨_, rfl⟩ := h; simp [L.len]
  all_goals (subst h; simp [L.len])
theorem L.app_at {l m r : L} (h : l.app m = some r) (j : Nat) : r.at_ j = if j < l.len then l.at_ j else m.at_ (j - l.len) := by
  cases l <;> cases m <;> simp [L.app] at h
  · obtain ⟨rfl, rfl⟩ := h
    simp only [L.len, L.at_, eli, List.getD, List.getElem?_append]
    split <;> simp_all
    all_goals (intro; omega)
  all_goals
    subst h
    simp only [L.len, L.at_, elb, els, elr, List.getD, List.getElem?_append]
    split <;> simp_all
    all_goals (intro; omega)

/-- The atom that a value is. -/
def V.atom : V → Option Atom
  | .int k n => some (.int k n)
  | .bool b => some (.bool b)
  | .str s => some (.str s)
  | .ro true (.ints .i64 xs) => some (.row xs)
  | _ => none
theorem L.set_ok {l l' : L} {i : Nat} {v : V} (h : l.set_ i v = some l') : l'.len = l.len ∧ ∃ a, v.atom = some a ∧ (∀ j, j < l.len → l'.at_ j = if j = i then a else l.at_ j) := by
  cases l <;> cases v <;> simp [L.set_] at h
  · obtain ⟨rfl, rfl⟩ := h
    refine ⟨by simp [L.len], _, rfl, fun j hj => ?_⟩
    simp only [L.at_, eli, List.getD, L.len] at hj ⊢
    by_cases hji : j = i
    · subst hji; simp [hj]
    · have : ¬ i = j := fun e => hji e.symm
      simp [hji, this]
  · subst h
    refine ⟨by simp [L.len], _, rfl, fun j hj => ?_⟩
    simp only [L.at_, elb, List.getD, L.len] at hj ⊢
    by_cases hji : j = i
    · subst hji; simp [hj]
    · have : ¬ i = j := fun e => hji e.symm
      simp [hji, this]
  · subst h
    refine ⟨by simp [L.len], _, rfl, fun j hj => ?_⟩
    simp only [L.at_, els, List.getD, L.len] at hj ⊢
    by_cases hji : j = i
    · subst hji; simp [hj]
    · have : ¬ i = j := fun e => hji e.symm
      simp [hji, this]
  · rename_i xs s l2
    cases s with
    | false => simp [L.set_] at h
    | true =>
      cases l2 with
      | ints k ys =>
        cases k <;> simp [L.set_] at h
        subst h
        refine ⟨by simp [L.len], _, rfl, fun j hj => ?_⟩
        simp only [L.at_, elr, List.getD, L.len] at hj ⊢
        by_cases hji : j = i
        · subst hji; simp [hj]
        · have : ¬ i = j := fun e => hji e.symm
          simp [hji, this]
      | _ => simp [L.set_] at h

theorem own_cells {w : World} {e : TypeId} {v : Value} {n : Nat} {xs : List Value} (h : w.ownsRow 0 e 1 v n xs) :
    ∃ a cap, v = .slice a n cap ∧ n ≤ cap ∧ cap ≤ maxLen ∧ xs.length = n ∧ (n = 0 ∨ ∃ g, a = some ⟨g, 0, none⟩ ∧ blk v = some g ∧ ∀ j, w.cell? ⟨g, j, none⟩ = xs[j]? ∨ n ≤ j) := by
  have hx : xs.length = n := by have := h.1; omega
  rcases h.2 with ⟨rfl, rfl⟩ | ⟨g, cap, cur, rfl, _, hg, hn, hm, hs, ht⟩
  · exact ⟨none, 0, rfl, Nat.le_refl _, by simp [maxLen], hx, .inl rfl⟩
  · refine ⟨_, cap, rfl, hn, hm, hx, .inr ⟨g, rfl, rfl, fun j => ?_⟩⟩
    rcases Nat.lt_or_ge j n with hj | hj
    · left
      rw [cell_of_row w g j cur e (0, 0) hg, ← ht, List.getElem?_take, if_pos (by omega)]
      simp
    · exact .inr hj

/-- A list in memory. -/
def Seen (c : Cx) (l : L) (v : Value) : Prop :=
  ∃ a cap, v = .slice a l.len cap ∧ l.len ≤ cap ∧ (l.len = 0 ∨ ∃ b off, a = some ⟨b, off, none⟩ ∧ ∀ j, j < l.len → ∃ y, c.w.cell? ⟨b, off + j, none⟩ = some y ∧ AtomR c (l.at_ j) y)

section
variable {P : Program} {c : Cx} {r : V × List E}

theorem own_shape (hr : Rel c) {id : Nat} {l : L} (hid : id < c.h.length) (hl : getE c.h id = .row l) {ad : Option Addr} {n cap : Nat} (hv : c.hv id = .slice ad n cap) : ad = none ∨ ∃ g, ad = some ⟨g, 0, none⟩ := by
  have he := hr.ent id hid
  rw [hl] at he
  obtain ⟨e, xs, ho, ha⟩ := he
  rcases ho.2 with ⟨h0, _⟩ | ⟨g, cap', cur, h0, _⟩
  · rw [hv] at h0; injection h0 with h0 _ _; exact .inl h0
  · rw [hv] at h0; injection h0 with h0 _ _; exact .inr ⟨g, h0⟩
theorem seen_own (hr : Rel c) {id : Nat} {l : L} (hid : id < c.h.length) (hl : getE c.h id = .row l) : Seen c l (c.hv id) ∧ (l.len = 0 ∨ ∃ g cap, c.hv id = .slice (some ⟨g, 0, none⟩) l.len cap) := by
  have he := hr.ent id hid
  rw [hl] at he
  obtain ⟨e, xs, ho, ha⟩ := he
  obtain ⟨a, cap, hv, hn, _, hx, h0⟩ := own_cells ho
  refine ⟨⟨a, cap, hv, hn, ?_⟩, ?_⟩
  · rcases h0 with h0 | ⟨g, rfl, hb, hc⟩
    · exact .inl h0
    · refine .inr ⟨g, 0, rfl, fun j hj => ?_⟩
      obtain ⟨y, hy, hya⟩ := ha j hj
      refine ⟨y, ?_, hya⟩
      rcases hc j with h | h
      · rw [Nat.zero_add, h, hy]
      · omega
  · rcases h0 with h0 | ⟨g, rfl, hb, hc⟩
    · exact .inl h0
    · exact .inr ⟨g, cap, hv⟩

theorem list_ok (hr : Rel c) {x : V} {l : L} {vx : Value} (h : listOf c.h x = some l) (hx : VR c x vx) : Seen c l vx := by
  cases x with
  | ro s m =>
    simp [listOf] at h; subst h
    obtain ⟨a, cap, rfl, hc, h0⟩ := (show RoR c s m vx from hx)
    refine ⟨a, cap, rfl, hc, ?_⟩
    rcases h0 with h0 | ⟨b, off, ha, _, _, hcell⟩
    · exact .inl h0
    · exact .inr ⟨b, off, ha, hcell⟩
  | own id =>
    obtain ⟨hid, rfl⟩ := (show id < c.h.length ∧ vx = c.hv id from hx)
    simp only [listOf] at h
    split at h
    · rename_i l' hl
      simp at h; subst h
      exact (seen_own hr hid hl).1
    · cases h
  | sub id off n =>
    obtain ⟨hid, a, cap, rfl, hn, hg, hl, _⟩ := (show VR0 c (.sub id off n) vx from hx)
    simp only [listOf] at h
    split at h
    · rename_i l' hl'
      simp at h; subst h
      have hle := hl l' hl'
      refine ⟨a, cap, by rw [L.cut_len hle], by rw [L.cut_len hle]; exact hn, ?_⟩
      rw [L.cut_len hle]
      rcases hg with h0 | ⟨g, hbg, rfl⟩
      · exact .inl h0
      · rcases Nat.eq_zero_or_pos n with h0 | hp
        · exact .inl h0
        · refine .inr ⟨g, off, rfl, fun j hj => ?_⟩
          obtain ⟨⟨a', cap', hv, _, h0⟩, _⟩ := seen_own hr hid hl'
          rcases h0 with h0 | ⟨b, o, rfl, hc⟩
          · omega
          · obtain ⟨y, hy, hya⟩ := hc (off + j) (by omega)
            have e := seen_own hr hid hl'
            rcases e.2 with e0 | ⟨g', cap'', hv'⟩
            · omega
            · rw [hv'] at hv; cases hv
              rw [hv'] at hbg; simp [blk] at hbg; subst hbg
              rw [L.cut_at hle hj]
              exact ⟨y, by simpa using hy, hya⟩
    · cases h
  | _ => simp [listOf] at h

theorem atom_vr {c : Cx} {a : Atom} {y : Value} (h : AtomR c a y) : VR c a.v y := by
  cases a with
  | row xs =>
    obtain ⟨a, cap, rfl, hc, h0⟩ := h
    refine ⟨a, cap, rfl, hc, ?_⟩
    rcases h0 with h0 | ⟨b, off, ha, hF, hU, hcell⟩
    · exact .inl h0
    · exact .inr ⟨b, off, ha, fun _ => hF, hU, fun j hj => ⟨_, hcell j hj, rfl⟩⟩
  | _ => exact h

theorem idx_ok {TD : TypeId → Option TI} (hT : TyOk P TD) (hr : Rel c) {t e : TypeId} {i0 i1 : TI} (ht : TD t = some i0) (hd : i0.desc = .slice e) (he : TD e = some i1) (hsz : i1.size = 1)
    {x i : V} {κ : V → R} {vx vi : Value} (h : idxC x i c.h κ = some r) (hx : VR c x vx) (hi : VR c i vi) :
    ∃ v z, κ v = some r ∧ VR c v z ∧ (Instr.indexAt t vx vi).run P c.w = .ok z c.w := by
  obtain ⟨u1, _⟩ := hT.ok _ _ ht
  obtain ⟨_, f, hf, hfs, _⟩ := hT.ok _ _ he
  rw [hd] at u1
  have hrun : ∀ (b off len cap k : Nat) (kk : IntKind) (n : Int), 0 ≤ n → n < (len : Int) → (Instr.indexAt t (.slice (some ⟨b, off, none⟩) len cap) (.int kk n)).run P c.w = .ok (.pointer (some ⟨b, off + n.toNat, none⟩)) c.w := by
    intro b off len cap k kk n h0 h1
    have hs : f.size = 1 := by omega
    simp [Instr.indexAt, asIntOf, run_underlying u1, sizeOf, typeInfo, hf, hs, h0, h1, add_none]
  unfold idxC at h
  split at h
  · rename_i s l k n
    have ei := vr_int hi; subst ei
    obtain ⟨h1, h2⟩ := bif_some h
    simp only [idxOk, Bool.and_eq_true, decide_eq_true_eq] at h1
    obtain ⟨a, cap, rfl, hc, h0⟩ := (show RoR c s l vx from hx)
    rcases h0 with h0 | ⟨b, off, rfl, _, hU, hcell⟩
    · omega
    · obtain ⟨y, hy, hya⟩ := hcell n.toNat (by omega)
      exact ⟨_, .pointer (some ⟨b, off + n.toNat, none⟩), h2, ⟨b, _, y, rfl, hU, hy, hya⟩, hrun b off _ cap 0 k n h1.1 h1.2⟩
  · rename_i id k n
    have ei := vr_int hi; subst ei
    split at h
    · rename_i l hl
      obtain ⟨h1, h2⟩ := bif_some h
      simp only [idxOk, Bool.and_eq_true, decide_eq_true_eq] at h1
      obtain ⟨hid, rfl⟩ := (show id < c.h.length ∧ vx = c.hv id from hx)
      rcases (seen_own hr hid hl).2 with h0 | ⟨g, cap, hv⟩
      · omega
      · rw [hv]
        refine ⟨_, .pointer (some ⟨g, 0 + n.toNat, none⟩), h2, ⟨hid, g, by rw [hv]; rfl, by simp⟩, hrun g 0 _ cap 0 k n h1.1 h1.2⟩
    · cases h
  · rename_i id o m k n
    have ei := vr_int hi; subst ei
    split at h
    · rename_i l hl
      obtain ⟨h1, h2⟩ := bif_some h
      simp only [idxOk, Bool.and_eq_true, decide_eq_true_eq] at h1
      obtain ⟨hid, a, cap, rfl, hn, hg, hle, _⟩ := (show VR0 c (.sub id o m) vx from hx)
      rcases hg with h0 | ⟨g, hbg, rfl⟩
      · omega
      · exact ⟨_, .pointer (some ⟨g, o + n.toNat, none⟩), h2, ⟨hid, g, hbg, rfl⟩, hrun g o _ cap 0 k n h1.1 h1.2⟩
    · cases h
  · cases h

theorem ints64_ok : ∀ {vs : List V} {xs : List Int}, ints64 vs = some xs → xs.length = vs.length ∧ ∀ j, j < vs.length → vs[j]? = some (.int .i64 (eli xs j)) := by
  intro vs
  induction vs with
  | nil => intro xs h; simp [ints64] at h; subst h; exact ⟨rfl, fun j hj => by simp at hj⟩
  | cons v vs ih =>
    intro xs h
    cases v with
    | int k n =>
      cases k <;> simp only [ints64, Option.map_eq_some_iff, reduceCtorEq] at h
      obtain ⟨ys, hy, rfl⟩ := h
      obtain ⟨a, b⟩ := ih hy
      refine ⟨by simp [a], fun j hj => ?_⟩
      cases j with
      | zero => rfl
      | succ j => simpa [eli] using b j (by simpa using hj)
    | _ => simp [ints64] at h
theorem putI_ok (i x : Int) : ∀ (xs : List Int) (j0 : Nat), (putI i x j0 xs).length = xs.length ∧ ∀ j, j < xs.length → (putI i x j0 xs)[j]? = some (.int .i64 (if i = ((j0 + j : Nat) : Int) then x else eli xs j)) := by
  intro xs
  induction xs with
  | nil => intro j0; exact ⟨rfl, fun j hj => by simp at hj⟩
  | cons n xs ih =>
    intro j0
    obtain ⟨a, b⟩ := ih (j0 + 1)
    refine ⟨by simp [putI, a], fun j hj => ?_⟩
    cases j with
    | zero =>
      simp only [putI, List.getElem?_cons_zero, Nat.add_zero]
      by_cases he : i = (j0 : Int)
      · rw [if_pos he]; simp [he]
      · rw [if_neg he]
        have : (i == (j0 : Int)) = false := by simpa using he
        rw [this]; rfl
    | succ j =>
      have := b j (by simpa using hj)
      simp only [putI, List.getElem?_cons_succ]
      rw [this, show j0 + 1 + j = j0 + (j + 1) by omega]
      rfl
theorem take_drop_at {α : Type} (vs : List α) {off n j : Nat} (hj : j < n) : ((vs.drop off).take n)[j]? = vs[off + j]? := by
  rw [List.getElem?_take, if_pos hj, List.getElem?_drop]
theorem loadC_elt {id off n : Nat} {i : Int} {h : List E} {κ : V → R} {q : V × List E} (h0 : 0 ≤ i ∧ i < n) (hl : loadC (.elt id off n i) h κ = some q) : loadC (.ptr id (off + i.toNat)) h κ = some q := by
  simp only [loadC] at hl ⊢
  split at hl
  · rename_i vs he
    rw [he]
    split at hl
    · rename_i xs hx
      obtain ⟨h1, h2⟩ := bif_some hl
      have h1' := Nat.eq_of_beq_eq_true h1
      obtain ⟨a, b⟩ := ints64_ok hx
      have hk : i.toNat < n := by omega
      have hlen : ((vs.drop off).take n).length = n := by omega
      have hb := b i.toNat (by omega)
      rw [take_drop_at vs hk] at hb
      have hlt : off + i.toNat < vs.length := (List.getElem?_eq_some_iff.1 hb).1
      simp only [hlt, decide_true, cond_true]
      have : vs.getD (off + i.toNat) .junk = .int .i64 (eli xs i.toNat) := by rw [List.getD_eq_getElem?_getD, hb]; rfl
      rw [this]; exact h2
    · cases hl
  · cases hl
theorem storeC_elt {id off n : Nat} {i : Int} {v : V} {h : List E} {κ : List E → R} {q : V × List E} (h0 : 0 ≤ i ∧ i < n) (hl : storeC (.elt id off n i) v h κ = some q) : storeC (.ptr id (off + i.toNat)) v h κ = some q := by
  simp only [storeC] at hl ⊢
  split at hl
  · rename_i vs x he
    rw [he]
    split at hl
    · rename_i xs hx
      obtain ⟨h1, h2⟩ := bif_some hl
      have h1' := Nat.eq_of_beq_eq_true h1
      obtain ⟨a, b⟩ := ints64_ok hx
      obtain ⟨p1, p2⟩ := putI_ok i x xs 0
      have hk : i.toNat < n := by omega
      have hlen : ((vs.drop off).take n).length = n := by omega
      rw [List.length_take, List.length_drop] at hlen
      have hlt : off + i.toNat < vs.length := by omega
      simp only [hlt, decide_true, cond_true]
      have key : vs.take off ++ (putI i x 0 xs ++ vs.drop (off + n)) = vs.set (off + i.toNat) (.int .i64 x) := by
        apply List.ext_getElem?
        intro j
        by_cases hj : j < off
        · rw [List.getElem?_append_left (by rw [List.length_take]; omega), List.getElem?_take, if_pos hj, List.getElem?_set_ne (by omega)]
        · rw [List.getElem?_append_right (by rw [List.length_take]; omega), List.length_take, Nat.min_eq_left (by omega)]
          by_cases hj2 : j < off + n
          · rw [List.getElem?_append_left (by omega), p2 (j - off) (by omega)]
            by_cases he2 : j = off + i.toNat
            · subst he2
              rw [if_pos (by omega), List.getElem?_set_self hlt]
            · rw [if_neg (by omega), List.getElem?_set_ne (fun e => he2 e.symm)]
              have := b (j - off) (by rw [List.length_take, List.length_drop]; omega)
              rw [take_drop_at vs (by omega), show off + (j - off) = j by omega] at this
              exact this.symm
          · rw [List.getElem?_append_right (by omega), List.getElem?_drop, List.getElem?_set_ne (by omega), p1, show off + n + (j - off - xs.length) = j by omega]
      rw [← key]; exact h2
    · cases hl
  · cases hl
theorem elt_ptr {id off n : Nat} {i : Int} {v : Value} (h : VR c (.elt id off n i) v) : (0 ≤ i ∧ i < n) ∧ VR c (.ptr id (off + i.toNat)) v := by
  obtain ⟨a, b, g, hg, rfl⟩ := (show VR0 c (.elt id off n i) v from h)
  exact ⟨b, show VR0 c (.ptr id (off + i.toNat)) _ from ⟨a, g, hg, rfl⟩⟩
theorem load_ok0 (hr : Rel c) {t : TypeId} {d : TypeDesc} (hu : P.underlying t = some d) (hd : (∀ fs, d ≠ .struct fs) ∧ ∀ n e, d ≠ .array n e)
    {p : V} {κ : V → R} {vp : Value} (hne : ∀ id off n i, p ≠ .elt id off n i) (h : loadC p c.h κ = some r) (hp : VR c p vp) :
    ∃ v z, κ v = some r ∧ VR c v z ∧ (Instr.loadAt t vp).run P c.w = .ok z c.w := by
  have hrun : ∀ (b off : Nat) (y : Value), c.w.cell? ⟨b, off, none⟩ = some y → (Instr.loadAt t (.pointer (some ⟨b, off, none⟩))).run P c.w = .ok y c.w := by
    intro b off y hy
    have hagg : (isAgg t).run P c.w = .ok false c.w := by
      simp only [isAgg, Sem.run_bind, run_underlying hu, Result.andThen_ok]
      cases d <;> first | rfl | exact absurd rfl (hd.1 _) | exact absurd rfl (hd.2 _ _)
    simp [Instr.loadAt, Instr.sureAddr, loadVar, hagg, hy]
  unfold loadC at h
  split at h
  · rename_i a
    obtain ⟨b, off, y, rfl, hU, hy, hya⟩ := (show VR0 c (.ref a) vp from hp)
    exact ⟨_, y, h, atom_vr hya, hrun b off y hy⟩
  · exact absurd rfl (hne _ _ _ _)
  · rename_i id off
    obtain ⟨hid, g, hbg, rfl⟩ := (show VR0 c (.ptr id off) vp from hp)
    split at h
    · rename_i l hl
      obtain ⟨h1, h2⟩ := bif_some h
      have h1' : off < l.len := of_decide_eq_true h1
      rcases (seen_own hr hid hl).2 with h0 | ⟨g', cap, hv⟩
      · omega
      · obtain ⟨⟨a, cap', hv', _, h0⟩, _⟩ := seen_own hr hid hl
        rw [hv] at hv'; cases hv'
        rw [hv] at hbg; simp [blk] at hbg; subst hbg
        rcases h0 with h0 | ⟨b, o, hbo, hcell⟩
        · omega
        · cases hbo
          obtain ⟨y, hy, hya⟩ := hcell off h1'
          exact ⟨_, y, h2, atom_vr hya, hrun _ _ y (by simpa using hy)⟩
    · rename_i vs hl
      obtain ⟨h1, h2⟩ := bif_some h
      have h1' : off < vs.length := of_decide_eq_true h1
      have he := hr.ent id hid
      rw [hl] at he
      obtain ⟨b, e, cs, hv, hg, hs, ha⟩ := he
      rw [hv] at hbg; simp [blk] at hbg; subst hbg
      obtain ⟨y, hy, hya⟩ := ha off h1'
      exact ⟨_, y, h2, hya.vr, hrun _ _ y (by rw [cell_of_row c.w b off cs e (0, 0) hg]; exact hy)⟩
    · rename_i n xs hl
      obtain ⟨h1, h2⟩ := bif_some h
      have h1' : off < xs.length := of_decide_eq_true h1
      have he := hr.ent id hid
      rw [hl] at he
      obtain ⟨hn, e, m, hx, ho⟩ := he
      rcases ho.2 with ⟨hv, hm⟩ | ⟨g', cap, cur, hv, _, hg, hnc, hm, hs, ht⟩
      · rw [hv] at hbg; simp [blk] at hbg
      · have hv2 := hv
        rw [hv] at hbg
        simp [blk] at hbg
        subst hbg
        rw [hv2] at ho
        refine ⟨_, .int .i64 (eli xs off), h2, rfl, hrun _ _ _ ?_⟩
        rw [ho.cellAt off (by omega), List.getElem?_map, List.getElem?_eq_getElem h1']
        simp [eli, List.getD, h1']
    · cases h
  · cases h

theorem load_ok (hr : Rel c) {t : TypeId} {d : TypeDesc} (hu : P.underlying t = some d) (hd : (∀ fs, d ≠ .struct fs) ∧ ∀ n e, d ≠ .array n e)
    {p : V} {κ : V → R} {vp : Value} (h : loadC p c.h κ = some r) (hp : VR c p vp) :
    ∃ v z, κ v = some r ∧ VR c v z ∧ (Instr.loadAt t vp).run P c.w = .ok z c.w := by
  cases p with
  | elt id off n i =>
    obtain ⟨a, b⟩ := elt_ptr hp
    exact load_ok0 hr hu hd (p := .ptr id (off + i.toNat)) (fun _ _ _ _ e => by cases e) (loadC_elt a h) b
  | _ => exact load_ok0 hr hu hd (fun _ _ _ _ e => by cases e) h hp
theorem len_ok (hr : Rel c) {t e ty : TypeId} (hu : P.underlying t = some (.slice e)) {x : V} {κ : V → R} {vx : Value} (h : lenC x c.h κ = some r) (hx : VR c x vx) :
    ∃ v z, κ v = some r ∧ VR c v z ∧ (Builtin.len_ #[t] ty #[vx]).run P c.w = .ok z c.w := by
  have hrun : ∀ a n cap, (Builtin.len_ #[t] ty #[.slice a n cap]).run P c.w = .ok (.int .i64 n) c.w := fun a n cap => by
    simp [Builtin.len_, run_underlying hu, goInt]
  unfold lenC at h
  split at h
  · rename_i s l
    obtain ⟨a, cap, rfl, hc, h0⟩ := (show RoR c s l vx from hx)
    exact ⟨_, _, h, rfl, hrun _ _ _⟩
  · have : vx = .slice none 0 0 := hx
    subst this
    exact ⟨_, _, h, rfl, hrun _ _ _⟩
  · rename_i id
    split at h
    · rename_i l hl
      obtain ⟨hid, rfl⟩ := (show id < c.h.length ∧ vx = c.hv id from hx)
      obtain ⟨⟨a, cap, hv, _⟩, _⟩ := seen_own hr hid hl
      rw [hv]
      exact ⟨_, _, h, rfl, hrun _ _ _⟩
    · cases h
  · rename_i id o n
    obtain ⟨hid, a, cap, rfl, hn, hg, hle, _⟩ := (show VR0 c (.sub id o n) vx from hx)
    exact ⟨_, _, h, rfl, hrun _ _ _⟩
  · cases h

theorem atom_of_vr {c : Cx} {v : V} {a : Atom} {x : Value} (h : v.atom = some a) (hv : VR c v x) : AtomR c a x ∧ x.oneCell' = true := by
  cases v <;> simp [V.atom] at h
  · have := vr_int hv; subst h; subst this; exact ⟨rfl, rfl⟩
  · have := vr_bool hv; subst h; subst this; exact ⟨rfl, rfl⟩
  · have := vr_str hv; subst h; subst this; exact ⟨rfl, rfl⟩
  · rename_i s l
    cases s with
    | false => simp [V.atom] at h
    | true =>
      cases l with
      | ints k xs =>
        cases k <;> simp [V.atom] at h
        subst h
        obtain ⟨a, cap, rfl, hc, h0⟩ := (show RoR c true (.ints .i64 xs) x from hv)
        refine ⟨⟨a, cap, rfl, hc, ?_⟩, rfl⟩
        rcases h0 with h0 | ⟨b, off, ha, hF, hU, hcell⟩
        · exact .inl h0
        · refine .inr ⟨b, off, ha, hF rfl, hU, fun j hj => ?_⟩
          obtain ⟨u, hu, hua⟩ := hcell j hj
          have : u = .int .i64 (eli xs j) := hua
          subst this; exact hu
      | _ => simp [V.atom] at h

theorem flat_one {c : Cx} (hr : Rel c) {v : V} {x : Value} (hf : v.flat = true) (hv : VR c v x) : VR0 c v x ∧ x.oneCell' = true ∧ x.cells = #[x] := by
  have h0 : VR0 c v x := by cases v <;> simp [V.flat] at hf <;> exact hv
  refine ⟨h0, ?_⟩
  cases v with
  | ro s l => obtain ⟨a, cap, rfl, _⟩ := h0; exact ⟨rfl, rfl⟩
  | nil => have : x = .slice none 0 0 := h0; subst this; exact ⟨rfl, rfl⟩
  | int k n => have : x = .int k n := h0; subst this; exact ⟨rfl, rfl⟩
  | bool b => have : x = .bool b := h0; subst this; exact ⟨rfl, rfl⟩
  | str s => have : x = .string s := h0; subst this; exact ⟨rfl, rfl⟩
  | sub id o n => obtain ⟨_, a, cap, rfl, _⟩ := h0; exact ⟨rfl, rfl⟩
  | ptr id o => obtain ⟨_, g, _, rfl⟩ := h0; exact ⟨rfl, rfl⟩
  | elt id o n i => obtain ⟨_, _, g, _, rfl⟩ := h0; exact ⟨rfl, rfl⟩
  | ref a => obtain ⟨b, o, y, rfl, _⟩ := h0; exact ⟨rfl, rfl⟩
  | fn f => have : x = .func (.func f) #[] #[] := h0; subst this; exact ⟨rfl, rfl⟩
  | recs s n xs => obtain ⟨_, a, m, cap, rfl, _⟩ := h0; exact ⟨rfl, rfl⟩
  | rref n xs o => obtain ⟨_, b, o, rfl, _⟩ := h0; exact ⟨rfl, rfl⟩
  | own id =>
    obtain ⟨hid, rfl⟩ := (show id < c.h.length ∧ x = c.hv id from h0)
    rcases hr.one id hid with ⟨a, l, k, e⟩ | ⟨b, e⟩ <;> rw [e] <;> exact ⟨rfl, rfl⟩
  | _ => simp [V.flat] at hf
end

end Go.Proofs.Ytgpgifpblchjjaa.D
/- Operations that make or write blocks. Conditions: those of each theorem. -/
namespace Go.Proofs.Ytgpgifpblchjjaa.D
open Go.RowKit
set_option linter.unusedVariables false
set_option linter.unusedSimpArgs false

section
variable {P : Program} {c : Cx} {r : V × List E}

theorem grown_self (w : World) (row : Option Nat) : w.grownBy w row := ⟨rfl, rfl, rfl, Nat.le_refl _, fun _ _ _ => rfl⟩

theorem run_storeAt {t : TypeId} {f : TypeInfo} (hf : P.info? t = some f) (hs : f.size = 1) {w : World} {b off : Nat} {x y : Value} (hx : x.oneCell' = true) (hxc : x.cells = #[x])
    (hy : w.cell? ⟨b, off, none⟩ = some y) (hz : w.frozen? ⟨b, off, none⟩ = false) :
    (Instr.storeAt t (.pointer (some ⟨b, off, none⟩)) x).run P w = .ok () (w.setCell ⟨b, off, none⟩ x) := by
  have hst : (store ⟨b, off, none⟩ x).run P w = .ok () (w.setCell ⟨b, off, none⟩ x) := by
    rw [run_store P w _ x .plain hx, hy]; simp [hz]
  simp [Instr.storeAt, Instr.sureAddr, storeVar, sizeOf, typeInfo, hf, hs, hxc, storeCells, add_none, hst]

theorem store_ok0 (hr : Rel c) {t : TypeId} {f : TypeInfo} (hf : P.info? t = some f) (hs : f.size = 1) {p v : V} {κ : List E → R} {vp x : Value}
    (hfl : v.flat = true) (hne : ∀ id off n i, p ≠ .elt id off n i) (h : storeC p v c.h κ = some r) (hp : VR c p vp) (hv : VR c v x) :
    ∃ c', κ c'.h = some r ∧ Ext c c' ∧ Rel c' ∧ (Instr.storeAt t vp x).run P c.w = .ok () c'.w := by
  obtain ⟨hv0, hone, hcells⟩ := flat_one hr hfl hv
  unfold storeC at h
  split at h
  · exact absurd rfl (hne _ _ _ _)
  · rename_i id off
    obtain ⟨hid, g, hbg, rfl⟩ := (show VR0 c (.ptr id off) vp from hp)
    split at h
    · rename_i l hl
      obtain ⟨h1, h2⟩ := bif_some h
      have h1' : off < l.len := of_decide_eq_true h1
      split at h2
      · rename_i l' hl'
        obtain ⟨hlen, a, hat, hset⟩ := L.set_ok hl'
        obtain ⟨haR, _⟩ := atom_of_vr hat hv
        have he := hr.ent id hid
        rw [hl] at he
        obtain ⟨e, xs, ho, ha⟩ := he
        have ho0 := ho
        obtain ⟨a0, cap, hvv, hn, hm, hx, h0⟩ := own_cells ho
        rcases h0 with h0 | ⟨g', rfl, hb', hc⟩
        · omega
        · rw [hb'] at hbg; cases hbg
          rw [hvv] at ho
          obtain ⟨hs1, hs2⟩ := ho.stored off x
          have hal : (getE c.h id).alive = true := by rw [hl]; rfl
          have hg : c.w.grownBy (c.w.setCell ⟨g, off, none⟩ x) (blk (c.hv id)) := by rw [hb']; exact hs2
          have hsame : sameE (getE c.h id) (.row l') = true := by rw [hl]; simp [sameE, hlen]
          have hE := Cx.ext_upd hid hal hsame hg
          refine ⟨c.upd id (.row l') (c.w.setCell ⟨g, off, none⟩ x), h2, hE, Cx.rel_upd hr hid hal hsame hg ?_, ?_⟩
          · refine ⟨e, xs.set off x, ?_, fun j hj => ?_⟩
            · show (c.w.setCell ⟨g, off, none⟩ x).ownsRow 0 e 1 (c.hv id) l'.len (xs.set off x)
              rw [hvv, hlen]; exact hs1
            · have hj' : j < l.len := by omega
              rw [hset j hj']
              by_cases hjo : j = off
              · subst hjo
                exact ⟨x, by simp [hx, hj'], by rw [if_pos rfl]; exact hE.atom haR⟩
              · obtain ⟨y, hy, hya⟩ := ha j hj'
                have : ¬ off = j := fun e => hjo e.symm
                exact ⟨y, by simp [this, hy], by rw [if_neg hjo]; exact hE.atom hya⟩
          · have hcell : c.w.cell? ⟨g, off, none⟩ = xs[off]? := by
              rcases hc off with h | h
              · exact h
              · omega
            obtain ⟨y, hy, _⟩ := ha off h1'
            exact run_storeAt hf hs hone hcells (hcell.trans hy) (by rw [hvv] at ho0; exact ho0.frozenAt off)
      · cases h2
    · rename_i vs hl
      have key : ∀ (hh : (bif decide (off < vs.length) then κ (c.h.set id (.cells (vs.set off v))) else none) = some r),
          ∃ c', κ c'.h = some r ∧ Ext c c' ∧ Rel c' ∧ (Instr.storeAt t (.pointer (some ⟨g, off, none⟩)) x).run P c.w = .ok () c'.w := by
        intro hh
        obtain ⟨h1, h2⟩ := bif_some hh
        have h1' : off < vs.length := of_decide_eq_true h1
        have he := hr.ent id hid
        rw [hl] at he
        obtain ⟨b, e, cs, hvv, hgc, hsz, ha⟩ := he
        rw [hvv] at hbg; simp [blk] at hbg; subst hbg
        have hal : (getE c.h id).alive = true := by rw [hl]; rfl
        have hset := heap_setCell_same c.w b off cs e x hgc
        have hg : c.w.grownBy (c.w.setCell ⟨b, off, none⟩ x) (blk (c.hv id)) := by
          rw [hvv]
          exact ⟨rfl, rfl, rfl, by simp, fun k _ hk => heap_setCell_other c.w ⟨b, off, none⟩ k x (fun e => hk (by simp [blk, e]))⟩
        have hsame : sameE (getE c.h id) (.cells (vs.set off v)) = true := by rw [hl]; simp [sameE]
        have hE := Cx.ext_upd hid hal hsame hg
        refine ⟨c.upd id (.cells (vs.set off v)) (c.w.setCell ⟨b, off, none⟩ x), h2, hE, Cx.rel_upd hr hid hal hsame hg ?_, ?_⟩
        · refine ⟨b, e, cs.setIfInBounds off x, hvv, hset, by simpa using hsz, fun j hj => ?_⟩
          have hj' : j < vs.length := by simpa using hj
          by_cases hjo : j = off
          · subst hjo
            have hlt : j < cs.size := by omega
            refine ⟨x, by simp [hlt], ?_⟩
            have : (vs.set j v).getD j .junk = v := by simp [List.getD, hj']
            rw [this]; exact hE.vr0 hv0
          · obtain ⟨y, hy, hya⟩ := ha j hj'
            have h3 : ¬ off = j := fun e => hjo e.symm
            refine ⟨y, by simp [Array.getElem?_setIfInBounds_ne h3, hy], ?_⟩
            have : (vs.set off v).getD j .junk = vs.getD j .junk := by simp [List.getD, h3]
            rw [this]; exact hE.vr0 hya
        · obtain ⟨y, hy, _⟩ := ha off h1'
          exact run_storeAt hf hs hone hcells (by rw [cell_of_row c.w b off cs e (0, 0) hgc]; exact hy) (frozen_of_row c.w b off cs e hgc)
      cases v <;> first | (simp [V.flat] at hfl; done) | exact key h
    · cases h
    · cases h
  · cases h

theorem store_ok (hr : Rel c) {t : TypeId} {f : TypeInfo} (hf : P.info? t = some f) (hs : f.size = 1) {p v : V} {κ : List E → R} {vp x : Value}
    (hfl : v.flat = true) (h : storeC p v c.h κ = some r) (hp : VR c p vp) (hv : VR c v x) :
    ∃ c', κ c'.h = some r ∧ Ext c c' ∧ Rel c' ∧ (Instr.storeAt t vp x).run P c.w = .ok () c'.w := by
  cases p with
  | elt id off n i =>
    obtain ⟨a, b⟩ := elt_ptr hp
    exact store_ok0 hr hf hs (p := .ptr id (off + i.toNat)) hfl (fun _ _ _ _ e => by cases e) (storeC_elt a h) b hv
  | _ => exact store_ok0 hr hf hs hfl (fun _ _ _ _ e => by cases e) h hp hv
/-- A new row. -/
theorem push_row (hr : Rel c) {l : L} {e : TypeId} {xs : List Value} {x : Value} {w' : World} (hg : c.w.grownBy w' none) (ho : w'.ownsRow 0 e 1 x l.len xs)
    (hx : ∀ b, blk x = some b → c.w.heap.size ≤ b) (ha : ∀ c', Ext c c' → ∀ j, j < l.len → ∃ y, xs[j]? = some y ∧ AtomR c' (l.at_ j) y) :
    Ext c (c.push (.row l) x w') ∧ Rel (c.push (.row l) x w') ∧ VR (c.push (.row l) x w') (.own c.h.length) x := by
  have hh : Handle x := by
    obtain ⟨a, cap, rfl, _⟩ := own_cells ho
    exact .inl ⟨_, _, _, rfl⟩
  have hlt : ∀ b, blk x = some b → b < w'.heap.size := fun b hb => by
    rcases ho.2 with ⟨rfl, _⟩ | ⟨g, cap, cur, rfl, _, hgc, _⟩
    · simp [blk] at hb
    · simp [blk] at hb; subst hb; exact (Array.getElem?_eq_some_iff.1 hgc).1
  have hE := Cx.ext_push hr (.row l) x hg hx
  refine ⟨hE, Cx.rel_push hr hh hg (fun b hb => ⟨hx b hb, hlt b hb⟩) ⟨e, xs, by rw [Cx.push_new]; exact ho, ha _ hE⟩, ?_, ?_⟩
  · simp [Cx.push]
  · rw [Cx.push_new]

theorem eli_rep {n j : Nat} (hj : j < n) : eli (List.replicate n 0) j = 0 := by simp [eli, List.getD, hj]
theorem elb_rep {n j : Nat} (hj : j < n) : elb (List.replicate n false) j = false := by simp [elb, List.getD, hj]
theorem els_rep {n j : Nat} (hj : j < n) : els (List.replicate n .empty) j = .empty := by simp [els, List.getD, hj]

theorem elr_rep {n j : Nat} (hj : j < n) : elr (List.replicate n []) j = [] := by simp [elr, List.getD, hj]
theorem zero_ok {d : TypeDesc} {z : Value} {n : Nat} {l : L} (hz : zeroFits d z = true) (h : zeroRow d n = some l) : l.len = n ∧ z.cells = #[z] ∧ ∀ c' j, j < n → AtomR c' (l.at_ j) z := by
  cases d <;> cases z <;> simp [zeroFits] at hz <;> simp [zeroRow] at h
  · obtain rfl := h; subst hz
    exact ⟨by simp [L.len], rfl, fun c' j hj => by simp [L.at_, AtomR, elb_rep hj]⟩
  · obtain rfl := h; obtain ⟨rfl, rfl⟩ := hz
    exact ⟨by simp [L.len], rfl, fun c' j hj => by simp [L.at_, AtomR, eli_rep hj]⟩
  · obtain rfl := h; subst hz
    exact ⟨by simp [L.len], rfl, fun c' j hj => by simp [L.at_, AtomR, els_rep hj]⟩
  · rename_i e a len cap
    obtain rfl := h
    obtain ⟨rfl, rfl, rfl⟩ : a = none ∧ len = 0 ∧ cap = 0 := by
      cases a <;> cases len <;> cases cap <;> simp [zeroFits] at hz ⊢
    exact ⟨by simp [L.len], rfl, fun c' j hj => by simp only [L.at_, AtomR, elr_rep hj]; exact ⟨none, 0, rfl, Nat.le_refl _, .inl rfl⟩⟩

theorem make_ok (hr : Rel c) {t e : TypeId} {f : TypeInfo} {z : Value} (ht : P.underlying t = some (.slice e)) (hi : P.info? e = some f) (hs : f.size = 1) (hb : f.bytes ≤ 64) (hz : f.zero = some z)
    {d : TypeDesc} (hzf : zeroFits d z = true) {n : Nat} {l : L} (hl : zeroRow d n = some l) (hn : n ≤ 1099511627776) {kl kc : IntKind} :
    ∃ c' x, c'.h = c.h ++ [.row l] ∧ Ext c c' ∧ Rel c' ∧ VR c' (.own c.h.length) x ∧ (Instr.makeSlice t (.int kl (n : Int)) (.int kc (n : Int))).run P c.w = .ok x c'.w := by
  obtain ⟨h1, h2, h3⟩ := zero_ok hzf hl
  have hbn : f.bytes * n ≤ 281474976710656 := by
    have := Nat.mul_le_mul hb hn
    omega
  obtain ⟨w', hrun, ho, hg⟩ := run_make_full (P := P) c.w 0 t e f z 1 ht hi hz hs kl kc n hbn (by unfold maxLen; omega) (Nat.zero_le _)
  rw [h2, Nat.mul_one, toList_madeCells_one] at ho
  obtain ⟨hE, hR, hV⟩ := push_row hr (l := l) hg (by rw [h1]; exact ho) (fun b hb => by simp [blk] at hb; omega) (fun c' _ j hj => ⟨z, by rw [h1] at hj; simp [hj], h3 c' j (by omega)⟩)
  exact ⟨_, _, rfl, hE, hR, hV, hrun⟩

theorem run_append_room2 (t ty e e2 : TypeId) (i : TypeInfo) (ht : P.underlying t = some (.slice e)) (hi : P.info? e = some i) (hsize : i.size = 1) {w : World}
    (g n cap : Nat) (cur : Array Value) (hg : w.heap[g]? = some (.cells cur e2 (0, 0))) (a : Option Addr) (m c : Nat) (news : List Value) (hl : news.length = m)
    (hf : (Builtin.firstCells 1 m (.slice a m c)).run P w = .ok news.toArray w) (h1 : ∀ u ∈ news, u.oneCell' = true) (hroom : n + m ≤ cap) (hfit : n + m ≤ cur.size) :
    (Builtin.append_ #[t, t] ty #[.slice (some ⟨g, 0, none⟩) n cap, .slice a m c]).run P w =
      .ok (.slice (some ⟨g, 0, none⟩) (n + m) cap) (w.setRow g (cur.toList.take n ++ news ++ cur.toList.drop (n + m)).toArray) := by
  have hst := run_storeCells_at P g n e2 news 0 cur w hg (by omega) h1
  simp only [Nat.add_zero, hl] at hst
  simp [Builtin.append_, run_underlying ht, sizeOf, typeInfo, hi, hsize, Builtin.lenOf, hroom, hf, add_none, hst]

/-- append to a row of one's own. -/
theorem run_append_any (t ty e e2 : TypeId) (i : TypeInfo) (z : Value) (ht : P.underlying t = some (.slice e)) (hi : P.info? e = some i) (hz : i.zero = some z)
    (hsize : i.size = 1) (hby : i.bytes ≤ 64) (hzs : z.cells.size = 1) {w : World}
    {v : Value} {n : Nat} {xs : List Value} (hown : w.ownsRow 0 e2 1 v n xs)
    (a : Option Addr) (m c : Nat) (news : List Value) (hl : news.length = m) (hnews : m = 0 ∨ ∃ b, a = some b ∧ ∀ j u, news[j]? = some u → w.cell? (b.add j) = some u) (h1 : ∀ u ∈ news, u.oneCell' = true)
    (hsm : n + m ≤ 1099511627776) :
    ∃ v' w' e3, (Builtin.append_ #[t, t] ty #[v, .slice a m c]).run P w = .ok v' w' ∧ w'.ownsRow 0 e3 1 v' (n + m) (xs ++ news) ∧ w.grownBy w' (blk v) ∧
      (∀ b, blk v' = some b → blk v = some b ∨ w.heap.size ≤ b) ∧ (v = .slice none 0 0 → m = 0 → v' = .slice none 0 0) := by
  have hx : xs.length = n := by have := hown.1; omega
  have hfirst : (Builtin.firstCells 1 m (.slice a m c)).run P w = .ok news.toArray w := by
    rcases hnews with h0 | ⟨b, rfl, hn⟩
    · subst h0
      have : news = [] := List.eq_nil_of_length_eq_zero hl
      subst this
      cases a <;> simp [Builtin.firstCells, loadCells, loadCellsFrom]
    · exact run_firstCells_some (P := P) w 1 m b m c news (by omega) hn
  have hbyt : (n + m) * i.bytes ≤ 140737488355328 := by
    have := Nat.mul_le_mul hsm hby
    omega
  have hlen : (xs ++ news).length = (n + m) * 1 := by simp [hx, hl]
  have grown : ∀ old,
      (w.drew.alloc (.cells (xs.toArray ++ news.toArray ++ Builtin.zeroCells z.cells (grownCap w (n + m) old e - (n + m))) e)).ownsRow 0 e 1
        (.slice (some ⟨w.heap.size, 0, none⟩) (n + m) (grownCap w (n + m) old e)) (n + m) (xs ++ news) ∧
      ∀ row, w.grownBy (w.drew.alloc (.cells (xs.toArray ++ news.toArray ++ Builtin.zeroCells z.cells (grownCap w (n + m) old e - (n + m))) e)) row := by
    intro old
    have hge := grownCap_ge w (n + m) old e
    refine ⟨⟨hlen, .inr ⟨w.heap.size, _, _, rfl, Nat.zero_le _, heap_alloc_new w.drew _, hge, grownCap_le_maxLen w (n + m) old e (by unfold maxLen; omega), ?_, ?_⟩⟩,
      fun row => ⟨rfl, rfl, rfl, by simp, fun k hk _ => Below.heap_alloc w.drew _ k hk⟩⟩
    · simp only [Array.size_append, List.size_toArray, size_zeroCells, hzs, hx, hl]; omega
    · simp only [Array.toList_append, List.append_assoc, Nat.mul_one]
      rw [← List.append_assoc, show n + m = (xs ++ news).length by simp [hx, hl]]
      exact List.take_left
  rcases hown.2 with ⟨rfl, rfl⟩ | ⟨g, cap, cur, rfl, hbg, hg, hnc, hcm, hcs, htake⟩
  · have hxs : xs = [] := List.eq_nil_of_length_eq_zero hx
    subst hxs
    by_cases hm : m = 0
    · subst hm
      have hn : news = [] := List.eq_nil_of_length_eq_zero hl
      subst hn
      refine ⟨.slice none 0 0, w, e2, ?_, World.ownsRow_nil w 0 e2 1, grown_self _ _, fun b hb => by simp [blk] at hb, fun _ _ => rfl⟩
      simp [Builtin.append_, run_underlying ht, sizeOf, typeInfo, hi, hsize, Builtin.lenOf, hfirst]
    · rcases hnews with h0 | ⟨b, rfl, hn⟩
      · exact absurd h0 hm
      · have hr := run_append_nil (P := P) w t ty e i z ht hi hz b m c news (by rw [hsize]; omega) hn (by omega) (by omega) (by have hb := hbyt; simp only [Nat.zero_add] at hb; omega)
        have hgr := grown 0
        rw [show ([] : List Value).toArray = #[] from rfl, Array.empty_append] at hgr
        simp only [Nat.zero_add, List.nil_append] at hgr ⊢
        exact ⟨_, _, e, hr, hgr.1, hgr.2 _, fun b hb => .inr (by simp [blk] at hb; omega), fun _ h => absurd h hm⟩
  · by_cases hroom : n + m ≤ cap
    · have hfit : n + m ≤ cur.size := by omega
      have hr := run_append_room2 (P := P) t ty e e2 i ht hi hsize g n cap cur hg a m c news hl hfirst h1 hroom hfit
      refine ⟨_, _, e2, hr, ⟨hlen, .inr ⟨g, cap, _, rfl, hbg, setRow_heap w g cur _ e2 _ hg, hroom, hcm, ?_, ?_⟩⟩, ⟨rfl, rfl, rfl, by simp, fun k _ hk => setRow_other w g k _ (fun e => hk (by simp [blk, e]))⟩, fun b hb => .inl hb, fun h => by cases h⟩
      · simp only [List.size_toArray, List.length_append, List.length_take, List.length_drop, Array.length_toList]
        omega
      · have ht2 : List.take n cur.toList = xs := by simpa using htake
        rw [ht2, Nat.mul_one, show n + m = (xs ++ news).length by simp [hx, hl]]
        exact List.take_left
    · rcases hnews with h0 | ⟨b, rfl, hn⟩
      · omega
      · have holds : ∀ j u, xs[j]? = some u → w.cell? ((⟨g, 0, none⟩ : Addr).add j) = some u := hown.cells (g := g) rfl
        have hr := run_append_grow (P := P) w t ty e i z ht hi hz ⟨g, 0, none⟩ n cap xs (by rw [hsize]; omega) holds b m c news (by rw [hsize]; omega) hn (by omega) (by omega) (growslice_fits (by omega) hbyt)
        exact ⟨_, _, e, hr, (grown cap).1, (grown cap).2 _, fun b hb => .inr (by simp [blk] at hb; omega), fun h => by cases h⟩

theorem atom_one {c : Cx} {a : Atom} {y : Value} (h : AtomR c a y) : y.oneCell' = true := by
  cases a with
  | row xs => obtain ⟨a, cap, rfl, _⟩ := h; rfl
  | _ => have e := h; simp only [AtomR] at e; subst e; rfl

/-- The cells of a list that is seen. -/
theorem seen_list {c : Cx} {l : L} {v : Value} (h : Seen c l v) : ∃ (a : Option Addr) (cap : Nat) (news : List Value), v = .slice a l.len cap ∧ news.length = l.len ∧
    (l.len = 0 ∨ ∃ b, a = some b ∧ ∀ j u, news[j]? = some u → c.w.cell? (b.add j) = some u) ∧ (∀ j, j < l.len → ∃ y, news[j]? = some y ∧ AtomR c (l.at_ j) y) ∧ ∀ u ∈ news, u.oneCell' = true := by
  obtain ⟨a, cap, rfl, hc, h0⟩ := h
  rcases h0 with h0 | ⟨b, off, rfl, hcell⟩
  · exact ⟨a, cap, [], rfl, by simp [h0], .inl h0, fun j hj => by omega, by simp⟩
  · refine ⟨_, cap, (List.range l.len).map fun j => (c.w.cell? ⟨b, off + j, none⟩).getD undef, rfl, by simp, .inr ⟨_, rfl, fun j u hu => ?_⟩, fun j hj => ?_, fun u hu => ?_⟩
    · have hj : j < l.len := by
        rcases Nat.lt_or_ge j l.len with h | h
        · exact h
        · simp [List.getElem?_eq_none, h] at hu
      obtain ⟨y, hy, _⟩ := hcell j hj
      rw [add_none]
      simp [hj, hy] at hu
      rw [hy, hu]
    · obtain ⟨y, hy, hya⟩ := hcell j hj
      exact ⟨y, by simp [hj, hy], hya⟩
    · simp only [List.mem_map, List.mem_range] at hu
      obtain ⟨j, hj, rfl⟩ := hu
      obtain ⟨y, hy, hya⟩ := hcell j hj
      rw [hy]; exact atom_one hya

theorem app_ok (hr : Rel c) {t e ty : TypeId} {i : TypeInfo} {z : Value} (ht : P.underlying t = some (.slice e)) (hi : P.info? e = some i) (hz : i.zero = some z)
    (hsize : i.size = 1) (hby : i.bytes ≤ 64) (hzs : z.cells.size = 1) {s x : V} {κ : V → List E → R} {vs vx : Value} (h : appC s x c.h κ = some r) (hs : VR c s vs) (hx : VR c x vx) :
    ∃ v c' y, κ v c'.h = some r ∧ Ext c c' ∧ Rel c' ∧ VR c' v y ∧ (Builtin.append_ #[t, t] ty #[vs, vx]).run P c.w = .ok y c'.w := by
  unfold appC at h
  split at h
  · rename_i id
    obtain ⟨hid, rfl⟩ := (show id < c.h.length ∧ vs = c.hv id from hs)
    split at h
    · rename_i l m hl hm
      split at h
      · rename_i q hq
        obtain ⟨h1, h2⟩ := bif_some h
        have hq1 := L.app_len hq
        have hsm : l.len + m.len ≤ 1099511627776 := by have := of_decide_eq_true h1; omega
        obtain ⟨a, cap, news, rfl, hnl, hna, hnx, hn1⟩ := seen_list (list_ok hr hm hx)
        have he := hr.ent id hid
        rw [hl] at he
        obtain ⟨e2, xs, ho, ha⟩ := he
        have hxl : xs.length = l.len := by have := ho.1; omega
        have hal : (getE c.h id).alive = true := by rw [hl]; rfl
        obtain ⟨v', w', e3, hrun, ho', hg, hb, hnil⟩ := run_append_any (P := P) t ty e e2 i z ht hi hz hsize hby hzs ho a m.len cap news hnl hna hn1 hsm
        have hlt : ∀ b, blk v' = some b → b < w'.heap.size := fun b hb => by
          rcases ho'.2 with ⟨rfl, _⟩ | ⟨g, cap, cur, rfl, _, hgc, _⟩
          · simp [blk] at hb
          · simp [blk] at hb; subst hb; exact (Array.getElem?_eq_some_iff.1 hgc).1
        have hh : Handle v' := by
          obtain ⟨a, cap, rfl, _⟩ := own_cells ho'
          exact .inl ⟨_, _, _, rfl⟩
        have hE := Cx.ext_grow (e := .row q) (x := v') hid hal hg hb
        refine ⟨_, c.grow id (.row q) v' w', v', h2, hE, Cx.rel_grow hr hh hid hal hg (fun b hbb => ⟨hb b hbb, hlt b hbb⟩) ?_, ?_, hrun⟩
        · refine ⟨e3, xs ++ news, ?_, fun j hj => ?_⟩
          · have : (c.grow id (.row q) v' w').hv c.h.length = v' := by simp [Cx.grow]
            rw [this, hq1]; exact ho'
          · rw [L.app_at hq]
            by_cases hj' : j < l.len
            · obtain ⟨y, hy, hya⟩ := ha j hj'
              exact ⟨y, by rw [List.getElem?_append_left (by omega)]; exact hy, by rw [if_pos hj']; exact hE.atom hya⟩
            · obtain ⟨y, hy, hya⟩ := hnx (j - l.len) (by omega)
              exact ⟨y, by rw [List.getElem?_append_right (by omega), hxl]; exact hy, by rw [if_neg hj']; exact hE.atom hya⟩
        · show (c.h.length < (c.h.set id .dead ++ [E.row q]).length ∧ v' = (c.grow id (.row q) v' w').hv c.h.length)
          exact ⟨by simp, by simp [Cx.grow]⟩
      · cases h
    · cases h
  · have hvs : vs = .slice none 0 0 := hs
    subst hvs
    split at h
    · rename_i m hm
      obtain ⟨a, cap, news, rfl, hnl, hna, hnx, hn1⟩ := seen_list (list_ok hr hm hx)
      cases hm0 : (m.len == 0) with
      | true =>
        rw [hm0, cond_true] at h
        have hm0' : m.len = 0 := by simpa using hm0
        obtain ⟨v', w', e3, hrun, ho', hg, hb, hnil⟩ := run_append_any (P := P) t ty e e i z ht hi hz hsize hby hzs (World.ownsRow_nil c.w 0 e 1) a m.len cap news hnl hna hn1 (by omega)
        have hv' := hnil rfl hm0'
        subst hv'
        have hw : w' = c.w := by
          have hfirst : (Builtin.firstCells 1 m.len (.slice a m.len cap)).run P c.w = .ok news.toArray c.w := by
            have : news = [] := List.eq_nil_of_length_eq_zero (by omega)
            subst this
            rw [hm0']
            cases a <;> simp [Builtin.firstCells, loadCells, loadCellsFrom]
          have h2 : (Builtin.append_ #[t, t] ty #[.slice none 0 0, .slice a m.len cap]).run P c.w = .ok (.slice none 0 0) c.w := by
            simp [Builtin.append_, run_underlying ht, sizeOf, typeInfo, hi, hsize, Builtin.lenOf, hfirst, hm0']
            rw [hm0'] at hfirst
            simp [hfirst]
          rw [h2] at hrun; cases hrun; rfl
        subst hw
        exact ⟨.nil, c, _, h, Ext.refl c, hr, rfl, hrun⟩
      | false =>
        rw [hm0, cond_false] at h
        obtain ⟨h1, h2⟩ := bif_some h
        have hsm : 0 + m.len ≤ 1099511627776 := by have := of_decide_eq_true h1; omega
        obtain ⟨v', w', e3, hrun, ho', hg, hb, hnil⟩ := run_append_any (P := P) t ty e e i z ht hi hz hsize hby hzs (World.ownsRow_nil c.w 0 e 1) a m.len cap news hnl hna hn1 hsm
        rw [Nat.zero_add, List.nil_append] at ho'
        obtain ⟨hE, hR, hV⟩ := push_row hr (l := m) (x := v') hg ho' (fun b hbb => (hb b hbb).elim (fun h => by simp [blk] at h) id) (fun c' hE j hj => by
          obtain ⟨y, hy, hya⟩ := hnx j hj
          exact ⟨y, hy, hE.atom hya⟩)
        exact ⟨_, _, v', h2, hE, hR, hV, hrun⟩
    · cases h
  · rename_i id n
    obtain ⟨hid, ad, cap0, rfl, hn, _, hle, hzz⟩ := (show VR0 c (.sub id 0 n) vs from hs)
    obtain ⟨⟨L0, hv⟩, hsh⟩ := hzz rfl
    split at h
    · rename_i l m hl hm
      split at h
      · rename_i q hq
        obtain ⟨h1, h2⟩ := bif_some h
        have hnl := hle l hl
        have hcl : (l.cut 0 n).len = n := L.cut_len (by omega)
        have hq1 := L.app_len hq
        rw [hcl] at hq1
        have hsm : n + m.len ≤ 1099511627776 := by have := of_decide_eq_true h1; omega
        obtain ⟨a, cap, news, rfl, hnl2, hna, hnx, hn1⟩ := seen_list (list_ok hr hm hx)
        have he := hr.ent id hid
        rw [hl] at he
        obtain ⟨e2, xs, ho, ha⟩ := he
        have hxl : xs.length = l.len := by have := ho.1; omega
        have hal : (getE c.h id).alive = true := by rw [hl]; rfl
        have ho2 : c.w.ownsRow 0 e2 1 (.slice ad n cap0) n (xs.take n) := by
          refine ⟨by rw [List.length_take]; omega, ?_⟩
          rcases ho.2 with ⟨h0, hz0⟩ | ⟨g, cap', cur, h0, b1, b2, b3, b4, b5, b6⟩
          · rw [hv] at h0
            injection h0 with e1 e3 e4
            subst e1; subst e4
            have : n = 0 := by omega
            subst this
            exact .inl ⟨rfl, rfl⟩
          · rw [hv] at h0
            injection h0 with e1 e3 e4
            subst e1; subst e4
            refine .inr ⟨g, cap0, cur, rfl, b1, b2, hn, b4, b5, ?_⟩
            rw [← b6, List.take_take]
            congr 1; omega
        have hbv : blk (.slice ad n cap0) = blk (c.hv id) := by rw [hv]; cases ad <;> rfl
        obtain ⟨v', w', e3, hrun, ho', hg, hb, hnil⟩ := run_append_any (P := P) t ty e e2 i z ht hi hz hsize hby hzs ho2 a m.len cap news hnl2 hna hn1 hsm
        rw [hbv] at hg hb
        have hlt : ∀ b, blk v' = some b → b < w'.heap.size := fun b hb => by
          rcases ho'.2 with ⟨rfl, _⟩ | ⟨g, cap, cur, rfl, _, hgc, _⟩
          · simp [blk] at hb
          · simp [blk] at hb; subst hb; exact (Array.getElem?_eq_some_iff.1 hgc).1
        have hh : Handle v' := by
          obtain ⟨a, cap, rfl, _⟩ := own_cells ho'
          exact .inl ⟨_, _, _, rfl⟩
        have hE := Cx.ext_grow (e := .row q) (x := v') hid hal hg hb
        refine ⟨_, c.grow id (.row q) v' w', v', h2, hE, Cx.rel_grow hr hh hid hal hg (fun b hbb => ⟨hb b hbb, hlt b hbb⟩) ?_, ?_, hrun⟩
        · refine ⟨e3, xs.take n ++ news, ?_, fun j hj => ?_⟩
          · have : (c.grow id (.row q) v' w').hv c.h.length = v' := by simp [Cx.grow]
            rw [this, hq1]; exact ho'
          · rw [L.app_at hq, hcl]
            by_cases hj' : j < n
            · obtain ⟨y, hy, hya⟩ := ha j (by omega)
              refine ⟨y, ?_, ?_⟩
              · rw [List.getElem?_append_left (by rw [List.length_take]; omega), List.getElem?_take, if_pos hj']; exact hy
              · rw [if_pos hj', L.cut_at (by omega) hj', Nat.zero_add]; exact hE.atom hya
            · obtain ⟨y, hy, hya⟩ := hnx (j - n) (by omega)
              refine ⟨y, ?_, by rw [if_neg hj']; exact hE.atom hya⟩
              rw [List.getElem?_append_right (by rw [List.length_take]; omega), List.length_take, Nat.min_eq_left (by omega)]; exact hy
        · show (c.h.length < (c.h.set id .dead ++ [E.row q]).length ∧ v' = (c.grow id (.row q) v' w').hv c.h.length)
          exact ⟨by simp, by simp [Cx.grow]⟩
      · cases h
    · cases h
  · cases h
end

end Go.Proofs.Ytgpgifpblchjjaa.D
/- Slices of slices, literals, boxes. Conditions: those of each theorem. -/
namespace Go.Proofs.Ytgpgifpblchjjaa.D
open Go.RowKit
set_option linter.unusedVariables false
set_option linter.unusedSimpArgs false

section
variable {P : Program} {c : Cx} {r : V × List E}

/-- Two options that belong together. -/
def OptR (c : Cx) : Option V → Option Value → Prop
  | none, none => True
  | some v, some x => VR c v x
  | _, _ => False

theorem run_bound {k : IntKind} {i : Int} {y : Nat} {code : BoundsCode} {w : World} (h0 : 0 ≤ i) (h1 : i ≤ y) : (Instr.sliceBound (.int k i) y code).run P w = .ok i.toNat w := by
  simp [Instr.sliceBound, asIntOf, h0, h1]

theorem cut_ok {lo hi : Option V} {vlo vhi : Option Value} (hlo : OptR c lo vlo) (hhi : OptR c hi vhi) {n cap : Nat} (hc : n ≤ cap) {κ : Nat → Nat → R} (h : cutC lo hi n κ = some r) :
    ∃ a m, κ a m = some r ∧ a + m ≤ n ∧ (Instr.sliceBounds true n cap vlo vhi none).run P c.w = .ok (a, a + m, cap) c.w ∧ (lo = none → hi = none → a = 0 ∧ m = n) := by
  unfold cutC at h
  split at h
  · cases vlo <;> cases vhi <;> first | exact absurd hlo id | exact absurd hhi id | skip
    exact ⟨0, n, h, by omega, by simp [Instr.sliceBounds], fun _ _ => ⟨rfl, rfl⟩⟩
  · rename_i k a
    cases vlo with
    | none => exact absurd hlo id
    | some x =>
      cases vhi with
      | some y => exact absurd hhi id
      | none =>
        have := vr_int (c := c) hlo; subst this
        obtain ⟨h1, h2⟩ := bif_some h
        simp only [cutOk, Bool.and_eq_true, decide_eq_true_eq] at h1
        refine ⟨a.toNat, n - a.toNat, h2, by omega, ?_, fun h => by cases h⟩
        simp [Instr.sliceBounds, run_bound (P := P) (w := c.w) (k := k) (y := n) (code := BoundsCode.sliceB) h1.1.1 h1.1.2]
        omega
  · rename_i k b
    cases vhi with
    | none => exact absurd hhi id
    | some x =>
      cases vlo with
      | some y => exact absurd hlo id
      | none =>
        have := vr_int (c := c) hhi; subst this
        obtain ⟨h1, h2⟩ := bif_some h
        simp only [cutOk, Bool.and_eq_true, decide_eq_true_eq] at h1
        refine ⟨0, b.toNat, h2, by omega, ?_, fun _ h => by cases h⟩
        simp [Instr.sliceBounds, run_bound (P := P) (w := c.w) (k := k) (y := cap) (code := BoundsCode.sliceAcap) h1.1.2 (by omega)]
  · rename_i k a k' b
    cases vlo with
    | none => exact absurd hlo id
    | some x =>
      cases vhi with
      | none => exact absurd hhi id
      | some y =>
        have e1 := vr_int (c := c) hlo; subst e1
        have e2 := vr_int (c := c) hhi; subst e2
        obtain ⟨h1, h2⟩ := bif_some h
        simp only [cutOk, Bool.and_eq_true, decide_eq_true_eq] at h1
        refine ⟨a.toNat, b.toNat - a.toNat, h2, by omega, ?_, fun h => by cases h⟩
        have hb := run_bound (P := P) (w := c.w) (k := k') (y := cap) (code := BoundsCode.sliceAcap) (i := b) (by omega) (by omega)
        have ha := run_bound (P := P) (w := c.w) (k := k) (y := b.toNat) (code := BoundsCode.sliceB) (i := a) h1.1.1 (by omega)
        simp [Instr.sliceBounds, hb, ha]
        omega
  · cases h

theorem cut_okS {lo hi : Option V} {vlo vhi : Option Value} (hlo : OptR c lo vlo) (hhi : OptR c hi vhi) {n : Nat} {κ : Nat → Nat → R} (h : cutC lo hi n κ = some r) :
    ∃ a m, κ a m = some r ∧ a + m ≤ n ∧ (Instr.sliceBounds false n n vlo vhi none).run P c.w = .ok (a, a + m, n) c.w := by
  unfold cutC at h
  split at h
  · cases vlo <;> cases vhi <;> first | exact absurd hlo id | exact absurd hhi id | skip
    exact ⟨0, n, h, by omega, by simp [Instr.sliceBounds]⟩
  · rename_i k a
    cases vlo with
    | none => exact absurd hlo id
    | some x =>
      cases vhi with
      | some y => exact absurd hhi id
      | none =>
        have := vr_int (c := c) hlo; subst this
        obtain ⟨h1, h2⟩ := bif_some h
        simp only [cutOk, Bool.and_eq_true, decide_eq_true_eq] at h1
        refine ⟨a.toNat, n - a.toNat, h2, by omega, ?_⟩
        simp [Instr.sliceBounds, run_bound (P := P) (w := c.w) (k := k) (y := n) (code := BoundsCode.sliceB) h1.1.1 h1.1.2]
        omega
  · rename_i k b
    cases vhi with
    | none => exact absurd hhi id
    | some x =>
      cases vlo with
      | some y => exact absurd hlo id
      | none =>
        have := vr_int (c := c) hhi; subst this
        obtain ⟨h1, h2⟩ := bif_some h
        simp only [cutOk, Bool.and_eq_true, decide_eq_true_eq] at h1
        refine ⟨0, b.toNat, h2, by omega, ?_⟩
        simp [Instr.sliceBounds, run_bound (P := P) (w := c.w) (k := k) (y := n) (code := BoundsCode.sliceAlen) h1.1.2 (by omega)]
  · rename_i k a k' b
    cases vlo with
    | none => exact absurd hlo id
    | some x =>
      cases vhi with
      | none => exact absurd hhi id
      | some y =>
        have e1 := vr_int (c := c) hlo; subst e1
        have e2 := vr_int (c := c) hhi; subst e2
        obtain ⟨h1, h2⟩ := bif_some h
        simp only [cutOk, Bool.and_eq_true, decide_eq_true_eq] at h1
        refine ⟨a.toNat, b.toNat - a.toNat, h2, by omega, ?_⟩
        have hb := run_bound (P := P) (w := c.w) (k := k') (y := n) (code := BoundsCode.sliceAlen) (i := b) (by omega) (by omega)
        have ha := run_bound (P := P) (w := c.w) (k := k) (y := b.toNat) (code := BoundsCode.sliceB) (i := a) h1.1.1 (by omega)
        simp [Instr.sliceBounds, hb, ha]
        omega
  · cases h
theorem sliceStr_ok {t : TypeId} (ht : P.underlying t = some .string) {x : V} {vx : Value} {lo hi : Option V} {vlo vhi : Option Value} (hlo : OptR c lo vlo) (hhi : OptR c hi vhi) {κ : V → R}
    (h : sliceStrC x lo hi κ = some r) (hx : VR c x vx) : ∃ v z, κ v = some r ∧ VR c v z ∧ (Instr.sliceAt t vx vlo vhi none).run P c.w = .ok z c.w := by
  unfold sliceStrC at h
  split at h
  · rename_i s
    have ex := vr_str hx; subst ex
    obtain ⟨a, m, h1, h2, h3⟩ := cut_okS (P := P) hlo hhi h
    exact ⟨_, _, h1, rfl, by simp [Instr.sliceAt, Instr.slice, run_underlying ht, h3]⟩
  · cases h
theorem idxStr_ok {t : TypeId} (ht : P.underlying t = some .string) {x i : V} {vx vi : Value} {κ : V → R} (h : idxStrC x i κ = some r) (hx : VR c x vx) (hi : VR c i vi) :
    ∃ v z, κ v = some r ∧ VR c v z ∧ (Instr.index t vx vi).run P c.w = .ok z c.w := by
  unfold idxStrC at h
  split at h
  · rename_i s k i
    have ex := vr_str hx; subst ex
    have ei := vr_int hi; subst ei
    obtain ⟨h1, h2⟩ := bif_some h
    simp only [idxOk, Bool.and_eq_true, decide_eq_true_eq] at h1
    refine ⟨_, _, h2, rfl, ?_⟩
    have hlt : i.toNat < s.size := by omega
    have e : s[i.toNat]? = some s[i.toNat] := getElem?_pos s i.toNat hlt
    have e2 : strAt s i.toNat = (s[i.toNat].toNat : Int) := by
      have hlt2 : i.toNat < s.data.toList.length := by rw [Array.length_toList]; exact hlt
      unfold strAt
      rw [List.getD_eq_getElem?_getD, List.getElem?_eq_getElem hlt2]
      rfl
    rw [e2]
    simp only [Instr.index, asIntOf, Sem.run_bind, Sem.run_pure, Result.andThen_ok, run_underlying ht, if_pos h1.1, e]
  · cases h
theorem lenStr_ok {t ty : TypeId} (ht : P.underlying t = some .string) {x : V} {vx : Value} {κ : V → R} (h : lenStrC x κ = some r) (hx : VR c x vx) :
    ∃ v z, κ v = some r ∧ VR c v z ∧ (Builtin.len_ #[t] ty #[vx]).run P c.w = .ok z c.w := by
  unfold lenStrC at h
  split at h
  · have ex := vr_str hx; subst ex
    exact ⟨_, _, h, rfl, by simp [Builtin.len_, run_underlying ht, goInt]⟩
  · cases h
theorem toStr_ok (hr : Rel c) {s d e : TypeId} (hs : P.underlying s = some (.slice e)) (he : P.underlying e = some (.int .u8)) (hd : P.underlying d = some .string) {x : V} {vx : Value} {κ : V → R}
    (h : toStrC x c.h κ = some r) (hx : VR c x vx) : ∃ v z, κ v = some r ∧ VR c v z ∧ (convert s d vx).run P c.w = .ok z c.w := by
  unfold toStrC at h
  split at h
  · have ex : vx = .slice none 0 0 := hx
    subst ex
    exact ⟨_, _, h, rfl, run_convert_bytes_nil c.w s e hs he 0 0 d hd⟩
  · rename_i hx0
    split at h
    · rename_i xs hl
      obtain ⟨a, cap, rfl, hc, h0⟩ := list_ok hr hl hx
      refine ⟨_, .string (bytesOf xs), h, rfl, ?_⟩
      have hlen : (L.ints IntKind.u8 xs).len = xs.length := rfl
      rw [hlen] at h0 ⊢
      have empty : xs.length = 0 → (convert s d (.slice a xs.length cap)).run P c.w = .ok (.string (bytesOf xs)) c.w := fun hz => by
        have hxs : xs = [] := List.eq_nil_of_length_eq_zero hz
        subst hxs
        cases a with
        | none => exact run_convert_bytes_nil c.w s e hs he 0 cap d hd
        | some ad =>
          rw [run_convert_bytes_string c.w s d e _ _ _ hs he hd]
          exact run_bytesToString c.w ad 0 cap [] (by simp [loadCells, loadCellsFrom])
      rcases h0 with h0 | ⟨b, off, rfl, hcell⟩
      · exact empty h0
      · exact run_convert_bytes_arg c.w s e hs he b off xs.length cap xs rfl (fun j hj => by
          obtain ⟨y, hy, hya⟩ := hcell j hj
          have : y = .int .u8 (eli xs j) := hya
          rw [hy, this]; rfl) d hd
    · cases h

theorem run_sliceAt {t e : TypeId} {f : TypeInfo} (ht : P.underlying t = some (.slice e)) (hf : P.info? e = some f) (hs : f.size = 1) {w : World} {ad : Option Addr} {n cap a m : Nat} {vlo vhi : Option Value}
    (h : (Instr.sliceBounds true n cap vlo vhi none).run P w = .ok (a, a + m, cap) w) :
    (Instr.sliceAt t (.slice ad n cap) vlo vhi none).run P w = .ok (.slice (if cap = a then ad else ad.map (·.add a)) m (cap - a)) w := by
  simp [Instr.sliceAt, Instr.slice, run_underlying ht, h, sizeOf, typeInfo, hf, hs]

theorem slice_ok (hr : Rel c) {t e : TypeId} {f : TypeInfo} (ht : P.underlying t = some (.slice e)) (hf : P.info? e = some f) (hs : f.size = 1) {x : V} {vx : Value}
    {lo hi : Option V} {vlo vhi : Option Value} (hlo : OptR c lo vlo) (hhi : OptR c hi vhi) {κ : V → R} (h : sliceC x lo hi c.h κ = some r) (hx : VR c x vx) :
    ∃ v z, κ v = some r ∧ VR c v z ∧ (Instr.sliceAt t vx vlo vhi none).run P c.w = .ok z c.w := by
  unfold sliceC at h
  split at h
  · rename_i s l
    obtain ⟨ad, cap, rfl, hc, h0⟩ := (show RoR c s l vx from hx)
    obtain ⟨a, m, h1, h2, h3, _⟩ := cut_ok (P := P) hlo hhi hc h
    refine ⟨_, _, h1, ?_, run_sliceAt ht hf hs h3⟩
    refine ⟨_, _, by rw [L.cut_len h2], by rw [L.cut_len h2]; omega, ?_⟩
    rw [L.cut_len h2]
    rcases Nat.eq_zero_or_pos m with hm | hm
    · exact .inl hm
    · rcases h0 with h0 | ⟨b, off, rfl, hF, hU, hcell⟩
      · omega
      · refine .inr ⟨b, off + a, ?_, hF, hU, fun j hj => ?_⟩
        · have : ¬ cap = a := by omega
          simp [this, add_none]
        · obtain ⟨y, hy, hya⟩ := hcell (a + j) (by omega)
          rw [L.cut_at h2 hj]
          exact ⟨y, by rw [Nat.add_assoc]; exact hy, hya⟩
  · rename_i id
    obtain ⟨hid, rfl⟩ := (show id < c.h.length ∧ vx = c.hv id from hx)
    split at h
    · rename_i l hl
      obtain ⟨⟨ad, cap, hv, hc, _⟩, h0⟩ := seen_own hr hid hl
      split at h
      · -- the whole row
        have hlo' : vlo = none := by cases vlo <;> first | rfl | exact absurd hlo (fun h => h)
        have hhi' : vhi = none := by cases vhi <;> first | rfl | exact absurd hhi (fun h => h)
        subst hlo'; subst hhi'
        have h3 : (Instr.sliceBounds true l.len cap none none none).run P c.w = .ok (0, 0 + l.len, cap) c.w := by simp [Instr.sliceBounds]
        refine ⟨_, _, h, ?_, by rw [hv]; exact run_sliceAt ht hf hs h3⟩
        refine ⟨hid, ?_⟩
        rw [hv]
        cases ad with
        | none => simp
        | some ad => simp [Addr.add]
      · obtain ⟨a, m, h1, h2, h3, _⟩ := cut_ok (P := P) hlo hhi hc h
        rw [hv]
        refine ⟨_, _, h1, ⟨hid, _, _, rfl, by omega, ?_, fun l' hl' => ?_, fun ha0 => ?_⟩, run_sliceAt ht hf hs h3⟩
        rotate_left 2
        · subst ha0
          rcases own_shape hr hid hl hv with rfl | ⟨g, rfl⟩
          · exact ⟨⟨l.len, by rw [hv]; simp⟩, .inl (by simp)⟩
          · exact ⟨⟨l.len, by rw [hv]; simp [add_none]⟩, .inr ⟨g, by simp [add_none]⟩⟩
        · rcases Nat.eq_zero_or_pos m with hm | hm
          · exact .inl hm
          · rcases h0 with h0 | ⟨g, cap', hv'⟩
            · omega
            · rw [hv'] at hv
              have e1 : ad = some ⟨g, 0, none⟩ := by injection hv with e _ _; exact e.symm
              have e2 : cap' = cap := by injection hv
              subst e1; subst e2
              have : ¬ cap' = a := by omega
              exact .inr ⟨g, by rw [hv']; rfl, by simp [this, add_none]⟩
        · rw [hl] at hl'; cases hl'; exact h2
    · cases h
  · rename_i id o m0
    obtain ⟨hid, ad, cap, rfl, hn, hg, hle, hz⟩ := (show VR0 c (.sub id o m0) vx from hx)
    obtain ⟨a, m, h1, h2, h3, _⟩ := cut_ok (P := P) hlo hhi hn h
    refine ⟨_, _, h1, ⟨hid, _, _, rfl, by omega, ?_, fun l hl => by have := hle l hl; omega, fun ha0 => ?_⟩, run_sliceAt ht hf hs h3⟩
    rotate_left
    · obtain ⟨rfl, rfl⟩ : o = 0 ∧ a = 0 := by omega
      obtain ⟨⟨L, hv⟩, hsh⟩ := hz rfl
      rcases hsh with rfl | ⟨g, rfl⟩
      · exact ⟨⟨L, by rw [hv]; simp⟩, .inl (by simp)⟩
      · exact ⟨⟨L, by rw [hv]; simp [add_none]⟩, .inr ⟨g, by simp [add_none]⟩⟩
    rcases Nat.eq_zero_or_pos m with hm | hm
    · exact .inl hm
    · rcases hg with h0 | ⟨g, hbg, rfl⟩
      · omega
      · have : ¬ cap = a := by omega
        exact .inr ⟨g, hbg, by simp [this, add_none]⟩
  · cases h

/-- Parts in their order fill a row. -/
theorem fill_order {place : Nat → Option (Nat × Nat)} (hp : ∀ i, place i = some (i, 1)) : ∀ (rest : List (Nat × Value)) (k : Nat) (pre zs : List Value),
    (∀ j, j < rest.length → (rest.map (·.1))[j]? = some (k + j)) → pre.length = k → zs.length = rest.length → (∀ p ∈ rest, p.2.cells = #[p.2]) →
    Instr.fill place (pre ++ zs).toArray rest = some (pre ++ rest.map (·.2)).toArray := by
  intro rest
  induction rest with
  | nil =>
    intro k pre zs _ _ hz _
    have : zs = [] := List.eq_nil_of_length_eq_zero (by simpa using hz)
    subst this; simp [Instr.fill]
  | cons p rest ih =>
    intro k pre zs hk hpre hz hc
    obtain ⟨i, v⟩ := p
    have hi : i = k := by simpa using hk 0 (by simp)
    subst hi
    obtain ⟨z, zs, rfl⟩ : ∃ u us, zs = u :: us := by
      cases zs with
      | nil => simp at hz
      | cons u us => exact ⟨u, us, rfl⟩
    have hv : v.cells = #[v] := hc (i, v) (by simp)
    have hlt : ¬ ((pre ++ z :: zs).length < i + 1) := by simp; omega
    unfold Instr.fill
    simp only [hp, hv]
    have h1 : ((#[v] : Array Value).zipIdx.foldl (fun cs (x : Value × Nat) => cs.setIfInBounds (i + x.2) x.1) (pre ++ z :: zs).toArray) = (pre ++ v :: zs).toArray := by
      simp [hpre.symm]
    have h2 : ((#[v] : Array Value).size ≠ 1 || i + (#[v] : Array Value).size > (pre ++ z :: zs).toArray.size) = false := by
      simp; omega
    simp only [h2, Bool.false_eq_true, if_false]
    have h3 := ih (i + 1) (pre ++ [v]) zs (fun j hj => by have := hk (j + 1) (by simpa using hj); rw [show i + 1 + j = i + (j + 1) by omega]; simpa using this) (by simp [hpre]) (by simpa using hz) (fun p hp => hc p (by simp [hp]))
    simp only [List.append_assoc, List.singleton_append] at h3
    rw [← h1] at h3
    simpa using h3
end

end Go.Proofs.Ytgpgifpblchjjaa.D
/- Literals and boxes. Conditions: those of each theorem. -/
namespace Go.Proofs.Ytgpgifpblchjjaa.D
open Go.RowKit
set_option linter.unusedVariables false
set_option linter.unusedSimpArgs false

section
variable {P : Program} {c : Cx} {r : V × List E}

theorem all_getD {vs : List V} {p : V → Bool} (h : vs.all p = true) {j : Nat} (hj : j < vs.length) : p (vs.getD j .junk) = true := by
  rw [List.all_eq_true] at h
  have e : vs.getD j .junk = vs[j] := by simp [List.getD, hj]
  rw [e]; exact h _ (List.getElem_mem hj)

theorem rowOf_ok {d : TypeDesc} {vs : List V} {l : L} (h : rowOf d vs = some l) : l.len = vs.length ∧ ∀ j, j < vs.length → (vs.getD j .junk).atom = some (l.at_ j) := by
  unfold rowOf at h
  split at h
  · rename_i k
    split at h
    · rename_i hall
      cases h
      refine ⟨by simp [L.len], fun j hj => ?_⟩
      have hp := all_getD hall hj
      have e : vs.getD j .junk = vs[j] := by simp [List.getD, hj]
      rw [e] at hp ⊢
      simp only [L.at_, eli, List.getD, List.getElem?_map, List.getElem?_eq_getElem hj, Option.map_some, Option.getD_some]
      cases hv : vs[j] <;> rw [hv] at hp <;> simp at hp
      subst hp; rfl
    · cases h
  · split at h
    · rename_i hall
      cases h
      refine ⟨by simp [L.len], fun j hj => ?_⟩
      have hp := all_getD hall hj
      have e : vs.getD j .junk = vs[j] := by simp [List.getD, hj]
      rw [e] at hp ⊢
      simp only [L.at_, elb, List.getD, List.getElem?_map, List.getElem?_eq_getElem hj, Option.map_some, Option.getD_some]
      cases hv : vs[j] <;> rw [hv] at hp <;> simp at hp
      rfl
    · cases h
  · split at h
    · rename_i hall
      cases h
      refine ⟨by simp [L.len], fun j hj => ?_⟩
      have hp := all_getD hall hj
      have e : vs.getD j .junk = vs[j] := by simp [List.getD, hj]
      rw [e] at hp ⊢
      simp only [L.at_, els, List.getD, List.getElem?_map, List.getElem?_eq_getElem hj, Option.map_some, Option.getD_some]
      cases hv : vs[j] <;> rw [hv] at hp <;> simp at hp
      rfl
    · cases h
  · cases h

theorem ArgsR.ext {c c' : Cx} {vs : List V} {xs : List Value} (h : ArgsR c vs xs) (he : Ext c c') : ArgsR c' vs xs := ⟨h.1, fun j hj => he.vr (h.2 j hj)⟩
theorem ArgsR.tail {c : Cx} {v : V} {vs : List V} {xs : List Value} (h : ArgsR c (v :: vs) xs) : ∃ y ys, xs = y :: ys ∧ VR c v y ∧ ArgsR c vs ys := by
  obtain ⟨y, ys, rfl⟩ : ∃ u us, xs = u :: us := by
    cases xs with
    | nil => have := h.1; simp at this
    | cons u us => exact ⟨u, us, rfl⟩
  exact ⟨y, ys, rfl, by simpa using h.2 0 (by simp), by simpa using h.1, fun j hj => by simpa using h.2 (j + 1) (by simpa using hj)⟩

theorem freeze_ok : ∀ (vs : List V) (c : Cx) (xs : List Value) (out : List (List Int)) (h' : List E), Rel c → ArgsR c vs xs → freeze c.h vs = some (out, h') →
    ∃ c', c'.h = h' ∧ c'.w = c.w ∧ Ext c c' ∧ Rel c' ∧ out.length = vs.length ∧ ∀ j, j < vs.length → RowV c' (out.getD j []) (xs.getD j undef) := by
  intro vs
  induction vs with
  | nil =>
    intro c xs out h' hr ha h
    simp [freeze] at h
    obtain ⟨rfl, rfl⟩ := h
    exact ⟨c, rfl, rfl, Ext.refl c, hr, rfl, fun j hj => by simp at hj⟩
  | cons v vs ih =>
    intro c xs out h' hr ha h
    obtain ⟨y, ys, rfl, hy, ha'⟩ := ha.tail
    cases v with
    | own id =>
      obtain ⟨hid, rfl⟩ := (show id < c.h.length ∧ y = c.hv id from hy)
      simp only [freeze] at h
      split at h
      · rename_i zs hl
        simp only [Option.map_eq_some_iff] at h
        obtain ⟨⟨o2, h2⟩, hf, heq⟩ := h
        simp at heq
        obtain ⟨rfl, rfl⟩ := heq
        have hal : (getE c.h id).alive = true := by rw [hl]; rfl
        have hE := Cx.ext_kill (c := c) hid hal
        have hR := Cx.rel_kill hr hid hal
        obtain ⟨c', e1, e2, hE2, hR2, hlen, hall⟩ := ih (c.upd id .dead c.w) ys o2 h2 hR (ha'.ext hE) hf
        have hrow : RowV (c.upd id .dead c.w) zs (c.hv id) := by
          obtain ⟨⟨a, cap, hv, hc, h0⟩, hs⟩ := seen_own hr hid hl
          refine ⟨a, cap, hv, hc, ?_⟩
          rcases h0 with h0 | ⟨b, off, rfl, hcell⟩
          · exact .inl h0
          · rcases hs with h0 | ⟨g, cap', hv'⟩
            · exact .inl h0
            · rw [hv'] at hv
              have e1 : (⟨g, 0, none⟩ : Addr) = ⟨b, off, none⟩ := by injection hv with e _ _; injection e
              have hb : blk (c.hv id) = some b := by rw [hv']; cases e1; rfl
              refine .inr ⟨b, off, rfl, fun hF => (hr.far b hF).2 ⟨id, hal, hb⟩, ?_, fun j hj => ?_⟩
              · rintro ⟨i, hi, hbi⟩
                rw [show (c.upd id .dead c.w).h = c.h.set id .dead from rfl, getE_set hid] at hi
                by_cases hh : id = i
                · rw [if_pos hh] at hi; cases hi
                · rw [if_neg hh] at hi; exact hh (hr.inj id i b hal hi hb hbi)
              · obtain ⟨u, hu, hua⟩ := hcell j hj
                have : u = .int .i64 (eli zs j) := hua
                subst this; exact hu
        refine ⟨c', e1, e2, hE.trans hE2, hR2, by simp [hlen], fun j hj => ?_⟩
        cases j with
        | zero => simpa using hE2.rowV hrow
        | succ j => simpa using hall j (by simpa using hj)
      · cases h
    | ro s l =>
      cases s with
      | false => simp [freeze] at h
      | true =>
        cases l with
        | ints k zs =>
          obtain ⟨rfl, o2, hf, rfl⟩ : k = .i64 ∧ ∃ o2, freeze c.h vs = some (o2, h') ∧ out = zs :: o2 := by
            cases k <;> simp only [freeze, Option.map_eq_some_iff, reduceCtorEq] at h
            obtain ⟨⟨o2, h2⟩, hf, heq⟩ := h
            simp at heq
            obtain ⟨rfl, rfl⟩ := heq
            exact ⟨rfl, o2, hf, rfl⟩
          obtain ⟨c', e1, e2, hE2, hR2, hlen, hall⟩ := ih c ys o2 _ hr ha' hf
          refine ⟨c', e1, e2, hE2, hR2, by simp [hlen], fun j hj => ?_⟩
          cases j with
          | zero =>
            have hrow : RowV c zs y := by
              obtain ⟨a, cap, hv, hc, h0⟩ := (show RoR c true (.ints .i64 zs) y from hy)
              refine ⟨a, cap, hv, hc, ?_⟩
              rcases h0 with h0 | ⟨b, off, ha, hF, hU, hcell⟩
              · exact .inl h0
              · refine .inr ⟨b, off, ha, hF rfl, hU, fun j hj => ?_⟩
                obtain ⟨u, hu, hua⟩ := hcell j hj
                have : u = .int .i64 (eli zs j) := hua
                subst this; exact hu
            simpa using hE2.rowV hrow
          | succ j => simpa using hall j (by simpa using hj)
        | _ => simp [freeze] at h
    | _ => simp [freeze] at h

theorem inOrder_ok : ∀ (ps : List (Nat × Operand)) (k : Nat), inOrder k ps = true → ∀ j, j < ps.length → (ps.map (·.1))[j]? = some (k + j) := by
  intro ps
  induction ps with
  | nil => intro k _ j hj; simp at hj
  | cons p ps ih =>
    intro k h j hj
    obtain ⟨i, x⟩ := p
    simp only [inOrder, Bool.and_eq_true] at h
    have hi : i = k := Nat.eq_of_beq_eq_true h.1
    subst hi
    cases j with
    | zero => simp
    | succ j =>
      have := ih (i + 1) h.2 j (by simpa using hj)
      rw [show i + (j + 1) = i + 1 + j by omega]
      simpa using this

theorem run_buildSlice {t e : TypeId} {f : TypeInfo} {z : Value} (ht : P.underlying t = some (.slice e)) (hf : P.info? e = some f) (hs : f.size = 1) (hz : f.zero = some z) (hzs : z.cells.size = 1) {w : World} {n : Nat} (hn : n ≤ 1000)
    {ps : Array (Nat × Value)} (hsz : ps.size = n) (hk : ∀ j, j < ps.toList.length → (ps.toList.map (·.1))[j]? = some j) (hc : ∀ p ∈ ps.toList, p.2.cells = #[p.2]) :
    (Instr.buildSlice t n ps).run P w = .ok (.slice (some ⟨w.heap.size, 0, none⟩) n n) (w.alloc (.cells (ps.toList.map (·.2)).toArray e)) := by
  have hfill := fill_order (place := fun i => some (i * 1, 1)) (fun i => by simp) ps.toList 0 [] ((Array.range n).map (fun i => (if n = 0 then #[] else z.cells)[i % (if n = 0 then #[] else z.cells).size]!)).toList
    (fun j hj => by simpa using hk j hj) rfl (by simp [hsz]) hc
  simp only [List.nil_append, Array.toArray_toList] at hfill
  have h24 : ¬ (16777216 < n) := by omega
  by_cases h0 : n = 0
  · subst h0
    have hps : ps = #[] := Array.eq_empty_of_size_eq_zero hsz
    subst hps
    simp [Instr.buildSlice, run_underlying ht, sizeOf, typeInfo, hf, hs, Instr.fill, newRow]
    have hr0 : Array.range 0 = #[] := Array.eq_empty_of_size_eq_zero (by simp)
    rw [hr0, Array.map_empty]
  · simp only [h0, if_false] at hfill
    simp only [Instr.buildSlice, Sem.run_bind, run_underlying ht, Result.andThen_ok, sizeOf, typeInfo, run_program, hf, Sem.run_pure, hs, Nat.mul_one, zeroValue, hz]
    simp only [Nat.reducePow, gt_iff_lt, h24, h0, if_false, Sem.run_bind, Sem.run_pure, Result.andThen_ok, Sem.run_ite, ite_false, run_program, hf, hz]
    simp only [Nat.mul_one] at hfill
    rw [hfill]
    simp [newRow]

theorem buildSlice_ok (hr : Rel c) {t e : TypeId} {f : TypeInfo} {z : Value} (ht : P.underlying t = some (.slice e)) (hf : P.info? e = some f) (hs : f.size = 1) (hz : f.zero = some z) (hzs : z.cells.size = 1) {n : Nat} (hn : n ≤ 1000)
    {σ : St} {a : Act} (hσ : RelT c σ a) {parts : Array (Nat × Operand)} (hsz : parts.size = n) (hord : inOrder 0 parts.toList = true) {l : L} (hlen : l.len = n)
    (hat : ∀ j, j < n → ∀ x, VR c ((parts.toList.map fun p => σ.ev p.2).getD j .junk) x → x.cells = #[x])
    {c1 : Cx} (hw : c1.w = c.w) (hr1 : Rel c1) (hE1 : Ext c c1)
    (hat2 : ∀ j, j < n → ∀ c', Ext c1 c' → AtomR c' (l.at_ j) (((parts.toList.map fun p => a.eval p.2)).getD j undef)) :
    ∃ c' x, c'.h = c1.h ++ [.row l] ∧ Ext c c' ∧ Rel c' ∧ VR c' (.own c1.h.length) x ∧ (Instr.buildSlice t n (parts.map fun (i, x) => (i, a.eval x))).run P c.w = .ok x c'.w := by
  have hpl : parts.toList.length = n := by simpa using hsz
  have hmap : (parts.map fun (i, x) => (i, a.eval x)).toList = parts.toList.map fun p => (p.1, a.eval p.2) := by simp
  have hrun := run_buildSlice (P := P) ht hf hs hz hzs (w := c.w) hn (ps := parts.map fun (i, x) => (i, a.eval x)) (by simpa using hsz)
    (fun j hj => by
      have := inOrder_ok parts.toList 0 hord j (by simpa using hj)
      rw [hmap]; simpa using this)
    (fun p hp => by
      rw [hmap] at hp
      simp only [List.mem_map] at hp
      obtain ⟨q, hq, rfl⟩ := hp
      obtain ⟨j, hj, hqj⟩ := List.getElem_of_mem hq
      refine hat j (by omega) _ ?_
      have hj2 : j < parts.size := by simpa using hj
      have : (parts.toList.map fun p => σ.ev p.2).getD j .junk = σ.ev q.2 := by simp [List.getD, hj2, ← hqj]
      rw [this]; exact hσ.ev q.2)
  have hvals : (parts.map fun (i, x) => (i, a.eval x)).toList.map (·.2) = parts.toList.map fun p => a.eval p.2 := by rw [hmap]; simp
  rw [hvals] at hrun
  have ho := World.ownsRow_lit (base := 0) (e := e) (size := 1) c1.w (parts.toList.map fun p => a.eval p.2).toArray n (Nat.zero_le _) (by unfold maxLen; omega) (by simp [hsz])
  rw [hw] at ho
  obtain ⟨hE, hR, hV⟩ := push_row hr1 (l := l) (e := e) (xs := parts.toList.map fun p => a.eval p.2) (x := .slice (some ⟨c.w.heap.size, 0, none⟩) n n) (w' := c.w.alloc (.cells (parts.toList.map fun p => a.eval p.2).toArray e))
    (by rw [hw]; exact World.grownBy_alloc c.w _ none) (by rw [hlen]; simpa using ho) (fun b hb => by simp [blk] at hb; rw [hw]; omega)
    (fun c' hE j hj => ⟨((parts.toList.map fun p => a.eval p.2)).getD j undef, by
      have hj' : j < parts.size := by omega
      simp [List.getD, hj'], hat2 j (by omega) c' hE⟩)
  exact ⟨_, _, rfl, hE1.trans hE, hR, hV, hrun⟩

/-- The parts of a struct laid into its zero. -/
theorem fill_struct {places : Array (Nat × Nat)} : ∀ (ps : List (Nat × Value)) (cs : Array Value),
    (∀ p ∈ ps, ∃ off, places[p.1]? = some (off, 1) ∧ off < cs.size ∧ p.2.cells = #[p.2]) →
    Instr.fill (places[·]?) cs ps = some (ps.foldl (fun acc p => match places[p.1]? with | some pl => acc.setIfInBounds pl.1 p.2 | none => acc) cs) := by
  intro ps
  induction ps with
  | nil => intro cs _; simp [Instr.fill]
  | cons p ps ih =>
    intro cs h
    obtain ⟨i, v⟩ := p
    obtain ⟨off, h1, h2, h3⟩ := h (i, v) (by simp)
    have h4 : v.cells = #[v] := h3
    have h5 : places[i]? = some (off, 1) := h1
    have h6 : ((#[v] : Array Value).size ≠ 1 || off + (#[v] : Array Value).size > cs.size) = false := by simp; omega
    unfold Instr.fill
    simp only [h5, h4, h6, Bool.false_eq_true, if_false, List.foldl_cons]
    have h7 : ((#[v] : Array Value).zipIdx.foldl (fun cs (x : Value × Nat) => cs.setIfInBounds (off + x.2) x.1) cs) = cs.setIfInBounds off v := by simp
    have h8 := ih (cs.setIfInBounds off v) (fun p hp => by
      obtain ⟨o, a1, a2, a3⟩ := h p (by simp [hp])
      exact ⟨o, a1, by simpa using a2, a3⟩)
    rw [← h7] at h8 ⊢
    simpa using h8

theorem run_places {fs : List Field} {w : World} {size : Nat → Nat} (h : ∀ f ∈ fs, ∃ fi, P.info? f.type = some fi ∧ fi.size = size f.type) :
    (fs.mapM fun f => do pure (f.offset, ← sizeOf f.type) : Sem (List (Nat × Nat))).run P w = .ok (fs.map fun f => (f.offset, size f.type)) w := by
  induction fs with
  | nil => simp
  | cons f fs ih =>
    obtain ⟨fi, h1, h2⟩ := h f (by simp)
    have ih' := ih (fun g hg => h g (by simp [hg]))
    have hsz : (sizeOf f.type).run P w = .ok (size f.type) w := by simp [sizeOf, typeInfo, h1, h2]
    simp only [List.mapM_cons, Sem.run_bind, hsz, Sem.run_pure, Result.andThen_ok, ih', List.map_cons]

theorem run_build {t : TypeId} {fs : Array Field} {i : TypeInfo} {zs : Array Value} {size : Nat → Nat} {w : World} (ht : P.underlying t = some (.struct fs)) (hi : P.info? t = some i) (hz : i.zero = some (.agg zs))
    (hfs : ∀ f ∈ fs.toList, ∃ fi, P.info? f.type = some fi ∧ fi.size = size f.type) {ps : Array (Nat × Value)}
    (hps : ∀ p ∈ ps.toList, ∃ fd, fs[p.1]? = some fd ∧ size fd.type = 1 ∧ fd.offset < zs.size ∧ p.2.cells = #[p.2]) :
    (Instr.build t ps).run P w = .ok (.agg (ps.toList.foldl (fun acc p => match fs[p.1]? with | some fd => acc.setIfInBounds fd.offset p.2 | none => acc) zs)) w := by
  have hm : (fs.mapM fun f => do pure (f.offset, ← sizeOf f.type) : Sem (Array (Nat × Nat))).run P w = .ok (fs.map fun f => (f.offset, size f.type)) w := by
    rw [Array.mapM_eq_mapM_toList]
    simp only [Sem.run_map, run_places (P := P) (w := w) (size := size) hfs, Result.andThen_ok]
    congr 1
    apply Array.ext'
    simp
  have hf := fill_struct (places := fs.map fun f => (f.offset, size f.type)) ps.toList zs (fun p hp => by
    obtain ⟨fd, h1, h2, h3, h4⟩ := hps p hp
    exact ⟨fd.offset, by simp [h1, h2], h3, h4⟩)
  have e : (ps.toList.foldl (fun acc p => match (fs.map fun f => (f.offset, size f.type))[p.1]? with | some pl => acc.setIfInBounds pl.1 p.2 | none => acc) zs) =
      ps.toList.foldl (fun acc p => match fs[p.1]? with | some fd => acc.setIfInBounds fd.offset p.2 | none => acc) zs := by
    congr 1
    funext acc p
    simp only [Array.getElem?_map]
    cases fs[p.1]? <;> rfl
  rw [e] at hf
  simp only [Instr.build, Sem.run_bind, zeroValue, typeInfo, run_program, hi, hz, Sem.run_pure, Result.andThen_ok, run_underlying ht, Value.cells, hm, hf]

theorem push_cells (hr : Rel c) {vs : List V} {xs : Array Value} (hsz : xs.size = vs.length) (hv : ∀ j, j < vs.length → VR0 c (vs.getD j .junk) (xs.getD j undef)) (e : TypeId) :
    Ext c (c.push (.cells vs) (.pointer (some ⟨c.w.heap.size, 0, none⟩)) (c.w.alloc (.cells xs e))) ∧ Rel (c.push (.cells vs) (.pointer (some ⟨c.w.heap.size, 0, none⟩)) (c.w.alloc (.cells xs e))) ∧
      VR (c.push (.cells vs) (.pointer (some ⟨c.w.heap.size, 0, none⟩)) (c.w.alloc (.cells xs e))) (.ptr c.h.length 0) (.pointer (some ⟨c.w.heap.size, 0, none⟩)) := by
  have hg : c.w.grownBy (c.w.alloc (.cells xs e)) none := World.grownBy_alloc c.w _ none
  have hE := Cx.ext_push hr (.cells vs) (.pointer (some ⟨c.w.heap.size, 0, none⟩)) hg (fun b hb => by simp [blk] at hb; omega)
  refine ⟨hE, Cx.rel_push hr (.inr ⟨_, rfl⟩) hg (fun b hb => by simp [blk] at hb; simp; omega) ⟨c.w.heap.size, e, xs, by rw [Cx.push_new], heap_alloc_new c.w _, hsz, fun j hj => ?_⟩, ?_⟩
  · refine ⟨xs.getD j undef, ?_, hE.vr0 (hv j hj)⟩
    have : j < xs.size := by omega
    simp [this]
  · exact ⟨by simp [Cx.push], c.w.heap.size, by rw [Cx.push_new]; rfl, rfl⟩
end

end Go.Proofs.Ytgpgifpblchjjaa.D
/- Whole structs out of their cells, and into them. Conditions: those of each theorem. -/
namespace Go.Proofs.Ytgpgifpblchjjaa.D
open Go.RowKit
set_option linter.unusedVariables false
set_option linter.unusedSimpArgs false

section
variable {P : Program} {c : Cx} {r : V × List E}

theorem run_isAgg {t : TypeId} {fs : Array Field} (hu : P.underlying t = some (.struct fs)) {w : World} : (isAgg t).run P w = .ok true w := by
  simp only [isAgg, Sem.run_bind, run_underlying hu, Result.andThen_ok]; rfl
theorem run_loadVar {t : TypeId} {fs : Array Field} {f : TypeInfo} (hu : P.underlying t = some (.struct fs)) (hf : P.info? t = some f) {w : World} {g : Nat} {cs : Array Value} {e : TypeId}
    (hg : w.heap[g]? = some (.cells cs e (0, 0))) (hs : f.size = cs.size) : (loadVar t ⟨g, 0, none⟩).run P w = .ok (.agg cs) w := by
  have hl := run_loadCells_list (P := P) w ⟨g, 0, none⟩ cs.toList (fun j v hv => by rw [add_none, cell_of_row w g _ cs e (0, 0) hg]; simpa using hv)
  have hsz : (sizeOf t).run P w = .ok cs.toList.length w := by simp [sizeOf, typeInfo, hf, hs]
  simp only [loadVar, Sem.run_bind, run_isAgg hu, Result.andThen_ok, if_true, hsz, hl, Sem.run_pure]
theorem loadAgg_run (hr : Rel c) {t : TypeId} {fs : Array Field} {f : TypeInfo} (hu : P.underlying t = some (.struct fs)) (hf : P.info? t = some f) {id : Nat} {vs : List V} (hs : f.size = vs.length)
    (hl : getE c.h id = .cells vs) {vp : Value} (hp : VR c (.ptr id 0) vp) :
    ∃ (y : Value) (cs : Array Value), y = .agg cs ∧ VR c (.agg vs) (.agg cs) ∧ ∃ g, vp = .pointer (some ⟨g, 0, none⟩) ∧ (loadVar t ⟨g, 0, none⟩).run P c.w = .ok (.agg cs) c.w := by
  obtain ⟨hid, g, hbg, rfl⟩ := (show VR0 c (.ptr id 0) vp from hp)
  have he := hr.ent id hid
  rw [hl] at he
  obtain ⟨b, e, cs, hv, hg, hsz, ha⟩ := he
  rw [hv] at hbg
  simp [blk] at hbg
  subst hbg
  refine ⟨_, cs, rfl, ⟨cs, rfl, hsz, fun j hj => ?_⟩, b, rfl, run_loadVar hu hf hg (by omega)⟩
  obtain ⟨x, hx, hxa⟩ := ha j hj
  have e : cs.getD j undef = x := by simp [Array.getD_eq_getD_getElem?, hx]
  rw [e]; exact hxa
theorem loadAgg_ok (hr : Rel c) {t : TypeId} {fs : Array Field} {f : TypeInfo} (hu : P.underlying t = some (.struct fs)) (hf : P.info? t = some f) {n : Nat} (hs : f.size = n) {p : V} {κ : V → R} {vp : Value}
    (h : loadAggC n p c.h κ = some r) (hp : VR c p vp) : ∃ v z, κ v = some r ∧ VR c v z ∧ (Instr.loadAt t vp).run P c.w = .ok z c.w := by
  unfold loadAggC at h
  split at h
  · rename_i id
    split at h
    · rename_i vs hl
      obtain ⟨h1, h2⟩ := bif_some h
      have h1' := Nat.eq_of_beq_eq_true h1
      obtain ⟨y, cs, rfl, hV, g, rfl, hrun⟩ := loadAgg_run hr hu hf (by omega) hl hp
      exact ⟨_, _, h2, hV, by simp only [Instr.loadAt, Instr.sureAddr, Sem.run_bind, Sem.run_pure, Result.andThen_ok, hrun]⟩
    · cases h
  · cases h
theorem run_loadArr {t e : TypeId} {n : Nat} {f : TypeInfo} (hu : P.underlying t = some (.array n e)) (hf : P.info? t = some f) {w : World} {a : Addr} {xs : List Value}
    (hx : ∀ j v, xs[j]? = some v → w.cell? (a.add j) = some v) (hs : f.size = xs.length) : (loadVar t a).run P w = .ok (.agg xs.toArray) w := by
  have hi : (isAgg t).run P w = .ok true w := by simp only [isAgg, Sem.run_bind, run_underlying hu, Result.andThen_ok]; rfl
  have hl := run_loadCells_list (P := P) w a xs hx
  have hsz : (sizeOf t).run P w = .ok xs.length w := by simp [sizeOf, typeInfo, hf, hs]
  simp only [loadVar, Sem.run_bind, hi, Result.andThen_ok, if_true, hsz, hl, Sem.run_pure]
theorem loadArr_ok (hr : Rel c) {t e : TypeId} {m : Nat} {f : TypeInfo} (hu : P.underlying t = some (.array m e)) (hf : P.info? t = some f) {n : Nat} (hs : f.size = n) {p : V} {κ : V → R} {vp : Value}
    (h : loadArrC n p c.h κ = some r) (hp : VR c p vp) : ∃ v z, κ v = some r ∧ VR c v z ∧ (Instr.loadAt t vp).run P c.w = .ok z c.w := by
  unfold loadArrC at h
  split at h
  · rename_i id off
    split at h
    · rename_i vs hl
      obtain ⟨h1, h2⟩ := bif_some h
      have h1' : off + n ≤ vs.length := of_decide_eq_true h1
      obtain ⟨hid, g, hbg, rfl⟩ := (show VR0 c (.ptr id off) vp from hp)
      have he := hr.ent id hid
      rw [hl] at he
      obtain ⟨b, e2, cs, hv, hg, hsz, ha⟩ := he
      rw [hv] at hbg
      simp [blk] at hbg
      subst hbg
      have hlen : ((cs.toList.drop off).take n).length = n := by rw [List.length_take, List.length_drop]; simp; omega
      refine ⟨_, .agg ((cs.toList.drop off).take n).toArray, h2, ⟨_, rfl, ?_, fun j hj => ?_⟩, ?_⟩
      · rw [List.size_toArray, hlen, List.length_take, List.length_drop]; omega
      · rw [List.length_take, List.length_drop] at hj
        have hjn : j < n := by omega
        obtain ⟨y, hy, hya⟩ := ha (off + j) (by omega)
        have e1 : ((vs.drop off).take n).getD j .junk = vs.getD (off + j) .junk := by rw [List.getD_eq_getElem?_getD, List.getD_eq_getElem?_getD, take_drop_at vs hjn]
        have e3 : ((cs.toList.drop off).take n).toArray.getD j undef = y := by
          rw [Array.getD_eq_getD_getElem?, List.getElem?_toArray, take_drop_at _ hjn]
          simp [hy]
        rw [e1, e3]; exact hya
      · have hrun := run_loadArr (P := P) (w := c.w) (a := ⟨b, off, none⟩) (xs := (cs.toList.drop off).take n) hu hf (fun j v hv => by
          have hjn : j < n := by have := (List.getElem?_eq_some_iff.1 hv).1; omega
          rw [take_drop_at _ hjn] at hv
          rw [add_none, cell_of_row c.w b (off + j) cs e2 (0, 0) hg]
          simpa using hv) (by omega)
        simp only [Instr.loadAt, Instr.sureAddr, Sem.run_bind, Sem.run_pure, Result.andThen_ok, hrun]
    · cases h
  · cases h
/-- One part that is an array, laid into a struct's zero. -/
theorem zip_fold (off : Nat) : ∀ (xs : List Value) (k : Nat) (cs : Array Value), off + k + xs.length ≤ cs.size →
    ((xs.zipIdx k).foldl (fun (cs : Array Value) (x : Value × Nat) => cs.setIfInBounds (off + x.2) x.1) cs).toList = cs.toList.take (off + k) ++ (xs ++ cs.toList.drop (off + k + xs.length)) := by
  intro xs
  induction xs with
  | nil => intro k cs h; simp
  | cons x xs ih =>
    intro k cs h
    simp only [List.length_cons] at h
    simp only [List.zipIdx_cons, List.foldl_cons]
    rw [ih (k + 1) _ (by simp; omega)]
    have hlt : off + k < cs.toList.length := by simp; omega
    rw [Array.toList_setIfInBounds]
    apply List.ext_getElem?
    intro j
    have hl1 : ((cs.toList.set (off + k) x).take (off + (k + 1))).length = off + k + 1 := by rw [List.length_take, List.length_set]; omega
    have hl2 : (cs.toList.take (off + k)).length = off + k := by rw [List.length_take]; omega
    by_cases h1 : j < off + k
    · rw [List.getElem?_append_left (by omega), List.getElem?_append_left (by omega), List.getElem?_take, if_pos (by omega), List.getElem?_set_ne (by omega), List.getElem?_take, if_pos h1]
    · by_cases h2 : j = off + k
      · subst h2
        rw [List.getElem?_append_left (by omega), List.getElem?_take, if_pos (by omega), List.getElem?_set_self hlt, List.getElem?_append_right (by omega), hl2]
        simp
      · rw [List.getElem?_append_right (by rw [hl1]; omega), hl1, List.getElem?_append_right (l₁ := cs.toList.take (off + k)) (by rw [hl2]; omega), hl2, show j - (off + k) = (j - (off + k + 1)) + 1 by omega, List.cons_append, List.getElem?_cons_succ]
        by_cases h3 : j - (off + k + 1) < xs.length
        · rw [List.getElem?_append_left h3, List.getElem?_append_left h3]
        · rw [List.getElem?_append_right (by omega), List.getElem?_append_right (by omega), List.getElem?_drop, List.getElem?_drop, List.getElem?_set_ne (by omega)]
          congr 1
          simp only [List.length_cons]
          omega
theorem run_buildA {t : TypeId} {fs : Array Field} {i : TypeInfo} {zs : Array Value} {size : Nat → Nat} {w : World} (ht : P.underlying t = some (.struct fs)) (hi : P.info? t = some i) (hz : i.zero = some (.agg zs))
    (hfs : ∀ f ∈ fs.toList, ∃ fi, P.info? f.type = some fi ∧ fi.size = size f.type) {n : Nat} {fd : Field} (hfd : fs[n]? = some fd) {cs : Array Value} (hcs : size fd.type = cs.size) (hoff : fd.offset + cs.size ≤ zs.size) :
    (Instr.build t #[(n, .agg cs)]).run P w = .ok (.agg (zs.toList.take fd.offset ++ (cs.toList ++ zs.toList.drop (fd.offset + cs.size))).toArray) w := by
  have hm : (fs.mapM fun f => do pure (f.offset, ← sizeOf f.type) : Sem (Array (Nat × Nat))).run P w = .ok (fs.map fun f => (f.offset, size f.type)) w := by
    rw [Array.mapM_eq_mapM_toList]
    simp only [Sem.run_map, run_places (P := P) (w := w) (size := size) hfs, Result.andThen_ok]
    congr 1
    apply Array.ext'
    simp
  have hz2 := zip_fold fd.offset cs.toList 0 zs (by simp; omega)
  have hpl : (fs.map fun f => (f.offset, size f.type))[n]? = some (fd.offset, cs.size) := by simp [hfd, hcs]
  have hbad : (cs.size ≠ cs.size || fd.offset + cs.size > zs.size) = false := by simp; omega
  have hfill : Instr.fill ((fs.map fun f => (f.offset, size f.type))[·]?) zs [(n, Value.agg cs)] = some (zs.toList.take fd.offset ++ (cs.toList ++ zs.toList.drop (fd.offset + cs.size))).toArray := by
    unfold Instr.fill
    simp only [hpl, Value.cells]
    refine (if_neg ?_).trans ?_
    · intro hc; simp at hc; omega
    unfold Instr.fill
    congr 1
    apply Array.ext'
    rw [← Array.foldl_toList, Array.toList_zipIdx]
    simpa using hz2
  simp only [Instr.build, Sem.run_bind, zeroValue, typeInfo, run_program, hi, hz, Sem.run_pure, Result.andThen_ok, run_underlying ht, Value.cells, hm]
  simp only [hfill]
  rfl
theorem grown_setRow (w : World) (g : Nat) (cs : Array Value) : w.grownBy (w.setRow g cs) (some g) :=
  ⟨rfl, rfl, rfl, by simp, fun k _ hk => setRow_other w g k cs (fun e => hk (by rw [e]))⟩
theorem storeAgg_ok (hr : Rel c) {t : TypeId} {f : TypeInfo} (hf : P.info? t = some f) {n : Nat} (hs : f.size = n) {p v : V} {κ : List E → R} {vp x : Value}
    (h : storeAggC n p v c.h κ = some r) (hp : VR c p vp) (hv : VR c v x) :
    ∃ c', κ c'.h = some r ∧ Ext c c' ∧ Rel c' ∧ (Instr.storeAt t vp x).run P c.w = .ok () c'.w := by
  unfold storeAggC at h
  split at h
  · rename_i id ws
    split at h
    · rename_i vs hl
      obtain ⟨h1, h2⟩ := bif_some h
      simp only [Bool.and_eq_true] at h1
      obtain ⟨⟨h3, h4⟩, h5⟩ := h1
      have h3' := Nat.eq_of_beq_eq_true h3
      have h4' := Nat.eq_of_beq_eq_true h4
      obtain ⟨xs, rfl, hxs, hxa⟩ := (show VR1 c (.agg ws) x from hv)
      obtain ⟨hid, g, hbg, rfl⟩ := (show VR0 c (.ptr id 0) vp from hp)
      have he := hr.ent id hid
      rw [hl] at he
      obtain ⟨b, e, cs, hvv, hgc, hsz, ha⟩ := he
      rw [hvv] at hbg
      simp [blk] at hbg
      subst hbg
      have hal : (getE c.h id).alive = true := by rw [hl]; rfl
      have hg : c.w.grownBy (c.w.setRow b xs) (blk (c.hv id)) := by rw [hvv]; exact grown_setRow _ _ _
      have hsame : sameE (getE c.h id) (.cells ws) = true := by rw [hl]; simp [sameE]; omega
      have hE := Cx.ext_upd (e := .cells ws) hid hal hsame hg
      have hone : ∀ u ∈ xs.toList, u.oneCell' = true := fun u hu => by
        obtain ⟨j, hj, rfl⟩ := List.getElem_of_mem hu
        have hj' : j < ws.length := by simp at hj; omega
        have hjx : j < xs.size := by simpa using hj
        have hA := hxa j hj'
        have hF := all_getD h5 hj'
        have eA : xs.getD j undef = xs[j] := by simp [hjx]
        rw [eA] at hA
        have := (flat_one hr hF hA.vr).2.1
        simpa using this
      have hst := run_storeCells_at P b 0 e xs.toList 0 cs c.w hgc (by simp; omega) hone
      have harr : (cs.toList.take (0 + 0) ++ xs.toList ++ cs.toList.drop (0 + 0 + xs.toList.length)).toArray = xs := by
        have : cs.toList.drop (0 + 0 + xs.toList.length) = [] := List.drop_eq_nil_of_le (by simp; omega)
        rw [this]; simp
      rw [harr] at hst
      refine ⟨c.upd id (.cells ws) (c.w.setRow b xs), h2, hE, Cx.rel_upd hr hid hal hsame hg ?_, ?_⟩
      · refine ⟨b, e, xs, hvv, setRow_heap _ _ _ _ _ _ hgc, hxs, fun j hj => ?_⟩
        have hjx : j < xs.size := by omega
        refine ⟨xs[j], by simp [hjx], ?_⟩
        have hA := hxa j hj
        have eA : xs.getD j undef = xs[j] := by simp [hjx]
        rw [eA] at hA
        exact hE.vr0 hA
      · have hsz2 : (sizeOf t).run P c.w = .ok xs.size c.w := by simp [sizeOf, typeInfo, hf, hs]; omega
        show (do storeVar t (← Instr.sureAddr (.pointer (some ⟨b, 0, none⟩))) (.agg xs) : Sem Unit).run P c.w = .ok () (c.w.setRow b xs)
        simp only [Instr.sureAddr, Sem.run_bind, Sem.run_pure, Result.andThen_ok, storeVar, Value.cells, hsz2, ne_eq, not_true_eq_false, if_false, hst]
    · cases h
  · cases h
end

end Go.Proofs.Ytgpgifpblchjjaa.D
