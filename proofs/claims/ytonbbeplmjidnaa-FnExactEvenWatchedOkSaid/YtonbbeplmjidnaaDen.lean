/- A small machine over plain lists: what code of the translated kind does, told without addresses. Conditions: none. -/
import Derived.WalkKit
import Derived.ProofKit
import Derived.Orders
import Derived.Below
import Derived.Deep.LoopGhost
namespace Go.Proofs.Ytonbbeplmjidnaa.D
open Go.RowKit
set_option linter.unusedVariables false
set_option linter.unusedSimpArgs false

/-- The content of one cell. -/
inductive Atom where
  | int (k : IntKind) (n : Int)
  | bool (b : Bool)
  | str (s : ByteArray)
  | row (xs : List Int)

/-- The content of a row of cells of one kind. -/
inductive L where
  | ints (k : IntKind) (xs : List Int)
  | bools (xs : List Bool)
  | strs (xs : List ByteArray)
  | rows (xs : List (List Int))

/-- A value: slices are lists that are not written any more ('ro true'), views for the time of a call ('ro false'), or rows of one's own by number. -/
inductive V where
  | int (k : IntKind) (n : Int)
  | bool (b : Bool)
  | str (s : ByteArray)
  | ro (safe : Bool) (l : L)
  | nil
  | own (id : Nat)
  | sub (id off len : Nat)
  | ptr (id off : Nat)
  | ref (a : Atom)
  | fn (f : FuncId)
  | junk
  | agg (vs : List V)
  | tup (vs : List V)

/-- A block of one's own. -/
inductive E where
  | row (l : L)
  | cells (vs : List V)
  | dead

def eli (xs : List Int) (k : Nat) : Int := xs.getD k 0
def elb (xs : List Bool) (k : Nat) : Bool := xs.getD k false
def els (xs : List ByteArray) (k : Nat) : ByteArray := xs.getD k .empty
def elr (xs : List (List Int)) (k : Nat) : List Int := xs.getD k []

def L.len : L → Nat
  | .ints _ xs => xs.length
  | .bools xs => xs.length
  | .strs xs => xs.length
  | .rows xs => xs.length
def L.at_ : L → Nat → Atom
  | .ints k xs, i => .int k (eli xs i)
  | .bools xs, i => .bool (elb xs i)
  | .strs xs, i => .str (els xs i)
  | .rows xs, i => .row (elr xs i)
def L.set_ : L → Nat → V → Option L
  | .ints k xs, i, .int k' n => if k = k' then some (.ints k (xs.set i n)) else none
  | .bools xs, i, .bool b => some (.bools (xs.set i b))
  | .strs xs, i, .str s => some (.strs (xs.set i s))
  | _, _, _ => none
def L.cut : L → Nat → Nat → L
  | .ints k xs, a, n => .ints k ((xs.drop a).take n)
  | .bools xs, a, n => .bools ((xs.drop a).take n)
  | .strs xs, a, n => .strs ((xs.drop a).take n)
  | .rows xs, a, n => .rows ((xs.drop a).take n)
def L.app : L → L → Option L
  | .ints k xs, .ints k' ys => if k = k' then some (.ints k (xs ++ ys)) else none
  | .bools xs, .bools ys => some (.bools (xs ++ ys))
  | .strs xs, .strs ys => some (.strs (xs ++ ys))
  | .rows xs, .rows ys => some (.rows (xs ++ ys))
  | _, _ => none
def Atom.v : Atom → V
  | .int k n => .int k n
  | .bool b => .bool b
  | .str s => .str s
  | .row xs => .ro true (.ints .i64 xs)

/-- A constant. -/
def ofConst : Value → V
  | .int k n => .int k n
  | .bool b => .bool b
  | .string s => .str s
  | .slice none 0 0 => .nil
  | .func (.func f) first captured => if first.size = 0 ∧ captured.size = 0 then .fn f else .junk
  | _ => .junk
def ofZero : Value → V
  | .agg cs => .agg (cs.toList.map ofConst)
  | v => ofConst v

/-- What is known of a type. -/
structure TI where
  desc : TypeDesc
  size : Nat
  bytes : Nat
  zero : Value

/-- Temporaries that are known, and the blocks of one's own. -/
structure St where
  n : Nat
  t : List (Nat × V)
  h : List E

@[reducible] def R := Option (V × List E)

def getT : List (Nat × V) → Nat → V
  | [], _ => .junk
  | (a, v) :: r, n => bif Nat.beq a n then v else getT r n
def putT : List (Nat × V) → Nat → V → List (Nat × V)
  | [], n, v => [(n, v)]
  | (a, x) :: r, n, v => bif Nat.beq a n then (a, v) :: r else (a, x) :: putT r n v
def St.put (σ : St) (d : Option Nat) (v : V) : St :=
  match d with
  | some n => bif Nat.blt n σ.n then { σ with t := putT σ.t n v } else σ
  | none => σ
def St.ev (σ : St) : Operand → V
  | .tmp t => getT σ.t t
  | .const v => ofConst v
  | .func f => .fn f
  | .global _ => .junk
/-- A test's outcome is known on each of its two ways. -/
def St.know (σ : St) (c : Operand) (b : Bool) : St :=
  match c with
  | .tmp t => σ.put (some t) (.bool b)
  | _ => σ
def getE (h : List E) (id : Nat) : E := h.getD id .dead

/-- The list that a slice shows. -/
def listOf (h : List E) : V → Option L
  | .ro _ l => some l
  | .own id => match getE h id with
    | .row l => some l
    | _ => none
  | .sub id off n => match getE h id with
    | .row l => some (l.cut off n)
    | _ => none
  | _ => none

def small (n : Nat) : Bool := decide (n ≤ 1099511627776)

def bitsV (op : BinOp) (k : IntKind) (x y : Int) : Int := bits op k x y

/-- Operations on two values. -/
def binC (isB : Bool) (op : BinOp) (x y : V) (κ : V → R) : R :=
  match x, y with
  | .int k a, .int k' b =>
    match op with
    | .shl => bif decide (b < 0) then none else κ (.int k (k.wrap (a * 2 ^ (min b.toNat k.bits))))
    | .shr => bif decide (b < 0) then none else κ (.int k (a.fdiv (2 ^ (min b.toNat k.bits))))
    | _ => bif decide (k = k') then
      match op with
      | .add => κ (.int k (k.wrap (a + b)))
      | .sub => κ (.int k (k.wrap (a - b)))
      | .mul => κ (.int k (k.wrap (a * b)))
      | .quo => bif b == 0 then none else κ (.int k (k.wrap (a.tdiv b)))
      | .rem => bif b == 0 then none else κ (.int k (a.tmod b))
      | .and => κ (.int k (bits .and k a b))
      | .or => κ (.int k (bits .or k a b))
      | .xor => κ (.int k (bits .xor k a b))
      | .andNot => κ (.int k (bits .andNot k a b))
      | .eql => κ (.bool (a == b))
      | .neq => κ (.bool (a != b))
      | .lss => κ (.bool (decide (a < b)))
      | .leq => κ (.bool (decide (a ≤ b)))
      | .gtr => κ (.bool (decide (a > b)))
      | .geq => κ (.bool (decide (a ≥ b)))
      | _ => none
      else none
  | .bool a, .bool b => bif isB then
    match op with
    | .eql => κ (.bool (a == b))
    | .neq => κ (.bool (!(a == b)))
    | _ => none
    else none
  | _, _ => none

def unC (op : UnOp) (x : V) (κ : V → R) : R :=
  match op, x with
  | .not, .bool b => κ (.bool (!b))
  | .neg, .int k n => κ (.int k (k.wrap (0 - n)))
  | _, _ => none

def minmaxC (mx : Bool) : V → List V → (V → R) → R
  | x, [], κ => κ x
  | .int k a, .int k' b :: r, κ => bif mx then minmaxC mx (.int k (if b > a then b else a)) r κ else minmaxC mx (.int k (if b < a then b else a)) r κ
  | _, _, _ => none

def bytesOf (xs : List Int) : ByteArray := ⟨(xs.map fun n => UInt8.ofNat n.toNat).toArray⟩

def idxOk (i : Int) (n : Nat) : Bool := decide (0 ≤ i) && decide (i < n)
def cutOk (a b : Int) (n : Nat) : Bool := decide (0 ≤ a) && decide (a ≤ b) && decide (b ≤ n)

/-- A slice expression over something of so many cells. -/
def cutC (lo hi : Option V) (n : Nat) (κ : Nat → Nat → R) : R :=
  match lo, hi with
  | none, none => κ 0 n
  | some (.int _ a), none => bif cutOk a n n then κ a.toNat (n - a.toNat) else none
  | none, some (.int _ b) => bif cutOk 0 b n then κ 0 b.toNat else none
  | some (.int _ a), some (.int _ b) => bif cutOk a b n then κ a.toNat (b.toNat - a.toNat) else none
  | _, _ => none

def sliceC (x : V) (lo hi : Option V) (h : List E) (κ : V → R) : R :=
  match x with
  | .ro s l => cutC lo hi l.len fun a n => κ (.ro s (l.cut a n))
  | .own id => match getE h id with
    | .row l => match lo, hi with
      | none, none => κ (.own id)
      | lo, hi => cutC lo hi l.len fun a n => κ (.sub id a n)
    | _ => none
  | .sub id o m => cutC lo hi m fun a n => κ (.sub id (o + a) n)
  | _ => none

def idxC (x i : V) (h : List E) (κ : V → R) : R :=
  match x, i with
  | .ro _ l, .int _ i => bif idxOk i l.len then κ (.ref (l.at_ i.toNat)) else none
  | .own id, .int _ i => match getE h id with
    | .row l => bif idxOk i l.len then κ (.ptr id i.toNat) else none
    | _ => none
  | .sub id o n, .int _ i => match getE h id with
    | .row l => bif idxOk i n then κ (.ptr id (o + i.toNat)) else none
    | _ => none
  | _, _ => none

def loadC (p : V) (h : List E) (κ : V → R) : R :=
  match p with
  | .ref a => κ a.v
  | .ptr id off => match getE h id with
    | .row l => bif decide (off < l.len) then κ (l.at_ off).v else none
    | .cells vs => bif decide (off < vs.length) then κ (vs.getD off .junk) else none
    | .dead => none
  | _ => none

def V.flat : V → Bool
  | .agg _ | .tup _ | .junk => false
  | _ => true

def storeC (p v : V) (h : List E) (κ : List E → R) : R :=
  match p with
  | .ptr id off => match getE h id with
    | .row l => bif decide (off < l.len) then (match l.set_ off v with
        | some l' => κ (h.set id (.row l'))
        | none => none) else none
    | .cells vs => match v with
      | .agg _ | .tup _ | .junk => none
      | v => bif decide (off < vs.length) then κ (h.set id (.cells (vs.set off v))) else none
    | .dead => none
  | _ => none

/-- A whole struct out of its cells, and into them. -/
def loadAggC (n : Nat) (p : V) (h : List E) (κ : V → R) : R :=
  match p with
  | .ptr id 0 => match getE h id with
    | .cells vs => bif Nat.beq vs.length n then κ (.agg vs) else none
    | _ => none
  | _ => none
def storeAggC (n : Nat) (p v : V) (h : List E) (κ : List E → R) : R :=
  match p, v with
  | .ptr id 0, .agg ws => match getE h id with
    | .cells vs => bif Nat.beq vs.length n && Nat.beq ws.length n && ws.all V.flat then κ (h.set id (.cells ws)) else none
    | _ => none
  | _, _ => none

def lenC (x : V) (h : List E) (κ : V → R) : R :=
  match x with
  | .ro _ l => κ (.int .i64 l.len)
  | .nil => κ (.int .i64 0)
  | .own id => match getE h id with
    | .row l => κ (.int .i64 l.len)
    | _ => none
  | .sub _ _ n => κ (.int .i64 n)
  | _ => none

/-- append: a new row takes the old one's place. -/
def appC (s x : V) (h : List E) (κ : V → List E → R) : R :=
  match s with
  | .own id => match getE h id, listOf h x with
    | .row l, some m => match l.app m with
      | some r => bif small r.len then κ (.own h.length) (h.set id .dead ++ [.row r]) else none
      | none => none
    | _, _ => none
  | .nil => match listOf h x with
    | some m => bif m.len == 0 then κ .nil h else bif small m.len then κ (.own h.length) (h ++ [.row m]) else none
    | none => none
  | _ => none

def convC (src dst : Option TI) (x : V) (κ : V → R) : R :=
  match src, dst, x with
  | some _, some ⟨.int k, _, _, _⟩, .int _ n => κ (.int k (k.wrap n))
  | _, _, _ => none

/-- A row out of its parts, as many as it is long. -/
def rowOf (elem : TypeDesc) (vs : List V) : Option L :=
  match elem with
  | .int k => if vs.all (fun v => match v with | .int k' _ => decide (k = k') | _ => false) then some (.ints k (vs.map fun v => match v with | .int _ n => n | _ => 0)) else none
  | .bool => if vs.all (fun v => match v with | .bool _ => true | _ => false) then some (.bools (vs.map fun v => match v with | .bool b => b | _ => false)) else none
  | .string => if vs.all (fun v => match v with | .str _ => true | _ => false) then some (.strs (vs.map fun v => match v with | .str s => s | _ => .empty)) else none
  | _ => none
def zeroRow (elem : TypeDesc) (n : Nat) : Option L :=
  match elem with
  | .int k => some (.ints k (List.replicate n 0))
  | .bool => some (.bools (List.replicate n false))
  | .string => some (.strs (List.replicate n .empty))
  | _ => none

/-- The zero of a cell. -/
def zeroFits (d : TypeDesc) (z : Value) : Bool :=
  match d, z with
  | .int k, .int k' n => decide (k = k') && n == 0
  | .bool, .bool b => !b
  | .string, .string s => decide (s = .empty)
  | _, _ => false
def notAgg : Value → Bool
  | .agg _ => false
  | _ => true

/-- Slices that become the cells of a row: their own rows are written no more. -/
def freeze : List E → List V → Option (List (List Int) × List E)
  | h, [] => some ([], h)
  | h, .own id :: r => match getE h id with
    | .row (.ints .i64 xs) => (freeze (h.set id .dead) r).map fun p => (xs :: p.1, p.2)
    | _ => none
  | h, .ro true (.ints .i64 xs) :: r => (freeze h r).map fun p => (xs :: p.1, p.2)
  | _, _ => none
/-- An empty row of a kind. -/
def emptyRow (elem : TypeDesc) : Option L :=
  match elem with
  | .int k => some (.ints k [])
  | .bool => some (.bools [])
  | .string => some (.strs [])
  | .slice _ => some (.rows [])
  | _ => none

/-- The parts of a literal in their order: 0, 1, .. -/
def inOrder : Nat → List (Nat × Operand) → Bool
  | _, [] => true
  | n, (i, _) :: r => Nat.beq i n && inOrder (n + 1) r

def sameOperand : Operand → Operand → Bool
  | .tmp a, .tmp b => Nat.beq a b
  | .const (.int _ a), .const (.int _ b) => a == b
  | _, _ => false

variable (TD : TypeId → Option TI) (K : FuncId → List V → List E → (V → List E → R) → R)

def descOf (t : TypeId) : TypeDesc := match TD t with | some i => i.desc | none => .invalid

def fitsOne (t : TypeId) : Bool := match TD t with | some ⟨_, 1, _, _⟩ => true | _ => false
/-- May these parts be laid into the zero of a struct? -/
def buildOk (fs : Array Field) (parts : Array (Nat × Operand)) (n : Nat) (ev : Operand → V) : Bool :=
  fs.all (fun f => (TD f.type).isSome) && parts.all fun p => match fs[p.1]? with
    | some fd => fitsOne TD fd.type && decide (fd.offset < n) && (ev p.2).flat
    | none => false

def layParts (fs : Array Field) (ev : Operand → V) (ps : List (Nat × Operand)) (zs : List V) : List V :=
  ps.foldl (fun acc p => match fs[p.1]? with | some fd => acc.set fd.offset (ev p.2) | none => acc) zs

/-- One operation: its value and the blocks behind it. -/
def opC (o : Oper) (σ : St) (κ : V → List E → R) : R :=
  match o.op with
  | .move x => κ (σ.ev x) σ.h
  | .assign x => match x with
    | .const (.slice none 0 0) => match TD o.type with
      | some ⟨.slice e, _, _, _⟩ => match TD e with
        | some i => match emptyRow i.desc with
          | some l => κ (.own σ.h.length) (σ.h ++ [.row l])
          | none => none
        | none => none
      | _ => none
    | x => κ (σ.ev x) σ.h
  | .pick c a b => match σ.ev c with
    | .bool t => match σ.ev a, σ.ev b with
      | .bool x, .bool y => κ (.bool (bif t then x else y)) σ.h
      | x, y => bif t then κ x σ.h else κ y σ.h
    | _ => none
  | .binOp op t x y _ => binC (match descOf TD t with | .bool => true | _ => false) op (σ.ev x) (σ.ev y) fun v => κ v σ.h
  | .unOp op _ x => unC op (σ.ev x) fun v => κ v σ.h
  | .convert src dst x => convC (TD src) (TD dst) (σ.ev x) fun v => κ v σ.h
  | .extract t i => match σ.ev t with
    | .tup vs => bif decide (i < vs.length) then κ (vs.getD i .junk) σ.h else none
    | _ => none
  | .nilCheck x => match σ.ev x with
    | .ptr id off => κ (.ptr id off) σ.h
    | _ => none
  | .indexAddr t x i => match TD t with
    | some ⟨.slice e, _, _, _⟩ => match TD e with
      | some ⟨_, 1, _, _⟩ => idxC (σ.ev x) (σ.ev i) σ.h fun v => κ v σ.h
      | _ => none
    | _ => none
  | .fieldAddr t x f => match TD t, σ.ev x with
    | some ⟨.struct fs, _, _, _⟩, .ptr id off => match fs[f]? with
      | some fd => match TD fd.type with
        | some ⟨_, n + 1, _, _⟩ => κ (.ptr id (off + fd.offset)) σ.h
        | _ => none
      | none => none
    | _, _ => none
  | .load t p => match TD t with
    | some ⟨.struct _, n, _, _⟩ => loadAggC n (σ.ev p) σ.h fun v => κ v σ.h
    | some ⟨.array _ _, _, _, _⟩ => none
    | some _ => loadC (σ.ev p) σ.h fun v => κ v σ.h
    | none => none
  | .store t p x => match TD t with
    | some ⟨.struct _, n, _, _⟩ => storeAggC n (σ.ev p) (σ.ev x) σ.h fun h => κ .junk h
    | some ⟨_, 1, _, _⟩ => match σ.ev x with
      | .agg _ | .tup _ | .junk => none
      | v => storeC (σ.ev p) v σ.h fun h => κ .junk h
    | _ => none
  | .slice t x lo hi none => match TD t with
    | some ⟨.slice e, _, _, _⟩ => match TD e with
      | some ⟨_, 1, _, _⟩ => sliceC (σ.ev x) (lo.map σ.ev) (hi.map σ.ev) σ.h fun v => κ v σ.h
      | _ => none
    | _ => none
  | .buildSlice t n parts => match TD t with
    | some ⟨.slice e, _, _, _⟩ => match TD e with
      | some ⟨d, 1, _, ze⟩ => bif Nat.beq parts.size n && inOrder 0 parts.toList && decide (n ≤ 1000) && notAgg ze then
          (match rowOf d (parts.toList.map fun p => σ.ev p.2) with
           | some l => κ (.own σ.h.length) (σ.h ++ [.row l])
           | none => match d with
             | .slice _ => match freeze σ.h (parts.toList.map fun p => σ.ev p.2) with
               | some (xs, h) => κ (.own h.length) (h ++ [.row (.rows xs)])
               | none => none
             | _ => none) else none
      | _ => none
    | _ => none
  | .makeSlice t l c => match TD t, σ.ev l with
    | some ⟨.slice e, _, _, _⟩, .int .i64 n => match TD e with
      | some ⟨d, 1, b, ze⟩ => bif sameOperand l c && decide (b ≤ 64) && decide (0 ≤ n) && small n.toNat && zeroFits d ze then
          (match zeroRow d n.toNat with
           | some r => κ (.own σ.h.length) (σ.h ++ [.row r])
           | none => none) else none
      | _ => none
    | _, _ => none
  | .box _ x => match σ.ev x with
    | .agg vs => bif vs.all V.flat then κ (.ptr σ.h.length 0) (σ.h ++ [.cells vs]) else none
    | .tup _ | .junk => none
    | v => κ (.ptr σ.h.length 0) (σ.h ++ [.cells [v]])
  | .build t parts => match TD t with
    | some ⟨.struct fs, n, _, z⟩ => match ofZero z with
      | .agg zs =>
        bif buildOk TD fs parts zs.length σ.ev then
          κ (.agg (layParts fs σ.ev parts.toList zs)) σ.h
        else none
      | _ => none
    | _ => none
  | .alloc t => match TD t with
    | some ⟨_, _, _, z⟩ => match ofZero z with
      | .agg vs => bif vs.all V.flat then κ (.ptr σ.h.length 0) (σ.h ++ [.cells vs]) else none
      | .tup _ | .junk => none
      | v => κ (.ptr σ.h.length 0) (σ.h ++ [.cells [v]])
    | none => none
  | .field t x f => match TD t, σ.ev x with
    | some ⟨.struct fs, _, _, _⟩, .agg vs => match fs[f]? with
      | some fd => match TD fd.type with
        | some ⟨.struct _, _, _, _⟩ => none
        | some ⟨.array _ _, _, _, _⟩ => none
        | some _ => bif decide (fd.offset < vs.length) then κ (vs.getD fd.offset .junk) σ.h else none
        | none => none
      | none => none
    | _, _ => none
  | .call c => match c.callee with
    | .builtin .len => match c.args.toList, c.argTypes.toList with
      | [x], [t] => match TD t with
        | some ⟨.slice _, _, _, _⟩ => lenC (σ.ev x) σ.h fun v => κ v σ.h
        | _ => none
      | _, _ => none
    | .builtin .min => match c.args.toList.map σ.ev with
      | x :: r => minmaxC false x r fun v => κ v σ.h
      | [] => none
    | .builtin .max => match c.args.toList.map σ.ev with
      | x :: r => minmaxC true x r fun v => κ v σ.h
      | [] => none
    | .builtin .append => match c.args.toList, c.argTypes.toList with
      | [s, x], [t, u] => bif Nat.beq t u then
        match TD t with
        | some ⟨.slice e, _, _, _⟩ => match TD e with
          | some ⟨_, 1, b, ze⟩ => bif decide (b ≤ 64) && notAgg ze then appC (σ.ev s) (σ.ev x) σ.h κ else none
          | _ => none
        | _ => none
        else none
      | _, _ => none
    | .value (.func f) => K f (c.args.toList.map σ.ev) σ.h κ
    | _ => none
  | _ => none

/-- The operations of a region in their order. -/
def opsC (ops : Array Oper) : List Oper → St → (St → R) → R
  | [], σ, κ => κ σ
  | o :: r, σ, κ =>
    match o.guard with
    | none => opC TD K o σ fun v h => opsC ops r (St.put { σ with h } o.dst v) κ
    | some (j, want) => match (ops[j]?).bind (·.dst) with
      | some t => match getT σ.t t with
        | .bool b =>
          bif b then
            (bif want then opC TD K o (σ.put (some t) (.bool true)) fun v h => opsC ops r (St.put { σ.put (some t) (.bool true) with h } o.dst v) κ
             else opsC ops r ((σ.put (some t) (.bool true)).put o.dst (.tup [])) κ)
          else
            (bif want then opsC ops r ((σ.put (some t) (.bool false)).put o.dst (.tup [])) κ
             else opC TD K o (σ.put (some t) (.bool false)) fun v h => opsC ops r (St.put { σ.put (some t) (.bool false) with h } o.dst v) κ)
        | .tup [] => opsC ops r (σ.put o.dst (.tup [])) κ
        | _ => none
      | none => none

/-- Of two ways, the one that is known. -/
inductive X where
  | normal
  | exit (id : Nat)
  | ret

/-- The first region's number. -/
def headId : Code → Nat
  | .region id _ _ => id
  | .seq a _ => headId a
  | .block _ c => headId c
  | .loop c => headId c
  | .scope c => headId c
  | _ => 0

/-- The own blocks that a value names. -/
def V.ids0 : V → List Nat
  | .own id => [id]
  | .sub id _ _ => [id]
  | .ptr id _ => [id]
  | _ => []
def V.ids : V → List Nat
  | .agg vs => vs.flatMap V.ids0
  | v => v.ids0
def E.ids : E → List Nat
  | .cells vs => vs.flatMap V.ids0
  | _ => []

def reName (ids : List Nat) (n : Nat) : Option Nat := ids.idxOf? n
def V.re0 (ids : List Nat) : V → V
  | .own id => match reName ids id with | some j => .own j | none => .junk
  | .sub id o n => match reName ids id with | some j => .sub j o n | none => .junk
  | .ptr id o => match reName ids id with | some j => .ptr j o | none => .junk
  | .agg _ => .junk
  | .tup _ => .junk
  | v => v
def V.re (ids : List Nat) : V → V
  | .agg vs => .agg (vs.map (V.re0 ids))
  | v => V.re0 ids v
def E.re (ids : List Nat) : E → E
  | .cells vs => .cells (vs.map (V.re0 ids))
  | e => e

def addIds : List Nat → List Nat → List Nat
  | [], acc => acc
  | x :: r, acc => addIds r (bif acc.any (Nat.beq x) then acc else acc ++ [x])

/-- What stays of a state: some temporaries, the first m blocks, and those that are named. -/
def keepIds (m : Nat) (vs : List V) (h : List E) : List Nat :=
  let ids1 := vs.foldl (fun acc v => addIds v.ids acc) (List.range m)
  ids1.foldl (fun acc i => addIds (getE h i).ids acc) ids1
def norm (m : Nat) (live : List Nat) (σ : St) : St :=
  let vs := live.map fun t => getT σ.t t
  let ids := keepIds m vs σ.h
  { n := σ.n, t := live.map fun t => (t, (getT σ.t t).re ids), h := ids.map fun i => (getE σ.h i).re ids }

def iterC (m : Nat) (f : St → (X → St → R) → R) (live out : List Nat) : Nat → St → (X → St → R) → R
  | 0, _, _ => none
  | n + 1, σ, k => f σ fun x σ' => match x with
    | .normal => iterC m f live out n (norm m live σ') k
    | x => k x (norm m out σ')

variable (ann : Nat → List Nat × List Nat) (drawOk : Array Oper → Bool) (m fuel : Nat)

/-- Where two ways meet, what is not used any more may be left out. -/
def nrmS (b : Code) (σ : St) : St := match (ann (headId b + 100000)).2 with
  | [] => σ
  | _ :: _ => norm m (ann (headId b + 100000)).1 σ
def seqK (b : Code) (f : St → R) (k : X → St → R) : X → St → R := fun x σ' => match x with
  | .normal => f (nrmS ann m b σ')
  | x => k x σ'
def denC : Code → St → (X → St → R) → R
  | .skip, σ, k => k .normal σ
  | .label _, σ, k => k .normal σ
  | .region _ ops draw, σ, k => bif draw && !drawOk ops then none else opsC TD K ops ops.toList σ fun σ' => k .normal σ'
  | .seq a b, σ, k => denC a σ (seqK ann m b (fun σ => denC b σ k) k)
  | .cond c a b, σ, k => match σ.ev c with
    | .bool t => bif t then denC a (σ.know c true) k else denC b (σ.know c false) k
    | _ => none
  | .block id c, σ, k => denC c σ fun x σ' => match x with
    | .exit j => bif Nat.beq j id then k .normal σ' else k (.exit j) σ'
    | x => k x σ'
  | .loop c, σ, k => iterC m (fun σ k => denC c σ k) (ann (headId c)).1 (ann (headId c)).2 fuel (norm m (ann (headId c)).1 σ) k
  | .exit id, σ, k => k (.exit id) σ
  | .ret, σ, k => k .ret σ
  | _, _, _ => none

/-- The body of a loop, by its first region. -/
def findLoop (id : Nat) : Code → Option Code
  | .seq a b => (findLoop id a).or (findLoop id b)
  | .cond _ a b => (findLoop id a).or (findLoop id b)
  | .block _ c => findLoop id c
  | .loop c => bif Nat.beq (headId c) id then some c else findLoop id c
  | _ => none

/-- One result of a function. -/
def resC (σ : St) : ResultVar → Option V
  | .tmp t => some (getT σ.t t)
  | .cell a t => match TD t with
    | some ⟨.struct _, n, _, _⟩ => match getT σ.t a with
      | .ptr id 0 => match getE σ.h id with
        | .cells vs => bif Nat.beq vs.length n then some (.agg vs) else none
        | _ => none
      | _ => none
    | _ => none
def resAll (σ : St) : List ResultVar → Option (List V)
  | [] => some []
  | r :: rs => match resC TD σ r, resAll σ rs with
    | some v, some vs => some (v :: vs)
    | _, _ => none

/-- May a value be handed on to the caller? -/
def V.out0 : V → Bool
  | .ro s _ => s
  | .ref _ => false
  | .agg _ | .tup _ => false
  | _ => true
def V.out1 : V → Bool
  | .agg vs => vs.all V.out0
  | v => v.out0
def E.out : E → Bool
  | .cells vs => vs.all V.out0
  | _ => true

/-- What a call hands back: the values, and the blocks that they name behind the first m. -/
def outC (m : Nat) (vs : List V) (h : List E) (κ : V → List E → R) : R :=
  let ids := keepIds m vs h
  let h' := ids.map fun i => (getE h i).re ids
  let vs' := vs.map fun v => v.re ids
  bif vs'.all V.out1 && h'.all E.out then
    (match vs' with
     | [v] => κ v h'
     | vs' => κ (.tup vs') h') else none

def argTs : Nat → List V → List (Nat × V)
  | _, [] => []
  | n, v :: r => (n, v) :: argTs (n + 1) r

/-- A whole function. -/
def funC (fn : Func) (args : List V) (h : List E) (κ : V → List E → R) : R :=
  match fn.body with
  | some c => denC TD K ann drawOk h.length fuel c { n := max fn.ntmps args.length, t := argTs 0 args, h } fun x σ => match x with
    | .exit _ => none
    | _ => match resAll TD σ fn.results.toList with
      | some vs => outC h.length vs σ.h κ
      | none => none
  | none => none

/-- Does the callee write into this row? (told by a pointer in place of the kind) -/
def rwD : TypeDesc → Bool
  | .pointer _ => true
  | _ => false
/-- What a call hands over: views of slices; blocks behind pointers, and rows that are written. -/
def passC (keep : Bool) (h : List E) : List TypeDesc → List V → List Nat → Option (List V × List Nat)
  | [], [], ids => some ([], ids)
  | d :: ds, v :: r, ids =>
    match v with
    | .ro s l => (passC keep h ds r ids).map fun p => (.ro (s && keep) l :: p.1, p.2)
    | .own id => match getE h id with
      | .row l => bif rwD d then (bif ids.any (Nat.beq id) then none else (passC keep h ds r (ids ++ [id])).map fun p => (.own ids.length :: p.1, p.2))
        else (passC keep h ds r ids).map fun p => (.ro false l :: p.1, p.2)
      | _ => none
    | .sub id o n => match getE h id with
      | .row l => (passC keep h ds r ids).map fun p => (.ro false (l.cut o n) :: p.1, p.2)
      | _ => none
    | .nil => match emptyRow d with
      | some l => (passC keep h ds r ids).map fun p => (.ro false l :: p.1, p.2)
      | none => none
    | .ptr id 0 => bif ids.any (Nat.beq id) then none else match getE h id with
      | .cells vs => bif vs.all (fun v => v.ids0.isEmpty && v.flat && v.out0) then (passC keep h ds r (ids ++ [id])).map fun p => (.ptr ids.length 0 :: p.1, p.2) else none
      | _ => none
    | .int k n => (passC keep h ds r ids).map fun p => (.int k n :: p.1, p.2)
    | .bool b => (passC keep h ds r ids).map fun p => (.bool b :: p.1, p.2)
    | .str s => (passC keep h ds r ids).map fun p => (.str s :: p.1, p.2)
    | .agg vs => bif vs.all (fun v => v.ids0.isEmpty && v.flat && v.out0) then (passC keep h ds r ids).map fun p => (.agg vs :: p.1, p.2) else none
    | _ => none
  | _, _, _ => none

/-- The callee's blocks under the caller's numbers. -/
def mapId (ids : List Nat) (len : Nat) (j : Nat) : Nat := bif Nat.blt j ids.length then ids.getD j 0 else len + (j - ids.length)
def V.sh0 (ids : List Nat) (len : Nat) : V → V
  | .own id => .own (mapId ids len id)
  | .sub id o n => .sub (mapId ids len id) o n
  | .ptr id o => .ptr (mapId ids len id) o
  | .agg _ | .tup _ => .junk
  | v => v
def V.sh1 (ids : List Nat) (len : Nat) : V → V
  | .agg vs => .agg (vs.map (V.sh0 ids len))
  | v => v.sh0 ids len
def V.sh (ids : List Nat) (len : Nat) : V → V
  | .tup vs => .tup (vs.map (V.sh1 ids len))
  | v => v.sh1 ids len
def E.sh (ids : List Nat) (len : Nat) : E → E
  | .cells vs => .cells (vs.map (V.sh0 ids len))
  | e => e
def backE : List Nat → List E → List E → List E
  | i :: is, e :: es, h => backE is es (h.set i e)
  | _, _, h => h

/-- No row that is written is also looked at. -/
def apartC : List TypeDesc → List V → List Nat → Bool
  | d :: ds, v :: r, ids => (match v with
    | .own id => rwD d || !ids.any (Nat.beq id)
    | .sub id _ _ => !ids.any (Nat.beq id)
    | _ => true) && apartC ds r ids
  | _, _, _ => true
def passA (keep : Bool) (h : List E) (ds : List TypeDesc) (args : List V) : Option (List V × List Nat) :=
  match passC keep h ds args [] with
  | some p => bif apartC ds args p.2 then some p else none
  | none => none
theorem passA_is {keep : Bool} {h : List E} {ds : List TypeDesc} {args : List V} {p : List V × List Nat} (hp : passA keep h ds args = some p) : passC keep h ds args [] = some p ∧ apartC ds args p.2 = true := by
  unfold passA at hp
  split at hp
  · rename_i q hq
    cases ha : apartC ds args q.2 with
    | false => rw [ha] at hp; cases hp
    | true => rw [ha] at hp; cases hp; exact ⟨hq, ha⟩
  · cases hp

/-- A call by what is known of the callee. -/
def callC (keep : Bool) (ds : List TypeDesc) (sp : List V → List E → (V → List E → R) → R) (args : List V) (h : List E) (κ : V → List E → R) : R :=
  match passA keep h ds args with
  | some (args', ids) => sp args' (ids.map (getE h)) fun v h1 =>
      κ (v.sh ids h.length) (backE ids ((h1.take ids.length).map (E.sh ids h.length)) h ++ (h1.drop ids.length).map (E.sh ids h.length))
  | none => none

end Go.Proofs.Ytonbbeplmjidnaa.D
