/- A small logic for the functions of the program: values and memory as plain data, and what is to be shown of a code, reckoned from its text. Nothing of the translation is named here. -/
import Derived.WalkKit
import Derived.Lib.Hide
import Derived.StillTail
set_option linter.unusedVariables false
namespace Go.Proofs.Ytojfjcbblkiajaa

/-- Values as plain data. 'ints': a row of numbers of one kind; 'pair', 'unit': the parts of a struct; a pointer goes to a part of a block (by the numbers of fields; that part begins at 'base'), and a place in that part. -/
inductive SV where
  | int (k : IntKind) (n : Int)
  | bool (b : Bool)
  | str (s : ByteArray)
  | ints (k : IntKind) (n : Nat) (v : Nat → Int)
  | unit
  | pair (a b : SV)
  | ptr (id : Nat) (path : List Nat) (base off : Nat)
  | sl (id off len cap : Nat)
  | nilsl
  | nilp
  | tnil
  | tcons (a b : SV)
  | fn (f : Nat)
  | nilf
  /-- n cells, each told by its place: slices, pointers and the like -/
  | vec (n : Nat) (h : Nat → SV)
  | undef

inductive TI where
  | scalar
  | int (k : IntKind)
  | arr (len es : Nat) (elemAgg : Bool)
  | struct (offs : List Nat) (total : Nat)
  | slice (es : Nat)
  | other

/-- the number of cells of an array or a struct -/
def TI.agg : TI → Option Nat
  | .arr len es _ => some (len * es)
  | .struct _ n => some n
  | _ => none

def TI.known : TI → Bool
  | .other => false
  | _ => true

/-- a field of a struct: a number, or a row of numbers -/
inductive FK where
  | int (k : IntKind)
  | row (k : IntKind) (n : Nat)
  | slice
  | scal

structure Tab where
  ti : Nat → TI
  zero : Nat → Option SV
  eqs : Nat → Bool
  elem0 : Nat → Option SV
  flds : Nat → Option (List FK)
  /-- of a slice's type: the bytes of an element; where it is told, the slice may be appended to -/
  app : Nat → Option Nat := fun _ => none
  /-- how many blocks are the caller's -/
  own : Nat := 0
  /-- functions that are called over all blocks as they are -/
  direct : Nat → Bool := fun _ => false

def SV.size : SV → Nat
  | .ints _ n _ => n
  | .vec n _ => n
  | .unit => 0
  | .pair a b => a.size + b.size
  | _ => 1

abbrev Slots := List (Nat × SV)
/-- the blocks that are known: what lies at the block's head, and how many cells it has in all -/
abbrev Mem := List (Option (SV × Nat))
structure St where
  slots : Slots
  mem : Mem

def lk : Slots → Nat → Option SV
  | [], _ => none
  | (t, v) :: r, k => match Nat.beq t k with | true => some v | false => lk r k

/-- a slot gets a value, where the frame (of N slots) has it -/
def sset (N : Nat) (s : Slots) (d : Option Nat) (v : SV) : Slots := match d with | some d => (match Nat.blt d N with | true => (d, v) :: s | false => []) | none => s

def ofConst : Value → Option SV
  | .bool b => some (.bool b)
  | .int k n => some (.int k n)
  | .string s => some (.str s)
  | .slice none 0 0 => some .nilsl
  | .pointer none => some .nilp
  | _ => none

def ev (s : Slots) : Operand → Option SV
  | .tmp t => lk s t
  | .const v => ofConst v
  | .func f => some (.fn f)
  | .global _ => none

def evs (s : Slots) : List Operand → Option (List SV)
  | [] => some []
  | x :: r => match ev s x, evs s r with | some v, some l => some (v :: l) | _, _ => none

def SV.fieldOf : SV → Nat → Option (SV × Nat)
  | .pair a _, 0 => some (a, 0)
  | .pair a b, k + 1 => match b.fieldOf k with | some (c, o) => some (c, a.size + o) | none => none
  | _, _ => none
/-- a part, and how many cells lie before it -/
def SV.part : SV → List Nat → Option (SV × Nat)
  | v, [] => some (v, 0)
  | v, k :: r => match v.fieldOf k with | some (c, o) => (match c.part r with | some (d, o') => some (d, o + o') | none => none) | none => none
def SV.setField : SV → Nat → SV → SV
  | .pair _ b, 0, c => .pair c b
  | .pair a b, k + 1, c => .pair a (b.setField k c)
  | v, _, _ => v
def SV.setPart : SV → List Nat → SV → SV
  | _, [], c => c
  | v, k :: r, c => match v.fieldOf k with | some (x, _) => v.setField k (x.setPart r c) | none => v

def blockOf : Mem → Nat → Option (SV × Nat)
  | [], _ => none
  | x :: _, 0 => x
  | _ :: r, k + 1 => blockOf r k
def setBlock : Mem → Nat → SV → Mem
  | [], _, _ => []
  | some (_, c) :: r, 0, v => some (v, c) :: r
  | none :: r, 0, _ => none :: r
  | x :: r, k + 1, v => x :: setBlock r k v

def updR (f : Nat → Int) (off m : Nat) (g : Nat → Int) : Nat → Int := fun j => if off ≤ j ∧ j < off + m then g (j - off) else f j
def upd1 (f : Nat → Int) (off : Nat) (x : Int) : Nat → Int := fun j => if j = off then x else f j

def ikEq : IntKind → IntKind → Bool
  | .i8, .i8 | .i16, .i16 | .i32, .i32 | .i64, .i64 | .u8, .u8 | .u16, .u16 | .u32, .u32 | .u64, .u64 => true
  | _, _ => false
/-- a check that is reckoned -/
def chk (b : Bool) (X : Prop) : Prop := match b with | true => X | false => False

def SV.leaf : SV → Bool
  | .int _ _ | .bool _ | .str _ | .ptr _ _ _ _ | .sl _ _ _ _ | .nilsl | .nilp | .fn _ | .nilf => true
  | _ => false

/-- one cell that leads to no block -/
def SV.plain : SV → Bool
  | .int _ _ | .bool _ | .str _ | .nilp | .fn _ | .nilf => true
  | _ => false
def SV.isPair : SV → Bool
  | .pair _ _ => true
  | _ => false
/-- an array of structs: parts that are equally long -/
def arrZ (es : Nat) : SV → Bool
  | .unit => true
  | .pair a b => Nat.beq a.size es && arrZ es b
  | _ => false

def SV.wf : SV → Bool
  | .ints _ _ _ | .unit => true
  | .pair a b => a.wf && b.wf
  | x => x.leaf

def updV (h : Nat → SV) (off : Nat) (x : SV) : Nat → SV := fun j => if j = off then x else h j

/-- what stands at a place of a part -/
def getAt (ag : Option Nat) (sub : SV) (off : Nat) (K : SV → Prop) : Prop :=
  match sub, ag with
  | .ints k n v, some m => off + m ≤ n ∧ K (.ints k m fun j => v (j + off))
  | .ints k n v, none => off < n ∧ K (.int k (v off))
  | .vec n h, none => off < n ∧ (h off).leaf = true ∧ K (h off)
  | .pair a b, some m => chk (Nat.beq off 0 && Nat.beq (SV.pair a b).size m) (K (.pair a b))
  | x, none => chk (Nat.beq off 0 && x.leaf) (K x)
  | _, _ => False

def putAt (ag : Option Nat) (sub : SV) (off : Nat) (x : SV) (K : SV → Prop) : Prop :=
  match sub, ag, x with
  | .ints k n v, some m, .ints k' m' g => chk (ikEq k k' && Nat.beq m m') (off + m ≤ n ∧ K (.ints k n (updR v off m g)))
  | .ints k n v, none, .int k' y => chk (ikEq k k') (off < n ∧ K (.ints k n (upd1 v off y)))
  | .vec n h, none, y => chk y.leaf (off < n ∧ K (.vec n (updV h off y)))
  | .pair a b, some m, .pair c d => chk (Nat.beq off 0 && Nat.beq (SV.pair a b).size m && Nat.beq (SV.pair c d).size m && (SV.pair c d).wf) (K (.pair c d))
  | x, none, y => chk (Nat.beq off 0 && x.leaf && y.leaf) (K y)
  | _, _, _ => False

def ifVC (b : Bool) (X Y : Prop) : Prop := match b with | true => X | false => Y

def fitsF : List FK → SV → Bool
  | [], .unit => true
  | .int k :: r, .pair (.int k' _) b => ikEq k k' && fitsF r b
  | .row k n :: r, .pair (.ints k' n' _) b => ikEq k k' && Nat.beq n n' && fitsF r b
  | _, _ => false

/-- a struct's zero value, that parts can be laid into: slices may be among the fields -/
def fitsB : List FK → SV → Bool
  | [], .unit => true
  | .int k :: r, .pair (.int k' _) b => ikEq k k' && fitsB r b
  | .row k n :: r, .pair (.ints k' n' _) b => ikEq k k' && Nat.beq n n' && fitsB r b
  | .slice :: r, .pair .nilsl b => fitsB r b
  | .scal :: r, .pair x b => x.plain && fitsB r b
  | _, _ => false

def allEq (n : Nat) (v w : Nat → Int) : Bool := (List.range n).all fun i => v i == w i

/-- whether structs of numbers and rows of numbers are equal -/
def eqP : SV → SV → Bool
  | .pair (.int _ x) b, .pair (.int _ y) d => (x == y) && eqP b d
  | .pair (.ints _ n v) b, .pair (.ints _ _ u) d => allEq n v u && eqP b d
  | .unit, .unit => true
  | _, _ => false

def arith (op : BinOp) (k : IntKind) (a b : Int) (K : SV → Prop) : Prop :=
  match op with
  | .add => K (.int k (k.wrap (a + b)))
  | .sub => K (.int k (k.wrap (a - b)))
  | .mul => K (.int k (k.wrap (a * b)))
  | .quo => b ≠ 0 ∧ K (.int k (k.wrap (a.tdiv b)))
  | .rem => b ≠ 0 ∧ K (.int k (a.tmod b))
  | .eql => K (.bool (a == b))
  | .neq => K (.bool (a != b))
  | .lss => K (.bool (decide (a < b)))
  | .leq => K (.bool (decide (a ≤ b)))
  | .gtr => K (.bool (decide (a > b)))
  | .geq => K (.bool (decide (a ≥ b)))
  | .and => K (.int k (k.wrap ((BitVec.ofInt k.bits a &&& BitVec.ofInt k.bits b).toNat : Nat)))
  | .shr => 0 ≤ b ∧ K (.int k (a.fdiv (2 ^ (min b.toNat k.bits))))
  | _ => False

def eqVC (T : Tab) (t : Nat) (x y : SV) (K : Bool → Prop) : Prop :=
  match x, y with
  | .bool a, .bool b => match T.ti t with | .scalar => chk (T.eqs t) (K (a == b)) | _ => False
  | .ints k n v, .ints k' m w => match (T.ti t).agg with | some n' => chk (ikEq k k' && Nat.beq n m && Nat.beq n' n && T.eqs t) (K (allEq n v w)) | none => False
  | .sl _ _ _ _, .nilsl => match T.ti t with | .slice _ => chk (T.eqs t) (K false) | _ => False
  | .nilsl, .nilsl => match T.ti t with | .slice _ => chk (T.eqs t) (K true) | _ => False
  | .pair a b, .pair c d => match T.flds t with | some fs => chk (fitsF fs (.pair a b) && fitsF fs (.pair c d)) (K (eqP (.pair a b) (.pair c d))) | none => False
  | _, _ => False

def eqnVC (T : Tab) (op : BinOp) (t : Nat) (x y : SV) (K : SV → Prop) : Prop :=
  match op with
  | .eql => eqVC T t x y fun b => K (.bool b)
  | .neq => eqVC T t x y fun b => K (.bool (!b))
  | _ => False
def binVC (T : Tab) (op : BinOp) (t : Nat) (x y : SV) (K : SV → Prop) : Prop :=
  match x, y with
  | .int k a, .int k' b => chk (ikEq k k') (arith op k a b K)
  | x, y => eqnVC T op t x y K

def SV.isTup : SV → Bool
  | .tnil | .tcons _ _ => true
  | _ => false
def tupleAt : SV → Nat → Option SV
  | .tcons a _, 0 => (match a.isTup with | true => none | false => some a)
  | .tcons _ b, k + 1 => tupleAt b k
  | _, _ => none

/-- one field's value in place of another -/
def sameKind : SV → SV → Bool
  | .int k _, .int k' _ => ikEq k k'
  | .ints k n _, .ints k' n' _ => ikEq k k' && Nat.beq n n'
  | .nilsl, .nilsl | .nilsl, .sl _ _ _ _ => true
  | .bool _, .bool _ | .nilf, .nilf | .nilf, .fn _ => true
  | .pair a b, .pair c d => Nat.beq (SV.pair c d).size (SV.pair a b).size
  | _, _ => false
/-- parts laid into a zero value: of a struct by fields -/
def fillP : SV → List (Nat × SV) → (SV → Prop) → Prop
  | z, [], K => K z
  | z, (i, v) :: r, K => match z.fieldOf i with
    | some (x, _) => chk (sameKind x v) (fillP (z.setField i v) r K)
    | none => False
/-- of an array of numbers by places -/
def fillA (k : IntKind) (n es : Nat) : (Nat → Int) → List (Nat × SV) → ((Nat → Int) → Prop) → Prop
  | f, [], K => K f
  | f, (i, .int k' y) :: r, K => chk (ikEq k k' && Nat.beq es 1 && Nat.ble (i * es + 1) n) (fillA k n es (upd1 f (i * es) y) r K)
  | f, (i, .ints k' m g) :: r, K => chk (ikEq k k' && Nat.beq m es && Nat.ble (i * es + es) n) (fillA k n es (updR f (i * es) es g) r K)
  | _, _ :: _, _ => False

def evParts (s : Slots) : List (Nat × Operand) → Option (List (Nat × SV))
  | [] => some []
  | (i, x) :: r => match ev s x, evParts s r with | some v, some l => some ((i, v) :: l) | _, _ => none

/-- a bound of a slice, where one is told -/
def evB (s : Slots) : Option Operand → Option (Option Int)
  | none => some none
  | some x => match ev s x with | some (.int _ i) => some (some i) | _ => none
/-- a part of a row -/
def cutVC (es : Nat) (lo hi : Option Int) (id off len cap : Nat) (K : SV → Prop) : Prop :=
  match lo, hi with
  | none, none => K (.sl id off len cap)
  | none, some h => (0 ≤ h ∧ h ≤ cap) ∧ K (.sl id off h.toNat cap)
  | some l, none => (0 ≤ l ∧ l ≤ len ∧ l < cap) ∧ K (.sl id (l.toNat * es + off) (len - l.toNat) (cap - l.toNat))
  | some l, some h => (0 ≤ l ∧ l ≤ h ∧ h ≤ cap ∧ l < cap) ∧ K (.sl id (l.toNat * es + off) (h.toNat - l.toNat) (cap - l.toNat))

/-- An operation that is no call, where nothing is written and nothing is made: what it yields. -/
def readVC (T : Tab) (op : Op) (s : Slots) (mem : Mem) (K : SV → Prop) : Prop :=
  match op with
  | .move x | .assign x => match ev s x with | some v => K v | none => False
  | .pick c a b => match ev s c, ev s a, ev s b with
    | some (.bool true), some v, _ => K v
    | some (.bool false), _, some v => K v
    | _, _, _ => False
  | .load t a => match ev s a with
    | some (.ptr id path base off) => match blockOf mem id with
      | some (blk, _) => match blk.part path with
        | some (sub, o) => chk (Nat.beq o base && (T.ti t).known) (getAt (T.ti t).agg sub off K)
        | none => False
      | none => False
    | _ => False
  | .nilCheck x => match ev s x with | some (.ptr id path base off) => K (.ptr id path base off) | _ => False
  | .binOp op t x y _ => match ev s x, ev s y with | some a, some b => binVC T op t a b K | _, _ => False
  | .unOp op _ x => match op, ev s x with
    | .not, some (.bool b) => K (.bool !b)
    | .neg, some (.int k n) => K (.int k (k.wrap (0 - n)))
    | _, _ => False
  | .convert src dst x => match T.ti src, T.ti dst, ev s x with
    | .int _, .int k, some (.int _ n) => K (.int k (k.wrap n))
    | _, _, _ => False
  | .fieldAddr t x f => match T.ti t, ev s x with
    | .struct offs _, some (.ptr id path base 0) => match offs[f]? with
      | some o => K (.ptr id (path ++ [f]) (base + o) 0)
      | none => False
    | _, _ => False
  | .indexAddr t x ix => match T.ti t, ev s x, ev s ix with
    | .arr len es _, some (.ptr id path base off), some (.int _ i) => (0 ≤ i ∧ i < len) ∧ K (.ptr id path base (i.toNat * es + off))
    | .slice es, some (.sl id off len _), some (.int _ i) => (0 ≤ i ∧ i < len) ∧ K (.ptr id [] 0 (i.toNat * es + off))
    | _, _, _ => False
  | .index t x ix => match T.ti t, ev s x, ev s ix with
    | .arr len es eag, some (.ints k n v), some (.int _ i) => chk (Nat.beq n (len * es)) ((0 ≤ i ∧ i < len) ∧
        (match eag with | true => K (.ints k es fun j => v (j + i.toNat * es)) | false => chk (Nat.beq es 1) (K (.int k (v i.toNat)))))
    | .arr len es true, some (.pair a b), some (.int _ i) => chk (arrZ es (.pair a b)) ((0 ≤ i ∧ i < len) ∧ ∃ c o, (SV.pair a b).fieldOf i.toNat = some (c, o) ∧ chk c.isPair (K c))
    | _, _, _ => False
  | .extract t i => match ev s t with
    | some v => match tupleAt v i with | some x => K x | none => False
    | none => False
  | .slice t x none none none => match T.ti t, ev s x with
    | .arr len es _, some (.ptr id [] 0 off) => K (.sl id off len len)
    | .slice es, some (.sl id off len cap) => K (.sl id off len cap)
    | _, _ => False
  | .slice t x lo hi none => match T.ti t, evB s lo, evB s hi, ev s x with
    | .arr len es _, some lo, some hi, some (.ptr id [] 0 off) => cutVC es lo hi id off len len K
    | .slice es, some lo, some hi, some (.sl id off len cap) => cutVC es lo hi id off len cap K
    | .slice _, some none, some (some h), some .nilsl => h = 0 ∧ K .nilsl
    | _, _, _, _ => False
  | .slice t x none (some h) (some mx) => match T.ti t, ev s x, ev s h, ev s mx with
    | .slice _, some (.sl id off _ cap), some (.int _ h), some (.int _ mx) => (0 ≤ h ∧ h ≤ mx ∧ mx ≤ cap) ∧ K (.sl id off h.toNat mx.toNat)
    | _, _, _, _ => False
  | .sliceToArrayPointer t x => match T.ti t, ev s x with
    | .arr len _ _, some (.sl id off n _) => len ≤ n ∧ K (.ptr id [] 0 off)
    | _, _ => False
  | .build t parts => match T.zero t, evParts s parts.toList with
    | some (.ints k n f), some l => match T.ti t with
      | .arr len es _ => chk (Nat.beq n (len * es)) (fillA k n es f l fun g => K (.ints k n g))
      | _ => False
    | some (.pair a b), some l => match T.ti t with
      | .arr _ es _ => chk (arrZ es (.pair a b)) (fillP (.pair a b) l K)
      | _ => match T.flds t with
        | some ks => chk (fitsB ks (.pair a b)) (fillP (.pair a b) l K)
        | none => False
    | _, _ => False
  | .field t x f => match T.flds t, ev s x with
    | some ks, some v => chk (fitsF ks v) (match v.fieldOf f with | some (c, _) => K c | none => False)
    | _, _ => False
  | .call c => match c.callee, c.argTypes[0]?, evs s c.args.toList with
    | .builtin .len, some t, some [x] => match T.ti t, x with
      | .slice _, .sl _ _ len _ => K (.int .i64 len)
      | .slice _, .nilsl => K (.int .i64 0)
      | _, _ => False
    | .builtin .cap, some t, some [x] => match T.ti t, x with
      | .slice _, .sl _ _ _ cap => K (.int .i64 cap)
      | .slice _, .nilsl => K (.int .i64 0)
      | _, _ => False
    | .builtin .min, some _, some [.int k x, .int _ y] => K (.int k (if y < x then y else x))
    | _, _, _ => False
  | _ => False

def SV.boxable : SV → Bool
  | .ints _ _ _ | .vec _ _ | .pair _ _ => true
  | x => x.leaf

/-- an element's zero value as numbers -/
def elemRow : SV → Option (IntKind × Nat × (Nat → Int))
  | .ints k m f => some (k, m, f)
  | .int k y => some (k, 1, fun _ => y)
  | _ => none

/-- what n elements in a row are that hold their zero value -/
def zeros (n : Nat) : SV → Option SV
  | .int k y => some (.ints k n fun _ => y)
  | .ints k m f => some (.ints k (n * m) fun j => f (j % m))
  | .nilsl => some (.vec n fun _ => .nilsl)
  | _ => none

/-- cells told by their place, laid one by one -/
def fillV (n : Nat) : (Nat → SV) → List (Nat × SV) → ((Nat → SV) → Prop) → Prop
  | h, [], K => K h
  | h, (i, v) :: r, K => chk (v.leaf && Nat.blt i n) (fillV n (updV h i v) r K)

/-- An operation that makes a block: what the block holds, and what is yielded when it has a number. -/
def newVC (T : Tab) (op : Op) (s : Slots) (K : SV → (Nat → SV) → Prop) : Prop :=
  match op with
  | .alloc t => match T.zero t with | some z => chk z.boxable (K z (fun id => .ptr id [] 0 0)) | none => False
  | .box _ x => match ev s x with | some v => chk v.boxable (K v (fun id => .ptr id [] 0 0)) | none => False
  | .buildSlice t len parts => match T.ti t, (T.elem0 t).bind elemRow, evParts s parts.toList with
    | .slice es, some (k, m, f), some l => chk (Nat.beq m es && Nat.blt 0 es && Nat.ble (len * es) 16777216) (fillA k (len * es) es (fun j => f (j % es)) l fun g => K (.ints k (len * es) g) (fun id => .sl id 0 len len))
    | .slice es, none, some l => match T.elem0 t with
      | some .nilsl => chk (Nat.beq es 1 && Nat.ble len 16777216) (fillV len (fun _ => .nilsl) l fun h => K (.vec len h) (fun id => .sl id 0 len len))
      | _ => False
    | _, _, _ => False
  | .makeSlice t l c => match T.ti t, T.app t, T.elem0 t, ev s l, ev s c with
    | .slice _, some by_, some z, some (.int _ l), some (.int _ c) => match zeros c.toNat z with
      | some v => (0 ≤ l ∧ l ≤ c ∧ by_ * c.toNat ≤ 140737488355328 ∧ c ≤ 4611686018427387904) ∧ K v (fun id => .sl id 0 l.toNat c.toNat)
      | none => False
    | _, _, _, _, _ => False
  | _ => False

def storeVC (T : Tab) (t : Nat) (a x : Option SV) (mem : Mem) (K : Mem → Prop) : Prop :=
  match a, x with
  | some (.ptr id path base off), some v => match blockOf mem id with
    | some (blk, _) => match blk.part path with
      | some (sub, o) => chk (Nat.beq o base && (T.ti t).known) (putAt (T.ti t).agg sub off v fun sub' => K (setBlock mem id (blk.setPart path sub')))
      | none => False
    | none => False
  | _, _ => False

/-! ### numbers as the model has them -/
def scal (μ : Nat → Nat) : SV → Value
  | .int k n => .int k n
  | .bool b => .bool b
  | .str s => .string s
  | .ptr id _ base off => .pointer (some ⟨μ id, base + off, none⟩)
  | .sl id off len cap => .slice (some ⟨μ id, off, none⟩) len cap
  | .nilsl => .slice none 0 0
  | .nilp => .pointer none
  | .fn f => .func (.func f) #[] #[]
  | .nilf => .nilFunc
  | _ => Go.undef
def flat (μ : Nat → Nat) : SV → List Value
  | .ints k n v => (List.range n).map fun i => .int k (v i)
  | .vec n h => (List.range n).map fun i => scal μ (h i)
  | .unit => []
  | .pair a b => flat μ a ++ flat μ b
  | x => [scal μ x]
def toVal (μ : Nat → Nat) : SV → Value
  | .ints k n v => .agg (flat μ (.ints k n v)).toArray
  | .vec n h => .agg (flat μ (.vec n h)).toArray
  | .unit => .agg #[]
  | .pair a b => .agg (flat μ (.pair a b)).toArray
  | .tnil => .tuple #[]
  | .tcons a b => .tuple (tupVals μ (.tcons a b)).toArray
  | x => scal μ x
where tupVals (μ : Nat → Nat) : SV → List Value
  | .tcons a b => (match a with
      | .ints k n v => .agg (flat μ (.ints k n v)).toArray
      | .vec n h => .agg (flat μ (.vec n h)).toArray
      | .unit => .agg #[]
      | .pair a b => .agg (flat μ (.pair a b)).toArray
      | x => scal μ x) :: tupVals μ b
  | _ => []

def SV.ids1 : SV → List Nat
  | .ptr id _ _ _ => [id]
  | .sl id _ _ _ => [id]
  | _ => []
def SV.ids : SV → List Nat
  | .vec n h => (List.range n).flatMap fun i => (h i).ids1
  | .ptr id _ _ _ => [id]
  | .sl id _ _ _ => [id]
  | .pair a b => a.ids ++ b.ids
  | .tcons a b => a.ids ++ b.ids
  | _ => []
/-- the known blocks lie in the world -/
structure MR (μ : Nat → Nat) (m : Mem) (w : World) : Prop where
  blk : ∀ id v c, blockOf m id = some (v, c) → ∃ t ex, w.heap[μ id]? = some (.cells (flat μ v ++ ex).toArray t (0, 0)) ∧ (flat μ v).length + ex.length = c
  inj : ∀ i j, (blockOf m i).isSome = true → (blockOf m j).isSome = true → μ i = μ j → i = j
  ids : ∀ id v c, blockOf m id = some (v, c) → ∀ i ∈ v.ids, i < m.length

/-- what a call leaves of a world: all blocks that are not known are as they were; no more than new ones are there -/
structure Kept (μ : Nat → Nat) (m : Mem) (w w' : World) : Prop where
  size : w.heap.size ≤ w'.heap.size
  old : ∀ b, b < w.heap.size → (∀ id, (blockOf m id).isSome = true → μ id ≠ b) → w'.heap[b]? = w.heap[b]?
  rest : w'.os = w.os ∧ w'.output = w.output ∧ w'.tape = w.tape
  fro : ∀ a, w'.frozen? a = w.frozen? a

/-- 'Called with these values, over these blocks, the function returns, and what it returns and leaves fits Q.' -/
structure Spec (P : Program) (f : Nat) (args : List SV) (m : Mem) (Q : SV → Mem → Prop) : Prop where
  enters : ∀ args w, (callFunc f args).run P w = .ok (.enter f args) w
  run : ∀ μ w, MR μ m w → Calls P f (args.map (toVal μ)).toArray w fun e w' =>
    ∃ μ' r m', e = .returned (toVal μ' r) ∧ Q r m' ∧ (∀ i ∈ r.ids, i < m'.length) ∧ (∀ id, id < m.length → μ' id = μ id) ∧ m.length ≤ m'.length ∧ (∀ id, m.length ≤ id → (blockOf m' id).isSome = true → w.heap.size ≤ μ' id) ∧ MR μ' m' w' ∧ Kept μ m w w'

/-! ### calls: only what the arguments lead to is handed on -/
def SV.ren1 (ρ : Nat → Nat) : SV → SV
  | .ptr id p b o => .ptr (ρ id) p b o
  | .sl id o l c => .sl (ρ id) o l c
  | x => x
def SV.ren (ρ : Nat → Nat) : SV → SV
  | .vec n h => .vec n fun i => (h i).ren1 ρ
  | .ptr id p b o => .ptr (ρ id) p b o
  | .sl id o l c => .sl (ρ id) o l c
  | .pair a b => .pair (a.ren ρ) (b.ren ρ)
  | .tcons a b => .tcons (a.ren ρ) (b.ren ρ)
  | x => x
def memN (l : List Nat) (x : Nat) : Bool := match l with | [] => false | y :: r => match Nat.beq y x with | true => true | false => memN r x
def dedup (acc : List Nat) : List Nat → List Nat
  | [] => acc
  | x :: r => match memN acc x with | true => dedup acc r | false => dedup (acc ++ [x]) r
def idsOf : List SV → List Nat
  | [] => []
  | a :: r => a.ids ++ idsOf r
def posIn : List Nat → Nat → Nat
  | [], _ => 0
  | y :: r, x => match Nat.beq y x with | true => 0 | false => posIn r x + 1
def nth : List Nat → Nat → Nat → Nat
  | [], base, j => base + j
  | y :: _, _, 0 => y
  | _ :: r, base, j + 1 => nth r base j
def subMem (m : Mem) : List Nat → Option Mem
  | [] => some []
  | i :: r => match blockOf m i, subMem m r with | some b, some l => some (some b :: l) | _, _ => none
def renBlk (ρ : Nat → Nat) : Option (SV × Nat) → Option (SV × Nat)
  | some (v, c) => some (v.ren ρ, c)
  | none => none
def backGo (ρ : Nat → Nat) (ids : List Nat) (m' : Mem) : Nat → Mem → Mem
  | _, [] => []
  | i, x :: r => (match memN ids i with | true => renBlk ρ (blockOf m' (posIn ids i)) | false => x) :: backGo ρ ids m' (i + 1) r
def backMem (ρ : Nat → Nat) (m : Mem) (ids : List Nat) (m' : Mem) : Mem := backGo ρ ids m' 0 m ++ (m'.drop ids.length).map (renBlk ρ)
/-- what the blocks of these numbers lead to -/
def contIds (m : Mem) : List Nat → List Nat
  | [] => []
  | i :: r => (match blockOf m i with | some (v, _) => v.ids | none => []) ++ contIds m r
def subN (ids : List Nat) : List Nat → Bool
  | [] => true
  | x :: r => match memN ids x with | true => subN ids r | false => false
/-- nothing leads out of these blocks -/
def closedMem (ids : List Nat) : Mem → Prop
  | [] => True
  | some (v, _) :: r => subN ids v.ids = true ∧ closedMem ids r
  | none :: r => closedMem ids r
def renMem (ρ : Nat → Nat) (m : Mem) : Mem := m.map (renBlk ρ)
/-- the blocks that arguments lead to, over two steps at most -/
def reach2 (m : Mem) (i : List Nat) : List Nat → List Nat
  | [] => i
  | c => dedup (dedup i c) (contIds m (dedup i c))
def reach1 (m : Mem) : List Nat → List Nat
  | [] => []
  | i => reach2 m i (contIds m i)
/-- reckoned to the end before it goes on -/
def forceL : List Nat → (List Nat → Prop) → Prop
  | [], K => K []
  | x :: r, K => forceL r fun r' => K (x :: r')
def forceV : SV → (SV → Prop) → Prop
  | .pair a b, K => forceV a fun a' => forceV b fun b' => K (.pair a' b')
  | .ints k n v, K => K (.ints k n v)
  | .int k n, K => K (.int k n)
  | .sl id o l c, K => K (.sl id o l c)
  | v, K => K v
def forceM : Mem → (Mem → Prop) → Prop
  | [], K => K []
  | some (v, c) :: r, K => forceV v fun v' => forceM r fun r' => K (some (v', c) :: r')
  | none :: r, K => forceM r fun r' => K (none :: r')

def callWith (P : Program) (f : Nat) (args : List SV) (m : Mem) (K : SV → Mem → Prop) (ids : List Nat) : Prop :=
  match subMem m ids with
  | some sub => closedMem ids sub ∧ Spec P f (args.map (SV.ren (posIn ids))) (renMem (posIn ids) sub) fun r m' => K (r.ren (nth ids m.length)) (backMem (nth ids m.length) m ids m')
  | none => False
def callIds (P : Program) (f : Nat) (args : List SV) (m : Mem) (K : SV → Mem → Prop) : List Nat → Prop
  | [] => callWith P f args m K []
  | x :: r => forceL (x :: r) fun i => forceM m fun m => forceL (reach1 m i) fun ids => callWith P f args m K ids
def callVC (P : Program) (f : Nat) (args : List SV) (m : Mem) (K : SV → Mem → Prop) : Prop := callIds P f args m K (dedup [] (idsOf args))

/-! ### append -/
/-- what is seen of the slots when the block b is another one from now on -/
def dropRef (b : Nat) : List Nat → Slots → Slots
  | _, [] => []
  | bad, (t, v) :: r => match memN bad t with
    | true => dropRef b bad r
    | false => match memN v.ids b with
      | true => dropRef b (t :: bad) r
      | false => (t, v) :: dropRef b bad r
/-- no block leads to the block b -/
def noRef (b : Nat) : Mem → Bool
  | [] => true
  | some (v, _) :: r => !memN v.ids b && noRef b r
  | none :: r => noRef b r
def putMem : Mem → Nat → SV → Nat → Mem
  | [], _, v, c => [some (v, c)]
  | _ :: r, 0, v, c => some (v, c) :: r
  | x :: r, k + 1, v, c => x :: putMem r k v c
/-- a block's number that is not in use: a forgotten one, or the next one -/
def freeAt : Mem → Nat → Bool
  | [], 0 => true
  | [], _ + 1 => false
  | none :: _, 0 => true
  | some _ :: _, 0 => false
  | _ :: r, k + 1 => freeAt r k
def appF (f : Nat → Int) (a off : Nat) (g : Nat → Int) : Nat → Int := fun j => if j < a then f j else g (j - a + off)
/-- rows of numbers behind the rows of a slice that is the function's own; the capacity is whatever it is -/
def appOn (T : Tab) (es by_ id2 off2 m2 : Nat) (k : IntKind) (g : Nat → Int) (a : SV) (s : Slots) (m : Mem) (K : SV → Slots → Mem → Prop) : Prop :=
  match a with
  | .sl b off n cap => match blockOf m b with
    | some (.ints k' n1 f, c) => chk (Nat.beq off 0 && ikEq k k' && !Nat.beq b id2 && Nat.ble T.own b && noRef b m)
        ((n * es ≤ n1 ∧ c = cap * es ∧ n ≤ cap ∧ (n + m2) * by_ ≤ 140737488355328 ∧ n + m2 ≤ 4611686018427387904) ∧
          ∀ cap', n + m2 ≤ cap' → K (.sl b 0 (n + m2) cap') (dropRef b [] s) (putMem m b (.ints k ((n + m2) * es) (appF f (n * es) off2 g)) (cap' * es)))
    | _ => False
  | .nilsl => (0 < m2 ∧ m2 * by_ ≤ 140737488355328 ∧ m2 ≤ 4611686018427387904) ∧ ∃ b, chk (Nat.ble T.own b && freeAt m b && noRef b m)
        (∀ cap', m2 ≤ cap' → K (.sl b 0 m2 cap') (dropRef b [] s) (putMem m b (.ints k (m2 * es) fun j => g (j + off2)) (cap' * es)))
  | _ => False
/-- a block that is no longer known -/
def forget : Mem → Nat → Mem
  | [], _ => []
  | _ :: r, 0 => none :: r
  | x :: r, k + 1 => x :: forget r k
/-- the same, where the row gets a new number and its old one is forgotten; what leads to the old one leads nowhere that is known -/
def appNew (T : Tab) (es by_ id2 off2 m2 : Nat) (k : IntKind) (g : Nat → Int) (a : SV) (s : Slots) (m : Mem) (K : SV → Slots → Mem → Prop) : Prop :=
  match a with
  | .sl b off n cap => match blockOf m b with
    | some (.ints k' n1 f, c) => chk (Nat.beq off 0 && ikEq k k' && Nat.ble T.own b)
        ((n * es ≤ n1 ∧ c = cap * es ∧ n ≤ cap ∧ (n + m2) * by_ ≤ 140737488355328 ∧ n + m2 ≤ 4611686018427387904) ∧
          ∀ cap', n + m2 ≤ cap' → K (.sl m.length 0 (n + m2) cap') s (forget m b ++ [some (.ints k ((n + m2) * es) (appF f (n * es) off2 g), cap' * es)]))
    | _ => False
  | _ => False
/-- what is appended to a slice without room lies in a new block -/
def appEmp (es by_ off2 m2 : Nat) (k : IntKind) (g : Nat → Int) (a : SV) (s : Slots) (m : Mem) (K : SV → Slots → Mem → Prop) : Prop :=
  chk (match a with | .sl _ _ n cap => Nat.beq n 0 && Nat.beq cap 0 | .nilsl => true | _ => false)
    ((0 < m2 ∧ m2 * by_ ≤ 140737488355328 ∧ m2 ≤ 4611686018427387904) ∧
      ∀ cap', m2 ≤ cap' → K (.sl m.length 0 m2 cap') s (m ++ [some (.ints k (m2 * es) (fun j => g (j + off2)), cap' * es)]))
def appVC (T : Tab) (t : Nat) (a x : SV) (s : Slots) (m : Mem) (K : SV → Slots → Mem → Prop) : Prop :=
  match T.ti t, T.app t, x with
  | .slice es, some by_, .sl id2 off2 m2 _ => match blockOf m id2 with
    | some (.ints k n2 g, _) => off2 + m2 * es ≤ n2 ∧ (appOn T es by_ id2 off2 m2 k g a s m K ∨ appNew T es by_ id2 off2 m2 k g a s m K ∨ appEmp es by_ off2 m2 k g a s m K)
    | _ => False
  | _, _, _ => False

/-- so many new elements behind nothing: append(nil, make(..)...) -/
def appMake (T : Tab) (t u : Nat) (a x : SV) (s : Slots) (m : Mem) (K : SV → Slots → Mem → Prop) : Prop :=
  match T.ti t, T.ti u, T.app t, T.elem0 t, a, x with
  | .slice es, .int _, some by_, some z, .nilsl, .int _ n => match zeros n.toNat z with
    | some v => (0 < n ∧ 0 < es ∧ n.toNat * by_ ≤ 140737488355328 ∧ n ≤ 4611686018427387904) ∧ ∀ cap', n.toNat ≤ cap' → K (.sl m.length 0 n.toNat cap') s (m ++ [some (v, cap' * es)])
    | none => False
  | _, _, _, _, _, _ => False
def appAny (T : Tab) (t u : Nat) (a x : SV) (s : Slots) (m : Mem) (K : SV → Slots → Mem → Prop) : Prop :=
  match Nat.beq t u with
  | true => appVC T t a x s m K
  | false => appMake T t u a x s m K

/-- no block is known anew under an old number -/
def liveP (m m' : Mem) : Prop := ∀ id, id < m.length → (blockOf m' id).isSome = true → (blockOf m id).isSome = true
theorem liveP.refl (m : Mem) : liveP m m := fun _ _ h => h

/-! ### regions -/
def oneVC (P : Program) (T : Tab) (N : Nat) (o : Oper) (s : Slots) (m : Mem) (K : Slots → Mem → Prop) : Prop :=
  match o.op with
  | .store t a x => storeVC T t (ev s a) (ev s x) m fun m' => K (sset N s o.dst .undef) m'
  | .alloc t => newVC T (.alloc t) s fun v mk => K (sset N s o.dst (mk m.length)) (m ++ [some (v, v.size)])
  | .box t x => newVC T (.box t x) s fun v mk => K (sset N s o.dst (mk m.length)) (m ++ [some (v, v.size)])
  | .buildSlice t n ps => newVC T (.buildSlice t n ps) s fun v mk => K (sset N s o.dst (mk m.length)) (m ++ [some (v, v.size)])
  | .makeSlice t l c => newVC T (.makeSlice t l c) s fun v mk => K (sset N s o.dst (mk m.length)) (m ++ [some (v, v.size)])
  | .call c => match c.callee with
    | .value x => match ev s x, evs s c.args.toList with
      | some (.fn f), some args => (match T.direct f with
        | false => callVC P f args m fun r m' => K (sset N s o.dst r) m'
        | true => Spec P f args m fun r m' => liveP m m' ∧ K (sset N s o.dst r) m')
      | _, _ => False
    | .builtin .append => match c.argTypes.toList, evs s c.args.toList with
      | [t, u], some [a, x] => appAny T t u a x s m fun v s' m' => K (sset N s' o.dst v) m'
      | _, _ => False
    | _ => readVC T (.call c) s m fun v => K (sset N s o.dst v) m
  | op => readVC T op s m fun v => K (sset N s o.dst v) m

def guardVC (ops : Array Oper) (N : Nat) (o : Oper) (s : Slots) (X : Slots → Prop) (Y : Slots → Prop) : Prop :=
  match o.guard with
  | none => X s
  | some (g, want) => match (ops[g]?).bind (·.dst) with
    | some t => match lk s t with
      | some (.bool b) => ifVC b (match want with | true => X ((t, .bool true) :: s) | false => Y ((t, .bool true) :: s)) (match want with | true => Y ((t, .bool false) :: s) | false => X ((t, .bool false) :: s))
      | some .undef => Y s
      | _ => False
    | none => False

def opsVC (P : Program) (T : Tab) (N : Nat) (ops : Array Oper) : List Oper → Slots → Mem → (Slots → Mem → Prop) → Prop
  | [], s, m, K => K s m
  | o :: r, s, m, K => guardVC ops N o s (fun s => oneVC P T N o s m fun s' m' => opsVC P T N ops r s' m' K) (fun s => opsVC P T N ops r (sset N s o.dst .undef) m K)

def isNew : Op → Bool
  | .alloc _ | .box _ _ | .buildSlice _ _ _ | .makeSlice _ _ _ => true
  | _ => false

/-- what makes a block and yields a pointer to it -/
def isPtr : Op → Bool
  | .alloc _ | .box _ _ => true
  | _ => false
/-- a store that the head may hold: into a block that the head makes -/
def isSto : Op → Bool
  | .store _ (.tmp _) _ => true
  | _ => false
/-- the store among these operations that goes to this slot -/
def stoTo (d : Nat) : List Oper → Option (Nat × Operand)
  | [] => none
  | o :: r => match o.op with
    | .store t (.tmp x) y => (match Nat.beq x d with | true => some (t, y) | false => stoTo d r)
    | _ => stoTo d r
/-- what a block that is made holds when it was stored into, if it is -/
def stoVC (T : Tab) (s0 : Slots) (st : Option (Nat × Operand)) (v : SV) (K : SV → Prop) : Prop :=
  match st with
  | none => K v
  | some (t, y) => match ev s0 y with | some u => chk (T.ti t).known (putAt (T.ti t).agg v 0 u K) | none => False
def stoFor (l : List Oper) (o : Oper) : Option (Nat × Operand) := match o.dst with | some d => stoTo d l | none => none

/-- the head of a region that draws its order: operations that read, and calls by value; what makes a block is passed over, and stores into such -/
def headVC (P : Program) (T : Tab) (N : Nat) (ops : Array Oper) (m : Mem) : List Oper → Slots → (Slots → Prop) → Prop
  | [], s, K => K s
  | o :: r, s, K => match isNew o.op || isSto o.op with
    | true => headVC P T N ops m r s K
    | false => guardVC ops N o s (fun s => match o.op with
        | .call c => match c.callee with
          | .value x => match ev s x, evs s c.args.toList with
            | some (.fn f), some args => ∃ v, (idsOf args = [] ∧ v.ids = [] ∧ Spec P f args [] fun v' _ => v' = v) ∧ headVC P T N ops m r (sset N s o.dst v) K
            | _, _ => False
          | _ => readVC T (.call c) s m fun v => headVC P T N ops m r (sset N s o.dst v) K
        | op => readVC T op s m fun v => headVC P T N ops m r (sset N s o.dst v) K)
      (fun s => headVC P T N ops m r (sset N s o.dst .undef) K)
/-- what the head makes, in the text's order; all of it stands on what was known before -/
def newsVC (T : Tab) (N : Nat) (s0 : Slots) (l : List Oper) : List Oper → Slots → Mem → (Slots → Mem → Prop) → Prop
  | [], s, m, K => K s m
  | o :: r, s, m, K => match isNew o.op with
    | true => newVC T o.op s0 fun v mk => stoVC T s0 (stoFor l o) v fun v' => newsVC T N s0 l r (sset N s o.dst (mk m.length)) (m ++ [some (v', v'.size)]) K
    | false => newsVC T N s0 l r s m K

def dstOf (ops : Array Oper) (i : Nat) : Option Tmp := (ops[i]?).bind (·.dst)
/-- where an operation stores -/
def stoAt (ops : Array Oper) (i : Nat) : Option Tmp := match ops[i]? with | some o => (match o.op with | .store _ (.tmp x) _ => some x | _ => none) | none => none
def backB (o : Oper) (i : Nat) : Bool := o.after.all fun e => !Region.binds .any e || decide (e.on < i)
/-- the operation i of the head: what is asked of it that its place in the order may not matter -/
def headB1 (N : Nat) (ops : Array Oper) (n i : Nat) (o : Oper) : Bool :=
  o.dst.any (fun d => decide (d < N)) && backB o i && (!isNew o.op || o.guard.isNone) &&
      (List.range n).all fun j => (decide (i = j) || dstOf ops j != dstOf ops i) &&
        (match dstOf ops j with
         | some d => !(o.looksAt ops).contains d || (Region.waitsFor .any ops i j && !((ops[j]?).any fun oj => isNew oj.op))
         | none => true)
/-- a store of the head -/
def stoB1 (ops : Array Oper) (n i : Nat) (o : Oper) (x : Tmp) (y : Operand) : Bool :=
  o.dst.isNone && backB o i && o.guard.isNone &&
      ((List.range n).any fun j => dstOf ops j == some x && Region.waitsFor .any ops i j && (ops[j]?).any fun oj => isPtr oj.op) &&
      (List.range n).all fun j => (decide (i = j) || stoAt ops j != some x) &&
        (match dstOf ops j with
         | some d => !(match y with | .tmp t => Nat.beq t d | _ => false) || (Region.waitsFor .any ops i j && !((ops[j]?).any fun oj => isNew oj.op))
         | none => true)
def headB (N : Nat) (ops : Array Oper) (n i : Nat) : Bool :=
  match ops[i]? with
  | none => false
  | some o => match o.op with
    | .store _ (.tmp x) y => stoB1 ops n i o x y
    | _ => headB1 N ops n i o
/-- a region that draws its order: the first n operations in any order, the others in the text's -/
def drawB (N : Nat) (ops : Array Oper) (n : Nat) : Bool :=
  Region.noSelect ops && decide (n < ops.size) && Region.sinkB .any ops n && Region.chainB .any ops n &&
    Region.seqB .any ops (ops.size - n) n ((List.range ops.size).map fun i => decide (i < n)).toArray && (List.range n).all (headB N ops n)

/-- operations that look at no memory -/
def pureOp : Op → Bool
  | .move _ | .assign _ | .pick _ _ _ | .binOp _ _ _ _ _ | .unOp _ _ _ | .convert _ _ _ | .fieldAddr _ _ _ | .indexAddr _ _ _ | .extract _ _ => true
  | _ => false
/-- operations that only read -/
def readOp : Op → Bool
  | .load _ _ => true
  | .call c => (match c.callee with | .builtin .len | .builtin .cap => true | _ => false)
  | op => pureOp op
/-- an operation ahead of a store that the head ends with: the store waits for it, or it looks at no memory -/
def lateI (N : Nat) (ops : Array Oper) (n i : Nat) : Bool :=
  match ops[i]? with
  | none => false
  | some o => o.dst.any (fun d => decide (d < N)) && backB o i && o.guard.isNone && readOp o.op && (Region.waitsFor .any ops n i || pureOp o.op) &&
      (List.range n).all fun j => (decide (i = j) || dstOf ops j != dstOf ops i) &&
        (match dstOf ops j with | some d => !(o.looksAt ops).contains d || Region.waitsFor .any ops i j | none => true)
def isStore : Op → Bool
  | .store _ _ _ => true
  | _ => false
def lateS (ops : Array Oper) (n : Nat) : Bool :=
  match ops[n]? with
  | none => false
  | some o => isStore o.op && o.dst.isNone && o.guard.isNone && backB o n &&
      (List.range n).all fun j => match dstOf ops j with | some d => !(o.looksAt ops).contains d || Region.waitsFor .any ops n j | none => true
/-- a region that draws its order: the first n operations read, the next one stores, and the others wait for all of these -/
def lateB (N : Nat) (ops : Array Oper) (n : Nat) : Bool :=
  Region.noSelect ops && decide (n + 1 < ops.size) && Region.sinkB .any ops (n + 1) && Region.chainB .any ops (n + 1) &&
    Region.seqB .any ops (ops.size - (n + 1)) (n + 1) ((List.range ops.size).map fun i => decide (i < n + 1)).toArray && lateS ops n && (List.range n).all (lateI N ops n)

/-! ### code -/
inductive Ex where
  | normal | exit (id : Nat) | ret
def thenQ (X : Slots → Mem → Prop) (Q : Ex → Slots → Mem → Prop) : Ex → Slots → Mem → Prop
  | .normal, s, m => X s m
  | e, s, m => Q e s m
def blockQ (id : Nat) (Q : Ex → Slots → Mem → Prop) : Ex → Slots → Mem → Prop
  | .exit i, s, m => match Nat.beq i id with | true => Q .normal s m | false => Q (.exit i) s m
  | e, s, m => Q e s m

/-- equal as the model has them -/
def SV.eqv : SV → SV → Prop
  | .ints k n v, .ints k' n' w => (k = k' ∧ n = n') ∧ ∀ i, i < n → v i = w i
  | .vec n h, .vec n' h' => n = n' ∧ ∀ i, i < n → h i = h' i
  | .pair a b, .pair c d => a.eqv c ∧ b.eqv d
  | .tcons a b, .tcons c d => a.eqv c ∧ b.eqv d
  | x, y => x = y
/-- blocks known of the second kind are among the first, with equal heads -/
def memEqv : Mem → Mem → Prop
  | [], [] => True
  | some (v, c) :: r, some (u, d) :: r' => (v.eqv u ∧ c = d) ∧ memEqv r r'
  | _ :: r, none :: r' => memEqv r r'
  | _, _ => False
def eqvO : Option SV → SV → Prop
  | some v, u => v.eqv u
  | none, _ => False
/-- what S knows of the slots s knows too -/
def subL : Slots → Slots → Prop
  | [], _ => True
  | (t, v) :: r, s => eqvO (lk s t) v ∧ subL r s

/-- the same, where blocks behind may be forgotten -/
def memCut : Mem → Mem → Prop
  | _, [] => True
  | [], none :: r' => memCut [] r'
  | some (v, c) :: r, some (u, d) :: r' => (v.eqv u ∧ c = d) ∧ memCut r r'
  | _ :: r, none :: r' => memCut r r'
  | _, _ => False
/-- nothing leads behind the first L blocks -/
def idsLt (L : Nat) : List Nat → Bool
  | [] => true
  | i :: r => Nat.blt i L && idsLt L r
def okSlots (L : Nat) : Slots → Bool
  | [] => true
  | (_, v) :: r => idsLt L v.ids && okSlots L r
def okMem (L : Nat) : Mem → Bool
  | [] => true
  | some (v, _) :: r => idsLt L v.ids && okMem L r
  | none :: r => okMem L r
def okB (s : Slots) (m : Mem) (L : Nat) : Bool := Nat.beq m.length L && (okSlots L s && okMem L m)

/-- what is known holds of the slots and blocks of these numbers too, where each block i is the block σ i; the caller's blocks keep their numbers -/
structure RenTo (own : Nat) (σ : Nat → Nat) (S : Slots) (M : Mem) (s : Slots) (m : Mem) : Prop where
  fix : ∀ i, i < own → σ i = i
  blk : ∀ i u d, blockOf M i = some (u, d) → (own ≤ i → own ≤ σ i) ∧ ∃ v, blockOf m (σ i) = some (v, d) ∧ v.eqv (u.ren σ)
  inj : ∀ i j, (blockOf M i).isSome = true → (blockOf M j).isSome = true → σ i = σ j → i = j
  slot : ∀ t v, lk S t = some v → ∃ v', lk s t = some v' ∧ v'.eqv (v.ren σ)
/-- nothing leads behind the blocks -/
structure OkP (s : Slots) (m : Mem) : Prop where
  slot : ∀ t v, lk s t = some v → ∀ i ∈ v.ids, i < m.length
  blk : ∀ id u c, blockOf m id = some (u, c) → ∀ i ∈ u.ids, i < m.length

/-- A loop: states with a measure, from each of which a round ends in a lesser one or leaves the loop as Q asks. In the second form blocks may have other numbers after a round. -/
inductive LoopVC (own : Nat) (body : Slots → Mem → (Ex → Slots → Mem → Prop) → Prop) (Q : Ex → Slots → Mem → Prop) (s : Slots) (m : Mem) : Prop where
  | rounds (h : ∃ (α : Type) (I : α → Prop) (S : α → Slots) (M : α → Mem) (μ : α → Nat) (L : Nat), m.length ≤ L ∧ (∃ x, I x ∧ subL (S x) s ∧ memCut m (M x)) ∧
    ∀ x, I x → okB (S x) (M x) L = true ∧ body (S x) (M x) (thenQ (fun s' m' => ∃ x', I x' ∧ μ x' < μ x ∧ subL (S x') s' ∧ memCut m' (M x')) Q))
  | renamed (h : ∃ (α : Type) (I : α → Prop) (S : α → Slots) (M : α → Mem) (μ : α → Nat), (∃ x σ, I x ∧ RenTo own σ (S x) (M x) s m) ∧
    ∀ x, I x → own ≤ (M x).length ∧ OkP (S x) (M x) ∧ body (S x) (M x) (thenQ (fun s' m' => ∃ x' σ, I x' ∧ μ x' < μ x ∧ RenTo own σ (S x') (M x') s' m') Q))

def vc (P : Program) (T : Tab) (N : Nat) : Code → Slots → Mem → (Ex → Slots → Mem → Prop) → Prop
  | .skip, s, m, Q => Q .normal s m
  | .ret, s, m, Q => Q .ret s m
  | .exit id, s, m, Q => Q (.exit id) s m
  | .seq a b, s, m, Q => vc P T N a s m (thenQ (fun s' m' => vc P T N b s' m' Q) Q)
  | .cond c a b, s, m, Q => match ev s c with
    | some (.bool t) => ifVC t (vc P T N a s m Q) (vc P T N b s m Q)
    | _ => False
  | .block id c, s, m, Q => vc P T N c s m (blockQ id Q)
  | .scope c, s, m, Q => vc P T N c s m Q
  | .label _, s, m, Q => Q .normal s m
  | .loop c, s, m, Q => LoopVC T.own (vc P T N c) Q s m
  | .region _ ops false, s, m, Q => opsVC P T N ops ops.toList s m fun s' m' => Q .normal s' m'
  | .region _ ops true, s, m, Q => ∃ n, match Nat.blt n 1000 with
    | true => drawB N ops n = true ∧ headVC P T N ops m (ops.toList.take n) s fun s' =>
        newsVC T N s' (ops.toList.take n) (ops.toList.take n) s' m fun s'' m'' => opsVC P T N ops (ops.toList.drop n) s'' m'' fun s' m' => Q .normal s' m'
    | false => lateB N ops (n - 1000) = true ∧ opsVC P T N ops ops.toList s m fun s' m' => Q .normal s' m'
  | _, _, _, _ => False

def resultVC (T : Tab) (s : Slots) (m : Mem) : ResultVar → (SV → Prop) → Prop
  | .tmp t, K => match lk s t with | some v => K v | none => False
  | .cell t ty, K => readVC T (.load ty (.tmp t)) s m K
def retQ (T : Tab) (rs : List ResultVar) (Q : SV → Mem → Prop) : Ex → Slots → Mem → Prop
  | .normal, s, m | .ret, s, m => match rs with
    | [] => Q .tnil m
    | [r] => resultVC T s m r fun v => Q v m
    | [r1, r2] => resultVC T s m r1 fun a => resultVC T s m r2 fun b => chk (!a.isTup && !b.isTup) (Q (.tcons a (.tcons b .tnil)) m)
    | [r1, r2, r3] => resultVC T s m r1 fun a => resultVC T s m r2 fun b => resultVC T s m r3 fun c => chk (!a.isTup && !b.isTup && !c.isTup) (Q (.tcons a (.tcons b (.tcons c .tnil))) m)
    | _ => False
  | _, _, _ => False
def slots0 : Nat → List SV → Slots
  | _, [] => []
  | k, a :: r => (k, a) :: slots0 (k + 1) r

end Go.Proofs.Ytojfjcbblkiajaa
