/- A small machine over blocks that have numbers of their own: a run of it tells a run of the model. Definitions alone. -/
import GoSem.Step
import Derived.Calls
import Derived.StillTail
set_option linter.unusedSimpArgs false
set_option linter.unusedVariables false
namespace Go.Wvm

/-! ### Tries over numbers -/
inductive Tr (α : Type) where
  | nil
  | node (l : Tr α) (v : Option α) (r : Tr α)

def Tr.get {α : Type} : Tr α → Nat → Option α
  | .nil, _ => none
  | .node _ v _, 0 => v
  | .node l _ r, k + 1 => match Nat.beq (k % 2) 0 with
    | true => l.get (k / 2)
    | false => r.get (k / 2)

/-- A node whose side is known first. -/
def Tr.left {α : Type} (t : Tr α) (v : Option α) (r : Tr α) : Tr α := match t with
  | .nil => .node .nil v r
  | .node a b c => .node (.node a b c) v r
def Tr.right {α : Type} (l : Tr α) (v : Option α) (t : Tr α) : Tr α := match t with
  | .nil => .node l v .nil
  | .node a b c => .node l v (.node a b c)
theorem Tr.left_eq {α : Type} (t : Tr α) (v : Option α) (r : Tr α) : Tr.left t v r = .node t v r := by cases t <;> rfl
theorem Tr.right_eq {α : Type} (l : Tr α) (v : Option α) (t : Tr α) : Tr.right l v t = .node l v t := by cases t <;> rfl

def Tr.setF {α : Type} (x : Option α) : Nat → Tr α → Nat → Tr α
  | 0, t, _ => t
  | _ + 1, .nil, 0 => .node .nil x .nil
  | f + 1, .nil, k + 1 => match Nat.beq (k % 2) 0 with
    | true => .left (setF x f .nil (k / 2)) none .nil
    | false => .right .nil none (setF x f .nil (k / 2))
  | _ + 1, .node l _ r, 0 => .node l x r
  | f + 1, .node l v r, k + 1 => match Nat.beq (k % 2) 0 with
    | true => .left (setF x f l (k / 2)) v r
    | false => .right l v (setF x f r (k / 2))

def Tr.set {α : Type} (t : Tr α) (k : Nat) (x : α) : Tr α := Tr.setF (some x) (k + 1) t k
def Tr.del {α : Type} (t : Tr α) (k : Nat) : Tr α := Tr.setF none (k + 1) t k

def Tr.putL {α : Type} (t : Tr α) (o : Nat) : List α → Tr α
  | [] => t
  | x :: xs => (t.set o x).putL (o + 1) xs

/-! ### Tables of a program -/
structure TyI where
  desc : TypeDesc
  size : Nat
  bytes : Nat
  zero : Option Value
  agg : Bool

structure VP where
  ty : Tr TyI
  fn : Tr Func
  ext : Tr (Nat × TypeId)
  plain : Nat → Bool

/-! ### Values without addresses -/
def flat : Nat → Value → Bool
  | _, .bool _ | _, .int _ _ | _, .string _ | _, .pointer none | _, .slice none 0 0 | _, .map none | _, .nilFunc | _, .nilIface => true
  | n + 1, .iface _ v => flat n v
  | _, .func (.func _) ⟨[]⟩ ⟨[]⟩ => true
  | n + 1, .agg ⟨cs⟩ => cs.all (flat n)
  | n + 1, .tuple ⟨cs⟩ => cs.all (flat n)
  | _, _ => false

def cellsL : Value → List Value
  | .agg ⟨cs⟩ => cs
  | v => [v]

def zeroOf (size : Nat) : Option Value → Option Value
  | some z => match flat 10 z && Nat.beq (cellsL z).length size with
    | true => some z
    | false => none
  | none => none
def aggOf : TypeDesc → Bool
  | .struct _ | .array _ _ => true
  | _ => false
def tyOf (P : Program) (t : Nat) : Option TyI :=
  match P.info? t, P.underlying t with
  | some i, some d => some { desc := d, size := i.size, bytes := i.bytes, zero := zeroOf i.size i.zero, agg := aggOf d }
  | _, _ => none

def fnOf (P : Program) (f : Nat) : Option Func :=
  match P.funcs[f]? with
  | some fn => match fn.body, fn.name == "runtime.NumGoroutine" with
    | some _, false => some fn
    | _, _ => none
  | none => none

/-- The functions without a Go body that the machine knows. -/
def extNo (P : Program) (fn : Func) : Option (Nat × TypeId) :=
  match fn.origin == "", fn.name == "internal/abi.NoEscape", fn.name == "internal/bytealg.IndexByteString", fn.name == "internal/bytealg.MakeNoZero" with
  | true, true, _, _ => some (1, 0)
  | true, _, true, _ => some (3, 0)
  | true, _, _, true => match fn.resultTypes.toList with
    | [t] => match P.underlying t with
      | some (.slice e) => some (2, e)
      | _ => none
    | _ => none
  | _, _, _, _ => none
def extOf (P : Program) (f : Nat) : Option (Nat × TypeId) :=
  match P.funcs[f]? with
  | some fn => match fn.body with
    | none => extNo P fn
    | some _ => none
  | none => none

def tab {α : Type} (g : Nat → Option α) : Nat → Tr α → Tr α
  | 0, t => t
  | n + 1, t => match g n with
    | some x => tab g n (t.set n x)
    | none => tab g n t

def VP.of (P : Program) : VP := { ty := tab (tyOf P) P.types.size .nil, fn := tab (fnOf P) P.funcs.size .nil, ext := tab (extOf P) P.funcs.size .nil, plain := fun t => !(P.eqGuardType P.depth t) && !(P.stoodInHeld t) }

/-! ### Memory -/
structure VLoop where
  state : LoopState
  pending : Option Code
  fn : FuncId
  tm : Tr Value
  nt : Nat
  params : List Tmp
  assign : Code
  body : Code

inductive VObj where
  | cells (n : Nat) (c : Tr Value) (dflt : Option Value) (unit : Nat) (ty : Option (TypeId × Nat))
  | map (es : List (Value × Value))
  | iter (s : List UInt8) (pos : Nat)
  | loop (l : VLoop)
  | deferred (calls : Option (List Deferred))

structure VW where
  next : Nat
  heap : Tr VObj
  gl : Tr (List Value)

structure VF where
  fn : Nat
  tm : Tr Value
  nt : Nat
  todo : List Item
  defers : List Deferred
  ret : Bool
  kind : CallKind
  rd : Option Nat := none

structure VM where
  fr : VF
  cs : List VF
  w : VW

def tag : Option TypeId → Option (TypeId × Nat)
  | some e => some (e, 0)
  | none => none
/-- So many cells at the front may not be written. -/
def fzOf : Option (TypeId × Nat) → Nat
  | some (_, k) => k
  | none => 0

def VW.add (w : VW) (o : VObj) : VW := { w with next := w.next + 1, heap := w.heap.set w.next o }

def cellAt (n : Nat) (c : Tr Value) (d : Option Value) (o : Nat) : Option Value :=
  match Nat.blt o n with
  | true => match c.get o with
    | some v => some v
    | none => d
  | false => none

def loadL (n : Nat) (c : Tr Value) (d : Option Value) (o : Nat) : Nat → Option (List Value)
  | 0 => some []
  | k + 1 => match cellAt n c d o with
    | some v => match loadL n c d (o + 1) k with
      | some r => some (v :: r)
      | none => none
    | none => none

/-! ### Integers -/
def modOf : IntKind → Nat
  | .i8 | .u8 => 256
  | .i16 | .u16 => 65536
  | .i32 | .u32 => 4294967296
  | .i64 | .u64 => 18446744073709551616
def sgn : IntKind → Bool
  | .i8 | .i16 | .i32 | .i64 => true
  | _ => false
def fmod (n : Int) (m : Nat) : Nat := match n with
  | .ofNat a => a % m
  | .negSucc a => m - 1 - a % m
def fwrap (k : IntKind) (n : Int) : Int :=
  let m := modOf k
  let r := fmod n m
  match sgn k with
  | false => .ofNat r
  | true => match Nat.blt r (m / 2) with
    | true => .ofNat r
    | false => .negSucc (m - r - 1)
def ilt : Int → Int → Bool
  | .ofNat a, .ofNat b => Nat.blt a b
  | .negSucc _, .ofNat _ => true
  | .ofNat _, .negSucc _ => false
  | .negSucc a, .negSucc b => Nat.blt b a
def ieq : Int → Int → Bool
  | .ofNat a, .ofNat b => Nat.beq a b
  | .negSucc a, .negSucc b => Nat.beq a b
  | _, _ => false
def keq : IntKind → IntKind → Bool
  | .i8, .i8 | .i16, .i16 | .i32, .i32 | .i64, .i64 | .u8, .u8 | .u16, .u16 | .u32, .u32 | .u64, .u64 => true
  | _, _ => false
def ishr (x : Int) (n : Nat) : Int := match x with
  | .ofNat a => .ofNat (a / 2 ^ n)
  | .negSucc a => .negSucc (a / 2 ^ n)
def bitsOf : IntKind → Nat
  | .i8 | .u8 => 8
  | .i16 | .u16 => 16
  | .i32 | .u32 => 32
  | .i64 | .u64 => 64

def nmin (a b : Nat) : Nat := match Nat.ble a b with
  | true => a
  | false => b

def nmax (a b : Nat) : Nat := match Nat.ble a b with
  | true => b
  | false => a

def intOp (op : BinOp) (k : IntKind) (x y : Int) : Option Value :=
  match op with
  | .add => some (.int k (fwrap k (x + y)))
  | .sub => some (.int k (fwrap k (x - y)))
  | .mul => some (.int k (fwrap k (x * y)))
  | .quo => match ieq y 0 with | true => none | false => some (.int k (fwrap k (x.tdiv y)))
  | .rem => match ieq y 0 with | true => none | false => some (.int k (x.tmod y))
  | .and => some (.int k (fwrap k (.ofNat (Nat.land (fmod x (modOf k)) (fmod y (modOf k))))))
  | .or => some (.int k (fwrap k (.ofNat (Nat.lor (fmod x (modOf k)) (fmod y (modOf k))))))
  | .xor => some (.int k (fwrap k (.ofNat (Nat.xor (fmod x (modOf k)) (fmod y (modOf k))))))
  | .andNot => some (.int k (fwrap k (.ofNat (Nat.land (fmod x (modOf k)) (modOf k - 1 - fmod y (modOf k))))))
  | .eql => some (.bool (ieq x y))
  | .neq => some (.bool (!ieq x y))
  | .lss => some (.bool (ilt x y))
  | .leq => some (.bool (!ilt y x))
  | .gtr => some (.bool (ilt y x))
  | .geq => some (.bool (!ilt x y))
  | _ => none

def shiftOp (op : BinOp) (k : IntKind) (x y : Int) : Option Value :=
  match y with
  | .negSucc _ => none
  | .ofNat b =>
    match op with
    | .shl => some (.int k (fwrap k (x * .ofNat (2 ^ nmin b (bitsOf k)))))
    | .shr => some (.int k (ishr x (nmin b (bitsOf k))))
    | _ => none

/-! ### Texts -/
def leq : List UInt8 → List UInt8 → Bool
  | [], [] => true
  | a :: x, b :: y => match Nat.beq a.toNat b.toNat with | true => leq x y | false => false
  | _, _ => false
def llt : List UInt8 → List UInt8 → Bool
  | _, [] => false
  | [], _ :: _ => true
  | a :: x, b :: y => match Nat.blt a.toNat b.toNat with
    | true => true
    | false => match Nat.beq a.toNat b.toNat with | true => llt x y | false => false
def strOp (op : BinOp) (x y : List UInt8) : Option Value :=
  match op with
  | .add => match Nat.ble (x.length + y.length) 4294967296 with | true => some (.string ⟨⟨x ++ y⟩⟩) | false => none
  | .eql => some (.bool (leq x y))
  | .neq => some (.bool (!leq x y))
  | .lss => some (.bool (llt x y))
  | .leq => some (.bool (!llt y x))
  | .gtr => some (.bool (llt y x))
  | .geq => some (.bool (!llt x y))
  | _ => none

def isLit : Operand → Bool
  | .const .nilIface => true
  | _ => false

/-- '==' where no two addresses and no two structs are held against each other. -/
def eqOp (d : TypeDesc) (x y : Value) : Option Bool :=
  match d, x, y with
  | .bool, .bool a, .bool b => some (match a, b with | true, true | false, false => true | _, _ => false)
  | .pointer _, .pointer none, .pointer none => some true
  | .pointer _, .pointer none, .pointer (some _) => some false
  | .pointer _, .pointer (some _), .pointer none => some false
  | .slice _, .slice none _ _, .slice none _ _ => some true
  | .slice _, .slice none _ _, .slice (some _) _ _ => some false
  | .slice _, .slice (some _) _ _, .slice none _ _ => some false
  | .map _ _, .map none, .map none => some true
  | .map _ _, .map none, .map (some _) => some false
  | .map _ _, .map (some _), .map none => some false
  | .func _ _ _, .nilFunc, .nilFunc => some true
  | .func _ _ _, .nilFunc, .func _ _ _ => some false
  | .func _ _ _, .func _ _ _, .nilFunc => some false
  | .interface _, .nilIface, .iface _ _ => some false
  | .interface _, .iface _ _, .nilIface => some false
  | _, _, _ => none

def partL (vp : VP) (t : TypeId) (cs : List Value) (off : Nat) : Option Value :=
  match vp.ty.get t with
  | some i => match i.agg with
    | true => match Nat.ble (off + i.size) cs.length with
      | true => some (.agg ⟨(cs.drop off).take i.size⟩)
      | false => none
    | false => cs[off]?
  | none => none

/-- Two fields of a struct: no two addresses, no structs. -/
def eqScalar (d : TypeDesc) (x y : Value) : Option Bool :=
  match d, x, y with
  | .int _, .int k a, .int k' b => match keq k k' with
    | true => some (ieq a b)
    | false => none
  | .string, .string ⟨⟨a⟩⟩, .string ⟨⟨b⟩⟩ => some (leq a b)
  | d, x, y => eqOp d x y

def eqFieldsV (vp : VP) (a b : List Value) : List Field → Option Bool
  | [] => some true
  | f :: fs => match f.name == "_" with
    | true => eqFieldsV vp a b fs
    | false => match partL vp f.type a f.offset, partL vp f.type b f.offset, vp.ty.get f.type with
      | some x, some y, some i => match eqScalar i.desc x y with
        | some true => eqFieldsV vp a b fs
        | some false => some false
        | none => none
      | _, _, _ => none

/-- .. or structs of such. -/
def eqPart (vp : VP) (t : TypeId) (d : TypeDesc) (x y : Value) : Option Bool :=
  match d, x, y with
  | .struct gs, .agg ⟨x⟩, .agg ⟨y⟩ => match vp.plain t with
    | true => eqFieldsV vp x y gs.toList
    | false => none
  | d, x, y => eqScalar d x y

def eqFieldsW (vp : VP) (a b : List Value) : List Field → Option Bool
  | [] => some true
  | f :: fs => match f.name == "_" with
    | true => eqFieldsW vp a b fs
    | false => match partL vp f.type a f.offset, partL vp f.type b f.offset, vp.ty.get f.type with
      | some x, some y, some i => match eqPart vp f.type i.desc x y with
        | some true => eqFieldsW vp a b fs
        | some false => some false
        | none => none
      | _, _, _ => none

def binOp (vp : VP) (op : BinOp) (t : TypeId) (xo yo : Operand) (x y : Value) : Option Value :=
  match x, y with
  | .int k a, .int k' b =>
    match op with
    | .shl | .shr => shiftOp op k a b
    | _ => match keq k k' with | true => intOp op k a b | false => none
  | .string ⟨⟨a⟩⟩, .string ⟨⟨b⟩⟩ => strOp op a b
  | .nilIface, .nilIface => match isLit xo || isLit yo, vp.ty.get t, op with
    | true, some ⟨.interface _, _, _, _, _⟩, .eql => some (.bool true)
    | true, some ⟨.interface _, _, _, _, _⟩, .neq => some (.bool false)
    | _, _, _ => none
  | .agg ⟨a⟩, .agg ⟨b⟩ => match vp.plain t, vp.ty.get t with
    | true, some ⟨.struct fs, _, _, _, _⟩ => match op, eqFieldsW vp a b fs.toList with
      | .eql, some r => some (.bool r)
      | .neq, some r => some (.bool (!r))
      | _, _ => none
    | _, _ => none
  | _, _ => match vp.ty.get t with
    | none => none
    | some i => match op, eqOp i.desc x y with
      | .eql, some b => some (.bool b)
      | .neq, some b => some (.bool (!b))
      | _, _ => none

/-- Two addresses held against each other. -/
def ptrEqV (vp : VP) (t : TypeId) (a b : Addr) (w : VW) : Option Bool :=
  match vp.ty.get t, a.spot, b.spot with
  | some ⟨.pointer e, _, _, _, _⟩, none, none => match vp.ty.get e with
    | some ei => match Nat.beq ei.size 0 with
      | true => none
      | false => match Nat.beq a.block b.block with
        | true => some (Nat.beq a.off b.off)
        | false => match w.heap.get a.block, w.heap.get b.block with
          | some (.cells _ _ _ _ (some (_, 0))), some (.cells _ _ _ _ (some (_, 0))) => some false
          | _, _ => none
    | none => none
  | _, _, _ => none
def ptrOp (vp : VP) (op : BinOp) (t : TypeId) (a b : Addr) (w : VW) : Option Value :=
  match op, ptrEqV vp t a b w with
  | .eql, some r => some (.bool r)
  | .neq, some r => some (.bool (!r))
  | _, _ => none

def unOp (op : UnOp) (x : Value) : Option Value :=
  match op, x with
  | .neg, .int k n => some (.int k (fwrap k (0 - n)))
  | .xor, .int k n => some (.int k (fwrap k (.ofNat (modOf k - 1 - fmod n (modOf k)))))
  | .not, .bool b => some (.bool (!b))
  | _, _ => none

/-! ### One operation -/
inductive VN where
  | value (v : Value)
  | skip
  | enter (f : FuncId) (args : List Value)
  | defer (d : Deferred)
  | recover
  | round (f : VF)

def VF.ev (fr : VF) : Operand → Option Value
  | .tmp t => match fr.tm.get t with
    | some v => some v
    | none => some undef
  | .const v => match flat 10 v with | true => some v | false => none
  | .func f => some (.func (.func f) #[] #[])
  | .global g => some (.pointer (some ⟨g, 0, some 0⟩))

def VF.evs (fr : VF) : List Operand → Option (List Value)
  | [] => some []
  | x :: xs => match fr.ev x, fr.evs xs with
    | some v, some vs => some (v :: vs)
    | _, _ => none

def loadC (vp : VP) (t : TypeId) (a : Addr) (w : VW) : Option Value :=
  match vp.ty.get t, w.heap.get a.block, a.spot with
  | some i, some (.cells n c d _ _), none =>
    match i.agg with
    | true => match loadL n c d a.off i.size with
      | some l => some (.agg ⟨l⟩)
      | none => none
    | false => cellAt n c d a.off
  | _, _, _ => none

/-- A package-level variable that is known. -/
def loadG (vp : VP) (t : TypeId) (a : Addr) (w : VW) : Option Value :=
  match vp.ty.get t, w.gl.get a.block with
  | some i, some l =>
    match i.agg with
    | true => match Nat.ble (a.off + i.size) l.length with
      | true => some (.agg ⟨(l.drop a.off).take i.size⟩)
      | false => none
    | false => l[a.off]?
  | _, _ => none

def loadV (vp : VP) (t : TypeId) (a : Addr) (w : VW) : Option Value :=
  match a.spot with
  | none => loadC vp t a w
  | some _ => loadG vp t a w

/-- Each place has been there. -/
def holds (n : Nat) (c : Tr Value) (d : Option Value) (o : Nat) : Nat → Bool
  | 0 => true
  | k + 1 => match cellAt n c d o with
    | some _ => holds n c d (o + 1) k
    | none => false

def oneCells : List Value → Bool
  | [] => true
  | v :: r => match v with
    | .agg _ | .tuple _ => false
    | _ => oneCells r

def putCells (ro : Nat) (a : Addr) (l : List Value) (w : VW) : Option VW :=
  match l with
  | [] => some w
  | _ => match w.heap.get a.block, a.spot, Nat.ble ro a.block, oneCells l with
    | some (.cells n c d e t), none, true, true =>
      match Nat.ble (a.off + l.length) n && Nat.ble (fzOf t) a.off with
      | true => some { w with heap := w.heap.set a.block (.cells n (c.putL a.off l) d e t) }
      | false => none
    | _, _, _, _ => none

def storeV (vp : VP) (ro : Nat) (t : TypeId) (a : Addr) (v : Value) (w : VW) : Option VW :=
  match vp.ty.get t with
  | some i => let l := cellsL v
    match Nat.beq l.length i.size with
    | true => putCells ro a l w
    | false => none
  | none => none

def newCells (u : Nat) (t : Option TypeId) (l : List Value) (w : VW) : Option (Addr × VW) :=
  match oneCells l with
  | true => some (⟨w.next, 0, none⟩, w.add (.cells l.length (Tr.putL .nil 0 l) none u (tag t)))
  | false => none

def setL : List Value → Nat → List Value → Option (List Value)
  | cs, 0, [] => some cs
  | _ :: cs, 0, v :: vs => match setL cs 0 vs with
    | some r => some (v :: r)
    | none => none
  | [], 0, _ :: _ => none
  | c :: cs, n + 1, vs => match setL cs n vs with
    | some r => some (c :: r)
    | none => none
  | [], _ + 1, _ => none

def fillL (place : Nat → Option (Nat × Nat)) : List Value → List (Nat × Value) → Option (List Value)
  | cells, [] => some cells
  | cells, (i, v) :: rest => match place i with
    | none => none
    | some (off, size) => let l := cellsL v
      match Nat.beq l.length size with
      | false => none
      | true => match setL cells off l with
        | some cells' => fillL place cells' rest
        | none => none

def repL (z : List Value) : Nat → List Value
  | 0 => []
  | n + 1 => z ++ repL z n

def VF.evParts (fr : VF) : List (Nat × Operand) → Option (List (Nat × Value))
  | [] => some []
  | (i, x) :: xs => match fr.ev x, fr.evParts xs with
    | some v, some vs => some ((i, v) :: vs)
    | _, _ => none

def fieldPlaces (vp : VP) : List Field → Option (List (Nat × Nat))
  | [] => some []
  | f :: fs => match vp.ty.get f.type, fieldPlaces vp fs with
    | some i, some r => some ((f.offset, i.size) :: r)
    | _, _ => none

def natIn (v : Value) (hi : Nat) : Option Nat :=
  match v with
  | .int _ (.ofNat n) => match Nat.ble n hi with | true => some n | false => none
  | _ => none

def bounds (len cap : Nat) (lo hi mx : Option Value) : Option (Nat × Nat × Nat) :=
  match mx with
  | some _ => none
  | none =>
    match (match hi with | some v => natIn v cap | none => some len) with
    | none => none
    | some h => match (match lo with | some v => natIn v h | none => some 0) with
      | none => none
      | some l => some (l, h, cap)

def VF.evO (fr : VF) : Option Operand → Option (Option Value)
  | none => some none
  | some x => match fr.ev x with
    | some v => some (some v)
    | none => none

def unitAt (w : VW) (b : Nat) : Option Nat :=
  match w.heap.get b with
  | some (.cells _ _ _ u _) => some u
  | _ => none

def plus (a : Addr) (n : Nat) : Addr := ⟨a.block, a.off + n, none⟩

def bytesL : List Value → Option (List UInt8)
  | [] => some []
  | .int .u8 n :: r => match bytesL r with
    | some l => some (UInt8.ofNat n.toNat :: l)
    | none => none
  | _ => none

def keyEq (k x : Value) : Option Bool :=
  match k, x with
  | .int a n, .int b m => match keq a b with
    | true => some (ieq n m)
    | false => none
  | .string ⟨⟨a⟩⟩, .string ⟨⟨b⟩⟩ => some (leq a b)
  | _, _ => none
def mapFind (k : Value) : List (Value × Value) → Option (Option Value)
  | [] => some none
  | (x, v) :: r => match keyEq k x with
    | some true => some (some v)
    | some false => mapFind k r
    | none => none
def mapPut (k u : Value) : List (Value × Value) → Option (List (Value × Value))
  | [] => some [(k, u)]
  | (x, v) :: r => match keyEq k x with
    | some true => some ((k, u) :: r)
    | some false => (mapPut k u r).map ((x, v) :: ·)
    | none => none
def mapDel (k : Value) : List (Value × Value) → Option (List (Value × Value))
  | [] => some []
  | (x, v) :: r => match keyEq k x with
    | some true => some r
    | some false => (mapDel k r).map ((x, v) :: ·)
    | none => none

def isKey (d : TypeDesc) (k : Value) : Bool :=
  match d, k with
  | .int _, .int _ _ | .string, .string _ => true
  | _, _ => false

def srcCells (size n : Nat) (x : Value) (w : VW) : Option (List Value) :=
  match x with
  | .slice (some a) _ _ => match n with
    | 0 => some []
    | _ => match w.heap.get a.block, a.spot with
      | some (.cells m c d _ _), none => loadL m c d a.off (n * size)
      | _, _ => none
  | .slice none _ _ => some []
  | .string ⟨⟨l⟩⟩ => some ((l.take n).map fun b => .int .u8 (.ofNat b.toNat))
  | _ => none

def lenV : Value → Option Nat
  | .slice _ n _ => some n
  | .string ⟨⟨l⟩⟩ => some l.length
  | _ => none

def small : Nat := 1073741824
/-- The longest row of cells that is built as it stands. -/
def tiny : Nat := 16777216

def lenable : TypeDesc → Bool
  | .slice _ | .string => true
  | _ => false

def keepTy (t : Option (TypeId × Nat)) (e : TypeId) (b : Bool) : Option (TypeId × Nat) :=
  match t, b with
  | some (x, k), true => match Nat.beq x e with
    | true => some (x, k)
    | false => none
  | _, _ => none
/-- What may not be written stands in front of what is appended, and is told behind. -/
def keepOk (t : Option (TypeId × Nat)) (t' : Option (TypeId × Nat)) (n : Nat) : Bool :=
  match fzOf t, t' with
  | 0, _ => true
  | k, some _ => Nat.ble k n
  | _, none => false

def appendV (vp : VP) (ro : Nat) (ts : List TypeId) (s x : Value) (w : VW) : Option (Value × VW) :=
  match ts with
  | [t1, t2] => match vp.ty.get t1, vp.ty.get t2, s with
    | some ⟨.slice e, _, _, _, _⟩, some ti2, .slice base sLen sCap =>
      match vp.ty.get e, lenable ti2.desc with
      | some ei, true =>
        match lenV x with
        | none => none
        | some n => match srcCells ei.size n x w with
          | none => none
          | some new =>
            let need := sLen + n
            match Nat.ble need sCap with
            | true => match base with
              | none => some (.slice none need sCap, w)
              | some a => match putCells ro (plus a (sLen * ei.size)) new w with
                | some w' => some (.slice base need sCap, w')
                | none => none
            | false => match Nat.ble need small && Nat.ble ei.bytes 65536 && !Nat.beq ei.bytes 0 && !Nat.beq ei.size 0 && oneCells new && ei.zero.isSome && Nat.beq new.length (n * ei.size) with
              | false => none
              | true => match base with
                | none => match Nat.beq sCap 0 with
                  | true => some (.slice (some ⟨w.next, 0, none⟩) need need, w.add (.cells (need * ei.size) (Tr.putL .nil 0 new) none ei.size (some (e, 0))))
                  | false => none
                | some a => match w.heap.get a.block, a.spot, Nat.ble ro a.block with
                  | some (.cells m c d u t), none, true => match Nat.beq u ei.size && keepOk t (keepTy t e (Nat.beq a.off 0 && Nat.blt 0 sCap)) (sLen * ei.size) with
                    | false => none
                    | true =>
                      match Nat.beq a.off 0 && Nat.beq m (sLen * ei.size) && holds m c d 0 m with
                      | true => some (.slice (some ⟨w.next, 0, none⟩) need need, VW.add { w with heap := w.heap.del a.block } (.cells (need * ei.size) (c.putL m new) d ei.size (keepTy t e (Nat.beq a.off 0 && Nat.blt 0 sCap))))
                      | false => match loadL m c d a.off (sLen * ei.size) with
                        | some old => some (.slice (some ⟨w.next, 0, none⟩) need need, VW.add { w with heap := w.heap.del a.block } (.cells (need * ei.size) (Tr.putL .nil 0 (old ++ new)) none ei.size (keepTy t e (Nat.beq a.off 0 && Nat.blt 0 sCap))))
                        | none => none
                  | _, _, _ => none
      | _, _ => none
    | _, _, _ => none
  | _ => none

def one (o : Option Value) (w : VW) : Option (VN × VW) :=
  match o with
  | some v => some (.value v, w)
  | none => none
def two (o : Option (Value × VW)) : Option (VN × VW) :=
  match o with
  | some (v, w) => some (.value v, w)
  | none => none
def boxed (o : Option (Addr × VW)) : Option (VN × VW) :=
  match o with
  | some (a, w) => some (.value (.pointer (some a)), w)
  | none => none
def sliced (len cap : Nat) (o : Option (Addr × VW)) : Option (VN × VW) :=
  match o with
  | some (a, w) => some (.value (.slice (some a) len cap), w)
  | none => none
def unit (o : Option VW) : Option (VN × VW) :=
  match o with
  | some w => some (.skip, w)
  | none => none

def minV : Value → Value → Option Value
  | .int k x, .int _ y => some (.int k (match ilt y x with | true => y | false => x))
  | _, _ => none
def maxV : Value → Value → Option Value
  | .int k x, .int _ y => some (.int k (match ilt x y with | true => y | false => x))
  | _, _ => none

def lenOf (d : TypeDesc) (x : Value) (w : VW) : Option Value :=
  match d, x with
  | .string, .string ⟨⟨l⟩⟩ => some (.int .i64 (.ofNat l.length))
  | .slice _, .slice _ n _ => some (.int .i64 (.ofNat n))
  | .map _ _, .map none => some (.int .i64 (.ofNat 0))
  | .map _ _, .map (some r) => match w.heap.get r with
    | some (.map es) => some (.int .i64 (.ofNat es.length))
    | _ => none
  | _, _ => none

def copyV (vp : VP) (ro : Nat) (ts : List TypeId) (d s : Value) (w : VW) : Option (Value × VW) :=
  match ts, d with
  | t1 :: _, .slice base dLen _ => match vp.ty.get t1 with
    | some ⟨.slice e, _, _, _, _⟩ => match vp.ty.get e, lenV s with
      | some ei, some sl => match srcCells ei.size (nmin sl dLen) s w with
        | none => none
        | some l => match base with
          | none => some (.int .i64 (.ofNat (nmin sl dLen)), w)
          | some a => match Nat.blt 0 dLen, putCells ro a l w with
            | true, some w' => some (.int .i64 (.ofNat (nmin sl dLen)), w')
            | false, _ => some (.int .i64 (.ofNat 0), w)
            | _, _ => none
      | _, _ => none
    | _ => none
  | _, _ => none

def clearV (vp : VP) (ro : Nat) (ts : List TypeId) (x : Value) (w : VW) : Option (Value × VW) :=
  match ts, x with
  | t :: _, .slice (some a) n _ => match vp.ty.get t with
    | some ⟨.slice e, _, _, _, _⟩ => match n, vp.ty.get e with
      | 0, _ => some (undef, w)
      | n + 1, some ei => match ei.zero with
        | some z => match putCells ro a (repL (cellsL z) (n + 1)) w with
          | some w' => some (undef, w')
          | none => none
        | none => none
      | _, _ => none
    | _ => none
  | t :: _, .slice none 0 _ => match vp.ty.get t with
    | some _ => some (undef, w)
    | none => none
  | _, _ => none

def deleteV (vp : VP) (ro : Nat) (ts : List TypeId) (m k : Value) (w : VW) : Option (Value × VW) :=
  match ts, m with
  | t :: _, .map (some r) => match vp.ty.get t with
    | some ⟨.map kt _, _, _, _, _⟩ => match vp.ty.get kt, w.heap.get r, Nat.ble ro r with
      | some ki, some (.map es), true => match isKey ki.desc k, mapDel k es with
        | true, some es' => some (undef, { w with heap := w.heap.set r (.map es') })
        | _, _ => none
      | _, _, _ => none
    | _ => none
  | _, _ => none

/-- Bytes, each in its range. -/
def bytesN : List Value → Option (List UInt8)
  | [] => some []
  | .int .u8 (.ofNat n) :: r => match Nat.blt n 256, bytesN r with
    | true, some l => some (UInt8.ofNat n :: l)
    | _, _ => none
  | _ => none

/-- The bytes at an address, as a text: they may not turn any more; it is told how many. -/
def unsafeStrV (vp : VP) (ro : Nat) (ts : List TypeId) (p : Option Addr) (n : Nat) (w : VW) : Option (Value × VW) :=
  match ts with
  | [pt, _] => match n, p with
    | 0, _ => some (.string ⟨⟨[]⟩⟩, w)
    | n + 1, some a => match vp.ty.get pt, w.heap.get a.block, a.spot with
      | some ⟨.pointer e, _, _, _, _⟩, some (.cells m c d u (some (t, k))), none => match vp.ty.get e, loadL m c d a.off (n + 1), Nat.beq t e && Nat.beq a.off 0 && Nat.ble ro a.block && Nat.ble n tiny with
        | some ei, some l, true => match Nat.beq ei.size 1, bytesN l with
          | true, some bs => some (.string ⟨⟨bs⟩⟩, { w with heap := w.heap.set a.block (.cells m c d u (some (t, nmax k (n + 1)))) })
          | _, _ => none
        | _, _, _ => none
      | _, _, _ => none
    | _, _ => none
  | _ => none

def builtinV (vp : VP) (ro : Nat) (b : Builtin) (ts : List TypeId) (args : List Value) (w : VW) : Option (VN × VW) :=
  match b, args with
  | .len, [x] => match ts with
    | t :: _ => match vp.ty.get t with
      | some i => one (lenOf i.desc x w) w
      | none => none
    | _ => none
  | .append, [s, x] => two (appendV vp ro ts s x w)
  | .copy, [d, s] => two (copyV vp ro ts d s w)
  | .clear, [x] => two (clearV vp ro ts x w)
  | .min, [x, y] => one (minV x y) w
  | .max, [x, y] => one (maxV x y) w
  | .min, [x, y, z] => one ((minV x y).bind (minV · z)) w
  | .max, [x, y, z] => one ((maxV x y).bind (maxV · z)) w
  | .delete, [m, k] => two (deleteV vp ro ts m k w)
  | .recover, [] => some (.recover, w)
  | .unsafeSliceData, [.slice none _ _] => one (some (.pointer none)) w
  | .unsafeSliceData, [.slice (some a) _ c] => match a.spot, Nat.blt 0 c with
    | none, true => one (some (.pointer (some a))) w
    | _, _ => none
  | .unsafeString, [.pointer p, .int .i64 (.ofNat n)] => two (unsafeStrV vp ro ts p n w)
  | .cap, [.slice none _ _] => match ts with
    | t :: _ => match vp.ty.get t with
      | some ⟨.slice _, _, _, _, _⟩ => one (some (.int .i64 0)) w
      | _ => none
    | _ => none
  | _, _ => none

/-- Where a byte comes up first. -/
def idxN (c : UInt8) : List UInt8 → Option Nat
  | [] => none
  | x :: l => match Nat.beq x.toNat c.toNat with
    | true => some 0
    | false => match idxN c l with
      | some k => some (k + 1)
      | none => none

/-- A function without a Go body. -/
def extV (vp : VP) (k : Nat × TypeId) (args : List Value) (w : VW) : Option (VN × VW) :=
  match k, args with
  | (1, _), [x] => one (some x) w
  | (3, _), [.string ⟨⟨l⟩⟩, .int .u8 (.ofNat c)] => match idxN (UInt8.ofNat c) l with
    | some k => one (some (.int .i64 (.ofNat k))) w
    | none => one (some (.int .i64 (.negSucc 0))) w
  | (2, e), [.int .i64 (.ofNat n)] => match vp.ty.get e, Nat.ble n tiny with
    | some ei, true => match Nat.beq ei.size 1 with
      | true => some (.value (.slice (some ⟨w.next, 0, none⟩) n n), w.add (.cells n .nil none 1 (some (e, 0))))
      | false => none
    | _, _ => none
  | _, _ => none

/-- The parameters of a round. -/
def setPs (nt : Nat) : List Tmp → List Value → Tr Value → Option (Tr Value)
  | [], [], t => some t
  | p :: ps, v :: vs, t => setPs nt ps vs (match Nat.blt p nt with | true => t.set p v | false => t)
  | _, _, _ => none

/-- A round of a loop over a function. -/
def roundV (b : Nat) (args : List Value) (w : VW) : Option (VN × VW) :=
  match w.heap.get b with
  | some (.loop l) => match setPs l.nt l.params args l.tm with
    | some tm => some (.round { fn := l.fn, tm, nt := l.nt, todo := [.code l.assign, .beginRound, .code l.body], defers := [], ret := false, kind := .normal, rd := some b }, w)
    | none => none
  | _ => none

def invokeV (vp : VP) (f : Value) (args : List Value) (w : VW) : Option (VN × VW) :=
  match f with
  | .func (.yield b) ⟨[]⟩ ⟨[]⟩ => roundV b args w
  | .func (.func g) ⟨first⟩ ⟨captured⟩ => match vp.fn.get g with
    | some _ => some (.enter g (first ++ args ++ captured), w)
    | none => match vp.ext.get g with
      | some k => extV vp k (first ++ args ++ captured) w
      | none => none
  | _ => none

def methodV (vp : VP) (t : TypeId) (v : Value) (name : String) (P : Program) (args : List Value) (w : VW) : Option (VN × VW) :=
  match P.info? t with
  | none => none
  | some ti => match ti.methods.toList.find? (·.name == name) with
    | none => none
    | some m => match m.path.toList, m.func, vp.ty.get t with
      | [], some (f, ptr), some i => match vp.fn.get f with
        | none => none
        | some _ => match i.desc, ptr with
          | .pointer _, true => some (.enter f (v :: args), w)
          | .pointer _, false => none
          | _, false => some (.enter f (v :: args), w)
          | _, true => none
      | _, _, _ => none

def mapLook (w : VW) (m k : Value) : Option (Option Value) :=
  match m with
  | .map none => some none
  | .map (some r) => match w.heap.get r with
    | some (.map es) => mapFind k es
    | _ => none
  | _ => none

def xBinOp (vp : VP) (ro : Nat) (fr : VF) (op : BinOp) (t : TypeId) (x y : Operand) (w : VW) : Option (VN × VW) :=
  match fr.ev x, fr.ev y with
  | some (.pointer (some a)), some (.pointer (some b)) => one (ptrOp vp op t a b w) w
  | some a, some b => one (binOp vp op t x y a b) w
  | _, _ => none

def xLoad (vp : VP) (ro : Nat) (fr : VF) (t : TypeId) (a : Operand) (w : VW) : Option (VN × VW) :=
  match fr.ev a with
  | some (.pointer (some ad)) => one (loadV vp t ad w) w
  | _ => none

def xStore (vp : VP) (ro : Nat) (fr : VF) (t : TypeId) (a x : Operand) (w : VW) : Option (VN × VW) :=
  match fr.ev a, fr.ev x with
  | some (.pointer (some ad)), some v => unit (storeV vp ro t ad v w)
  | _, _ => none

def xNilCheck (vp : VP) (ro : Nat) (fr : VF) (x : Operand) (w : VW) : Option (VN × VW) :=
  match fr.ev x with
  | some (.pointer (some a)) => one (some (.pointer (some a))) w
  | some (.func (.func f) a b) => one (some (.func (.func f) a b)) w
  | some (.func (.yield f) a b) => one (some (.func (.yield f) a b)) w
  | some (.iface t v) => one (some (.iface t v)) w
  | _ => none

def xFieldAddr (vp : VP) (ro : Nat) (fr : VF) (s : TypeId) (x : Operand) (f : Nat) (w : VW) : Option (VN × VW) :=
  match fr.ev x, vp.ty.get s with
  | some (.pointer (some a)), some ⟨.struct fs, _, _, _, _⟩ => match fs.toList[f]?, a.spot with
    | some fd, none => match vp.ty.get fd.type with
      | some fi => match Nat.beq fi.size 0 with
        | true => none
        | false => one (some (.pointer (some (plus a fd.offset)))) w
      | none => none
    | _, _ => none
  | _, _ => none

def xField (vp : VP) (ro : Nat) (fr : VF) (s : TypeId) (x : Operand) (f : Nat) (w : VW) : Option (VN × VW) :=
  match fr.ev x, vp.ty.get s with
  | some (.agg ⟨cs⟩), some ⟨.struct fs, _, _, _, _⟩ => match fs.toList[f]? with
    | some fd => one (partL vp fd.type cs fd.offset) w
    | none => none
  | _, _ => none

def xIndexAddr (vp : VP) (ro : Nat) (fr : VF) (t : TypeId) (x ix : Operand) (w : VW) : Option (VN × VW) :=
  match fr.ev x, fr.ev ix, vp.ty.get t with
  | some (.slice (some a) len _), some (.int _ (.ofNat i)), some ⟨.slice e, _, _, _, _⟩ => match Nat.blt i len, vp.ty.get e, a.spot with
    | true, some ei, none => one (some (.pointer (some (plus a (i * ei.size))))) w
    | _, _, _ => none
  | some (.pointer (some a)), some (.int _ (.ofNat i)), some ⟨.array len e, _, _, _, _⟩ => match Nat.blt i len, vp.ty.get e, a.spot with
    | true, some ei, none => one (some (.pointer (some (plus a (i * ei.size))))) w
    | true, some ei, some _ => one (some (.pointer (some ⟨a.block, a.off + i * ei.size, a.spot⟩))) w
    | _, _, _ => none
  | _, _, _ => none

def xIndex (vp : VP) (ro : Nat) (fr : VF) (t : TypeId) (x ix : Operand) (w : VW) : Option (VN × VW) :=
  match fr.ev x, fr.ev ix, vp.ty.get t with
  | some (.string ⟨⟨l⟩⟩), some (.int _ (.ofNat i)), some ⟨.string, _, _, _, _⟩ => match l[i]? with
    | some b => one (some (.int .u8 (.ofNat b.toNat))) w
    | none => none
  | some (.agg ⟨cs⟩), some (.int _ (.ofNat i)), some ⟨.array len e, _, _, _, _⟩ => match Nat.blt i len, vp.ty.get e with
    | true, some ei => one (partL vp e cs (i * ei.size)) w
    | _, _ => none
  | _, _, _ => none

def xAlloc (vp : VP) (ro : Nat) (fr : VF) (e : TypeId) (w : VW) : Option (VN × VW) :=
  match vp.ty.get e with
  | some i => match i.zero with
    | some z => boxed (newCells 0 (some e) (cellsL z) w)
    | none => none
  | none => none

def xBox (vp : VP) (ro : Nat) (fr : VF) (e : TypeId) (x : Operand) (w : VW) : Option (VN × VW) :=
  match fr.ev x with
  | some v => boxed (newCells 0 (some e) (cellsL v) w)
  | none => none

def xBuild (vp : VP) (ro : Nat) (fr : VF) (t : TypeId) (parts : Array (Nat × Operand)) (w : VW) : Option (VN × VW) :=
  match vp.ty.get t, fr.evParts parts.toList with
  | some ⟨.struct fs, _, _, some z, _⟩, some ps => match fieldPlaces vp fs.toList with
    | some places => match fillL (places[·]?) (cellsL z) ps with
      | some cs => one (some (.agg ⟨cs⟩)) w
      | none => none
    | none => none
  | some ⟨.array _ e, _, _, some z, _⟩, some ps => match vp.ty.get e with
    | some ei => match fillL (fun i => some (i * ei.size, ei.size)) (cellsL z) ps with
      | some cs => one (some (.agg ⟨cs⟩)) w
      | none => none
    | none => none
  | _, _ => none

def xBuildSlice (vp : VP) (ro : Nat) (fr : VF) (t : TypeId) (len : Nat) (parts : Array (Nat × Operand)) (w : VW) : Option (VN × VW) :=
  match vp.ty.get t, fr.evParts parts.toList with
  | some ⟨.slice e, _, _, _, _⟩, some ps => match vp.ty.get e with
    | some ei => match ei.zero, Nat.ble (len * ei.size) tiny with
      | some z, true => match fillL (fun i => some (i * ei.size, ei.size)) (repL (cellsL z) len) ps with
        | some cs => sliced len len (newCells ei.size (some e) cs w)
        | none => none
      | _, _ => none
    | none => none
  | _, _ => none

def xConvert (vp : VP) (ro : Nat) (fr : VF) (s d : TypeId) (x : Operand) (w : VW) : Option (VN × VW) :=
  match fr.ev x, vp.ty.get s, vp.ty.get d with
  | some (.int _ n), some si, some ⟨.int k, _, _, _, _⟩ => match si.desc with
    | .int _ => one (some (.int k (fwrap k n))) w
    | _ => none
  | some (.string b), some ⟨.string, _, _, _, _⟩, some ⟨.string, _, _, _, _⟩ => one (some (.string b)) w
  | some (.string ⟨⟨l⟩⟩), some ⟨.string, _, _, _, _⟩, some ⟨.slice e, _, _, _, _⟩ => match vp.ty.get e with
    | some ⟨.int .u8, _, _, _, _⟩ => sliced l.length l.length (newCells 1 none (l.map fun b => .int .u8 (.ofNat b.toNat)) w)
    | _ => none
  | some (.slice base len _), some ⟨.slice e, _, _, _, _⟩, some ⟨.string, _, _, _, _⟩ => match vp.ty.get e, base with
    | some ⟨.int .u8, _, _, _, _⟩, none => one (some (.string ⟨⟨[]⟩⟩)) w
    | some ⟨.int .u8, _, _, _, _⟩, some a => match w.heap.get a.block, a.spot with
      | some (.cells n c dv _ _), none => match loadL n c dv a.off len with
        | some l => match bytesL l with
          | some bs => one (some (.string ⟨⟨bs⟩⟩)) w
          | none => none
        | none => none
      | _, _ => none
    | _, _ => none
  | some (.pointer (some a)), some si, some di => match si.desc, di.desc with
    | .pointer e, .unsafePointer => match vp.ty.get e, w.heap.get a.block, a.spot with
      | some ei, some (.cells n _ _ _ _), none => match Nat.beq ei.size 0, Nat.blt a.off n with
        | false, true => one (some (.pointer (some a))) w
        | _, _ => none
      | _, _, _ => none
    | .unsafePointer, .pointer e => match vp.ty.get e, w.heap.get a.block, a.spot with
      | some ei, some (.cells n _ _ _ (some (t, _))), none => match Nat.beq ei.size 0, Nat.beq t e && Nat.beq a.off 0 && Nat.ble ei.size n with
        | false, true => one (some (.pointer (some a))) w
        | _, _ => none
      | _, _, _ => none
    | _, _ => none
  | _, _, _ => none

def xMakeInterface (vp : VP) (ro : Nat) (fr : VF) (t : TypeId) (x : Operand) (w : VW) : Option (VN × VW) :=
  match fr.ev x, vp.ty.get t with
  | some v, some i => match i.desc with
    | .interface _ => none
    | _ => one (some (.iface t v)) w
  | _, _ => none

def xMakeFunc (vp : VP) (ro : Nat) (fr : VF) (fn : Fn) (first captured : Array Operand) (w : VW) : Option (VN × VW) :=
  match fr.evs first.toList, fr.evs captured.toList with
  | some a, some b => match fn with
    | .func f => one (some (.func (.func f) ⟨a⟩ ⟨b⟩)) w
    | _ => none
  | _, _ => none

def xMakeMap (vp : VP) (ro : Nat) (fr : VF) (t : TypeId) (r : Option Operand) (w : VW) : Option (VN × VW) :=
  match r with
  | none => some (.value (.map (some w.next)), w.add (.map []))
  | some x => match fr.ev x, vp.ty.get t with
    | some (.int _ _), some ⟨.map _ _, _, _, _, _⟩ => some (.value (.map (some w.next)), w.add (.map []))
    | _, _ => none

def xMakeSlice (vp : VP) (ro : Nat) (fr : VF) (t : TypeId) (l c : Operand) (w : VW) : Option (VN × VW) :=
  match fr.ev l, fr.ev c, vp.ty.get t with
  | some (.int _ (.ofNat l)), some (.int _ (.ofNat c)), some ⟨.slice e, _, _, _, _⟩ => match vp.ty.get e with
    | some ei => match ei.zero, Nat.ble l c && Nat.ble c small && Nat.ble ei.bytes 65536 with
      | some z, true => match cellsL z with
        | [z1] => match oneCells [z1] with
          | true => some (.value (.slice (some ⟨w.next, 0, none⟩) l c), w.add (.cells c .nil (some z1) 1 (some (e, 0))))
          | false => none
        | zs => sliced l c (newCells ei.size (some e) (repL zs c) w)
      | _, _ => none
    | none => none
  | _, _, _ => none

def xSlice (vp : VP) (ro : Nat) (fr : VF) (t : TypeId) (x : Operand) (lo hi mx : Option Operand) (w : VW) : Option (VN × VW) :=
  match fr.ev x, fr.evO lo, fr.evO hi, fr.evO mx, vp.ty.get t with
  | some (.string ⟨⟨l⟩⟩), some lo, some hi, some none, some ⟨.string, _, _, _, _⟩ => match bounds l.length l.length lo hi none with
    | some (a, b, _) => one (some (.string ⟨⟨(l.drop a).take (b - a)⟩⟩)) w
    | none => none
  | some (.slice base len cap), some lo, some hi, some mx, some ⟨.slice e, _, _, _, _⟩ => match bounds len cap lo hi mx, vp.ty.get e with
    | some (a, b, m), some ei => match base with
      | none => one (some (.slice none (b - a) (m - a))) w
      | some ad => match ad.spot, unitAt w ad.block with
        | none, some u => match Nat.beq u 0 || Nat.beq ei.size u, Nat.beq m a with
          | true, true => one (some (.slice (some ad) 0 0)) w
          | true, false => one (some (.slice (some (plus ad (a * ei.size))) (b - a) (m - a))) w
          | false, _ => none
        | _, _ => none
    | _, _ => none
  | some (.pointer (some ad)), some lo, some hi, some mx, some ⟨.array n e, _, _, _, _⟩ => match bounds n n lo hi mx, vp.ty.get e, ad.spot with
    | some (a, b, m), some ei, none => match Nat.beq m a, w.heap.get ad.block with
      | false, some (.cells k _ _ u _) => match Nat.beq u 0 with
        | true => one (some (.slice (some (plus ad (a * ei.size))) (b - a) (m - a))) w
        | false => none
      | _, _ => none
    | _, _, _ => none
  | _, _, _, _, _ => none

def xLookup (vp : VP) (ro : Nat) (fr : VF) (t : TypeId) (x k : Operand) (ok : Bool) (w : VW) : Option (VN × VW) :=
  match fr.ev x, fr.ev k, vp.ty.get t with
  | some m, some k, some ⟨.map kt e, _, _, _, _⟩ => match vp.ty.get kt, vp.ty.get e with
    | some ki, some ei => match isKey ki.desc k, ei.zero with
      | true, some z => match mapLook w m k with
        | some (some v) => one (some (match ok with | true => .tuple ⟨[v, .bool true]⟩ | false => v)) w
        | some none => one (some (match ok with | true => .tuple ⟨[z, .bool false]⟩ | false => z)) w
        | none => none
      | _, _ => none
    | _, _ => none
  | _, _, _ => none

def xMapUpdate (vp : VP) (ro : Nat) (fr : VF) (t : TypeId) (m k x : Operand) (w : VW) : Option (VN × VW) :=
  match fr.ev m, fr.ev k, fr.ev x, vp.ty.get t with
  | some (.map (some r)), some k, some u, some ⟨.map kt _, _, _, _, _⟩ => match vp.ty.get kt, w.heap.get r, Nat.ble ro r with
    | some ki, some (.map es), true => match isKey ki.desc k, mapPut k u es with
      | true, some es' => some (.skip, { w with heap := w.heap.set r (.map es') })
      | _, _ => none
    | _, _, _ => none
  | _, _, _, _ => none

def xTypeAssert (vp : VP) (ro : Nat) (fr : VF) (x : Operand) (t : TypeId) (ok : Bool) (w : VW) : Option (VN × VW) :=
  match fr.ev x, vp.ty.get t with
  | some (.iface u v), some i => match i.desc, Nat.beq u t with
    | .interface _, _ => none
    | _, true => one (some (match ok with | true => .tuple ⟨[v, .bool true]⟩ | false => v)) w
    | _, false => match ok, i.zero with
      | true, some z => one (some (.tuple ⟨[z, .bool false]⟩)) w
      | _, _ => none
  | some .nilIface, some i => match i.zero, ok with
    | some z, true => one (some (.tuple ⟨[z, .bool false]⟩)) w
    | _, _ => none
  | _, _ => none

def xDefer (vp : VP) (ro : Nat) (fr : VF) (c : Call) (w : VW) : Option (VN × VW) :=
  match c.callee with
  | .value f => match fr.ev f, fr.evs c.args.toList with
    | some (.func (.func g) ⟨first⟩ captured), some args => some (.defer { target := .fn (.func g) captured, args := ⟨first ++ args⟩ }, w)
    | _, _ => none
  | _ => none

def execV (P : Program) (vp : VP) (ro : Nat) (fr : VF) (o : Oper) (w : VW) : Option (VN × VW) :=
  match o.op with
  | .move x | .assign x => one (fr.ev x) w
  | .pick c a b => match fr.ev c with
    | some (.bool true) => one (fr.ev a) w
    | some (.bool false) => one (fr.ev b) w
    | _ => none
  | .binOp op t x y _ => xBinOp vp ro fr op t x y w
  | .load t a => xLoad vp ro fr t a w
  | .store t a x => xStore vp ro fr t a x w
  | .call c =>
    match c.callee with
    | .builtin b => match fr.evs c.args.toList with
      | some args => builtinV vp ro b c.argTypes.toList args w
      | none => none
    | .value f => match fr.ev f, fr.evs c.args.toList with
      | some fv, some args => invokeV vp fv args w
      | _, _ => none
    | .invoke r name => match fr.ev r, fr.evs c.args.toList with
      | some (.iface t v), some args => methodV vp t v name P args w
      | _, _ => none
  | .unOp op _ x => match fr.ev x with
    | some a => one (unOp op a) w
    | none => none
  | .nilCheck x => xNilCheck vp ro fr x w
  | .fieldAddr s x f => xFieldAddr vp ro fr s x f w
  | .field s x f => xField vp ro fr s x f w
  | .indexAddr t x ix => xIndexAddr vp ro fr t x ix w
  | .index t x ix => xIndex vp ro fr t x ix w
  | .extract t i => match fr.ev t with
    | some (.tuple ⟨vs⟩) => one (vs[i]?) w
    | _ => none
  | .alloc e => xAlloc vp ro fr e w
  | .box e x => xBox vp ro fr e x w
  | .build t parts => xBuild vp ro fr t parts w
  | .buildSlice t len parts => xBuildSlice vp ro fr t len parts w
  | .convert s d x => xConvert vp ro fr s d x w
  | .makeInterface t x => xMakeInterface vp ro fr t x w
  | .makeFunc fn first captured => xMakeFunc vp ro fr fn first captured w
  | .makeMap t r => xMakeMap vp ro fr t r w
  | .makeSlice t l c => xMakeSlice vp ro fr t l c w
  | .slice t x lo hi mx => xSlice vp ro fr t x lo hi mx w
  | .lookup t x k ok => xLookup vp ro fr t x k ok w
  | .mapUpdate t m k x => xMapUpdate vp ro fr t m k x w
  | .typeAssert x _ t ok => xTypeAssert vp ro fr x t ok w
  | .defer c => xDefer vp ro fr c w
  | _ => none

/-! ### Steps -/
def rangeL : Nat → Nat → List Nat
  | 0, _ => []
  | n + 1, i => i :: rangeL n (i + 1)

def VF.put (fr : VF) (d : Option Tmp) (v : Value) : Tr Value :=
  match d with
  | some d => match Nat.blt d fr.nt with
    | true => fr.tm.set d v
    | false => fr.tm
  | none => fr.tm

def VF.finish (fr : VF) (v : Value) : Option VF :=
  match fr.todo with
  | .inRegion ops (i :: rest) :: k =>
    match ops.toList[i]? with
    | some o => some { fr with tm := fr.put o.dst v, todo := .inRegion ops rest :: k }
    | none => none
  | _ => none

def VF.enter (fn : Func) (f : Nat) (args : List Value) (kind : CallKind) : Option VF :=
  match fn.body with
  | some c => some { fn := f, tm := Tr.putL .nil 0 args, nt := args.length + (fn.ntmps - args.length), todo := [.code c], defers := [], ret := false, kind }
  | none => none

def wantedV (o : Oper) (ops : List Oper) (tm : Tr Value) : Bool :=
  match o.guard with
  | none => true
  | some (j, want) => match ops[j]? with
    | some p => match p.dst with
      | some d => match tm.get d with
        | some (.bool b) => match b, want with
          | true, true | false, false => true
          | _, _ => false
        | _ => false
      | none => false
    | none => false

def results1 (vp : VP) (fr : VF) (w : VW) : ResultVar → Option Value
  | .tmp t => match fr.tm.get t with | some v => some v | none => some undef
  | .cell a t => match fr.tm.get a with
    | some (.pointer (some ad)) => loadV vp t ad w
    | _ => none
def resultsL (vp : VP) (fr : VF) (w : VW) : List ResultVar → Option (List Value)
  | [] => some []
  | r :: rs => match results1 vp fr w r, resultsL vp fr w rs with
    | some v, some vs => some (v :: vs)
    | _, _ => none
def resultsV (vp : VP) (fr : VF) (w : VW) (rs : List ResultVar) : Option Value :=
  match resultsL vp fr w rs with
  | some [v] => some v
  | some vs => some (.tuple ⟨vs⟩)
  | none => none

inductive VS where
  | next (m : VM)
  | over (v : Value) (w : VW)
  | stop (why : Nat)

/-- A round is left. -/
def leaveV (ro b : Nat) (jump : Option Code) (fr : VF) (cs : List VF) (w : VW) : VS :=
  match fr.kind, w.heap.get b, Nat.ble ro b, cs with
  | .normal, some (.loop l), true, c :: rest => match c.ret, c.finish (.bool jump.isNone) with
    | false, some c' => .next { fr := c', cs := rest, w := { w with heap := w.heap.set b (.loop { l with state := (if jump.isNone then .ready else .done), pending := jump }) } }
    | _, _ => .stop 31
  | _, _, _, _ => .stop 32

def beginV (ro b : Nat) (fr : VF) (k : List Item) (cs : List VF) (w : VW) : VS :=
  match w.heap.get b, Nat.ble ro b with
  | some (.loop l), true => match l.state with
    | .ready => .next { fr := { fr with todo := k }, cs, w := { w with heap := w.heap.set b (.loop { l with state := .busy }) } }
    | _ => .stop 33
  | _, _ => .stop 34

def stepV (P : Program) (vp : VP) (ro : Nat) (m : VM) : VS :=
  match m with
  | { fr, cs, w } =>
  match fr.ret with
  | true =>
    match fr.defers with
    | [] => match vp.fn.get fr.fn with
      | none => .stop 1
      | some fn => match resultsV vp fr w fn.results.toList with
        | none => .stop 2
        | some v => match cs with
          | [] => match fr.kind with
            | .normal => .over v w
            | _ => .stop 21
          | c :: rest => match fr.kind with
            | .normal => match c.ret, c.finish v with
              | false, some c' => .next { fr := c', cs := rest, w }
              | _, _ => .stop 3
            | .deferred => match c.ret with
              | true => .next { fr := c, cs := rest, w }
              | false => .stop 22
            | _ => .stop 4
    | d :: ds => match d.target with
      | .fn (.func g) ⟨captured⟩ => match vp.fn.get g with
        | some fn => match VF.enter fn g (d.args.toList ++ captured) .deferred with
          | some f' => .next { fr := f', cs := { fr with defers := ds } :: cs, w }
          | none => .stop 5
        | none => .stop 6
      | .collected b => match w.heap.get b, Nat.ble ro b, d.args.toList with
        | some (.deferred (some [])), true, [] => .next { fr := { fr with defers := ds }, cs, w := { w with heap := w.heap.set b (.deferred none) } }
        | _, _, _ => .stop 8
      | _ => .stop 7
  | false =>
    match fr.todo with
    | [] => match fr.rd with
      | none => .next { fr := { fr with ret := true }, cs, w }
      | some b => leaveV ro b none fr cs w
    | .code .ret :: _ => match fr.rd with
      | none => .next { fr := { fr with ret := true }, cs, w }
      | some b => leaveV ro b (some .ret) fr cs w
    | .beginRound :: k => match fr.rd with
      | none => .stop 35
      | some b => beginV ro b fr k cs w
    | .code .skip :: k | .code (.label _) :: k | .inBlock _ :: k | .inScope _ :: k => .next { fr := { fr with todo := k }, cs, w }
    | .code (.seq a b) :: k => .next { fr := { fr with todo := .code a :: .code b :: k }, cs, w }
    | .code (.cond c a b) :: k => match fr.ev c with
      | some (.bool true) => .next { fr := { fr with todo := .code a :: k }, cs, w }
      | some (.bool false) => .next { fr := { fr with todo := .code b :: k }, cs, w }
      | _ => .stop 10
    | .code (.block id c) :: k => .next { fr := { fr with todo := .code c :: .inBlock id :: k }, cs, w }
    | .code (.loop c) :: k | .inLoop c :: k => .next { fr := { fr with todo := .code c :: .inLoop c :: k }, cs, w }
    | .code (.scope c) :: k => .next { fr := { fr with todo := .code c :: .inScope c :: k }, cs, w }
    | .code (.exit id) :: k => match exitTo id k with
      | some k' => .next { fr := { fr with todo := k' }, cs, w }
      | none => match fr.rd with
        | none => .stop 11
        | some b => leaveV ro b (some (.exit id)) fr cs w
    | .code (.goto l) :: k => match gotoIn l k with
      | some k' => .next { fr := { fr with todo := k' }, cs, w }
      | none => match fr.rd with
        | none => .stop 12
        | some b => leaveV ro b (some (.goto l)) fr cs w
    | .code (.region _ ops draw) :: k => match draw with
      | false => .next { fr := { fr with todo := .inRegion ops (rangeL ops.toList.length 0) :: k }, cs, w }
      | true => .stop 13
    | .inRegion _ [] :: k => .next { fr := { fr with todo := k }, cs, w }
    | .inRegion ops (i :: rest) :: k => match ops.toList[i]? with
      | none => .stop 14
      | some o => match wantedV o ops.toList fr.tm with
        | false => .next { fr := { fr with tm := fr.put o.dst undef, todo := .inRegion ops rest :: k }, cs, w }
        | true => match execV P vp ro fr o w with
          | none => .stop 15
          | some (.value v, w') => .next { fr := { fr with tm := fr.put o.dst v, todo := .inRegion ops rest :: k }, cs, w := w' }
          | some (.skip, w') => .next { fr := { fr with tm := fr.put o.dst undef, todo := .inRegion ops rest :: k }, cs, w := w' }
          | some (.defer d, w') => match fr.rd with
            | none => .next { fr := { fr with tm := fr.put o.dst undef, todo := .inRegion ops rest :: k, defers := d :: fr.defers }, cs, w := w' }
            | some _ => .stop 23
          | some (.round f', w') => .next { fr := f', cs := fr :: cs, w := w' }
          | some (.enter g args, w') => match vp.fn.get g with
            | some fn => match VF.enter fn g args .normal with
              | some f' => .next { fr := f', cs := fr :: cs, w := w' }
              | none => .stop 16
            | none => .stop 17
          | some (.recover, w') => match fr.rd.isNone && (match fr.kind with | .normal => true | .deferred => (match cs with | c :: _ => c.ret | [] => false) | _ => false) with
            | true => .next { fr := { fr with tm := fr.put o.dst .nilIface, todo := .inRegion ops rest :: k }, cs, w := w' }
            | false => .stop 18
    | _ => .stop 19

/-- No slice in it: what stands for it is one value. -/
def uniq : Nat → Value → Bool
  | _, .bool _ | _, .int _ _ | _, .string _ | _, .pointer _ | _, .slice none _ _ | _, .map _ | _, .nilFunc | _, .nilIface => true
  | n + 1, .iface _ v => uniq n v
  | n + 1, .func (.func _) ⟨a⟩ ⟨c⟩ => a.all (uniq n) && c.all (uniq n)
  | n + 1, .agg ⟨cs⟩ => cs.all (uniq n)
  | n + 1, .tuple ⟨cs⟩ => cs.all (uniq n)
  | _, _ => false

def quietK (o : Op) : Bool :=
  match o with
  | .pick .. | .nilCheck _ | .binOp .. | .unOp .. | .convert .. | .makeInterface .. | .makeFunc .. | .fieldAddr .. | .field .. | .indexAddr .. | .index .. | .lookup .. | .typeAssert .. | .extract .. | .build .. => true
  | .call { callee := .builtin .unsafeSliceData, .. } | .call { callee := .builtin .cap, .. } => true
  | .call { callee := .builtin .len, .. } | .call { callee := .builtin .min, .. } | .call { callee := .builtin .max, .. } => true
  | _ => false
def quietAny (o : Op) : Bool :=
  match o with
  | .move _ | .assign _ | .load .. | .slice .. => true
  | _ => false

def isCall (o : Op) : Bool :=
  match o with
  | .call { callee := .builtin _, .. } => false
  | .call _ => true
  | _ => false

def quietL (P : Program) (vp : VP) (sub : VM → VS) (all : List Oper) (V : VW) : List Oper → VF → Option VF
  | [], fr => some fr
  | o :: rest, fr => match wantedV o all fr.tm with
    | false => quietL P vp sub all V rest { fr with tm := fr.put o.dst undef }
    | true => match isCall o.op, execV P vp V.next fr o V with
      | false, some (.value v, _) => match quietAny o.op || (quietK o.op && uniq 10 v) with
        | true => quietL P vp sub all V rest { fr with tm := fr.put o.dst v }
        | false => none
      | true, some (.enter g args, _) => match vp.fn.get g with
        | some fn => match VF.enter fn g args .normal with
          | some f' => match sub { fr := f', cs := [], w := V } with
            | .over v _ => match flat 10 v with
              | true => quietL P vp sub all V rest { fr with tm := fr.put o.dst v }
              | false => none
            | _ => none
          | none => none
        | none => none
      | _, _ => none

/-- What stands behind the quiet operations of a region, in the text's order. -/
def tailL (P : Program) (vp : VP) (sub : VM → VS) (ro : Nat) (all : List Oper) : List Oper → VF → VW → Option (VF × VW)
  | [], fr, w => some (fr, w)
  | o :: rest, fr, w => match wantedV o all fr.tm with
    | false => tailL P vp sub ro all rest { fr with tm := fr.put o.dst undef } w
    | true => match execV P vp ro fr o w with
      | some (.value v, w') => tailL P vp sub ro all rest { fr with tm := fr.put o.dst v } w'
      | some (.skip, w') => tailL P vp sub ro all rest { fr with tm := fr.put o.dst undef } w'
      | some (.enter g args, w') => match vp.fn.get g with
        | some fn => match VF.enter fn g args .normal with
          | some f' => match sub { fr := f', cs := [], w := w' } with
            | .over v w'' => tailL P vp sub ro all rest { fr with tm := fr.put o.dst v } w''
            | _ => none
          | none => none
        | none => none
      | _ => none

def headN : List Oper → Nat
  | [] => 0
  | o :: rest => match quietAny o.op || quietK o.op with
    | true => headN rest + 1
    | false => 0

def noSub : VM → VS := fun _ => .stop 0

/-- A region that draws its order: quiet, calls among it, but for its last operation. -/
def drawT (P : Program) (vp : VP) (subQ sub : VM → VS) (ro : Nat) (ops : Array Oper) (fr : VF) (w : VW) : Option (VF × VW) :=
  match ops.toList.length with
  | 0 => none
  | m + 1 => match Region.lexTailB .any ops m with
    | true => match quietL P vp subQ ops.toList w (ops.toList.take m) fr with
      | some fr' => tailL P vp sub ro ops.toList (ops.toList.drop m) fr' w
      | none => none
    | false => none

def isMove (o : Op) : Bool :=
  match o with
  | .move _ | .assign _ => true
  | _ => false

/-- A value told by itself, or a slice that has room: its place and its room are told by its block. -/
def uniqS1 (v : Value) : Bool :=
  match v with
  | .slice (some _) _ c => Nat.blt 0 c
  | v => uniq 10 v
def isSlice (o : Op) : Bool :=
  match o with
  | .slice .. => true
  | _ => false

/-- An operation that looks at no world: what it yields. -/
def pureV (P : Program) (vp : VP) (N : Nat) (fr : VF) (o : Oper) : Option Value :=
  match execV P vp N fr o { next := N, heap := .nil, gl := .nil } with
  | some (.value v, _) => match isMove o.op || ((quietK o.op && uniq 10 v) || (isSlice o.op && uniqS1 v)) with
    | true => some v
    | false => none
  | _ => none

/-- The first of those that may come up that may be taken first. -/
def pickP (P : Program) (vp : VP) (N : Nat) (ops : Array Oper) (s : Array Bool) (fr : VF) : List Nat → Option (Nat × Oper × Value)
  | [] => none
  | i :: r => match ops[i]?, Region.free .any ops s i with
    | some o, true => match wantedV o ops.toList fr.tm with
      | false => some (i, o, undef)
      | true => match pureV P vp N fr o with
        | some v => some (i, o, v)
        | none => pickP P vp N ops s fr r
    | _, _ => pickP P vp N ops s fr r

/-- A region, one operation at a time: one that looks at no world first; else the only one that may come up. -/
def greedyL (P : Program) (vp : VP) (sub : VM → VS) (ro : Nat) (ops : Array Oper) : Nat → Array Bool → VF → VW → Option (VF × VW)
  | 0, s, fr, w => match Region.ready .any ops s with
    | [] => some (fr, w)
    | _ => none
  | n + 1, s, fr, w => match Region.ready .any ops s with
    | [] => some (fr, w)
    | i :: r => match pickP P vp w.next ops s fr (i :: r) with
      | some (j, o, v) => greedyL P vp sub ro ops n (s.setIfInBounds j true) { fr with tm := fr.put o.dst v } w
      | none => match r, ops[i]? with
        | [], some o => match wantedV o ops.toList fr.tm with
          | false => none
          | true => match execV P vp ro fr o w with
            | some (.value v, w') => greedyL P vp sub ro ops n (s.setIfInBounds i true) { fr with tm := fr.put o.dst v } w'
            | some (.skip, w') => greedyL P vp sub ro ops n (s.setIfInBounds i true) { fr with tm := fr.put o.dst undef } w'
            | some (.enter g args, w') => match vp.fn.get g with
              | some fn => match VF.enter fn g args .normal with
                | some f' => match sub { fr := f', cs := [], w := w' } with
                  | .over v w'' => greedyL P vp sub ro ops n (s.setIfInBounds i true) { fr with tm := fr.put o.dst v } w''
                  | _ => none
                | none => none
              | none => none
            | _ => none
        | _, _ => none

/-- .. or a struct of such. -/
def uniqS (v : Value) : Bool := uniqS1 v || (match v with | .agg ⟨cs⟩ => cs.all uniqS1 | _ => false)

/-- The same value, and one that is told by itself. -/
def veq1 : Value → Value → Bool
  | .bool a, .bool b => match a, b with
    | true, true | false, false => true
    | _, _ => false
  | .int k n, .int k' m => match keq k k' with
    | true => ieq n m
    | false => false
  | .string ⟨⟨a⟩⟩, .string ⟨⟨b⟩⟩ => leq a b
  | .pointer none, .pointer none => true
  | .pointer (some ⟨b, o, none⟩), .pointer (some ⟨b', o', none⟩) => match Nat.beq b b' with
    | true => Nat.beq o o'
    | false => false
  | .slice none a b, .slice none c d => match Nat.beq a c with
    | true => Nat.beq b d
    | false => false
  | .slice (some ⟨b, o, none⟩) l c, .slice (some ⟨b', o', none⟩) l' c' => match Nat.beq b b' && Nat.beq o o' && Nat.beq l l' && Nat.beq c c' with
    | true => Nat.blt 0 c
    | false => false
  | .map none, .map none => true
  | .map (some a), .map (some b) => Nat.beq a b
  | .nilFunc, .nilFunc => true
  | .nilIface, .nilIface => true
  | _, _ => false

def veqL : List Value → List Value → Bool
  | [], [] => true
  | a :: x, b :: y => match veq1 a b with
    | true => veqL x y
    | false => false
  | _, _ => false
def veqB (a b : Value) : Bool :=
  match a, b with
  | .agg ⟨x⟩, .agg ⟨y⟩ => veqL x y
  | .func (.func f) ⟨x⟩ ⟨y⟩, .func (.func g) ⟨u⟩ ⟨v⟩ => match Nat.beq f g, veqL x u, veqL y v with
    | true, true, true => uniq 10 (.func (.func f) ⟨x⟩ ⟨y⟩)
    | _, _, _ => false
  | .iface t x, .iface u y => match Nat.beq t u, veq1 x y with
    | true, true => uniq 10 (.iface t x)
    | _, _ => false
  | a, b => veq1 a b

/-- What lies there lies there still. -/
def keepsD (vp : VP) : List (TypeId × Addr × Value) → VW → Bool
  | [], _ => true
  | (t, a, v) :: r, w => match loadV vp t a w with
    | some u => match veqB v u with
      | true => keepsD vp r w
      | false => false
    | none => false

def findD : List (TypeId × Addr × Value) → TypeId → Addr → Option Value
  | [], _, _ => none
  | (t, a, v) :: r, u, b => match Nat.beq t u && Nat.beq a.block b.block && Nat.beq a.off b.off && a.spot.isNone && b.spot.isNone with
    | true => some v
    | false => findD r u b

def loadD (D : List (TypeId × Addr × Value)) (fr : VF) (o : Oper) : Option Value :=
  match o.op with
  | .load t a => match fr.ev a with
    | some (.pointer (some ad)) => findD D t ad
    | _ => none
  | _ => none

/-- .. or a load of what is known to stay. -/
def pickH (P : Program) (vp : VP) (N : Nat) (D : List (TypeId × Addr × Value)) (ops : Array Oper) (s : Array Bool) (fr : VF) : List Nat → Option (Nat × Oper × Value)
  | [] => none
  | i :: r => match ops[i]?, Region.free .any ops s i with
    | some o, true => match wantedV o ops.toList fr.tm with
      | false => some (i, o, undef)
      | true => match pureV P vp N fr o with
        | some v => some (i, o, v)
        | none => match loadD D fr o with
          | some v => some (i, o, v)
          | none => pickH P vp N D ops s fr r
    | _, _ => pickH P vp N D ops s fr r

/-- The first load of those that may come up. -/
def pickS (vp : VP) (ops : Array Oper) (s : Array Bool) (fr : VF) (w : VW) : List Nat → Option (Nat × Oper × TypeId × Addr × Value)
  | [] => none
  | i :: r => match ops[i]?, Region.free .any ops s i with
    | some o, true => match wantedV o ops.toList fr.tm, o.op with
      | true, .load t a => match fr.ev a with
        | some (.pointer (some ad)) => match loadV vp t ad w with
          | some v => match veqB v v with
            | true => some (i, o, t, ad, v)
            | false => pickS vp ops s fr w r
          | none => pickS vp ops s fr w r
        | _ => pickS vp ops s fr w r
      | _, _ => pickS vp ops s fr w r
    | _, _ => pickS vp ops s fr w r

/-- The loads at a region's head. -/
def scanD (P : Program) (vp : VP) (ops : Array Oper) : Nat → Array Bool → VF → VW → List (TypeId × Addr × Value) → List (TypeId × Addr × Value)
  | 0, _, _, _, D => D
  | n + 1, s, fr, w, D => match pickP P vp w.next ops s fr (Region.ready .any ops s) with
    | some (j, o, v) => scanD P vp ops n (s.setIfInBounds j true) { fr with tm := fr.put o.dst v } w D
    | none => match pickS vp ops s fr w (Region.ready .any ops s) with
      | some (j, o, t, a, v) => scanD P vp ops n (s.setIfInBounds j true) { fr with tm := fr.put o.dst v } w ((t, a, v) :: D)
      | none => D

def waitsB (ops : Array Oper) (i j : Nat) : Bool :=
  match ops[i]? with
  | some o => o.after.toList.any fun e => Region.binds .any e && Nat.beq e.on j
  | none => false
def loadB (o : Oper) : Bool :=
  match o.op with
  | .load .. => true
  | _ => false
/-- It waits for all loads, or for who waits for them. -/
def lateB (ops : Array Oper) (i : Nat) : Bool :=
  (List.range ops.size).all fun j => Nat.beq j i || (match ops[j]? with | some o => !loadB o | none => true) || waitsB ops i j || (List.range ops.size).any fun k => waitsB ops i k && waitsB ops k j

/-- The end of a region: what is left waits for all loads. -/
def greedyE (P : Program) (vp : VP) (ro : Nat) (ops : Array Oper) : Nat → Array Bool → VF → VW → Option (VF × VW)
  | 0, s, fr, w => match Region.ready .any ops s with
    | [] => some (fr, w)
    | _ => none
  | n + 1, s, fr, w => match Region.ready .any ops s with
    | [] => some (fr, w)
    | i :: r => match pickP P vp w.next ops s fr (i :: r) with
      | some (j, o, v) => greedyE P vp ro ops n (s.setIfInBounds j true) { fr with tm := fr.put o.dst v } w
      | none => match r, ops[i]?, lateB ops i with
        | [], some o, true => match wantedV o ops.toList fr.tm with
          | false => none
          | true => match execV P vp ro fr o w with
            | some (.value v, w') => greedyE P vp ro ops n (s.setIfInBounds i true) { fr with tm := fr.put o.dst v } w'
            | some (.skip, w') => greedyE P vp ro ops n (s.setIfInBounds i true) { fr with tm := fr.put o.dst undef } w'
            | _ => none
        | _, _, _ => none

/-- A region, one operation at a time, where what 'D' says stays. -/
def greedyH (P : Program) (vp : VP) (sub : VM → VS) (ro : Nat) (D : List (TypeId × Addr × Value)) (ops : Array Oper) : Nat → Array Bool → VF → VW → Option (VF × VW)
  | 0, s, fr, w => match Region.ready .any ops s with
    | [] => some (fr, w)
    | _ => none
  | n + 1, s, fr, w => match Region.ready .any ops s with
    | [] => some (fr, w)
    | i :: r => match pickH P vp w.next D ops s fr (i :: r) with
      | some (j, o, v) => greedyH P vp sub ro D ops n (s.setIfInBounds j true) { fr with tm := fr.put o.dst v } w
      | none => match r, ops[i]? with
        | [], some o => match wantedV o ops.toList fr.tm with
          | false => none
          | true => match execV P vp ro fr o w with
            | some (.value v, w') => match keepsD vp D w' with
              | true => greedyH P vp sub ro D ops n (s.setIfInBounds i true) { fr with tm := fr.put o.dst v } w'
              | false => none
            | some (.skip, w') => match keepsD vp D w' with
              | true => greedyH P vp sub ro D ops n (s.setIfInBounds i true) { fr with tm := fr.put o.dst undef } w'
              | false => match lateB ops i with
                | true => greedyE P vp ro ops n (s.setIfInBounds i true) { fr with tm := fr.put o.dst undef } w'
                | false => none
            | some (.enter g args, w') => match vp.fn.get g with
              | some fn => match VF.enter fn g args .normal with
                | some f' => match sub { fr := f', cs := [], w := w' } with
                  | .over v w'' => match keepsD vp D w'' with
                    | true => greedyH P vp sub ro D ops n (s.setIfInBounds i true) { fr with tm := fr.put o.dst v } w''
                    | false => none
                  | _ => none
                | none => none
              | none => none
            | _ => none
        | _, _ => none

def heldG (P : Program) (vp : VP) (sub : VM → VS) (ro : Nat) (ops : Array Oper) (fr : VF) (w : VW) : Option (VF × VW) :=
  match scanD P vp ops ops.size (Array.replicate ops.size false) fr w [] with
  | [] => none
  | x :: r => match keepsD vp (x :: r) w with
    | true => greedyH P vp sub ro (x :: r) ops ops.size (Array.replicate ops.size false) fr w
    | false => none

/-- All addresses in it are below N. -/
def oldV (N : Nat) : Nat → Value → Bool
  | _, .bool _ | _, .int _ _ | _, .string _ | _, .pointer none | _, .slice none _ _ | _, .map none | _, .nilFunc | _, .nilIface => true
  | _, .pointer (some a) => Nat.blt a.block N || a.spot.isSome
  | _, .slice (some a) _ _ => Nat.blt a.block N
  | _, .map (some r) => Nat.blt r N
  | n + 1, .iface _ v => oldV N n v
  | n + 1, .func (.func _) ⟨a⟩ ⟨c⟩ => a.all (oldV N n) && c.all (oldV N n)
  | n + 1, .agg ⟨cs⟩ => cs.all (oldV N n)
  | n + 1, .tuple ⟨cs⟩ => cs.all (oldV N n)
  | _, _ => false

/-- What an operation hands back in every world that has what was there when the region began ('w'). -/
def yieldA (P : Program) (vp : VP) (sub : VM → VS) (fr : VF) (o : Oper) (w : VW) : Option Value :=
  match isCall o.op with
  | true => match execV P vp w.next fr o w with
    | some (.enter g args, _) => match vp.fn.get g, args.all (oldV w.next 10) with
      | some fn, true => match VF.enter fn g args .normal with
        | some f' => match sub { fr := f', cs := [], w := w } with
          | .over v _ => match flat 10 v with
            | true => some v
            | false => none
          | _ => none
        | none => none
      | _, _ => none
    | _ => none
  | false => match o.op with
    | .load t a => match fr.ev a with
      | some (.pointer (some ad)) => loadV vp t ad w
      | _ => none
    | _ => none

def pickQ (P : Program) (vp : VP) (sub : VM → VS) (N : Nat) (V0 : VW) (ops : Array Oper) (s : Array Bool) (fr : VF) : List Nat → Option (Nat × Oper × Value)
  | [] => none
  | i :: r => match ops[i]?, Region.free .any ops s i with
    | some o, true => match wantedV o ops.toList fr.tm with
      | false => some (i, o, undef)
      | true => match pureV P vp N fr o with
        | some v => some (i, o, v)
        | none => match yieldA P vp sub fr o V0 with
          | some v => some (i, o, v)
          | none => pickQ P vp sub N V0 ops s fr r
    | _, _ => pickQ P vp sub N V0 ops s fr r

/-- A region that writes nothing that was there. -/
def greedyQ (P : Program) (vp : VP) (sub : VM → VS) (V0 : VW) (ops : Array Oper) : Nat → Array Bool → VF → VW → Option (VF × VW)
  | 0, s, fr, w => match Region.ready .any ops s with
    | [] => some (fr, w)
    | _ => none
  | n + 1, s, fr, w => match Region.ready .any ops s with
    | [] => some (fr, w)
    | i :: r => match pickQ P vp sub w.next V0 ops s fr (i :: r) with
      | some (j, o, v) => greedyQ P vp sub V0 ops n (s.setIfInBounds j true) { fr with tm := fr.put o.dst v } w
      | none => match r, ops[i]? with
        | [], some o => match wantedV o ops.toList fr.tm with
          | false => none
          | true => match execV P vp V0.next fr o w with
            | some (.value v, w') => greedyQ P vp sub V0 ops n (s.setIfInBounds i true) { fr with tm := fr.put o.dst v } w'
            | some (.skip, w') => greedyQ P vp sub V0 ops n (s.setIfInBounds i true) { fr with tm := fr.put o.dst undef } w'
            | some (.enter g args, w') => match vp.fn.get g with
              | some fn => match VF.enter fn g args .normal with
                | some f' => match sub { fr := f', cs := [], w := w' } with
                  | .over v w'' => greedyQ P vp sub V0 ops n (s.setIfInBounds i true) { fr with tm := fr.put o.dst v } w''
                  | _ => none
                | none => none
              | none => none
            | _ => none
        | _, _ => none

def chainW (ops : Array Oper) (n : Nat) : Bool :=
  (List.range ops.size).all fun t => decide (t ≤ n) || (List.range t).any fun j => decide (n ≤ j) && Region.waitsFor .any ops t j

def lexH (ops : Array Oper) : Nat → Nat → Array Bool → Option (Array Bool)
  | 0, _, s => some s
  | f + 1, k, s => match (Region.ready .any ops s).contains k && Region.free .any ops s k with
    | true => lexH ops f (k + 1) (s.setIfInBounds k true)
    | false => none

/-- So many operations at the front are quiet. -/
def quietN (P : Program) (vp : VP) (sub : VM → VS) (all : List Oper) (V : VW) : List Oper → VF → Nat
  | [], _ => 0
  | o :: rest, fr => match quietL P vp sub all V [o] fr with
    | some fr' => quietN P vp sub all V rest fr' + 1
    | none => 0

def headG (P : Program) (vp : VP) (subQ sub : VM → VS) (ro : Nat) (ops : Array Oper) (fr : VF) (w : VW) (n : Nat) : Option (VF × VW) :=
  match Region.noSelect ops && Nat.blt n ops.toList.length && Region.sinkB .any ops n && chainW ops n, lexH ops n 0 (Array.replicate ops.size false) with
  | true, some s => match (Region.ready .any ops s).all fun j => Nat.ble n j with
    | true => match quietL P vp subQ ops.toList w (ops.toList.take n) fr with
      | some fr' => greedyL P vp sub ro ops (ops.toList.length - n) s fr' w
      | none => none
    | false => none
  | _, _ => none

def drawG (P : Program) (vp : VP) (subQ sub : VM → VS) (ro : Nat) (ops : Array Oper) (fr : VF) (w : VW) : Option (VF × VW) :=
  match Region.noSelect ops with
  | false => none
  | true => match greedyL P vp sub ro ops ops.size (Array.replicate ops.size false) fr w with
    | some r => some r
    | none => match heldG P vp sub ro ops fr w with
      | some r => some r
      | none => match greedyQ P vp subQ w ops ops.size (Array.replicate ops.size false) fr w with
        | some (fr', w') => some (fr', ⟨w'.next, w'.heap, w.gl⟩)
        | none => headG P vp subQ sub ro ops fr w (quietN P vp subQ ops.toList w ops.toList fr)

/-- A region that draws its order: all of it quiet; or quiet but for its end. -/
def drawV (P : Program) (vp : VP) (subQ sub : VM → VS) (ro : Nat) (ops : Array Oper) (fr : VF) (w : VW) : Option (VF × VW) :=
  match (match Region.lexB .any ops with
    | true => quietL P vp subQ ops.toList w ops.toList fr
    | false => none) with
  | some fr' => some (fr', w)
  | none => match Region.lexTailB .any ops (headN ops.toList) with
    | true => match quietL P vp noSub ops.toList w (ops.toList.take (headN ops.toList)) fr with
      | some fr' => tailL P vp sub ro ops.toList (ops.toList.drop (headN ops.toList)) fr' w
      | none => none
    | false => match drawT P vp subQ sub ro ops fr w with
      | some r => some r
      | none => drawG P vp subQ sub ro ops fr w

/-- The same step, its frame in parts: what does not turn is handed on as it is. -/
def putT (nt : Nat) (tm : Tr Value) (d : Option Tmp) (v : Value) : Tr Value :=
  match d with
  | some d => match Nat.blt d nt with
    | true => tm.set d v
    | false => tm
  | none => tm

def nextF (fn : Nat) (tm : Tr Value) (nt : Nat) (todo : List Item) (defers : List Deferred) (kind : CallKind) (cs : List VF) (w : VW) : VS :=
  .next ⟨⟨fn, tm, nt, todo, defers, false, kind, none⟩, cs, w⟩

def opF2 (P : Program) (vp : VP) (fn : Nat) (tm : Tr Value) (nt : Nat) (defers : List Deferred) (kind : CallKind) (cs : List VF) (ops : Array Oper) (i : Nat) (rest : List Nat) (k : List Item) (dst : Option Tmp) : Option (VN × VW) → VS
  | none => .stop 15
  | some (.value v, w') => nextF fn (putT nt tm dst v) nt (.inRegion ops rest :: k) defers kind cs w'
  | some (.skip, w') => nextF fn (putT nt tm dst undef) nt (.inRegion ops rest :: k) defers kind cs w'
  | some (.defer d, w') => nextF fn (putT nt tm dst undef) nt (.inRegion ops rest :: k) (d :: defers) kind cs w'
  | some (.enter g args, w') => match vp.fn.get g with
    | some f => match VF.enter f g args .normal with
      | some f' => .next { fr := f', cs := ⟨fn, tm, nt, .inRegion ops (i :: rest) :: k, defers, false, kind, none⟩ :: cs, w := w' }
      | none => .stop 16
    | none => .stop 17
  | some (.round f', w') => .next { fr := f', cs := ⟨fn, tm, nt, .inRegion ops (i :: rest) :: k, defers, false, kind, none⟩ :: cs, w := w' }
  | some (.recover, w') => match (match kind with | .normal => true | .deferred => (match cs with | c :: _ => c.ret | [] => false) | _ => false) with
    | true => nextF fn (putT nt tm dst .nilIface) nt (.inRegion ops rest :: k) defers kind cs w'
    | false => .stop 18

def opF (P : Program) (vp : VP) (ro : Nat) (fn : Nat) (tm : Tr Value) (nt : Nat) (defers : List Deferred) (kind : CallKind) (cs : List VF) (w : VW) (ops : Array Oper) (i : Nat) (rest : List Nat) (k : List Item) : VS :=
  match ops.toList[i]? with
  | none => .stop 14
  | some o => match wantedV o ops.toList tm with
    | false => nextF fn (putT nt tm o.dst undef) nt (.inRegion ops rest :: k) defers kind cs w
    | true => opF2 P vp fn tm nt defers kind cs ops i rest k o.dst (execV P vp ro ⟨fn, tm, nt, .inRegion ops (i :: rest) :: k, defers, false, kind, none⟩ o w)

def condF (fn : Nat) (tm : Tr Value) (nt : Nat) (defers : List Deferred) (kind : CallKind) (cs : List VF) (w : VW) (c : Operand) (a b : Code) (k : List Item) : VS :=
  match (VF.mk fn tm nt (.code (.cond c a b) :: k) defers false kind none).ev c with
  | some (.bool true) => nextF fn tm nt (.code a :: k) defers kind cs w
  | some (.bool false) => nextF fn tm nt (.code b :: k) defers kind cs w
  | _ => .stop 10

def stepF (P : Program) (vp : VP) (ro : Nat) (fn : Nat) (tm : Tr Value) (nt : Nat) (defers : List Deferred) (kind : CallKind) (cs : List VF) (w : VW) : List Item → VS
  | [] => .next ⟨⟨fn, tm, nt, [], defers, true, kind, none⟩, cs, w⟩
  | .code .ret :: k => .next ⟨⟨fn, tm, nt, .code .ret :: k, defers, true, kind, none⟩, cs, w⟩
  | .code .skip :: k | .code (.label _) :: k | .inBlock _ :: k | .inScope _ :: k => nextF fn tm nt k defers kind cs w
  | .code (.seq a b) :: k => nextF fn tm nt (.code a :: .code b :: k) defers kind cs w
  | .code (.cond c a b) :: k => condF fn tm nt defers kind cs w c a b k
  | .code (.block id c) :: k => nextF fn tm nt (.code c :: .inBlock id :: k) defers kind cs w
  | .code (.loop c) :: k | .inLoop c :: k => nextF fn tm nt (.code c :: .inLoop c :: k) defers kind cs w
  | .code (.scope c) :: k => nextF fn tm nt (.code c :: .inScope c :: k) defers kind cs w
  | .code (.exit id) :: k => match exitTo id k with
    | some k' => nextF fn tm nt k' defers kind cs w
    | none => .stop 11
  | .code (.goto l) :: k => match gotoIn l k with
    | some k' => nextF fn tm nt k' defers kind cs w
    | none => .stop 12
  | .code (.region _ ops draw) :: k => match draw with
    | false => nextF fn tm nt (.inRegion ops (rangeL ops.toList.length 0) :: k) defers kind cs w
    | true => .stop 13
  | .beginRound :: _ => .stop 35
  | .inRegion _ [] :: k => nextF fn tm nt k defers kind cs w
  | .inRegion ops (i :: rest) :: k => opF P vp ro fn tm nt defers kind cs w ops i rest k
  | _ => .stop 19

theorem stepF_eq (P : Program) (vp : VP) (ro fn : Nat) (tm : Tr Value) (nt : Nat) (defers : List Deferred) (kind : CallKind) (cs : List VF) (w : VW) (todo : List Item) :
    stepF P vp ro fn tm nt defers kind cs w todo = stepV P vp ro ⟨⟨fn, tm, nt, todo, defers, false, kind, none⟩, cs, w⟩ := by
  unfold stepV
  simp only
  cases todo with
  | nil => rfl
  | cons x k =>
    cases x with
    | code c =>
      cases c with
      | region id ops draw => cases draw <;> rfl
      | _ => rfl
    | inRegion ops l =>
      cases l with
      | nil => rfl
      | cons i rest =>
        simp only [stepF, opF]
        cases ops.toList[i]? with
        | none => rfl
        | some o =>
          simp only
          cases wantedV o ops.toList tm with
          | false => rfl
          | true =>
            simp only
            generalize execV P vp ro ⟨fn, tm, nt, .inRegion ops (i :: rest) :: k, defers, false, kind, none⟩ o w = q
            cases q with
            | none => rfl
            | some p =>
              obtain ⟨n, w'⟩ := p
              cases n <;> rfl
    | _ => rfl

/-- A region that draws its order, within a round. -/
def drawR (P : Program) (vp : VP) (subQ sub : VM → VS) (ro : Nat) (ops : Array Oper) (fr : VF) (w : VW) : Option (VF × VW) :=
  match Region.noSelect ops && (ops.toList.all fun o => match o.op with | .defer _ => false | _ => true) with
  | false => none
  | true => match greedyL P vp sub ro ops ops.size (Array.replicate ops.size false) fr w with
    | some r => some r
    | none => match heldG P vp sub ro ops fr w with
      | some r => some r
      | none => match greedyQ P vp subQ w ops ops.size (Array.replicate ops.size false) fr w with
        | some (fr', w') => some (fr', ⟨w'.next, w'.heap, w.gl⟩)
        | none => none

/-- The statement 'for .. := range g': its record, the block for deferred calls; the call of g. -/
def rangeV (vp : VP) (fr : VF) (g : Operand) (ps : Array Tmp) (assign body : Code) (w : VW) : Option (VF × VW) :=
  match fr.ev g with
  | some (.func (.func gf) ⟨first⟩ ⟨captured⟩) => match vp.fn.get gf with
    | some fn => match VF.enter fn gf (first ++ [.func (.yield (w.next + 1)) ⟨[]⟩ ⟨[]⟩] ++ captured) .normal with
      | some f' => some (f', (w.add (.deferred (some []))).add (.loop { state := .ready, pending := none, fn := fr.fn, tm := fr.tm, nt := fr.nt, params := ps.toList, assign, body }))
      | none => none
    | none => none
  | _ => none

/-- .. and its end: the jump that is pending. -/
def endV (ro b : Nat) (w : VW) : Option (Option Code × VW) :=
  match w.heap.get b, Nat.ble ro b with
  | some (.loop l), true => match l.state with
    | .busy => none
    | _ => some (l.pending, { w with heap := w.heap.set b (.loop { l with state := .exhausted }) })
  | _, _ => none

def afterV (jump : Option Code) (k : List Item) : List Item := (jump.map Item.code).toList ++ k
def markV (b : Nat) : Deferred := { target := .collected b, args := ⟨[]⟩ }

/-- One move of a run: a step, a region that draws, a loop over a function. 'sub' runs what is entered within it. -/
def bigV (P : Program) (vp : VP) (sub : Nat → VM → VS) (ro : Nat) (m : VM) : VS :=
  match m.fr.ret, m.fr.rd, m.fr.todo with
  | false, none, .code (.region _ ops true) :: k => match drawV P vp (sub m.w.next) (sub ro) ro ops m.fr m.w with
    | some (fr', w') => .next { fr := { m.fr with tm := fr'.tm, todo := k }, cs := m.cs, w := w' }
    | none => .stop 13
  | false, some _, .code (.region _ ops true) :: k => match drawR P vp (sub m.w.next) (sub ro) ro ops m.fr m.w with
    | some (fr', w') => .next { fr := { m.fr with tm := fr'.tm, todo := k }, cs := m.cs, w := w' }
    | none => .stop 14
  | false, none, .code (.rangeFunc g ps assign body) :: k => match rangeV vp m.fr g ps assign body m.w with
    | some (f', w1) => match sub ro { fr := f', cs := [], w := w1 } with
      | .over _ w2 => match endV ro (m.w.next + 1) w2 with
        | some (jump, w3) => .next { fr := { m.fr with todo := afterV jump k, defers := markV m.w.next :: m.fr.defers }, cs := m.cs, w := w3 }
        | none => .stop 41
      | .stop q => .stop q
      | .next _ => .stop 42
    | none => .stop 43
  | _, _, _ => stepV P vp ro m

def runV (P : Program) (vp : VP) : Nat → Nat → VM → VS
  | 0, _, m => .next m
  | n + 1, ro, m => match bigV P vp (runV P vp n) ro m with
    | .next m' => runV P vp n ro m'
    | s => s

/-- The same move, its frame in parts. -/
def bigF (P : Program) (vp : VP) (sub : Nat → VM → VS) (ro : Nat) : VM → VS
  | ⟨⟨fn, tm, nt, todo, defers, ret, kind, rd⟩, cs, w⟩ => match ret, rd with
    | true, rd => stepV P vp ro ⟨⟨fn, tm, nt, todo, defers, true, kind, rd⟩, cs, w⟩
    | false, some b => match todo with
      | .code (.region id ops true) :: k => match drawR P vp (sub w.next) (sub ro) ro ops ⟨fn, tm, nt, .code (.region id ops true) :: k, defers, false, kind, some b⟩ w with
        | some (fr', w') => .next ⟨⟨fn, fr'.tm, nt, k, defers, false, kind, some b⟩, cs, w'⟩
        | none => .stop 14
      | todo => stepV P vp ro ⟨⟨fn, tm, nt, todo, defers, false, kind, some b⟩, cs, w⟩
    | false, none => match todo with
      | .code (.region id ops true) :: k => match drawV P vp (sub w.next) (sub ro) ro ops ⟨fn, tm, nt, .code (.region id ops true) :: k, defers, false, kind, none⟩ w with
        | some (fr', w') => .next ⟨⟨fn, fr'.tm, nt, k, defers, false, kind, none⟩, cs, w'⟩
        | none => .stop 13
      | .code (.rangeFunc g ps assign body) :: k => match rangeV vp ⟨fn, tm, nt, .code (.rangeFunc g ps assign body) :: k, defers, false, kind, none⟩ g ps assign body w with
        | some (f', w1) => match sub ro { fr := f', cs := [], w := w1 } with
          | .over _ w2 => match endV ro (w.next + 1) w2 with
            | some (jump, w3) => .next ⟨⟨fn, tm, nt, afterV jump k, markV w.next :: defers, false, kind, none⟩, cs, w3⟩
            | none => .stop 41
          | .stop q => .stop q
          | .next _ => .stop 42
        | none => .stop 43
      | todo => stepF P vp ro fn tm nt defers kind cs w todo

theorem bigF_eq (P : Program) (vp : VP) (sub : Nat → VM → VS) (ro : Nat) (m : VM) : bigF P vp sub ro m = bigV P vp sub ro m := by
  obtain ⟨⟨fn, tm, nt, todo, defers, ret, kind, rd⟩, cs, w⟩ := m
  cases ret with
  | true => rfl
  | false =>
    cases rd with
    | some b =>
      cases todo with
      | nil => rfl
      | cons x k =>
        cases x with
        | code c =>
          cases c with
          | region id ops draw => cases draw <;> rfl
          | _ => rfl
        | _ => rfl
    | none =>
      have hplain := stepF_eq P vp ro fn tm nt defers kind cs w todo
      cases todo with
      | nil => exact hplain
      | cons x k =>
        cases x with
        | code c =>
          cases c with
          | region id ops draw =>
            cases draw with
            | true => rfl
            | false => exact hplain
          | rangeFunc g ps assign body => rfl
          | _ => exact hplain
        | _ => exact hplain

/-- A run by such moves. -/
def runF (P : Program) (vp : VP) : Nat → Nat → VM → VS
  | 0, _, m => .next m
  | n + 1, ro, m => match bigF P vp (runF P vp n) ro m with
    | .next m' => runF P vp n ro m'
    | s => s

theorem runF_eq (P : Program) (vp : VP) : ∀ n, runF P vp n = runV P vp n
  | 0 => rfl
  | n + 1 => by
    have ih := runF_eq P vp n
    funext ro m
    simp only [runF, runV]
    rw [ih, bigF_eq]

/-- So many moves; what is entered within one has fuel of its own. -/
def runK (P : Program) (vp : VP) (F : Nat) : Nat → Nat → VM → VS
  | 0, _, m => .next m
  | k + 1, ro, m => match bigF P vp (runF P vp F) ro m with
    | .next m' => runK P vp F k ro m'
    | s => s

/-- One stretch behind another. -/
theorem runK_add {P : Program} {vp : VP} {F ro : Nat} : ∀ {k j : Nat} {m m' : VM}, runK P vp F k ro m = .next m' → runK P vp F (k + j) ro m = runK P vp F j ro m'
  | 0, j, m, m', h => by cases h; rw [Nat.zero_add]
  | k + 1, j, m, m', h => by
    rw [show k + 1 + j = (k + j) + 1 by omega]
    simp only [runK] at h ⊢
    split at h
    · rename_i m1 hb
      exact runK_add h
    · rename_i hs
      exact absurd h (hs _)

def startV (vp : VP) (gl : Tr (List Value)) (f : Nat) (ro : Nat) : Option VM :=
  match vp.fn.get f with
  | some fn => match VF.enter fn f [] .normal with
    | some fr => some { fr, cs := [], w := { next := ro, heap := .nil, gl } }
    | none => none
  | none => none

def yesG (P : Program) (vp : VP) (gl : Tr (List Value)) (ro fuel f : Nat) : Bool :=
  match startV vp gl f ro with
  | some m => match runF P vp fuel ro m with
    | .over (.bool true) _ => true
    | _ => false
  | none => false

def yes (P : Program) (vp : VP) (ro fuel f : Nat) : Bool := yesG P vp .nil ro fuel f

def trueV : VS → Bool
  | .over (.bool true) _ => true
  | _ => false

end Go.Wvm
