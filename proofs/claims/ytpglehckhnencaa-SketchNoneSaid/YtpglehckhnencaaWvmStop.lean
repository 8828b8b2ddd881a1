/- What a state of the small machine between two stretches of a run is written with: pieces of the code by where they stand in a function's body. -/
import Derived.Test.YtpglehckhnencaaWvmCard
namespace Go.Wvm

/-- The piece of a code at a path. -/
def codeAt : List Nat → Code → Code
  | [], c => c
  | 0 :: p, .seq a _ => codeAt p a
  | _ :: p, .seq _ b => codeAt p b
  | 0 :: p, .cond _ a _ => codeAt p a
  | _ :: p, .cond _ _ b => codeAt p b
  | _ :: p, .block _ b => codeAt p b
  | _ :: p, .loop b => codeAt p b
  | 0 :: p, .rangeFunc _ _ a _ => codeAt p a
  | _ :: p, .rangeFunc _ _ _ b => codeAt p b
  | _ :: p, .scope b => codeAt p b
  | _ :: _, c => c

def bodyOf (f : Func) : Code := f.body.getD .skip
def opsOf : Code → Array Oper
  | .region _ ops _ => ops
  | _ => #[]

/-- A leaf, a node with and without a value. -/
def lf (v : Value) : Tr Value := .node .nil (some v) .nil
def nd (l : Tr Value) (v : Value) (r : Tr Value) : Tr Value := .node l (some v) r
def nn (l : Tr Value) (r : Tr Value) : Tr Value := .node l none r
def iv (k : IntKind) (n : Nat) : Value := .int k (.ofNat n)
def sv (l : List Nat) : Value := .string ⟨⟨l.map UInt8.ofNat⟩⟩

end Go.Wvm
