/- Towards the laws of this seat: contracts of the program's functions in a logic over a small machine (text XSUn). No condition. -/
import Derived.Test.YtlheieilhpbkdabDoorXSFr
namespace Go.Proofs.YtlheieilhpbkdabDoor
open Go.Wvm Crc
set_option linter.unusedVariables false
set_option linter.unusedSimpArgs false

theorem rd4_take (l : List UInt8) : rd4 (l.take 4) = rd4 l := by
  rcases l with _ | ⟨a0, _ | ⟨a1, _ | ⟨a2, _ | ⟨a3, l⟩⟩⟩⟩ <;> simp [rd4]
def unE (s : List UInt8) : Nat × List UInt8 × List UInt8 × Int :=
  if s.length < 9 then (0, [], [], 4) else
  if 16777216 < rd4 (s.drop 1) ∨ s.length < 9 + rd4 (s.drop 1) then (0, [], [], 4) else
  if crc (s.take 5 ++ (s.drop 9).take (rd4 (s.drop 1))) ≠ rd4 (s.drop 5) then (0, [], [], 4) else
  ((s.getD 0 0).toNat, (s.drop 9).take (rd4 (s.drop 1)), s.drop (9 + rd4 (s.drop 1)), 0)
def unV (x : Nat × List UInt8 × List UInt8 × Int) : Value := .tuple ⟨[.int .u8 (x.1 : Int), .string ⟨⟨x.2.1⟩⟩, .string ⟨⟨x.2.2.1⟩⟩, .int .i64 x.2.2.2]⟩
end Go.Proofs.YtlheieilhpbkdabDoor
