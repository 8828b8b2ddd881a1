/- The seat's tables: types and functions that are known. -/
import Derived.Test.YtlheieilhpbkdabDoorRows
import Derived.Test.YtlheieilhpbkdabDoorWvmLgi
import Derived.KernelRfl
namespace Go.Proofs.YtlheieilhpbkdabDoor
open Go.Wvm
noncomputable def tables : VP := VP.of Tryd.prog
abbrev T : List (Nat × TyI) := [
  (0, ⟨.tuple #[], 1, 0, (some undef), false⟩),
  (1, ⟨.func #[] #[] false, 1, 8, (some .nilFunc), false⟩),
  (2, ⟨.int .i64, 1, 8, (some (.int .i64 0)), false⟩),
  (3, ⟨.int .i64, 1, 8, (some (.int .i64 0)), false⟩),
  (4, ⟨.bool, 1, 1, (some (.bool false)), false⟩),
  (5, ⟨.int .u8, 1, 1, (some (.int .u8 0)), false⟩),
  (9, ⟨.string, 1, 16, (some (.string ⟨⟨[]⟩⟩)), false⟩),
  (12, ⟨.int .u64, 1, 8, (some (.int .u64 0)), false⟩),
  (22, ⟨.int .u32, 1, 4, (some (.int .u32 0)), false⟩),
  (25, ⟨.int .i64, 1, 8, (some (.int .i64 0)), false⟩),
  (37, ⟨.int .u16, 1, 2, (some (.int .u16 0)), false⟩),
  (39, ⟨.struct #[⟨ "At", 37, 0, false, "", "", 0⟩, ⟨ "By", 5, 1, false, "", "", 2⟩, ⟨ "Kind", 5, 2, false, "", "", 3⟩], 3, 4, (some (.agg ⟨[(.int .u16 0), (.int .u8 0), (.int .u8 0)]⟩)), true⟩),
  (40, ⟨.slice 5, 1, 24, (some (.slice none 0 0)), false⟩),
  (44, ⟨.int .u64, 1, 8, (some (.int .u64 0)), false⟩),
  (46, ⟨.array 16 22, 16, 64, (some (.agg ⟨[(.int .u32 0), (.int .u32 0), (.int .u32 0), (.int .u32 0), (.int .u32 0), (.int .u32 0), (.int .u32 0), (.int .u32 0), (.int .u32 0), (.int .u32 0), (.int .u32 0), (.int .u32 0), (.int .u32 0), (.int .u32 0), (.int .u32 0), (.int .u32 0)]⟩)), true⟩),
  (50, ⟨.array 32 22, 32, 128, (some (.agg ⟨[(.int .u32 0), (.int .u32 0), (.int .u32 0), (.int .u32 0), (.int .u32 0), (.int .u32 0), (.int .u32 0), (.int .u32 0), (.int .u32 0), (.int .u32 0), (.int .u32 0), (.int .u32 0), (.int .u32 0), (.int .u32 0), (.int .u32 0), (.int .u32 0), (.int .u32 0), (.int .u32 0), (.int .u32 0), (.int .u32 0), (.int .u32 0), (.int .u32 0), (.int .u32 0), (.int .u32 0), (.int .u32 0), (.int .u32 0), (.int .u32 0), (.int .u32 0), (.int .u32 0), (.int .u32 0), (.int .u32 0), (.int .u32 0)]⟩)), true⟩),
  (53, ⟨.array 4 5, 4, 4, (some (.agg ⟨[(.int .u8 0), (.int .u8 0), (.int .u8 0), (.int .u8 0)]⟩)), true⟩)]
theorem tyL : (T.map fun p => tables.ty.get p.1) = T.map fun p => some p.2 := by kernel_rfl
theorem hT : TyOk tables T := TyOk.of_map tyL
theorem ok : VPok Tryd.prog tables := VP.of_ok _
theorem hm : Tryd.prog.follows .mixedOrders = true := by kernel_rfl
theorem fnL : ([3, 4, 5, 6, 7, 8, 9, 10, 11, 12, 13, 14, 15, 16, 17, 18, 19, 20, 21, 22, 23, 24, 25, 26].map fun f => tables.fn.get f) = [some Tryd.f3, some Tryd.f4, some Tryd.f5, some Tryd.f6, some Tryd.f7, some Tryd.f8, some Tryd.f9, some Tryd.f10, some Tryd.f11, some Tryd.f12, some Tryd.f13, some Tryd.f14, some Tryd.f15, some Tryd.f16, some Tryd.f17, some Tryd.f18, some Tryd.f19, some Tryd.f20, some Tryd.f21, some Tryd.f22, some Tryd.f23, some Tryd.f24, some Tryd.f25, some Tryd.f26] := by kernel_rfl
theorem fn3 : tables.fn.get 3 = some Tryd.f3 := by have := congrArg (fun l => l[0]?) fnL; simpa using this
theorem fn4 : tables.fn.get 4 = some Tryd.f4 := by have := congrArg (fun l => l[1]?) fnL; simpa using this
theorem fn5 : tables.fn.get 5 = some Tryd.f5 := by have := congrArg (fun l => l[2]?) fnL; simpa using this
theorem fn6 : tables.fn.get 6 = some Tryd.f6 := by have := congrArg (fun l => l[3]?) fnL; simpa using this
theorem fn7 : tables.fn.get 7 = some Tryd.f7 := by have := congrArg (fun l => l[4]?) fnL; simpa using this
theorem fn8 : tables.fn.get 8 = some Tryd.f8 := by have := congrArg (fun l => l[5]?) fnL; simpa using this
theorem fn9 : tables.fn.get 9 = some Tryd.f9 := by have := congrArg (fun l => l[6]?) fnL; simpa using this
theorem fn10 : tables.fn.get 10 = some Tryd.f10 := by have := congrArg (fun l => l[7]?) fnL; simpa using this
theorem fn11 : tables.fn.get 11 = some Tryd.f11 := by have := congrArg (fun l => l[8]?) fnL; simpa using this
theorem fn12 : tables.fn.get 12 = some Tryd.f12 := by have := congrArg (fun l => l[9]?) fnL; simpa using this
theorem fn13 : tables.fn.get 13 = some Tryd.f13 := by have := congrArg (fun l => l[10]?) fnL; simpa using this
theorem fn14 : tables.fn.get 14 = some Tryd.f14 := by have := congrArg (fun l => l[11]?) fnL; simpa using this
theorem fn15 : tables.fn.get 15 = some Tryd.f15 := by have := congrArg (fun l => l[12]?) fnL; simpa using this
theorem fn16 : tables.fn.get 16 = some Tryd.f16 := by have := congrArg (fun l => l[13]?) fnL; simpa using this
theorem fn17 : tables.fn.get 17 = some Tryd.f17 := by have := congrArg (fun l => l[14]?) fnL; simpa using this
theorem fn18 : tables.fn.get 18 = some Tryd.f18 := by have := congrArg (fun l => l[15]?) fnL; simpa using this
theorem fn19 : tables.fn.get 19 = some Tryd.f19 := by have := congrArg (fun l => l[16]?) fnL; simpa using this
theorem fn20 : tables.fn.get 20 = some Tryd.f20 := by have := congrArg (fun l => l[17]?) fnL; simpa using this
theorem fn21 : tables.fn.get 21 = some Tryd.f21 := by have := congrArg (fun l => l[18]?) fnL; simpa using this
theorem fn22 : tables.fn.get 22 = some Tryd.f22 := by have := congrArg (fun l => l[19]?) fnL; simpa using this
theorem fn23 : tables.fn.get 23 = some Tryd.f23 := by have := congrArg (fun l => l[20]?) fnL; simpa using this
theorem fn24 : tables.fn.get 24 = some Tryd.f24 := by have := congrArg (fun l => l[21]?) fnL; simpa using this
theorem fn25 : tables.fn.get 25 = some Tryd.f25 := by have := congrArg (fun l => l[22]?) fnL; simpa using this
theorem fn26 : tables.fn.get 26 = some Tryd.f26 := by have := congrArg (fun l => l[23]?) fnL; simpa using this
end Go.Proofs.YtlheieilhpbkdabDoor
