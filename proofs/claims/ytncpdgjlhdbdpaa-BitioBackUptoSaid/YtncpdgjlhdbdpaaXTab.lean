/- The seat's tables: types and functions that are known. -/
import Derived.Test.YtncpdgjlhdbdpaaRows
import Derived.Test.YtncpdgjlhdbdpaaWvmLge
import Derived.KernelRfl
namespace Go.Proofs.Ytncpdgjlhdbdpaa
open Go.Wvm
noncomputable def tables : VP := VP.of Try.prog
abbrev T : List (Nat × TyI) := [
  (0, ⟨.tuple #[], 1, 0, (some undef), false⟩),
  (1, ⟨.func #[] #[] false, 1, 8, (some .nilFunc), false⟩),
  (2, ⟨.int .i64, 1, 8, (some (.int .i64 0)), false⟩),
  (3, ⟨.int .i64, 1, 8, (some (.int .i64 0)), false⟩),
  (4, ⟨.bool, 1, 1, (some (.bool false)), false⟩),
  (5, ⟨.int .u8, 1, 1, (some (.int .u8 0)), false⟩),
  (6, ⟨.int .u8, 1, 1, (some (.int .u8 0)), false⟩),
  (7, ⟨.struct #[⟨ "x", 2, 0, false, "", "runtime", 0⟩, ⟨ "y", 3, 1, false, "", "runtime", 8⟩, ⟨ "signed", 4, 2, false, "", "runtime", 16⟩, ⟨ "code", 6, 3, false, "", "runtime", 17⟩], 4, 24, (some (.agg ⟨[(.int .i64 0), (.int .i64 0), (.bool false), (.int .u8 0)]⟩)), true⟩),
  (8, ⟨.struct #[⟨ "x", 2, 0, false, "", "runtime", 0⟩, ⟨ "y", 3, 1, false, "", "runtime", 8⟩, ⟨ "signed", 4, 2, false, "", "runtime", 16⟩, ⟨ "code", 6, 3, false, "", "runtime", 17⟩], 4, 24, (some (.agg ⟨[(.int .i64 0), (.int .i64 0), (.bool false), (.int .u8 0)]⟩)), true⟩),
  (9, ⟨.string, 1, 16, (some (.string ⟨⟨[]⟩⟩)), false⟩),
  (10, ⟨.string, 1, 16, (some (.string ⟨⟨[]⟩⟩)), false⟩),
  (11, ⟨.string, 1, 16, (some (.string ⟨⟨[]⟩⟩)), false⟩),
  (12, ⟨.int .u64, 1, 8, (some (.int .u64 0)), false⟩),
  (13, ⟨.struct #[⟨ "msg", 9, 0, false, "", "runtime", 0⟩, ⟨ "addr", 12, 1, false, "", "runtime", 16⟩], 2, 24, (some (.agg ⟨[(.string ⟨⟨[]⟩⟩), (.int .u64 0)]⟩)), true⟩),
  (14, ⟨.struct #[⟨ "msg", 9, 0, false, "", "runtime", 0⟩, ⟨ "addr", 12, 1, false, "", "runtime", 16⟩], 2, 24, (some (.agg ⟨[(.string ⟨⟨[]⟩⟩), (.int .u64 0)]⟩)), true⟩),
  (15, ⟨.pointer 80, 1, 8, (some (.pointer none)), false⟩),
  (16, ⟨.pointer 83, 1, 8, (some (.pointer none)), false⟩),
  (17, ⟨.pointer 92, 1, 8, (some (.pointer none)), false⟩),
  (18, ⟨.struct #[⟨ "typ", 17, 0, false, "", "internal/runtime/maps", 0⟩], 1, 8, (some (.agg ⟨[(.pointer none)]⟩)), true⟩),
  (19, ⟨.struct #[⟨ "typ", 17, 0, false, "", "internal/runtime/maps", 0⟩], 1, 8, (some (.agg ⟨[(.pointer none)]⟩)), true⟩),
  (20, ⟨.interface #[], 1, 16, (some .nilIface), false⟩),
  (21, ⟨.int .i32, 1, 4, (some (.int .i32 0)), false⟩),
  (22, ⟨.slice 32, 1, 24, (some (.slice none 0 0)), false⟩),
  (23, ⟨.pointer 68, 1, 8, (some (.pointer none)), false⟩),
  (24, ⟨.func #[] #[23] false, 1, 8, (some .nilFunc), false⟩),
  (25, ⟨.pointer 28, 1, 8, (some (.pointer none)), false⟩),
  (26, ⟨.slice 4, 1, 24, (some (.slice none 0 0)), false⟩),
  (27, ⟨.struct #[⟨ "B", 26, 0, false, "", "", 0⟩], 1, 24, (some (.agg ⟨[(.slice none 0 0)]⟩)), true⟩),
  (28, ⟨.struct #[⟨ "B", 26, 0, false, "", "", 0⟩], 1, 24, (some (.agg ⟨[(.slice none 0 0)]⟩)), true⟩),
  (29, ⟨.func #[23, 25, 32] #[4] false, 1, 8, (some .nilFunc), false⟩),
  (30, ⟨.int .u64, 1, 8, (some (.int .u64 0)), false⟩),
  (31, ⟨.struct #[⟨ "Kind", 3, 0, false, "", "", 0⟩, ⟨ "V", 30, 1, false, "", "", 8⟩, ⟨ "N", 3, 2, false, "", "", 16⟩, ⟨ "Text", 9, 3, false, "", "", 24⟩], 4, 40, (some (.agg ⟨[(.int .i64 0), (.int .u64 0), (.int .i64 0), (.string ⟨⟨[]⟩⟩)]⟩)), true⟩),
  (32, ⟨.struct #[⟨ "Kind", 3, 0, false, "", "", 0⟩, ⟨ "V", 30, 1, false, "", "", 8⟩, ⟨ "N", 3, 2, false, "", "", 16⟩, ⟨ "Text", 9, 3, false, "", "", 24⟩], 4, 40, (some (.agg ⟨[(.int .i64 0), (.int .u64 0), (.int .i64 0), (.string ⟨⟨[]⟩⟩)]⟩)), true⟩),
  (33, ⟨.int .i64, 1, 8, (some (.int .i64 0)), false⟩),
  (34, ⟨.func #[30, 3] #[33] false, 1, 8, (some .nilFunc), false⟩),
  (35, ⟨.tuple #[9, 33], 1, 0, (some (.tuple ⟨[(.string ⟨⟨[]⟩⟩), (.int .i64 0)]⟩)), false⟩),
  (36, ⟨.func #[] #[9, 33] false, 1, 8, (some .nilFunc), false⟩),
  (37, ⟨.func #[26] #[9] false, 1, 8, (some .nilFunc), false⟩),
  (38, ⟨.func #[] #[3] false, 1, 8, (some .nilFunc), false⟩),
  (39, ⟨.func #[] #[4] false, 1, 8, (some .nilFunc), false⟩),
  (40, ⟨.func #[22] #[4] false, 1, 8, (some .nilFunc), false⟩),
  (41, ⟨.slice 49, 1, 24, (some (.slice none 0 0)), false⟩),
  (42, ⟨.pointer 73, 1, 8, (some (.pointer none)), false⟩),
  (43, ⟨.func #[9] #[42] false, 1, 8, (some .nilFunc), false⟩),
  (44, ⟨.pointer 47, 1, 8, (some (.pointer none)), false⟩),
  (45, ⟨.func #[9] #[26] false, 1, 8, (some .nilFunc), false⟩),
  (46, ⟨.struct #[⟨ "B", 26, 0, false, "", "", 0⟩, ⟨ "At", 3, 1, false, "", "", 24⟩], 2, 32, (some (.agg ⟨[(.slice none 0 0), (.int .i64 0)]⟩)), true⟩),
  (47, ⟨.struct #[⟨ "B", 26, 0, false, "", "", 0⟩, ⟨ "At", 3, 1, false, "", "", 24⟩], 2, 32, (some (.agg ⟨[(.slice none 0 0), (.int .i64 0)]⟩)), true⟩),
  (48, ⟨.struct #[⟨ "Kind", 3, 0, false, "", "", 0⟩, ⟨ "N", 3, 1, false, "", "", 8⟩], 2, 16, (some (.agg ⟨[(.int .i64 0), (.int .i64 0)]⟩)), true⟩),
  (49, ⟨.struct #[⟨ "Kind", 3, 0, false, "", "", 0⟩, ⟨ "N", 3, 1, false, "", "", 8⟩], 2, 16, (some (.agg ⟨[(.int .i64 0), (.int .i64 0)]⟩)), true⟩),
  (50, ⟨.tuple #[4, 33], 1, 0, (some (.tuple ⟨[(.bool false), (.int .i64 0)]⟩)), false⟩),
  (51, ⟨.func #[] #[4, 33] false, 1, 8, (some .nilFunc), false⟩),
  (52, ⟨.tuple #[30, 33], 1, 0, (some (.tuple ⟨[(.int .u64 0), (.int .i64 0)]⟩)), false⟩),
  (53, ⟨.func #[3] #[30, 33] false, 1, 8, (some .nilFunc), false⟩),
  (54, ⟨.func #[3] #[33] false, 1, 8, (some .nilFunc), false⟩),
  (55, ⟨.func #[9, 41] #[4] false, 1, 8, (some .nilFunc), false⟩),
  (56, ⟨.slice 30, 1, 24, (some (.slice none 0 0)), false⟩),
  (57, ⟨.struct #[⟨ "N", 3, 0, false, "", "", 0⟩, ⟨ "Count", 3, 1, false, "", "", 8⟩], 2, 16, (some (.agg ⟨[(.int .i64 0), (.int .i64 0)]⟩)), true⟩),
  (58, ⟨.struct #[⟨ "N", 3, 0, false, "", "", 0⟩, ⟨ "Count", 3, 1, false, "", "", 8⟩], 2, 16, (some (.agg ⟨[(.int .i64 0), (.int .i64 0)]⟩)), true⟩),
  (59, ⟨.func #[56, 3] #[9, 33] false, 1, 8, (some .nilFunc), false⟩),
  (60, ⟨.tuple #[56, 33], 1, 0, (some (.tuple ⟨[(.slice none 0 0), (.int .i64 0)]⟩)), false⟩),
  (61, ⟨.func #[9, 3, 3] #[56, 33] false, 1, 8, (some .nilFunc), false⟩),
  (62, ⟨.func #[56, 56] #[4] false, 1, 8, (some .nilFunc), false⟩),
  (63, ⟨.func #[56, 9, 58] #[4] false, 1, 8, (some .nilFunc), false⟩),
  (64, ⟨.slice 3, 1, 24, (some (.slice none 0 0)), false⟩),
  (65, ⟨.func #[4] #[33] false, 1, 8, (some .nilFunc), false⟩),
  (66, ⟨.slice 5, 1, 24, (some (.slice none 0 0)), false⟩),
  (67, ⟨.struct #[⟨ "buf", 66, 0, false, "", "wattle/bitio", 0⟩, ⟨ "bits", 3, 1, false, "", "wattle/bitio", 24⟩], 2, 32, (some (.agg ⟨[(.slice none 0 0), (.int .i64 0)]⟩)), true⟩),
  (68, ⟨.struct #[⟨ "buf", 66, 0, false, "", "wattle/bitio", 0⟩, ⟨ "bits", 3, 1, false, "", "wattle/bitio", 24⟩], 2, 32, (some (.agg ⟨[(.slice none 0 0), (.int .i64 0)]⟩)), true⟩),
  (69, ⟨.func #[9, 3] #[33] false, 1, 8, (some .nilFunc), false⟩),
  (70, ⟨.func #[30, 3] #[4] false, 1, 8, (some .nilFunc), false⟩),
  (71, ⟨.func #[30, 3] #[] false, 1, 8, (some .nilFunc), false⟩),
  (72, ⟨.struct #[⟨ "text", 9, 0, false, "", "wattle/bitio", 0⟩, ⟨ "at", 3, 1, false, "", "wattle/bitio", 16⟩], 2, 24, (some (.agg ⟨[(.string ⟨⟨[]⟩⟩), (.int .i64 0)]⟩)), true⟩),
  (73, ⟨.struct #[⟨ "text", 9, 0, false, "", "wattle/bitio", 0⟩, ⟨ "at", 3, 1, false, "", "wattle/bitio", 16⟩], 2, 24, (some (.agg ⟨[(.string ⟨⟨[]⟩⟩), (.int .i64 0)]⟩)), true⟩),
  (74, ⟨.func #[3, 75] #[] false, 1, 8, (some .nilFunc), false⟩),
  (75, ⟨.func #[5, 3] #[] false, 1, 8, (some .nilFunc), false⟩),
  (76, ⟨.func #[26] #[30] false, 1, 8, (some .nilFunc), false⟩),
  (77, ⟨.func #[30, 3] #[26] false, 1, 8, (some .nilFunc), false⟩),
  (78, ⟨.func #[] #[9] false, 1, 8, (some .nilFunc), false⟩),
  (79, ⟨.struct #[⟨ "_interface", 17, 0, false, "", "runtime", 0⟩, ⟨ "concrete", 17, 1, false, "", "runtime", 8⟩, ⟨ "asserted", 17, 2, false, "", "runtime", 16⟩, ⟨ "missingMethod", 9, 3, false, "", "runtime", 24⟩], 4, 40, (some (.agg ⟨[(.pointer none), (.pointer none), (.pointer none), (.string ⟨⟨[]⟩⟩)]⟩)), true⟩),
  (80, ⟨.struct #[⟨ "_interface", 17, 0, false, "", "runtime", 0⟩, ⟨ "concrete", 17, 1, false, "", "runtime", 8⟩, ⟨ "asserted", 17, 2, false, "", "runtime", 16⟩, ⟨ "missingMethod", 9, 3, false, "", "runtime", 24⟩], 4, 40, (some (.agg ⟨[(.pointer none), (.pointer none), (.pointer none), (.string ⟨⟨[]⟩⟩)]⟩)), true⟩),
  (81, ⟨.array 0 16, 0, 0, (some (.agg ⟨[]⟩)), true⟩),
  (82, ⟨.struct #[⟨ "_", 81, 0, false, "", "runtime", 0⟩], 0, 0, (some (.agg ⟨[]⟩)), true⟩),
  (83, ⟨.struct #[⟨ "_", 81, 0, false, "", "runtime", 0⟩], 0, 0, (some (.agg ⟨[]⟩)), true⟩),
  (84, ⟨.int .u32, 1, 4, (some (.int .u32 0)), false⟩),
  (85, ⟨.int .u8, 1, 1, (some (.int .u8 0)), false⟩),
  (86, ⟨.int .u8, 1, 1, (some (.int .u8 0)), false⟩),
  (87, ⟨.func #[93, 93] #[4] false, 1, 8, (some .nilFunc), false⟩),
  (88, ⟨.pointer 5, 1, 8, (some (.pointer none)), false⟩),
  (89, ⟨.int .i32, 1, 4, (some (.int .i32 0)), false⟩),
  (90, ⟨.int .i32, 1, 4, (some (.int .i32 0)), false⟩),
  (91, ⟨.struct #[⟨ "Size_", 12, 0, false, "", "", 0⟩, ⟨ "PtrBytes", 12, 1, false, "", "", 8⟩, ⟨ "Hash", 84, 2, false, "", "", 16⟩, ⟨ "TFlag", 85, 3, false, "", "", 20⟩, ⟨ "Align_", 5, 4, false, "", "", 21⟩, ⟨ "FieldAlign_", 5, 5, false, "", "", 22⟩, ⟨ "Kind_", 86, 6, false, "", "", 23⟩, ⟨ "Equal", 87, 7, false, "", "", 24⟩, ⟨ "GCData", 88, 8, false, "", "", 32⟩, ⟨ "Str", 89, 9, false, "", "", 40⟩, ⟨ "PtrToThis", 90, 10, false, "", "", 44⟩], 11, 48, (some (.agg ⟨[(.int .u64 0), (.int .u64 0), (.int .u32 0), (.int .u8 0), (.int .u8 0), (.int .u8 0), (.int .u8 0), .nilFunc, (.pointer none), (.int .i32 0), (.int .i32 0)]⟩)), true⟩),
  (92, ⟨.struct #[⟨ "Size_", 12, 0, false, "", "", 0⟩, ⟨ "PtrBytes", 12, 1, false, "", "", 8⟩, ⟨ "Hash", 84, 2, false, "", "", 16⟩, ⟨ "TFlag", 85, 3, false, "", "", 20⟩, ⟨ "Align_", 5, 4, false, "", "", 21⟩, ⟨ "FieldAlign_", 5, 5, false, "", "", 22⟩, ⟨ "Kind_", 86, 6, false, "", "", 23⟩, ⟨ "Equal", 87, 7, false, "", "", 24⟩, ⟨ "GCData", 88, 8, false, "", "", 32⟩, ⟨ "Str", 89, 9, false, "", "", 40⟩, ⟨ "PtrToThis", 90, 10, false, "", "", 44⟩], 11, 48, (some (.agg ⟨[(.int .u64 0), (.int .u64 0), (.int .u32 0), (.int .u8 0), (.int .u8 0), (.int .u8 0), (.int .u8 0), .nilFunc, (.pointer none), (.int .i32 0), (.int .i32 0)]⟩)), true⟩),
  (93, ⟨.unsafePointer, 1, 8, (some (.pointer none)), false⟩)]
theorem tyL : (T.map fun p => tables.ty.get p.1) = T.map fun p => some p.2 := by kernel_rfl
theorem hT : TyOk tables T := TyOk.of_map tyL
theorem ok : VPok Try.prog tables := VP.of_ok _
theorem hm : Try.prog.follows .mixedOrders = true := by kernel_rfl
theorem fnL : ([7, 8, 9, 10, 11, 12, 13, 14, 15, 16, 17, 18, 19, 20, 21, 22, 23, 24, 25, 26, 27, 28, 29, 30, 31, 32, 33, 34, 35, 36, 37, 38, 39, 40, 3, 4, 5, 6].map fun f => tables.fn.get f) = [some Try.f7, some Try.f8, some Try.f9, some Try.f10, some Try.f11, some Try.f12, some Try.f13, some Try.f14, some Try.f15, some Try.f16, some Try.f17, some Try.f18, some Try.f19, some Try.f20, some Try.f21, some Try.f22, some Try.f23, some Try.f24, some Try.f25, some Try.f26, some Try.f27, some Try.f28, some Try.f29, some Try.f30, some Try.f31, some Try.f32, some Try.f33, some Try.f34, some Try.f35, some Try.f36, some Try.f37, some Try.f38, some Try.f39, some Try.f40, some Try.f3, some Try.f4, some Try.f5, some Try.f6] := by kernel_rfl
theorem fn7 : tables.fn.get 7 = some Try.f7 := by have := congrArg (fun l => l[0]?) fnL; simpa using this
theorem fn8 : tables.fn.get 8 = some Try.f8 := by have := congrArg (fun l => l[1]?) fnL; simpa using this
theorem fn9 : tables.fn.get 9 = some Try.f9 := by have := congrArg (fun l => l[2]?) fnL; simpa using this
theorem fn10 : tables.fn.get 10 = some Try.f10 := by have := congrArg (fun l => l[3]?) fnL; simpa using this
theorem fn11 : tables.fn.get 11 = some Try.f11 := by have := congrArg (fun l => l[4]?) fnL; simpa using this
theorem fn12 : tables.fn.get 12 = some Try.f12 := by have := congrArg (fun l => l[5]?) fnL; simpa using this
theorem fn13 : tables.fn.get 13 = some Try.f13 := by have := congrArg (fun l => l[6]?) fnL; simpa using this
theorem fn14 : tables.fn.get 14 = some Try.f14 := by have := congrArg (fun l => l[7]?) fnL; simpa using this
theorem fn15 : tables.fn.get 15 = some Try.f15 := by have := congrArg (fun l => l[8]?) fnL; simpa using this
theorem fn16 : tables.fn.get 16 = some Try.f16 := by have := congrArg (fun l => l[9]?) fnL; simpa using this
theorem fn17 : tables.fn.get 17 = some Try.f17 := by have := congrArg (fun l => l[10]?) fnL; simpa using this
theorem fn18 : tables.fn.get 18 = some Try.f18 := by have := congrArg (fun l => l[11]?) fnL; simpa using this
theorem fn19 : tables.fn.get 19 = some Try.f19 := by have := congrArg (fun l => l[12]?) fnL; simpa using this
theorem fn20 : tables.fn.get 20 = some Try.f20 := by have := congrArg (fun l => l[13]?) fnL; simpa using this
theorem fn21 : tables.fn.get 21 = some Try.f21 := by have := congrArg (fun l => l[14]?) fnL; simpa using this
theorem fn22 : tables.fn.get 22 = some Try.f22 := by have := congrArg (fun l => l[15]?) fnL; simpa using this
theorem fn23 : tables.fn.get 23 = some Try.f23 := by have := congrArg (fun l => l[16]?) fnL; simpa using this
theorem fn24 : tables.fn.get 24 = some Try.f24 := by have := congrArg (fun l => l[17]?) fnL; simpa using this
theorem fn25 : tables.fn.get 25 = some Try.f25 := by have := congrArg (fun l => l[18]?) fnL; simpa using this
theorem fn26 : tables.fn.get 26 = some Try.f26 := by have := congrArg (fun l => l[19]?) fnL; simpa using this
theorem fn27 : tables.fn.get 27 = some Try.f27 := by have := congrArg (fun l => l[20]?) fnL; simpa using this
theorem fn28 : tables.fn.get 28 = some Try.f28 := by have := congrArg (fun l => l[21]?) fnL; simpa using this
theorem fn29 : tables.fn.get 29 = some Try.f29 := by have := congrArg (fun l => l[22]?) fnL; simpa using this
theorem fn30 : tables.fn.get 30 = some Try.f30 := by have := congrArg (fun l => l[23]?) fnL; simpa using this
theorem fn31 : tables.fn.get 31 = some Try.f31 := by have := congrArg (fun l => l[24]?) fnL; simpa using this
theorem fn32 : tables.fn.get 32 = some Try.f32 := by have := congrArg (fun l => l[25]?) fnL; simpa using this
theorem fn33 : tables.fn.get 33 = some Try.f33 := by have := congrArg (fun l => l[26]?) fnL; simpa using this
theorem fn34 : tables.fn.get 34 = some Try.f34 := by have := congrArg (fun l => l[27]?) fnL; simpa using this
theorem fn35 : tables.fn.get 35 = some Try.f35 := by have := congrArg (fun l => l[28]?) fnL; simpa using this
theorem fn36 : tables.fn.get 36 = some Try.f36 := by have := congrArg (fun l => l[29]?) fnL; simpa using this
theorem fn37 : tables.fn.get 37 = some Try.f37 := by have := congrArg (fun l => l[30]?) fnL; simpa using this
theorem fn38 : tables.fn.get 38 = some Try.f38 := by have := congrArg (fun l => l[31]?) fnL; simpa using this
theorem fn39 : tables.fn.get 39 = some Try.f39 := by have := congrArg (fun l => l[32]?) fnL; simpa using this
theorem fn40 : tables.fn.get 40 = some Try.f40 := by have := congrArg (fun l => l[33]?) fnL; simpa using this
theorem fn3 : tables.fn.get 3 = some Try.f3 := by have := congrArg (fun l => l[34]?) fnL; simpa using this
theorem fn4 : tables.fn.get 4 = some Try.f4 := by have := congrArg (fun l => l[35]?) fnL; simpa using this
theorem fn5 : tables.fn.get 5 = some Try.f5 := by have := congrArg (fun l => l[36]?) fnL; simpa using this
theorem fn6 : tables.fn.get 6 = some Try.f6 := by have := congrArg (fun l => l[37]?) fnL; simpa using this
end Go.Proofs.Ytncpdgjlhdbdpaa
