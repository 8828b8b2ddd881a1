/- Towards the laws of this seat: contracts of the program's functions in a logic over a small machine (texts XTab XKr XKm XKa XKn XKd). No condition. -/
import Derived.Test.YtpglehckhnencaaRows
import Derived.Test.YtpglehckhnencaaWvmLge
import Derived.KernelRfl
import Derived.Test.YtpglehckhnencaaWvmLgj
import GoSem.Step
/- The seat's tables: types and functions that are known. -/
namespace Go.Proofs.Ytpglehckhnencaa
open Go.Wvm
noncomputable def tables : VP := VP.of Try.prog
abbrev T : List (Nat × TyI) := [
  (0, ⟨.tuple #[], 1, 0, (some undef), false⟩),
  (1, ⟨.func #[] #[] false, 1, 8, (some .nilFunc), false⟩),
  (2, ⟨.int .i64, 1, 8, (some (.int .i64 0)), false⟩),
  (3, ⟨.int .i64, 1, 8, (some (.int .i64 0)), false⟩),
  (4, ⟨.bool, 1, 1, (some (.bool false)), false⟩),
  (5, ⟨.int .u8, 1, 1, (some (.int .u8 0)), false⟩),
  (6, ⟨.int .u8, 1, 1, (some (.int .u8 0)), false⟩),
  (7, ⟨.struct #[⟨ "x", 2, 0, false, "", "runtime", 0⟩, ⟨ "y", 3, 1, false, "", "runtime", 8⟩, ⟨ "signed", 4, 2, false, "", "runtime", 16⟩, ⟨ "code", 6, 3, false, "", "runtime", 17⟩], 4, 24, (some (.agg ⟨[(.int .i64 0), (.int .i64 0), (.bool false), (.int .u8 0)]⟩)), true⟩),
  (8, ⟨.struct #[⟨ "x", 2, 0, false, "", "runtime", 0⟩, ⟨ "y", 3, 1, false, "", "runtime", 8⟩, ⟨ "signed", 4, 2, false, "", "runtime", 16⟩, ⟨ "code", 6, 3, false, "", "runtime", 17⟩], 4, 24, (some (.agg ⟨[(.int .i64 0), (.int .i64 0), (.bool false), (.int .u8 0)]⟩)), true⟩),
  (9, ⟨.string, 1, 16, (some (.string ⟨⟨[]⟩⟩)), false⟩),
  (10, ⟨.string, 1, 16, (some (.string ⟨⟨[]⟩⟩)), false⟩),
  (11, ⟨.string, 1, 16, (some (.string ⟨⟨[]⟩⟩)), false⟩),
  (12, ⟨.int .u64, 1, 8, (some (.int .u64 0)), false⟩),
  (13, ⟨.struct #[⟨ "msg", 9, 0, false, "", "runtime", 0⟩, ⟨ "addr", 12, 1, false, "", "runtime", 16⟩], 2, 24, (some (.agg ⟨[(.string ⟨⟨[]⟩⟩), (.int .u64 0)]⟩)), true⟩),
  (14, ⟨.struct #[⟨ "msg", 9, 0, false, "", "runtime", 0⟩, ⟨ "addr", 12, 1, false, "", "runtime", 16⟩], 2, 24, (some (.agg ⟨[(.string ⟨⟨[]⟩⟩), (.int .u64 0)]⟩)), true⟩),
  (15, ⟨.pointer 77, 1, 8, (some (.pointer none)), false⟩),
  (16, ⟨.pointer 80, 1, 8, (some (.pointer none)), false⟩),
  (17, ⟨.pointer 87, 1, 8, (some (.pointer none)), false⟩),
  (18, ⟨.struct #[⟨ "typ", 17, 0, false, "", "internal/runtime/maps", 0⟩], 1, 8, (some (.agg ⟨[(.pointer none)]⟩)), true⟩),
  (19, ⟨.struct #[⟨ "typ", 17, 0, false, "", "internal/runtime/maps", 0⟩], 1, 8, (some (.agg ⟨[(.pointer none)]⟩)), true⟩),
  (20, ⟨.interface #[], 1, 16, (some .nilIface), false⟩),
  (21, ⟨.int .i32, 1, 4, (some (.int .i32 0)), false⟩),
  (22, ⟨.int .u64, 1, 8, (some (.int .u64 0)), false⟩),
  (23, ⟨.struct #[⟨ "Seed", 22, 0, false, "", "", 0⟩, ⟨ "Hash", 22, 1, false, "", "", 8⟩, ⟨ "P", 3, 2, false, "", "", 16⟩], 3, 24, (some (.agg ⟨[(.int .u64 0), (.int .u64 0), (.int .i64 0)]⟩)), true⟩),
  (24, ⟨.struct #[⟨ "Seed", 22, 0, false, "", "", 0⟩, ⟨ "Hash", 22, 1, false, "", "", 8⟩, ⟨ "P", 3, 2, false, "", "", 16⟩], 3, 24, (some (.agg ⟨[(.int .u64 0), (.int .u64 0), (.int .i64 0)]⟩)), true⟩),
  (25, ⟨.int .i64, 1, 8, (some (.int .i64 0)), false⟩),
  (26, ⟨.tuple #[9, 25], 1, 0, (some (.tuple ⟨[(.string ⟨⟨[]⟩⟩), (.int .i64 0)]⟩)), false⟩),
  (27, ⟨.func #[9, 22] #[9, 25] false, 1, 8, (some .nilFunc), false⟩),
  (28, ⟨.func #[9, 9] #[9, 25] false, 1, 8, (some .nilFunc), false⟩),
  (29, ⟨.tuple #[22, 25], 1, 0, (some (.tuple ⟨[(.int .u64 0), (.int .i64 0)]⟩)), false⟩),
  (30, ⟨.func #[9] #[22, 25] false, 1, 8, (some .nilFunc), false⟩),
  (31, ⟨.tuple #[3, 25], 1, 0, (some (.tuple ⟨[(.int .i64 0), (.int .i64 0)]⟩)), false⟩),
  (32, ⟨.func #[9] #[3, 25] false, 1, 8, (some .nilFunc), false⟩),
  (33, ⟨.func #[3] #[9, 25] false, 1, 8, (some .nilFunc), false⟩),
  (34, ⟨.func #[22, 22] #[22] false, 1, 8, (some .nilFunc), false⟩),
  (35, ⟨.func #[] #[4] false, 1, 8, (some .nilFunc), false⟩),
  (36, ⟨.func #[9, 9, 24] #[4] false, 1, 8, (some .nilFunc), false⟩),
  (37, ⟨.slice 22, 1, 24, (some (.slice none 0 0)), false⟩),
  (38, ⟨.tuple #[9, 4], 1, 0, (some (.tuple ⟨[(.string ⟨⟨[]⟩⟩), (.bool false)]⟩)), false⟩),
  (39, ⟨.func #[3, 22, 37] #[9, 4] false, 1, 8, (some .nilFunc), false⟩),
  (40, ⟨.func #[24, 37, 37] #[4] false, 1, 8, (some .nilFunc), false⟩),
  (41, ⟨.func #[9, 24, 22] #[4] false, 1, 8, (some .nilFunc), false⟩),
  (42, ⟨.slice 5, 1, 24, (some (.slice none 0 0)), false⟩),
  (43, ⟨.func #[22] #[3] false, 1, 8, (some .nilFunc), false⟩),
  (44, ⟨.func #[3, 22] #[5] false, 1, 8, (some .nilFunc), false⟩),
  (45, ⟨.func #[9, 9, 46] #[] false, 1, 8, (some .nilFunc), false⟩),
  (46, ⟨.func #[5, 5] #[] false, 1, 8, (some .nilFunc), false⟩),
  (47, ⟨.array 62 22, 62, 496, (some (.agg ⟨[(.int .u64 0), (.int .u64 0), (.int .u64 0), (.int .u64 0), (.int .u64 0), (.int .u64 0), (.int .u64 0), (.int .u64 0), (.int .u64 0), (.int .u64 0), (.int .u64 0), (.int .u64 0), (.int .u64 0), (.int .u64 0), (.int .u64 0), (.int .u64 0), (.int .u64 0), (.int .u64 0), (.int .u64 0), (.int .u64 0), (.int .u64 0), (.int .u64 0), (.int .u64 0), (.int .u64 0), (.int .u64 0), (.int .u64 0), (.int .u64 0), (.int .u64 0), (.int .u64 0), (.int .u64 0), (.int .u64 0), (.int .u64 0), (.int .u64 0), (.int .u64 0), (.int .u64 0), (.int .u64 0), (.int .u64 0), (.int .u64 0), (.int .u64 0), (.int .u64 0), (.int .u64 0), (.int .u64 0), (.int .u64 0), (.int .u64 0), (.int .u64 0), (.int .u64 0), (.int .u64 0), (.int .u64 0), (.int .u64 0), (.int .u64 0), (.int .u64 0), (.int .u64 0), (.int .u64 0), (.int .u64 0), (.int .u64 0), (.int .u64 0), (.int .u64 0), (.int .u64 0), (.int .u64 0), (.int .u64 0), (.int .u64 0), (.int .u64 0)]⟩)), true⟩),
  (48, ⟨.tuple #[22, 22], 1, 0, (some (.tuple ⟨[(.int .u64 0), (.int .u64 0)]⟩)), false⟩),
  (49, ⟨.func #[22, 22] #[22, 22] false, 1, 8, (some .nilFunc), false⟩),
  (50, ⟨.func #[22, 22, 22] #[22, 22] false, 1, 8, (some .nilFunc), false⟩),
  (51, ⟨.int .u64, 1, 8, (some (.int .u64 0)), false⟩),
  (52, ⟨.func #[51] #[3] false, 1, 8, (some .nilFunc), false⟩),
  (53, ⟨.func #[9, 3] #[9] false, 1, 8, (some .nilFunc), false⟩),
  (54, ⟨.interface #[("Error", 68)], 1, 16, (some .nilIface), false⟩),
  (55, ⟨.interface #[("Error", 68)], 1, 16, (some .nilIface), false⟩),
  (56, ⟨.func #[57] #[3] false, 1, 8, (some .nilFunc), false⟩),
  (57, ⟨.int .u32, 1, 4, (some (.int .u32 0)), false⟩),
  (58, ⟨.tuple #[51, 51], 1, 0, (some (.tuple ⟨[(.int .u64 0), (.int .u64 0)]⟩)), false⟩),
  (59, ⟨.func #[51, 51] #[51, 51] false, 1, 8, (some .nilFunc), false⟩),
  (60, ⟨.func #[9, 9] #[4] false, 1, 8, (some .nilFunc), false⟩),
  (61, ⟨.pointer 63, 1, 8, (some (.pointer none)), false⟩),
  (62, ⟨.struct #[⟨ "addr", 61, 0, false, "", "strings", 0⟩, ⟨ "buf", 42, 1, false, "", "strings", 8⟩], 2, 32, (some (.agg ⟨[(.pointer none), (.slice none 0 0)]⟩)), true⟩),
  (63, ⟨.struct #[⟨ "addr", 61, 0, false, "", "strings", 0⟩, ⟨ "buf", 42, 1, false, "", "strings", 8⟩], 2, 32, (some (.agg ⟨[(.pointer none), (.slice none 0 0)]⟩)), true⟩),
  (64, ⟨.func #[3] #[] false, 1, 8, (some .nilFunc), false⟩),
  (65, ⟨.tuple #[3, 55], 1, 0, (some (.tuple ⟨[(.int .i64 0), .nilIface]⟩)), false⟩),
  (66, ⟨.func #[9] #[3, 55] false, 1, 8, (some .nilFunc), false⟩),
  (67, ⟨.func #[] #[3] false, 1, 8, (some .nilFunc), false⟩),
  (68, ⟨.func #[] #[9] false, 1, 8, (some .nilFunc), false⟩),
  (69, ⟨.tuple #[57, 57], 1, 0, (some (.tuple ⟨[(.int .u32 0), (.int .u32 0)]⟩)), false⟩),
  (70, ⟨.func #[57, 57] #[57, 57] false, 1, 8, (some .nilFunc), false⟩),
  (71, ⟨.pointer 5, 1, 8, (some (.pointer none)), false⟩),
  (72, ⟨.unsafePointer, 1, 8, (some (.pointer none)), false⟩),
  (73, ⟨.func #[72] #[72] false, 1, 8, (some .nilFunc), false⟩),
  (74, ⟨.func #[3] #[42] false, 1, 8, (some .nilFunc), false⟩),
  (75, ⟨.pointer 89, 1, 8, (some (.pointer none)), false⟩),
  (76, ⟨.struct #[⟨ "_interface", 17, 0, false, "", "runtime", 0⟩, ⟨ "concrete", 17, 1, false, "", "runtime", 8⟩, ⟨ "asserted", 17, 2, false, "", "runtime", 16⟩, ⟨ "missingMethod", 9, 3, false, "", "runtime", 24⟩], 4, 40, (some (.agg ⟨[(.pointer none), (.pointer none), (.pointer none), (.string ⟨⟨[]⟩⟩)]⟩)), true⟩),
  (77, ⟨.struct #[⟨ "_interface", 17, 0, false, "", "runtime", 0⟩, ⟨ "concrete", 17, 1, false, "", "runtime", 8⟩, ⟨ "asserted", 17, 2, false, "", "runtime", 16⟩, ⟨ "missingMethod", 9, 3, false, "", "runtime", 24⟩], 4, 40, (some (.agg ⟨[(.pointer none), (.pointer none), (.pointer none), (.string ⟨⟨[]⟩⟩)]⟩)), true⟩),
  (78, ⟨.array 0 16, 0, 0, (some (.agg ⟨[]⟩)), true⟩),
  (79, ⟨.struct #[⟨ "_", 78, 0, false, "", "runtime", 0⟩], 0, 0, (some (.agg ⟨[]⟩)), true⟩),
  (80, ⟨.struct #[⟨ "_", 78, 0, false, "", "runtime", 0⟩], 0, 0, (some (.agg ⟨[]⟩)), true⟩),
  (81, ⟨.int .u8, 1, 1, (some (.int .u8 0)), false⟩),
  (82, ⟨.int .u8, 1, 1, (some (.int .u8 0)), false⟩),
  (83, ⟨.func #[72, 72] #[4] false, 1, 8, (some .nilFunc), false⟩),
  (84, ⟨.int .i32, 1, 4, (some (.int .i32 0)), false⟩),
  (85, ⟨.int .i32, 1, 4, (some (.int .i32 0)), false⟩),
  (86, ⟨.struct #[⟨ "Size_", 12, 0, false, "", "", 0⟩, ⟨ "PtrBytes", 12, 1, false, "", "", 8⟩, ⟨ "Hash", 57, 2, false, "", "", 16⟩, ⟨ "TFlag", 81, 3, false, "", "", 20⟩, ⟨ "Align_", 5, 4, false, "", "", 21⟩, ⟨ "FieldAlign_", 5, 5, false, "", "", 22⟩, ⟨ "Kind_", 82, 6, false, "", "", 23⟩, ⟨ "Equal", 83, 7, false, "", "", 24⟩, ⟨ "GCData", 71, 8, false, "", "", 32⟩, ⟨ "Str", 84, 9, false, "", "", 40⟩, ⟨ "PtrToThis", 85, 10, false, "", "", 44⟩], 11, 48, (some (.agg ⟨[(.int .u64 0), (.int .u64 0), (.int .u32 0), (.int .u8 0), (.int .u8 0), (.int .u8 0), (.int .u8 0), .nilFunc, (.pointer none), (.int .i32 0), (.int .i32 0)]⟩)), true⟩),
  (87, ⟨.struct #[⟨ "Size_", 12, 0, false, "", "", 0⟩, ⟨ "PtrBytes", 12, 1, false, "", "", 8⟩, ⟨ "Hash", 57, 2, false, "", "", 16⟩, ⟨ "TFlag", 81, 3, false, "", "", 20⟩, ⟨ "Align_", 5, 4, false, "", "", 21⟩, ⟨ "FieldAlign_", 5, 5, false, "", "", 22⟩, ⟨ "Kind_", 82, 6, false, "", "", 23⟩, ⟨ "Equal", 83, 7, false, "", "", 24⟩, ⟨ "GCData", 71, 8, false, "", "", 32⟩, ⟨ "Str", 84, 9, false, "", "", 40⟩, ⟨ "PtrToThis", 85, 10, false, "", "", 44⟩], 11, 48, (some (.agg ⟨[(.int .u64 0), (.int .u64 0), (.int .u32 0), (.int .u8 0), (.int .u8 0), (.int .u8 0), (.int .u8 0), .nilFunc, (.pointer none), (.int .i32 0), (.int .i32 0)]⟩)), true⟩),
  (88, ⟨.struct #[⟨ "s", 9, 0, false, "", "errors", 0⟩], 1, 16, (some (.agg ⟨[(.string ⟨⟨[]⟩⟩)]⟩)), true⟩),
  (89, ⟨.struct #[⟨ "s", 9, 0, false, "", "errors", 0⟩], 1, 16, (some (.agg ⟨[(.string ⟨⟨[]⟩⟩)]⟩)), true⟩)]
theorem tyL : (T.map fun p => tables.ty.get p.1) = T.map fun p => some p.2 := by kernel_rfl
theorem hT : TyOk tables T := TyOk.of_map tyL
theorem ok : VPok Try.prog tables := VP.of_ok _
theorem hm : Try.prog.follows .mixedOrders = true := by kernel_rfl
theorem fnL : ([3, 4, 5, 6, 7, 8, 9, 10, 11, 12, 13, 14, 15, 16, 17, 18, 19, 20, 21, 22, 23, 24, 25, 26, 27, 28, 29, 30, 31, 32, 33, 34, 35, 36, 37, 38, 39, 40, 41, 42].map fun f => tables.fn.get f) = [some Try.f3, some Try.f4, some Try.f5, some Try.f6, some Try.f7, some Try.f8, some Try.f9, some Try.f10, some Try.f11, some Try.f12, some Try.f13, some Try.f14, some Try.f15, some Try.f16, some Try.f17, some Try.f18, some Try.f19, some Try.f20, some Try.f21, some Try.f22, some Try.f23, some Try.f24, some Try.f25, some Try.f26, some Try.f27, some Try.f28, some Try.f29, some Try.f30, some Try.f31, some Try.f32, some Try.f33, some Try.f34, some Try.f35, some Try.f36, some Try.f37, some Try.f38, some Try.f39, some Try.f40, some Try.f41, some Try.f42] := by kernel_rfl
theorem fn3 : tables.fn.get 3 = some Try.f3 := by have := congrArg (fun l => l[0]?) fnL; simpa using this
theorem fn4 : tables.fn.get 4 = some Try.f4 := by have := congrArg (fun l => l[1]?) fnL; simpa using this
theorem fn5 : tables.fn.get 5 = some Try.f5 := by have := congrArg (fun l => l[2]?) fnL; simpa using this
theorem fn6 : tables.fn.get 6 = some Try.f6 := by have := congrArg (fun l => l[3]?) fnL; simpa using this
theorem fn7 : tables.fn.get 7 = some Try.f7 := by have := congrArg (fun l => l[4]?) fnL; simpa using this
theorem fn8 : tables.fn.get 8 = some Try.f8 := by have := congrArg (fun l => l[5]?) fnL; simpa using this
theorem fn9 : tables.fn.get 9 = some Try.f9 := by have := congrArg (fun l => l[6]?) fnL; simpa using this
theorem fn10 : tables.fn.get 10 = some Try.f10 := by have := congrArg (fun l => l[7]?) fnL; simpa using this
theorem fn11 : tables.fn.get 11 = some Try.f11 := by have := congrArg (fun l => l[8]?) fnL; simpa using this
theorem fn12 : tables.fn.get 12 = some Try.f12 := by have := congrArg (fun l => l[9]?) fnL; simpa using this
theorem fn13 : tables.fn.get 13 = some Try.f13 := by have := congrArg (fun l => l[10]?) fnL; simpa using this
theorem fn14 : tables.fn.get 14 = some Try.f14 := by have := congrArg (fun l => l[11]?) fnL; simpa using this
theorem fn15 : tables.fn.get 15 = some Try.f15 := by have := congrArg (fun l => l[12]?) fnL; simpa using this
theorem fn16 : tables.fn.get 16 = some Try.f16 := by have := congrArg (fun l => l[13]?) fnL; simpa using this
theorem fn17 : tables.fn.get 17 = some Try.f17 := by have := congrArg (fun l => l[14]?) fnL; simpa using this
theorem fn18 : tables.fn.get 18 = some Try.f18 := by have := congrArg (fun l => l[15]?) fnL; simpa using this
theorem fn19 : tables.fn.get 19 = some Try.f19 := by have := congrArg (fun l => l[16]?) fnL; simpa using this
theorem fn20 : tables.fn.get 20 = some Try.f20 := by have := congrArg (fun l => l[17]?) fnL; simpa using this
theorem fn21 : tables.fn.get 21 = some Try.f21 := by have := congrArg (fun l => l[18]?) fnL; simpa using this
theorem fn22 : tables.fn.get 22 = some Try.f22 := by have := congrArg (fun l => l[19]?) fnL; simpa using this
theorem fn23 : tables.fn.get 23 = some Try.f23 := by have := congrArg (fun l => l[20]?) fnL; simpa using this
theorem fn24 : tables.fn.get 24 = some Try.f24 := by have := congrArg (fun l => l[21]?) fnL; simpa using this
theorem fn25 : tables.fn.get 25 = some Try.f25 := by have := congrArg (fun l => l[22]?) fnL; simpa using this
theorem fn26 : tables.fn.get 26 = some Try.f26 := by have := congrArg (fun l => l[23]?) fnL; simpa using this
theorem fn27 : tables.fn.get 27 = some Try.f27 := by have := congrArg (fun l => l[24]?) fnL; simpa using this
theorem fn28 : tables.fn.get 28 = some Try.f28 := by have := congrArg (fun l => l[25]?) fnL; simpa using this
theorem fn29 : tables.fn.get 29 = some Try.f29 := by have := congrArg (fun l => l[26]?) fnL; simpa using this
theorem fn30 : tables.fn.get 30 = some Try.f30 := by have := congrArg (fun l => l[27]?) fnL; simpa using this
theorem fn31 : tables.fn.get 31 = some Try.f31 := by have := congrArg (fun l => l[28]?) fnL; simpa using this
theorem fn32 : tables.fn.get 32 = some Try.f32 := by have := congrArg (fun l => l[29]?) fnL; simpa using this
theorem fn33 : tables.fn.get 33 = some Try.f33 := by have := congrArg (fun l => l[30]?) fnL; simpa using this
theorem fn34 : tables.fn.get 34 = some Try.f34 := by have := congrArg (fun l => l[31]?) fnL; simpa using this
theorem fn35 : tables.fn.get 35 = some Try.f35 := by have := congrArg (fun l => l[32]?) fnL; simpa using this
theorem fn36 : tables.fn.get 36 = some Try.f36 := by have := congrArg (fun l => l[33]?) fnL; simpa using this
theorem fn37 : tables.fn.get 37 = some Try.f37 := by have := congrArg (fun l => l[34]?) fnL; simpa using this
theorem fn38 : tables.fn.get 38 = some Try.f38 := by have := congrArg (fun l => l[35]?) fnL; simpa using this
theorem fn39 : tables.fn.get 39 = some Try.f39 := by have := congrArg (fun l => l[36]?) fnL; simpa using this
theorem fn40 : tables.fn.get 40 = some Try.f40 := by have := congrArg (fun l => l[37]?) fnL; simpa using this
theorem fn41 : tables.fn.get 41 = some Try.f41 := by have := congrArg (fun l => l[38]?) fnL; simpa using this
theorem fn42 : tables.fn.get 42 = some Try.f42 := by have := congrArg (fun l => l[39]?) fnL; simpa using this
end Go.Proofs.Ytpglehckhnencaa
/- More rules of the logic: numbers modulo 2^64, and what is known of the front of a row alone. -/
namespace Go.Wvm
open Go.RowKit
set_option linter.unusedVariables false
section
variable {P : Program} {vp : VP} {ro : Nat} {E : En} {M : AM}
theorem Pu.addM {t t' : TypeId} {x y : Operand} {a b : Nat} (hx : evE E x = some (.int .u64 (a : Int))) (hy : evE E y = some (.int .u64 (b : Int))) : Pu P vp E M (.binOp .add t x y t') (.int .u64 (((a + b) % 18446744073709551616 : Nat) : Int)) := by
  have := Pu.addU64 (P := P) (vp := vp) (M := M) (t := t) (t' := t') hx hy
  rwa [show ((a : Int) + b) % 18446744073709551616 = (((a + b) % 18446744073709551616 : Nat) : Int) by omega] at this
theorem Pu.mulM {t t' : TypeId} {x y : Operand} {a b : Nat} (hx : evE E x = some (.int .u64 (a : Int))) (hy : evE E y = some (.int .u64 (b : Int))) : Pu P vp E M (.binOp .mul t x y t') (.int .u64 ((a * b % 18446744073709551616 : Nat) : Int)) := by
  have := Pu.mulU64 (P := P) (vp := vp) (M := M) (t := t) (t' := t') hx hy
  rwa [show ((a : Int) * b) % 18446744073709551616 = ((a * b % 18446744073709551616 : Nat) : Int) by rw [Int.natCast_emod, Int.natCast_mul]; rfl] at this
/-- A difference modulo 2^64 that is told. -/
theorem Pu.subM {t t' : TypeId} {x y : Operand} {a b : Nat} (r : Nat) (hr : r < 18446744073709551616) (k : Int) (h : (a : Int) - b = r + 18446744073709551616 * k) (hx : evE E x = some (.int .u64 (a : Int))) (hy : evE E y = some (.int .u64 (b : Int))) : Pu P vp E M (.binOp .sub t x y t') (.int .u64 (r : Int)) := by
  have := Pu.subU64 (P := P) (vp := vp) (M := M) (t := t) (t' := t') hx hy
  rwa [show ((a : Int) - b) % 18446744073709551616 = (r : Int) by omega] at this
theorem Pu.shlM {t t' : TypeId} {x y : Operand} {k' : IntKind} {a b : Nat} (hx : evE E x = some (.int .u64 (a : Int))) (hy : evE E y = some (.int k' (b : Int))) (hle : b ≤ 64) : Pu P vp E M (.binOp .shl t x y t') (.int .u64 ((a * 2 ^ b % 18446744073709551616 : Nat) : Int)) := by
  have := Pu.shlU64 (P := P) (vp := vp) (M := M) (t := t) (t' := t') hx hy (by omega) (by omega)
  rwa [Int.toNat_natCast, show ((a : Int) * 2 ^ b) % 18446744073709551616 = ((a * 2 ^ b % 18446744073709551616 : Nat) : Int) by rw [Int.natCast_emod, Int.natCast_mul, Int.natCast_pow]; rfl] at this
theorem Pu.subZ {t t' : TypeId} {x y : Operand} {k : IntKind} {a b : Nat} (c : Nat) (h : a = b + c) (hr : InR k (c : Int)) (hx : evE E x = some (.int k (a : Int))) (hy : evE E y = some (.int k (b : Int))) : Pu P vp E M (.binOp .sub t x y t') (.int k (c : Int)) := by
  have := Pu.subN (P := P) (vp := vp) (M := M) (t := t) (t' := t') hx hy (by omega) (by rw [show a - b = c by omega]; exact hr)
  rwa [show a - b = c by omega] at this
theorem Pu.addR {t t' : TypeId} {x y : Operand} {a b : Nat} (r : Nat) (h : (a + b) % 18446744073709551616 = r) (hx : evE E x = some (.int .u64 (a : Int))) (hy : evE E y = some (.int .u64 (b : Int))) : Pu P vp E M (.binOp .add t x y t') (.int .u64 (r : Int)) := h ▸ Pu.addM hx hy
theorem Pu.mulR {t t' : TypeId} {x y : Operand} {a b : Nat} (r : Nat) (h : a * b % 18446744073709551616 = r) (hx : evE E x = some (.int .u64 (a : Int))) (hy : evE E y = some (.int .u64 (b : Int))) : Pu P vp E M (.binOp .mul t x y t') (.int .u64 (r : Int)) := h ▸ Pu.mulM hx hy
theorem Pu.shlR {t t' : TypeId} {x y : Operand} {k' : IntKind} {a b : Nat} (r : Nat) (h : a * 2 ^ b % 18446744073709551616 = r) (hx : evE E x = some (.int .u64 (a : Int))) (hy : evE E y = some (.int k' (b : Int))) (hle : b ≤ 64) : Pu P vp E M (.binOp .shl t x y t') (.int .u64 (r : Int)) := h ▸ Pu.shlM hx hy hle
theorem Pu.subQ {t t' : TypeId} {x y : Operand} {a b : Nat} (A B r : Nat) (ha : a = A % 18446744073709551616) (hb : b = B % 18446744073709551616) (h : A = B + r) (hr : r < 18446744073709551616) (hx : evE E x = some (.int .u64 (a : Int))) (hy : evE E y = some (.int .u64 (b : Int))) : Pu P vp E M (.binOp .sub t x y t') (.int .u64 (r : Int)) := by
  have := Pu.subU64 (P := P) (vp := vp) (M := M) (t := t) (t' := t') hx hy
  rwa [show ((a : Int) - b) % 18446744073709551616 = (r : Int) by omega] at this
end
end Go.Wvm
/- The mathematics of the sketches: their hashes, exponents, ranks, registers, unions, estimates; what does not hang on the order. -/
namespace Sk
set_option linter.unusedVariables false
set_option linter.unusedSimpArgs false

/-! ### How many bits -/
def len64 (n : Nat) : Nat := if n = 0 then 0 else Nat.log2 n + 1
theorem len64_lt (n : Nat) : n < 2 ^ len64 n := by
  unfold len64
  split
  · rename_i h; subst h; decide
  · exact Nat.lt_log2_self
theorem len64_le {n : Nat} (h : n ≠ 0) : 2 ^ (len64 n - 1) ≤ n := by
  unfold len64
  rw [if_neg h, Nat.add_sub_cancel]
  exact Nat.log2_self_le h
theorem len64_of {n k : Nat} (h1 : n < 2 ^ k) (h2 : n ≠ 0 → 2 ^ (k - 1) ≤ n) (h0 : n = 0 → k = 0) : len64 n = k := by
  by_cases hz : n = 0
  · subst hz; rw [h0 rfl]; rfl
  · have a1 := len64_lt n
    have a2 := len64_le hz
    have a3 := h2 hz
    have hk : k ≠ 0 := by intro e; subst e; omega
    have hl : len64 n ≠ 0 := by intro e; rw [e] at a1; omega
    have b1 : len64 n - 1 < k := (Nat.pow_lt_pow_iff_right (by decide : 1 < 2)).1 (Nat.lt_of_le_of_lt a2 h1)
    have b2 : k - 1 < len64 n := (Nat.pow_lt_pow_iff_right (by decide : 1 < 2)).1 (Nat.lt_of_le_of_lt a3 a1)
    omega
theorem len64_mono {n k : Nat} (h : n < 2 ^ k) : len64 n ≤ k := by
  by_cases hz : n = 0
  · subst hz; exact Nat.zero_le _
  · have a2 := len64_le hz
    have b1 : len64 n - 1 < k := (Nat.pow_lt_pow_iff_right (by decide : 1 < 2)).1 (Nat.lt_of_le_of_lt a2 h)
    omega
theorem len64_div (n k : Nat) (h : 2 ^ k ≤ n) : len64 n = k + len64 (n / 2 ^ k) := by
  have hp := Nat.two_pow_pos k
  have hq : n / 2 ^ k ≠ 0 := by
    have := Nat.div_le_div_right (c := 2 ^ k) h
    rw [Nat.div_self hp] at this; omega
  have a1 := len64_lt (n / 2 ^ k)
  have a2 := len64_le hq
  have hl : len64 (n / 2 ^ k) ≠ 0 := by intro e; rw [e] at a1; exact hq (Nat.lt_one_iff.1 a1)
  refine len64_of ?_ (fun _ => ?_) (fun e => by omega)
  · rw [Nat.pow_add, Nat.mul_comm]
    exact (Nat.div_lt_iff_lt_mul hp).1 a1
  · rw [show k + len64 (n / 2 ^ k) - 1 = k + (len64 (n / 2 ^ k) - 1) by omega, Nat.pow_add, Nat.mul_comm]
    exact (Nat.le_div_iff_mul_le hp).1 a2
theorem len64_zero : len64 0 = 0 := rfl
theorem len64_pow (p : Nat) : len64 (2 ^ p) = p + 1 :=
  len64_of (Nat.pow_lt_pow_right (by decide) (Nat.lt_succ_self p)) (fun _ => by simp) (fun e => by have := Nat.two_pow_pos p; omega)
theorem len64_mul (n p : Nat) (h : n ≠ 0) : len64 (n * 2 ^ p) = len64 n + p := by
  have hl : 1 ≤ len64 n := by
    rcases Nat.eq_zero_or_pos (len64 n) with e | e
    · have := len64_lt n; rw [e] at this; omega
    · exact e
  refine len64_of ?_ (fun _ => ?_) (fun e => ?_)
  · rw [Nat.pow_add]; exact (Nat.mul_lt_mul_right (Nat.two_pow_pos p)).2 (len64_lt n)
  · rw [show len64 n + p - 1 = (len64 n - 1) + p by omega, Nat.pow_add]; exact Nat.mul_le_mul_right _ (len64_le h)
  · exfalso; have := Nat.mul_pos (Nat.pos_of_ne_zero h) (Nat.two_pow_pos p); omega

/-! ### Exponents -/
def Okp (p : Nat) (s : List UInt8) : Prop := 4 ≤ p ∧ p ≤ 16 ∧ s.length = 2 ^ p ∧ ∀ i, i < s.length → (s.getD i 0).toNat ≤ 65 - p
theorem pow_inj {p q : Nat} (h : 2 ^ p = 2 ^ q) : p = q := by
  rcases Nat.lt_trichotomy p q with k | k | k
  · have := Nat.pow_lt_pow_right (a := 2) (by decide) k; omega
  · exact k
  · have := Nat.pow_lt_pow_right (a := 2) (by decide) k; omega
theorem Okp.unique {p q : Nat} {s : List UInt8} (h : Okp p s) (k : Okp q s) : p = q :=
  pow_inj (h.2.2.1.symm.trans k.2.2.1)
theorem Okp.len {p : Nat} {s : List UInt8} (h : Okp p s) : len64 s.length - 1 = p := by rw [h.2.2.1, len64_pow]; omega
open Classical in
noncomputable def exE (s : List UInt8) : Option Nat := if h : ∃ p, Okp p s then some h.choose else none
theorem exE_some {p : Nat} {s : List UInt8} (h : Okp p s) : exE s = some p := by
  unfold exE
  rw [dif_pos ⟨p, h⟩]
  exact congrArg some (Exists.choose_spec (⟨p, h⟩ : ∃ p, Okp p s) |>.unique h)
theorem exE_none {s : List UInt8} (h : ∀ p, ¬ Okp p s) : exE s = none := by
  unfold exE; rw [dif_neg (fun ⟨p, k⟩ => h p k)]
theorem exE_okp {p : Nat} {s : List UInt8} (h : exE s = some p) : Okp p s := by
  unfold exE at h
  split at h
  · rename_i k; cases h; exact k.choose_spec
  · cases h
theorem exE_cases (s : List UInt8) : (∃ p, Okp p s ∧ exE s = some p) ∨ ((∀ p, ¬ Okp p s) ∧ exE s = none) := by
  by_cases h : ∃ p, Okp p s
  · obtain ⟨p, h⟩ := h; exact .inl ⟨p, h, exE_some h⟩
  · exact .inr ⟨fun p k => h ⟨p, k⟩, exE_none fun p k => h ⟨p, k⟩⟩
theorem pow_p {p : Nat} (h0 : 4 ≤ p) (h1 : p ≤ 16) : 16 ≤ 2 ^ p ∧ 2 ^ p ≤ 65536 :=
  ⟨(Nat.pow_le_pow_right (by decide) h0 : 2 ^ 4 ≤ 2 ^ p), (Nat.pow_le_pow_right (by decide) h1 : 2 ^ p ≤ 2 ^ 16)⟩
theorem Okp.size {p : Nat} {s : List UInt8} (h : Okp p s) : 16 ≤ s.length ∧ s.length ≤ 65536 := by rw [h.2.2.1]; exact pow_p h.1 h.2.1

/-! ### Ranks and registers -/
def rankN (p h : Nat) : Nat := 65 - p - len64 (h % 2 ^ (64 - p))
def atN (p h : Nat) : Nat := h / 2 ^ (64 - p)
theorem rankN_le (p h : Nat) : rankN p h ≤ 65 - p := Nat.sub_le _ _
theorem rankN_pos {p h : Nat} (hp : p ≤ 64) : 1 ≤ rankN p h := by
  unfold rankN
  have := len64_mono (Nat.mod_lt h (Nat.two_pow_pos (64 - p))); omega
theorem atN_lt {p h : Nat} (hp : p ≤ 64) (hh : h < 18446744073709551616) : atN p h < 2 ^ p := by
  unfold atN
  rw [Nat.div_lt_iff_lt_mul (Nat.two_pow_pos _), ← Nat.pow_add, show p + (64 - p) = 64 by omega]; exact hh
def mx (a b : UInt8) : UInt8 := if a.toNat < b.toNat then b else a
theorem mx_nat (a b : UInt8) : (mx a b).toNat = max a.toNat b.toNat := by
  unfold mx; split <;> omega
theorem mx_comm (a b : UInt8) : mx a b = mx b a := UInt8.toNat_inj.1 (by rw [mx_nat, mx_nat, Nat.max_comm])
theorem mx_assoc (a b c : UInt8) : mx (mx a b) c = mx a (mx b c) := UInt8.toNat_inj.1 (by simp only [mx_nat, Nat.max_assoc])
theorem mx_self (a : UInt8) : mx a a = a := UInt8.toNat_inj.1 (by rw [mx_nat, Nat.max_self])
theorem zero_mx (a : UInt8) : mx 0 a = a := UInt8.toNat_inj.1 (by rw [mx_nat]; exact Nat.zero_max _)
theorem mx_zero (a : UInt8) : mx a 0 = a := by rw [mx_comm, zero_mx]
def rk (p h : Nat) : UInt8 := UInt8.ofNat (rankN p h)
theorem rk_nat {p h : Nat} : (rk p h).toNat = rankN p h := by
  unfold rk
  rw [UInt8.toNat_ofNat']
  exact Nat.mod_eq_of_lt (by have := rankN_le p h; omega)
/-- A sketch with a hash more. -/
def addS (p : Nat) (s : List UInt8) (h : Nat) : List UInt8 := s.set (atN p h) (mx (s.getD (atN p h) 0) (rk p h))
theorem addS_length (p : Nat) (s : List UInt8) (h : Nat) : (addS p s h).length = s.length := List.length_set
theorem getD_set (s : List UInt8) (a i : Nat) (v : UInt8) (ha : a < s.length) : (s.set a v).getD i 0 = if i = a then v else s.getD i 0 := by
  rw [List.getD_eq_getElem?_getD, List.getD_eq_getElem?_getD, List.getElem?_set]
  by_cases e : a = i
  · subst e; rw [if_pos rfl, if_pos rfl, if_pos ha]; rfl
  · rw [if_neg e, if_neg (Ne.symm e)]
theorem addS_getD {p h : Nat} {s : List UInt8} (hs : s.length = 2 ^ p) (hp : p ≤ 64) (hh : h < 18446744073709551616) (i : Nat) : (addS p s h).getD i 0 = if i = atN p h then mx (s.getD i 0) (rk p h) else s.getD i 0 := by
  unfold addS
  rw [getD_set _ _ _ _ (by rw [hs]; exact atN_lt hp hh)]
  by_cases e : i = atN p h
  · rw [if_pos e, if_pos e, e]
  · rw [if_neg e, if_neg e]
theorem addS_okp {p h : Nat} {s : List UInt8} (k : Okp p s) (hh : h < 18446744073709551616) : Okp p (addS p s h) := by
  obtain ⟨h1, h2, h3, h4⟩ := k
  refine ⟨h1, h2, (addS_length p s h).trans h3, fun i hi => ?_⟩
  rw [addS_length] at hi
  rw [addS_getD h3 (by omega) hh]
  have := h4 i hi
  split
  · rw [mx_nat, rk_nat]; have := rankN_le p h; omega
  · exact this
theorem ext_getD {s t : List UInt8} (hl : s.length = t.length) (h : ∀ i, i < s.length → s.getD i 0 = t.getD i 0) : s = t := by
  refine List.ext_getElem hl fun i h1 h2 => ?_
  have := h i h1
  rwa [List.getD_eq_getElem?_getD, List.getD_eq_getElem?_getD, List.getElem?_eq_getElem h1, List.getElem?_eq_getElem h2] at this
/-- Where the register is as great already nothing turns. -/
theorem addS_same {p h : Nat} {s : List UInt8} (hs : s.length = 2 ^ p) (hp : p ≤ 64) (hh : h < 18446744073709551616) (hr : rankN p h ≤ (s.getD (atN p h) 0).toNat) : addS p s h = s := by
  refine ext_getD (addS_length _ _ _) fun i _ => ?_
  rw [addS_getD hs hp hh]
  split
  · rename_i e
    subst e
    refine UInt8.toNat_inj.1 ?_
    rw [mx_nat, rk_nat]; omega
  · rfl
theorem addS_cut {p h : Nat} {s : List UInt8} (hs : s.length = 2 ^ p) (hp : p ≤ 64) (hh : h < 18446744073709551616) (hr : (s.getD (atN p h) 0).toNat < rankN p h) : addS p s h = s.take (atN p h) ++ [rk p h] ++ s.drop (atN p h + 1) := by
  have ha : atN p h < s.length := by rw [hs]; exact atN_lt hp hh
  unfold addS
  have e : mx (s.getD (atN p h) 0) (rk p h) = rk p h := UInt8.toNat_inj.1 (by rw [mx_nat, rk_nat]; omega)
  rw [e, List.set_eq_take_append_cons_drop, if_pos ha]; simp

/-! ### Unions -/
def uniS (s t : List UInt8) : List UInt8 := List.zipWith mx s t
theorem uniS_length {s t : List UInt8} (h : s.length = t.length) : (uniS s t).length = s.length := by
  unfold uniS; rw [List.length_zipWith]; omega
theorem uniS_getD {s t : List UInt8} (h : s.length = t.length) (i : Nat) : (uniS s t).getD i 0 = mx (s.getD i 0) (t.getD i 0) := by
  unfold uniS
  simp only [List.getD_eq_getElem?_getD]
  rw [List.getElem?_zipWith]
  by_cases hi : i < s.length
  · rw [List.getElem?_eq_getElem hi, List.getElem?_eq_getElem (by omega)]; rfl
  · rw [List.getElem?_eq_none (by omega), List.getElem?_eq_none (by omega)]; rfl
theorem uniS_okp {p : Nat} {s t : List UInt8} (hs : Okp p s) (ht : Okp p t) : Okp p (uniS s t) := by
  have hl : s.length = t.length := hs.2.2.1.trans ht.2.2.1.symm
  refine ⟨hs.1, hs.2.1, (uniS_length hl).trans hs.2.2.1, fun i hi => ?_⟩
  rw [uniS_length hl] at hi
  rw [uniS_getD hl, mx_nat]
  have a := hs.2.2.2 i hi
  have b := ht.2.2.2 i (by omega)
  omega
theorem uniS_comm {s t : List UInt8} (h : s.length = t.length) : uniS s t = uniS t s :=
  ext_getD (by rw [uniS_length h, uniS_length h.symm, h]) fun i _ => by rw [uniS_getD h, uniS_getD h.symm, mx_comm]
theorem uniS_self (s : List UInt8) : uniS s s = s :=
  ext_getD (uniS_length rfl) fun i _ => by rw [uniS_getD rfl, mx_self]
theorem uniS_left {s t : List UInt8} (h : s.length = t.length) : uniS (uniS s t) s = uniS s t :=
  ext_getD (uniS_length (uniS_length h)) fun i _ => by
    rw [uniS_getD (uniS_length h), uniS_getD h, mx_comm, ← mx_assoc, mx_self]
theorem uniS_add {p h : Nat} {s t : List UInt8} (hs : s.length = 2 ^ p) (ht : t.length = 2 ^ p) (hp : p ≤ 64) (hh : h < 18446744073709551616) : uniS s (addS p t h) = addS p (uniS s t) h := by
  have hl : s.length = t.length := hs.trans ht.symm
  have hl2 : s.length = (addS p t h).length := hl.trans (addS_length _ _ _).symm
  refine ext_getD (by rw [uniS_length hl2, addS_length, uniS_length hl]) fun i _ => ?_
  rw [uniS_getD hl2, addS_getD ht hp hh, addS_getD ((uniS_length hl).trans hs) hp hh, uniS_getD hl]
  split
  · rw [mx_assoc]
  · rfl

/-! ### All of a list -/
def zeroS (p : Nat) : List UInt8 := List.replicate (2 ^ p) 0
theorem zeroS_length (p : Nat) : (zeroS p).length = 2 ^ p := List.length_replicate
theorem zeroS_getD (p i : Nat) : (zeroS p).getD i 0 = 0 := by
  unfold zeroS
  rw [List.getD_eq_getElem?_getD, List.getElem?_replicate]; split <;> rfl
theorem zeroS_okp {p : Nat} (h0 : 4 ≤ p) (h1 : p ≤ 16) : Okp p (zeroS p) := ⟨h0, h1, zeroS_length p, fun i _ => by rw [zeroS_getD]; exact Nat.zero_le _⟩
def allS (p : Nat) (s : List UInt8) (l : List Nat) : List UInt8 := l.foldl (addS p) s
theorem allS_length (p : Nat) : ∀ (l : List Nat) (s : List UInt8), (allS p s l).length = s.length
  | [], s => rfl
  | h :: l, s => (allS_length p l (addS p s h)).trans (addS_length p s h)
theorem allS_okp {p : Nat} : ∀ {l : List Nat} {s : List UInt8}, Okp p s → (∀ h ∈ l, h < 18446744073709551616) → Okp p (allS p s l)
  | [], s, k, _ => k
  | h :: l, s, k, hh => allS_okp (l := l) (addS_okp k (hh h (List.mem_cons_self ..))) (fun x hx => hh x (List.mem_cons_of_mem _ hx))
theorem allS_append (p : Nat) (s : List UInt8) (l k : List Nat) : allS p s (l ++ k) = allS p (allS p s l) k := List.foldl_append
/-- What a register has in the end. -/
theorem allS_getD {p : Nat} (hp : p ≤ 64) : ∀ {l : List Nat} {s : List UInt8}, s.length = 2 ^ p → (∀ h ∈ l, h < 18446744073709551616) → ∀ i, ((allS p s l).getD i 0).toNat = l.foldl (fun m h => if i = atN p h then max m (rankN p h) else m) (s.getD i 0).toNat
  | [], s, _, _, i => rfl
  | h :: l, s, hs, hh, i => by
    show ((allS p (addS p s h) l).getD i 0).toNat = _
    rw [allS_getD hp ((addS_length p s h).trans hs) (fun x hx => hh x (List.mem_cons_of_mem _ hx)), addS_getD hs hp (hh h (List.mem_cons_self ..))]
    simp only [List.foldl_cons]
    congr 1
    split
    · rw [mx_nat, rk_nat]
    · rfl
def regN (p i : Nat) (m : Nat) (l : List Nat) : Nat := l.foldl (fun m h => if i = atN p h then max m (rankN p h) else m) m
theorem regN_le {p i k : Nat} : ∀ {l : List Nat} {m : Nat}, regN p i m l ≤ k ↔ m ≤ k ∧ ∀ h ∈ l, i = atN p h → rankN p h ≤ k
  | [], m => ⟨fun h => ⟨h, fun x hx => (by cases hx)⟩, fun h => h.1⟩
  | h :: l, m => by
    show regN p i (if i = atN p h then max m (rankN p h) else m) l ≤ k ↔ _
    rw [regN_le (l := l)]
    constructor
    · rintro ⟨h1, h2⟩
      refine ⟨by split at h1 <;> omega, fun x hx e => ?_⟩
      rcases List.mem_cons.1 hx with rfl | hx
      · rw [if_pos e] at h1; omega
      · exact h2 x hx e
    · rintro ⟨h1, h2⟩
      refine ⟨?_, fun x hx e => h2 x (List.mem_cons_of_mem _ hx) e⟩
      split
      · rename_i e; have := h2 h (List.mem_cons_self ..) e; omega
      · exact h1
/-- The order does not matter, nor how often each comes. -/
theorem allS_mem {p : Nat} (hp : p ≤ 64) {l k : List Nat} {s : List UInt8} (hs : s.length = 2 ^ p) (hl : ∀ h ∈ l, h < 18446744073709551616) (hk : ∀ h ∈ k, h < 18446744073709551616) (h : ∀ x, x ∈ l ↔ x ∈ k) : allS p s l = allS p s k := by
  refine ext_getD (by rw [allS_length, allS_length]) fun i _ => UInt8.toNat_inj.1 ?_
  rw [allS_getD hp hs hl, allS_getD hp hs hk]
  have key : ∀ c, regN p i (s.getD i 0).toNat l ≤ c ↔ regN p i (s.getD i 0).toNat k ≤ c := fun c => by
    rw [regN_le, regN_le]
    exact ⟨fun ⟨a, b⟩ => ⟨a, fun x hx => b x ((h x).2 hx)⟩, fun ⟨a, b⟩ => ⟨a, fun x hx => b x ((h x).1 hx)⟩⟩
  exact Nat.le_antisymm ((key _).2 (Nat.le_refl _)) ((key _).1 (Nat.le_refl _))
theorem uniS_all {p : Nat} (hp : p ≤ 64) : ∀ {l : List Nat} {s t : List UInt8}, s.length = 2 ^ p → t.length = 2 ^ p → (∀ h ∈ l, h < 18446744073709551616) → uniS s (allS p t l) = allS p (uniS s t) l
  | [], s, t, _, _, _ => rfl
  | h :: l, s, t, hs, ht, hh => by
    show uniS s (allS p (addS p t h) l) = allS p (addS p (uniS s t) h) l
    rw [uniS_all hp hs ((addS_length p t h).trans ht) (fun x hx => hh x (List.mem_cons_of_mem _ hx)), uniS_add hs ht hp (hh h (List.mem_cons_self ..))]
theorem uniS_zero {p : Nat} {s : List UInt8} (hs : s.length = 2 ^ p) : uniS s (zeroS p) = s :=
  ext_getD (uniS_length (hs.trans (zeroS_length p).symm)) fun i _ => by rw [uniS_getD (hs.trans (zeroS_length p).symm), zeroS_getD, mx_zero]

/-! ### Hashes -/
def hashN (seed x : Nat) : Nat :=
  let z0 := (seed + (x + 1) % 18446744073709551616 * 11400714819323198485 % 18446744073709551616) % 18446744073709551616
  let z1 := (z0 ^^^ z0 / 2 ^ 30) * 13787848793156543929 % 18446744073709551616
  let z2 := (z1 ^^^ z1 / 2 ^ 27) * 10723151780598845931 % 18446744073709551616
  z2 ^^^ z2 / 2 ^ 31
theorem xs_lt {z k : Nat} (h : z < 18446744073709551616) : z ^^^ z / 2 ^ k < 18446744073709551616 :=
  Nat.xor_lt_two_pow (n := 64) h (Nat.lt_of_le_of_lt (Nat.div_le_self _ _) h)
theorem hashN_lt (seed x : Nat) : hashN seed x < 18446744073709551616 := by
  unfold hashN
  exact xs_lt (Nat.mod_lt _ (by decide))
theorem xs_inj {k a b : Nat} (hk : 0 < k) (h : a ^^^ a / 2 ^ k = b ^^^ b / 2 ^ k) : a = b := by
  have h1 : (a ^^^ b) = (a ^^^ b) / 2 ^ k := by
    rw [← Nat.shiftRight_eq_div_pow, Nat.shiftRight_xor_distrib, Nat.shiftRight_eq_div_pow, Nat.shiftRight_eq_div_pow]
    have h2 : (a ^^^ a / 2 ^ k) ^^^ (a / 2 ^ k ^^^ b) = (b ^^^ b / 2 ^ k) ^^^ (a / 2 ^ k ^^^ b) := by rw [h]
    have e1 : (a ^^^ a / 2 ^ k) ^^^ (a / 2 ^ k ^^^ b) = a ^^^ b := by
      rw [Nat.xor_assoc, ← Nat.xor_assoc (a / 2 ^ k), Nat.xor_self, Nat.zero_xor]
    have e2 : (b ^^^ b / 2 ^ k) ^^^ (a / 2 ^ k ^^^ b) = a / 2 ^ k ^^^ b / 2 ^ k := by
      rw [Nat.xor_comm (a / 2 ^ k) b, Nat.xor_comm b (b / 2 ^ k), Nat.xor_assoc, ← Nat.xor_assoc b b, Nat.xor_self, Nat.zero_xor, Nat.xor_comm]
    rw [e1, e2] at h2; exact h2
  have h3 : a ^^^ b = 0 := by
    rcases Nat.eq_zero_or_pos (a ^^^ b) with e | e
    · exact e
    · have := Nat.div_lt_self e (Nat.one_lt_two_pow (Nat.ne_of_gt hk)); omega
  have h4 : a ^^^ (a ^^^ b) = a := by rw [h3, Nat.xor_zero]
  rw [← Nat.xor_assoc, Nat.xor_self, Nat.zero_xor] at h4
  exact h4.symm
theorem mul_inj {c d a b : Nat} (hc : c * d % 18446744073709551616 = 1) (ha : a < 18446744073709551616) (hb : b < 18446744073709551616) (h : a * c % 18446744073709551616 = b * c % 18446744073709551616) : a = b := by
  have k : ∀ x, x < 18446744073709551616 → x * c % 18446744073709551616 * d % 18446744073709551616 = x := fun x hx => by
    rw [Nat.mod_mul_mod, Nat.mul_assoc, Nat.mul_mod, hc, Nat.mul_one, Nat.mod_mod, Nat.mod_eq_of_lt hx]
  rw [← k a ha, ← k b hb, h]
theorem add_inj {s a b : Nat} (ha : a < 18446744073709551616) (hb : b < 18446744073709551616) (h : (s + a) % 18446744073709551616 = (s + b) % 18446744073709551616) : a = b := by omega
theorem stepA {k c d a b : Nat} (hk : 0 < k) (hc : c * d % 18446744073709551616 = 1) (ha : a < 18446744073709551616) (hb : b < 18446744073709551616) (h : (a ^^^ a / 2 ^ k) * c % 18446744073709551616 = (b ^^^ b / 2 ^ k) * c % 18446744073709551616) : a = b :=
  xs_inj hk (mul_inj hc (xs_lt ha) (xs_lt hb) h)
def z0N (s x : Nat) : Nat := (s + (x + 1) % 18446744073709551616 * 11400714819323198485 % 18446744073709551616) % 18446744073709551616
def z1N (z : Nat) : Nat := (z ^^^ z / 2 ^ 30) * 13787848793156543929 % 18446744073709551616
def z2N (z : Nat) : Nat := (z ^^^ z / 2 ^ 27) * 10723151780598845931 % 18446744073709551616
theorem hashN_eq (s x : Nat) : hashN s x = z2N (z1N (z0N s x)) ^^^ z2N (z1N (z0N s x)) / 2 ^ 31 := rfl
theorem z0N_lt (s x : Nat) : z0N s x < 18446744073709551616 := Nat.mod_lt _ (by decide)
theorem z1N_lt (z : Nat) : z1N z < 18446744073709551616 := Nat.mod_lt _ (by decide)
theorem mod64 (x : Nat) : x % 18446744073709551616 < 18446744073709551616 := Nat.mod_lt _ (by decide)
theorem succ_inj64 {x y : Nat} (hx : x < 18446744073709551616) (hy : y < 18446744073709551616) (h : (x + 1) % 18446744073709551616 = (y + 1) % 18446744073709551616) : x = y := by omega
theorem z2N_lt (z : Nat) : z2N z < 18446744073709551616 := Nat.mod_lt _ (by decide)
theorem z0N_inj {s x y : Nat} (hx : x < 18446744073709551616) (hy : y < 18446744073709551616) (h : z0N s x = z0N s y) : x = y := by
  refine succ_inj64 hx hy ?_
  unfold z0N at h
  have hx1 := mod64 (x + 1)
  have hy1 := mod64 (y + 1)
  generalize (x + 1) % 18446744073709551616 = a at h hx1 ⊢
  generalize (y + 1) % 18446744073709551616 = b at h hy1 ⊢
  exact mul_inj (c := 11400714819323198485) (d := 17428512612931826493) (by decide +kernel) hx1 hy1 (add_inj (mod64 _) (mod64 _) h)
theorem hashN_inj {s x y : Nat} (hx : x < 18446744073709551616) (hy : y < 18446744073709551616) (h : hashN s x = hashN s y) : x = y := by
  rw [hashN_eq, hashN_eq] at h
  have h1 : z2N (z1N (z0N s x)) = z2N (z1N (z0N s y)) := xs_inj (by decide) h
  have h2 : z1N (z0N s x) = z1N (z0N s y) := stepA (c := 10723151780598845931) (d := 3573116690164977347) (k := 27) (by decide) (by decide +kernel) (z1N_lt _) (z1N_lt _) h1
  have h3 : z0N s x = z0N s y := stepA (c := 13787848793156543929) (d := 10871156337175269513) (k := 30) (by decide) (by decide +kernel) (z0N_lt _ _) (z0N_lt _ _) h2
  exact z0N_inj hx hy h3

/-! ### Estimates -/
def wt (b : UInt8) : Nat := 2 ^ (40 - min 40 b.toNat)
def sumS (s : List UInt8) : Nat := (s.map wt).sum
def zeros (s : List UInt8) : Nat := s.countP (fun b => b.toNat == 0)
def smS (m : Nat) : Nat → Nat → Nat
  | _, 0 => 0
  | i, k + 1 => m * 2 ^ 20 / i + smS m (i + 1) k
def smallN (m z : Nat) : Nat := smS m (z + 1) (m - z) / 2 ^ 20
def xN (m : Nat) : Nat := 7213 * m * m * m / (10000 * m + 10790)
def quoN (s : List UInt8) : Nat := xN s.length * 2 ^ 40 / sumS s
def estN (s : List UInt8) : Nat := if 0 < zeros s ∧ 2 * quoN s ≤ 5 * s.length then smallN s.length (zeros s) else quoN s
theorem wt_pos (b : UInt8) : 1 ≤ wt b := Nat.two_pow_pos _
theorem wt_le (b : UInt8) : wt b ≤ 1099511627776 := (Nat.pow_le_pow_right (by decide) (Nat.sub_le _ _) : 2 ^ _ ≤ 2 ^ 40)
theorem sumS_cons (b : UInt8) (s : List UInt8) : sumS (b :: s) = wt b + sumS s := by simp [sumS]
theorem sumS_append (s t : List UInt8) : sumS (s ++ t) = sumS s + sumS t := by simp [sumS]
theorem sumS_ge (s : List UInt8) : s.length ≤ sumS s := by
  induction s with
  | nil => exact Nat.zero_le _
  | cons b s ih => rw [sumS_cons, List.length_cons]; have := wt_pos b; omega
theorem sumS_le (s : List UInt8) : sumS s ≤ s.length * 1099511627776 := by
  induction s with
  | nil => exact Nat.zero_le _
  | cons b s ih => rw [sumS_cons, List.length_cons]; have := wt_le b; omega
theorem xN_le {m : Nat} (h : m ≤ 65536) : xN m ≤ 7213 * m * m / 10000 := by
  unfold xN
  rcases Nat.eq_zero_or_pos m with rfl | h0
  · decide
  · have h1 : 7213 * m * m * m / (10000 * m + 10790) ≤ 7213 * m * m * m / (10000 * m) := Nat.div_le_div_left (by omega) (by omega)
    rwa [Nat.mul_div_mul_right _ _ h0] at h1
theorem xN_lt {m : Nat} (h : m ≤ 65536) : xN m < 4294967296 := by
  have h1 := xN_le h
  have h2 : 7213 * m * m ≤ 7213 * 65536 * 65536 := Nat.mul_le_mul (Nat.mul_le_mul_left _ h) h
  have : 7213 * m * m / 10000 ≤ 7213 * 65536 * 65536 / 10000 := Nat.div_le_div_right h2
  omega
theorem smS_le (m : Nat) : ∀ (k i : Nat), 1 ≤ i → smS m i k ≤ k * (m * 2 ^ 20)
  | 0, i, _ => Nat.zero_le _
  | k + 1, i, hi => by
    have h1 := smS_le m k (i + 1) (by omega)
    have h2 : m * 2 ^ 20 / i ≤ m * 2 ^ 20 := Nat.div_le_self _ _
    simp only [smS]
    rw [Nat.succ_mul]; omega
theorem smS_snoc (m : Nat) : ∀ (k i : Nat), smS m i (k + 1) = smS m i k + m * 2 ^ 20 / (i + k)
  | 0, i => by simp [smS]
  | k + 1, i => by
    show m * 2 ^ 20 / i + smS m (i + 1) (k + 1) = m * 2 ^ 20 / i + smS m (i + 1) k + _
    rw [smS_snoc m k (i + 1), show i + 1 + k = i + (k + 1) by omega, Nat.add_assoc]
theorem zeros_le (s : List UInt8) : zeros s ≤ s.length := List.countP_le_length
end Sk
/- N -/
namespace Go.Proofs.Ytpglehckhnencaa
open Go.Wvm Sk
set_option linter.unusedVariables false
set_option linter.unusedSimpArgs false

set_option maxHeartbeats 4000000 in
theorem Hash_ok {ro : Nat} {M : AM} {s x : Nat} (hs : s < 18446744073709551616) (hx : x < 18446744073709551616) :
    FnC Try.prog tables ro 17 [.int .u64 (s : Int), .int .u64 (x : Int)] M (fun v M' => v = .int .u64 (hashN s x : Nat) ∧ M' = M) := by
  refine FnC.body (nt := 25) ok hm fn17 rfl rfl ?_
  rw [hashN_eq]
  have h0 := z0N_lt s x
  have h1 := z1N_lt (z0N s x)
  have h2 := z2N_lt (z1N (z0N s x))
  (repeat (first
    | refine Ex.seq ok hm ?_
    | refine Ex.region ok hm ?_
    | refine Sq.pu ok hm Want.none (by first
    | exact Pu.move rfl
    | exact Pu.assign rfl) rfl ?_
    | refine Sq.finH (n := 6) ok hm (by repeat (first
    | exact Keep.nil
    | apply Keep.keep rfl)) ?_))
  refine Sq.pu ok hm Want.none (Pu.addM (a := x) (b := 1) rfl rfl) rfl ?_
  refine Sq.pu ok hm Want.none (Pu.mulM (a := (x + 1) % 18446744073709551616) (b := 11400714819323198485) rfl rfl) rfl ?_
  refine Sq.pu ok hm Want.none (Pu.addR (a := s) (z0N s x) rfl rfl rfl) rfl ?_
  generalize z0N s x = z0 at h0 h1 h2 ⊢
  (repeat (first
    | refine Ex.seq ok hm ?_
    | refine Ex.region ok hm ?_
    | refine Sq.pu ok hm Want.none (by first
    | exact Pu.move rfl
    | exact Pu.assign rfl
    | exact Pu.xorN rfl rfl (by simp only [InR]; omega) (by simp only [InR]; omega)
    | exact Pu.shrN rfl rfl (by simp only [InR]; omega)) rfl ?_
    | refine Sq.finH (n := 6) ok hm (by repeat (first
    | exact Keep.nil
    | apply Keep.drop rfl
    | apply Keep.keep rfl)) ?_))
  refine Sq.pu ok hm Want.none (Pu.mulR (a := z0 ^^^ z0 / 2 ^ 30) (b := 13787848793156543929) (z1N z0) rfl rfl rfl) rfl ?_
  generalize z1N z0 = z1 at h1 h2 ⊢
  (repeat (first
    | refine Ex.seq ok hm ?_
    | refine Ex.region ok hm ?_
    | refine Sq.pu ok hm Want.none (by first
    | exact Pu.move rfl
    | exact Pu.assign rfl
    | exact Pu.xorN rfl rfl (by simp only [InR]; omega) (by simp only [InR]; omega)
    | exact Pu.shrN rfl rfl (by simp only [InR]; omega)) rfl ?_
    | refine Sq.finH (n := 6) ok hm (by repeat (first
    | exact Keep.nil
    | apply Keep.drop rfl
    | apply Keep.keep rfl)) ?_))
  refine Sq.pu ok hm Want.none (Pu.mulR (a := z1 ^^^ z1 / 2 ^ 27) (b := 10723151780598845931) (z2N z1) rfl rfl rfl) rfl ?_
  generalize z2N z1 = z2 at h2 ⊢
  (repeat (first
    | refine Ex.seq ok hm ?_
    | refine Ex.region ok hm ?_
    | refine Sq.pu ok hm Want.none (by first
    | exact Pu.move rfl
    | exact Pu.assign rfl
    | exact Pu.xorN rfl rfl (by simp only [InR]; omega) (by simp only [InR]; omega)
    | exact Pu.shrN rfl rfl (by simp only [InR]; omega)) rfl ?_
    | refine Sq.finH (n := 6) ok hm (by repeat (first
    | exact Keep.nil
    | apply Keep.drop rfl
    | apply Keep.keep rfl)) ?_
    | refine Ex.ret ok hm ?_))
  exact ⟨_, .tmp rfl .nil, rfl, rfl⟩

set_option maxHeartbeats 4000000 in
theorem RHash_ok {ro : Nat} {M : AM} {s x : Nat} (hs : s < 18446744073709551616) (hx : x < 18446744073709551616) :
    FnC Try.prog tables ro 18 [.int .u64 (s : Int), .int .u64 (x : Int)] M (fun v M' => v = .int .u64 (hashN s x : Nat) ∧ M' = M) := by
  refine FnC.body (nt := 25) ok hm fn18 rfl rfl ?_
  rw [hashN_eq]
  have h0 := z0N_lt s x
  have h1 := z1N_lt (z0N s x)
  have h2 := z2N_lt (z1N (z0N s x))
  (repeat (first
    | refine Ex.seq ok hm ?_
    | refine Ex.region ok hm ?_
    | refine Sq.pu ok hm Want.none (by first
    | exact Pu.move rfl
    | exact Pu.assign rfl) rfl ?_
    | refine Sq.finH (n := 6) ok hm (by repeat (first
    | exact Keep.nil
    | apply Keep.keep rfl)) ?_))
  refine Sq.pu ok hm Want.none (Pu.addM (a := x) (b := 1) rfl rfl) rfl ?_
  refine Sq.pu ok hm Want.none (Pu.mulM (a := (x + 1) % 18446744073709551616) (b := 11400714819323198485) rfl rfl) rfl ?_
  refine Sq.pu ok hm Want.none (Pu.addR (a := s) (z0N s x) rfl rfl rfl) rfl ?_
  generalize z0N s x = z0 at h0 h1 h2 ⊢
  (repeat (first
    | refine Ex.seq ok hm ?_
    | refine Ex.region ok hm ?_
    | refine Sq.pu ok hm Want.none (by first
    | exact Pu.move rfl
    | exact Pu.assign rfl
    | exact Pu.xorN rfl rfl (by simp only [InR]; omega) (by simp only [InR]; omega)
    | exact Pu.shrN rfl rfl (by simp only [InR]; omega)) rfl ?_
    | refine Sq.finH (n := 6) ok hm (by repeat (first
    | exact Keep.nil
    | apply Keep.drop rfl
    | apply Keep.keep rfl)) ?_))
  refine Sq.pu ok hm Want.none (Pu.mulR (a := z0 ^^^ z0 / 2 ^ 30) (b := 13787848793156543929) (z1N z0) rfl rfl rfl) rfl ?_
  generalize z1N z0 = z1 at h1 h2 ⊢
  (repeat (first
    | refine Ex.seq ok hm ?_
    | refine Ex.region ok hm ?_
    | refine Sq.pu ok hm Want.none (by first
    | exact Pu.move rfl
    | exact Pu.assign rfl
    | exact Pu.xorN rfl rfl (by simp only [InR]; omega) (by simp only [InR]; omega)
    | exact Pu.shrN rfl rfl (by simp only [InR]; omega)) rfl ?_
    | refine Sq.finH (n := 6) ok hm (by repeat (first
    | exact Keep.nil
    | apply Keep.drop rfl
    | apply Keep.keep rfl)) ?_))
  refine Sq.pu ok hm Want.none (Pu.mulR (a := z1 ^^^ z1 / 2 ^ 27) (b := 10723151780598845931) (z2N z1) rfl rfl rfl) rfl ?_
  generalize z2N z1 = z2 at h2 ⊢
  (repeat (first
    | refine Ex.seq ok hm ?_
    | refine Ex.region ok hm ?_
    | refine Sq.pu ok hm Want.none (by first
    | exact Pu.move rfl
    | exact Pu.assign rfl
    | exact Pu.xorN rfl rfl (by simp only [InR]; omega) (by simp only [InR]; omega)
    | exact Pu.shrN rfl rfl (by simp only [InR]; omega)) rfl ?_
    | refine Sq.finH (n := 6) ok hm (by repeat (first
    | exact Keep.nil
    | apply Keep.drop rfl
    | apply Keep.keep rfl)) ?_
    | refine Ex.ret ok hm ?_))
  exact ⟨_, .tmp rfl .nil, rfl, rfl⟩

def tab : List UInt8 := [0, 1, 2, 2, 3, 3, 3, 3, 4, 4, 4, 4, 4, 4, 4, 4, 5, 5, 5, 5, 5, 5, 5, 5, 5, 5, 5, 5, 5, 5, 5, 5, 6, 6, 6, 6, 6, 6, 6, 6, 6, 6, 6, 6, 6, 6, 6, 6, 6, 6, 6, 6, 6, 6, 6, 6, 6, 6, 6, 6, 6, 6, 6, 6, 7, 7, 7, 7, 7, 7, 7, 7, 7, 7, 7, 7, 7, 7, 7, 7, 7, 7, 7, 7, 7, 7, 7, 7, 7, 7, 7, 7, 7, 7, 7, 7, 7, 7, 7, 7, 7, 7, 7, 7, 7, 7, 7, 7, 7, 7, 7, 7, 7, 7, 7, 7, 7, 7, 7, 7, 7, 7, 7, 7, 7, 7, 7, 7, 8, 8, 8, 8, 8, 8, 8, 8, 8, 8, 8, 8, 8, 8, 8, 8, 8, 8, 8, 8, 8, 8, 8, 8, 8, 8, 8, 8, 8, 8, 8, 8, 8, 8, 8, 8, 8, 8, 8, 8, 8, 8, 8, 8, 8, 8, 8, 8, 8, 8, 8, 8, 8, 8, 8, 8, 8, 8, 8, 8, 8, 8, 8, 8, 8, 8, 8, 8, 8, 8, 8, 8, 8, 8, 8, 8, 8, 8, 8, 8, 8, 8, 8, 8, 8, 8, 8, 8, 8, 8, 8, 8, 8, 8, 8, 8, 8, 8, 8, 8, 8, 8, 8, 8, 8, 8, 8, 8, 8, 8, 8, 8, 8, 8, 8, 8, 8, 8, 8, 8, 8, 8, 8, 8, 8, 8, 8, 8]
theorem tab_all : ((List.range 256).all fun x => (tab.getD x 0).toNat == len64 x) = true := by decide +kernel
theorem tab_eq (x : Nat) (h : x < 256) : (tab.getD x 0).toNat = len64 x := by
  have := List.all_eq_true.1 tab_all x (List.mem_range.2 h)
  simpa using this
set_option maxRecDepth 20000 in
set_option maxHeartbeats 8000000 in
theorem Len64_ok {ro : Nat} {M : AM} {n : Nat} (hn : n < 18446744073709551616) :
    FnC Try.prog tables ro 31 [.int .u64 (n : Int)] M (fun x M' => x = .int .i64 (len64 n : Nat) ∧ M' = M) := by
  refine FnC.body (nt := 25) ok hm fn31 rfl rfl ?_
  (repeat (first
    | refine Ex.seq ok hm ?_
    | refine Ex.region ok hm ?_
    | refine Sq.pu ok hm Want.none (by first
    | exact Pu.move rfl
    | exact Pu.assign rfl
    | exact Pu.geqI rfl rfl) rfl ?_
    | refine Sq.finH (n := 3) ok hm (by repeat (first
    | exact Keep.nil
    | apply Keep.drop rfl
    | apply Keep.keep rfl)) ?_))
  refine Ex.cut [(0, .int .u64 ((if 4294967296 ≤ n then n / 2 ^ 32 else n : Nat) : Int)), (2, .int .i64 ((if 4294967296 ≤ n then 32 else 0 : Nat) : Int))] (fun M' => M' = M) ?_ ?_
  · by_cases h : 4294967296 ≤ n
    · rw [if_pos h, if_pos h]
      (repeat (first
    | refine Ex.seq ok hm ?_
    | refine Ex.region ok hm ?_
    | refine Sq.pu ok hm Want.none (by first
    | exact Pu.move rfl
    | exact Pu.assign rfl
    | exact Pu.shrN rfl rfl (by simp only [InR]; omega)) rfl ?_
    | refine Sq.finH (n := 3) ok hm (by repeat (first
    | exact Keep.nil
    | apply Keep.drop rfl
    | apply Keep.keep rfl)) ?_
    | refine Ex.condT ok hm rfl (by first
    | rfl
    | exact decide_eq_true (by omega)) ?_))
      exact ⟨rfl, ⟨rfl, rfl, trivial⟩, rfl⟩
    · rw [if_neg h, if_neg h]
      (repeat (first
    | refine Ex.skip ok hm ?_
    | refine Ex.condF ok hm rfl (by first
    | rfl
    | exact decide_eq_false (by omega)) ?_))
      exact ⟨rfl, ⟨rfl, rfl, trivial⟩, rfl⟩
  rintro M0 rfl
  obtain ⟨n1, k1, e1, hn1, hk1, q1, q2⟩ : ∃ n1 k1, len64 n = k1 + len64 n1 ∧ n1 < 4294967296 ∧ k1 ≤ 32 ∧ (if 4294967296 ≤ n then n / 2 ^ 32 else n) = n1 ∧ (if 4294967296 ≤ n then 32 else 0) = k1 := by
    by_cases h : 4294967296 ≤ n
    · exact ⟨n / 2 ^ 32, 32, len64_div n 32 h, by omega, by omega, if_pos h, if_pos h⟩
    · exact ⟨n, 0, by omega, by omega, by omega, if_neg h, if_neg h⟩
  rw [q1, q2, e1]
  clear q1 q2 e1
  (repeat (first
    | refine Ex.seq ok hm ?_
    | refine Ex.region ok hm ?_
    | refine Sq.pu ok hm Want.none (by first
    | exact Pu.move rfl
    | exact Pu.geqI rfl rfl) rfl ?_
    | refine Sq.finH (n := 3) ok hm (by repeat (first
    | exact Keep.nil
    | apply Keep.drop rfl
    | apply Keep.keep rfl)) ?_))
  refine Ex.cut [(0, .int .u64 ((if 65536 ≤ n1 then n1 / 2 ^ 16 else n1 : Nat) : Int)), (2, .int .i64 ((if 65536 ≤ n1 then k1 + 16 else k1 : Nat) : Int))] (fun M' => M' = M0) ?_ ?_
  · by_cases h : 65536 ≤ n1
    · rw [if_pos h, if_pos h]
      (repeat (first
    | refine Ex.seq ok hm ?_
    | refine Ex.region ok hm ?_
    | refine Sq.pu ok hm Want.none (by first
    | exact Pu.move rfl
    | exact Pu.assign rfl
    | exact Pu.shrN rfl rfl (by simp only [InR]; omega)
    | exact Pu.addN rfl rfl (by simp only [InR]; omega)) rfl ?_
    | refine Sq.finH (n := 3) ok hm (by repeat (first
    | exact Keep.nil
    | apply Keep.drop rfl
    | apply Keep.keep rfl)) ?_
    | refine Ex.condT ok hm rfl (by first
    | rfl
    | exact decide_eq_true (by omega)) ?_))
      exact ⟨rfl, ⟨rfl, rfl, trivial⟩, rfl⟩
    · rw [if_neg h, if_neg h]
      (repeat (first
    | refine Ex.skip ok hm ?_
    | refine Ex.condF ok hm rfl (by first
    | rfl
    | exact decide_eq_false (by omega)) ?_))
      exact ⟨rfl, ⟨rfl, rfl, trivial⟩, rfl⟩
  rintro M1 rfl
  obtain ⟨n2, k2, e2, hn2, hk2, q1, q2⟩ : ∃ n2 k2, k1 + len64 n1 = k2 + len64 n2 ∧ n2 < 65536 ∧ k2 ≤ 48 ∧ (if 65536 ≤ n1 then n1 / 2 ^ 16 else n1) = n2 ∧ (if 65536 ≤ n1 then k1 + 16 else k1) = k2 := by
    by_cases h : 65536 ≤ n1
    · exact ⟨n1 / 2 ^ 16, k1 + 16, by have := len64_div n1 16 h; omega, by omega, by omega, if_pos h, if_pos h⟩
    · exact ⟨n1, k1, rfl, by omega, by omega, if_neg h, if_neg h⟩
  rw [q1, q2, e2]
  clear q1 q2 e2
  (repeat (first
    | refine Ex.seq ok hm ?_
    | refine Ex.region ok hm ?_
    | refine Sq.pu ok hm Want.none (by first
    | exact Pu.move rfl
    | exact Pu.geqI rfl rfl) rfl ?_
    | refine Sq.finH (n := 3) ok hm (by repeat (first
    | exact Keep.nil
    | apply Keep.drop rfl
    | apply Keep.keep rfl)) ?_))
  refine Ex.cut [(0, .int .u64 ((if 256 ≤ n2 then n2 / 2 ^ 8 else n2 : Nat) : Int)), (2, .int .i64 ((if 256 ≤ n2 then k2 + 8 else k2 : Nat) : Int))] (fun M' => M' = M1) ?_ ?_
  · by_cases h : 256 ≤ n2
    · rw [if_pos h, if_pos h]
      (repeat (first
    | refine Ex.seq ok hm ?_
    | refine Ex.region ok hm ?_
    | refine Sq.pu ok hm Want.none (by first
    | exact Pu.move rfl
    | exact Pu.assign rfl
    | exact Pu.shrN rfl rfl (by simp only [InR]; omega)
    | exact Pu.addN rfl rfl (by simp only [InR]; omega)) rfl ?_
    | refine Sq.finH (n := 3) ok hm (by repeat (first
    | exact Keep.nil
    | apply Keep.drop rfl
    | apply Keep.keep rfl)) ?_
    | refine Ex.condT ok hm rfl (by first
    | rfl
    | exact decide_eq_true (by omega)) ?_))
      exact ⟨rfl, ⟨rfl, rfl, trivial⟩, rfl⟩
    · rw [if_neg h, if_neg h]
      (repeat (first
    | refine Ex.skip ok hm ?_
    | refine Ex.condF ok hm rfl (by first
    | rfl
    | exact decide_eq_false (by omega)) ?_))
      exact ⟨rfl, ⟨rfl, rfl, trivial⟩, rfl⟩
  rintro M2 rfl
  obtain ⟨n3, k3, e3, hn3, hk3, q1, q2⟩ : ∃ n3 k3, k2 + len64 n2 = k3 + len64 n3 ∧ n3 < 256 ∧ k3 ≤ 56 ∧ (if 256 ≤ n2 then n2 / 2 ^ 8 else n2) = n3 ∧ (if 256 ≤ n2 then k2 + 8 else k2) = k3 := by
    by_cases h : 256 ≤ n2
    · exact ⟨n2 / 2 ^ 8, k2 + 8, by have := len64_div n2 8 h; omega, by omega, by omega, if_pos h, if_pos h⟩
    · exact ⟨n2, k2, rfl, by omega, by omega, if_neg h, if_neg h⟩
  rw [q1, q2, e3]
  clear q1 q2 e3
  have htab := tab_eq n3 hn3
  have hl8 : len64 n3 ≤ 8 := len64_mono (k := 8) hn3
  refine Ex.seq ok hm (Ex.region ok hm ?_)
  refine Sq.pu ok hm Want.none (Pu.move rfl) rfl ?_
  refine Sq.pu ok hm Want.none (Pu.move rfl) rfl ?_
  refine Sq.pu ok hm Want.none (Pu.convN (n := (n3 : Int)) hT rfl rfl rfl (by simp only [InR]; omega)) rfl ?_
  refine Sq.pu ok hm Want.none (Pu.indexSN (l := tab) (i := n3) hT rfl rfl rfl (by show n3 < 256; omega)) rfl ?_
  rw [htab]
  (repeat (first
    | refine Sq.pu ok hm Want.none (by first
    | exact Pu.assign rfl
    | exact Pu.addN rfl rfl (by simp only [InR]; omega)
    | exact Pu.convN hT rfl rfl rfl (by simp only [InR]; omega)) rfl ?_
    | refine Sq.finH (n := 3) ok hm (by repeat (first
    | exact Keep.nil
    | apply Keep.drop rfl
    | apply Keep.keep rfl)) ?_
    | refine Ex.ret ok hm ?_))
  exact ⟨_, .tmp rfl .nil, rfl, rfl⟩

theorem Len_ok {ro : Nat} {M : AM} {n : Nat} (hn : n < 18446744073709551616) :
    FnC Try.prog tables ro 29 [.int .u64 (n : Int)] M (fun x M' => x = .int .i64 (len64 n : Nat) ∧ M' = M) := by
  refine FnC.body (nt := 8) ok hm fn29 rfl rfl ?_
  (repeat (first
    | refine Ex.seq ok hm ?_
    | refine Ex.skip ok hm ?_
    | refine Ex.region ok hm ?_
    | refine Sq.pu ok hm Want.none (by first
    | exact Pu.move rfl
    | exact Pu.assign rfl) rfl ?_
    | refine Sq.finH (n := 3) ok hm (by repeat (first
    | exact Keep.nil
    | apply Keep.keep rfl)) ?_
    | refine Ex.condF ok hm rfl (by rfl) ?_))
  refine Sq.call ok Want.none (Op1.call rfl rfl fn31) rfl (FnC.mono (Len64_ok hn) ?_)
  rintro x M1 ⟨rfl, rfl⟩
  (repeat (first
    | refine Sq.pu ok hm Want.none (by exact Pu.assign rfl) rfl ?_
    | refine Sq.finH (n := 3) ok hm (by repeat (first
    | exact Keep.nil
    | apply Keep.drop rfl
    | apply Keep.keep rfl)) ?_
    | refine Ex.ret ok hm ?_))
  exact ⟨_, .tmp rfl .nil, rfl, rfl⟩
theorem LZ_ok {ro : Nat} {M : AM} {n : Nat} (hn : n < 18446744073709551616) :
    FnC Try.prog tables ro 21 [.int .u64 (n : Int)] M (fun x M' => x = .int .i64 (64 - len64 n : Nat) ∧ M' = M) := by
  refine FnC.body (nt := 6) ok hm fn21 rfl rfl ?_
  have hl := len64_mono (n := n) (k := 64) hn
  (repeat (first
    | refine Ex.seq ok hm ?_
    | refine Ex.region ok hm ?_
    | refine Sq.pu ok hm Want.none (by first
    | exact Pu.move rfl
    | exact Pu.assign rfl) rfl ?_
    | refine Sq.finH (n := 3) ok hm (by repeat (first
    | exact Keep.nil
    | apply Keep.keep rfl)) ?_))
  refine Sq.call ok Want.none (Op1.call rfl rfl fn31) rfl (FnC.mono (Len64_ok hn) ?_)
  rintro x M1 ⟨rfl, rfl⟩
  refine Sq.pu ok hm Want.none (Pu.subZ (a := 64) (b := len64 n) (64 - len64 n) (by omega) (by simp only [InR]; omega) rfl rfl) rfl ?_
  (repeat (first
    | refine Sq.pu ok hm Want.none (by exact Pu.assign rfl) rfl ?_
    | refine Sq.finH (n := 3) ok hm (by repeat (first
    | exact Keep.nil
    | apply Keep.drop rfl
    | apply Keep.keep rfl)) ?_
    | refine Ex.ret ok hm ?_))
  exact ⟨_, .tmp rfl .nil, rfl, rfl⟩
end Go.Proofs.Ytpglehckhnencaa
/- More mathematics of the sketches: ranks bit by bit, long division, two digits of a division, sums of registers. -/
namespace Sk
set_option linter.unusedVariables false
theorem mod_bit (h k i : Nat) (hi : i < k) : h % 2 ^ k / 2 ^ i % 2 = h / 2 ^ i % 2 := by
  have h1 := Nat.testBit_mod_two_pow h k i
  rw [Nat.testBit_eq_decide_div_mod_eq, Nat.testBit_eq_decide_div_mod_eq] at h1
  simp only [hi, decide_true, Bool.true_and, decide_eq_decide] at h1
  omega
theorem rank_step0 {p h i : Nat} (hi : i < 64 - p) (hlo : h % 2 ^ (64 - p) < 2 ^ (i + 1)) (hb : h / 2 ^ i % 2 = 0) : h % 2 ^ (64 - p) < 2 ^ i := by
  have h1 := mod_bit h (64 - p) i hi
  rw [hb] at h1
  have h2 : h % 2 ^ (64 - p) / 2 ^ i < 2 := by
    rw [Nat.div_lt_iff_lt_mul (Nat.two_pow_pos i), Nat.mul_comm]; rwa [Nat.pow_succ] at hlo
  have h3 : h % 2 ^ (64 - p) / 2 ^ i = 0 := by
    generalize h % 2 ^ (64 - p) / 2 ^ i = z at h1 h2 ⊢
    omega
  exact (Nat.div_eq_zero_iff_lt (Nat.two_pow_pos i)).1 h3
theorem rank_step1 {p h i : Nat} (hi : i < 64 - p) (hlo : h % 2 ^ (64 - p) < 2 ^ (i + 1)) (hb : h / 2 ^ i % 2 ≠ 0) : rankN p h = 64 - p - i := by
  have h1 := mod_bit h (64 - p) i hi
  have h2 : 1 ≤ h % 2 ^ (64 - p) / 2 ^ i := by
    rcases Nat.eq_zero_or_pos (h % 2 ^ (64 - p) / 2 ^ i) with e | e
    · rw [e] at h1; exact absurd h1.symm hb
    · exact e
  have h3 : 2 ^ i ≤ h % 2 ^ (64 - p) := by
    have := (Nat.le_div_iff_mul_le (Nat.two_pow_pos i)).1 h2; omega
  have h4 : len64 (h % 2 ^ (64 - p)) = i + 1 := len64_of hlo (fun _ => h3) (fun e => by have := Nat.two_pow_pos i; omega)
  unfold rankN
  rw [h4]; omega
theorem rank_end {p h : Nat} (hp : p ≤ 64) (hlo : h % 2 ^ (64 - p) < 2 ^ 0) : rankN p h = 65 - p := by
  have : h % 2 ^ (64 - p) = 0 := by simpa using hlo
  unfold rankN; rw [this]; rfl
theorem own_rank {p h : Nat} (hp : p ≤ 16) : 1 + min (64 - len64 (h * 2 ^ p % 18446744073709551616)) (64 - p) = rankN p h := by
  have e : h * 2 ^ p % 18446744073709551616 = h % 2 ^ (64 - p) * 2 ^ p := by
    have h1 : (18446744073709551616 : Nat) = 2 ^ (64 - p) * 2 ^ p := by rw [← Nat.pow_add, show 64 - p + p = 64 by omega]
    rw [h1, Nat.mul_mod_mul_right]
  rw [e]
  unfold rankN
  have hl := len64_mono (Nat.mod_lt h (Nat.two_pow_pos (64 - p)))
  generalize h % 2 ^ (64 - p) = lo at hl ⊢
  by_cases hz : lo = 0
  · subst hz
    rw [Nat.zero_mul, len64_zero]; omega
  · rw [len64_mul lo p hz]; omega

/-! ### Long division -/
/-- The whole part of the first bits of 2^40 x by s, and what is left. -/
theorem div_bit {Y s : Nat} (hs : 0 < s) (i : Nat) : Y / 2 ^ i / s = 2 * (Y / 2 ^ (i + 1) / s) + (if s ≤ 2 * (Y / 2 ^ (i + 1) % s) + Y / 2 ^ i % 2 then 1 else 0) ∧
    Y / 2 ^ i % s = 2 * (Y / 2 ^ (i + 1) % s) + Y / 2 ^ i % 2 - (if s ≤ 2 * (Y / 2 ^ (i + 1) % s) + Y / 2 ^ i % 2 then s else 0) := by
  have h1 : Y / 2 ^ (i + 1) = Y / 2 ^ i / 2 := by rw [Nat.pow_succ, Nat.div_div_eq_div_mul]
  rw [h1]
  generalize Y / 2 ^ i = Z
  have h2 : Z = 2 * (Z / 2) + Z % 2 := by omega
  have h3 := Nat.div_add_mod (Z / 2) s
  have h4 := Nat.mod_lt (Z / 2) hs
  generalize hq : Z / 2 / s = q at h3 ⊢
  generalize hr : Z / 2 % s = r at h3 h4 ⊢
  have h5 : Z = s * (2 * q) + (2 * r + Z % 2) := by
    rw [Nat.mul_left_comm]; omega
  have hb : Z % 2 < 2 := Nat.mod_lt _ (by decide)
  generalize Z % 2 = b at h5 hb ⊢
  subst h5
  by_cases hc : s ≤ 2 * r + b
  · rw [if_pos hc, if_pos hc]
    have e : s * (2 * q) + (2 * r + b) = s * (2 * q + 1) + (2 * r + b - s) := by rw [Nat.mul_succ]; omega
    rw [e, Nat.mul_add_div hs, Nat.mul_add_mod, Nat.div_eq_of_lt (by omega), Nat.mod_eq_of_lt (by omega)]
    exact ⟨rfl, rfl⟩
  · rw [if_neg hc, if_neg hc, Nat.mul_add_div hs, Nat.mul_add_mod, Nat.div_eq_of_lt (by omega), Nat.mod_eq_of_lt (by omega)]
    exact ⟨rfl, rfl⟩
/-- The bits of 2^40 x. -/
theorem bit40 (x i : Nat) (h : 40 ≤ i) : x * 2 ^ 40 / 2 ^ i % 2 = x / 2 ^ (i - 40) % 2 := by
  obtain ⟨k, rfl⟩ := Nat.exists_eq_add_of_le h
  rw [Nat.pow_add, Nat.mul_comm x, Nat.mul_div_mul_left _ _ (Nat.two_pow_pos 40), Nat.add_sub_cancel_left]
theorem bit40_0 (x i : Nat) (h : i < 40) : x * 2 ^ 40 / 2 ^ i % 2 = 0 := by
  obtain ⟨k, hk⟩ := Nat.exists_eq_add_of_lt h
  rw [hk, show i + k + 1 = k + 1 + i by omega, Nat.pow_add, ← Nat.mul_assoc, Nat.mul_div_cancel _ (Nat.two_pow_pos i), Nat.pow_succ, ← Nat.mul_assoc, Nat.mul_mod_left]

/-! ### A digit of a division -/
/-- Knuth's digit: q is not too small; when it may stay it is the one. -/
theorem digit {u d yn1 yn0 q rh : Nat} (hq : u = q * yn1 + rh) (hy : 0 < yn1 * 4294967296 + yn0) (hge : (u * 4294967296 + d) / (yn1 * 4294967296 + yn0) ≤ q)
    (hc : q * yn0 ≤ 4294967296 * rh + d) : q = (u * 4294967296 + d) / (yn1 * 4294967296 + yn0) := by
  refine Nat.le_antisymm ((Nat.le_div_iff_mul_le hy).2 ?_) hge
  rw [Nat.mul_add, ← Nat.mul_assoc]
  have : u * 4294967296 = q * yn1 * 4294967296 + rh * 4294967296 := by rw [hq, Nat.add_mul]
  omega
theorem digit_less {u d yn1 yn0 q rh : Nat} (hq : u = q * yn1 + rh) (hy : 0 < yn1 * 4294967296 + yn0) (hc : 4294967296 * rh + d < q * yn0) : (u * 4294967296 + d) / (yn1 * 4294967296 + yn0) < q := by
  rw [Nat.div_lt_iff_lt_mul hy, Nat.mul_add, ← Nat.mul_assoc]
  have : u * 4294967296 = q * yn1 * 4294967296 + rh * 4294967296 := by rw [hq, Nat.add_mul]
  omega
theorem digit_small {u d y : Nat} (hd : d < 4294967296) (hu : u < y) : (u * 4294967296 + d) / y < 4294967296 := by
  rw [Nat.div_lt_iff_lt_mul (by omega)]
  have : (u + 1) * 4294967296 ≤ y * 4294967296 := Nat.mul_le_mul_right _ hu
  omega
theorem digit_first {u d yn1 yn0 : Nat} (h1 : 0 < yn1) (hd : d < 4294967296) : (u * 4294967296 + d) / (yn1 * 4294967296 + yn0) ≤ u / yn1 := by
  have h2 : (u * 4294967296 + d) / (yn1 * 4294967296 + yn0) ≤ (u * 4294967296 + d) / (yn1 * 4294967296) := Nat.div_le_div_left (by omega) (by omega)
  have h3 : (u * 4294967296 + d) / (yn1 * 4294967296) = u / yn1 := by
    rw [Nat.mul_comm yn1, ← Nat.div_div_eq_div_mul, show (u * 4294967296 + d) / 4294967296 = u by omega]
  rwa [h3] at h2
end Sk
namespace Sk
theorem div_norm {hi lo y s : Nat} (hs : s ≤ 63) (hlo : lo < 18446744073709551616) (hy : hi < y) :
    hi * 2 ^ s + lo / 2 ^ (64 - s) < y * 2 ^ s ∧ ((hi * 2 ^ s + lo / 2 ^ (64 - s)) * 18446744073709551616 + lo * 2 ^ s % 18446744073709551616) / (y * 2 ^ s) = (hi * 18446744073709551616 + lo) / y ∧ lo / 2 ^ (64 - s) < 2 ^ s := by
  have hp := Nat.two_pow_pos s
  have h64 : (18446744073709551616 : Nat) = 2 ^ (64 - s) * 2 ^ s := by rw [← Nat.pow_add, show 64 - s + s = 64 by omega]
  have h1 : lo * 2 ^ s / 18446744073709551616 = lo / 2 ^ (64 - s) := by rw [h64, Nat.mul_div_mul_right _ _ hp]
  have h2 : lo / 2 ^ (64 - s) < 2 ^ s := by
    rw [Nat.div_lt_iff_lt_mul (Nat.two_pow_pos _), Nat.mul_comm, ← h64]; exact hlo
  have h3 := Nat.div_add_mod (lo * 2 ^ s) 18446744073709551616
  rw [h1] at h3
  have h4 : (hi * 2 ^ s + lo / 2 ^ (64 - s)) * 18446744073709551616 + lo * 2 ^ s % 18446744073709551616 = (hi * 18446744073709551616 + lo) * 2 ^ s := by
    rw [Nat.add_mul, Nat.add_mul, Nat.mul_right_comm hi]; omega
  refine ⟨?_, ?_, h2⟩
  · have h5 : (hi + 1) * 2 ^ s ≤ y * 2 ^ s := Nat.mul_le_mul_right _ hy
    rw [Nat.succ_mul] at h5; omega
  · rw [h4, Nat.mul_div_mul_right _ _ hp]
theorem two_digits' {n Y q r B d0 : Nat} (hY : 0 < Y) (h : Y * q + r = n) : q * B + (r * B + d0) / Y = (n * B + d0) / Y := by
  have e : n * B + d0 = Y * (q * B) + (r * B + d0) := by
    rw [← h, Nat.add_mul, Nat.mul_assoc, Nat.add_assoc]
  rw [e, Nat.mul_add_div hY]
theorem two_lit (u d1 d0 : Nat) : (u * 4294967296 + d1) * 4294967296 + d0 = u * 18446744073709551616 + (d1 * 4294967296 + d0) := by omega
theorem two_digits {u d1 d0 Y : Nat} (hY : 0 < Y) : (u * 4294967296 + d1) / Y * 4294967296 + ((u * 4294967296 + d1) % Y * 4294967296 + d0) / Y = (u * 18446744073709551616 + (d1 * 4294967296 + d0)) / Y :=
  (two_digits' hY (Nat.div_add_mod _ _)).trans (congrArg (· / Y) (two_lit u d1 d0))
theorem or_eq {a b s : Nat} (h : b < 2 ^ s) : a * 2 ^ s ||| b = a * 2 ^ s + b := by
  rw [Nat.mul_comm, Nat.two_pow_add_eq_or_of_lt h]
end Sk
/- N -/
namespace Go.Proofs.Ytpglehckhnencaa
open Go.Wvm Sk
set_option linter.unusedVariables false
set_option linter.unusedSimpArgs false

abbrev u64 (n : Nat) : Value := .int .u64 (n : Int)
abbrev i64 (n : Int) : Value := .int .i64 n
set_option maxHeartbeats 8000000 in
theorem divided_ok {ro : Nat} {M : AM} {x s : Nat} (hx : x < 8589934592) (hs0 : 0 < s) (hs : s < 144115188075855872) (hq : x * 2 ^ 40 / s < 9223372036854775808) :
    FnC Try.prog tables ro 28 [u64 x, u64 s] M (fun v M' => v = u64 (x * 2 ^ 40 / s) ∧ M' = M) := by
  refine FnC.body (nt := 37) ok hm fn28 rfl rfl ?_
  (repeat (first
    | refine Ex.seq ok hm ?_
    | refine Ex.block ok hm ?_
    | refine Ex.region ok hm ?_
    | refine Sq.pu ok hm Want.none (by exact Pu.assign rfl) rfl ?_
    | refine Sq.finH (n := 8) ok hm (by repeat (first
    | exact Keep.nil
    | apply Keep.keep rfl)) ?_))
  refine Ex.loop ?_
  refine Lp.inv ok hm (α := Nat × Int × Nat × Nat)
    (fun y E M' => E = [(7, i64 y.2.1), (5, u64 y.2.2.1), (6, u64 y.2.2.2), (0, u64 x), (1, u64 s)] ∧ y.2.1 = (y.1 : Int) - 1 ∧ y.1 ≤ 73 ∧ y.2.2.1 = x * 2 ^ 40 / 2 ^ y.1 / s ∧ y.2.2.2 = x * 2 ^ 40 / 2 ^ y.1 % s ∧ M' = M)
    (fun y => y.1) ?_ (73, 72, 0, 0) [(7, i64 72), (5, u64 0), (6, u64 0), (0, u64 x), (1, u64 s)] ⟨rfl, rfl, rfl, rfl, rfl, trivial⟩ ⟨rfl, rfl, Nat.le_refl _, ?_, ?_, rfl⟩
  · intro ⟨j, z, q, r⟩ E M1 ⟨hE, hz, hj, hqe, hre, hM⟩
    simp only at hE hz hj hqe hre
    subst hE hM
    by_cases hend : j = 0
    · subst hend
      have hneg : z = -1 := by omega
      subst hneg
      rw [Nat.pow_zero, Nat.div_one] at hqe
      rw [← hqe]
      (repeat (first
    | refine Ex.seq ok hm ?_
    | refine Ex.region ok hm ?_
    | refine Sq.pu ok hm Want.none (by first
    | exact Pu.move rfl
    | exact Pu.assign rfl
    | exact Pu.geqI rfl rfl) rfl ?_
    | refine Sq.finH (n := 8) ok hm (by repeat (first
    | exact Keep.nil
    | apply Keep.drop rfl
    | apply Keep.keep rfl)) ?_
    | refine Ex.condF ok hm rfl (by rfl) ?_
    | refine Ex.ret ok hm ?_
    | refine Ex.exit ok hm ?_))
      exact ⟨_, .tmp rfl .nil, rfl, rfl⟩
    · obtain ⟨i, rfl⟩ : ∃ i, j = i + 1 := ⟨j - 1, by omega⟩
      obtain rfl : z = (i : Int) := by omega
      have hstep := div_bit (Y := x * 2 ^ 40) hs0 i
      rw [← hqe, ← hre] at hstep
      have hr : r < s := by rw [hre]; exact Nat.mod_lt _ hs0
      have hb : x * 2 ^ 40 / 2 ^ i % 2 = if 40 ≤ i then x / 2 ^ (i - 40) % 2 else 0 := by
        split
        · rename_i h; exact bit40 x i h
        · rename_i h; exact bit40_0 x i (by omega)
      have hb2 : x * 2 ^ 40 / 2 ^ i % 2 < 2 := Nat.mod_lt _ (by decide)
      have hqq : x * 2 ^ 40 / 2 ^ i / s ≤ x * 2 ^ 40 / s := Nat.div_le_div_right (Nat.div_le_self _ _)
      rw [hstep.1] at hqq
      generalize x * 2 ^ 40 / 2 ^ i % 2 = b at hstep hb hb2 hqq
      generalize x * 2 ^ 40 / s = Q at hq hqq ⊢
      (repeat (first
    | refine Ex.seq ok hm ?_
    | refine Ex.block ok hm ?_
    | refine Ex.skip ok hm ?_
    | refine Ex.region ok hm ?_
    | refine Sq.pu ok hm Want.none (by first
    | exact Pu.move rfl
    | exact Pu.geqI rfl rfl) rfl ?_
    | refine Sq.finH (n := 8) ok hm (by repeat (first
    | exact Keep.nil
    | apply Keep.drop rfl
    | apply Keep.keep rfl)) ?_
    | refine Ex.condT ok hm rfl (by rfl) ?_))
      refine Sq.pu ok hm Want.none (Pu.mulN (a := 2) (b := r) rfl rfl (by simp only [InR]; omega)) rfl ?_
      refine Sq.pu ok hm Want.none (Pu.assign rfl) rfl ?_
      refine Sq.finH (n := 8) ok hm (by repeat (first
    | exact Keep.nil
    | apply Keep.drop rfl
    | apply Keep.keep rfl)) ?_
      refine Ex.seq ok hm ?_
      refine Ex.cut [(7, i64 i), (5, u64 q), (6, u64 (2 * r + b)), (0, u64 x), (1, u64 s)] (fun M' => M' = M1) ?_ ?_
      · by_cases h40 : 40 ≤ i
        · rw [if_pos h40] at hb
          refine Ex.seq ok hm (Ex.region ok hm ?_)
          (repeat (first
    | refine Sq.pu ok hm Want.none (by first
    | exact Pu.move rfl
    | exact Pu.geqI rfl rfl) rfl ?_
    | refine Sq.pu ok hm (by exact Want.yes rfl rfl rfl (by exact decide_eq_true (by omega))) (by exact Pu.move rfl) rfl ?_))
          refine Sq.pu ok hm (Want.yes rfl rfl rfl (by first | rfl | (simp; omega))) (Pu.subZ (k := .i64) (a := i) (b := 40) (i - 40) (by omega) (by simp only [InR]; omega) rfl rfl) rfl ?_
          by_cases hone : x / 2 ^ (i - 40) % 2 = 1
          · rw [hone] at hb
            subst hb
            have hd : ((x / 2 ^ (i - 40) % 2 : Nat) : Int) = 1 := by omega
            (repeat (first
    | refine Ex.region ok hm ?_
    | refine Sq.pu ok hm Want.none (by first
    | exact Pu.move rfl
    | exact Pu.assign rfl
    | exact Pu.shrN rfl rfl (by simp only [InR]; omega)
    | exact Pu.remN rfl rfl (by decide)
    | exact Pu.addN rfl rfl (by simp only [InR]; omega)
    | exact Pu.eqlI rfl rfl
    | exact Pu.pickT rfl (by first
    | rfl
    | exact decide_eq_true (by omega)) rfl) rfl ?_
    | refine Sq.pu ok hm (by exact Want.yes rfl rfl rfl (by first
    | rfl
    | exact decide_eq_true (by omega))) (by first
    | exact Pu.shrN rfl rfl (by simp only [InR]; omega)
    | exact Pu.remN rfl rfl (by decide)
    | exact Pu.eqlI rfl rfl) rfl ?_
    | refine Sq.finH (n := 8) ok hm (by repeat (first
    | exact Keep.nil
    | apply Keep.drop rfl
    | apply Keep.keep rfl)) ?_
    | refine Ex.condT ok hm rfl (by first
    | rfl
    | exact decide_eq_true (by omega)) ?_))
            exact ⟨rfl, ⟨rfl, rfl, rfl, rfl, rfl, trivial⟩, rfl⟩
          · have hz0 : b = 0 := by omega
            subst hz0
            have hd : ((x / 2 ^ (i - 40) % 2 : Nat) : Int) ≠ 1 := by omega
            (repeat (first
    | refine Ex.skip ok hm ?_
    | refine Sq.pu ok hm Want.none (by first
    | exact Pu.shrN rfl rfl (by simp only [InR]; omega)
    | exact Pu.remN rfl rfl (by decide)
    | exact Pu.eqlI rfl rfl
    | exact Pu.pickT rfl (by first
    | rfl
    | exact decide_eq_true (by omega)) rfl) rfl ?_
    | refine Sq.pu ok hm (by exact Want.yes rfl rfl rfl (by first
    | rfl
    | exact decide_eq_true (by omega))) (by first
    | exact Pu.shrN rfl rfl (by simp only [InR]; omega)
    | exact Pu.remN rfl rfl (by decide)
    | exact Pu.eqlI rfl rfl) rfl ?_
    | refine Sq.finH (n := 8) ok hm (by repeat (first
    | exact Keep.nil
    | apply Keep.drop rfl
    | apply Keep.keep rfl)) ?_
    | refine Ex.condF ok hm rfl (by first
    | rfl
    | exact decide_eq_false (by omega)) ?_))
            exact ⟨rfl, ⟨rfl, rfl, rfl, rfl, rfl, trivial⟩, rfl⟩
        · rw [if_neg h40] at hb
          subst hb
          (repeat (first
    | refine Ex.seq ok hm ?_
    | refine Ex.skip ok hm ?_
    | refine Ex.region ok hm ?_
    | refine Sq.pu ok hm Want.none (by first
    | exact Pu.move rfl
    | exact Pu.geqI rfl rfl
    | exact Pu.pickF rfl (by first
    | rfl
    | exact decide_eq_false (by omega)) rfl) rfl ?_
    | refine Sq.skip ok hm (by exact Want.no rfl rfl rfl (by first
    | rfl
    | exact decide_eq_false (by omega))) rfl ?_
    | refine Sq.finH (n := 8) ok hm (by repeat (first
    | exact Keep.nil
    | apply Keep.drop rfl
    | apply Keep.keep rfl)) ?_
    | refine Ex.condF ok hm rfl (by rfl) ?_))
          exact ⟨rfl, ⟨rfl, rfl, rfl, rfl, rfl, trivial⟩, rfl⟩
      · rintro M2 rfl
        (repeat (first
    | refine Ex.seq ok hm ?_
    | refine Ex.region ok hm ?_
    | refine Sq.pu ok hm Want.none (by exact Pu.move rfl) rfl ?_))
        refine Sq.pu ok hm Want.none (Pu.mulN (a := 2) (b := q) rfl rfl (by simp only [InR]; omega)) rfl ?_
        by_cases hge : s ≤ 2 * r + b
        · rw [if_pos hge, if_pos hge] at hstep
          rw [if_pos hge] at hqq
          (repeat (first
    | refine Ex.seq ok hm ?_
    | refine Ex.region ok hm ?_
    | refine Sq.pu ok hm Want.none (by first
    | exact Pu.move rfl
    | exact Pu.assign rfl
    | exact Pu.geqI rfl rfl) rfl ?_
    | refine Sq.finH (n := 8) ok hm (by repeat (first
    | exact Keep.nil
    | apply Keep.drop rfl
    | apply Keep.keep rfl)) ?_
    | refine Ex.condT ok hm rfl (by first
    | rfl
    | exact decide_eq_true (by omega)) ?_))
          refine Sq.pu ok hm Want.none (Pu.subZ (k := .u64) (a := 2 * r + b) (b := s) (2 * r + b - s) (by omega) (by simp only [InR]; omega) rfl rfl) rfl ?_
          (repeat (first
    | refine Ex.region ok hm ?_
    | refine Sq.pu ok hm Want.none (by first
    | exact Pu.move rfl
    | exact Pu.assign rfl
    | exact Pu.addN rfl rfl (by simp only [InR]; omega)) rfl ?_
    | refine Sq.finH (n := 8) ok hm (by repeat (first
    | exact Keep.nil
    | apply Keep.drop rfl
    | apply Keep.keep rfl)) ?_))
          refine Sq.pu ok hm Want.none (Pu.sub (k := .i64) rfl rfl (by simp only [InR]; omega)) rfl ?_
          (repeat (first
    | refine Sq.pu ok hm Want.none (by exact Pu.assign rfl) rfl ?_
    | refine Sq.finH (n := 8) ok hm (by repeat (first
    | exact Keep.nil
    | apply Keep.drop rfl
    | apply Keep.keep rfl)) ?_))
          exact ⟨(i, (i : Int) - 1, 2 * q + 1, 2 * r + b - s), [(7, i64 ((i : Int) - 1)), (5, u64 (2 * q + 1)), (6, u64 (2 * r + b - s)), (0, u64 x), (1, u64 s)], Nat.lt_succ_self i, ⟨rfl, rfl, rfl, rfl, rfl, trivial⟩, rfl, rfl, by simp only; omega, hstep.1.symm, hstep.2.symm, rfl⟩
        · rw [if_neg hge, if_neg hge] at hstep
          rw [if_neg hge] at hqq
          (repeat (first
    | refine Ex.seq ok hm ?_
    | refine Ex.skip ok hm ?_
    | refine Ex.region ok hm ?_
    | refine Sq.pu ok hm Want.none (by first
    | exact Pu.move rfl
    | exact Pu.assign rfl
    | exact Pu.geqI rfl rfl) rfl ?_
    | refine Sq.finH (n := 8) ok hm (by repeat (first
    | exact Keep.nil
    | apply Keep.drop rfl
    | apply Keep.keep rfl)) ?_
    | refine Ex.condF ok hm rfl (by first
    | rfl
    | exact decide_eq_false (by omega)) ?_))
          refine Sq.pu ok hm Want.none (Pu.sub (k := .i64) rfl rfl (by simp only [InR]; omega)) rfl ?_
          (repeat (first
    | refine Sq.pu ok hm Want.none (by exact Pu.assign rfl) rfl ?_
    | refine Sq.finH (n := 8) ok hm (by repeat (first
    | exact Keep.nil
    | apply Keep.drop rfl
    | apply Keep.keep rfl)) ?_))
          exact ⟨(i, (i : Int) - 1, 2 * q, 2 * r + b), [(7, i64 ((i : Int) - 1)), (5, u64 (2 * q)), (6, u64 (2 * r + b)), (0, u64 x), (1, u64 s)], Nat.lt_succ_self i, ⟨rfl, rfl, rfl, rfl, rfl, trivial⟩, rfl, rfl, by simp only; omega, hstep.1.symm, hstep.2.symm, rfl⟩
  · have : x * 2 ^ 40 / 2 ^ 73 = 0 := Nat.div_eq_of_lt (by omega)
    simp only [this, Nat.zero_div]
  · have : x * 2 ^ 40 / 2 ^ 73 = 0 := Nat.div_eq_of_lt (by omega)
    simp only [this, Nat.zero_mod]

set_option maxHeartbeats 8000000 in
theorem small_ok {ro : Nat} {M : AM} {m z : Nat} (hm1 : m ≤ 65536) (hz : z ≤ m) :
    FnC Try.prog tables ro 27 [u64 m, u64 z] M (fun v M' => v = u64 (smallN m z) ∧ M' = M) := by
  refine FnC.body (nt := 22) ok hm fn27 rfl rfl ?_
  (repeat (first
    | refine Ex.seq ok hm ?_
    | refine Ex.block ok hm ?_
    | refine Ex.region ok hm ?_
    | refine Sq.pu ok hm Want.none (by first
    | exact Pu.move rfl
    | exact Pu.assign rfl
    | exact Pu.addN rfl rfl (by simp only [InR]; omega)) rfl ?_
    | refine Sq.finH (n := 7) ok hm (by repeat (first
    | exact Keep.nil
    | apply Keep.drop rfl
    | apply Keep.keep rfl)) ?_))
  refine Ex.loop ?_
  refine Lp.inv ok hm (α := Nat)
    (fun k E M' => E = [(6, u64 (z + 1 + k)), (5, u64 (smS m (z + 1) k)), (0, u64 m), (1, u64 z)] ∧ k ≤ m - z ∧ M' = M)
    (fun k => m - z - k) ?_ 0 [(6, u64 (z + 1)), (5, u64 0), (0, u64 m), (1, u64 z)] ⟨rfl, rfl, rfl, rfl, trivial⟩ ⟨rfl, Nat.zero_le _, rfl⟩
  intro k E M1 ⟨hE, hk, hM⟩
  subst hE hM
  have hle := smS_le m k (z + 1) (by omega)
  have hle2 : k * (m * 2 ^ 20) ≤ 65536 * (65536 * 2 ^ 20) := Nat.mul_le_mul (by omega) (Nat.mul_le_mul_right _ hm1)
  by_cases hlt : k < m - z
  · have hsn := smS_snoc m k (z + 1)
    have hdl : m * 2 ^ 20 / (z + 1 + k) ≤ m * 2 ^ 20 := Nat.div_le_self _ _
    generalize smS m (z + 1) k = acc at hle hsn ⊢
    (repeat (first
    | refine Ex.seq ok hm ?_
    | refine Ex.block ok hm ?_
    | refine Ex.skip ok hm ?_
    | refine Ex.region ok hm ?_
    | refine Sq.pu ok hm Want.none (by first
    | exact Pu.move rfl
    | exact Pu.shlN rfl rfl (by decide) (by simp only [InR]; omega)
    | exact Pu.leqI rfl rfl) rfl ?_
    | refine Sq.finH (n := 7) ok hm (by repeat (first
    | exact Keep.nil
    | apply Keep.drop rfl
    | apply Keep.keep rfl)) ?_
    | refine Ex.condT ok hm rfl (by first
    | rfl
    | exact decide_eq_true (by omega)) ?_))
    refine Sq.pu ok hm Want.none (Pu.quoN (k := .u64) (a := m * 2 ^ 20) (b := z + 1 + k) rfl rfl (by omega) (by simp only [InR]; omega)) rfl ?_
    refine Sq.pu ok hm Want.none (Pu.addN (k := .u64) (a := acc) (b := m * 2 ^ 20 / (z + 1 + k)) rfl rfl (by simp only [InR]; omega)) rfl ?_
    rw [← hsn]
    (repeat (first
    | refine Ex.region ok hm ?_
    | refine Sq.pu ok hm Want.none (by first
    | exact Pu.move rfl
    | exact Pu.assign rfl
    | exact Pu.addN rfl rfl (by simp only [InR]; omega)) rfl ?_
    | refine Sq.finH (n := 7) ok hm (by repeat (first
    | exact Keep.nil
    | apply Keep.drop rfl
    | apply Keep.keep rfl)) ?_))
    refine ⟨k + 1, [(6, u64 (z + 1 + (k + 1))), (5, u64 (smS m (z + 1) (k + 1))), (0, u64 m), (1, u64 z)], ?_, ⟨rfl, rfl, rfl, rfl, trivial⟩, rfl, hlt, rfl⟩
    show m - z - (k + 1) < m - z - k
    omega
  · obtain rfl : k = m - z := by omega
    have e : smallN m z = smS m (z + 1) (m - z) / 2 ^ 20 := rfl
    generalize smS m (z + 1) (m - z) = acc at hle e ⊢
    rw [e]
    (repeat (first
    | refine Ex.seq ok hm ?_
    | refine Ex.region ok hm ?_
    | refine Sq.pu ok hm Want.none (by first
    | exact Pu.move rfl
    | exact Pu.assign rfl
    | exact Pu.shrN rfl rfl (by simp only [InR]; omega)
    | exact Pu.leqI rfl rfl) rfl ?_
    | refine Sq.finH (n := 7) ok hm (by repeat (first
    | exact Keep.nil
    | apply Keep.drop rfl
    | apply Keep.keep rfl)) ?_
    | refine Ex.condF ok hm rfl (by first
    | rfl
    | exact decide_eq_false (by omega)) ?_
    | refine Ex.ret ok hm ?_
    | refine Ex.exit ok hm ?_))
    exact ⟨_, .tmp rfl .nil, rfl, rfl⟩
end Go.Proofs.Ytpglehckhnencaa
