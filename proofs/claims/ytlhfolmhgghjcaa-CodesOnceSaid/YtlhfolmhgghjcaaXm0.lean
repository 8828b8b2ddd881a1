/- Towards the laws of this seat: contracts of the program's functions in a logic over a small machine (texts XTab XBits XBitr XRd XPut). No condition. -/
import Derived.Test.YtlhfolmhgghjcaaRows
import Derived.Test.YtlhfolmhgghjcaaWvmLge
import Derived.KernelRfl
import Derived.Test.YtlhfolmhgghjcaaWvmLgg
import Derived.Test.YtlhfolmhgghjcaaWvmLgf
/- The seat's tables: types and functions that are known. -/
namespace Go.Proofs.Ytlhfolmhgghjcaa
open Go.Wvm
noncomputable def tables : VP := VP.of Try.prog
abbrev T : List (Nat × TyI) := [
  (0, ⟨.tuple #[], 1, 0, (some undef), false⟩),
  (1, ⟨.func #[] #[] false, 1, 8, (some .nilFunc), false⟩),
  (2, ⟨.int .i64, 1, 8, (some (.int .i64 0)), false⟩),
  (3, ⟨.int .i64, 1, 8, (some (.int .i64 0)), false⟩),
  (4, ⟨.bool, 1, 1, (some (.bool false)), false⟩),
  (5, ⟨.int .u8, 1, 1, (some (.int .u8 0)), false⟩),
  (6, ⟨.int .u8, 1, 1, (some (.int .u8 0)), false⟩),
  (7, ⟨.struct #[⟨ "x", 2, 0, false, "", "runtime", 0⟩, ⟨ "y", 3, 1, false, "", "runtime", 8⟩, ⟨ "signed", 4, 2, false, "", "runtime", 16⟩, ⟨ "code", 6, 3, false, "", "runtime", 17⟩], 4, 24, (some (.agg ⟨[(.int .i64 0), (.int .i64 0), (.bool false), (.int .u8 0)]⟩)), true⟩),
  (8, ⟨.struct #[⟨ "x", 2, 0, false, "", "runtime", 0⟩, ⟨ "y", 3, 1, false, "", "runtime", 8⟩, ⟨ "signed", 4, 2, false, "", "runtime", 16⟩, ⟨ "code", 6, 3, false, "", "runtime", 17⟩], 4, 24, (some (.agg ⟨[(.int .i64 0), (.int .i64 0), (.bool false), (.int .u8 0)]⟩)), true⟩),
  (9, ⟨.string, 1, 16, (some (.string ⟨⟨[]⟩⟩)), false⟩),
  (10, ⟨.string, 1, 16, (some (.string ⟨⟨[]⟩⟩)), false⟩),
  (11, ⟨.string, 1, 16, (some (.string ⟨⟨[]⟩⟩)), false⟩),
  (12, ⟨.int .u64, 1, 8, (some (.int .u64 0)), false⟩),
  (13, ⟨.struct #[⟨ "msg", 9, 0, false, "", "runtime", 0⟩, ⟨ "addr", 12, 1, false, "", "runtime", 16⟩], 2, 24, (some (.agg ⟨[(.string ⟨⟨[]⟩⟩), (.int .u64 0)]⟩)), true⟩),
  (14, ⟨.struct #[⟨ "msg", 9, 0, false, "", "runtime", 0⟩, ⟨ "addr", 12, 1, false, "", "runtime", 16⟩], 2, 24, (some (.agg ⟨[(.string ⟨⟨[]⟩⟩), (.int .u64 0)]⟩)), true⟩),
  (15, ⟨.pointer 109, 1, 8, (some (.pointer none)), false⟩),
  (16, ⟨.pointer 112, 1, 8, (some (.pointer none)), false⟩),
  (17, ⟨.pointer 121, 1, 8, (some (.pointer none)), false⟩),
  (18, ⟨.struct #[⟨ "typ", 17, 0, false, "", "internal/runtime/maps", 0⟩], 1, 8, (some (.agg ⟨[(.pointer none)]⟩)), true⟩),
  (19, ⟨.struct #[⟨ "typ", 17, 0, false, "", "internal/runtime/maps", 0⟩], 1, 8, (some (.agg ⟨[(.pointer none)]⟩)), true⟩),
  (20, ⟨.interface #[], 1, 16, (some .nilIface), false⟩),
  (21, ⟨.int .i32, 1, 4, (some (.int .i32 0)), false⟩),
  (22, ⟨.slice 25, 1, 24, (some (.slice none 0 0)), false⟩),
  (23, ⟨.struct #[⟨ "N", 3, 0, false, "", "", 0⟩, ⟨ "Count", 3, 1, false, "", "", 8⟩], 2, 16, (some (.agg ⟨[(.int .i64 0), (.int .i64 0)]⟩)), true⟩),
  (24, ⟨.struct #[⟨ "N", 3, 0, false, "", "", 0⟩, ⟨ "Count", 3, 1, false, "", "", 8⟩], 2, 16, (some (.agg ⟨[(.int .i64 0), (.int .i64 0)]⟩)), true⟩),
  (25, ⟨.int .u64, 1, 8, (some (.int .u64 0)), false⟩),
  (26, ⟨.int .i64, 1, 8, (some (.int .i64 0)), false⟩),
  (27, ⟨.tuple #[9, 26], 1, 0, (some (.tuple ⟨[(.string ⟨⟨[]⟩⟩), (.int .i64 0)]⟩)), false⟩),
  (28, ⟨.func #[22, 3] #[9, 26] false, 1, 8, (some .nilFunc), false⟩),
  (29, ⟨.tuple #[22, 26], 1, 0, (some (.tuple ⟨[(.slice none 0 0), (.int .i64 0)]⟩)), false⟩),
  (30, ⟨.func #[9, 3, 3] #[22, 26] false, 1, 8, (some .nilFunc), false⟩),
  (31, ⟨.func #[22, 22] #[4] false, 1, 8, (some .nilFunc), false⟩),
  (32, ⟨.func #[] #[4] false, 1, 8, (some .nilFunc), false⟩),
  (33, ⟨.func #[22, 9, 24] #[4] false, 1, 8, (some .nilFunc), false⟩),
  (34, ⟨.slice 39, 1, 24, (some (.slice none 0 0)), false⟩),
  (35, ⟨.pointer 79, 1, 8, (some (.pointer none)), false⟩),
  (36, ⟨.func #[] #[35] false, 1, 8, (some .nilFunc), false⟩),
  (37, ⟨.slice 3, 1, 24, (some (.slice none 0 0)), false⟩),
  (38, ⟨.struct #[⟨ "Kind", 3, 0, false, "", "", 0⟩, ⟨ "V", 25, 1, false, "", "", 8⟩, ⟨ "N", 3, 2, false, "", "", 16⟩, ⟨ "Text", 9, 3, false, "", "", 24⟩], 4, 40, (some (.agg ⟨[(.int .i64 0), (.int .u64 0), (.int .i64 0), (.string ⟨⟨[]⟩⟩)]⟩)), true⟩),
  (39, ⟨.struct #[⟨ "Kind", 3, 0, false, "", "", 0⟩, ⟨ "V", 25, 1, false, "", "", 8⟩, ⟨ "N", 3, 2, false, "", "", 16⟩, ⟨ "Text", 9, 3, false, "", "", 24⟩], 4, 40, (some (.agg ⟨[(.int .i64 0), (.int .u64 0), (.int .i64 0), (.string ⟨⟨[]⟩⟩)]⟩)), true⟩),
  (40, ⟨.func #[] #[3] false, 1, 8, (some .nilFunc), false⟩),
  (41, ⟨.func #[25, 3] #[26] false, 1, 8, (some .nilFunc), false⟩),
  (42, ⟨.func #[4] #[26] false, 1, 8, (some .nilFunc), false⟩),
  (43, ⟨.func #[] #[9, 26] false, 1, 8, (some .nilFunc), false⟩),
  (44, ⟨.pointer 83, 1, 8, (some (.pointer none)), false⟩),
  (45, ⟨.func #[9] #[44] false, 1, 8, (some .nilFunc), false⟩),
  (46, ⟨.func #[3] #[26] false, 1, 8, (some .nilFunc), false⟩),
  (47, ⟨.tuple #[25, 26], 1, 0, (some (.tuple ⟨[(.int .u64 0), (.int .i64 0)]⟩)), false⟩),
  (48, ⟨.func #[3] #[25, 26] false, 1, 8, (some .nilFunc), false⟩),
  (49, ⟨.func #[34] #[4] false, 1, 8, (some .nilFunc), false⟩),
  (50, ⟨.slice 60, 1, 24, (some (.slice none 0 0)), false⟩),
  (51, ⟨.pointer 55, 1, 8, (some (.pointer none)), false⟩),
  (52, ⟨.slice 4, 1, 24, (some (.slice none 0 0)), false⟩),
  (53, ⟨.func #[9] #[52] false, 1, 8, (some .nilFunc), false⟩),
  (54, ⟨.struct #[⟨ "B", 52, 0, false, "", "", 0⟩, ⟨ "At", 3, 1, false, "", "", 24⟩], 2, 32, (some (.agg ⟨[(.slice none 0 0), (.int .i64 0)]⟩)), true⟩),
  (55, ⟨.struct #[⟨ "B", 52, 0, false, "", "", 0⟩, ⟨ "At", 3, 1, false, "", "", 24⟩], 2, 32, (some (.agg ⟨[(.slice none 0 0), (.int .i64 0)]⟩)), true⟩),
  (56, ⟨.func #[44, 58] #[25, 26] false, 1, 8, (some .nilFunc), false⟩),
  (57, ⟨.struct #[⟨ "Kind", 5, 0, false, "", "", 0⟩, ⟨ "K", 25, 1, false, "", "", 8⟩], 2, 16, (some (.agg ⟨[(.int .u8 0), (.int .u64 0)]⟩)), true⟩),
  (58, ⟨.struct #[⟨ "Kind", 5, 0, false, "", "", 0⟩, ⟨ "K", 25, 1, false, "", "", 8⟩], 2, 16, (some (.agg ⟨[(.int .u8 0), (.int .u64 0)]⟩)), true⟩),
  (59, ⟨.func #[60] #[58] false, 1, 8, (some .nilFunc), false⟩),
  (60, ⟨.struct #[⟨ "Kind", 5, 0, false, "", "", 0⟩, ⟨ "K", 25, 1, false, "", "", 8⟩], 2, 16, (some (.agg ⟨[(.int .u8 0), (.int .u64 0)]⟩)), true⟩),
  (61, ⟨.func #[51, 60] #[25, 26] false, 1, 8, (some .nilFunc), false⟩),
  (62, ⟨.func #[9, 50] #[4] false, 1, 8, (some .nilFunc), false⟩),
  (63, ⟨.slice 65, 1, 24, (some (.slice none 0 0)), false⟩),
  (64, ⟨.struct #[⟨ "Code", 60, 0, false, "", "", 0⟩, ⟨ "V", 25, 2, false, "", "", 16⟩], 3, 24, (some (.agg ⟨[(.int .u8 0), (.int .u64 0), (.int .u64 0)]⟩)), true⟩),
  (65, ⟨.struct #[⟨ "Code", 60, 0, false, "", "", 0⟩, ⟨ "V", 25, 2, false, "", "", 16⟩], 3, 24, (some (.agg ⟨[(.int .u8 0), (.int .u64 0), (.int .u64 0)]⟩)), true⟩),
  (66, ⟨.func #[35, 58, 25] #[26] false, 1, 8, (some .nilFunc), false⟩),
  (67, ⟨.tuple #[3, 26], 1, 0, (some (.tuple ⟨[(.int .i64 0), (.int .i64 0)]⟩)), false⟩),
  (68, ⟨.func #[25] #[3, 26] false, 1, 8, (some .nilFunc), false⟩),
  (69, ⟨.func #[63] #[4] false, 1, 8, (some .nilFunc), false⟩),
  (70, ⟨.tuple #[4, 26], 1, 0, (some (.tuple ⟨[(.bool false), (.int .i64 0)]⟩)), false⟩),
  (71, ⟨.func #[] #[4, 26] false, 1, 8, (some .nilFunc), false⟩),
  (72, ⟨.pointer 74, 1, 8, (some (.pointer none)), false⟩),
  (73, ⟨.struct #[⟨ "B", 52, 0, false, "", "", 0⟩], 1, 24, (some (.agg ⟨[(.slice none 0 0)]⟩)), true⟩),
  (74, ⟨.struct #[⟨ "B", 52, 0, false, "", "", 0⟩], 1, 24, (some (.agg ⟨[(.slice none 0 0)]⟩)), true⟩),
  (75, ⟨.func #[52] #[9] false, 1, 8, (some .nilFunc), false⟩),
  (76, ⟨.func #[52] #[25] false, 1, 8, (some .nilFunc), false⟩),
  (77, ⟨.slice 5, 1, 24, (some (.slice none 0 0)), false⟩),
  (78, ⟨.struct #[⟨ "buf", 77, 0, false, "", "wattle/bitio", 0⟩, ⟨ "bits", 3, 1, false, "", "wattle/bitio", 24⟩], 2, 32, (some (.agg ⟨[(.slice none 0 0), (.int .i64 0)]⟩)), true⟩),
  (79, ⟨.struct #[⟨ "buf", 77, 0, false, "", "wattle/bitio", 0⟩, ⟨ "bits", 3, 1, false, "", "wattle/bitio", 24⟩], 2, 32, (some (.agg ⟨[(.slice none 0 0), (.int .i64 0)]⟩)), true⟩),
  (80, ⟨.func #[25, 3] #[4] false, 1, 8, (some .nilFunc), false⟩),
  (81, ⟨.func #[25, 3] #[] false, 1, 8, (some .nilFunc), false⟩),
  (82, ⟨.struct #[⟨ "text", 9, 0, false, "", "wattle/bitio", 0⟩, ⟨ "at", 3, 1, false, "", "wattle/bitio", 16⟩], 2, 24, (some (.agg ⟨[(.string ⟨⟨[]⟩⟩), (.int .i64 0)]⟩)), true⟩),
  (83, ⟨.struct #[⟨ "text", 9, 0, false, "", "wattle/bitio", 0⟩, ⟨ "at", 3, 1, false, "", "wattle/bitio", 16⟩], 2, 24, (some (.agg ⟨[(.string ⟨⟨[]⟩⟩), (.int .i64 0)]⟩)), true⟩),
  (84, ⟨.func #[3, 85] #[] false, 1, 8, (some .nilFunc), false⟩),
  (85, ⟨.func #[5, 3] #[] false, 1, 8, (some .nilFunc), false⟩),
  (86, ⟨.func #[] #[26] false, 1, 8, (some .nilFunc), false⟩),
  (87, ⟨.func #[44, 25] #[25, 26] false, 1, 8, (some .nilFunc), false⟩),
  (88, ⟨.func #[44] #[25, 26] false, 1, 8, (some .nilFunc), false⟩),
  (89, ⟨.func #[60] #[26] false, 1, 8, (some .nilFunc), false⟩),
  (90, ⟨.tuple #[25, 4], 1, 0, (some (.tuple ⟨[(.int .u64 0), (.bool false)]⟩)), false⟩),
  (91, ⟨.func #[51, 60] #[25, 4] false, 1, 8, (some .nilFunc), false⟩),
  (92, ⟨.func #[60] #[25] false, 1, 8, (some .nilFunc), false⟩),
  (93, ⟨.func #[35, 25] #[] false, 1, 8, (some .nilFunc), false⟩),
  (94, ⟨.func #[25] #[3] false, 1, 8, (some .nilFunc), false⟩),
  (95, ⟨.tuple #[25, 25], 1, 0, (some (.tuple ⟨[(.int .u64 0), (.int .u64 0)]⟩)), false⟩),
  (96, ⟨.func #[3, 25] #[25, 25] false, 1, 8, (some .nilFunc), false⟩),
  (97, ⟨.func #[35, 25, 25] #[] false, 1, 8, (some .nilFunc), false⟩),
  (98, ⟨.func #[] #[25] false, 1, 8, (some .nilFunc), false⟩),
  (99, ⟨.func #[25, 25] #[3] false, 1, 8, (some .nilFunc), false⟩),
  (100, ⟨.func #[25, 3] #[52] false, 1, 8, (some .nilFunc), false⟩),
  (101, ⟨.tuple #[3, 25], 1, 0, (some (.tuple ⟨[(.int .i64 0), (.int .u64 0)]⟩)), false⟩),
  (102, ⟨.func #[25] #[3, 25] false, 1, 8, (some .nilFunc), false⟩),
  (103, ⟨.int .u64, 1, 8, (some (.int .u64 0)), false⟩),
  (104, ⟨.tuple #[3, 4], 1, 0, (some (.tuple ⟨[(.int .i64 0), (.bool false)]⟩)), false⟩),
  (105, ⟨.func #[51, 3] #[3, 4] false, 1, 8, (some .nilFunc), false⟩),
  (106, ⟨.func #[51, 25] #[25, 4] false, 1, 8, (some .nilFunc), false⟩),
  (107, ⟨.func #[] #[9] false, 1, 8, (some .nilFunc), false⟩),
  (108, ⟨.struct #[⟨ "_interface", 17, 0, false, "", "runtime", 0⟩, ⟨ "concrete", 17, 1, false, "", "runtime", 8⟩, ⟨ "asserted", 17, 2, false, "", "runtime", 16⟩, ⟨ "missingMethod", 9, 3, false, "", "runtime", 24⟩], 4, 40, (some (.agg ⟨[(.pointer none), (.pointer none), (.pointer none), (.string ⟨⟨[]⟩⟩)]⟩)), true⟩),
  (109, ⟨.struct #[⟨ "_interface", 17, 0, false, "", "runtime", 0⟩, ⟨ "concrete", 17, 1, false, "", "runtime", 8⟩, ⟨ "asserted", 17, 2, false, "", "runtime", 16⟩, ⟨ "missingMethod", 9, 3, false, "", "runtime", 24⟩], 4, 40, (some (.agg ⟨[(.pointer none), (.pointer none), (.pointer none), (.string ⟨⟨[]⟩⟩)]⟩)), true⟩),
  (110, ⟨.array 0 16, 0, 0, (some (.agg ⟨[]⟩)), true⟩),
  (111, ⟨.struct #[⟨ "_", 110, 0, false, "", "runtime", 0⟩], 0, 0, (some (.agg ⟨[]⟩)), true⟩),
  (112, ⟨.struct #[⟨ "_", 110, 0, false, "", "runtime", 0⟩], 0, 0, (some (.agg ⟨[]⟩)), true⟩),
  (113, ⟨.int .u32, 1, 4, (some (.int .u32 0)), false⟩),
  (114, ⟨.int .u8, 1, 1, (some (.int .u8 0)), false⟩),
  (115, ⟨.int .u8, 1, 1, (some (.int .u8 0)), false⟩),
  (116, ⟨.func #[122, 122] #[4] false, 1, 8, (some .nilFunc), false⟩),
  (117, ⟨.pointer 5, 1, 8, (some (.pointer none)), false⟩),
  (118, ⟨.int .i32, 1, 4, (some (.int .i32 0)), false⟩),
  (119, ⟨.int .i32, 1, 4, (some (.int .i32 0)), false⟩),
  (120, ⟨.struct #[⟨ "Size_", 12, 0, false, "", "", 0⟩, ⟨ "PtrBytes", 12, 1, false, "", "", 8⟩, ⟨ "Hash", 113, 2, false, "", "", 16⟩, ⟨ "TFlag", 114, 3, false, "", "", 20⟩, ⟨ "Align_", 5, 4, false, "", "", 21⟩, ⟨ "FieldAlign_", 5, 5, false, "", "", 22⟩, ⟨ "Kind_", 115, 6, false, "", "", 23⟩, ⟨ "Equal", 116, 7, false, "", "", 24⟩, ⟨ "GCData", 117, 8, false, "", "", 32⟩, ⟨ "Str", 118, 9, false, "", "", 40⟩, ⟨ "PtrToThis", 119, 10, false, "", "", 44⟩], 11, 48, (some (.agg ⟨[(.int .u64 0), (.int .u64 0), (.int .u32 0), (.int .u8 0), (.int .u8 0), (.int .u8 0), (.int .u8 0), .nilFunc, (.pointer none), (.int .i32 0), (.int .i32 0)]⟩)), true⟩),
  (121, ⟨.struct #[⟨ "Size_", 12, 0, false, "", "", 0⟩, ⟨ "PtrBytes", 12, 1, false, "", "", 8⟩, ⟨ "Hash", 113, 2, false, "", "", 16⟩, ⟨ "TFlag", 114, 3, false, "", "", 20⟩, ⟨ "Align_", 5, 4, false, "", "", 21⟩, ⟨ "FieldAlign_", 5, 5, false, "", "", 22⟩, ⟨ "Kind_", 115, 6, false, "", "", 23⟩, ⟨ "Equal", 116, 7, false, "", "", 24⟩, ⟨ "GCData", 117, 8, false, "", "", 32⟩, ⟨ "Str", 118, 9, false, "", "", 40⟩, ⟨ "PtrToThis", 119, 10, false, "", "", 44⟩], 11, 48, (some (.agg ⟨[(.int .u64 0), (.int .u64 0), (.int .u32 0), (.int .u8 0), (.int .u8 0), (.int .u8 0), (.int .u8 0), .nilFunc, (.pointer none), (.int .i32 0), (.int .i32 0)]⟩)), true⟩),
  (122, ⟨.unsafePointer, 1, 8, (some (.pointer none)), false⟩)]
theorem tyL : (T.map fun p => tables.ty.get p.1) = T.map fun p => some p.2 := by kernel_rfl
theorem hT : TyOk tables T := TyOk.of_map tyL
theorem ok : VPok Try.prog tables := VP.of_ok _
theorem hm : Try.prog.follows .mixedOrders = true := by kernel_rfl
theorem fnL : ([3, 4, 5, 6, 7, 8, 9, 10, 11, 12, 13, 14, 15, 16, 17, 18, 19, 20, 21, 22, 23, 24, 25, 26, 27, 28, 29, 30, 31, 32, 33, 34, 35, 36, 37, 38, 39, 40, 41, 42, 43, 44, 45, 46, 47, 48, 49, 50, 51, 52, 53, 54, 55, 56, 57, 58, 59, 60, 61, 62].map fun f => tables.fn.get f) = [some Try.f3, some Try.f4, some Try.f5, some Try.f6, some Try.f7, some Try.f8, some Try.f9, some Try.f10, some Try.f11, some Try.f12, some Try.f13, some Try.f14, some Try.f15, some Try.f16, some Try.f17, some Try.f18, some Try.f19, some Try.f20, some Try.f21, some Try.f22, some Try.f23, some Try.f24, some Try.f25, some Try.f26, some Try.f27, some Try.f28, some Try.f29, some Try.f30, some Try.f31, some Try.f32, some Try.f33, some Try.f34, some Try.f35, some Try.f36, some Try.f37, some Try.f38, some Try.f39, some Try.f40, some Try.f41, some Try.f42, some Try.f43, some Try.f44, some Try.f45, some Try.f46, some Try.f47, some Try.f48, some Try.f49, some Try.f50, some Try.f51, some Try.f52, some Try.f53, some Try.f54, some Try.f55, some Try.f56, some Try.f57, some Try.f58, some Try.f59, some Try.f60, some Try.f61, some Try.f62] := by kernel_rfl
theorem fn3 : tables.fn.get 3 = some Try.f3 := by have := congrArg (fun l => l[0]?) fnL; simpa using this
theorem fn4 : tables.fn.get 4 = some Try.f4 := by have := congrArg (fun l => l[1]?) fnL; simpa using this
theorem fn5 : tables.fn.get 5 = some Try.f5 := by have := congrArg (fun l => l[2]?) fnL; simpa using this
theorem fn6 : tables.fn.get 6 = some Try.f6 := by have := congrArg (fun l => l[3]?) fnL; simpa using this
theorem fn7 : tables.fn.get 7 = some Try.f7 := by have := congrArg (fun l => l[4]?) fnL; simpa using this
theorem fn8 : tables.fn.get 8 = some Try.f8 := by have := congrArg (fun l => l[5]?) fnL; simpa using this
theorem fn9 : tables.fn.get 9 = some Try.f9 := by have := congrArg (fun l => l[6]?) fnL; simpa using this
theorem fn10 : tables.fn.get 10 = some Try.f10 := by have := congrArg (fun l => l[7]?) fnL; simpa using this
theorem fn11 : tables.fn.get 11 = some Try.f11 := by have := congrArg (fun l => l[8]?) fnL; simpa using this
theorem fn12 : tables.fn.get 12 = some Try.f12 := by have := congrArg (fun l => l[9]?) fnL; simpa using this
theorem fn13 : tables.fn.get 13 = some Try.f13 := by have := congrArg (fun l => l[10]?) fnL; simpa using this
theorem fn14 : tables.fn.get 14 = some Try.f14 := by have := congrArg (fun l => l[11]?) fnL; simpa using this
theorem fn15 : tables.fn.get 15 = some Try.f15 := by have := congrArg (fun l => l[12]?) fnL; simpa using this
theorem fn16 : tables.fn.get 16 = some Try.f16 := by have := congrArg (fun l => l[13]?) fnL; simpa using this
theorem fn17 : tables.fn.get 17 = some Try.f17 := by have := congrArg (fun l => l[14]?) fnL; simpa using this
theorem fn18 : tables.fn.get 18 = some Try.f18 := by have := congrArg (fun l => l[15]?) fnL; simpa using this
theorem fn19 : tables.fn.get 19 = some Try.f19 := by have := congrArg (fun l => l[16]?) fnL; simpa using this
theorem fn20 : tables.fn.get 20 = some Try.f20 := by have := congrArg (fun l => l[17]?) fnL; simpa using this
theorem fn21 : tables.fn.get 21 = some Try.f21 := by have := congrArg (fun l => l[18]?) fnL; simpa using this
theorem fn22 : tables.fn.get 22 = some Try.f22 := by have := congrArg (fun l => l[19]?) fnL; simpa using this
theorem fn23 : tables.fn.get 23 = some Try.f23 := by have := congrArg (fun l => l[20]?) fnL; simpa using this
theorem fn24 : tables.fn.get 24 = some Try.f24 := by have := congrArg (fun l => l[21]?) fnL; simpa using this
theorem fn25 : tables.fn.get 25 = some Try.f25 := by have := congrArg (fun l => l[22]?) fnL; simpa using this
theorem fn26 : tables.fn.get 26 = some Try.f26 := by have := congrArg (fun l => l[23]?) fnL; simpa using this
theorem fn27 : tables.fn.get 27 = some Try.f27 := by have := congrArg (fun l => l[24]?) fnL; simpa using this
theorem fn28 : tables.fn.get 28 = some Try.f28 := by have := congrArg (fun l => l[25]?) fnL; simpa using this
theorem fn29 : tables.fn.get 29 = some Try.f29 := by have := congrArg (fun l => l[26]?) fnL; simpa using this
theorem fn30 : tables.fn.get 30 = some Try.f30 := by have := congrArg (fun l => l[27]?) fnL; simpa using this
theorem fn31 : tables.fn.get 31 = some Try.f31 := by have := congrArg (fun l => l[28]?) fnL; simpa using this
theorem fn32 : tables.fn.get 32 = some Try.f32 := by have := congrArg (fun l => l[29]?) fnL; simpa using this
theorem fn33 : tables.fn.get 33 = some Try.f33 := by have := congrArg (fun l => l[30]?) fnL; simpa using this
theorem fn34 : tables.fn.get 34 = some Try.f34 := by have := congrArg (fun l => l[31]?) fnL; simpa using this
theorem fn35 : tables.fn.get 35 = some Try.f35 := by have := congrArg (fun l => l[32]?) fnL; simpa using this
theorem fn36 : tables.fn.get 36 = some Try.f36 := by have := congrArg (fun l => l[33]?) fnL; simpa using this
theorem fn37 : tables.fn.get 37 = some Try.f37 := by have := congrArg (fun l => l[34]?) fnL; simpa using this
theorem fn38 : tables.fn.get 38 = some Try.f38 := by have := congrArg (fun l => l[35]?) fnL; simpa using this
theorem fn39 : tables.fn.get 39 = some Try.f39 := by have := congrArg (fun l => l[36]?) fnL; simpa using this
theorem fn40 : tables.fn.get 40 = some Try.f40 := by have := congrArg (fun l => l[37]?) fnL; simpa using this
theorem fn41 : tables.fn.get 41 = some Try.f41 := by have := congrArg (fun l => l[38]?) fnL; simpa using this
theorem fn42 : tables.fn.get 42 = some Try.f42 := by have := congrArg (fun l => l[39]?) fnL; simpa using this
theorem fn43 : tables.fn.get 43 = some Try.f43 := by have := congrArg (fun l => l[40]?) fnL; simpa using this
theorem fn44 : tables.fn.get 44 = some Try.f44 := by have := congrArg (fun l => l[41]?) fnL; simpa using this
theorem fn45 : tables.fn.get 45 = some Try.f45 := by have := congrArg (fun l => l[42]?) fnL; simpa using this
theorem fn46 : tables.fn.get 46 = some Try.f46 := by have := congrArg (fun l => l[43]?) fnL; simpa using this
theorem fn47 : tables.fn.get 47 = some Try.f47 := by have := congrArg (fun l => l[44]?) fnL; simpa using this
theorem fn48 : tables.fn.get 48 = some Try.f48 := by have := congrArg (fun l => l[45]?) fnL; simpa using this
theorem fn49 : tables.fn.get 49 = some Try.f49 := by have := congrArg (fun l => l[46]?) fnL; simpa using this
theorem fn50 : tables.fn.get 50 = some Try.f50 := by have := congrArg (fun l => l[47]?) fnL; simpa using this
theorem fn51 : tables.fn.get 51 = some Try.f51 := by have := congrArg (fun l => l[48]?) fnL; simpa using this
theorem fn52 : tables.fn.get 52 = some Try.f52 := by have := congrArg (fun l => l[49]?) fnL; simpa using this
theorem fn53 : tables.fn.get 53 = some Try.f53 := by have := congrArg (fun l => l[50]?) fnL; simpa using this
theorem fn54 : tables.fn.get 54 = some Try.f54 := by have := congrArg (fun l => l[51]?) fnL; simpa using this
theorem fn55 : tables.fn.get 55 = some Try.f55 := by have := congrArg (fun l => l[52]?) fnL; simpa using this
theorem fn56 : tables.fn.get 56 = some Try.f56 := by have := congrArg (fun l => l[53]?) fnL; simpa using this
theorem fn57 : tables.fn.get 57 = some Try.f57 := by have := congrArg (fun l => l[54]?) fnL; simpa using this
theorem fn58 : tables.fn.get 58 = some Try.f58 := by have := congrArg (fun l => l[55]?) fnL; simpa using this
theorem fn59 : tables.fn.get 59 = some Try.f59 := by have := congrArg (fun l => l[56]?) fnL; simpa using this
theorem fn60 : tables.fn.get 60 = some Try.f60 := by have := congrArg (fun l => l[57]?) fnL; simpa using this
theorem fn61 : tables.fn.get 61 = some Try.f61 := by have := congrArg (fun l => l[58]?) fnL; simpa using this
theorem fn62 : tables.fn.get 62 = some Try.f62 := by have := congrArg (fun l => l[59]?) fnL; simpa using this
end Go.Proofs.Ytlhfolmhgghjcaa
/- Plain mathematics of rows of bits: their values, their bytes. -/
namespace Bits

def valB (l : List Bool) : Nat := l.foldl (fun a b => 2 * a + b.toNat) 0
def ofN (v n : Nat) : List Bool := (List.range n).map fun i => v.testBit (n - 1 - i)
def byteB (c : List Bool) : Nat := valB c * 2 ^ (8 - c.length)
def packL (l : List Bool) : List Nat := (List.range ((l.length + 7) / 8)).map fun j => byteB ((l.drop (8 * j)).take 8)

theorem foldl_valB (l : List Bool) : ∀ a, l.foldl (fun a b => 2 * a + b.toNat) a = a * 2 ^ l.length + valB l := by
  induction l with
  | nil => intro a; simp [valB]
  | cons b l ih =>
    intro a
    simp only [List.foldl_cons, List.length_cons, valB]
    rw [ih, ih (2 * 0 + b.toNat)]
    rw [Nat.pow_succ, Nat.add_mul]
    simp only [Nat.mul_zero, Nat.zero_add]
    rw [Nat.mul_comm 2 a, Nat.mul_assoc, Nat.mul_comm 2 (2 ^ l.length)]
    omega
theorem valB_append (a b : List Bool) : valB (a ++ b) = valB a * 2 ^ b.length + valB b := by
  unfold valB
  rw [List.foldl_append, foldl_valB b]; rfl
theorem valB_nil : valB [] = 0 := rfl
theorem valB_cons (b : Bool) (l : List Bool) : valB (b :: l) = b.toNat * 2 ^ l.length + valB l := by
  have := valB_append [b] l
  simpa [valB] using this
theorem valB_lt (l : List Bool) : valB l < 2 ^ l.length := by
  induction l with
  | nil => simp [valB]
  | cons b l ih =>
    rw [valB_cons, List.length_cons, Nat.pow_succ]
    have : b.toNat ≤ 1 := Bool.toNat_le b
    have : b.toNat * 2 ^ l.length ≤ 1 * 2 ^ l.length := Nat.mul_le_mul_right _ this
    omega
theorem ofN_length (v n : Nat) : (ofN v n).length = n := by simp [ofN]
theorem ofN_zero (v : Nat) : ofN v 0 = [] := rfl
theorem ofN_getElem? (v n i : Nat) : (ofN v n)[i]? = if i < n then some (v.testBit (n - 1 - i)) else none := by
  by_cases h : i < n
  · rw [if_pos h, List.getElem?_eq_getElem (by rw [ofN_length]; exact h)]
    simp [ofN]
  · rw [if_neg h, List.getElem?_eq_none (by rw [ofN_length]; omega)]
theorem ofN_split (v n k : Nat) (h : k ≤ n) : ofN v n = ofN (v / 2 ^ (n - k)) k ++ ofN v (n - k) := by
  apply List.ext_getElem
  · simp [ofN_length]; omega
  · intro i h1 h2
    simp only [ofN, List.getElem_map, List.getElem_range, List.getElem_append, List.length_map, List.length_range]
    by_cases hi : i < k
    · rw [dif_pos hi, Nat.testBit_div_two_pow]
      congr 1; omega
    · rw [dif_neg hi]
      congr 1
      simp [ofN_length] at h1
      omega
theorem ofN_one (v : Nat) : ofN v 1 = [v.testBit 0] := rfl
theorem ofN_succ (v n : Nat) : ofN v (n + 1) = v.testBit n :: ofN v n := by
  rw [ofN_split v (n + 1) 1 (by omega), ofN_one]
  simp [Nat.testBit_eq_decide_div_mod_eq]
theorem valB_ofN (v n : Nat) : valB (ofN v n) = v % 2 ^ n := by
  induction n with
  | zero => simp [ofN_zero, valB, Nat.mod_one]
  | succ n ih =>
    rw [ofN_succ, valB_cons, ih, ofN_length, Nat.pow_succ, Nat.mod_mul, Nat.testBit_eq_decide_div_mod_eq]
    by_cases h : v / 2 ^ n % 2 = 1
    · simp [h]; omega
    · have h0 : v / 2 ^ n % 2 = 0 := by omega
      simp [h0]
theorem ofN_mod (v n m : Nat) (h : n ≤ m) : ofN (v % 2 ^ m) n = ofN v n := by
  unfold ofN
  apply List.map_congr_left
  intro i hi
  rw [List.mem_range] at hi
  rw [Nat.testBit_mod_two_pow]
  simp; omega
theorem ofN_valB (l : List Bool) : ofN (valB l) l.length = l := by
  induction l with
  | nil => rfl
  | cons b l ih =>
    have hl := valB_lt l
    rw [List.length_cons, ofN_succ, valB_cons]
    have e1 : (b.toNat * 2 ^ l.length + valB l).testBit l.length = b := by
      rw [Nat.testBit_eq_decide_div_mod_eq, Nat.mul_comm, Nat.mul_add_div (Nat.two_pow_pos _), Nat.div_eq_of_lt hl]
      cases b <;> simp
    have e2 : ofN (b.toNat * 2 ^ l.length + valB l) l.length = ofN (valB l) l.length := by
      rw [← ofN_mod (b.toNat * 2 ^ l.length + valB l) l.length l.length (Nat.le_refl _), Nat.mul_comm, Nat.mul_add_mod, ofN_mod _ _ _ (Nat.le_refl _)]
    rw [e1, e2, ih]
theorem valB_inj {a b : List Bool} (h : a.length = b.length) (e : valB a = valB b) : a = b := by
  rw [← ofN_valB a, ← ofN_valB b, h, e]

theorem packL_length (l : List Bool) : (packL l).length = (l.length + 7) / 8 := by simp [packL]
theorem packL_nil : packL [] = [] := rfl
theorem packL_getElem? (l : List Bool) (j : Nat) (h : j < (l.length + 7) / 8) : (packL l)[j]? = some (byteB ((l.drop (8 * j)).take 8)) := by
  rw [List.getElem?_eq_getElem (by rw [packL_length]; exact h)]
  simp [packL]
theorem byteB_lt (c : List Bool) (h : c.length ≤ 8) : byteB c < 256 := by
  unfold byteB
  have := valB_lt c
  have h2 : valB c * 2 ^ (8 - c.length) < 2 ^ c.length * 2 ^ (8 - c.length) := Nat.mul_lt_mul_of_pos_right this (Nat.two_pow_pos _)
  rw [← Nat.pow_add] at h2
  rw [show c.length + (8 - c.length) = 8 by omega] at h2
  exact h2

/-- The bytes when the next byte has been begunL. -/
def begunL (l : List Bool) : List Nat := if l.length % 8 = 0 then packL l ++ [0] else packL l
theorem begunL_length (l : List Bool) : (begunL l).length = l.length / 8 + 1 := by
  unfold begunL
  split
  · rw [List.length_append, packL_length]; simp; omega
  · rw [packL_length]; omega
theorem begunL_last (l : List Bool) : (begunL l)[l.length / 8]? = some (byteB (l.drop (8 * (l.length / 8)))) := by
  unfold begunL
  split
  · rename_i h
    rw [List.getElem?_append_right (by rw [packL_length]; omega), packL_length, show l.length / 8 - (l.length + 7) / 8 = 0 by omega]
    rw [List.drop_eq_nil_of_le (by omega)]; rfl
  · rw [packL_getElem? _ _ (by omega), List.take_of_length_le (by rw [List.length_drop]; omega)]
theorem or_disjoint (a b i : Nat) (h : b < 2 ^ i) : (a * 2 ^ i) ||| b = a * 2 ^ i + b := by
  rw [Nat.mul_comm, Nat.two_pow_add_eq_or_of_lt h]
/-- So many bits more within a byte. -/
theorem pack_step (l d : List Bool) (h0 : 0 < d.length) (h : l.length % 8 + d.length ≤ 8) :
    packL (l ++ d) = (begunL l).set (l.length / 8) (byteB (l.drop (8 * (l.length / 8))) ||| valB d * 2 ^ (8 - l.length % 8 - d.length)) := by
  have hl : (l.drop (8 * (l.length / 8))).length = l.length % 8 := by rw [List.length_drop]; omega
  have key : byteB (l.drop (8 * (l.length / 8))) ||| valB d * 2 ^ (8 - l.length % 8 - d.length) = byteB (l.drop (8 * (l.length / 8)) ++ d) := by
    unfold byteB
    rw [hl, List.length_append, hl, valB_append]
    have hd := valB_lt d
    have h1 : valB d * 2 ^ (8 - l.length % 8 - d.length) < 2 ^ (8 - l.length % 8) := by
      have : valB d * 2 ^ (8 - l.length % 8 - d.length) < 2 ^ d.length * 2 ^ (8 - l.length % 8 - d.length) := Nat.mul_lt_mul_of_pos_right hd (Nat.two_pow_pos _)
      rw [← Nat.pow_add, show d.length + (8 - l.length % 8 - d.length) = 8 - l.length % 8 by omega] at this
      exact this
    rw [or_disjoint _ _ _ h1, Nat.add_mul, Nat.mul_assoc, ← Nat.pow_add, show d.length + (8 - (l.length % 8 + d.length)) = 8 - l.length % 8 by omega, show 8 - (l.length % 8 + d.length) = 8 - l.length % 8 - d.length by omega]
  rw [key]
  apply List.ext_getElem?
  intro j
  rw [List.getElem?_set, begunL_length]
  by_cases hj : l.length / 8 = j
  · subst hj
    rw [if_pos rfl, if_pos (by omega), packL_getElem? _ _ (by rw [List.length_append]; omega)]
    rw [List.drop_append_of_le_length (by omega), List.take_of_length_le (by rw [List.length_append, hl]; omega)]
  · rw [if_neg hj]
    by_cases hj2 : j < l.length / 8
    · have e1 : (begunL l)[j]? = (packL l)[j]? := by
        unfold begunL
        split
        · rw [List.getElem?_append_left (by rw [packL_length]; omega)]
        · rfl
      rw [e1, packL_getElem? _ _ (by rw [List.length_append]; omega), packL_getElem? _ _ (by omega)]
      rw [List.drop_append_of_le_length (by omega), List.take_append_of_le_length (by rw [List.length_drop]; omega)]
    · rw [List.getElem?_eq_none (by rw [packL_length, List.length_append]; omega), List.getElem?_eq_none (by rw [begunL_length]; omega)]
theorem byteB_dvd (l : List Bool) (h : l.length ≤ 8) : byteB l < 256 := byteB_lt l h
theorem packL_lt (l : List Bool) : ∀ b ∈ packL l, b < 256 := by
  intro b hb
  unfold packL at hb
  rw [List.mem_map] at hb
  obtain ⟨j, _, rfl⟩ := hb
  exact byteB_lt _ (by rw [List.length_take]; omega)
theorem begunL_lt (l : List Bool) : ∀ b ∈ begunL l, b < 256 := by
  intro b hb
  unfold begunL at hb
  split at hb
  · rw [List.mem_append] at hb
    rcases hb with hb | hb
    · exact packL_lt l b hb
    · simp at hb; omega
  · exact packL_lt l b hb
theorem part_eq (v n k : Nat) (h1 : 1 ≤ k) (h8 : k ≤ 8) (hkn : k ≤ n) :
    (((v : Int) / 2 ^ ((n : Int) - (k : Int)).toNat % 256).toNat &&& ((1 * 2 ^ ((k : Int)).toNat % 256 - 1) % 256 : Int).toNat) = v / 2 ^ (n - k) % 2 ^ k := by
  have e1 : ((n : Int) - (k : Int)).toNat = n - k := by omega
  rw [e1]
  have e2 : ((v : Int) / 2 ^ (n - k) % 256).toNat = v / 2 ^ (n - k) % 256 := by
    have : ((v : Int) / 2 ^ (n - k) % 256) = ((v / 2 ^ (n - k) % 256 : Nat) : Int) := by simp
    rw [this]; rfl
  rw [e2]
  have e3 : ((1 * 2 ^ ((k : Int)).toNat % 256 - 1) % 256 : Int).toNat = 2 ^ k - 1 := by
    have : k = 1 ∨ k = 2 ∨ k = 3 ∨ k = 4 ∨ k = 5 ∨ k = 6 ∨ k = 7 ∨ k = 8 := by omega
    rcases this with rfl | rfl | rfl | rfl | rfl | rfl | rfl | rfl <;> rfl
  rw [e3, Nat.and_two_pow_sub_one_eq_mod]
  have : (2 : Nat) ^ k ∣ 256 := by
    rw [show 256 = 2 ^ 8 from rfl]; exact Nat.pow_dvd_pow 2 h8
  exact Nat.mod_mod_of_dvd _ this

end Bits
namespace Bits
def txt (l : List Bool) : List UInt8 := (packL l).map UInt8.ofNat
def bitsOf (s : List UInt8) : List Bool := s.flatMap fun b => ofN b.toNat 8
theorem txt_toNat (l : List Bool) : (txt l).map (·.toNat) = packL l := by
  unfold txt
  rw [List.map_map]
  have : ∀ b ∈ packL l, (UInt8.toNat ∘ UInt8.ofNat) b = b := by
    intro b hb
    have := packL_lt l b hb
    simp; omega
  rw [List.map_congr_left this]; simp
theorem bitsOf_nil : bitsOf [] = [] := rfl
theorem bitsOf_cons (b : UInt8) (s : List UInt8) : bitsOf (b :: s) = ofN b.toNat 8 ++ bitsOf s := by simp [bitsOf]
theorem bitsOf_append (s t : List UInt8) : bitsOf (s ++ t) = bitsOf s ++ bitsOf t := by simp [bitsOf]
theorem bitsOf_length (s : List UInt8) : (bitsOf s).length = 8 * s.length := by
  induction s with
  | nil => rfl
  | cons b s ih => rw [bitsOf_cons, List.length_append, ofN_length, ih, List.length_cons]; omega
theorem bitsOf_take (s : List UInt8) (i : Nat) (h : i ≤ s.length) : (bitsOf s).take (8 * i) = bitsOf (s.take i) := by
  conv => lhs; rw [← List.take_append_drop i s]
  rw [bitsOf_append, List.take_append_of_le_length (by rw [bitsOf_length, List.length_take]; omega), List.take_of_length_le (by rw [bitsOf_length, List.length_take]; omega)]
theorem bitsOf_take_succ (s : List UInt8) (i : Nat) (h : i < s.length) : (bitsOf s).take (8 * (i + 1)) = (bitsOf s).take (8 * i) ++ ofN (s.getD i 0).toNat 8 := by
  rw [bitsOf_take s (i + 1) h, bitsOf_take s i (by omega), List.take_succ_eq_append_getElem h, bitsOf_append]
  simp [bitsOf, List.getD_eq_getElem?_getD, h]
theorem ofN_take (v n k : Nat) (h : k ≤ n) : (ofN v n).take k = ofN (v / 2 ^ (n - k)) k := by
  rw [ofN_split v n k h, List.take_append_of_le_length (by rw [ofN_length]; omega), List.take_of_length_le (by rw [ofN_length]; omega)]
theorem bitsOf_take_rest (s : List UInt8) (i r : Nat) (h : i < s.length) (hr : r ≤ 8) : (bitsOf s).take (8 * i + r) = (bitsOf s).take (8 * i) ++ ofN ((s.getD i 0).toNat / 2 ^ (8 - r)) r := by
  have h1 := bitsOf_take_succ s i h
  have h2 : (bitsOf s).take (8 * i + r) = ((bitsOf s).take (8 * (i + 1))).take (8 * i + r) := by
    rw [List.take_take, Nat.min_eq_left (by omega)]
  have h3 : ((bitsOf s).take (8 * i)).length = 8 * i := by rw [List.length_take, bitsOf_length]; omega
  rw [h2, h1, List.take_append, h3, List.take_of_length_le (by omega), show 8 * i + r - 8 * i = r by omega, ofN_take _ _ _ hr]
end Bits
namespace Bits
/-- The bytes with zeros behind. -/
def padL (l : List Bool) (W : Nat) : List Nat := packL l ++ List.replicate (W - (packL l).length) 0
theorem padL_length (l : List Bool) (W : Nat) (h : (packL l).length ≤ W) : (padL l W).length = W := by
  unfold padL; rw [List.length_append, List.length_replicate]; omega
theorem padL_nil (W : Nat) : padL [] W = List.replicate W 0 := by unfold padL; rw [packL_nil]; rfl
theorem padL_full (l : List Bool) : padL l ((l.length + 7) / 8) = packL l := by unfold padL; rw [packL_length, Nat.sub_self]; simp
theorem padL_begun (l : List Bool) (W : Nat) (h : l.length / 8 < W) : padL l W = begunL l ++ List.replicate (W - (l.length / 8 + 1)) 0 := by
  unfold padL begunL
  split
  · rename_i hu
    rw [packL_length, show (l.length + 7) / 8 = l.length / 8 by omega, List.append_assoc]
    congr 1
    rw [show W - l.length / 8 = (W - (l.length / 8 + 1)) + 1 by omega, List.replicate_succ]; rfl
  · rename_i hu
    rw [packL_length, show (l.length + 7) / 8 = l.length / 8 + 1 by omega]
theorem padL_get (l : List Bool) (W : Nat) (h : l.length / 8 < W) : (padL l W)[l.length / 8]? = some (byteB (l.drop (8 * (l.length / 8)))) := by
  rw [padL_begun l W h, List.getElem?_append_left (by rw [begunL_length]; omega)]
  exact begunL_last l
theorem set_same {α : Type} {l : List α} {i : Nat} {x : α} (h : l[i]? = some x) : l.set i x = l := by
  apply List.ext_getElem?
  intro j
  rw [List.getElem?_set]
  by_cases hj : i = j
  · subst hj
    rw [if_pos rfl]
    split
    · exact h.symm
    · rename_i hl; rw [List.getElem?_eq_none (by omega)]
  · rw [if_neg hj]
theorem padL_step (l : List Bool) (b : Bool) (W : Nat) (h : l.length / 8 < W) :
    padL (l ++ [b]) W = if b then (padL l W).set (l.length / 8) (byteB (l.drop (8 * (l.length / 8))) ||| 2 ^ (7 - l.length % 8)) else padL l W := by
  have hs := pack_step l [b] (by simp) (by simp; omega)
  have hl : (packL (l ++ [b])).length = l.length / 8 + 1 := by rw [packL_length, List.length_append]; simp; omega
  have e1 : padL (l ++ [b]) W = packL (l ++ [b]) ++ List.replicate (W - (l.length / 8 + 1)) 0 := by unfold padL; rw [hl]
  rw [e1, hs, padL_begun l W h]
  cases b with
  | true =>
    rw [if_pos rfl]
    have : valB [true] * 2 ^ (8 - l.length % 8 - [true].length) = 2 ^ (7 - l.length % 8) := by
      rw [show valB [true] = 1 from rfl, Nat.one_mul]
      congr 1; simp; omega
    rw [this, List.set_append_left _ _ (by rw [begunL_length]; omega)]
  | false =>
    rw [if_neg (by decide)]
    rw [show valB [false] = 0 from rfl, Nat.zero_mul, Nat.or_zero, set_same (begunL_last l)]
theorem take_snoc (l : List Bool) (i : Nat) (h : i < l.length) : l.take (i + 1) = l.take i ++ [l.getD i false] := by
  rw [List.take_succ_eq_append_getElem h]
  simp [List.getD_eq_getElem?_getD, h]
end Bits
/- Plain mathematics of rows of bits: reading out of a text. -/
namespace Bits

theorem drop_ofN (v u k : Nat) : (ofN v (u + k)).drop u = ofN v k := by
  rw [ofN_split v (u + k) u (by omega), List.drop_append_of_le_length (by rw [ofN_length]; omega), List.drop_eq_nil_of_le (by rw [ofN_length]; omega), show u + k - u = k by omega]; rfl
theorem mid_byte (b u k : Nat) (h : u + k ≤ 8) : (b * 2 ^ u % 256) / 2 ^ (8 - k) = b / 2 ^ (8 - (u + k)) % 2 ^ k := by
  have e1 : (256 : Nat) = 2 ^ u * 2 ^ (8 - u) := by rw [← Nat.pow_add, show u + (8 - u) = 8 by omega]
  have e2 : (2 : Nat) ^ (8 - k) = 2 ^ u * 2 ^ (8 - (u + k)) := by rw [← Nat.pow_add]; congr 1; omega
  have e3 : (2 : Nat) ^ (8 - u) = 2 ^ (8 - (u + k)) * 2 ^ k := by rw [← Nat.pow_add]; congr 1; omega
  rw [e1, e2, Nat.mul_comm b, Nat.mul_mod_mul_left, Nat.mul_div_mul_left _ _ (Nat.two_pow_pos u), e3, Nat.mod_mul_right_div_self]
/-- The bits of a text, some of them. -/
def midT (s : List UInt8) (a n : Nat) : List Bool := ((bitsOf s).drop a).take n
theorem midT_length (s : List UInt8) (a n : Nat) (h : a + n ≤ 8 * s.length) : (midT s a n).length = n := by
  unfold midT; rw [List.length_take, List.length_drop, bitsOf_length]; omega
theorem midT_zero (s : List UInt8) (a : Nat) : midT s a 0 = [] := by simp [midT]
theorem midT_add (s : List UInt8) (a m k : Nat) : midT s a (m + k) = midT s a m ++ midT s (a + m) k := by
  unfold midT; rw [List.take_add, List.drop_drop]
theorem midT_byte (s : List UInt8) (a k : Nat) (h : a / 8 < s.length) (hk : a % 8 + k ≤ 8) : valB (midT s a k) = ((s.getD (a / 8) 0).toNat * 2 ^ (a % 8) % 256) / 2 ^ (8 - k) := by
  have h1 := bitsOf_take_rest s (a / 8) (a % 8 + k) h hk
  have h2 : midT s a k = ((bitsOf s).take (a + k)).drop a := by
    unfold midT; rw [List.drop_take, show a + k - a = k by omega]
  rw [show 8 * (a / 8) + (a % 8 + k) = a + k by omega] at h1
  have h3 : ((bitsOf s).take (8 * (a / 8))).length = 8 * (a / 8) := by rw [List.length_take, bitsOf_length]; omega
  rw [h2, h1, List.drop_append, h3, List.drop_eq_nil_of_le (by rw [h3]; omega), show a - 8 * (a / 8) = a % 8 by omega, List.nil_append, drop_ofN, valB_ofN, mid_byte _ _ _ hk]
theorem midT_step (s : List UInt8) (a m k : Nat) (h : (a + m) / 8 < s.length) (hk : (a + m) % 8 + k ≤ 8) :
    valB (midT s a (m + k)) = valB (midT s a m) * 2 ^ k ||| ((s.getD ((a + m) / 8) 0).toNat * 2 ^ ((a + m) % 8) % 256) / 2 ^ (8 - k) := by
  have h1 := midT_byte s (a + m) k h hk
  have h2 : (midT s (a + m) k).length = k := midT_length _ _ _ (by omega)
  have h3 := valB_lt (midT s (a + m) k)
  rw [h2] at h3
  rw [midT_add, valB_append, h2, ← h1, or_disjoint _ _ _ h3]
theorem midT_lt (s : List UInt8) (a n : Nat) : valB (midT s a n) < 2 ^ n := by
  have h := valB_lt (midT s a n)
  have h2 : (midT s a n).length ≤ n := by unfold midT; rw [List.length_take]; omega
  exact Nat.lt_of_lt_of_le h (Nat.pow_le_pow_right (by omega) h2)
end Bits
namespace Go.Proofs.Ytlhfolmhgghjcaa
open Go.Wvm Bits
set_option linter.unusedVariables false
set_option linter.unusedSimpArgs false

def RdAt (M : AM) (r : Nat) (s : List UInt8) (at' : Nat) : Prop := M.get r = some (.row [.string ⟨⟨s⟩⟩, .int .i64 (at' : Int)] 0 (some (83, 0)))
def rdO (s : List UInt8) (at' : Nat) : AO := .row [.string ⟨⟨s⟩⟩, .int .i64 (at' : Int)] 0 (some (83, 0))

theorem open_ok {ro : Nat} {M : AM} {s : List UInt8} : FnC Try.prog tables ro 19 [.string ⟨⟨s⟩⟩] M (fun r M' => r = .pointer (some ⟨M.next, 0, none⟩) ∧ M' = M.add (rdO s 0)) := by
  refine FnC.body (nt := 6) ok hm fn19 rfl rfl ?_
  (repeat (first
    | refine Ex.seq ok hm ?_
    | refine Ex.region ok hm ?_
    | refine Sq.pu ok hm Want.none (by first
    | exact Pu.move rfl
    | exact Pu.assign rfl) rfl ?_
    | refine Sq.finH (n := 5) ok hm (by repeat (first
    | exact Keep.nil
    | apply Keep.keep rfl)) ?_))
  refine Sq.pu ok hm Want.none (Pu.build hT rfl rfl rfl rfl) rfl ?_
  refine Sq.op ok hm Want.none (Op1.box rfl rfl) rfl ?_
  (repeat (first
    | refine Sq.pu ok hm Want.none (by exact Pu.assign rfl) rfl ?_
    | refine Sq.finH (n := 5) ok hm (by repeat (first
    | exact Keep.nil
    | apply Keep.drop rfl
    | apply Keep.keep rfl)) ?_
    | refine Ex.ret ok hm ?_))
  exact ⟨_, .tmp rfl .nil, rfl, rfl⟩

theorem left_ok {ro : Nat} {M : AM} {r at' : Nat} {s : List UInt8} (h : RdAt M r s at') (ha : at' ≤ 8 * s.length) (hs : s.length ≤ 1152921504606846000) :
    FnC Try.prog tables ro 23 [.pointer (some ⟨r, 0, none⟩)] M (fun v M' => v = .int .i64 (8 * (s.length : Int) - at') ∧ M' = M) := by
  refine FnC.body (nt := 16) ok hm fn23 rfl rfl ?_
  have hrow : M.get r = some (.row [.string ⟨⟨s⟩⟩, .int .i64 (at' : Int)] 0 (some (83, 0))) := h
  (repeat (first
    | refine Ex.seq ok hm ?_
    | refine Ex.skip ok hm ?_
    | refine Ex.region ok hm ?_
    | refine Sq.pu ok hm Want.none (by first
    | exact Pu.move rfl
    | exact Pu.assign rfl
    | exact Pu.eqlP hT rfl rfl rfl) rfl ?_
    | refine Sq.finH (n := 3) ok hm (by repeat (first
    | exact Keep.nil
    | apply Keep.drop rfl
    | apply Keep.keep rfl)) ?_
    | refine Ex.condF ok hm rfl (by rfl) ?_))
  refine Ex.draw ok hm 10 (by kernel_rfl) ?_
  (repeat (first
    | refine Hq.pu Want.none (by first
    | exact Pu.move rfl
    | exact Pu.nilCheck rfl
    | exact Pu.fieldAddr hT rfl rfl rfl rfl rfl
    | (apply Pu.load hT rfl rfl rfl; (focus ((repeat (assumption)))); (focus rfl))
    | exact Pu.lenS hT rfl rfl
    | exact Pu.mul rfl rfl (by simp only [InR]; omega)) rfl rfl rfl ?_
    | refine Hq.nil ?_
    | refine Tq.pu Want.none (by first
    | exact Pu.assign rfl
    | exact Pu.sub rfl rfl (by simp only [InR]; omega)) rfl ?_
    | refine Tq.finH (n := 3)  (by repeat (first
    | exact Keep.nil
    | apply Keep.drop rfl
    | apply Keep.keep rfl)) ?_
    | refine Ex.ret ok hm ?_))
  exact ⟨_, .tmp rfl .nil, rfl, rfl⟩

theorem at_ok {ro : Nat} {M : AM} {r at' : Nat} {s : List UInt8} (h : RdAt M r s at') :
    FnC Try.prog tables ro 22 [.pointer (some ⟨r, 0, none⟩)] M (fun v M' => v = .int .i64 at' ∧ M' = M) := by
  refine FnC.body (nt := 9) ok hm fn22 rfl rfl ?_
  have hrow : M.get r = some (.row [.string ⟨⟨s⟩⟩, .int .i64 (at' : Int)] 0 (some (83, 0))) := h
  (repeat (first
    | refine Ex.seq ok hm ?_
    | refine Ex.skip ok hm ?_
    | refine Ex.region ok hm ?_
    | refine Sq.pu ok hm Want.none (by first
    | exact Pu.move rfl
    | exact Pu.assign rfl
    | exact Pu.nilCheck rfl
    | exact Pu.fieldAddr hT rfl rfl rfl rfl rfl
    | (apply Pu.load hT rfl rfl rfl; (focus ((repeat (assumption)))); (focus rfl))
    | exact Pu.eqlP hT rfl rfl rfl) rfl ?_
    | refine Sq.finH (n := 3) ok hm (by repeat (first
    | exact Keep.nil
    | apply Keep.drop rfl
    | apply Keep.keep rfl)) ?_
    | refine Ex.condF ok hm rfl (by rfl) ?_
    | refine Ex.ret ok hm ?_))
  exact ⟨_, .tmp rfl .nil, rfl, rfl⟩

set_option maxHeartbeats 4000000 in
theorem seek_ok {ro : Nat} {M : AM} {r at' : Nat} {s : List UInt8} {n : Int} (hr : ro ≤ r) (h : RdAt M r s at') (hn : InR .i64 n) (hs : s.length ≤ 1152921504606846000) :
    FnC Try.prog tables ro 20 [.pointer (some ⟨r, 0, none⟩), .int .i64 n] M (fun v M' => v = .int .i64 (if 0 ≤ n ∧ n ≤ 8 * (s.length : Int) then 0 else 1) ∧ RdAt M' r s (if 0 ≤ n ∧ n ≤ 8 * (s.length : Int) then n.toNat else at') ∧ Fr M M' [r]) := by
  refine FnC.body (nt := 23) ok hm fn20 rfl rfl ?_
  have hrow : M.get r = some (.row [.string ⟨⟨s⟩⟩, .int .i64 (at' : Int)] 0 (some (83, 0))) := h
  by_cases h1 : n < 0
  · rw [if_neg (by omega), if_neg (by omega)]
    (repeat (first
    | refine Ex.seq ok hm ?_
    | refine Ex.skip ok hm ?_
    | refine Ex.region ok hm ?_
    | refine Sq.pu ok hm Want.none (by first
    | exact Pu.move rfl
    | exact Pu.assign rfl
    | exact Pu.lssI rfl rfl
    | exact Pu.eqlP hT rfl rfl rfl
    | exact Pu.pickT rfl (by first
    | rfl
    | exact decide_eq_true (by omega)) rfl) rfl ?_
    | refine Sq.skip ok hm (by exact Want.no rfl rfl rfl (by first
    | rfl
    | exact decide_eq_true (by omega))) rfl ?_
    | refine Sq.finH (n := 5) ok hm (by repeat (first
    | exact Keep.nil
    | apply Keep.drop rfl
    | apply Keep.keep rfl)) ?_
    | refine Ex.condT ok hm rfl (by rfl) ?_
    | refine Ex.condF ok hm rfl (by rfl) ?_
    | refine Ex.ret ok hm ?_))
    exact ⟨_, .tmp rfl .nil, rfl, h, Fr.refl _ _⟩
  · by_cases h2 : 8 * (s.length : Int) < n
    · rw [if_neg (by omega), if_neg (by omega)]
      (repeat (first
    | refine Ex.seq ok hm ?_
    | refine Ex.skip ok hm ?_
    | refine Ex.region ok hm ?_
    | refine Sq.pu ok hm Want.none (by first
    | exact Pu.move rfl
    | exact Pu.assign rfl
    | exact Pu.nilCheck rfl
    | exact Pu.fieldAddr hT rfl rfl rfl rfl rfl
    | (apply Pu.load hT rfl rfl rfl; (focus ((repeat (assumption)))); (focus rfl))
    | exact Pu.lssI rfl rfl
    | exact Pu.gtrI rfl rfl
    | exact Pu.lenS hT rfl rfl
    | exact Pu.mul rfl rfl (by simp only [InR]; omega)
    | exact Pu.eqlP hT rfl rfl rfl
    | exact Pu.pickF rfl (by first
    | rfl
    | exact decide_eq_false (by omega)) rfl) rfl ?_
    | refine Sq.pu ok hm (by exact Want.yes rfl rfl rfl (by first
    | rfl
    | exact decide_eq_false (by omega))) (by first
    | exact Pu.move rfl
    | exact Pu.nilCheck rfl
    | exact Pu.fieldAddr hT rfl rfl rfl rfl rfl
    | (apply Pu.load hT rfl rfl rfl; (focus ((repeat (assumption)))); (focus rfl))
    | exact Pu.gtrI rfl rfl
    | exact Pu.lenS hT rfl rfl
    | exact Pu.mul rfl rfl (by simp only [InR]; omega)) rfl ?_
    | refine Sq.finH (n := 5) ok hm (by repeat (first
    | exact Keep.nil
    | apply Keep.drop rfl
    | apply Keep.keep rfl)) ?_
    | refine Ex.condT ok hm rfl (by first
    | rfl
    | exact decide_eq_true (by omega)) ?_
    | refine Ex.condF ok hm rfl (by rfl) ?_
    | refine Ex.ret ok hm ?_))
      exact ⟨_, .tmp rfl .nil, rfl, h, Fr.refl _ _⟩
    · rw [if_pos (by omega), if_pos (by omega)]
      (repeat (first
    | refine Ex.seq ok hm ?_
    | refine Ex.skip ok hm ?_
    | refine Ex.region ok hm ?_
    | refine Sq.pu ok hm Want.none (by first
    | exact Pu.move rfl
    | exact Pu.assign rfl
    | exact Pu.nilCheck rfl
    | exact Pu.fieldAddr hT rfl rfl rfl rfl rfl
    | (apply Pu.load hT rfl rfl rfl; (focus ((repeat (assumption)))); (focus rfl))
    | exact Pu.lssI rfl rfl
    | exact Pu.gtrI rfl rfl
    | exact Pu.lenS hT rfl rfl
    | exact Pu.mul rfl rfl (by simp only [InR]; omega)
    | exact Pu.eqlP hT rfl rfl rfl
    | exact Pu.pickF rfl (by first
    | rfl
    | exact decide_eq_false (by omega)) rfl) rfl ?_
    | refine Sq.pu ok hm (by exact Want.yes rfl rfl rfl (by first
    | rfl
    | exact decide_eq_false (by omega))) (by first
    | exact Pu.move rfl
    | exact Pu.nilCheck rfl
    | exact Pu.fieldAddr hT rfl rfl rfl rfl rfl
    | (apply Pu.load hT rfl rfl rfl; (focus ((repeat (assumption)))); (focus rfl))
    | exact Pu.gtrI rfl rfl
    | exact Pu.lenS hT rfl rfl
    | exact Pu.mul rfl rfl (by simp only [InR]; omega)) rfl ?_
    | refine Sq.finH (n := 5) ok hm (by repeat (first
    | exact Keep.nil
    | apply Keep.drop rfl
    | apply Keep.keep rfl)) ?_
    | refine Ex.condF ok hm rfl (by first
    | rfl
    | exact decide_eq_false (by omega)) ?_))
      refine Sq.act ok hm Want.none (Op1.store hT rfl rfl rfl rfl (by (repeat (assumption))) hr (Nat.le_of_ble_eq_true rfl) (Nat.le_of_ble_eq_true rfl) rfl) ?_
      (repeat (first
    | refine Ex.seq ok hm ?_
    | refine Ex.region ok hm ?_
    | refine Sq.pu ok hm Want.none (by exact Pu.assign rfl) rfl ?_
    | refine Sq.finH (n := 5) ok hm (by repeat (first
    | exact Keep.nil
    | apply Keep.drop rfl
    | apply Keep.keep rfl)) ?_
    | refine Ex.ret ok hm ?_))
      refine ⟨_, .tmp rfl .nil, rfl, ?_, (Fr.refl _ _).upd' _ (.inl (by simp))⟩
      unfold RdAt
      rw [show ((n.toNat : Nat) : Int) = n by omega]
      exact AM.upd_same

theorem share_ok {ro : Nat} {M : AM} {a v part k : Nat} (ha : ro ≤ a) (h : M.get a = some (.row [.int .u64 (v : Int)] 0 (some (25, 0)))) (hk : k ≤ 8) (hp : part < 256) (hv : v * 2 ^ k < 18446744073709551616) :
    FnC Try.prog tables ro 39 [.int .u8 (part : Int), .int .i64 (k : Int), .pointer (some ⟨a, 0, none⟩)] M (fun _ M' => M' = M.upd a (.row [.int .u64 ((v * 2 ^ k ||| part : Nat) : Int)] 0 (some (25, 0)))) := by
  refine FnC.body (nt := 11) ok hm fn39 rfl rfl ?_
  have e1 : (v : Int) * 2 ^ ((k : Int)).toNat % 18446744073709551616 = ((v * 2 ^ k : Nat) : Int) := by
    rw [Int.toNat_natCast]
    have : (v : Int) * 2 ^ k = ((v * 2 ^ k : Nat) : Int) := by simp
    rw [this]; omega
  have hor : v * 2 ^ k ||| part < 2 ^ 64 := Nat.or_lt_two_pow (by omega) (by omega)
  refine Ex.region ok hm ?_
  refine Sq.pu ok hm Want.none (by (apply Pu.load hT rfl rfl rfl; (focus ((repeat (assumption)))); (focus rfl))) rfl ?_
  refine Sq.pu ok hm Want.none (by exact Pu.move rfl) rfl ?_
  refine Sq.pu ok hm Want.none (by exact Pu.shlU64 rfl rfl (by omega) (by omega)) rfl ?_
  rw [e1]
  refine Sq.pu ok hm Want.none (by exact Pu.move rfl) rfl ?_
  refine Sq.pu ok hm Want.none (by exact Pu.convN hT rfl rfl rfl (by simp only [InR]; omega)) rfl ?_
  refine Sq.pu ok hm Want.none (Pu.or rfl rfl (by omega) (by omega) (by simp only [InR]; omega) (by simp only [InR]; omega)) rfl ?_
  rw [Int.toNat_natCast, Int.toNat_natCast]
  refine Sq.act ok hm Want.none (Op1.store hT rfl rfl rfl rfl h ha (Nat.le_of_ble_eq_true rfl) (Nat.le_of_ble_eq_true rfl) rfl) ?_
  refine Sq.nil ok hm ?_
  exact ⟨_, .nil, rfl⟩

set_option maxHeartbeats 4000000 in
theorem over_ok {ro : Nat} {M : AM} {r a at' n : Nat} {s : List UInt8} (hr : ro ≤ r) (ha : ro ≤ a) (hra : r ≠ a) (h : RdAt M r s at') (hb : M.get a = some (.row [.int .u64 (0 : Nat)] 0 (some (25, 0)))) (hn : n ≤ 64) (hat : at' + n ≤ 8 * s.length) (hs : s.length ≤ 1152921504606846000) :
    FnC Try.prog tables ro 38 [.pointer (some ⟨r, 0, none⟩), .int .i64 (n : Int), .func (.func 39) ⟨[]⟩ ⟨[.pointer (some ⟨a, 0, none⟩)]⟩] M
      (fun _ M' => RdAt M' r s (at' + n) ∧ M'.get a = some (.row [.int .u64 (valB (midT s at' n) : Nat)] 0 (some (25, 0))) ∧ Fr M M' [r, a]) := by
  refine FnC.body (nt := 48) ok hm fn38 rfl rfl ?_
  (repeat (refine Ex.block ok hm ?_))
  refine Ex.loop ?_
  refine Lp.inv ok hm (α := Nat)
    (fun m E M' => E = [(0, .pointer (some ⟨r, 0, none⟩)), (1, .int .i64 ((n : Int) - m)), (2, .func (.func 39) ⟨[]⟩ ⟨[.pointer (some ⟨a, 0, none⟩)]⟩)] ∧ m ≤ n ∧ RdAt M' r s (at' + m) ∧ M'.get a = some (.row [.int .u64 (valB (midT s at' m) : Nat)] 0 (some (25, 0))) ∧ Fr M M' [r, a])
    (fun m => n - m) ?_ 0 [(0, .pointer (some ⟨r, 0, none⟩)), (1, .int .i64 ((n : Int) - (0 : Nat))), (2, .func (.func 39) ⟨[]⟩ ⟨[.pointer (some ⟨a, 0, none⟩)]⟩)] ⟨rfl, by rw [show (n : Int) - (0 : Nat) = n by omega]; rfl, rfl, trivial⟩ ⟨rfl, Nat.zero_le _, h, by rw [midT_zero]; exact hb, Fr.refl _ _⟩
  intro m E M1 ⟨hE, hm1, h1, hb1, hF⟩
  subst hE
  by_cases hmn : m = n
  · (repeat (first
    | refine Ex.seq ok hm ?_
    | refine Ex.region ok hm ?_
    | refine Sq.pu ok hm Want.none (by first
    | exact Pu.move rfl
    | exact Pu.gtrI rfl rfl) rfl ?_
    | refine Sq.finH (n := 8) ok hm (by repeat (first
    | exact Keep.nil
    | apply Keep.drop rfl
    | apply Keep.keep rfl)) ?_
    | refine Ex.condF ok hm rfl (by first
    | rfl
    | exact decide_eq_false (by omega)) ?_
    | refine Ex.exit ok hm ?_))
    refine ⟨_, .nil, ?_, ?_, hF⟩
    · rw [← hmn]; exact h1
    · rw [← hmn]; exact hb1
  · have hrow : M1.get r = some (.row [.string ⟨⟨s⟩⟩, .int .i64 ((at' + m : Nat) : Int)] 0 (some (83, 0))) := h1
    have hlt := midT_lt s at' m
    (repeat (first
    | refine Ex.seq ok hm ?_
    | refine Ex.block ok hm ?_
    | refine Ex.skip ok hm ?_
    | refine Ex.region ok hm ?_
    | refine Sq.pu ok hm Want.none (by first
    | exact Pu.move rfl
    | exact Pu.assign rfl
    | exact Pu.nilCheck rfl
    | exact Pu.fieldAddr hT rfl rfl rfl rfl rfl
    | (apply Pu.load hT rfl rfl rfl; (focus ((repeat (assumption)))); (focus rfl))
    | exact Pu.sub rfl rfl (by simp only [InR]; omega)
    | exact Pu.rem rfl rfl (by omega) (by omega)
    | exact Pu.gtrI rfl rfl
    | exact Pu.min2 rfl rfl) rfl ?_
    | refine Sq.finH (n := 8) ok hm (by repeat (first
    | exact Keep.nil
    | apply Keep.drop rfl
    | apply Keep.keep rfl)) ?_
    | refine Ex.condT ok hm rfl (by first
    | rfl
    | exact decide_eq_true (by omega)) ?_))
    have hi8 : (at' + m) / 8 < s.length := by omega
    have hbyte := (s.getD ((at' + m) / 8) 0).toNat_lt
    obtain ⟨k, hk⟩ : ∃ k : Nat, min (8 - ((at' + m : Nat) : Int) % 8) ((n : Int) - m) = (k : Int) := ⟨_, (Int.toNat_of_nonneg (by omega)).symm⟩
    rw [hk]
    have hk1 : 1 ≤ k ∧ (at' + m) % 8 + k ≤ 8 ∧ m + k ≤ n := by omega
    refine Ex.draw ok hm 17 (by kernel_rfl) ?_
    (repeat (first
    | refine Hq.pu Want.none (by first
    | exact Pu.move rfl
    | exact Pu.nilCheck rfl
    | exact Pu.fieldAddr hT rfl rfl rfl rfl rfl
    | (apply Pu.load hT rfl rfl rfl; (focus ((repeat (assumption)))); (focus rfl))
    | exact Pu.sub rfl rfl (by simp only [InR]; omega)
    | exact Pu.quo rfl rfl (by omega) (by omega) (by simp only [InR]; omega)
    | exact Pu.indexS hT rfl rfl rfl (by omega) (by omega)
    | exact Pu.shr rfl rfl (by omega) (by omega) (by simp only [InR]; omega)
    | exact Pu.shlU8 rfl rfl (by omega) (by omega)) rfl rfl rfl ?_
    | refine Hq.nil ?_))
    have hpart : (((s.getD (((at' + m : Nat) : Int) / 8).toNat 0).toNat : Nat) : Int) * 2 ^ (((at' + m : Nat) : Int) % 8).toNat % 256 / 2 ^ (8 - (k : Int)).toNat = (((s.getD ((at' + m) / 8) 0).toNat * 2 ^ ((at' + m) % 8) % 256 / 2 ^ (8 - k) : Nat) : Int) := by
      rw [show (((at' + m : Nat) : Int) / 8).toNat = (at' + m) / 8 by omega, show (((at' + m : Nat) : Int) % 8).toNat = (at' + m) % 8 by omega, show (8 - (k : Int)).toNat = 8 - k by omega]
      simp
    rw [hpart]
    have hstep := midT_step s at' m k hi8 hk1.2.1
    have hlt2 : valB (midT s at' m) * 2 ^ k < 18446744073709551616 := by
      have h2 : valB (midT s at' m) * 2 ^ k < 2 ^ m * 2 ^ k := Nat.mul_lt_mul_of_pos_right hlt (Nat.two_pow_pos k)
      rw [← Nat.pow_add] at h2
      exact Nat.lt_of_lt_of_le h2 (Nat.pow_le_pow_right (by omega) (show m + k ≤ 64 by omega))
    refine Tq.call Want.none (Op1.call rfl rfl fn39) rfl (FnC.mono (share_ok ha hb1 (by omega) (Nat.lt_of_le_of_lt (Nat.div_le_self _ _) (Nat.mod_lt _ (by decide))) hlt2) ?_)
    rintro x M2 rfl
    rw [← hstep]
    refine Tq.finH (n := 8) (by repeat (first
    | exact Keep.nil
    | apply Keep.drop rfl
    | apply Keep.keep rfl)) ?_
    have hrow2 : (M1.upd a (.row [.int .u64 ((valB (midT s at' (m + k)) : Nat) : Int)] 0 (some (25, 0)))).get r = some (.row [.string ⟨⟨s⟩⟩, .int .i64 ((at' + m : Nat) : Int)] 0 (some (83, 0))) := (AM.upd_ne hra).trans hrow
    (repeat (first
    | refine Ex.seq ok hm ?_
    | refine Ex.region ok hm ?_
    | refine Sq.pu ok hm Want.none (by first
    | exact Pu.move rfl
    | exact Pu.nilCheck rfl
    | exact Pu.fieldAddr hT rfl rfl rfl rfl rfl
    | (apply Pu.load hT rfl rfl rfl; (focus ((repeat (assumption)))); (focus rfl))
    | exact Pu.add rfl rfl (by simp only [InR]; omega)) rfl ?_))
    refine Sq.act ok hm Want.none (Op1.store hT rfl rfl rfl rfl hrow2 hr (Nat.le_of_ble_eq_true rfl) (Nat.le_of_ble_eq_true rfl) rfl) ?_
    (repeat (first
    | refine Ex.region ok hm ?_
    | refine Sq.pu ok hm Want.none (by first
    | exact Pu.move rfl
    | exact Pu.assign rfl
    | exact Pu.sub rfl rfl (by simp only [InR]; omega)) rfl ?_
    | refine Sq.finH (n := 8) ok hm (by repeat (first
    | exact Keep.nil
    | apply Keep.drop rfl
    | apply Keep.keep rfl)) ?_))
    refine ⟨m + k, [(0, .pointer (some ⟨r, 0, none⟩)), (1, .int .i64 ((n : Int) - (m + k : Nat))), (2, .func (.func 39) ⟨[]⟩ ⟨[.pointer (some ⟨a, 0, none⟩)]⟩)], ?_, ⟨rfl, ?_, rfl, trivial⟩, rfl, by omega, ?_, ?_, ?_⟩
    · show n - (m + k) < n - m
      omega
    · rw [show (n : Int) - (m + k : Nat) = (n : Int) - m - k by omega]; rfl
    · unfold RdAt
      refine AM.upd_same.trans ?_
      rw [show ((at' + (m + k) : Nat) : Int) = ((at' + m : Nat) : Int) + k by omega]; rfl
    · exact (AM.upd_ne (Ne.symm hra)).trans AM.upd_same
    · exact (hF.upd' _ (.inl (by simp))).upd' _ (.inl (by simp))

/-- What a reader answers to Take. -/
def takeE (s : List UInt8) (at' : Nat) (n : Int) : Nat × Int × Nat :=
  if n < 0 ∨ 64 < n then (0, 1, at') else if 8 * (s.length : Int) - at' < n then (0, 4, at') else (valB (midT s at' n.toNat), 0, at' + n.toNat)

set_option maxHeartbeats 4000000 in
theorem take_ok {ro : Nat} {M : AM} {r at' : Nat} {n : Int} {s : List UInt8} (hr : ro ≤ r) (h : RdAt M r s at') (hn : InR .i64 n) (hat : at' ≤ 8 * s.length) (hs : s.length ≤ 1152921504606846000) :
    FnC Try.prog tables ro 21 [.pointer (some ⟨r, 0, none⟩), .int .i64 n] M
      (fun v M' => v = .tuple ⟨[.int .u64 ((takeE s at' n).1 : Nat), .int .i64 (takeE s at' n).2.1]⟩ ∧ RdAt M' r s (takeE s at' n).2.2 ∧ Fr M M' [r]) := by
  refine FnC.body (nt := 27) ok hm fn21 rfl rfl ?_
  refine Ex.facts fun hlt hron => ?_
  have hrl := hlt _ _ h
  simp only [InR] at hn
  by_cases h1 : n < 0
  · have e : takeE s at' n = (0, 1, at') := by unfold takeE; rw [if_pos (.inl h1)]
    rw [e]
    (repeat (first
    | refine Ex.seq ok hm ?_
    | refine Ex.block ok hm ?_
    | refine Ex.region ok hm ?_
    | refine Sq.pu ok hm Want.none (by first
    | exact Pu.move rfl
    | exact Pu.assign rfl
    | exact Pu.lssI rfl rfl
    | exact Pu.eqlP hT rfl rfl rfl
    | exact Pu.pickT rfl (by first
    | rfl
    | exact decide_eq_true (by omega)) rfl) rfl ?_
    | refine Sq.skip ok hm (by exact Want.no rfl rfl rfl (by first
    | rfl
    | exact decide_eq_true (by omega))) rfl ?_
    | refine Sq.finH (n := 7) ok hm (by repeat (first
    | exact Keep.nil
    | apply Keep.drop rfl
    | apply Keep.keep rfl)) ?_
    | refine Ex.condT ok hm rfl (by rfl) ?_
    | refine Ex.condF ok hm rfl (by rfl) ?_
    | refine Ex.ret ok hm ?_))
    exact ⟨_, .tmp rfl (.tmp rfl .nil), rfl, h, Fr.refl _ _⟩
  · by_cases h2 : 64 < n
    · have e : takeE s at' n = (0, 1, at') := by unfold takeE; rw [if_pos (.inr h2)]
      rw [e]
      (repeat (first
    | refine Ex.seq ok hm ?_
    | refine Ex.block ok hm ?_
    | refine Ex.region ok hm ?_
    | refine Sq.pu ok hm Want.none (by first
    | exact Pu.move rfl
    | exact Pu.assign rfl
    | exact Pu.lssI rfl rfl
    | exact Pu.gtrI rfl rfl
    | exact Pu.eqlP hT rfl rfl rfl
    | exact Pu.pickF rfl (by first
    | rfl
    | exact decide_eq_false (by omega)) rfl) rfl ?_
    | refine Sq.pu ok hm (by exact Want.yes rfl rfl rfl (by first
    | rfl
    | exact decide_eq_false (by omega))) (by first
    | exact Pu.move rfl
    | exact Pu.gtrI rfl rfl) rfl ?_
    | refine Sq.finH (n := 7) ok hm (by repeat (first
    | exact Keep.nil
    | apply Keep.drop rfl
    | apply Keep.keep rfl)) ?_
    | refine Ex.condT ok hm rfl (by first
    | rfl
    | exact decide_eq_true (by omega)) ?_
    | refine Ex.condF ok hm rfl (by rfl) ?_
    | refine Ex.ret ok hm ?_))
      exact ⟨_, .tmp rfl (.tmp rfl .nil), rfl, h, Fr.refl _ _⟩
    · (repeat (first
    | refine Ex.seq ok hm ?_
    | refine Ex.block ok hm ?_
    | refine Ex.region ok hm ?_
    | refine Sq.pu ok hm Want.none (by first
    | exact Pu.move rfl
    | exact Pu.assign rfl
    | exact Pu.lssI rfl rfl
    | exact Pu.gtrI rfl rfl
    | exact Pu.eqlP hT rfl rfl rfl
    | exact Pu.pickF rfl (by first
    | rfl
    | exact decide_eq_false (by omega)) rfl) rfl ?_
    | refine Sq.pu ok hm (by first
    | exact Want.none
    | exact Want.yes rfl rfl rfl (by first
    | rfl
    | exact decide_eq_false (by omega))) (by first
    | exact Pu.move rfl
    | exact Pu.gtrI rfl rfl) rfl ?_
    | refine Sq.finH (n := 7) ok hm (by repeat (first
    | exact Keep.nil
    | apply Keep.drop rfl
    | apply Keep.keep rfl)) ?_
    | refine Ex.condF ok hm rfl (by first
    | rfl
    | exact decide_eq_false (by omega)) ?_))
      refine Sq.call ok Want.none (Op1.call rfl rfl fn23) rfl (FnC.mono (left_ok h hat hs) ?_)
      rintro x M1 ⟨rfl, rfl⟩
      by_cases h3 : 8 * (s.length : Int) - at' < n
      · have e : takeE s at' n = (0, 4, at') := by unfold takeE; rw [if_neg (by omega), if_pos h3]
        rw [e]
        (repeat (first
    | refine Ex.seq ok hm ?_
    | refine Ex.region ok hm ?_
    | refine Sq.pu ok hm Want.none (by first
    | exact Pu.assign rfl
    | exact Pu.gtrI rfl rfl) rfl ?_
    | refine Sq.finH (n := 7) ok hm (by repeat (first
    | exact Keep.nil
    | apply Keep.drop rfl
    | apply Keep.keep rfl)) ?_
    | refine Ex.condT ok hm rfl (by first
    | rfl
    | exact decide_eq_true (by omega)) ?_
    | refine Ex.ret ok hm ?_))
        exact ⟨_, .tmp rfl (.tmp rfl .nil), rfl, h, Fr.refl _ _⟩
      · have e : takeE s at' n = (valB (midT s at' n.toNat), 0, at' + n.toNat) := by unfold takeE; rw [if_neg (by omega), if_neg h3]
        rw [e]
        (repeat (first
    | refine Ex.seq ok hm ?_
    | refine Ex.skip ok hm ?_
    | refine Ex.region ok hm ?_
    | refine Sq.pu ok hm Want.none (by first
    | exact Pu.assign rfl
    | exact Pu.gtrI rfl rfl) rfl ?_
    | refine Sq.finH (n := 7) ok hm (by repeat (first
    | exact Keep.nil
    | apply Keep.drop rfl
    | apply Keep.keep rfl)) ?_
    | refine Ex.condF ok hm rfl (by first
    | rfl
    | exact decide_eq_false (by omega)) ?_))
        refine Sq.op ok hm Want.none (Op1.alloc hT rfl rfl rfl) rfl ?_
        (repeat (first
    | refine Ex.seq ok hm ?_
    | refine Ex.region ok hm ?_
    | refine Sq.pu ok hm Want.none (by exact Pu.move rfl) rfl ?_
    | refine Sq.finH (n := 7) ok hm (by repeat (first
    | exact Keep.nil
    | apply Keep.drop rfl
    | apply Keep.keep rfl)) ?_))
        refine Sq.pu ok hm Want.none (Pu.makeFunc rfl rfl) rfl ?_
        have h5 : RdAt (M1.add (.row [.int .u64 0] 0 (some (25, 0)))) r s at' := (AM.add_ne (by omega)).trans h
        have h6 : (M1.add (.row [.int .u64 (0 : Nat)] 0 (some (25, 0)))).get M1.next = some (.row [.int .u64 (0 : Nat)] 0 (some (25, 0))) := AM.add_same
        have e2 : (.int .i64 n : Value) = .int .i64 (n.toNat : Int) := by rw [show ((n.toNat : Nat) : Int) = n by omega]
        refine Sq.call ok Want.none (Op1.call rfl rfl fn38) rfl ?_
        show FnC Try.prog tables ro 38 [.pointer (some ⟨r, 0, none⟩), .int .i64 n, .func (.func 39) ⟨[]⟩ ⟨[.pointer (some ⟨M1.next, 0, none⟩)]⟩] (M1.add (.row [.int .u64 (0 : Nat)] 0 (some (25, 0)))) _
        rw [e2]
        refine FnC.mono (over_ok hr hron (by omega) h5 h6 (by omega) (by omega) hs) ?_
        rintro x M2 ⟨h7, h8, hF⟩
        (repeat (first
    | refine Ex.seq ok hm ?_
    | refine Ex.region ok hm ?_
    | refine Sq.pu ok hm Want.none (by first
    | exact Pu.assign rfl
    | (apply Pu.load hT rfl rfl rfl; (focus ((repeat (assumption)))); (focus rfl))) rfl ?_
    | refine Sq.finH (n := 7) ok hm (by repeat (first
    | exact Keep.nil
    | apply Keep.drop rfl
    | apply Keep.keep rfl)) ?_
    | refine Ex.ret ok hm ?_))
        refine ⟨_, .tmp rfl (.tmp rfl .nil), rfl, h7, (Fr.add M1 _ [r]).trans hF (fun b hb => ?_)⟩
        simp only [List.mem_cons, List.not_mem_nil, or_false] at hb ⊢
        omega

set_option maxHeartbeats 4000000 in
theorem rdBit_ok {ro : Nat} {M : AM} {r at' : Nat} {s : List UInt8} (hr : ro ≤ r) (h : RdAt M r s at') (hat : at' ≤ 8 * s.length) (hs : s.length ≤ 1152921504606846000) :
    FnC Try.prog tables ro 31 [.pointer (some ⟨r, 0, none⟩)] M
      (fun v M' => v = .tuple ⟨[.bool (decide ((takeE s at' 1).1 = 1)), .int .i64 (takeE s at' 1).2.1]⟩ ∧ RdAt M' r s (takeE s at' 1).2.2 ∧ Fr M M' [r]) := by
  refine FnC.body (nt := 14) ok hm fn31 rfl rfl ?_
  (repeat (first
    | refine Ex.seq ok hm ?_
    | refine Ex.region ok hm ?_
    | refine Sq.pu ok hm Want.none (by first
    | exact Pu.move rfl
    | exact Pu.assign rfl) rfl ?_
    | refine Sq.finH (n := 7) ok hm (by repeat (first
    | exact Keep.nil
    | apply Keep.keep rfl)) ?_))
  refine Sq.call ok Want.none (Op1.call rfl rfl fn21) rfl (FnC.mono (take_ok (n := 1) hr h (by simp only [InR]; omega) hat hs) ?_)
  rintro x M1 ⟨rfl, h1, hF⟩
  (repeat (first
    | refine Ex.seq ok hm ?_
    | refine Ex.region ok hm ?_
    | refine Sq.pu ok hm Want.none (by first
    | exact Pu.move rfl
    | exact Pu.assign rfl
    | exact Pu.extract rfl rfl
    | exact Pu.eqlI rfl rfl) rfl ?_
    | refine Sq.finH (n := 7) ok hm (by repeat (first
    | exact Keep.nil
    | apply Keep.drop rfl
    | apply Keep.keep rfl)) ?_
    | refine Ex.ret ok hm ?_))
  refine ⟨_, .tmp rfl (.tmp rfl .nil), ?_, h1, hF⟩
  have e : decide (((takeE s at' 1).1 : Int) = 1) = decide ((takeE s at' 1).1 = 1) := by
    rw [Bool.eq_iff_iff, decide_eq_true_eq, decide_eq_true_eq]; omega
  rw [e]; rfl
end Go.Proofs.Ytlhfolmhgghjcaa
namespace Go.Proofs.Ytlhfolmhgghjcaa
open Go.Wvm Bits
set_option linter.unusedVariables false
set_option linter.unusedSimpArgs false

abbrev u8v (n : Nat) : Value := .int .u8 n

structure WrAt (M : AM) (p q : Nat) (l : List Bool) : Prop where
  row : M.get p = some (.row [bufV q (packL l).length, .int .i64 (l.length : Int)] 0 (some (79, 0)))
  buf : packL l ≠ [] → M.get q = some (.row ((packL l).map u8v) 1 (some (5, 0)))
  ne : p ≠ q

set_option maxHeartbeats 4000000 in
theorem put_ok {ro : Nat} {M : AM} {p q : Nat} {l : List Bool} {v n : Nat} (hp : ro ≤ p) (hq : ro ≤ q) (h : WrAt M p q l) (hv : v < 2 ^ 64) (hn : n ≤ 64) (hl : l.length + n ≤ 134217728) :
    FnC Try.prog tables ro 37 [.pointer (some ⟨p, 0, none⟩), .int .u64 v, .int .i64 n] M (fun r M' => ∃ q', WrAt M' p q' (l ++ ofN v n) ∧ Fr M M' [p, q] ∧ (q' = q ∨ M.next ≤ q') ∧ ro ≤ q') := by
  refine FnC.body (nt := 72) ok hm fn37 rfl rfl ?_
  (repeat (refine Ex.block ok hm ?_))
  refine Ex.loop ?_
  refine Lp.inv ok hm (α := Nat × List Bool × Nat)
    (fun x E M' => E = [(0, .pointer (some ⟨p, 0, none⟩)), (1, .int .u64 v), (2, .int .i64 x.1)] ∧ x.1 ≤ n ∧ x.2.1 ++ ofN v x.1 = l ++ ofN v n ∧ WrAt M' p x.2.2 x.2.1 ∧ Fr M M' [p, q] ∧ (x.2.2 = q ∨ M.next ≤ x.2.2) ∧ ro ≤ x.2.2)
    (fun x => x.1) ?_ (n, l, q) [(0, .pointer (some ⟨p, 0, none⟩)), (1, .int .u64 v), (2, .int .i64 n)] ⟨rfl, rfl, rfl, trivial⟩ ⟨rfl, Nat.le_refl _, rfl, h, Fr.refl _ _, .inl rfl, hq⟩
  intro ⟨k, l1, q1⟩ E M1 ⟨hE, hk, hb, hW, hF, hq1, hro⟩
  simp only at hE hk hb hW hq1 hro
  subst hE
  have hlen : l1.length + k = l.length + n := by
    have := congrArg List.length hb
    simpa [ofN_length] using this
  by_cases h0 : k = 0
  · subst h0
    (repeat (first
    | refine Ex.seq ok hm ?_
    | refine Ex.region ok hm ?_
    | refine Sq.pu ok hm Want.none (by first
    | exact Pu.move rfl
    | exact Pu.gtrI rfl rfl) rfl ?_
    | refine Sq.finH (n := 9) ok hm (by repeat (first
    | exact Keep.nil
    | apply Keep.drop rfl
    | apply Keep.keep rfl)) ?_
    | refine Ex.condF ok hm rfl (by rfl) ?_
    | refine Ex.exit ok hm ?_))
    refine ⟨_, .nil, q1, ?_, hF, hq1, hro⟩
    rw [ofN_zero, List.append_nil] at hb
    rw [← hb]; exact hW
  · refine Ex.facts fun hlt hron => ?_
    have hrow := hW.row
    have hpl := hlt _ _ hrow
    have hne := hW.ne
    have hpk := packL_length l1
    have hbl := begunL_length l1
    (repeat (first
    | refine Ex.seq ok hm ?_
    | refine Ex.block ok hm ?_
    | refine Ex.skip ok hm ?_
    | refine Ex.region ok hm ?_
    | refine Sq.pu ok hm Want.none (by first
    | exact Pu.move rfl
    | exact Pu.assign rfl
    | exact Pu.nilCheck rfl
    | exact Pu.fieldAddr hT rfl rfl rfl rfl rfl
    | (apply Pu.load hT rfl rfl rfl; (focus ((repeat (assumption)))); (focus rfl))
    | exact Pu.rem rfl rfl (by omega) (by omega)
    | exact Pu.gtrI rfl rfl
    | exact Pu.eqlI rfl rfl) rfl ?_
    | refine Sq.finH (n := 9) ok hm (by repeat (first
    | exact Keep.nil
    | apply Keep.drop rfl
    | apply Keep.keep rfl)) ?_
    | refine Ex.condT ok hm rfl (by exact decide_eq_true (by omega)) ?_))
    refine Ex.cut [(6, .int .i64 ((l1.length : Int) % 8)), (0, .pointer (some ⟨p, 0, none⟩)), (1, .int .u64 v), (2, .int .i64 k)]
      (fun M2 => ∃ q2, M2.get p = some (.row [.slice (some ⟨q2, 0, none⟩) (begunL l1).length (begunL l1).length, .int .i64 (l1.length : Int)] 0 (some (79, 0))) ∧ M2.get q2 = some (.row ((begunL l1).map u8v) 1 (some (5, 0))) ∧ p ≠ q2 ∧ Fr M1 M2 [p, q1] ∧ (q2 = q1 ∨ M1.next ≤ q2) ∧ ro ≤ q2) ?_ ?_
    · by_cases hu : l1.length % 8 = 0
      · by_cases hz : (packL l1).length = 0
        · have hrow0 : M1.get p = some (.row [.slice none 0 0, .int .i64 (l1.length : Int)] 0 (some (79, 0))) := by rw [hrow, bufV, if_pos hz]
          clear hrow
          (repeat (first
    | refine Ex.region ok hm ?_
    | refine Sq.pu ok hm Want.none (by first
    | exact Pu.move rfl
    | exact Pu.nilCheck rfl
    | exact Pu.fieldAddr hT rfl rfl rfl rfl rfl
    | (apply Pu.load hT rfl rfl rfl; (focus ((repeat (assumption)))); (focus rfl))) rfl ?_
    | refine Sq.op ok hm Want.none (Op1.buildSlice hT rfl rfl rfl rfl rfl rfl rfl) rfl ?_
    | refine Ex.condT ok hm rfl (by first
    | rfl
    | exact decide_eq_true (by omega)) ?_))
          refine Sq.op ok hm Want.none (Op1.appendNil hT rfl rfl rfl rfl rfl rfl (Src.slice (n := 1) (by (repeat (exact AM.add_same))) (by decide)) (by decide) (by decide) rfl rfl rfl) rfl ?_
          (repeat (refine Sq.pu ok hm Want.none (by first
    | exact Pu.nilCheck rfl
    | exact Pu.fieldAddr hT rfl rfl rfl rfl rfl) rfl ?_))
          refine Sq.act ok hm Want.none (Op1.store hT rfl rfl rfl rfl (by (repeat (first
    | assumption
    | apply (AM.add_ne (by (try simp only [AM.next_add, AM.next_upd, AM.next_rm, AM.next_bump]); omega)).trans))) hp (Nat.le_of_ble_eq_true rfl) (Nat.le_of_ble_eq_true rfl) rfl) ?_
          (repeat (refine Sq.finH (n := 9) ok hm (by repeat (first
    | exact Keep.nil
    | apply Keep.drop rfl
    | apply Keep.keep rfl)) ?_))
          refine ⟨rfl, ⟨rfl, rfl, rfl, rfl, trivial⟩, M1.next + 1, ?_, ?_, ?_⟩
          · have : (begunL l1).length = 1 := by omega
            rw [this]; exact AM.upd_same
          · have hl0 : l1 = [] := List.length_eq_zero_iff.1 (by omega)
            have : begunL l1 = [0] := by subst hl0; rfl
            rw [this]
            exact (AM.upd_ne (by omega)).trans AM.add_same
          · refine ⟨by omega, ?_, .inr (by omega), by omega⟩
            exact (((Fr.refl _ _).add' _).add' _).upd' _ (.inl (by simp))
        · have hbuf := hW.buf (fun e => hz (by rw [e]; rfl))
          have hrow0 : M1.get p = some (.row [.slice (some ⟨q1, 0, none⟩) (packL l1).length (packL l1).length, .int .i64 (l1.length : Int)] 0 (some (79, 0))) := by rw [hrow, bufV, if_neg hz]
          have hql := hlt _ _ hbuf
          clear hrow
          (repeat (first
    | refine Ex.region ok hm ?_
    | refine Sq.pu ok hm Want.none (by first
    | exact Pu.move rfl
    | exact Pu.nilCheck rfl
    | exact Pu.fieldAddr hT rfl rfl rfl rfl rfl
    | (apply Pu.load hT rfl rfl rfl; (focus ((repeat (assumption)))); (focus rfl))) rfl ?_
    | refine Sq.op ok hm Want.none (Op1.buildSlice hT rfl rfl rfl rfl rfl rfl rfl) rfl ?_
    | refine Ex.condT ok hm rfl (by first
    | rfl
    | exact decide_eq_true (by omega)) ?_))
          refine Sq.op ok hm Want.none (Op1.appendFull hT rfl rfl (by (repeat (first
    | assumption
    | apply (AM.add_ne (by (try simp only [AM.next_add, AM.next_upd, AM.next_rm, AM.next_bump]); omega)).trans))) (by simp) (by omega) hro (by omega) rfl rfl rfl rfl (Src.slice (n := 1) (by (repeat (exact AM.add_same))) (by decide)) (by decide) (by omega) rfl rfl rfl) rfl ?_
          (repeat (refine Sq.pu ok hm Want.none (by first
    | exact Pu.nilCheck rfl
    | exact Pu.fieldAddr hT rfl rfl rfl rfl rfl) rfl ?_))
          refine Sq.act ok hm Want.none (Op1.store hT rfl rfl rfl rfl (by (repeat (first
    | assumption
    | apply (AM.add_ne (by (try simp only [AM.next_add, AM.next_upd, AM.next_rm, AM.next_bump]); omega)).trans
    | apply (AM.rm_ne (by (try simp only [AM.next_add, AM.next_upd, AM.next_rm, AM.next_bump]); omega)).trans))) hp (Nat.le_of_ble_eq_true rfl) (Nat.le_of_ble_eq_true rfl) rfl) ?_
          (repeat (refine Sq.finH (n := 9) ok hm (by repeat (first
    | exact Keep.nil
    | apply Keep.drop rfl
    | apply Keep.keep rfl)) ?_))
          refine ⟨rfl, ⟨rfl, rfl, rfl, rfl, trivial⟩, M1.next + 1, ?_, ?_, ?_⟩
          · have : (begunL l1).length = (packL l1).length + 1 := by omega
            rw [this]; exact AM.upd_same
          · have : begunL l1 = packL l1 ++ [0] := by unfold begunL; rw [if_pos hu]
            rw [this, List.map_append]
            exact (AM.upd_ne (by omega)).trans AM.add_same
          · refine ⟨by omega, ?_, .inr (by omega), by omega⟩
            exact ((((Fr.refl _ _).add' _).rm' (.inl (by simp))).add' _).upd' _ (.inl (by simp))
      · have hz : (packL l1).length ≠ 0 := by omega
        have hbuf := hW.buf (fun e => hz (by rw [e]; rfl))
        (repeat (first
    | refine Ex.skip ok hm ?_
    | refine Ex.condF ok hm rfl (by first
    | rfl
    | exact decide_eq_false (by omega)) ?_))
        refine ⟨rfl, ⟨rfl, rfl, rfl, rfl, trivial⟩, q1, ?_, ?_, hne, Fr.refl _ _, .inl rfl, hro⟩
        · rw [hrow, bufV, if_neg hz, begunL, if_neg hu]
        · rw [hbuf, begunL, if_neg hu]
    · intro M2 ⟨q2, hr2, hb2, hne2, hF2, hq2, hro2⟩
      have hkk : min (8 - (l1.length:Int) % 8) (k:Int) = ((min (8 - l1.length % 8) k : Nat) : Int) := by omega
      generalize hkd : min (8 - l1.length % 8) k = kk at hkk
      have hk1 : 1 ≤ kk := by omega
      have hk2 : kk ≤ k := by omega
      have hk3 : kk ≤ 8 - l1.length % 8 := by omega
      clear hrow hW
      (repeat (first
    | refine Ex.seq ok hm ?_
    | refine Ex.region ok hm ?_
    | refine Sq.pu ok hm Want.none (by first
    | exact Pu.move rfl
    | exact Pu.assign rfl
    | exact Pu.sub rfl rfl (by simp only [InR]; omega)
    | exact Pu.min2 rfl rfl) rfl ?_
    | refine Sq.finH (n := 9) ok hm (by repeat (first
    | exact Keep.nil
    | apply Keep.drop rfl
    | apply Keep.keep rfl)) ?_))
      rw [hkk]
      refine Ex.quiet ok hm (by kernel_rfl) ?_
      (repeat (first
    | refine Ex.seq ok hm ?_
    | refine Hq.pu Want.none (by first
    | exact Pu.move rfl
    | exact Pu.assign rfl
    | exact Pu.sub rfl rfl (by simp only [InR]; omega)
    | exact Pu.shr rfl rfl (by omega) (by omega) (by simp only [InR]; omega)
    | exact Pu.shlU8 rfl rfl (by omega) (by omega)
    | exact Pu.convU8 hT rfl rfl rfl
    | exact Pu.subU8 rfl rfl
    | exact Pu.and rfl rfl (by omega) (by omega) (by simp only [InR]; omega) (by simp only [InR]; omega)) rfl rfl rfl ?_
    | refine Hq.nil ?_))
      rw [part_eq v k kk hk1 (by omega) hk2]
      have hpart : v / 2 ^ (k - kk) % 2 ^ kk < 2 ^ kk := Nat.mod_lt _ (Nat.two_pow_pos _)
      generalize hpd : v / 2 ^ (k - kk) % 2 ^ kk = part at hpart
      refine Ex.draw ok hm 20 (by kernel_rfl) ?_
      (repeat (refine Hq.pu Want.none (by first
    | exact Pu.move rfl
    | exact Pu.nilCheck rfl
    | exact Pu.fieldAddr hT rfl rfl rfl rfl rfl
    | (apply Pu.load hT rfl rfl rfl; (focus ((repeat (assumption)))); (focus rfl))
    | exact Pu.sub rfl rfl (by simp only [InR]; omega)
    | exact Pu.lenL hT rfl rfl
    | exact Pu.indexAddr hT rfl rfl rfl rfl (by omega) (by omega)) rfl rfl rfl ?_))
      have hx := begunL_last l1
      have hxl : byteB (l1.drop (8 * (l1.length / 8))) < 256 := byteB_lt _ (by rw [List.length_drop]; omega)
      generalize hxd : byteB (l1.drop (8 * (l1.length / 8))) = x at hx hxl
      have hload : ((begunL l1).map u8v)[l1.length / 8]? = some (u8v x) := by rw [List.getElem?_map, hx]; rfl
      have hidx : 0 + (((begunL l1).length : Int) - 1).toNat * 1 = l1.length / 8 := by omega
      refine Hq.pu Want.none (Pu.load hT rfl rfl rfl hb2 ((congrArg (fun i => ((begunL l1).map u8v)[i]?) hidx).trans hload)) rfl rfl rfl ?_
      (repeat (first
    | refine Hq.pu Want.none (by first
    | exact Pu.move rfl
    | exact Pu.sub rfl rfl (by simp only [InR]; omega)
    | exact Pu.indexAddr hT rfl rfl rfl rfl (by omega) (by omega)
    | exact Pu.shlU8 rfl rfl (by omega) (by omega)
    | exact Pu.or rfl rfl (by omega) (by omega) (by simp only [InR]; omega) (by simp only [InR]; omega)) rfl rfl rfl ?_
    | refine Hq.nil ?_))
      have hor : ((x : Int).toNat ||| ((part : Int) * 2 ^ (8 - (l1.length : Int) % 8 - (kk : Int)).toNat % 256).toNat) = x ||| part * 2 ^ (8 - l1.length % 8 - kk) := by
        have e1 : (8 - (l1.length : Int) % 8 - (kk : Int)).toNat = 8 - l1.length % 8 - kk := by omega
        rw [e1]
        have h1 : part * 2 ^ (8 - l1.length % 8 - kk) < 2 ^ kk * 2 ^ (8 - l1.length % 8 - kk) := Nat.mul_lt_mul_of_pos_right hpart (Nat.two_pow_pos _)
        rw [← Nat.pow_add] at h1
        have h2 : (2 : Nat) ^ (kk + (8 - l1.length % 8 - kk)) ≤ 2 ^ 8 := Nat.pow_le_pow_right (by omega) (by omega)
        have h3 : ((part : Int) * 2 ^ (8 - l1.length % 8 - kk) % 256).toNat = part * 2 ^ (8 - l1.length % 8 - kk) % 256 := by
          have : ((part : Int) * 2 ^ (8 - l1.length % 8 - kk) % 256) = ((part * 2 ^ (8 - l1.length % 8 - kk) % 256 : Nat) : Int) := by simp
          rw [this]; rfl
        rw [h3, Nat.mod_eq_of_lt (by omega), Int.toNat_natCast]
      rw [hor]
      refine Tq.act Want.none (Op1.store hT rfl rfl rfl rfl hb2 hro2 (Nat.zero_le _) (by rw [List.length_map]; show 0 + (((begunL l1).length : Int) - 1).toNat * 1 + 1 ≤ _; omega) rfl) ?_
      (repeat (first
    | refine Ex.seq ok hm ?_
    | refine Ex.region ok hm ?_
    | refine Sq.pu ok hm Want.none (by first
    | exact Pu.move rfl
    | exact Pu.nilCheck rfl
    | exact Pu.fieldAddr hT rfl rfl rfl rfl rfl
    | (apply Pu.load hT rfl rfl rfl; (focus ((repeat (first
    | assumption
    | apply (AM.upd_ne (by (try simp only [AM.next_add, AM.next_upd, AM.next_rm, AM.next_bump]); omega)).trans)))); (focus rfl))
    | exact Pu.add rfl rfl (by simp only [InR]; omega)) rfl ?_
    | refine Tq.finH (n := 9)  (by repeat (first
    | exact Keep.nil
    | apply Keep.drop rfl
    | apply Keep.keep rfl)) ?_))
      refine Sq.act ok hm Want.none (Op1.store hT rfl rfl rfl rfl (by (repeat (first
    | assumption
    | apply (AM.upd_ne (by (try simp only [AM.next_add, AM.next_upd, AM.next_rm, AM.next_bump]); omega)).trans))) hp (Nat.le_of_ble_eq_true rfl) (Nat.le_of_ble_eq_true rfl) rfl) ?_
      (repeat (first
    | refine Ex.region ok hm ?_
    | refine Sq.pu ok hm Want.none (by first
    | exact Pu.move rfl
    | exact Pu.assign rfl
    | exact Pu.sub rfl rfl (by simp only [InR]; omega)) rfl ?_
    | refine Sq.finH (n := 9) ok hm (by repeat (first
    | exact Keep.nil
    | apply Keep.drop rfl
    | apply Keep.keep rfl)) ?_))
      have hof : (ofN (v / 2 ^ (k - kk)) kk).length = kk := ofN_length _ _
      have hval : valB (ofN (v / 2 ^ (k - kk)) kk) = part := by rw [valB_ofN, hpd]
      have hstep := pack_step l1 (ofN (v / 2 ^ (k - kk)) kk) (by omega) (by omega)
      rw [hxd, hval, hof] at hstep
      have hsp := ofN_split v k kk hk2
      have hpl2 : (packL (l1 ++ ofN (v / 2 ^ (k - kk)) kk)).length = (begunL l1).length := by rw [hstep, List.length_set]
      have hne0 : (begunL l1).length ≠ 0 := by omega
      refine ⟨(k - kk, l1 ++ ofN (v / 2 ^ (k - kk)) kk, q2), [(0, .pointer (some ⟨p, 0, none⟩)), (1, .int .u64 v), (2, .int .i64 ((k : Int) - kk))], by simp only; omega, ⟨rfl, rfl, rfl, trivial⟩, ?_, ?_, ?_, ?_, ?_, ?_, ?_⟩
      · simp only
        rw [show ((k - kk : Nat) : Int) = (k : Int) - kk by omega]
      · simp only; omega
      · simp only
        rw [List.append_assoc, ← hsp]; exact hb
      · refine ⟨?_, fun _ => ?_, hne2⟩
        · rw [hpl2, bufV, if_neg hne0, List.length_append, hof]
          exact AM.upd_same
        · refine (AM.upd_ne (Ne.symm hne2)).trans (AM.upd_same.trans ?_)
          rw [hstep]
          have : ∀ i, 0 + (((begunL l1).length : Int) - 1).toNat * 1 = i → setAt ((begunL l1).map u8v) i (cellsL (u8v (x ||| part * 2 ^ (8 - l1.length % 8 - kk)))) = ((begunL l1).set (l1.length / 8) (x ||| part * 2 ^ (8 - l1.length % 8 - kk))).map u8v := by
            intro i hi
            rw [hidx] at hi
            subst hi
            simp only [cellsL, setAt, List.map_set]
          rw [← this _ rfl]
      · refine hF.trans ((hF2.upd' _ ?_).upd' _ (.inl (by simp))) ?_
        · rcases hq2 with h | h
          · left; rw [h]; simp
          · right; exact h
        · intro b hb
          simp only [List.mem_cons, List.not_mem_nil, or_false] at hb
          rcases hb with rfl | rfl
          · left; simp
          · rcases hq1 with h | h
            · left; rw [h]; simp
            · right; exact h
      · simp only
        rcases hq2 with h | h
        · rw [h]; exact hq1
        · right; have := hF.next; omega
      · exact hro2
end Go.Proofs.Ytlhfolmhgghjcaa
