/- The law IngestNone: its run, put together. -/
import Derived.Test.YtkkmhbgghnddcaaGreatDoorIngestNoneRunA
import Derived.Test.YtkkmhbgghnddcaaGreatDoorIngestNoneRunB
import Derived.Test.YtkkmhbgghnddcaaGreatDoorIngestNoneRunC
import Derived.Test.YtkkmhbgghnddcaaGreatDoorIngestNoneRunD
namespace Go.Proofs.YtkkmhbgghnddcaaGreatDoor.ingestNone
set_option linter.unusedVariables false
set_option maxRecDepth 100000
open Go.Wvm

theorem ok : VPok Tryz.prog tables := VP.of_ok _
theorem hm : Tryz.prog.follows .mixedOrders = true := by kernel_rfl
theorem started : startV tables known 3 0 = some s0 := by kernel_rfl
theorem e14 : EndsYes Tryz.prog s14 := ends_last ok hm w14
theorem e13 : EndsYes Tryz.prog s13 := ends_step ok hm w13 e14
theorem e12 : EndsYes Tryz.prog s12 := ends_step ok hm w12 e13
theorem e11 : EndsYes Tryz.prog s11 := ends_step ok hm w11 e12
theorem e10 : EndsYes Tryz.prog s10 := ends_step ok hm w10 e11
theorem e9 : EndsYes Tryz.prog s9 := ends_step ok hm w9 e10
theorem e8 : EndsYes Tryz.prog s8 := ends_step ok hm w8 e9
theorem e7 : EndsYes Tryz.prog s7 := ends_step ok hm w7 e8
theorem e6 : EndsYes Tryz.prog s6 := ends_step ok hm w6 e7
theorem e5 : EndsYes Tryz.prog s5 := ends_step ok hm w5 e6
theorem e4 : EndsYes Tryz.prog s4 := ends_step ok hm w4 e5
theorem e3 : EndsYes Tryz.prog s3 := ends_step ok hm w3 e4
theorem e2 : EndsYes Tryz.prog s2 := ends_step ok hm w2 e3
theorem e1 : EndsYes Tryz.prog s1 := ends_step ok hm w1 e2
theorem e0 : EndsYes Tryz.prog s0 := ends_step ok hm w0 e1

end Go.Proofs.YtkkmhbgghnddcaaGreatDoor.ingestNone
