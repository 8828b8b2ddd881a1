/- The law DeviceNames: stretches of its run. -/
import Derived.Test.YtiflimckbdcciaaDeviceNamesStB
import Derived.Test.YtiflimckbdcciaaProg
namespace Go.Proofs.Ytiflimckbdcciaa.deviceNames
set_option linter.unusedVariables false
set_option maxRecDepth 100000
open Go.Wvm

theorem w1 : VS.shed [(58, 2), (61, 135)] [[1, 4, 7, 8, 9, 12, 13, 14, 15, 16, 17, 18, 19, 20, 21, 22]] (runK Try.prog tables 1000000 4000 0 s1) = .next s2 := by kernel_rfl

theorem w8 : VS.shed [(1657, 157)] [] (runK Try.prog tables 1000000 2211 0 s8) = .next s9 := by kernel_rfl

theorem w17 : VS.shed [(2755, 93)] [] (runK Try.prog tables 1000000 1316 0 s17) = .next s18 := by kernel_rfl

theorem w22 : VS.shed [(3193, 81)] [] (runK Try.prog tables 1000000 1148 0 s22) = .next s23 := by kernel_rfl

theorem w25 : VS.shed [(3433, 77)] [] (runK Try.prog tables 1000000 1092 0 s25) = .next s26 := by kernel_rfl

theorem w26 : VS.shed [(3511, 71)] [] (runK Try.prog tables 1000000 1008 0 s26) = .next s27 := by kernel_rfl

theorem w30 : VS.shed [(3793, 65)] [] (runK Try.prog tables 1000000 924 0 s30) = .next s31 := by kernel_rfl

theorem w31 : VS.shed [(3859, 63)] [] (runK Try.prog tables 1000000 896 0 s31) = .next s32 := by kernel_rfl

theorem w34 : VS.shed [(4055, 59)] [] (runK Try.prog tables 1000000 840 0 s34) = .next s35 := by kernel_rfl

theorem w36 : VS.shed [(4173, 63)] [] (runK Try.prog tables 1000000 896 0 s36) = .next s37 := by kernel_rfl

theorem w38 : VS.shed [(4299, 59)] [] (runK Try.prog tables 1000000 842 0 s38) = .next s39 := by kernel_rfl

theorem w39 : VS.shed [(4359, 59)] [] (runK Try.prog tables 1000000 838 0 s39) = .next s40 := by kernel_rfl

theorem w43 : VS.shed [(4589, 57)] [] (runK Try.prog tables 1000000 812 0 s43) = .next s44 := by kernel_rfl

theorem w50 : VS.shed [(4955, 49)] [] (runK Try.prog tables 1000000 700 0 s50) = .next s51 := by kernel_rfl

theorem w51 : VS.shed [(5005, 39)] [] (runK Try.prog tables 1000000 560 0 s51) = .next s52 := by kernel_rfl

theorem w58 : VS.shed [(5329, 47)] [] (runK Try.prog tables 1000000 672 0 s58) = .next s59 := by kernel_rfl

theorem w61 : VS.shed [(5471, 45)] [] (runK Try.prog tables 1000000 637 0 s61) = .next s62 := by kernel_rfl

theorem w64 : VS.shed [(5609, 43)] [] (runK Try.prog tables 1000000 616 0 s64) = .next s65 := by kernel_rfl

theorem w71 : VS.shed [(5915, 43)] [] (runK Try.prog tables 1000000 616 0 s71) = .next s72 := by kernel_rfl

theorem w81 : VS.shed [(6329, 39)] [] (runK Try.prog tables 1000000 560 0 s81) = .next s82 := by kernel_rfl

theorem w89 : VS.shed [(6631, 37)] [] (runK Try.prog tables 1000000 532 0 s89) = .next s90 := by kernel_rfl

theorem w91 : VS.shed [(6705, 37)] [] (runK Try.prog tables 1000000 532 0 s91) = .next s92 := by kernel_rfl

theorem w94 : VS.shed [(6815, 35)] [] (runK Try.prog tables 1000000 504 0 s94) = .next s95 := by kernel_rfl

theorem w99 : VS.shed [(6991, 33)] [] (runK Try.prog tables 1000000 476 0 s99) = .next s100 := by kernel_rfl

theorem w100 : VS.shed [(7025, 33)] [] (runK Try.prog tables 1000000 476 0 s100) = .next s101 := by kernel_rfl

theorem w102 : VS.shed [(7091, 33)] [] (runK Try.prog tables 1000000 476 0 s102) = .next s103 := by kernel_rfl

theorem w112 : VS.shed [(7431, 31)] [] (runK Try.prog tables 1000000 448 0 s112) = .next s113 := by kernel_rfl

theorem w115 : VS.shed [(7527, 31)] [] (runK Try.prog tables 1000000 448 0 s115) = .next s116 := by kernel_rfl

theorem w120 : VS.shed [(7685, 31)] [] (runK Try.prog tables 1000000 448 0 s120) = .next s121 := by kernel_rfl

theorem w122 : VS.shed [(7739, 31)] [] (runK Try.prog tables 1000000 448 0 s122) = .next s123 := by kernel_rfl

theorem w131 : VS.shed [(8013, 29)] [] (runK Try.prog tables 1000000 420 0 s131) = .next s132 := by kernel_rfl

theorem w132 : VS.shed [(8043, 27)] [] (runK Try.prog tables 1000000 392 0 s132) = .next s133 := by kernel_rfl

theorem w133 : VS.shed [(8071, 13)] [] (runK Try.prog tables 1000000 196 0 s133) = .next s134 := by kernel_rfl

theorem w134 : VS.shed [(8085, 25)] [] (runK Try.prog tables 1000000 364 0 s134) = .next s135 := by kernel_rfl

theorem w136 : VS.shed [(8133, 15)] [] (runK Try.prog tables 1000000 224 0 s136) = .next s137 := by kernel_rfl
end Go.Proofs.Ytiflimckbdcciaa.deviceNames
