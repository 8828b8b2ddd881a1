/- The law DeviceNames: stretches of its run. -/
import Derived.Test.YtiflimckbdcciaaDeviceNamesStB
import Derived.Test.YtiflimckbdcciaaProg
namespace Go.Proofs.Ytiflimckbdcciaa.deviceNames
set_option linter.unusedVariables false
set_option maxRecDepth 100000
open Go.Wvm

theorem w4 : VS.shed [(769, 285)] [] (runK Try.prog tables 1000000 4000 0 s4) = .next s5 := by kernel_rfl

theorem w5 : VS.shed [(1055, 233)] [] (runK Try.prog tables 1000000 3273 0 s5) = .next s6 := by kernel_rfl

theorem w7 : VS.shed [(1485, 171)] [] (runK Try.prog tables 1000000 2406 0 s7) = .next s8 := by kernel_rfl

theorem w14 : VS.shed [(2449, 105)] [] (runK Try.prog tables 1000000 1484 0 s14) = .next s15 := by kernel_rfl

theorem w29 : VS.shed [(3729, 63)] [] (runK Try.prog tables 1000000 896 0 s29) = .next s30 := by kernel_rfl

theorem w33 : VS.shed [(3991, 63)] [] (runK Try.prog tables 1000000 896 0 s33) = .next s34 := by kernel_rfl

theorem w35 : VS.shed [(4115, 57)] [] (runK Try.prog tables 1000000 812 0 s35) = .next s36 := by kernel_rfl

theorem w41 : VS.shed [(4479, 55)] [] (runK Try.prog tables 1000000 784 0 s41) = .next s42 := by kernel_rfl

theorem w46 : VS.shed [(4757, 41)] [] (runK Try.prog tables 1000000 588 0 s46) = .next s47 := by kernel_rfl

theorem w47 : VS.shed [(4799, 51)] [] (runK Try.prog tables 1000000 728 0 s47) = .next s48 := by kernel_rfl

theorem w52 : VS.shed [(5045, 47)] [] (runK Try.prog tables 1000000 672 0 s52) = .next s53 := by kernel_rfl

theorem w53 : VS.shed [(5093, 47)] [] (runK Try.prog tables 1000000 672 0 s53) = .next s54 := by kernel_rfl

theorem w56 : VS.shed [(5235, 45)] [] (runK Try.prog tables 1000000 644 0 s56) = .next s57 := by kernel_rfl

theorem w57 : VS.shed [(5281, 47)] [] (runK Try.prog tables 1000000 672 0 s57) = .next s58 := by kernel_rfl

theorem w59 : VS.shed [(5377, 49)] [] (runK Try.prog tables 1000000 700 0 s59) = .next s60 := by kernel_rfl

theorem w62 : VS.shed [(5517, 45)] [] (runK Try.prog tables 1000000 644 0 s62) = .next s63 := by kernel_rfl

theorem w66 : VS.shed [(5697, 43)] [] (runK Try.prog tables 1000000 616 0 s66) = .next s67 := by kernel_rfl

theorem w67 : VS.shed [(5741, 43)] [] (runK Try.prog tables 1000000 616 0 s67) = .next s68 := by kernel_rfl

theorem w69 : VS.shed [(5829, 41)] [] (runK Try.prog tables 1000000 606 0 s69) = .next s70 := by kernel_rfl

theorem w75 : VS.shed [(6089, 41)] [] (runK Try.prog tables 1000000 588 0 s75) = .next s76 := by kernel_rfl

theorem w78 : VS.shed [(6213, 37)] [] (runK Try.prog tables 1000000 532 0 s78) = .next s79 := by kernel_rfl

theorem w83 : VS.shed [(6407, 37)] [] (runK Try.prog tables 1000000 532 0 s83) = .next s84 := by kernel_rfl

theorem w85 : VS.shed [(6483, 37)] [] (runK Try.prog tables 1000000 532 0 s85) = .next s86 := by kernel_rfl

theorem w93 : VS.shed [(6779, 35)] [] (runK Try.prog tables 1000000 504 0 s93) = .next s94 := by kernel_rfl

theorem w97 : VS.shed [(6921, 33)] [] (runK Try.prog tables 1000000 476 0 s97) = .next s98 := by kernel_rfl

theorem w98 : VS.shed [(6955, 35)] [] (runK Try.prog tables 1000000 504 0 s98) = .next s99 := by kernel_rfl

theorem w108 : VS.shed [(7295, 33)] [] (runK Try.prog tables 1000000 476 0 s108) = .next s109 := by kernel_rfl

theorem w111 : VS.shed [(7397, 33)] [] (runK Try.prog tables 1000000 476 0 s111) = .next s112 := by kernel_rfl

theorem w113 : VS.shed [(7463, 31)] [] (runK Try.prog tables 1000000 448 0 s113) = .next s114 := by kernel_rfl

theorem w116 : VS.shed [(7559, 31)] [] (runK Try.prog tables 1000000 448 0 s116) = .next s117 := by kernel_rfl

theorem w117 : VS.shed [(7591, 29)] [] (runK Try.prog tables 1000000 420 0 s117) = .next s118 := by kernel_rfl

theorem w121 : VS.shed [(7717, 21)] [] (runK Try.prog tables 1000000 308 0 s121) = .next s122 := by kernel_rfl

theorem w127 : VS.shed [(7897, 27)] [] (runK Try.prog tables 1000000 392 0 s127) = .next s128 := by kernel_rfl

theorem w135 : VS.shed [(8111, 21)] [] (runK Try.prog tables 1000000 308 0 s135) = .next s136 := by kernel_rfl

theorem w137 : VS.shed [(8149, 25)] [] (runK Try.prog tables 1000000 364 0 s137) = .next s138 := by kernel_rfl
end Go.Proofs.Ytiflimckbdcciaa.deviceNames
