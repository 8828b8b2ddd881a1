/- The law DeviceNames: stretches of its run. -/
import Derived.Test.YtiflimckbdcciaaDeviceNamesStB
import Derived.Test.YtiflimckbdcciaaProg
namespace Go.Proofs.Ytiflimckbdcciaa.deviceNames
set_option linter.unusedVariables false
set_option maxRecDepth 100000
open Go.Wvm

theorem w3 : VS.shed [(483, 285)] [] (runK Try.prog tables 1000000 4000 0 s3) = .next s4 := by kernel_rfl

theorem w9 : VS.shed [(1815, 143)] [] (runK Try.prog tables 1000000 2017 0 s9) = .next s10 := by kernel_rfl

theorem w10 : VS.shed [(1959, 131)] [] (runK Try.prog tables 1000000 1848 0 s10) = .next s11 := by kernel_rfl

theorem w15 : VS.shed [(2555, 101)] [] (runK Try.prog tables 1000000 1428 0 s15) = .next s16 := by kernel_rfl

theorem w19 : VS.shed [(2935, 89)] [] (runK Try.prog tables 1000000 1260 0 s19) = .next s20 := by kernel_rfl

theorem w20 : VS.shed [(3025, 85)] [] (runK Try.prog tables 1000000 1204 0 s20) = .next s21 := by kernel_rfl

theorem w23 : VS.shed [(3275, 79)] [] (runK Try.prog tables 1000000 1120 0 s23) = .next s24 := by kernel_rfl

theorem w28 : VS.shed [(3657, 71)] [] (runK Try.prog tables 1000000 1008 0 s28) = .next s29 := by kernel_rfl

theorem w32 : VS.shed [(3923, 67)] [] (runK Try.prog tables 1000000 952 0 s32) = .next s33 := by kernel_rfl

theorem w42 : VS.shed [(4535, 53)] [] (runK Try.prog tables 1000000 756 0 s42) = .next s43 := by kernel_rfl

theorem w45 : VS.shed [(4703, 53)] [] (runK Try.prog tables 1000000 756 0 s45) = .next s46 := by kernel_rfl

theorem w48 : VS.shed [(4851, 53)] [] (runK Try.prog tables 1000000 756 0 s48) = .next s49 := by kernel_rfl

theorem w55 : VS.shed [(5187, 47)] [] (runK Try.prog tables 1000000 672 0 s55) = .next s56 := by kernel_rfl

theorem w60 : VS.shed [(5427, 43)] [] (runK Try.prog tables 1000000 623 0 s60) = .next s61 := by kernel_rfl

theorem w65 : VS.shed [(5653, 43)] [] (runK Try.prog tables 1000000 616 0 s65) = .next s66 := by kernel_rfl

theorem w68 : VS.shed [(5785, 43)] [] (runK Try.prog tables 1000000 616 0 s68) = .next s69 := by kernel_rfl

theorem w72 : VS.shed [(5959, 43)] [] (runK Try.prog tables 1000000 616 0 s72) = .next s73 := by kernel_rfl

theorem w82 : VS.shed [(6369, 37)] [] (runK Try.prog tables 1000000 532 0 s82) = .next s83 := by kernel_rfl

theorem w84 : VS.shed [(6445, 37)] [] (runK Try.prog tables 1000000 532 0 s84) = .next s85 := by kernel_rfl

theorem w86 : VS.shed [(6521, 37)] [] (runK Try.prog tables 1000000 532 0 s86) = .next s87 := by kernel_rfl

theorem w88 : VS.shed [(6595, 35)] [] (runK Try.prog tables 1000000 504 0 s88) = .next s89 := by kernel_rfl

theorem w90 : VS.shed [(6669, 35)] [] (runK Try.prog tables 1000000 504 0 s90) = .next s91 := by kernel_rfl

theorem w95 : VS.shed [(6851, 35)] [] (runK Try.prog tables 1000000 504 0 s95) = .next s96 := by kernel_rfl

theorem w101 : VS.shed [(7059, 31)] [] (runK Try.prog tables 1000000 448 0 s101) = .next s102 := by kernel_rfl

theorem w103 : VS.shed [(7125, 33)] [] (runK Try.prog tables 1000000 476 0 s103) = .next s104 := by kernel_rfl

theorem w104 : VS.shed [(7159, 33)] [] (runK Try.prog tables 1000000 476 0 s104) = .next s105 := by kernel_rfl

theorem w105 : VS.shed [(7193, 33)] [] (runK Try.prog tables 1000000 476 0 s105) = .next s106 := by kernel_rfl

theorem w106 : VS.shed [(7227, 33)] [] (runK Try.prog tables 1000000 476 0 s106) = .next s107 := by kernel_rfl

theorem w109 : VS.shed [(7329, 33)] [] (runK Try.prog tables 1000000 476 0 s109) = .next s110 := by kernel_rfl

theorem w114 : VS.shed [(7495, 31)] [] (runK Try.prog tables 1000000 448 0 s114) = .next s115 := by kernel_rfl

theorem w123 : VS.shed [(7771, 31)] [] (runK Try.prog tables 1000000 448 0 s123) = .next s124 := by kernel_rfl

theorem w125 : VS.shed [(7835, 31)] [] (runK Try.prog tables 1000000 448 0 s125) = .next s126 := by kernel_rfl

theorem w128 : VS.shed [(7925, 29)] [] (runK Try.prog tables 1000000 420 0 s128) = .next s129 := by kernel_rfl

theorem w130 : VS.shed [(7985, 27)] [] (runK Try.prog tables 1000000 392 0 s130) = .next s131 := by kernel_rfl

theorem w138 : VS.shed [(8175, 27)] [] (runK Try.prog tables 1000000 392 0 s138) = .next s139 := by kernel_rfl

theorem w141 : trueV (runK Try.prog tables 1000000 167 0 s141) = true := by kernel_rfl
end Go.Proofs.Ytiflimckbdcciaa.deviceNames
