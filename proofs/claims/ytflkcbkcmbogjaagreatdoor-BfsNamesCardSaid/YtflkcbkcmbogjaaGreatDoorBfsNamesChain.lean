/- The law BfsNames: its run, put together. -/
import Derived.Test.YtflkcbkcmbogjaaGreatDoorBfsNamesRunA
import Derived.Test.YtflkcbkcmbogjaaGreatDoorBfsNamesRunB
import Derived.Test.YtflkcbkcmbogjaaGreatDoorBfsNamesRunC
import Derived.Test.YtflkcbkcmbogjaaGreatDoorBfsNamesRunD
namespace Go.Proofs.YtflkcbkcmbogjaaGreatDoor.bfsNames
set_option linter.unusedVariables false
set_option maxRecDepth 100000
open Go.Wvm

theorem ok : VPok Tryz.prog tables := VP.of_ok _
theorem hm : Tryz.prog.follows .mixedOrders = true := by kernel_rfl
theorem started : startV tables known 3 0 = some s0 := by kernel_rfl
theorem e19yz4 : EndsFrom Tryz.prog 0 s19yz4 v19y W19y := ends_over ok hm w19yz4
theorem e19yz3 : EndsFrom Tryz.prog 0 s19yz3 v19y W19y := ends_go ok hm w19yz3 e19yz4
theorem e19yz2 : EndsFrom Tryz.prog 0 s19yz2 v19y W19y := ends_go ok hm w19yz2 e19yz3
theorem e19yz1 : EndsFrom Tryz.prog 0 s19yz1 v19y W19y := ends_go ok hm w19yz1 e19yz2
theorem e19yz0 : EndsFrom Tryz.prog 0 s19yz0 v19y W19y := ends_go ok hm w19yz0 e19yz1
theorem h19y : subM Tryz.prog tables 1000000 tb19y 0 s19yz0 = .over v19y W19y := subM_hit (e := ⟨s19yz0, v19y, W19y⟩) (by kernel_rfl)
theorem t19y : ∀ e ∈ tb19y, EndsFrom Tryz.prog 0 e.m e.v e.W := tb_cons (x := ⟨s19yz0, v19y, W19y⟩) e19yz0 tb_nil
theorem l19 : Leads Tryz.prog 0 s19 s20 := (leads_big (m' := n19y) ok hm (subM_ok ok hm t19y) (bigF_range c19y h19y z19y)).trans (leads_drop d19y)
theorem e22yz3 : EndsFrom Tryz.prog 0 s22yz3 v22y W22y := ends_over ok hm w22yz3
theorem e22yz2 : EndsFrom Tryz.prog 0 s22yz2 v22y W22y := ends_go ok hm w22yz2 e22yz3
theorem e22yz1 : EndsFrom Tryz.prog 0 s22yz1 v22y W22y := ends_go ok hm w22yz1 e22yz2
theorem e22yz0 : EndsFrom Tryz.prog 0 s22yz0 v22y W22y := ends_go ok hm w22yz0 e22yz1
theorem h22y : subM Tryz.prog tables 1000000 tb22y 0 s22yz0 = .over v22y W22y := subM_hit (e := ⟨s22yz0, v22y, W22y⟩) (by kernel_rfl)
theorem t22y : ∀ e ∈ tb22y, EndsFrom Tryz.prog 0 e.m e.v e.W := tb_cons (x := ⟨s22yz0, v22y, W22y⟩) e22yz0 tb_nil
theorem l22 : Leads Tryz.prog 0 s22 s23 := (leads_big (m' := n22y) ok hm (subM_ok ok hm t22y) (bigF_range c22y h22y z22y)).trans (leads_drop d22y)
theorem e24yz6 : EndsFrom Tryz.prog 0 s24yz6 v24y W24y := ends_over ok hm w24yz6
theorem e24yz5 : EndsFrom Tryz.prog 0 s24yz5 v24y W24y := ends_go ok hm w24yz5 e24yz6
theorem e24yz4 : EndsFrom Tryz.prog 0 s24yz4 v24y W24y := ends_go ok hm w24yz4 e24yz5
theorem e24yz3 : EndsFrom Tryz.prog 0 s24yz3 v24y W24y := ends_go ok hm w24yz3 e24yz4
theorem e24yz2 : EndsFrom Tryz.prog 0 s24yz2 v24y W24y := ends_go ok hm w24yz2 e24yz3
theorem e24yz1 : EndsFrom Tryz.prog 0 s24yz1 v24y W24y := ends_go ok hm w24yz1 e24yz2
theorem e24yz0 : EndsFrom Tryz.prog 0 s24yz0 v24y W24y := ends_go ok hm w24yz0 e24yz1
theorem h24y : subM Tryz.prog tables 1000000 tb24y 0 s24yz0 = .over v24y W24y := subM_hit (e := ⟨s24yz0, v24y, W24y⟩) (by kernel_rfl)
theorem t24y : ∀ e ∈ tb24y, EndsFrom Tryz.prog 0 e.m e.v e.W := tb_cons (x := ⟨s24yz0, v24y, W24y⟩) e24yz0 tb_nil
theorem l24 : Leads Tryz.prog 0 s24 s25 := (leads_big (m' := n24y) ok hm (subM_ok ok hm t24y) (bigF_range c24y h24y z24y)).trans (leads_drop d24y)
theorem e27yz1 : EndsFrom Tryz.prog 0 s27yz1 v27y W27y := ends_over ok hm w27yz1
theorem e27yz0 : EndsFrom Tryz.prog 0 s27yz0 v27y W27y := ends_go ok hm w27yz0 e27yz1
theorem h27y : subM Tryz.prog tables 1000000 tb27y 0 s27yz0 = .over v27y W27y := subM_hit (e := ⟨s27yz0, v27y, W27y⟩) (by kernel_rfl)
theorem t27y : ∀ e ∈ tb27y, EndsFrom Tryz.prog 0 e.m e.v e.W := tb_cons (x := ⟨s27yz0, v27y, W27y⟩) e27yz0 tb_nil
theorem l27 : Leads Tryz.prog 0 s27 s28 := (leads_big (m' := n27y) ok hm (subM_ok ok hm t27y) (bigF_range c27y h27y z27y)).trans (leads_drop d27y)
theorem e30 : EndsYes Tryz.prog s30 := ends_last ok hm w30
theorem e29 : EndsYes Tryz.prog s29 := ends_step ok hm w29 e30
theorem e28 : EndsYes Tryz.prog s28 := ends_step ok hm w28 e29
theorem e27 : EndsYes Tryz.prog s27 := ends_lead l27 e28
theorem e26 : EndsYes Tryz.prog s26 := ends_step ok hm w26 e27
theorem e25 : EndsYes Tryz.prog s25 := ends_step ok hm w25 e26
theorem e24 : EndsYes Tryz.prog s24 := ends_lead l24 e25
theorem e23 : EndsYes Tryz.prog s23 := ends_step ok hm w23 e24
theorem e22 : EndsYes Tryz.prog s22 := ends_lead l22 e23
theorem e21 : EndsYes Tryz.prog s21 := ends_step ok hm w21 e22
theorem e20 : EndsYes Tryz.prog s20 := ends_step ok hm w20 e21
theorem e19 : EndsYes Tryz.prog s19 := ends_lead l19 e20
theorem e18 : EndsYes Tryz.prog s18 := ends_step ok hm w18 e19
theorem e17 : EndsYes Tryz.prog s17 := ends_step ok hm w17 e18
theorem e16 : EndsYes Tryz.prog s16 := ends_step ok hm w16 e17
theorem e15 : EndsYes Tryz.prog s15 := ends_step ok hm w15 e16
theorem e14 : EndsYes Tryz.prog s14 := ends_step ok hm w14 e15
theorem e13 : EndsYes Tryz.prog s13 := ends_step ok hm w13 e14
theorem e12 : EndsYes Tryz.prog s12 := ends_step ok hm w12 e13
theorem e11 : EndsYes Tryz.prog s11 := ends_step ok hm w11 e12
theorem e10 : EndsYes Tryz.prog s10 := ends_step ok hm w10 e11
theorem e9 : EndsYes Tryz.prog s9 := ends_step ok hm w9 e10
theorem e8 : EndsYes Tryz.prog s8 := ends_step ok hm w8 e9
theorem e7 : EndsYes Tryz.prog s7 := ends_step ok hm w7 e8
theorem e6 : EndsYes Tryz.prog s6 := ends_step ok hm w6 e7
theorem e5 : EndsYes Tryz.prog s5 := ends_step ok hm w5 e6
theorem e4 : EndsYes Tryz.prog s4 := ends_step ok hm w4 e5
theorem e3 : EndsYes Tryz.prog s3 := ends_step ok hm w3 e4
theorem e2 : EndsYes Tryz.prog s2 := ends_step ok hm w2 e3
theorem e1 : EndsYes Tryz.prog s1 := ends_step ok hm w1 e2
theorem e0 : EndsYes Tryz.prog s0 := ends_step ok hm w0 e1

end Go.Proofs.YtflkcbkcmbogjaaGreatDoor.bfsNames
