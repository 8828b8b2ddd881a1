/- The law CoreNone: its run, put together. -/
import Derived.Test.YtflkcbkcmbogjaaGreatDoorCoreNoneRunA
import Derived.Test.YtflkcbkcmbogjaaGreatDoorCoreNoneRunB
import Derived.Test.YtflkcbkcmbogjaaGreatDoorCoreNoneRunC
import Derived.Test.YtflkcbkcmbogjaaGreatDoorCoreNoneRunD
import Derived.Test.YtflkcbkcmbogjaaGreatDoorCoreNoneRunE
import Derived.Test.YtflkcbkcmbogjaaGreatDoorCoreNoneRunF
namespace Go.Proofs.YtflkcbkcmbogjaaGreatDoor.coreNone
set_option linter.unusedVariables false
set_option maxRecDepth 100000
open Go.Wvm

theorem ok : VPok Tryz.prog tables := VP.of_ok _
theorem hm : Tryz.prog.follows .mixedOrders = true := by kernel_rfl
theorem started : startV tables known 4 0 = some s0 := by kernel_rfl
theorem e18yz3 : EndsFrom Tryz.prog 0 s18yz3 v18y W18y := ends_over ok hm w18yz3
theorem e18yz2 : EndsFrom Tryz.prog 0 s18yz2 v18y W18y := ends_go ok hm w18yz2 e18yz3
theorem e18yz1 : EndsFrom Tryz.prog 0 s18yz1 v18y W18y := ends_go ok hm w18yz1 e18yz2
theorem e18yz0 : EndsFrom Tryz.prog 0 s18yz0 v18y W18y := ends_go ok hm w18yz0 e18yz1
theorem h18y : subM Tryz.prog tables 1000000 tb18y 0 s18yz0 = .over v18y W18y := subM_hit (e := ⟨s18yz0, v18y, W18y⟩) (by kernel_rfl)
theorem t18y : ∀ e ∈ tb18y, EndsFrom Tryz.prog 0 e.m e.v e.W := tb_cons (x := ⟨s18yz0, v18y, W18y⟩) e18yz0 tb_nil
theorem l18 : Leads Tryz.prog 0 s18 s19 := (leads_big (m' := n18y) ok hm (subM_ok ok hm t18y) (bigF_range c18y h18y z18y)).trans (leads_drop d18y)
theorem e20yz6 : EndsFrom Tryz.prog 0 s20yz6 v20y W20y := ends_over ok hm w20yz6
theorem e20yz5 : EndsFrom Tryz.prog 0 s20yz5 v20y W20y := ends_go ok hm w20yz5 e20yz6
theorem e20yz4 : EndsFrom Tryz.prog 0 s20yz4 v20y W20y := ends_go ok hm w20yz4 e20yz5
theorem e20yz3 : EndsFrom Tryz.prog 0 s20yz3 v20y W20y := ends_go ok hm w20yz3 e20yz4
theorem e20yz2 : EndsFrom Tryz.prog 0 s20yz2 v20y W20y := ends_go ok hm w20yz2 e20yz3
theorem e20yz1 : EndsFrom Tryz.prog 0 s20yz1 v20y W20y := ends_go ok hm w20yz1 e20yz2
theorem e20yz0 : EndsFrom Tryz.prog 0 s20yz0 v20y W20y := ends_go ok hm w20yz0 e20yz1
theorem h20y : subM Tryz.prog tables 1000000 tb20y 0 s20yz0 = .over v20y W20y := subM_hit (e := ⟨s20yz0, v20y, W20y⟩) (by kernel_rfl)
theorem t20y : ∀ e ∈ tb20y, EndsFrom Tryz.prog 0 e.m e.v e.W := tb_cons (x := ⟨s20yz0, v20y, W20y⟩) e20yz0 tb_nil
theorem l20 : Leads Tryz.prog 0 s20 s21 := (leads_big (m' := n20y) ok hm (subM_ok ok hm t20y) (bigF_range c20y h20y z20y)).trans (leads_drop d20y)
theorem e22y0z32yz1 : EndsFrom Tryz.prog 0 s22y0z32yz1 v22y0z32y W22y0z32y := ends_over ok hm w22y0z32yz1
theorem e22y0z32yz0 : EndsFrom Tryz.prog 0 s22y0z32yz0 v22y0z32y W22y0z32y := ends_go ok hm w22y0z32yz0 e22y0z32yz1
theorem h22y0z32y : subM Tryz.prog tables 1000000 tb22y0z32y 0 s22y0z32yz0 = .over v22y0z32y W22y0z32y := subM_hit (e := ⟨s22y0z32yz0, v22y0z32y, W22y0z32y⟩) (by kernel_rfl)
theorem t22y0z32y : ∀ e ∈ tb22y0z32y, EndsFrom Tryz.prog 0 e.m e.v e.W := tb_cons (x := ⟨s22y0z32yz0, v22y0z32y, W22y0z32y⟩) e22y0z32yz0 tb_nil
theorem l22y0z32 : Leads Tryz.prog 0 s22y0z32 s22y0z33 := (leads_big (m' := n22y0z32y) ok hm (subM_ok ok hm t22y0z32y) (bigF_range c22y0z32y h22y0z32y z22y0z32y)).trans (leads_drop d22y0z32y)
theorem e22y0z36yz3 : EndsFrom Tryz.prog 0 s22y0z36yz3 v22y0z36y W22y0z36y := ends_over ok hm w22y0z36yz3
theorem e22y0z36yz2 : EndsFrom Tryz.prog 0 s22y0z36yz2 v22y0z36y W22y0z36y := ends_go ok hm w22y0z36yz2 e22y0z36yz3
theorem e22y0z36yz1 : EndsFrom Tryz.prog 0 s22y0z36yz1 v22y0z36y W22y0z36y := ends_go ok hm w22y0z36yz1 e22y0z36yz2
theorem e22y0z36yz0 : EndsFrom Tryz.prog 0 s22y0z36yz0 v22y0z36y W22y0z36y := ends_go ok hm w22y0z36yz0 e22y0z36yz1
theorem h22y0z36y : subM Tryz.prog tables 1000000 tb22y0z36y 0 s22y0z36yz0 = .over v22y0z36y W22y0z36y := subM_hit (e := ⟨s22y0z36yz0, v22y0z36y, W22y0z36y⟩) (by kernel_rfl)
theorem t22y0z36y : ∀ e ∈ tb22y0z36y, EndsFrom Tryz.prog 0 e.m e.v e.W := tb_cons (x := ⟨s22y0z36yz0, v22y0z36y, W22y0z36y⟩) e22y0z36yz0 tb_nil
theorem l22y0z36 : Leads Tryz.prog 0 s22y0z36 s22y0z37 := (leads_big (m' := n22y0z36y) ok hm (subM_ok ok hm t22y0z36y) (bigF_range c22y0z36y h22y0z36y z22y0z36y)).trans (leads_drop d22y0z36y)
theorem e22y0z39yz2y0z2 : EndsFrom Tryz.prog 0 s22y0z39yz2y0z2 v22y0z39yz2y0 W22y0z39yz2y0 := ends_over ok hm w22y0z39yz2y0z2
theorem e22y0z39yz2y0z1 : EndsFrom Tryz.prog 0 s22y0z39yz2y0z1 v22y0z39yz2y0 W22y0z39yz2y0 := ends_go ok hm w22y0z39yz2y0z1 e22y0z39yz2y0z2
theorem e22y0z39yz2y0z0 : EndsFrom Tryz.prog 0 s22y0z39yz2y0z0 v22y0z39yz2y0 W22y0z39yz2y0 := ends_go ok hm w22y0z39yz2y0z0 e22y0z39yz2y0z1
theorem h22y0z39yz2y0 : subM Tryz.prog tables 1000000 tb22y0z39yz2y 0 x22y0z39yz2y0.m = .over v22y0z39yz2y0 W22y0z39yz2y0 := subM_hit (e := ⟨x22y0z39yz2y0.m, v22y0z39yz2y0, W22y0z39yz2y0⟩) (by kernel_rfl)
theorem t22y0z39yz2y : ∀ e ∈ tb22y0z39yz2y, EndsFrom Tryz.prog 0 e.m e.v e.W := (tb_cons (x := ⟨x22y0z39yz2y0.m, v22y0z39yz2y0, W22y0z39yz2y0⟩) e22y0z39yz2y0z0 tb_nil)
theorem g22y0z39yz2y : greedyX Tryz.prog tables (subM Tryz.prog tables 1000000 tb22y0z39yz2y 0) 0 q3204 52 none 0 s22y0z39yz2.fr s22y0z39yz2.w [] [] = some (fe22y0z39yz2y, we22y0z39yz2y, de22y0z39yz2y) := cutX_spec h22y0z39yz2y0 z22y0z39yz2y c22y0z39yz2y0
theorem l22y0z39yz2 : Leads Tryz.prog 0 s22y0z39yz2 s22y0z39yz3 := (leads_big (m' := n22y0z39yz2y) ok hm (subM_ok ok hm t22y0z39yz2y) (bigF_cut y22y0z39yz2y g22y0z39yz2y)).trans (leads_drop d22y0z39yz2y)
theorem e22y0z39yz4 : EndsFrom Tryz.prog 0 s22y0z39yz4 v22y0z39y W22y0z39y := ends_over ok hm w22y0z39yz4
theorem e22y0z39yz3 : EndsFrom Tryz.prog 0 s22y0z39yz3 v22y0z39y W22y0z39y := ends_go ok hm w22y0z39yz3 e22y0z39yz4
theorem e22y0z39yz2 : EndsFrom Tryz.prog 0 s22y0z39yz2 v22y0z39y W22y0z39y := ends_on l22y0z39yz2 e22y0z39yz3
theorem e22y0z39yz1 : EndsFrom Tryz.prog 0 s22y0z39yz1 v22y0z39y W22y0z39y := ends_go ok hm w22y0z39yz1 e22y0z39yz2
theorem e22y0z39yz0 : EndsFrom Tryz.prog 0 s22y0z39yz0 v22y0z39y W22y0z39y := ends_go ok hm w22y0z39yz0 e22y0z39yz1
theorem h22y0z39y : subM Tryz.prog tables 1000000 tb22y0z39y 0 s22y0z39yz0 = .over v22y0z39y W22y0z39y := subM_hit (e := ⟨s22y0z39yz0, v22y0z39y, W22y0z39y⟩) (by kernel_rfl)
theorem t22y0z39y : ∀ e ∈ tb22y0z39y, EndsFrom Tryz.prog 0 e.m e.v e.W := tb_cons (x := ⟨s22y0z39yz0, v22y0z39y, W22y0z39y⟩) e22y0z39yz0 tb_nil
theorem l22y0z39 : Leads Tryz.prog 0 s22y0z39 s22y0z40 := (leads_big (m' := n22y0z39y) ok hm (subM_ok ok hm t22y0z39y) (bigF_range c22y0z39y h22y0z39y z22y0z39y)).trans (leads_drop d22y0z39y)
theorem e22y0z41yz3 : EndsFrom Tryz.prog 0 s22y0z41yz3 v22y0z41y W22y0z41y := ends_over ok hm w22y0z41yz3
theorem e22y0z41yz2 : EndsFrom Tryz.prog 0 s22y0z41yz2 v22y0z41y W22y0z41y := ends_go ok hm w22y0z41yz2 e22y0z41yz3
theorem e22y0z41yz1 : EndsFrom Tryz.prog 0 s22y0z41yz1 v22y0z41y W22y0z41y := ends_go ok hm w22y0z41yz1 e22y0z41yz2
theorem e22y0z41yz0 : EndsFrom Tryz.prog 0 s22y0z41yz0 v22y0z41y W22y0z41y := ends_go ok hm w22y0z41yz0 e22y0z41yz1
theorem h22y0z41y : subM Tryz.prog tables 1000000 tb22y0z41y 0 s22y0z41yz0 = .over v22y0z41y W22y0z41y := subM_hit (e := ⟨s22y0z41yz0, v22y0z41y, W22y0z41y⟩) (by kernel_rfl)
theorem t22y0z41y : ∀ e ∈ tb22y0z41y, EndsFrom Tryz.prog 0 e.m e.v e.W := tb_cons (x := ⟨s22y0z41yz0, v22y0z41y, W22y0z41y⟩) e22y0z41yz0 tb_nil
theorem l22y0z41 : Leads Tryz.prog 0 s22y0z41 s22y0z42 := (leads_big (m' := n22y0z41y) ok hm (subM_ok ok hm t22y0z41y) (bigF_range c22y0z41y h22y0z41y z22y0z41y)).trans (leads_drop d22y0z41y)
theorem e22y0z43yz3y0z2 : EndsFrom Tryz.prog 0 s22y0z43yz3y0z2 v22y0z43yz3y0 W22y0z43yz3y0 := ends_over ok hm w22y0z43yz3y0z2
theorem e22y0z43yz3y0z1 : EndsFrom Tryz.prog 0 s22y0z43yz3y0z1 v22y0z43yz3y0 W22y0z43yz3y0 := ends_go ok hm w22y0z43yz3y0z1 e22y0z43yz3y0z2
theorem e22y0z43yz3y0z0 : EndsFrom Tryz.prog 0 s22y0z43yz3y0z0 v22y0z43yz3y0 W22y0z43yz3y0 := ends_go ok hm w22y0z43yz3y0z0 e22y0z43yz3y0z1
theorem h22y0z43yz3y0 : subM Tryz.prog tables 1000000 tb22y0z43yz3y 0 x22y0z43yz3y0.m = .over v22y0z43yz3y0 W22y0z43yz3y0 := subM_hit (e := ⟨x22y0z43yz3y0.m, v22y0z43yz3y0, W22y0z43yz3y0⟩) (by kernel_rfl)
theorem t22y0z43yz3y : ∀ e ∈ tb22y0z43yz3y, EndsFrom Tryz.prog 0 e.m e.v e.W := (tb_cons (x := ⟨x22y0z43yz3y0.m, v22y0z43yz3y0, W22y0z43yz3y0⟩) e22y0z43yz3y0z0 tb_nil)
theorem g22y0z43yz3y : greedyX Tryz.prog tables (subM Tryz.prog tables 1000000 tb22y0z43yz3y 0) 0 q3204 52 none 0 s22y0z43yz3.fr s22y0z43yz3.w [] [] = some (fe22y0z43yz3y, we22y0z43yz3y, de22y0z43yz3y) := cutX_spec h22y0z43yz3y0 z22y0z43yz3y c22y0z43yz3y0
theorem l22y0z43yz3 : Leads Tryz.prog 0 s22y0z43yz3 s22y0z43yz4 := (leads_big (m' := n22y0z43yz3y) ok hm (subM_ok ok hm t22y0z43yz3y) (bigF_cut y22y0z43yz3y g22y0z43yz3y)).trans (leads_drop d22y0z43yz3y)
theorem e22y0z43yz4 : EndsFrom Tryz.prog 0 s22y0z43yz4 v22y0z43y W22y0z43y := ends_over ok hm w22y0z43yz4
theorem e22y0z43yz3 : EndsFrom Tryz.prog 0 s22y0z43yz3 v22y0z43y W22y0z43y := ends_on l22y0z43yz3 e22y0z43yz4
theorem e22y0z43yz2 : EndsFrom Tryz.prog 0 s22y0z43yz2 v22y0z43y W22y0z43y := ends_go ok hm w22y0z43yz2 e22y0z43yz3
theorem e22y0z43yz1 : EndsFrom Tryz.prog 0 s22y0z43yz1 v22y0z43y W22y0z43y := ends_go ok hm w22y0z43yz1 e22y0z43yz2
theorem e22y0z43yz0 : EndsFrom Tryz.prog 0 s22y0z43yz0 v22y0z43y W22y0z43y := ends_go ok hm w22y0z43yz0 e22y0z43yz1
theorem h22y0z43y : subM Tryz.prog tables 1000000 tb22y0z43y 0 s22y0z43yz0 = .over v22y0z43y W22y0z43y := subM_hit (e := ⟨s22y0z43yz0, v22y0z43y, W22y0z43y⟩) (by kernel_rfl)
theorem t22y0z43y : ∀ e ∈ tb22y0z43y, EndsFrom Tryz.prog 0 e.m e.v e.W := tb_cons (x := ⟨s22y0z43yz0, v22y0z43y, W22y0z43y⟩) e22y0z43yz0 tb_nil
theorem l22y0z43 : Leads Tryz.prog 0 s22y0z43 s22y0z44 := (leads_big (m' := n22y0z43y) ok hm (subM_ok ok hm t22y0z43y) (bigF_range c22y0z43y h22y0z43y z22y0z43y)).trans (leads_drop d22y0z43y)
theorem e22y0z44 : EndsFrom Tryz.prog 0 s22y0z44 v22y0 W22y0 := ends_over ok hm w22y0z44
theorem e22y0z43 : EndsFrom Tryz.prog 0 s22y0z43 v22y0 W22y0 := ends_on l22y0z43 e22y0z44
theorem e22y0z42 : EndsFrom Tryz.prog 0 s22y0z42 v22y0 W22y0 := ends_go ok hm w22y0z42 e22y0z43
theorem e22y0z41 : EndsFrom Tryz.prog 0 s22y0z41 v22y0 W22y0 := ends_on l22y0z41 e22y0z42
theorem e22y0z40 : EndsFrom Tryz.prog 0 s22y0z40 v22y0 W22y0 := ends_go ok hm w22y0z40 e22y0z41
theorem e22y0z39 : EndsFrom Tryz.prog 0 s22y0z39 v22y0 W22y0 := ends_on l22y0z39 e22y0z40
theorem e22y0z38 : EndsFrom Tryz.prog 0 s22y0z38 v22y0 W22y0 := ends_go ok hm w22y0z38 e22y0z39
theorem e22y0z37 : EndsFrom Tryz.prog 0 s22y0z37 v22y0 W22y0 := ends_go ok hm w22y0z37 e22y0z38
theorem e22y0z36 : EndsFrom Tryz.prog 0 s22y0z36 v22y0 W22y0 := ends_on l22y0z36 e22y0z37
theorem e22y0z35 : EndsFrom Tryz.prog 0 s22y0z35 v22y0 W22y0 := ends_go ok hm w22y0z35 e22y0z36
theorem e22y0z34 : EndsFrom Tryz.prog 0 s22y0z34 v22y0 W22y0 := ends_go ok hm w22y0z34 e22y0z35
theorem e22y0z33 : EndsFrom Tryz.prog 0 s22y0z33 v22y0 W22y0 := ends_go ok hm w22y0z33 e22y0z34
theorem e22y0z32 : EndsFrom Tryz.prog 0 s22y0z32 v22y0 W22y0 := ends_on l22y0z32 e22y0z33
theorem e22y0z31 : EndsFrom Tryz.prog 0 s22y0z31 v22y0 W22y0 := ends_go ok hm w22y0z31 e22y0z32
theorem e22y0z30 : EndsFrom Tryz.prog 0 s22y0z30 v22y0 W22y0 := ends_go ok hm w22y0z30 e22y0z31
theorem e22y0z29 : EndsFrom Tryz.prog 0 s22y0z29 v22y0 W22y0 := ends_go ok hm w22y0z29 e22y0z30
theorem e22y0z28 : EndsFrom Tryz.prog 0 s22y0z28 v22y0 W22y0 := ends_go ok hm w22y0z28 e22y0z29
theorem e22y0z27 : EndsFrom Tryz.prog 0 s22y0z27 v22y0 W22y0 := ends_go ok hm w22y0z27 e22y0z28
theorem e22y0z26 : EndsFrom Tryz.prog 0 s22y0z26 v22y0 W22y0 := ends_go ok hm w22y0z26 e22y0z27
theorem e22y0z25 : EndsFrom Tryz.prog 0 s22y0z25 v22y0 W22y0 := ends_go ok hm w22y0z25 e22y0z26
theorem e22y0z24 : EndsFrom Tryz.prog 0 s22y0z24 v22y0 W22y0 := ends_go ok hm w22y0z24 e22y0z25
theorem e22y0z23 : EndsFrom Tryz.prog 0 s22y0z23 v22y0 W22y0 := ends_go ok hm w22y0z23 e22y0z24
theorem e22y0z22 : EndsFrom Tryz.prog 0 s22y0z22 v22y0 W22y0 := ends_go ok hm w22y0z22 e22y0z23
theorem e22y0z21 : EndsFrom Tryz.prog 0 s22y0z21 v22y0 W22y0 := ends_go ok hm w22y0z21 e22y0z22
theorem e22y0z20 : EndsFrom Tryz.prog 0 s22y0z20 v22y0 W22y0 := ends_go ok hm w22y0z20 e22y0z21
theorem e22y0z19 : EndsFrom Tryz.prog 0 s22y0z19 v22y0 W22y0 := ends_go ok hm w22y0z19 e22y0z20
theorem e22y0z18 : EndsFrom Tryz.prog 0 s22y0z18 v22y0 W22y0 := ends_go ok hm w22y0z18 e22y0z19
theorem e22y0z17 : EndsFrom Tryz.prog 0 s22y0z17 v22y0 W22y0 := ends_go ok hm w22y0z17 e22y0z18
theorem e22y0z16 : EndsFrom Tryz.prog 0 s22y0z16 v22y0 W22y0 := ends_go ok hm w22y0z16 e22y0z17
theorem e22y0z15 : EndsFrom Tryz.prog 0 s22y0z15 v22y0 W22y0 := ends_go ok hm w22y0z15 e22y0z16
theorem e22y0z14 : EndsFrom Tryz.prog 0 s22y0z14 v22y0 W22y0 := ends_go ok hm w22y0z14 e22y0z15
theorem e22y0z13 : EndsFrom Tryz.prog 0 s22y0z13 v22y0 W22y0 := ends_go ok hm w22y0z13 e22y0z14
theorem e22y0z12 : EndsFrom Tryz.prog 0 s22y0z12 v22y0 W22y0 := ends_go ok hm w22y0z12 e22y0z13
theorem e22y0z11 : EndsFrom Tryz.prog 0 s22y0z11 v22y0 W22y0 := ends_go ok hm w22y0z11 e22y0z12
theorem e22y0z10 : EndsFrom Tryz.prog 0 s22y0z10 v22y0 W22y0 := ends_go ok hm w22y0z10 e22y0z11
theorem e22y0z9 : EndsFrom Tryz.prog 0 s22y0z9 v22y0 W22y0 := ends_go ok hm w22y0z9 e22y0z10
theorem e22y0z8 : EndsFrom Tryz.prog 0 s22y0z8 v22y0 W22y0 := ends_go ok hm w22y0z8 e22y0z9
theorem e22y0z7 : EndsFrom Tryz.prog 0 s22y0z7 v22y0 W22y0 := ends_go ok hm w22y0z7 e22y0z8
theorem e22y0z6 : EndsFrom Tryz.prog 0 s22y0z6 v22y0 W22y0 := ends_go ok hm w22y0z6 e22y0z7
theorem e22y0z5 : EndsFrom Tryz.prog 0 s22y0z5 v22y0 W22y0 := ends_go ok hm w22y0z5 e22y0z6
theorem e22y0z4 : EndsFrom Tryz.prog 0 s22y0z4 v22y0 W22y0 := ends_go ok hm w22y0z4 e22y0z5
theorem e22y0z3 : EndsFrom Tryz.prog 0 s22y0z3 v22y0 W22y0 := ends_go ok hm w22y0z3 e22y0z4
theorem e22y0z2 : EndsFrom Tryz.prog 0 s22y0z2 v22y0 W22y0 := ends_go ok hm w22y0z2 e22y0z3
theorem e22y0z1 : EndsFrom Tryz.prog 0 s22y0z1 v22y0 W22y0 := ends_go ok hm w22y0z1 e22y0z2
theorem e22y0z0 : EndsFrom Tryz.prog 0 s22y0z0 v22y0 W22y0 := ends_go ok hm w22y0z0 e22y0z1
theorem h22y0 : subM Tryz.prog tables 1000000 tb22y 0 x22y0.m = .over v22y0 W22y0 := subM_hit (e := ⟨x22y0.m, v22y0, W22y0⟩) (by kernel_rfl)
theorem t22y : ∀ e ∈ tb22y, EndsFrom Tryz.prog 0 e.m e.v e.W := (tb_cons (x := ⟨x22y0.m, v22y0, W22y0⟩) e22y0z0 tb_nil)
theorem g22y : greedyX Tryz.prog tables (subM Tryz.prog tables 1000000 tb22y 0) 0 q1341 232 none 0 s22.fr s22.w [] [] = some (fe22y, we22y, de22y) := cutX_spec h22y0 z22y c22y0
theorem l22 : Leads Tryz.prog 0 s22 s23 := (leads_big (m' := n22y) ok hm (subM_ok ok hm t22y) (bigF_cut y22y g22y)).trans (leads_drop d22y)
theorem e23 : EndsYes Tryz.prog s23 := ends_last ok hm w23
theorem e22 : EndsYes Tryz.prog s22 := ends_lead l22 e23
theorem e21 : EndsYes Tryz.prog s21 := ends_step ok hm w21 e22
theorem e20 : EndsYes Tryz.prog s20 := ends_lead l20 e21
theorem e19 : EndsYes Tryz.prog s19 := ends_step ok hm w19 e20
theorem e18 : EndsYes Tryz.prog s18 := ends_lead l18 e19
theorem e17 : EndsYes Tryz.prog s17 := ends_step ok hm w17 e18
theorem e16 : EndsYes Tryz.prog s16 := ends_step ok hm w16 e17
theorem e15 : EndsYes Tryz.prog s15 := ends_step ok hm w15 e16
theorem e14 : EndsYes Tryz.prog s14 := ends_step ok hm w14 e15
theorem e13 : EndsYes Tryz.prog s13 := ends_step ok hm w13 e14
theorem e12 : EndsYes Tryz.prog s12 := ends_step ok hm w12 e13
theorem e11 : EndsYes Tryz.prog s11 := ends_step ok hm w11 e12
theorem e10 : EndsYes Tryz.prog s10 := ends_step ok hm w10 e11
theorem e9 : EndsYes Tryz.prog s9 := ends_step ok hm w9 e10
theorem e8 : EndsYes Tryz.prog s8 := ends_step ok hm w8 e9
theorem e7 : EndsYes Tryz.prog s7 := ends_step ok hm w7 e8
theorem e6 : EndsYes Tryz.prog s6 := ends_step ok hm w6 e7
theorem e5 : EndsYes Tryz.prog s5 := ends_step ok hm w5 e6
theorem e4 : EndsYes Tryz.prog s4 := ends_step ok hm w4 e5
theorem e3 : EndsYes Tryz.prog s3 := ends_step ok hm w3 e4
theorem e2 : EndsYes Tryz.prog s2 := ends_step ok hm w2 e3
theorem e1 : EndsYes Tryz.prog s1 := ends_step ok hm w1 e2
theorem e0 : EndsYes Tryz.prog s0 := ends_step ok hm w0 e1

end Go.Proofs.YtflkcbkcmbogjaaGreatDoor.coreNone
