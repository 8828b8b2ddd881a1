/- The law TurnNone: its run, put together. -/
import Derived.Test.YteojaklegpbhhaaGreatDoorTurnNoneRunA
import Derived.Test.YteojaklegpbhhaaGreatDoorTurnNoneRunB
import Derived.Test.YteojaklegpbhhaaGreatDoorTurnNoneRunC
import Derived.Test.YteojaklegpbhhaaGreatDoorTurnNoneRunD
namespace Go.Proofs.YteojaklegpbhhaaGreatDoor.turnNone
set_option linter.unusedVariables false
set_option maxRecDepth 100000
open Go.Wvm

theorem ok : VPok Tryz.prog tables := VP.of_ok _
theorem hm : Tryz.prog.follows .mixedOrders = true := by kernel_rfl
theorem started : startV tables known 3 0 = some s0 := by kernel_rfl
theorem e3y0z1 : EndsFrom Tryz.prog 0 s3y0z1 v3y0 W3y0 := ends_over ok hm w3y0z1
theorem e3y0z0 : EndsFrom Tryz.prog 0 s3y0z0 v3y0 W3y0 := ends_go ok hm w3y0z0 e3y0z1
theorem h3y0 : subM Tryz.prog tables 1000000 tb3y 0 x3y0.m = .over v3y0 W3y0 := subM_hit (e := ⟨x3y0.m, v3y0, W3y0⟩) (by kernel_rfl)
theorem t3y : ∀ e ∈ tb3y, EndsFrom Tryz.prog 0 e.m e.v e.W := (tb_cons (x := ⟨x3y0.m, v3y0, W3y0⟩) e3y0z0 tb_nil)
theorem g3y : greedyX Tryz.prog tables (subM Tryz.prog tables 1000000 tb3y 0) 0 q177 31 none (Array.replicate 10 false) s3.fr s3.w [] [] = some (fe3y, we3y, de3y) := cutX_spec h3y0 z3y c3y0
theorem l3 : Leads Tryz.prog 0 s3 s4 := (leads_big (m' := n3y) ok hm (subM_ok ok hm t3y) (bigF_cut y3y g3y)).trans (leads_drop d3y)
theorem e11yz2 : EndsFrom Tryz.prog 0 s11yz2 v11y W11y := ends_over ok hm w11yz2
theorem e11yz1 : EndsFrom Tryz.prog 0 s11yz1 v11y W11y := ends_go ok hm w11yz1 e11yz2
theorem e11yz0 : EndsFrom Tryz.prog 0 s11yz0 v11y W11y := ends_go ok hm w11yz0 e11yz1
theorem h11y : subM Tryz.prog tables 1000000 tb11y 0 s11yz0 = .over v11y W11y := subM_hit (e := ⟨s11yz0, v11y, W11y⟩) (by kernel_rfl)
theorem t11y : ∀ e ∈ tb11y, EndsFrom Tryz.prog 0 e.m e.v e.W := tb_cons (x := ⟨s11yz0, v11y, W11y⟩) e11yz0 tb_nil
theorem l11 : Leads Tryz.prog 0 s11 s12 := (leads_big (m' := n11y) ok hm (subM_ok ok hm t11y) (bigF_range c11y h11y z11y)).trans (leads_drop d11y)
theorem e17y0z6 : EndsFrom Tryz.prog 0 s17y0z6 v17y0 W17y0 := ends_over ok hm w17y0z6
theorem e17y0z5 : EndsFrom Tryz.prog 0 s17y0z5 v17y0 W17y0 := ends_go ok hm w17y0z5 e17y0z6
theorem e17y0z4 : EndsFrom Tryz.prog 0 s17y0z4 v17y0 W17y0 := ends_go ok hm w17y0z4 e17y0z5
theorem e17y0z3 : EndsFrom Tryz.prog 0 s17y0z3 v17y0 W17y0 := ends_go ok hm w17y0z3 e17y0z4
theorem e17y0z2 : EndsFrom Tryz.prog 0 s17y0z2 v17y0 W17y0 := ends_go ok hm w17y0z2 e17y0z3
theorem e17y0z1 : EndsFrom Tryz.prog 0 s17y0z1 v17y0 W17y0 := ends_go ok hm w17y0z1 e17y0z2
theorem e17y0z0 : EndsFrom Tryz.prog 0 s17y0z0 v17y0 W17y0 := ends_go ok hm w17y0z0 e17y0z1
theorem h17y0 : subM Tryz.prog tables 1000000 tb17y 0 x17y0.m = .over v17y0 W17y0 := subM_hit (e := ⟨x17y0.m, v17y0, W17y0⟩) (by kernel_rfl)
theorem t17y : ∀ e ∈ tb17y, EndsFrom Tryz.prog 0 e.m e.v e.W := (tb_cons (x := ⟨x17y0.m, v17y0, W17y0⟩) e17y0z0 tb_nil)
theorem g17y : greedyX Tryz.prog tables (subM Tryz.prog tables 1000000 tb17y 0) 0 q177 31 none (Array.replicate 10 false) s17.fr s17.w [] [] = some (fe17y, we17y, de17y) := cutX_spec h17y0 z17y c17y0
theorem l17 : Leads Tryz.prog 0 s17 s18 := (leads_big (m' := n17y) ok hm (subM_ok ok hm t17y) (bigF_cut y17y g17y)).trans (leads_drop d17y)
theorem e19yz2 : EndsFrom Tryz.prog 0 s19yz2 v19y W19y := ends_over ok hm w19yz2
theorem e19yz1 : EndsFrom Tryz.prog 0 s19yz1 v19y W19y := ends_go ok hm w19yz1 e19yz2
theorem e19yz0 : EndsFrom Tryz.prog 0 s19yz0 v19y W19y := ends_go ok hm w19yz0 e19yz1
theorem h19y : subM Tryz.prog tables 1000000 tb19y 0 s19yz0 = .over v19y W19y := subM_hit (e := ⟨s19yz0, v19y, W19y⟩) (by kernel_rfl)
theorem t19y : ∀ e ∈ tb19y, EndsFrom Tryz.prog 0 e.m e.v e.W := tb_cons (x := ⟨s19yz0, v19y, W19y⟩) e19yz0 tb_nil
theorem l19 : Leads Tryz.prog 0 s19 s20 := (leads_big (m' := n19y) ok hm (subM_ok ok hm t19y) (bigF_range c19y h19y z19y)).trans (leads_drop d19y)
theorem e25y0z6 : EndsFrom Tryz.prog 0 s25y0z6 v25y0 W25y0 := ends_over ok hm w25y0z6
theorem e25y0z5 : EndsFrom Tryz.prog 0 s25y0z5 v25y0 W25y0 := ends_go ok hm w25y0z5 e25y0z6
theorem e25y0z4 : EndsFrom Tryz.prog 0 s25y0z4 v25y0 W25y0 := ends_go ok hm w25y0z4 e25y0z5
theorem e25y0z3 : EndsFrom Tryz.prog 0 s25y0z3 v25y0 W25y0 := ends_go ok hm w25y0z3 e25y0z4
theorem e25y0z2 : EndsFrom Tryz.prog 0 s25y0z2 v25y0 W25y0 := ends_go ok hm w25y0z2 e25y0z3
theorem e25y0z1 : EndsFrom Tryz.prog 0 s25y0z1 v25y0 W25y0 := ends_go ok hm w25y0z1 e25y0z2
theorem e25y0z0 : EndsFrom Tryz.prog 0 s25y0z0 v25y0 W25y0 := ends_go ok hm w25y0z0 e25y0z1
theorem h25y0 : subM Tryz.prog tables 1000000 tb25y 0 x25y0.m = .over v25y0 W25y0 := subM_hit (e := ⟨x25y0.m, v25y0, W25y0⟩) (by kernel_rfl)
theorem t25y : ∀ e ∈ tb25y, EndsFrom Tryz.prog 0 e.m e.v e.W := (tb_cons (x := ⟨x25y0.m, v25y0, W25y0⟩) e25y0z0 tb_nil)
theorem g25y : greedyX Tryz.prog tables (subM Tryz.prog tables 1000000 tb25y 0) 0 q177 31 none (Array.replicate 10 false) s25.fr s25.w [] [] = some (fe25y, we25y, de25y) := cutX_spec h25y0 z25y c25y0
theorem l25 : Leads Tryz.prog 0 s25 s26 := (leads_big (m' := n25y) ok hm (subM_ok ok hm t25y) (bigF_cut y25y g25y)).trans (leads_drop d25y)
theorem e26 : EndsYes Tryz.prog s26 := ends_last ok hm w26
theorem e25 : EndsYes Tryz.prog s25 := ends_lead l25 e26
theorem e24 : EndsYes Tryz.prog s24 := ends_step ok hm w24 e25
theorem e23 : EndsYes Tryz.prog s23 := ends_step ok hm w23 e24
theorem e22 : EndsYes Tryz.prog s22 := ends_step ok hm w22 e23
theorem e21 : EndsYes Tryz.prog s21 := ends_step ok hm w21 e22
theorem e20 : EndsYes Tryz.prog s20 := ends_step ok hm w20 e21
theorem e19 : EndsYes Tryz.prog s19 := ends_lead l19 e20
theorem e18 : EndsYes Tryz.prog s18 := ends_step ok hm w18 e19
theorem e17 : EndsYes Tryz.prog s17 := ends_lead l17 e18
theorem e16 : EndsYes Tryz.prog s16 := ends_step ok hm w16 e17
theorem e15 : EndsYes Tryz.prog s15 := ends_step ok hm w15 e16
theorem e14 : EndsYes Tryz.prog s14 := ends_step ok hm w14 e15
theorem e13 : EndsYes Tryz.prog s13 := ends_step ok hm w13 e14
theorem e12 : EndsYes Tryz.prog s12 := ends_step ok hm w12 e13
theorem e11 : EndsYes Tryz.prog s11 := ends_lead l11 e12
theorem e10 : EndsYes Tryz.prog s10 := ends_step ok hm w10 e11
theorem e9 : EndsYes Tryz.prog s9 := ends_step ok hm w9 e10
theorem e8 : EndsYes Tryz.prog s8 := ends_step ok hm w8 e9
theorem e7 : EndsYes Tryz.prog s7 := ends_step ok hm w7 e8
theorem e6 : EndsYes Tryz.prog s6 := ends_step ok hm w6 e7
theorem e5 : EndsYes Tryz.prog s5 := ends_step ok hm w5 e6
theorem e4 : EndsYes Tryz.prog s4 := ends_step ok hm w4 e5
theorem e3 : EndsYes Tryz.prog s3 := ends_lead l3 e4
theorem e2 : EndsYes Tryz.prog s2 := ends_step ok hm w2 e3
theorem e1 : EndsYes Tryz.prog s1 := ends_step ok hm w1 e2
theorem e0 : EndsYes Tryz.prog s0 := ends_step ok hm w0 e1

end Go.Proofs.YteojaklegpbhhaaGreatDoor.turnNone
