/- The law BallNone: its run, put together. -/
import Derived.Test.YtebgmndbhjecnaaGreatDoorBallNoneRunA
import Derived.Test.YtebgmndbhjecnaaGreatDoorBallNoneRunB
import Derived.Test.YtebgmndbhjecnaaGreatDoorBallNoneRunC
namespace Go.Proofs.YtebgmndbhjecnaaGreatDoor.ballNone
set_option linter.unusedVariables false
set_option maxRecDepth 100000
open Go.Wvm

theorem ok : VPok Tryz.prog tables := VP.of_ok _
theorem hm : Tryz.prog.follows .mixedOrders = true := by kernel_rfl
theorem started : startV tables known 4 0 = some s0 := by kernel_rfl
theorem e15yz2 : EndsFrom Tryz.prog 0 s15yz2 v15y W15y := ends_over ok hm w15yz2
theorem e15yz1 : EndsFrom Tryz.prog 0 s15yz1 v15y W15y := ends_go ok hm w15yz1 e15yz2
theorem e15yz0 : EndsFrom Tryz.prog 0 s15yz0 v15y W15y := ends_go ok hm w15yz0 e15yz1
theorem h15y : subM Tryz.prog tables 1000000 tb15y 0 s15yz0 = .over v15y W15y := subM_hit (e := ⟨s15yz0, v15y, W15y⟩) (by kernel_rfl)
theorem t15y : ∀ e ∈ tb15y, EndsFrom Tryz.prog 0 e.m e.v e.W := tb_cons (x := ⟨s15yz0, v15y, W15y⟩) e15yz0 tb_nil
theorem l15 : Leads Tryz.prog 0 s15 s16 := (leads_big (m' := n15y) ok hm (subM_ok ok hm t15y) (bigF_range c15y h15y z15y)).trans (leads_drop d15y)
theorem e21y0z15yz2 : EndsFrom Tryz.prog 0 s21y0z15yz2 v21y0z15y W21y0z15y := ends_over ok hm w21y0z15yz2
theorem e21y0z15yz1 : EndsFrom Tryz.prog 0 s21y0z15yz1 v21y0z15y W21y0z15y := ends_go ok hm w21y0z15yz1 e21y0z15yz2
theorem e21y0z15yz0 : EndsFrom Tryz.prog 0 s21y0z15yz0 v21y0z15y W21y0z15y := ends_go ok hm w21y0z15yz0 e21y0z15yz1
theorem h21y0z15y : subM Tryz.prog tables 1000000 tb21y0z15y 0 s21y0z15yz0 = .over v21y0z15y W21y0z15y := subM_hit (e := ⟨s21y0z15yz0, v21y0z15y, W21y0z15y⟩) (by kernel_rfl)
theorem t21y0z15y : ∀ e ∈ tb21y0z15y, EndsFrom Tryz.prog 0 e.m e.v e.W := tb_cons (x := ⟨s21y0z15yz0, v21y0z15y, W21y0z15y⟩) e21y0z15yz0 tb_nil
theorem l21y0z15 : Leads Tryz.prog 0 s21y0z15 s21y0z16 := (leads_big (m' := n21y0z15y) ok hm (subM_ok ok hm t21y0z15y) (bigF_range c21y0z15y h21y0z15y z21y0z15y)).trans (leads_drop d21y0z15y)
theorem e21y0z20yz3 : EndsFrom Tryz.prog 0 s21y0z20yz3 v21y0z20y W21y0z20y := ends_over ok hm w21y0z20yz3
theorem e21y0z20yz2 : EndsFrom Tryz.prog 0 s21y0z20yz2 v21y0z20y W21y0z20y := ends_go ok hm w21y0z20yz2 e21y0z20yz3
theorem e21y0z20yz1 : EndsFrom Tryz.prog 0 s21y0z20yz1 v21y0z20y W21y0z20y := ends_go ok hm w21y0z20yz1 e21y0z20yz2
theorem e21y0z20yz0 : EndsFrom Tryz.prog 0 s21y0z20yz0 v21y0z20y W21y0z20y := ends_go ok hm w21y0z20yz0 e21y0z20yz1
theorem h21y0z20y : subM Tryz.prog tables 1000000 tb21y0z20y 0 s21y0z20yz0 = .over v21y0z20y W21y0z20y := subM_hit (e := ⟨s21y0z20yz0, v21y0z20y, W21y0z20y⟩) (by kernel_rfl)
theorem t21y0z20y : ∀ e ∈ tb21y0z20y, EndsFrom Tryz.prog 0 e.m e.v e.W := tb_cons (x := ⟨s21y0z20yz0, v21y0z20y, W21y0z20y⟩) e21y0z20yz0 tb_nil
theorem l21y0z20 : Leads Tryz.prog 0 s21y0z20 s21y0z21 := (leads_big (m' := n21y0z20y) ok hm (subM_ok ok hm t21y0z20y) (bigF_range c21y0z20y h21y0z20y z21y0z20y)).trans (leads_drop d21y0z20y)
theorem e21y0z24yz1 : EndsFrom Tryz.prog 0 s21y0z24yz1 v21y0z24y W21y0z24y := ends_over ok hm w21y0z24yz1
theorem e21y0z24yz0 : EndsFrom Tryz.prog 0 s21y0z24yz0 v21y0z24y W21y0z24y := ends_go ok hm w21y0z24yz0 e21y0z24yz1
theorem h21y0z24y : subM Tryz.prog tables 1000000 tb21y0z24y 0 s21y0z24yz0 = .over v21y0z24y W21y0z24y := subM_hit (e := ⟨s21y0z24yz0, v21y0z24y, W21y0z24y⟩) (by kernel_rfl)
theorem t21y0z24y : ∀ e ∈ tb21y0z24y, EndsFrom Tryz.prog 0 e.m e.v e.W := tb_cons (x := ⟨s21y0z24yz0, v21y0z24y, W21y0z24y⟩) e21y0z24yz0 tb_nil
theorem l21y0z24 : Leads Tryz.prog 0 s21y0z24 s21y0z25 := (leads_big (m' := n21y0z24y) ok hm (subM_ok ok hm t21y0z24y) (bigF_range c21y0z24y h21y0z24y z21y0z24y)).trans (leads_drop d21y0z24y)
theorem e21y0z27yz2 : EndsFrom Tryz.prog 0 s21y0z27yz2 v21y0z27y W21y0z27y := ends_over ok hm w21y0z27yz2
theorem e21y0z27yz1 : EndsFrom Tryz.prog 0 s21y0z27yz1 v21y0z27y W21y0z27y := ends_go ok hm w21y0z27yz1 e21y0z27yz2
theorem e21y0z27yz0 : EndsFrom Tryz.prog 0 s21y0z27yz0 v21y0z27y W21y0z27y := ends_go ok hm w21y0z27yz0 e21y0z27yz1
theorem h21y0z27y : subM Tryz.prog tables 1000000 tb21y0z27y 0 s21y0z27yz0 = .over v21y0z27y W21y0z27y := subM_hit (e := ⟨s21y0z27yz0, v21y0z27y, W21y0z27y⟩) (by kernel_rfl)
theorem t21y0z27y : ∀ e ∈ tb21y0z27y, EndsFrom Tryz.prog 0 e.m e.v e.W := tb_cons (x := ⟨s21y0z27yz0, v21y0z27y, W21y0z27y⟩) e21y0z27yz0 tb_nil
theorem l21y0z27 : Leads Tryz.prog 0 s21y0z27 s21y0z28 := (leads_big (m' := n21y0z27y) ok hm (subM_ok ok hm t21y0z27y) (bigF_range c21y0z27y h21y0z27y z21y0z27y)).trans (leads_drop d21y0z27y)
theorem e21y0z31yz3 : EndsFrom Tryz.prog 0 s21y0z31yz3 v21y0z31y W21y0z31y := ends_over ok hm w21y0z31yz3
theorem e21y0z31yz2 : EndsFrom Tryz.prog 0 s21y0z31yz2 v21y0z31y W21y0z31y := ends_go ok hm w21y0z31yz2 e21y0z31yz3
theorem e21y0z31yz1 : EndsFrom Tryz.prog 0 s21y0z31yz1 v21y0z31y W21y0z31y := ends_go ok hm w21y0z31yz1 e21y0z31yz2
theorem e21y0z31yz0 : EndsFrom Tryz.prog 0 s21y0z31yz0 v21y0z31y W21y0z31y := ends_go ok hm w21y0z31yz0 e21y0z31yz1
theorem h21y0z31y : subM Tryz.prog tables 1000000 tb21y0z31y 0 s21y0z31yz0 = .over v21y0z31y W21y0z31y := subM_hit (e := ⟨s21y0z31yz0, v21y0z31y, W21y0z31y⟩) (by kernel_rfl)
theorem t21y0z31y : ∀ e ∈ tb21y0z31y, EndsFrom Tryz.prog 0 e.m e.v e.W := tb_cons (x := ⟨s21y0z31yz0, v21y0z31y, W21y0z31y⟩) e21y0z31yz0 tb_nil
theorem l21y0z31 : Leads Tryz.prog 0 s21y0z31 s21y0z32 := (leads_big (m' := n21y0z31y) ok hm (subM_ok ok hm t21y0z31y) (bigF_range c21y0z31y h21y0z31y z21y0z31y)).trans (leads_drop d21y0z31y)
theorem e21y0z37yz3 : EndsFrom Tryz.prog 0 s21y0z37yz3 v21y0z37y W21y0z37y := ends_over ok hm w21y0z37yz3
theorem e21y0z37yz2 : EndsFrom Tryz.prog 0 s21y0z37yz2 v21y0z37y W21y0z37y := ends_go ok hm w21y0z37yz2 e21y0z37yz3
theorem e21y0z37yz1 : EndsFrom Tryz.prog 0 s21y0z37yz1 v21y0z37y W21y0z37y := ends_go ok hm w21y0z37yz1 e21y0z37yz2
theorem e21y0z37yz0 : EndsFrom Tryz.prog 0 s21y0z37yz0 v21y0z37y W21y0z37y := ends_go ok hm w21y0z37yz0 e21y0z37yz1
theorem h21y0z37y : subM Tryz.prog tables 1000000 tb21y0z37y 0 s21y0z37yz0 = .over v21y0z37y W21y0z37y := subM_hit (e := ⟨s21y0z37yz0, v21y0z37y, W21y0z37y⟩) (by kernel_rfl)
theorem t21y0z37y : ∀ e ∈ tb21y0z37y, EndsFrom Tryz.prog 0 e.m e.v e.W := tb_cons (x := ⟨s21y0z37yz0, v21y0z37y, W21y0z37y⟩) e21y0z37yz0 tb_nil
theorem l21y0z37 : Leads Tryz.prog 0 s21y0z37 s21y0z38 := (leads_big (m' := n21y0z37y) ok hm (subM_ok ok hm t21y0z37y) (bigF_range c21y0z37y h21y0z37y z21y0z37y)).trans (leads_drop d21y0z37y)
theorem e21y0z40yz3 : EndsFrom Tryz.prog 0 s21y0z40yz3 v21y0z40y W21y0z40y := ends_over ok hm w21y0z40yz3
theorem e21y0z40yz2 : EndsFrom Tryz.prog 0 s21y0z40yz2 v21y0z40y W21y0z40y := ends_go ok hm w21y0z40yz2 e21y0z40yz3
theorem e21y0z40yz1 : EndsFrom Tryz.prog 0 s21y0z40yz1 v21y0z40y W21y0z40y := ends_go ok hm w21y0z40yz1 e21y0z40yz2
theorem e21y0z40yz0 : EndsFrom Tryz.prog 0 s21y0z40yz0 v21y0z40y W21y0z40y := ends_go ok hm w21y0z40yz0 e21y0z40yz1
theorem h21y0z40y : subM Tryz.prog tables 1000000 tb21y0z40y 0 s21y0z40yz0 = .over v21y0z40y W21y0z40y := subM_hit (e := ⟨s21y0z40yz0, v21y0z40y, W21y0z40y⟩) (by kernel_rfl)
theorem t21y0z40y : ∀ e ∈ tb21y0z40y, EndsFrom Tryz.prog 0 e.m e.v e.W := tb_cons (x := ⟨s21y0z40yz0, v21y0z40y, W21y0z40y⟩) e21y0z40yz0 tb_nil
theorem l21y0z40 : Leads Tryz.prog 0 s21y0z40 s21y0z41 := (leads_big (m' := n21y0z40y) ok hm (subM_ok ok hm t21y0z40y) (bigF_range c21y0z40y h21y0z40y z21y0z40y)).trans (leads_drop d21y0z40y)
theorem e21y0z45 : EndsFrom Tryz.prog 0 s21y0z45 v21y0 W21y0 := ends_over ok hm w21y0z45
theorem e21y0z44 : EndsFrom Tryz.prog 0 s21y0z44 v21y0 W21y0 := ends_go ok hm w21y0z44 e21y0z45
theorem e21y0z43 : EndsFrom Tryz.prog 0 s21y0z43 v21y0 W21y0 := ends_go ok hm w21y0z43 e21y0z44
theorem e21y0z42 : EndsFrom Tryz.prog 0 s21y0z42 v21y0 W21y0 := ends_go ok hm w21y0z42 e21y0z43
theorem e21y0z41 : EndsFrom Tryz.prog 0 s21y0z41 v21y0 W21y0 := ends_go ok hm w21y0z41 e21y0z42
theorem e21y0z40 : EndsFrom Tryz.prog 0 s21y0z40 v21y0 W21y0 := ends_on l21y0z40 e21y0z41
theorem e21y0z39 : EndsFrom Tryz.prog 0 s21y0z39 v21y0 W21y0 := ends_go ok hm w21y0z39 e21y0z40
theorem e21y0z38 : EndsFrom Tryz.prog 0 s21y0z38 v21y0 W21y0 := ends_go ok hm w21y0z38 e21y0z39
theorem e21y0z37 : EndsFrom Tryz.prog 0 s21y0z37 v21y0 W21y0 := ends_on l21y0z37 e21y0z38
theorem e21y0z36 : EndsFrom Tryz.prog 0 s21y0z36 v21y0 W21y0 := ends_go ok hm w21y0z36 e21y0z37
theorem e21y0z35 : EndsFrom Tryz.prog 0 s21y0z35 v21y0 W21y0 := ends_go ok hm w21y0z35 e21y0z36
theorem e21y0z34 : EndsFrom Tryz.prog 0 s21y0z34 v21y0 W21y0 := ends_go ok hm w21y0z34 e21y0z35
theorem e21y0z33 : EndsFrom Tryz.prog 0 s21y0z33 v21y0 W21y0 := ends_go ok hm w21y0z33 e21y0z34
theorem e21y0z32 : EndsFrom Tryz.prog 0 s21y0z32 v21y0 W21y0 := ends_go ok hm w21y0z32 e21y0z33
theorem e21y0z31 : EndsFrom Tryz.prog 0 s21y0z31 v21y0 W21y0 := ends_on l21y0z31 e21y0z32
theorem e21y0z30 : EndsFrom Tryz.prog 0 s21y0z30 v21y0 W21y0 := ends_go ok hm w21y0z30 e21y0z31
theorem e21y0z29 : EndsFrom Tryz.prog 0 s21y0z29 v21y0 W21y0 := ends_go ok hm w21y0z29 e21y0z30
theorem e21y0z28 : EndsFrom Tryz.prog 0 s21y0z28 v21y0 W21y0 := ends_go ok hm w21y0z28 e21y0z29
theorem e21y0z27 : EndsFrom Tryz.prog 0 s21y0z27 v21y0 W21y0 := ends_on l21y0z27 e21y0z28
theorem e21y0z26 : EndsFrom Tryz.prog 0 s21y0z26 v21y0 W21y0 := ends_go ok hm w21y0z26 e21y0z27
theorem e21y0z25 : EndsFrom Tryz.prog 0 s21y0z25 v21y0 W21y0 := ends_go ok hm w21y0z25 e21y0z26
theorem e21y0z24 : EndsFrom Tryz.prog 0 s21y0z24 v21y0 W21y0 := ends_on l21y0z24 e21y0z25
theorem e21y0z23 : EndsFrom Tryz.prog 0 s21y0z23 v21y0 W21y0 := ends_go ok hm w21y0z23 e21y0z24
theorem e21y0z22 : EndsFrom Tryz.prog 0 s21y0z22 v21y0 W21y0 := ends_go ok hm w21y0z22 e21y0z23
theorem e21y0z21 : EndsFrom Tryz.prog 0 s21y0z21 v21y0 W21y0 := ends_go ok hm w21y0z21 e21y0z22
theorem e21y0z20 : EndsFrom Tryz.prog 0 s21y0z20 v21y0 W21y0 := ends_on l21y0z20 e21y0z21
theorem e21y0z19 : EndsFrom Tryz.prog 0 s21y0z19 v21y0 W21y0 := ends_go ok hm w21y0z19 e21y0z20
theorem e21y0z18 : EndsFrom Tryz.prog 0 s21y0z18 v21y0 W21y0 := ends_go ok hm w21y0z18 e21y0z19
theorem e21y0z17 : EndsFrom Tryz.prog 0 s21y0z17 v21y0 W21y0 := ends_go ok hm w21y0z17 e21y0z18
theorem e21y0z16 : EndsFrom Tryz.prog 0 s21y0z16 v21y0 W21y0 := ends_go ok hm w21y0z16 e21y0z17
theorem e21y0z15 : EndsFrom Tryz.prog 0 s21y0z15 v21y0 W21y0 := ends_on l21y0z15 e21y0z16
theorem e21y0z14 : EndsFrom Tryz.prog 0 s21y0z14 v21y0 W21y0 := ends_go ok hm w21y0z14 e21y0z15
theorem e21y0z13 : EndsFrom Tryz.prog 0 s21y0z13 v21y0 W21y0 := ends_go ok hm w21y0z13 e21y0z14
theorem e21y0z12 : EndsFrom Tryz.prog 0 s21y0z12 v21y0 W21y0 := ends_go ok hm w21y0z12 e21y0z13
theorem e21y0z11 : EndsFrom Tryz.prog 0 s21y0z11 v21y0 W21y0 := ends_go ok hm w21y0z11 e21y0z12
theorem e21y0z10 : EndsFrom Tryz.prog 0 s21y0z10 v21y0 W21y0 := ends_go ok hm w21y0z10 e21y0z11
theorem e21y0z9 : EndsFrom Tryz.prog 0 s21y0z9 v21y0 W21y0 := ends_go ok hm w21y0z9 e21y0z10
theorem e21y0z8 : EndsFrom Tryz.prog 0 s21y0z8 v21y0 W21y0 := ends_go ok hm w21y0z8 e21y0z9
theorem e21y0z7 : EndsFrom Tryz.prog 0 s21y0z7 v21y0 W21y0 := ends_go ok hm w21y0z7 e21y0z8
theorem e21y0z6 : EndsFrom Tryz.prog 0 s21y0z6 v21y0 W21y0 := ends_go ok hm w21y0z6 e21y0z7
theorem e21y0z5 : EndsFrom Tryz.prog 0 s21y0z5 v21y0 W21y0 := ends_go ok hm w21y0z5 e21y0z6
theorem e21y0z4 : EndsFrom Tryz.prog 0 s21y0z4 v21y0 W21y0 := ends_go ok hm w21y0z4 e21y0z5
theorem e21y0z3 : EndsFrom Tryz.prog 0 s21y0z3 v21y0 W21y0 := ends_go ok hm w21y0z3 e21y0z4
theorem e21y0z2 : EndsFrom Tryz.prog 0 s21y0z2 v21y0 W21y0 := ends_go ok hm w21y0z2 e21y0z3
theorem e21y0z1 : EndsFrom Tryz.prog 0 s21y0z1 v21y0 W21y0 := ends_go ok hm w21y0z1 e21y0z2
theorem e21y0z0 : EndsFrom Tryz.prog 0 s21y0z0 v21y0 W21y0 := ends_go ok hm w21y0z0 e21y0z1
theorem h21y0 : subM Tryz.prog tables 1000000 tb21y 0 x21y0.m = .over v21y0 W21y0 := subM_hit (e := ⟨x21y0.m, v21y0, W21y0⟩) (by kernel_rfl)
theorem t21y : ∀ e ∈ tb21y, EndsFrom Tryz.prog 0 e.m e.v e.W := (tb_cons (x := ⟨x21y0.m, v21y0, W21y0⟩) e21y0z0 tb_nil)
theorem g21y : greedyX Tryz.prog tables (subM Tryz.prog tables 1000000 tb21y 0) 0 q1404 229 none 0 s21.fr s21.w [] [] = some (fe21y, we21y, de21y) := cutX_spec h21y0 z21y c21y0
theorem l21 : Leads Tryz.prog 0 s21 s22 := (leads_big (m' := n21y) ok hm (subM_ok ok hm t21y) (bigF_cut y21y g21y)).trans (leads_drop d21y)
theorem e22 : EndsYes Tryz.prog s22 := ends_last ok hm w22
theorem e21 : EndsYes Tryz.prog s21 := ends_lead l21 e22
theorem e20 : EndsYes Tryz.prog s20 := ends_step ok hm w20 e21
theorem e19 : EndsYes Tryz.prog s19 := ends_step ok hm w19 e20
theorem e18 : EndsYes Tryz.prog s18 := ends_step ok hm w18 e19
theorem e17 : EndsYes Tryz.prog s17 := ends_step ok hm w17 e18
theorem e16 : EndsYes Tryz.prog s16 := ends_step ok hm w16 e17
theorem e15 : EndsYes Tryz.prog s15 := ends_lead l15 e16
theorem e14 : EndsYes Tryz.prog s14 := ends_step ok hm w14 e15
theorem e13 : EndsYes Tryz.prog s13 := ends_step ok hm w13 e14
theorem e12 : EndsYes Tryz.prog s12 := ends_step ok hm w12 e13
theorem e11 : EndsYes Tryz.prog s11 := ends_step ok hm w11 e12
theorem e10 : EndsYes Tryz.prog s10 := ends_step ok hm w10 e11
theorem e9 : EndsYes Tryz.prog s9 := ends_step ok hm w9 e10
theorem e8 : EndsYes Tryz.prog s8 := ends_step ok hm w8 e9
theorem e7 : EndsYes Tryz.prog s7 := ends_step ok hm w7 e8
theorem e6 : EndsYes Tryz.prog s6 := ends_step ok hm w6 e7
theorem e5 : EndsYes Tryz.prog s5 := ends_step ok hm w5 e6
theorem e4 : EndsYes Tryz.prog s4 := ends_step ok hm w4 e5
theorem e3 : EndsYes Tryz.prog s3 := ends_step ok hm w3 e4
theorem e2 : EndsYes Tryz.prog s2 := ends_step ok hm w2 e3
theorem e1 : EndsYes Tryz.prog s1 := ends_step ok hm w1 e2
theorem e0 : EndsYes Tryz.prog s0 := ends_step ok hm w0 e1

end Go.Proofs.YtebgmndbhjecnaaGreatDoor.ballNone
