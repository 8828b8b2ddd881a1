/- The law TriNone: its run, put together. -/
import Derived.Test.YtnefhpkkbehjeaaGreatDoorTriNoneRunA
import Derived.Test.YtnefhpkkbehjeaaGreatDoorTriNoneRunB
import Derived.Test.YtnefhpkkbehjeaaGreatDoorTriNoneRunC
import Derived.Test.YtnefhpkkbehjeaaGreatDoorTriNoneRunD
namespace Go.Proofs.YtnefhpkkbehjeaaGreatDoor.triNone
set_option linter.unusedVariables false
set_option maxRecDepth 100000
open Go.Wvm

theorem ok : VPok Tryz.prog tables := VP.of_ok _
theorem hm : Tryz.prog.follows .mixedOrders = true := by kernel_rfl
theorem started : startV tables known 3 0 = some s0 := by kernel_rfl
theorem e12yz5 : EndsFrom Tryz.prog 0 s12yz5 v12y W12y := ends_over ok hm w12yz5
theorem e12yz4 : EndsFrom Tryz.prog 0 s12yz4 v12y W12y := ends_go ok hm w12yz4 e12yz5
theorem e12yz3 : EndsFrom Tryz.prog 0 s12yz3 v12y W12y := ends_go ok hm w12yz3 e12yz4
theorem e12yz2 : EndsFrom Tryz.prog 0 s12yz2 v12y W12y := ends_go ok hm w12yz2 e12yz3
theorem e12yz1 : EndsFrom Tryz.prog 0 s12yz1 v12y W12y := ends_go ok hm w12yz1 e12yz2
theorem e12yz0 : EndsFrom Tryz.prog 0 s12yz0 v12y W12y := ends_go ok hm w12yz0 e12yz1
theorem h12y : subM Tryz.prog tables 1000000 tb12y 0 s12yz0 = .over v12y W12y := subM_hit (e := ⟨s12yz0, v12y, W12y⟩) (by kernel_rfl)
theorem t12y : ∀ e ∈ tb12y, EndsFrom Tryz.prog 0 e.m e.v e.W := tb_cons (x := ⟨s12yz0, v12y, W12y⟩) e12yz0 tb_nil
theorem l12 : Leads Tryz.prog 0 s12 s13 := (leads_big (m' := n12y) ok hm (subM_ok ok hm t12y) (bigF_range c12y h12y z12y)).trans (leads_drop d12y)
theorem e14yz3 : EndsFrom Tryz.prog 0 s14yz3 v14y W14y := ends_over ok hm w14yz3
theorem e14yz2 : EndsFrom Tryz.prog 0 s14yz2 v14y W14y := ends_go ok hm w14yz2 e14yz3
theorem e14yz1 : EndsFrom Tryz.prog 0 s14yz1 v14y W14y := ends_go ok hm w14yz1 e14yz2
theorem e14yz0 : EndsFrom Tryz.prog 0 s14yz0 v14y W14y := ends_go ok hm w14yz0 e14yz1
theorem h14y : subM Tryz.prog tables 1000000 tb14y 0 s14yz0 = .over v14y W14y := subM_hit (e := ⟨s14yz0, v14y, W14y⟩) (by kernel_rfl)
theorem t14y : ∀ e ∈ tb14y, EndsFrom Tryz.prog 0 e.m e.v e.W := tb_cons (x := ⟨s14yz0, v14y, W14y⟩) e14yz0 tb_nil
theorem l14 : Leads Tryz.prog 0 s14 s15 := (leads_big (m' := n14y) ok hm (subM_ok ok hm t14y) (bigF_range c14y h14y z14y)).trans (leads_drop d14y)
theorem e17yz5 : EndsFrom Tryz.prog 0 s17yz5 v17y W17y := ends_over ok hm w17yz5
theorem e17yz4 : EndsFrom Tryz.prog 0 s17yz4 v17y W17y := ends_go ok hm w17yz4 e17yz5
theorem e17yz3 : EndsFrom Tryz.prog 0 s17yz3 v17y W17y := ends_go ok hm w17yz3 e17yz4
theorem e17yz2 : EndsFrom Tryz.prog 0 s17yz2 v17y W17y := ends_go ok hm w17yz2 e17yz3
theorem e17yz1 : EndsFrom Tryz.prog 0 s17yz1 v17y W17y := ends_go ok hm w17yz1 e17yz2
theorem e17yz0 : EndsFrom Tryz.prog 0 s17yz0 v17y W17y := ends_go ok hm w17yz0 e17yz1
theorem h17y : subM Tryz.prog tables 1000000 tb17y 0 s17yz0 = .over v17y W17y := subM_hit (e := ⟨s17yz0, v17y, W17y⟩) (by kernel_rfl)
theorem t17y : ∀ e ∈ tb17y, EndsFrom Tryz.prog 0 e.m e.v e.W := tb_cons (x := ⟨s17yz0, v17y, W17y⟩) e17yz0 tb_nil
theorem l17 : Leads Tryz.prog 0 s17 s18 := (leads_big (m' := n17y) ok hm (subM_ok ok hm t17y) (bigF_range c17y h17y z17y)).trans (leads_drop d17y)
theorem e19yz3 : EndsFrom Tryz.prog 0 s19yz3 v19y W19y := ends_over ok hm w19yz3
theorem e19yz2 : EndsFrom Tryz.prog 0 s19yz2 v19y W19y := ends_go ok hm w19yz2 e19yz3
theorem e19yz1 : EndsFrom Tryz.prog 0 s19yz1 v19y W19y := ends_go ok hm w19yz1 e19yz2
theorem e19yz0 : EndsFrom Tryz.prog 0 s19yz0 v19y W19y := ends_go ok hm w19yz0 e19yz1
theorem h19y : subM Tryz.prog tables 1000000 tb19y 0 s19yz0 = .over v19y W19y := subM_hit (e := ⟨s19yz0, v19y, W19y⟩) (by kernel_rfl)
theorem t19y : ∀ e ∈ tb19y, EndsFrom Tryz.prog 0 e.m e.v e.W := tb_cons (x := ⟨s19yz0, v19y, W19y⟩) e19yz0 tb_nil
theorem l19 : Leads Tryz.prog 0 s19 s20 := (leads_big (m' := n19y) ok hm (subM_ok ok hm t19y) (bigF_range c19y h19y z19y)).trans (leads_drop d19y)
theorem e21yz3 : EndsFrom Tryz.prog 0 s21yz3 v21y W21y := ends_over ok hm w21yz3
theorem e21yz2 : EndsFrom Tryz.prog 0 s21yz2 v21y W21y := ends_go ok hm w21yz2 e21yz3
theorem e21yz1 : EndsFrom Tryz.prog 0 s21yz1 v21y W21y := ends_go ok hm w21yz1 e21yz2
theorem e21yz0 : EndsFrom Tryz.prog 0 s21yz0 v21y W21y := ends_go ok hm w21yz0 e21yz1
theorem h21y : subM Tryz.prog tables 1000000 tb21y 0 s21yz0 = .over v21y W21y := subM_hit (e := ⟨s21yz0, v21y, W21y⟩) (by kernel_rfl)
theorem t21y : ∀ e ∈ tb21y, EndsFrom Tryz.prog 0 e.m e.v e.W := tb_cons (x := ⟨s21yz0, v21y, W21y⟩) e21yz0 tb_nil
theorem l21 : Leads Tryz.prog 0 s21 s22 := (leads_big (m' := n21y) ok hm (subM_ok ok hm t21y) (bigF_range c21y h21y z21y)).trans (leads_drop d21y)
theorem e23yz3 : EndsFrom Tryz.prog 0 s23yz3 v23y W23y := ends_over ok hm w23yz3
theorem e23yz2 : EndsFrom Tryz.prog 0 s23yz2 v23y W23y := ends_go ok hm w23yz2 e23yz3
theorem e23yz1 : EndsFrom Tryz.prog 0 s23yz1 v23y W23y := ends_go ok hm w23yz1 e23yz2
theorem e23yz0 : EndsFrom Tryz.prog 0 s23yz0 v23y W23y := ends_go ok hm w23yz0 e23yz1
theorem h23y : subM Tryz.prog tables 1000000 tb23y 0 s23yz0 = .over v23y W23y := subM_hit (e := ⟨s23yz0, v23y, W23y⟩) (by kernel_rfl)
theorem t23y : ∀ e ∈ tb23y, EndsFrom Tryz.prog 0 e.m e.v e.W := tb_cons (x := ⟨s23yz0, v23y, W23y⟩) e23yz0 tb_nil
theorem l23 : Leads Tryz.prog 0 s23 s24 := (leads_big (m' := n23y) ok hm (subM_ok ok hm t23y) (bigF_range c23y h23y z23y)).trans (leads_drop d23y)
theorem e25yz3 : EndsFrom Tryz.prog 0 s25yz3 v25y W25y := ends_over ok hm w25yz3
theorem e25yz2 : EndsFrom Tryz.prog 0 s25yz2 v25y W25y := ends_go ok hm w25yz2 e25yz3
theorem e25yz1 : EndsFrom Tryz.prog 0 s25yz1 v25y W25y := ends_go ok hm w25yz1 e25yz2
theorem e25yz0 : EndsFrom Tryz.prog 0 s25yz0 v25y W25y := ends_go ok hm w25yz0 e25yz1
theorem h25y : subM Tryz.prog tables 1000000 tb25y 0 s25yz0 = .over v25y W25y := subM_hit (e := ⟨s25yz0, v25y, W25y⟩) (by kernel_rfl)
theorem t25y : ∀ e ∈ tb25y, EndsFrom Tryz.prog 0 e.m e.v e.W := tb_cons (x := ⟨s25yz0, v25y, W25y⟩) e25yz0 tb_nil
theorem l25 : Leads Tryz.prog 0 s25 s26 := (leads_big (m' := n25y) ok hm (subM_ok ok hm t25y) (bigF_range c25y h25y z25y)).trans (leads_drop d25y)
theorem e27yz3 : EndsFrom Tryz.prog 0 s27yz3 v27y W27y := ends_over ok hm w27yz3
theorem e27yz2 : EndsFrom Tryz.prog 0 s27yz2 v27y W27y := ends_go ok hm w27yz2 e27yz3
theorem e27yz1 : EndsFrom Tryz.prog 0 s27yz1 v27y W27y := ends_go ok hm w27yz1 e27yz2
theorem e27yz0 : EndsFrom Tryz.prog 0 s27yz0 v27y W27y := ends_go ok hm w27yz0 e27yz1
theorem h27y : subM Tryz.prog tables 1000000 tb27y 0 s27yz0 = .over v27y W27y := subM_hit (e := ⟨s27yz0, v27y, W27y⟩) (by kernel_rfl)
theorem t27y : ∀ e ∈ tb27y, EndsFrom Tryz.prog 0 e.m e.v e.W := tb_cons (x := ⟨s27yz0, v27y, W27y⟩) e27yz0 tb_nil
theorem l27 : Leads Tryz.prog 0 s27 s28 := (leads_big (m' := n27y) ok hm (subM_ok ok hm t27y) (bigF_range c27y h27y z27y)).trans (leads_drop d27y)
theorem e42yz5 : EndsFrom Tryz.prog 0 s42yz5 v42y W42y := ends_over ok hm w42yz5
theorem e42yz4 : EndsFrom Tryz.prog 0 s42yz4 v42y W42y := ends_go ok hm w42yz4 e42yz5
theorem e42yz3 : EndsFrom Tryz.prog 0 s42yz3 v42y W42y := ends_go ok hm w42yz3 e42yz4
theorem e42yz2 : EndsFrom Tryz.prog 0 s42yz2 v42y W42y := ends_go ok hm w42yz2 e42yz3
theorem e42yz1 : EndsFrom Tryz.prog 0 s42yz1 v42y W42y := ends_go ok hm w42yz1 e42yz2
theorem e42yz0 : EndsFrom Tryz.prog 0 s42yz0 v42y W42y := ends_go ok hm w42yz0 e42yz1
theorem h42y : subM Tryz.prog tables 1000000 tb42y 0 s42yz0 = .over v42y W42y := subM_hit (e := ⟨s42yz0, v42y, W42y⟩) (by kernel_rfl)
theorem t42y : ∀ e ∈ tb42y, EndsFrom Tryz.prog 0 e.m e.v e.W := tb_cons (x := ⟨s42yz0, v42y, W42y⟩) e42yz0 tb_nil
theorem l42 : Leads Tryz.prog 0 s42 s43 := (leads_big (m' := n42y) ok hm (subM_ok ok hm t42y) (bigF_range c42y h42y z42y)).trans (leads_drop d42y)
theorem e44yz2y0z2 : EndsFrom Tryz.prog 0 s44yz2y0z2 v44yz2y0 W44yz2y0 := ends_over ok hm w44yz2y0z2
theorem e44yz2y0z1 : EndsFrom Tryz.prog 0 s44yz2y0z1 v44yz2y0 W44yz2y0 := ends_go ok hm w44yz2y0z1 e44yz2y0z2
theorem e44yz2y0z0 : EndsFrom Tryz.prog 0 s44yz2y0z0 v44yz2y0 W44yz2y0 := ends_go ok hm w44yz2y0z0 e44yz2y0z1
theorem h44yz2y0 : subM Tryz.prog tables 1000000 tb44yz2y 0 x44yz2y0.m = .over v44yz2y0 W44yz2y0 := subM_hit (e := ⟨x44yz2y0.m, v44yz2y0, W44yz2y0⟩) (by kernel_rfl)
theorem t44yz2y : ∀ e ∈ tb44yz2y, EndsFrom Tryz.prog 0 e.m e.v e.W := (tb_cons (x := ⟨x44yz2y0.m, v44yz2y0, W44yz2y0⟩) e44yz2y0z0 tb_nil)
theorem g44yz2y : greedyX Tryz.prog tables (subM Tryz.prog tables 1000000 tb44yz2y 0) 0 q3214 52 none 0 s44yz2.fr s44yz2.w [] [] = some (fe44yz2y, we44yz2y, de44yz2y) := cutX_spec h44yz2y0 z44yz2y c44yz2y0
theorem l44yz2 : Leads Tryz.prog 0 s44yz2 s44yz3 := (leads_big (m' := n44yz2y) ok hm (subM_ok ok hm t44yz2y) (bigF_cut y44yz2y g44yz2y)).trans (leads_drop d44yz2y)
theorem e44yz4 : EndsFrom Tryz.prog 0 s44yz4 v44y W44y := ends_over ok hm w44yz4
theorem e44yz3 : EndsFrom Tryz.prog 0 s44yz3 v44y W44y := ends_go ok hm w44yz3 e44yz4
theorem e44yz2 : EndsFrom Tryz.prog 0 s44yz2 v44y W44y := ends_on l44yz2 e44yz3
theorem e44yz1 : EndsFrom Tryz.prog 0 s44yz1 v44y W44y := ends_go ok hm w44yz1 e44yz2
theorem e44yz0 : EndsFrom Tryz.prog 0 s44yz0 v44y W44y := ends_go ok hm w44yz0 e44yz1
theorem h44y : subM Tryz.prog tables 1000000 tb44y 0 s44yz0 = .over v44y W44y := subM_hit (e := ⟨s44yz0, v44y, W44y⟩) (by kernel_rfl)
theorem t44y : ∀ e ∈ tb44y, EndsFrom Tryz.prog 0 e.m e.v e.W := tb_cons (x := ⟨s44yz0, v44y, W44y⟩) e44yz0 tb_nil
theorem l44 : Leads Tryz.prog 0 s44 s45 := (leads_big (m' := n44y) ok hm (subM_ok ok hm t44y) (bigF_range c44y h44y z44y)).trans (leads_drop d44y)
theorem e46yz2y0z2 : EndsFrom Tryz.prog 0 s46yz2y0z2 v46yz2y0 W46yz2y0 := ends_over ok hm w46yz2y0z2
theorem e46yz2y0z1 : EndsFrom Tryz.prog 0 s46yz2y0z1 v46yz2y0 W46yz2y0 := ends_go ok hm w46yz2y0z1 e46yz2y0z2
theorem e46yz2y0z0 : EndsFrom Tryz.prog 0 s46yz2y0z0 v46yz2y0 W46yz2y0 := ends_go ok hm w46yz2y0z0 e46yz2y0z1
theorem h46yz2y0 : subM Tryz.prog tables 1000000 tb46yz2y 0 x46yz2y0.m = .over v46yz2y0 W46yz2y0 := subM_hit (e := ⟨x46yz2y0.m, v46yz2y0, W46yz2y0⟩) (by kernel_rfl)
theorem t46yz2y : ∀ e ∈ tb46yz2y, EndsFrom Tryz.prog 0 e.m e.v e.W := (tb_cons (x := ⟨x46yz2y0.m, v46yz2y0, W46yz2y0⟩) e46yz2y0z0 tb_nil)
theorem g46yz2y : greedyX Tryz.prog tables (subM Tryz.prog tables 1000000 tb46yz2y 0) 0 q3214 52 none 0 s46yz2.fr s46yz2.w [] [] = some (fe46yz2y, we46yz2y, de46yz2y) := cutX_spec h46yz2y0 z46yz2y c46yz2y0
theorem l46yz2 : Leads Tryz.prog 0 s46yz2 s46yz3 := (leads_big (m' := n46yz2y) ok hm (subM_ok ok hm t46yz2y) (bigF_cut y46yz2y g46yz2y)).trans (leads_drop d46yz2y)
theorem e46yz3 : EndsFrom Tryz.prog 0 s46yz3 v46y W46y := ends_over ok hm w46yz3
theorem e46yz2 : EndsFrom Tryz.prog 0 s46yz2 v46y W46y := ends_on l46yz2 e46yz3
theorem e46yz1 : EndsFrom Tryz.prog 0 s46yz1 v46y W46y := ends_go ok hm w46yz1 e46yz2
theorem e46yz0 : EndsFrom Tryz.prog 0 s46yz0 v46y W46y := ends_go ok hm w46yz0 e46yz1
theorem h46y : subM Tryz.prog tables 1000000 tb46y 0 s46yz0 = .over v46y W46y := subM_hit (e := ⟨s46yz0, v46y, W46y⟩) (by kernel_rfl)
theorem t46y : ∀ e ∈ tb46y, EndsFrom Tryz.prog 0 e.m e.v e.W := tb_cons (x := ⟨s46yz0, v46y, W46y⟩) e46yz0 tb_nil
theorem l46 : Leads Tryz.prog 0 s46 s47 := (leads_big (m' := n46y) ok hm (subM_ok ok hm t46y) (bigF_range c46y h46y z46y)).trans (leads_drop d46y)
theorem e48yz2y0z2 : EndsFrom Tryz.prog 0 s48yz2y0z2 v48yz2y0 W48yz2y0 := ends_over ok hm w48yz2y0z2
theorem e48yz2y0z1 : EndsFrom Tryz.prog 0 s48yz2y0z1 v48yz2y0 W48yz2y0 := ends_go ok hm w48yz2y0z1 e48yz2y0z2
theorem e48yz2y0z0 : EndsFrom Tryz.prog 0 s48yz2y0z0 v48yz2y0 W48yz2y0 := ends_go ok hm w48yz2y0z0 e48yz2y0z1
theorem h48yz2y0 : subM Tryz.prog tables 1000000 tb48yz2y 0 x48yz2y0.m = .over v48yz2y0 W48yz2y0 := subM_hit (e := ⟨x48yz2y0.m, v48yz2y0, W48yz2y0⟩) (by kernel_rfl)
theorem t48yz2y : ∀ e ∈ tb48yz2y, EndsFrom Tryz.prog 0 e.m e.v e.W := (tb_cons (x := ⟨x48yz2y0.m, v48yz2y0, W48yz2y0⟩) e48yz2y0z0 tb_nil)
theorem g48yz2y : greedyX Tryz.prog tables (subM Tryz.prog tables 1000000 tb48yz2y 0) 0 q3214 52 none 0 s48yz2.fr s48yz2.w [] [] = some (fe48yz2y, we48yz2y, de48yz2y) := cutX_spec h48yz2y0 z48yz2y c48yz2y0
theorem l48yz2 : Leads Tryz.prog 0 s48yz2 s48yz3 := (leads_big (m' := n48yz2y) ok hm (subM_ok ok hm t48yz2y) (bigF_cut y48yz2y g48yz2y)).trans (leads_drop d48yz2y)
theorem e48yz3 : EndsFrom Tryz.prog 0 s48yz3 v48y W48y := ends_over ok hm w48yz3
theorem e48yz2 : EndsFrom Tryz.prog 0 s48yz2 v48y W48y := ends_on l48yz2 e48yz3
theorem e48yz1 : EndsFrom Tryz.prog 0 s48yz1 v48y W48y := ends_go ok hm w48yz1 e48yz2
theorem e48yz0 : EndsFrom Tryz.prog 0 s48yz0 v48y W48y := ends_go ok hm w48yz0 e48yz1
theorem h48y : subM Tryz.prog tables 1000000 tb48y 0 s48yz0 = .over v48y W48y := subM_hit (e := ⟨s48yz0, v48y, W48y⟩) (by kernel_rfl)
theorem t48y : ∀ e ∈ tb48y, EndsFrom Tryz.prog 0 e.m e.v e.W := tb_cons (x := ⟨s48yz0, v48y, W48y⟩) e48yz0 tb_nil
theorem l48 : Leads Tryz.prog 0 s48 s49 := (leads_big (m' := n48y) ok hm (subM_ok ok hm t48y) (bigF_range c48y h48y z48y)).trans (leads_drop d48y)
theorem e50yz2y0z2 : EndsFrom Tryz.prog 0 s50yz2y0z2 v50yz2y0 W50yz2y0 := ends_over ok hm w50yz2y0z2
theorem e50yz2y0z1 : EndsFrom Tryz.prog 0 s50yz2y0z1 v50yz2y0 W50yz2y0 := ends_go ok hm w50yz2y0z1 e50yz2y0z2
theorem e50yz2y0z0 : EndsFrom Tryz.prog 0 s50yz2y0z0 v50yz2y0 W50yz2y0 := ends_go ok hm w50yz2y0z0 e50yz2y0z1
theorem h50yz2y0 : subM Tryz.prog tables 1000000 tb50yz2y 0 x50yz2y0.m = .over v50yz2y0 W50yz2y0 := subM_hit (e := ⟨x50yz2y0.m, v50yz2y0, W50yz2y0⟩) (by kernel_rfl)
theorem t50yz2y : ∀ e ∈ tb50yz2y, EndsFrom Tryz.prog 0 e.m e.v e.W := (tb_cons (x := ⟨x50yz2y0.m, v50yz2y0, W50yz2y0⟩) e50yz2y0z0 tb_nil)
theorem g50yz2y : greedyX Tryz.prog tables (subM Tryz.prog tables 1000000 tb50yz2y 0) 0 q3214 52 none 0 s50yz2.fr s50yz2.w [] [] = some (fe50yz2y, we50yz2y, de50yz2y) := cutX_spec h50yz2y0 z50yz2y c50yz2y0
theorem l50yz2 : Leads Tryz.prog 0 s50yz2 s50yz3 := (leads_big (m' := n50yz2y) ok hm (subM_ok ok hm t50yz2y) (bigF_cut y50yz2y g50yz2y)).trans (leads_drop d50yz2y)
theorem e50yz3 : EndsFrom Tryz.prog 0 s50yz3 v50y W50y := ends_over ok hm w50yz3
theorem e50yz2 : EndsFrom Tryz.prog 0 s50yz2 v50y W50y := ends_on l50yz2 e50yz3
theorem e50yz1 : EndsFrom Tryz.prog 0 s50yz1 v50y W50y := ends_go ok hm w50yz1 e50yz2
theorem e50yz0 : EndsFrom Tryz.prog 0 s50yz0 v50y W50y := ends_go ok hm w50yz0 e50yz1
theorem h50y : subM Tryz.prog tables 1000000 tb50y 0 s50yz0 = .over v50y W50y := subM_hit (e := ⟨s50yz0, v50y, W50y⟩) (by kernel_rfl)
theorem t50y : ∀ e ∈ tb50y, EndsFrom Tryz.prog 0 e.m e.v e.W := tb_cons (x := ⟨s50yz0, v50y, W50y⟩) e50yz0 tb_nil
theorem l50 : Leads Tryz.prog 0 s50 s51 := (leads_big (m' := n50y) ok hm (subM_ok ok hm t50y) (bigF_range c50y h50y z50y)).trans (leads_drop d50y)
theorem e52yz2y0z2 : EndsFrom Tryz.prog 0 s52yz2y0z2 v52yz2y0 W52yz2y0 := ends_over ok hm w52yz2y0z2
theorem e52yz2y0z1 : EndsFrom Tryz.prog 0 s52yz2y0z1 v52yz2y0 W52yz2y0 := ends_go ok hm w52yz2y0z1 e52yz2y0z2
theorem e52yz2y0z0 : EndsFrom Tryz.prog 0 s52yz2y0z0 v52yz2y0 W52yz2y0 := ends_go ok hm w52yz2y0z0 e52yz2y0z1
theorem h52yz2y0 : subM Tryz.prog tables 1000000 tb52yz2y 0 x52yz2y0.m = .over v52yz2y0 W52yz2y0 := subM_hit (e := ⟨x52yz2y0.m, v52yz2y0, W52yz2y0⟩) (by kernel_rfl)
theorem t52yz2y : ∀ e ∈ tb52yz2y, EndsFrom Tryz.prog 0 e.m e.v e.W := (tb_cons (x := ⟨x52yz2y0.m, v52yz2y0, W52yz2y0⟩) e52yz2y0z0 tb_nil)
theorem g52yz2y : greedyX Tryz.prog tables (subM Tryz.prog tables 1000000 tb52yz2y 0) 0 q3214 52 none 0 s52yz2.fr s52yz2.w [] [] = some (fe52yz2y, we52yz2y, de52yz2y) := cutX_spec h52yz2y0 z52yz2y c52yz2y0
theorem l52yz2 : Leads Tryz.prog 0 s52yz2 s52yz3 := (leads_big (m' := n52yz2y) ok hm (subM_ok ok hm t52yz2y) (bigF_cut y52yz2y g52yz2y)).trans (leads_drop d52yz2y)
theorem e52yz3 : EndsFrom Tryz.prog 0 s52yz3 v52y W52y := ends_over ok hm w52yz3
theorem e52yz2 : EndsFrom Tryz.prog 0 s52yz2 v52y W52y := ends_on l52yz2 e52yz3
theorem e52yz1 : EndsFrom Tryz.prog 0 s52yz1 v52y W52y := ends_go ok hm w52yz1 e52yz2
theorem e52yz0 : EndsFrom Tryz.prog 0 s52yz0 v52y W52y := ends_go ok hm w52yz0 e52yz1
theorem h52y : subM Tryz.prog tables 1000000 tb52y 0 s52yz0 = .over v52y W52y := subM_hit (e := ⟨s52yz0, v52y, W52y⟩) (by kernel_rfl)
theorem t52y : ∀ e ∈ tb52y, EndsFrom Tryz.prog 0 e.m e.v e.W := tb_cons (x := ⟨s52yz0, v52y, W52y⟩) e52yz0 tb_nil
theorem l52 : Leads Tryz.prog 0 s52 s53 := (leads_big (m' := n52y) ok hm (subM_ok ok hm t52y) (bigF_range c52y h52y z52y)).trans (leads_drop d52y)
theorem e54yz6 : EndsFrom Tryz.prog 0 s54yz6 v54y W54y := ends_over ok hm w54yz6
theorem e54yz5 : EndsFrom Tryz.prog 0 s54yz5 v54y W54y := ends_go ok hm w54yz5 e54yz6
theorem e54yz4 : EndsFrom Tryz.prog 0 s54yz4 v54y W54y := ends_go ok hm w54yz4 e54yz5
theorem e54yz3 : EndsFrom Tryz.prog 0 s54yz3 v54y W54y := ends_go ok hm w54yz3 e54yz4
theorem e54yz2 : EndsFrom Tryz.prog 0 s54yz2 v54y W54y := ends_go ok hm w54yz2 e54yz3
theorem e54yz1 : EndsFrom Tryz.prog 0 s54yz1 v54y W54y := ends_go ok hm w54yz1 e54yz2
theorem e54yz0 : EndsFrom Tryz.prog 0 s54yz0 v54y W54y := ends_go ok hm w54yz0 e54yz1
theorem h54y : subM Tryz.prog tables 1000000 tb54y 0 s54yz0 = .over v54y W54y := subM_hit (e := ⟨s54yz0, v54y, W54y⟩) (by kernel_rfl)
theorem t54y : ∀ e ∈ tb54y, EndsFrom Tryz.prog 0 e.m e.v e.W := tb_cons (x := ⟨s54yz0, v54y, W54y⟩) e54yz0 tb_nil
theorem l54 : Leads Tryz.prog 0 s54 s55 := (leads_big (m' := n54y) ok hm (subM_ok ok hm t54y) (bigF_range c54y h54y z54y)).trans (leads_drop d54y)
theorem e56yz2y0z2 : EndsFrom Tryz.prog 0 s56yz2y0z2 v56yz2y0 W56yz2y0 := ends_over ok hm w56yz2y0z2
theorem e56yz2y0z1 : EndsFrom Tryz.prog 0 s56yz2y0z1 v56yz2y0 W56yz2y0 := ends_go ok hm w56yz2y0z1 e56yz2y0z2
theorem e56yz2y0z0 : EndsFrom Tryz.prog 0 s56yz2y0z0 v56yz2y0 W56yz2y0 := ends_go ok hm w56yz2y0z0 e56yz2y0z1
theorem h56yz2y0 : subM Tryz.prog tables 1000000 tb56yz2y 0 x56yz2y0.m = .over v56yz2y0 W56yz2y0 := subM_hit (e := ⟨x56yz2y0.m, v56yz2y0, W56yz2y0⟩) (by kernel_rfl)
theorem t56yz2y : ∀ e ∈ tb56yz2y, EndsFrom Tryz.prog 0 e.m e.v e.W := (tb_cons (x := ⟨x56yz2y0.m, v56yz2y0, W56yz2y0⟩) e56yz2y0z0 tb_nil)
theorem g56yz2y : greedyX Tryz.prog tables (subM Tryz.prog tables 1000000 tb56yz2y 0) 0 q3214 52 none 0 s56yz2.fr s56yz2.w [] [] = some (fe56yz2y, we56yz2y, de56yz2y) := cutX_spec h56yz2y0 z56yz2y c56yz2y0
theorem l56yz2 : Leads Tryz.prog 0 s56yz2 s56yz3 := (leads_big (m' := n56yz2y) ok hm (subM_ok ok hm t56yz2y) (bigF_cut y56yz2y g56yz2y)).trans (leads_drop d56yz2y)
theorem e56yz3 : EndsFrom Tryz.prog 0 s56yz3 v56y W56y := ends_over ok hm w56yz3
theorem e56yz2 : EndsFrom Tryz.prog 0 s56yz2 v56y W56y := ends_on l56yz2 e56yz3
theorem e56yz1 : EndsFrom Tryz.prog 0 s56yz1 v56y W56y := ends_go ok hm w56yz1 e56yz2
theorem e56yz0 : EndsFrom Tryz.prog 0 s56yz0 v56y W56y := ends_go ok hm w56yz0 e56yz1
theorem h56y : subM Tryz.prog tables 1000000 tb56y 0 s56yz0 = .over v56y W56y := subM_hit (e := ⟨s56yz0, v56y, W56y⟩) (by kernel_rfl)
theorem t56y : ∀ e ∈ tb56y, EndsFrom Tryz.prog 0 e.m e.v e.W := tb_cons (x := ⟨s56yz0, v56y, W56y⟩) e56yz0 tb_nil
theorem l56 : Leads Tryz.prog 0 s56 s57 := (leads_big (m' := n56y) ok hm (subM_ok ok hm t56y) (bigF_range c56y h56y z56y)).trans (leads_drop d56y)
theorem e58yz2y0z2 : EndsFrom Tryz.prog 0 s58yz2y0z2 v58yz2y0 W58yz2y0 := ends_over ok hm w58yz2y0z2
theorem e58yz2y0z1 : EndsFrom Tryz.prog 0 s58yz2y0z1 v58yz2y0 W58yz2y0 := ends_go ok hm w58yz2y0z1 e58yz2y0z2
theorem e58yz2y0z0 : EndsFrom Tryz.prog 0 s58yz2y0z0 v58yz2y0 W58yz2y0 := ends_go ok hm w58yz2y0z0 e58yz2y0z1
theorem h58yz2y0 : subM Tryz.prog tables 1000000 tb58yz2y 0 x58yz2y0.m = .over v58yz2y0 W58yz2y0 := subM_hit (e := ⟨x58yz2y0.m, v58yz2y0, W58yz2y0⟩) (by kernel_rfl)
theorem t58yz2y : ∀ e ∈ tb58yz2y, EndsFrom Tryz.prog 0 e.m e.v e.W := (tb_cons (x := ⟨x58yz2y0.m, v58yz2y0, W58yz2y0⟩) e58yz2y0z0 tb_nil)
theorem g58yz2y : greedyX Tryz.prog tables (subM Tryz.prog tables 1000000 tb58yz2y 0) 0 q3214 52 none 0 s58yz2.fr s58yz2.w [] [] = some (fe58yz2y, we58yz2y, de58yz2y) := cutX_spec h58yz2y0 z58yz2y c58yz2y0
theorem l58yz2 : Leads Tryz.prog 0 s58yz2 s58yz3 := (leads_big (m' := n58yz2y) ok hm (subM_ok ok hm t58yz2y) (bigF_cut y58yz2y g58yz2y)).trans (leads_drop d58yz2y)
theorem e58yz3 : EndsFrom Tryz.prog 0 s58yz3 v58y W58y := ends_over ok hm w58yz3
theorem e58yz2 : EndsFrom Tryz.prog 0 s58yz2 v58y W58y := ends_on l58yz2 e58yz3
theorem e58yz1 : EndsFrom Tryz.prog 0 s58yz1 v58y W58y := ends_go ok hm w58yz1 e58yz2
theorem e58yz0 : EndsFrom Tryz.prog 0 s58yz0 v58y W58y := ends_go ok hm w58yz0 e58yz1
theorem h58y : subM Tryz.prog tables 1000000 tb58y 0 s58yz0 = .over v58y W58y := subM_hit (e := ⟨s58yz0, v58y, W58y⟩) (by kernel_rfl)
theorem t58y : ∀ e ∈ tb58y, EndsFrom Tryz.prog 0 e.m e.v e.W := tb_cons (x := ⟨s58yz0, v58y, W58y⟩) e58yz0 tb_nil
theorem l58 : Leads Tryz.prog 0 s58 s59 := (leads_big (m' := n58y) ok hm (subM_ok ok hm t58y) (bigF_range c58y h58y z58y)).trans (leads_drop d58y)
theorem e59 : EndsYes Tryz.prog s59 := ends_last ok hm w59
theorem e58 : EndsYes Tryz.prog s58 := ends_lead l58 e59
theorem e57 : EndsYes Tryz.prog s57 := ends_step ok hm w57 e58
theorem e56 : EndsYes Tryz.prog s56 := ends_lead l56 e57
theorem e55 : EndsYes Tryz.prog s55 := ends_step ok hm w55 e56
theorem e54 : EndsYes Tryz.prog s54 := ends_lead l54 e55
theorem e53 : EndsYes Tryz.prog s53 := ends_step ok hm w53 e54
theorem e52 : EndsYes Tryz.prog s52 := ends_lead l52 e53
theorem e51 : EndsYes Tryz.prog s51 := ends_step ok hm w51 e52
theorem e50 : EndsYes Tryz.prog s50 := ends_lead l50 e51
theorem e49 : EndsYes Tryz.prog s49 := ends_step ok hm w49 e50
theorem e48 : EndsYes Tryz.prog s48 := ends_lead l48 e49
theorem e47 : EndsYes Tryz.prog s47 := ends_step ok hm w47 e48
theorem e46 : EndsYes Tryz.prog s46 := ends_lead l46 e47
theorem e45 : EndsYes Tryz.prog s45 := ends_step ok hm w45 e46
theorem e44 : EndsYes Tryz.prog s44 := ends_lead l44 e45
theorem e43 : EndsYes Tryz.prog s43 := ends_step ok hm w43 e44
theorem e42 : EndsYes Tryz.prog s42 := ends_lead l42 e43
theorem e41 : EndsYes Tryz.prog s41 := ends_step ok hm w41 e42
theorem e40 : EndsYes Tryz.prog s40 := ends_step ok hm w40 e41
theorem e39 : EndsYes Tryz.prog s39 := ends_step ok hm w39 e40
theorem e38 : EndsYes Tryz.prog s38 := ends_step ok hm w38 e39
theorem e37 : EndsYes Tryz.prog s37 := ends_step ok hm w37 e38
theorem e36 : EndsYes Tryz.prog s36 := ends_step ok hm w36 e37
theorem e35 : EndsYes Tryz.prog s35 := ends_step ok hm w35 e36
theorem e34 : EndsYes Tryz.prog s34 := ends_step ok hm w34 e35
theorem e33 : EndsYes Tryz.prog s33 := ends_step ok hm w33 e34
theorem e32 : EndsYes Tryz.prog s32 := ends_step ok hm w32 e33
theorem e31 : EndsYes Tryz.prog s31 := ends_step ok hm w31 e32
theorem e30 : EndsYes Tryz.prog s30 := ends_step ok hm w30 e31
theorem e29 : EndsYes Tryz.prog s29 := ends_step ok hm w29 e30
theorem e28 : EndsYes Tryz.prog s28 := ends_step ok hm w28 e29
theorem e27 : EndsYes Tryz.prog s27 := ends_lead l27 e28
theorem e26 : EndsYes Tryz.prog s26 := ends_step ok hm w26 e27
theorem e25 : EndsYes Tryz.prog s25 := ends_lead l25 e26
theorem e24 : EndsYes Tryz.prog s24 := ends_step ok hm w24 e25
theorem e23 : EndsYes Tryz.prog s23 := ends_lead l23 e24
theorem e22 : EndsYes Tryz.prog s22 := ends_step ok hm w22 e23
theorem e21 : EndsYes Tryz.prog s21 := ends_lead l21 e22
theorem e20 : EndsYes Tryz.prog s20 := ends_step ok hm w20 e21
theorem e19 : EndsYes Tryz.prog s19 := ends_lead l19 e20
theorem e18 : EndsYes Tryz.prog s18 := ends_step ok hm w18 e19
theorem e17 : EndsYes Tryz.prog s17 := ends_lead l17 e18
theorem e16 : EndsYes Tryz.prog s16 := ends_step ok hm w16 e17
theorem e15 : EndsYes Tryz.prog s15 := ends_step ok hm w15 e16
theorem e14 : EndsYes Tryz.prog s14 := ends_lead l14 e15
theorem e13 : EndsYes Tryz.prog s13 := ends_step ok hm w13 e14
theorem e12 : EndsYes Tryz.prog s12 := ends_lead l12 e13
theorem e11 : EndsYes Tryz.prog s11 := ends_step ok hm w11 e12
theorem e10 : EndsYes Tryz.prog s10 := ends_step ok hm w10 e11
theorem e9 : EndsYes Tryz.prog s9 := ends_step ok hm w9 e10
theorem e8 : EndsYes Tryz.prog s8 := ends_step ok hm w8 e9
theorem e7 : EndsYes Tryz.prog s7 := ends_step ok hm w7 e8
theorem e6 : EndsYes Tryz.prog s6 := ends_step ok hm w6 e7
theorem e5 : EndsYes Tryz.prog s5 := ends_step ok hm w5 e6
theorem e4 : EndsYes Tryz.prog s4 := ends_step ok hm w4 e5
theorem e3 : EndsYes Tryz.prog s3 := ends_step ok hm w3 e4
theorem e2 : EndsYes Tryz.prog s2 := ends_step ok hm w2 e3
theorem e1 : EndsYes Tryz.prog s1 := ends_step ok hm w1 e2
theorem e0 : EndsYes Tryz.prog s0 := ends_step ok hm w0 e1

end Go.Proofs.YtnefhpkkbehjeaaGreatDoor.triNone
