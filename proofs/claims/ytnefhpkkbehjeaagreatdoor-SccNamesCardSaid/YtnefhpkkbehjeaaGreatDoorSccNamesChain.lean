/- The law SccNames: its run, put together. -/
import Derived.Test.YtnefhpkkbehjeaaGreatDoorSccNamesRunA
import Derived.Test.YtnefhpkkbehjeaaGreatDoorSccNamesRunB
import Derived.Test.YtnefhpkkbehjeaaGreatDoorSccNamesRunC
import Derived.Test.YtnefhpkkbehjeaaGreatDoorSccNamesRunD
namespace Go.Proofs.YtnefhpkkbehjeaaGreatDoor.sccNames
set_option linter.unusedVariables false
set_option maxRecDepth 100000
open Go.Wvm

theorem ok : VPok Tryz.prog tables := VP.of_ok _
theorem hm : Tryz.prog.follows .mixedOrders = true := by kernel_rfl
theorem started : startV tables known 4 0 = some s0 := by kernel_rfl
theorem e25yz3 : EndsFrom Tryz.prog 0 s25yz3 v25y W25y := ends_over ok hm w25yz3
theorem e25yz2 : EndsFrom Tryz.prog 0 s25yz2 v25y W25y := ends_go ok hm w25yz2 e25yz3
theorem e25yz1 : EndsFrom Tryz.prog 0 s25yz1 v25y W25y := ends_go ok hm w25yz1 e25yz2
theorem e25yz0 : EndsFrom Tryz.prog 0 s25yz0 v25y W25y := ends_go ok hm w25yz0 e25yz1
theorem h25y : subM Tryz.prog tables 1000000 tb25y 0 s25yz0 = .over v25y W25y := subM_hit (e := ⟨s25yz0, v25y, W25y⟩) (by kernel_rfl)
theorem t25y : ∀ e ∈ tb25y, EndsFrom Tryz.prog 0 e.m e.v e.W := tb_cons (x := ⟨s25yz0, v25y, W25y⟩) e25yz0 tb_nil
theorem l25 : Leads Tryz.prog 0 s25 s26 := (leads_big (m' := n25y) ok hm (subM_ok ok hm t25y) (bigF_range c25y h25y z25y)).trans (leads_drop d25y)
theorem e27yz3 : EndsFrom Tryz.prog 0 s27yz3 v27y W27y := ends_over ok hm w27yz3
theorem e27yz2 : EndsFrom Tryz.prog 0 s27yz2 v27y W27y := ends_go ok hm w27yz2 e27yz3
theorem e27yz1 : EndsFrom Tryz.prog 0 s27yz1 v27y W27y := ends_go ok hm w27yz1 e27yz2
theorem e27yz0 : EndsFrom Tryz.prog 0 s27yz0 v27y W27y := ends_go ok hm w27yz0 e27yz1
theorem h27y : subM Tryz.prog tables 1000000 tb27y 0 s27yz0 = .over v27y W27y := subM_hit (e := ⟨s27yz0, v27y, W27y⟩) (by kernel_rfl)
theorem t27y : ∀ e ∈ tb27y, EndsFrom Tryz.prog 0 e.m e.v e.W := tb_cons (x := ⟨s27yz0, v27y, W27y⟩) e27yz0 tb_nil
theorem l27 : Leads Tryz.prog 0 s27 s28 := (leads_big (m' := n27y) ok hm (subM_ok ok hm t27y) (bigF_range c27y h27y z27y)).trans (leads_drop d27y)
theorem e29yz3 : EndsFrom Tryz.prog 0 s29yz3 v29y W29y := ends_over ok hm w29yz3
theorem e29yz2 : EndsFrom Tryz.prog 0 s29yz2 v29y W29y := ends_go ok hm w29yz2 e29yz3
theorem e29yz1 : EndsFrom Tryz.prog 0 s29yz1 v29y W29y := ends_go ok hm w29yz1 e29yz2
theorem e29yz0 : EndsFrom Tryz.prog 0 s29yz0 v29y W29y := ends_go ok hm w29yz0 e29yz1
theorem h29y : subM Tryz.prog tables 1000000 tb29y 0 s29yz0 = .over v29y W29y := subM_hit (e := ⟨s29yz0, v29y, W29y⟩) (by kernel_rfl)
theorem t29y : ∀ e ∈ tb29y, EndsFrom Tryz.prog 0 e.m e.v e.W := tb_cons (x := ⟨s29yz0, v29y, W29y⟩) e29yz0 tb_nil
theorem l29 : Leads Tryz.prog 0 s29 s30 := (leads_big (m' := n29y) ok hm (subM_ok ok hm t29y) (bigF_range c29y h29y z29y)).trans (leads_drop d29y)
theorem e31yz1 : EndsFrom Tryz.prog 0 s31yz1 v31y W31y := ends_over ok hm w31yz1
theorem e31yz0 : EndsFrom Tryz.prog 0 s31yz0 v31y W31y := ends_go ok hm w31yz0 e31yz1
theorem h31y : subM Tryz.prog tables 1000000 tb31y 0 s31yz0 = .over v31y W31y := subM_hit (e := ⟨s31yz0, v31y, W31y⟩) (by kernel_rfl)
theorem t31y : ∀ e ∈ tb31y, EndsFrom Tryz.prog 0 e.m e.v e.W := tb_cons (x := ⟨s31yz0, v31y, W31y⟩) e31yz0 tb_nil
theorem l31 : Leads Tryz.prog 0 s31 s32 := (leads_big (m' := n31y) ok hm (subM_ok ok hm t31y) (bigF_range c31y h31y z31y)).trans (leads_drop d31y)
theorem e33yz3 : EndsFrom Tryz.prog 0 s33yz3 v33y W33y := ends_over ok hm w33yz3
theorem e33yz2 : EndsFrom Tryz.prog 0 s33yz2 v33y W33y := ends_go ok hm w33yz2 e33yz3
theorem e33yz1 : EndsFrom Tryz.prog 0 s33yz1 v33y W33y := ends_go ok hm w33yz1 e33yz2
theorem e33yz0 : EndsFrom Tryz.prog 0 s33yz0 v33y W33y := ends_go ok hm w33yz0 e33yz1
theorem h33y : subM Tryz.prog tables 1000000 tb33y 0 s33yz0 = .over v33y W33y := subM_hit (e := ⟨s33yz0, v33y, W33y⟩) (by kernel_rfl)
theorem t33y : ∀ e ∈ tb33y, EndsFrom Tryz.prog 0 e.m e.v e.W := tb_cons (x := ⟨s33yz0, v33y, W33y⟩) e33yz0 tb_nil
theorem l33 : Leads Tryz.prog 0 s33 s34 := (leads_big (m' := n33y) ok hm (subM_ok ok hm t33y) (bigF_range c33y h33y z33y)).trans (leads_drop d33y)
theorem e35yz1 : EndsFrom Tryz.prog 0 s35yz1 v35y W35y := ends_over ok hm w35yz1
theorem e35yz0 : EndsFrom Tryz.prog 0 s35yz0 v35y W35y := ends_go ok hm w35yz0 e35yz1
theorem h35y : subM Tryz.prog tables 1000000 tb35y 0 s35yz0 = .over v35y W35y := subM_hit (e := ⟨s35yz0, v35y, W35y⟩) (by kernel_rfl)
theorem t35y : ∀ e ∈ tb35y, EndsFrom Tryz.prog 0 e.m e.v e.W := tb_cons (x := ⟨s35yz0, v35y, W35y⟩) e35yz0 tb_nil
theorem l35 : Leads Tryz.prog 0 s35 s36 := (leads_big (m' := n35y) ok hm (subM_ok ok hm t35y) (bigF_range c35y h35y z35y)).trans (leads_drop d35y)
theorem e37yz3 : EndsFrom Tryz.prog 0 s37yz3 v37y W37y := ends_over ok hm w37yz3
theorem e37yz2 : EndsFrom Tryz.prog 0 s37yz2 v37y W37y := ends_go ok hm w37yz2 e37yz3
theorem e37yz1 : EndsFrom Tryz.prog 0 s37yz1 v37y W37y := ends_go ok hm w37yz1 e37yz2
theorem e37yz0 : EndsFrom Tryz.prog 0 s37yz0 v37y W37y := ends_go ok hm w37yz0 e37yz1
theorem h37y : subM Tryz.prog tables 1000000 tb37y 0 s37yz0 = .over v37y W37y := subM_hit (e := ⟨s37yz0, v37y, W37y⟩) (by kernel_rfl)
theorem t37y : ∀ e ∈ tb37y, EndsFrom Tryz.prog 0 e.m e.v e.W := tb_cons (x := ⟨s37yz0, v37y, W37y⟩) e37yz0 tb_nil
theorem l37 : Leads Tryz.prog 0 s37 s38 := (leads_big (m' := n37y) ok hm (subM_ok ok hm t37y) (bigF_range c37y h37y z37y)).trans (leads_drop d37y)
theorem e39yz3 : EndsFrom Tryz.prog 0 s39yz3 v39y W39y := ends_over ok hm w39yz3
theorem e39yz2 : EndsFrom Tryz.prog 0 s39yz2 v39y W39y := ends_go ok hm w39yz2 e39yz3
theorem e39yz1 : EndsFrom Tryz.prog 0 s39yz1 v39y W39y := ends_go ok hm w39yz1 e39yz2
theorem e39yz0 : EndsFrom Tryz.prog 0 s39yz0 v39y W39y := ends_go ok hm w39yz0 e39yz1
theorem h39y : subM Tryz.prog tables 1000000 tb39y 0 s39yz0 = .over v39y W39y := subM_hit (e := ⟨s39yz0, v39y, W39y⟩) (by kernel_rfl)
theorem t39y : ∀ e ∈ tb39y, EndsFrom Tryz.prog 0 e.m e.v e.W := tb_cons (x := ⟨s39yz0, v39y, W39y⟩) e39yz0 tb_nil
theorem l39 : Leads Tryz.prog 0 s39 s40 := (leads_big (m' := n39y) ok hm (subM_ok ok hm t39y) (bigF_range c39y h39y z39y)).trans (leads_drop d39y)
theorem e41yz3 : EndsFrom Tryz.prog 0 s41yz3 v41y W41y := ends_over ok hm w41yz3
theorem e41yz2 : EndsFrom Tryz.prog 0 s41yz2 v41y W41y := ends_go ok hm w41yz2 e41yz3
theorem e41yz1 : EndsFrom Tryz.prog 0 s41yz1 v41y W41y := ends_go ok hm w41yz1 e41yz2
theorem e41yz0 : EndsFrom Tryz.prog 0 s41yz0 v41y W41y := ends_go ok hm w41yz0 e41yz1
theorem h41y : subM Tryz.prog tables 1000000 tb41y 0 s41yz0 = .over v41y W41y := subM_hit (e := ⟨s41yz0, v41y, W41y⟩) (by kernel_rfl)
theorem t41y : ∀ e ∈ tb41y, EndsFrom Tryz.prog 0 e.m e.v e.W := tb_cons (x := ⟨s41yz0, v41y, W41y⟩) e41yz0 tb_nil
theorem l41 : Leads Tryz.prog 0 s41 s42 := (leads_big (m' := n41y) ok hm (subM_ok ok hm t41y) (bigF_range c41y h41y z41y)).trans (leads_drop d41y)
theorem e43yz1 : EndsFrom Tryz.prog 0 s43yz1 v43y W43y := ends_over ok hm w43yz1
theorem e43yz0 : EndsFrom Tryz.prog 0 s43yz0 v43y W43y := ends_go ok hm w43yz0 e43yz1
theorem h43y : subM Tryz.prog tables 1000000 tb43y 0 s43yz0 = .over v43y W43y := subM_hit (e := ⟨s43yz0, v43y, W43y⟩) (by kernel_rfl)
theorem t43y : ∀ e ∈ tb43y, EndsFrom Tryz.prog 0 e.m e.v e.W := tb_cons (x := ⟨s43yz0, v43y, W43y⟩) e43yz0 tb_nil
theorem l43 : Leads Tryz.prog 0 s43 s44 := (leads_big (m' := n43y) ok hm (subM_ok ok hm t43y) (bigF_range c43y h43y z43y)).trans (leads_drop d43y)
theorem e47yz3 : EndsFrom Tryz.prog 0 s47yz3 v47y W47y := ends_over ok hm w47yz3
theorem e47yz2 : EndsFrom Tryz.prog 0 s47yz2 v47y W47y := ends_go ok hm w47yz2 e47yz3
theorem e47yz1 : EndsFrom Tryz.prog 0 s47yz1 v47y W47y := ends_go ok hm w47yz1 e47yz2
theorem e47yz0 : EndsFrom Tryz.prog 0 s47yz0 v47y W47y := ends_go ok hm w47yz0 e47yz1
theorem h47y : subM Tryz.prog tables 1000000 tb47y 0 s47yz0 = .over v47y W47y := subM_hit (e := ⟨s47yz0, v47y, W47y⟩) (by kernel_rfl)
theorem t47y : ∀ e ∈ tb47y, EndsFrom Tryz.prog 0 e.m e.v e.W := tb_cons (x := ⟨s47yz0, v47y, W47y⟩) e47yz0 tb_nil
theorem l47 : Leads Tryz.prog 0 s47 s48 := (leads_big (m' := n47y) ok hm (subM_ok ok hm t47y) (bigF_range c47y h47y z47y)).trans (leads_drop d47y)
theorem e49yz3 : EndsFrom Tryz.prog 0 s49yz3 v49y W49y := ends_over ok hm w49yz3
theorem e49yz2 : EndsFrom Tryz.prog 0 s49yz2 v49y W49y := ends_go ok hm w49yz2 e49yz3
theorem e49yz1 : EndsFrom Tryz.prog 0 s49yz1 v49y W49y := ends_go ok hm w49yz1 e49yz2
theorem e49yz0 : EndsFrom Tryz.prog 0 s49yz0 v49y W49y := ends_go ok hm w49yz0 e49yz1
theorem h49y : subM Tryz.prog tables 1000000 tb49y 0 s49yz0 = .over v49y W49y := subM_hit (e := ⟨s49yz0, v49y, W49y⟩) (by kernel_rfl)
theorem t49y : ∀ e ∈ tb49y, EndsFrom Tryz.prog 0 e.m e.v e.W := tb_cons (x := ⟨s49yz0, v49y, W49y⟩) e49yz0 tb_nil
theorem l49 : Leads Tryz.prog 0 s49 s50 := (leads_big (m' := n49y) ok hm (subM_ok ok hm t49y) (bigF_range c49y h49y z49y)).trans (leads_drop d49y)
theorem e51yz3 : EndsFrom Tryz.prog 0 s51yz3 v51y W51y := ends_over ok hm w51yz3
theorem e51yz2 : EndsFrom Tryz.prog 0 s51yz2 v51y W51y := ends_go ok hm w51yz2 e51yz3
theorem e51yz1 : EndsFrom Tryz.prog 0 s51yz1 v51y W51y := ends_go ok hm w51yz1 e51yz2
theorem e51yz0 : EndsFrom Tryz.prog 0 s51yz0 v51y W51y := ends_go ok hm w51yz0 e51yz1
theorem h51y : subM Tryz.prog tables 1000000 tb51y 0 s51yz0 = .over v51y W51y := subM_hit (e := ⟨s51yz0, v51y, W51y⟩) (by kernel_rfl)
theorem t51y : ∀ e ∈ tb51y, EndsFrom Tryz.prog 0 e.m e.v e.W := tb_cons (x := ⟨s51yz0, v51y, W51y⟩) e51yz0 tb_nil
theorem l51 : Leads Tryz.prog 0 s51 s52 := (leads_big (m' := n51y) ok hm (subM_ok ok hm t51y) (bigF_range c51y h51y z51y)).trans (leads_drop d51y)
theorem e53yz3 : EndsFrom Tryz.prog 0 s53yz3 v53y W53y := ends_over ok hm w53yz3
theorem e53yz2 : EndsFrom Tryz.prog 0 s53yz2 v53y W53y := ends_go ok hm w53yz2 e53yz3
theorem e53yz1 : EndsFrom Tryz.prog 0 s53yz1 v53y W53y := ends_go ok hm w53yz1 e53yz2
theorem e53yz0 : EndsFrom Tryz.prog 0 s53yz0 v53y W53y := ends_go ok hm w53yz0 e53yz1
theorem h53y : subM Tryz.prog tables 1000000 tb53y 0 s53yz0 = .over v53y W53y := subM_hit (e := ⟨s53yz0, v53y, W53y⟩) (by kernel_rfl)
theorem t53y : ∀ e ∈ tb53y, EndsFrom Tryz.prog 0 e.m e.v e.W := tb_cons (x := ⟨s53yz0, v53y, W53y⟩) e53yz0 tb_nil
theorem l53 : Leads Tryz.prog 0 s53 s54 := (leads_big (m' := n53y) ok hm (subM_ok ok hm t53y) (bigF_range c53y h53y z53y)).trans (leads_drop d53y)
theorem e55yz3 : EndsFrom Tryz.prog 0 s55yz3 v55y W55y := ends_over ok hm w55yz3
theorem e55yz2 : EndsFrom Tryz.prog 0 s55yz2 v55y W55y := ends_go ok hm w55yz2 e55yz3
theorem e55yz1 : EndsFrom Tryz.prog 0 s55yz1 v55y W55y := ends_go ok hm w55yz1 e55yz2
theorem e55yz0 : EndsFrom Tryz.prog 0 s55yz0 v55y W55y := ends_go ok hm w55yz0 e55yz1
theorem h55y : subM Tryz.prog tables 1000000 tb55y 0 s55yz0 = .over v55y W55y := subM_hit (e := ⟨s55yz0, v55y, W55y⟩) (by kernel_rfl)
theorem t55y : ∀ e ∈ tb55y, EndsFrom Tryz.prog 0 e.m e.v e.W := tb_cons (x := ⟨s55yz0, v55y, W55y⟩) e55yz0 tb_nil
theorem l55 : Leads Tryz.prog 0 s55 s56 := (leads_big (m' := n55y) ok hm (subM_ok ok hm t55y) (bigF_range c55y h55y z55y)).trans (leads_drop d55y)
theorem e57yz3 : EndsFrom Tryz.prog 0 s57yz3 v57y W57y := ends_over ok hm w57yz3
theorem e57yz2 : EndsFrom Tryz.prog 0 s57yz2 v57y W57y := ends_go ok hm w57yz2 e57yz3
theorem e57yz1 : EndsFrom Tryz.prog 0 s57yz1 v57y W57y := ends_go ok hm w57yz1 e57yz2
theorem e57yz0 : EndsFrom Tryz.prog 0 s57yz0 v57y W57y := ends_go ok hm w57yz0 e57yz1
theorem h57y : subM Tryz.prog tables 1000000 tb57y 0 s57yz0 = .over v57y W57y := subM_hit (e := ⟨s57yz0, v57y, W57y⟩) (by kernel_rfl)
theorem t57y : ∀ e ∈ tb57y, EndsFrom Tryz.prog 0 e.m e.v e.W := tb_cons (x := ⟨s57yz0, v57y, W57y⟩) e57yz0 tb_nil
theorem l57 : Leads Tryz.prog 0 s57 s58 := (leads_big (m' := n57y) ok hm (subM_ok ok hm t57y) (bigF_range c57y h57y z57y)).trans (leads_drop d57y)
theorem e59yz3 : EndsFrom Tryz.prog 0 s59yz3 v59y W59y := ends_over ok hm w59yz3
theorem e59yz2 : EndsFrom Tryz.prog 0 s59yz2 v59y W59y := ends_go ok hm w59yz2 e59yz3
theorem e59yz1 : EndsFrom Tryz.prog 0 s59yz1 v59y W59y := ends_go ok hm w59yz1 e59yz2
theorem e59yz0 : EndsFrom Tryz.prog 0 s59yz0 v59y W59y := ends_go ok hm w59yz0 e59yz1
theorem h59y : subM Tryz.prog tables 1000000 tb59y 0 s59yz0 = .over v59y W59y := subM_hit (e := ⟨s59yz0, v59y, W59y⟩) (by kernel_rfl)
theorem t59y : ∀ e ∈ tb59y, EndsFrom Tryz.prog 0 e.m e.v e.W := tb_cons (x := ⟨s59yz0, v59y, W59y⟩) e59yz0 tb_nil
theorem l59 : Leads Tryz.prog 0 s59 s60 := (leads_big (m' := n59y) ok hm (subM_ok ok hm t59y) (bigF_range c59y h59y z59y)).trans (leads_drop d59y)
theorem e61yz3 : EndsFrom Tryz.prog 0 s61yz3 v61y W61y := ends_over ok hm w61yz3
theorem e61yz2 : EndsFrom Tryz.prog 0 s61yz2 v61y W61y := ends_go ok hm w61yz2 e61yz3
theorem e61yz1 : EndsFrom Tryz.prog 0 s61yz1 v61y W61y := ends_go ok hm w61yz1 e61yz2
theorem e61yz0 : EndsFrom Tryz.prog 0 s61yz0 v61y W61y := ends_go ok hm w61yz0 e61yz1
theorem h61y : subM Tryz.prog tables 1000000 tb61y 0 s61yz0 = .over v61y W61y := subM_hit (e := ⟨s61yz0, v61y, W61y⟩) (by kernel_rfl)
theorem t61y : ∀ e ∈ tb61y, EndsFrom Tryz.prog 0 e.m e.v e.W := tb_cons (x := ⟨s61yz0, v61y, W61y⟩) e61yz0 tb_nil
theorem l61 : Leads Tryz.prog 0 s61 s62 := (leads_big (m' := n61y) ok hm (subM_ok ok hm t61y) (bigF_range c61y h61y z61y)).trans (leads_drop d61y)
theorem e63yz3 : EndsFrom Tryz.prog 0 s63yz3 v63y W63y := ends_over ok hm w63yz3
theorem e63yz2 : EndsFrom Tryz.prog 0 s63yz2 v63y W63y := ends_go ok hm w63yz2 e63yz3
theorem e63yz1 : EndsFrom Tryz.prog 0 s63yz1 v63y W63y := ends_go ok hm w63yz1 e63yz2
theorem e63yz0 : EndsFrom Tryz.prog 0 s63yz0 v63y W63y := ends_go ok hm w63yz0 e63yz1
theorem h63y : subM Tryz.prog tables 1000000 tb63y 0 s63yz0 = .over v63y W63y := subM_hit (e := ⟨s63yz0, v63y, W63y⟩) (by kernel_rfl)
theorem t63y : ∀ e ∈ tb63y, EndsFrom Tryz.prog 0 e.m e.v e.W := tb_cons (x := ⟨s63yz0, v63y, W63y⟩) e63yz0 tb_nil
theorem l63 : Leads Tryz.prog 0 s63 s64 := (leads_big (m' := n63y) ok hm (subM_ok ok hm t63y) (bigF_range c63y h63y z63y)).trans (leads_drop d63y)
theorem e65yz3 : EndsFrom Tryz.prog 0 s65yz3 v65y W65y := ends_over ok hm w65yz3
theorem e65yz2 : EndsFrom Tryz.prog 0 s65yz2 v65y W65y := ends_go ok hm w65yz2 e65yz3
theorem e65yz1 : EndsFrom Tryz.prog 0 s65yz1 v65y W65y := ends_go ok hm w65yz1 e65yz2
theorem e65yz0 : EndsFrom Tryz.prog 0 s65yz0 v65y W65y := ends_go ok hm w65yz0 e65yz1
theorem h65y : subM Tryz.prog tables 1000000 tb65y 0 s65yz0 = .over v65y W65y := subM_hit (e := ⟨s65yz0, v65y, W65y⟩) (by kernel_rfl)
theorem t65y : ∀ e ∈ tb65y, EndsFrom Tryz.prog 0 e.m e.v e.W := tb_cons (x := ⟨s65yz0, v65y, W65y⟩) e65yz0 tb_nil
theorem l65 : Leads Tryz.prog 0 s65 s66 := (leads_big (m' := n65y) ok hm (subM_ok ok hm t65y) (bigF_range c65y h65y z65y)).trans (leads_drop d65y)
theorem e69yz3 : EndsFrom Tryz.prog 0 s69yz3 v69y W69y := ends_over ok hm w69yz3
theorem e69yz2 : EndsFrom Tryz.prog 0 s69yz2 v69y W69y := ends_go ok hm w69yz2 e69yz3
theorem e69yz1 : EndsFrom Tryz.prog 0 s69yz1 v69y W69y := ends_go ok hm w69yz1 e69yz2
theorem e69yz0 : EndsFrom Tryz.prog 0 s69yz0 v69y W69y := ends_go ok hm w69yz0 e69yz1
theorem h69y : subM Tryz.prog tables 1000000 tb69y 0 s69yz0 = .over v69y W69y := subM_hit (e := ⟨s69yz0, v69y, W69y⟩) (by kernel_rfl)
theorem t69y : ∀ e ∈ tb69y, EndsFrom Tryz.prog 0 e.m e.v e.W := tb_cons (x := ⟨s69yz0, v69y, W69y⟩) e69yz0 tb_nil
theorem l69 : Leads Tryz.prog 0 s69 s70 := (leads_big (m' := n69y) ok hm (subM_ok ok hm t69y) (bigF_range c69y h69y z69y)).trans (leads_drop d69y)
theorem e71yz3 : EndsFrom Tryz.prog 0 s71yz3 v71y W71y := ends_over ok hm w71yz3
theorem e71yz2 : EndsFrom Tryz.prog 0 s71yz2 v71y W71y := ends_go ok hm w71yz2 e71yz3
theorem e71yz1 : EndsFrom Tryz.prog 0 s71yz1 v71y W71y := ends_go ok hm w71yz1 e71yz2
theorem e71yz0 : EndsFrom Tryz.prog 0 s71yz0 v71y W71y := ends_go ok hm w71yz0 e71yz1
theorem h71y : subM Tryz.prog tables 1000000 tb71y 0 s71yz0 = .over v71y W71y := subM_hit (e := ⟨s71yz0, v71y, W71y⟩) (by kernel_rfl)
theorem t71y : ∀ e ∈ tb71y, EndsFrom Tryz.prog 0 e.m e.v e.W := tb_cons (x := ⟨s71yz0, v71y, W71y⟩) e71yz0 tb_nil
theorem l71 : Leads Tryz.prog 0 s71 s72 := (leads_big (m' := n71y) ok hm (subM_ok ok hm t71y) (bigF_range c71y h71y z71y)).trans (leads_drop d71y)
theorem e73yz3 : EndsFrom Tryz.prog 0 s73yz3 v73y W73y := ends_over ok hm w73yz3
theorem e73yz2 : EndsFrom Tryz.prog 0 s73yz2 v73y W73y := ends_go ok hm w73yz2 e73yz3
theorem e73yz1 : EndsFrom Tryz.prog 0 s73yz1 v73y W73y := ends_go ok hm w73yz1 e73yz2
theorem e73yz0 : EndsFrom Tryz.prog 0 s73yz0 v73y W73y := ends_go ok hm w73yz0 e73yz1
theorem h73y : subM Tryz.prog tables 1000000 tb73y 0 s73yz0 = .over v73y W73y := subM_hit (e := ⟨s73yz0, v73y, W73y⟩) (by kernel_rfl)
theorem t73y : ∀ e ∈ tb73y, EndsFrom Tryz.prog 0 e.m e.v e.W := tb_cons (x := ⟨s73yz0, v73y, W73y⟩) e73yz0 tb_nil
theorem l73 : Leads Tryz.prog 0 s73 s74 := (leads_big (m' := n73y) ok hm (subM_ok ok hm t73y) (bigF_range c73y h73y z73y)).trans (leads_drop d73y)
theorem e75yz3 : EndsFrom Tryz.prog 0 s75yz3 v75y W75y := ends_over ok hm w75yz3
theorem e75yz2 : EndsFrom Tryz.prog 0 s75yz2 v75y W75y := ends_go ok hm w75yz2 e75yz3
theorem e75yz1 : EndsFrom Tryz.prog 0 s75yz1 v75y W75y := ends_go ok hm w75yz1 e75yz2
theorem e75yz0 : EndsFrom Tryz.prog 0 s75yz0 v75y W75y := ends_go ok hm w75yz0 e75yz1
theorem h75y : subM Tryz.prog tables 1000000 tb75y 0 s75yz0 = .over v75y W75y := subM_hit (e := ⟨s75yz0, v75y, W75y⟩) (by kernel_rfl)
theorem t75y : ∀ e ∈ tb75y, EndsFrom Tryz.prog 0 e.m e.v e.W := tb_cons (x := ⟨s75yz0, v75y, W75y⟩) e75yz0 tb_nil
theorem l75 : Leads Tryz.prog 0 s75 s76 := (leads_big (m' := n75y) ok hm (subM_ok ok hm t75y) (bigF_range c75y h75y z75y)).trans (leads_drop d75y)
theorem e78yz3 : EndsFrom Tryz.prog 0 s78yz3 v78y W78y := ends_over ok hm w78yz3
theorem e78yz2 : EndsFrom Tryz.prog 0 s78yz2 v78y W78y := ends_go ok hm w78yz2 e78yz3
theorem e78yz1 : EndsFrom Tryz.prog 0 s78yz1 v78y W78y := ends_go ok hm w78yz1 e78yz2
theorem e78yz0 : EndsFrom Tryz.prog 0 s78yz0 v78y W78y := ends_go ok hm w78yz0 e78yz1
theorem h78y : subM Tryz.prog tables 1000000 tb78y 0 s78yz0 = .over v78y W78y := subM_hit (e := ⟨s78yz0, v78y, W78y⟩) (by kernel_rfl)
theorem t78y : ∀ e ∈ tb78y, EndsFrom Tryz.prog 0 e.m e.v e.W := tb_cons (x := ⟨s78yz0, v78y, W78y⟩) e78yz0 tb_nil
theorem l78 : Leads Tryz.prog 0 s78 s79 := (leads_big (m' := n78y) ok hm (subM_ok ok hm t78y) (bigF_range c78y h78y z78y)).trans (leads_drop d78y)
theorem e80yz3 : EndsFrom Tryz.prog 0 s80yz3 v80y W80y := ends_over ok hm w80yz3
theorem e80yz2 : EndsFrom Tryz.prog 0 s80yz2 v80y W80y := ends_go ok hm w80yz2 e80yz3
theorem e80yz1 : EndsFrom Tryz.prog 0 s80yz1 v80y W80y := ends_go ok hm w80yz1 e80yz2
theorem e80yz0 : EndsFrom Tryz.prog 0 s80yz0 v80y W80y := ends_go ok hm w80yz0 e80yz1
theorem h80y : subM Tryz.prog tables 1000000 tb80y 0 s80yz0 = .over v80y W80y := subM_hit (e := ⟨s80yz0, v80y, W80y⟩) (by kernel_rfl)
theorem t80y : ∀ e ∈ tb80y, EndsFrom Tryz.prog 0 e.m e.v e.W := tb_cons (x := ⟨s80yz0, v80y, W80y⟩) e80yz0 tb_nil
theorem l80 : Leads Tryz.prog 0 s80 s81 := (leads_big (m' := n80y) ok hm (subM_ok ok hm t80y) (bigF_range c80y h80y z80y)).trans (leads_drop d80y)
theorem e82yz3 : EndsFrom Tryz.prog 0 s82yz3 v82y W82y := ends_over ok hm w82yz3
theorem e82yz2 : EndsFrom Tryz.prog 0 s82yz2 v82y W82y := ends_go ok hm w82yz2 e82yz3
theorem e82yz1 : EndsFrom Tryz.prog 0 s82yz1 v82y W82y := ends_go ok hm w82yz1 e82yz2
theorem e82yz0 : EndsFrom Tryz.prog 0 s82yz0 v82y W82y := ends_go ok hm w82yz0 e82yz1
theorem h82y : subM Tryz.prog tables 1000000 tb82y 0 s82yz0 = .over v82y W82y := subM_hit (e := ⟨s82yz0, v82y, W82y⟩) (by kernel_rfl)
theorem t82y : ∀ e ∈ tb82y, EndsFrom Tryz.prog 0 e.m e.v e.W := tb_cons (x := ⟨s82yz0, v82y, W82y⟩) e82yz0 tb_nil
theorem l82 : Leads Tryz.prog 0 s82 s83 := (leads_big (m' := n82y) ok hm (subM_ok ok hm t82y) (bigF_range c82y h82y z82y)).trans (leads_drop d82y)
theorem e85yz3 : EndsFrom Tryz.prog 0 s85yz3 v85y W85y := ends_over ok hm w85yz3
theorem e85yz2 : EndsFrom Tryz.prog 0 s85yz2 v85y W85y := ends_go ok hm w85yz2 e85yz3
theorem e85yz1 : EndsFrom Tryz.prog 0 s85yz1 v85y W85y := ends_go ok hm w85yz1 e85yz2
theorem e85yz0 : EndsFrom Tryz.prog 0 s85yz0 v85y W85y := ends_go ok hm w85yz0 e85yz1
theorem h85y : subM Tryz.prog tables 1000000 tb85y 0 s85yz0 = .over v85y W85y := subM_hit (e := ⟨s85yz0, v85y, W85y⟩) (by kernel_rfl)
theorem t85y : ∀ e ∈ tb85y, EndsFrom Tryz.prog 0 e.m e.v e.W := tb_cons (x := ⟨s85yz0, v85y, W85y⟩) e85yz0 tb_nil
theorem l85 : Leads Tryz.prog 0 s85 s86 := (leads_big (m' := n85y) ok hm (subM_ok ok hm t85y) (bigF_range c85y h85y z85y)).trans (leads_drop d85y)
theorem e87yz3 : EndsFrom Tryz.prog 0 s87yz3 v87y W87y := ends_over ok hm w87yz3
theorem e87yz2 : EndsFrom Tryz.prog 0 s87yz2 v87y W87y := ends_go ok hm w87yz2 e87yz3
theorem e87yz1 : EndsFrom Tryz.prog 0 s87yz1 v87y W87y := ends_go ok hm w87yz1 e87yz2
theorem e87yz0 : EndsFrom Tryz.prog 0 s87yz0 v87y W87y := ends_go ok hm w87yz0 e87yz1
theorem h87y : subM Tryz.prog tables 1000000 tb87y 0 s87yz0 = .over v87y W87y := subM_hit (e := ⟨s87yz0, v87y, W87y⟩) (by kernel_rfl)
theorem t87y : ∀ e ∈ tb87y, EndsFrom Tryz.prog 0 e.m e.v e.W := tb_cons (x := ⟨s87yz0, v87y, W87y⟩) e87yz0 tb_nil
theorem l87 : Leads Tryz.prog 0 s87 s88 := (leads_big (m' := n87y) ok hm (subM_ok ok hm t87y) (bigF_range c87y h87y z87y)).trans (leads_drop d87y)
theorem e92yz3 : EndsFrom Tryz.prog 0 s92yz3 v92y W92y := ends_over ok hm w92yz3
theorem e92yz2 : EndsFrom Tryz.prog 0 s92yz2 v92y W92y := ends_go ok hm w92yz2 e92yz3
theorem e92yz1 : EndsFrom Tryz.prog 0 s92yz1 v92y W92y := ends_go ok hm w92yz1 e92yz2
theorem e92yz0 : EndsFrom Tryz.prog 0 s92yz0 v92y W92y := ends_go ok hm w92yz0 e92yz1
theorem h92y : subM Tryz.prog tables 1000000 tb92y 0 s92yz0 = .over v92y W92y := subM_hit (e := ⟨s92yz0, v92y, W92y⟩) (by kernel_rfl)
theorem t92y : ∀ e ∈ tb92y, EndsFrom Tryz.prog 0 e.m e.v e.W := tb_cons (x := ⟨s92yz0, v92y, W92y⟩) e92yz0 tb_nil
theorem l92 : Leads Tryz.prog 0 s92 s93 := (leads_big (m' := n92y) ok hm (subM_ok ok hm t92y) (bigF_range c92y h92y z92y)).trans (leads_drop d92y)
theorem e94yz3 : EndsFrom Tryz.prog 0 s94yz3 v94y W94y := ends_over ok hm w94yz3
theorem e94yz2 : EndsFrom Tryz.prog 0 s94yz2 v94y W94y := ends_go ok hm w94yz2 e94yz3
theorem e94yz1 : EndsFrom Tryz.prog 0 s94yz1 v94y W94y := ends_go ok hm w94yz1 e94yz2
theorem e94yz0 : EndsFrom Tryz.prog 0 s94yz0 v94y W94y := ends_go ok hm w94yz0 e94yz1
theorem h94y : subM Tryz.prog tables 1000000 tb94y 0 s94yz0 = .over v94y W94y := subM_hit (e := ⟨s94yz0, v94y, W94y⟩) (by kernel_rfl)
theorem t94y : ∀ e ∈ tb94y, EndsFrom Tryz.prog 0 e.m e.v e.W := tb_cons (x := ⟨s94yz0, v94y, W94y⟩) e94yz0 tb_nil
theorem l94 : Leads Tryz.prog 0 s94 s95 := (leads_big (m' := n94y) ok hm (subM_ok ok hm t94y) (bigF_range c94y h94y z94y)).trans (leads_drop d94y)
theorem e96yz3 : EndsFrom Tryz.prog 0 s96yz3 v96y W96y := ends_over ok hm w96yz3
theorem e96yz2 : EndsFrom Tryz.prog 0 s96yz2 v96y W96y := ends_go ok hm w96yz2 e96yz3
theorem e96yz1 : EndsFrom Tryz.prog 0 s96yz1 v96y W96y := ends_go ok hm w96yz1 e96yz2
theorem e96yz0 : EndsFrom Tryz.prog 0 s96yz0 v96y W96y := ends_go ok hm w96yz0 e96yz1
theorem h96y : subM Tryz.prog tables 1000000 tb96y 0 s96yz0 = .over v96y W96y := subM_hit (e := ⟨s96yz0, v96y, W96y⟩) (by kernel_rfl)
theorem t96y : ∀ e ∈ tb96y, EndsFrom Tryz.prog 0 e.m e.v e.W := tb_cons (x := ⟨s96yz0, v96y, W96y⟩) e96yz0 tb_nil
theorem l96 : Leads Tryz.prog 0 s96 s97 := (leads_big (m' := n96y) ok hm (subM_ok ok hm t96y) (bigF_range c96y h96y z96y)).trans (leads_drop d96y)
theorem e98yz1 : EndsFrom Tryz.prog 0 s98yz1 v98y W98y := ends_over ok hm w98yz1
theorem e98yz0 : EndsFrom Tryz.prog 0 s98yz0 v98y W98y := ends_go ok hm w98yz0 e98yz1
theorem h98y : subM Tryz.prog tables 1000000 tb98y 0 s98yz0 = .over v98y W98y := subM_hit (e := ⟨s98yz0, v98y, W98y⟩) (by kernel_rfl)
theorem t98y : ∀ e ∈ tb98y, EndsFrom Tryz.prog 0 e.m e.v e.W := tb_cons (x := ⟨s98yz0, v98y, W98y⟩) e98yz0 tb_nil
theorem l98 : Leads Tryz.prog 0 s98 s99 := (leads_big (m' := n98y) ok hm (subM_ok ok hm t98y) (bigF_range c98y h98y z98y)).trans (leads_drop d98y)
theorem e102yz3 : EndsFrom Tryz.prog 0 s102yz3 v102y W102y := ends_over ok hm w102yz3
theorem e102yz2 : EndsFrom Tryz.prog 0 s102yz2 v102y W102y := ends_go ok hm w102yz2 e102yz3
theorem e102yz1 : EndsFrom Tryz.prog 0 s102yz1 v102y W102y := ends_go ok hm w102yz1 e102yz2
theorem e102yz0 : EndsFrom Tryz.prog 0 s102yz0 v102y W102y := ends_go ok hm w102yz0 e102yz1
theorem h102y : subM Tryz.prog tables 1000000 tb102y 0 s102yz0 = .over v102y W102y := subM_hit (e := ⟨s102yz0, v102y, W102y⟩) (by kernel_rfl)
theorem t102y : ∀ e ∈ tb102y, EndsFrom Tryz.prog 0 e.m e.v e.W := tb_cons (x := ⟨s102yz0, v102y, W102y⟩) e102yz0 tb_nil
theorem l102 : Leads Tryz.prog 0 s102 s103 := (leads_big (m' := n102y) ok hm (subM_ok ok hm t102y) (bigF_range c102y h102y z102y)).trans (leads_drop d102y)
theorem e104yz3 : EndsFrom Tryz.prog 0 s104yz3 v104y W104y := ends_over ok hm w104yz3
theorem e104yz2 : EndsFrom Tryz.prog 0 s104yz2 v104y W104y := ends_go ok hm w104yz2 e104yz3
theorem e104yz1 : EndsFrom Tryz.prog 0 s104yz1 v104y W104y := ends_go ok hm w104yz1 e104yz2
theorem e104yz0 : EndsFrom Tryz.prog 0 s104yz0 v104y W104y := ends_go ok hm w104yz0 e104yz1
theorem h104y : subM Tryz.prog tables 1000000 tb104y 0 s104yz0 = .over v104y W104y := subM_hit (e := ⟨s104yz0, v104y, W104y⟩) (by kernel_rfl)
theorem t104y : ∀ e ∈ tb104y, EndsFrom Tryz.prog 0 e.m e.v e.W := tb_cons (x := ⟨s104yz0, v104y, W104y⟩) e104yz0 tb_nil
theorem l104 : Leads Tryz.prog 0 s104 s105 := (leads_big (m' := n104y) ok hm (subM_ok ok hm t104y) (bigF_range c104y h104y z104y)).trans (leads_drop d104y)
theorem e107yz3 : EndsFrom Tryz.prog 0 s107yz3 v107y W107y := ends_over ok hm w107yz3
theorem e107yz2 : EndsFrom Tryz.prog 0 s107yz2 v107y W107y := ends_go ok hm w107yz2 e107yz3
theorem e107yz1 : EndsFrom Tryz.prog 0 s107yz1 v107y W107y := ends_go ok hm w107yz1 e107yz2
theorem e107yz0 : EndsFrom Tryz.prog 0 s107yz0 v107y W107y := ends_go ok hm w107yz0 e107yz1
theorem h107y : subM Tryz.prog tables 1000000 tb107y 0 s107yz0 = .over v107y W107y := subM_hit (e := ⟨s107yz0, v107y, W107y⟩) (by kernel_rfl)
theorem t107y : ∀ e ∈ tb107y, EndsFrom Tryz.prog 0 e.m e.v e.W := tb_cons (x := ⟨s107yz0, v107y, W107y⟩) e107yz0 tb_nil
theorem l107 : Leads Tryz.prog 0 s107 s108 := (leads_big (m' := n107y) ok hm (subM_ok ok hm t107y) (bigF_range c107y h107y z107y)).trans (leads_drop d107y)
theorem e109yz3 : EndsFrom Tryz.prog 0 s109yz3 v109y W109y := ends_over ok hm w109yz3
theorem e109yz2 : EndsFrom Tryz.prog 0 s109yz2 v109y W109y := ends_go ok hm w109yz2 e109yz3
theorem e109yz1 : EndsFrom Tryz.prog 0 s109yz1 v109y W109y := ends_go ok hm w109yz1 e109yz2
theorem e109yz0 : EndsFrom Tryz.prog 0 s109yz0 v109y W109y := ends_go ok hm w109yz0 e109yz1
theorem h109y : subM Tryz.prog tables 1000000 tb109y 0 s109yz0 = .over v109y W109y := subM_hit (e := ⟨s109yz0, v109y, W109y⟩) (by kernel_rfl)
theorem t109y : ∀ e ∈ tb109y, EndsFrom Tryz.prog 0 e.m e.v e.W := tb_cons (x := ⟨s109yz0, v109y, W109y⟩) e109yz0 tb_nil
theorem l109 : Leads Tryz.prog 0 s109 s110 := (leads_big (m' := n109y) ok hm (subM_ok ok hm t109y) (bigF_range c109y h109y z109y)).trans (leads_drop d109y)
theorem e114yz3 : EndsFrom Tryz.prog 0 s114yz3 v114y W114y := ends_over ok hm w114yz3
theorem e114yz2 : EndsFrom Tryz.prog 0 s114yz2 v114y W114y := ends_go ok hm w114yz2 e114yz3
theorem e114yz1 : EndsFrom Tryz.prog 0 s114yz1 v114y W114y := ends_go ok hm w114yz1 e114yz2
theorem e114yz0 : EndsFrom Tryz.prog 0 s114yz0 v114y W114y := ends_go ok hm w114yz0 e114yz1
theorem h114y : subM Tryz.prog tables 1000000 tb114y 0 s114yz0 = .over v114y W114y := subM_hit (e := ⟨s114yz0, v114y, W114y⟩) (by kernel_rfl)
theorem t114y : ∀ e ∈ tb114y, EndsFrom Tryz.prog 0 e.m e.v e.W := tb_cons (x := ⟨s114yz0, v114y, W114y⟩) e114yz0 tb_nil
theorem l114 : Leads Tryz.prog 0 s114 s115 := (leads_big (m' := n114y) ok hm (subM_ok ok hm t114y) (bigF_range c114y h114y z114y)).trans (leads_drop d114y)
theorem e121 : EndsYes Tryz.prog s121 := ends_last ok hm w121
theorem e120 : EndsYes Tryz.prog s120 := ends_step ok hm w120 e121
theorem e119 : EndsYes Tryz.prog s119 := ends_step ok hm w119 e120
theorem e118 : EndsYes Tryz.prog s118 := ends_step ok hm w118 e119
theorem e117 : EndsYes Tryz.prog s117 := ends_step ok hm w117 e118
theorem e116 : EndsYes Tryz.prog s116 := ends_step ok hm w116 e117
theorem e115 : EndsYes Tryz.prog s115 := ends_step ok hm w115 e116
theorem e114 : EndsYes Tryz.prog s114 := ends_lead l114 e115
theorem e113 : EndsYes Tryz.prog s113 := ends_step ok hm w113 e114
theorem e112 : EndsYes Tryz.prog s112 := ends_step ok hm w112 e113
theorem e111 : EndsYes Tryz.prog s111 := ends_step ok hm w111 e112
theorem e110 : EndsYes Tryz.prog s110 := ends_step ok hm w110 e111
theorem e109 : EndsYes Tryz.prog s109 := ends_lead l109 e110
theorem e108 : EndsYes Tryz.prog s108 := ends_step ok hm w108 e109
theorem e107 : EndsYes Tryz.prog s107 := ends_lead l107 e108
theorem e106 : EndsYes Tryz.prog s106 := ends_step ok hm w106 e107
theorem e105 : EndsYes Tryz.prog s105 := ends_step ok hm w105 e106
theorem e104 : EndsYes Tryz.prog s104 := ends_lead l104 e105
theorem e103 : EndsYes Tryz.prog s103 := ends_step ok hm w103 e104
theorem e102 : EndsYes Tryz.prog s102 := ends_lead l102 e103
theorem e101 : EndsYes Tryz.prog s101 := ends_step ok hm w101 e102
theorem e100 : EndsYes Tryz.prog s100 := ends_step ok hm w100 e101
theorem e99 : EndsYes Tryz.prog s99 := ends_step ok hm w99 e100
theorem e98 : EndsYes Tryz.prog s98 := ends_lead l98 e99
theorem e97 : EndsYes Tryz.prog s97 := ends_step ok hm w97 e98
theorem e96 : EndsYes Tryz.prog s96 := ends_lead l96 e97
theorem e95 : EndsYes Tryz.prog s95 := ends_step ok hm w95 e96
theorem e94 : EndsYes Tryz.prog s94 := ends_lead l94 e95
theorem e93 : EndsYes Tryz.prog s93 := ends_step ok hm w93 e94
theorem e92 : EndsYes Tryz.prog s92 := ends_lead l92 e93
theorem e91 : EndsYes Tryz.prog s91 := ends_step ok hm w91 e92
theorem e90 : EndsYes Tryz.prog s90 := ends_step ok hm w90 e91
theorem e89 : EndsYes Tryz.prog s89 := ends_step ok hm w89 e90
theorem e88 : EndsYes Tryz.prog s88 := ends_step ok hm w88 e89
theorem e87 : EndsYes Tryz.prog s87 := ends_lead l87 e88
theorem e86 : EndsYes Tryz.prog s86 := ends_step ok hm w86 e87
theorem e85 : EndsYes Tryz.prog s85 := ends_lead l85 e86
theorem e84 : EndsYes Tryz.prog s84 := ends_step ok hm w84 e85
theorem e83 : EndsYes Tryz.prog s83 := ends_step ok hm w83 e84
theorem e82 : EndsYes Tryz.prog s82 := ends_lead l82 e83
theorem e81 : EndsYes Tryz.prog s81 := ends_step ok hm w81 e82
theorem e80 : EndsYes Tryz.prog s80 := ends_lead l80 e81
theorem e79 : EndsYes Tryz.prog s79 := ends_step ok hm w79 e80
theorem e78 : EndsYes Tryz.prog s78 := ends_lead l78 e79
theorem e77 : EndsYes Tryz.prog s77 := ends_step ok hm w77 e78
theorem e76 : EndsYes Tryz.prog s76 := ends_step ok hm w76 e77
theorem e75 : EndsYes Tryz.prog s75 := ends_lead l75 e76
theorem e74 : EndsYes Tryz.prog s74 := ends_step ok hm w74 e75
theorem e73 : EndsYes Tryz.prog s73 := ends_lead l73 e74
theorem e72 : EndsYes Tryz.prog s72 := ends_step ok hm w72 e73
theorem e71 : EndsYes Tryz.prog s71 := ends_lead l71 e72
theorem e70 : EndsYes Tryz.prog s70 := ends_step ok hm w70 e71
theorem e69 : EndsYes Tryz.prog s69 := ends_lead l69 e70
theorem e68 : EndsYes Tryz.prog s68 := ends_step ok hm w68 e69
theorem e67 : EndsYes Tryz.prog s67 := ends_step ok hm w67 e68
theorem e66 : EndsYes Tryz.prog s66 := ends_step ok hm w66 e67
theorem e65 : EndsYes Tryz.prog s65 := ends_lead l65 e66
theorem e64 : EndsYes Tryz.prog s64 := ends_step ok hm w64 e65
theorem e63 : EndsYes Tryz.prog s63 := ends_lead l63 e64
theorem e62 : EndsYes Tryz.prog s62 := ends_step ok hm w62 e63
theorem e61 : EndsYes Tryz.prog s61 := ends_lead l61 e62
theorem e60 : EndsYes Tryz.prog s60 := ends_step ok hm w60 e61
theorem e59 : EndsYes Tryz.prog s59 := ends_lead l59 e60
theorem e58 : EndsYes Tryz.prog s58 := ends_step ok hm w58 e59
theorem e57 : EndsYes Tryz.prog s57 := ends_lead l57 e58
theorem e56 : EndsYes Tryz.prog s56 := ends_step ok hm w56 e57
theorem e55 : EndsYes Tryz.prog s55 := ends_lead l55 e56
theorem e54 : EndsYes Tryz.prog s54 := ends_step ok hm w54 e55
theorem e53 : EndsYes Tryz.prog s53 := ends_lead l53 e54
theorem e52 : EndsYes Tryz.prog s52 := ends_step ok hm w52 e53
theorem e51 : EndsYes Tryz.prog s51 := ends_lead l51 e52
theorem e50 : EndsYes Tryz.prog s50 := ends_step ok hm w50 e51
theorem e49 : EndsYes Tryz.prog s49 := ends_lead l49 e50
theorem e48 : EndsYes Tryz.prog s48 := ends_step ok hm w48 e49
theorem e47 : EndsYes Tryz.prog s47 := ends_lead l47 e48
theorem e46 : EndsYes Tryz.prog s46 := ends_step ok hm w46 e47
theorem e45 : EndsYes Tryz.prog s45 := ends_step ok hm w45 e46
theorem e44 : EndsYes Tryz.prog s44 := ends_step ok hm w44 e45
theorem e43 : EndsYes Tryz.prog s43 := ends_lead l43 e44
theorem e42 : EndsYes Tryz.prog s42 := ends_step ok hm w42 e43
theorem e41 : EndsYes Tryz.prog s41 := ends_lead l41 e42
theorem e40 : EndsYes Tryz.prog s40 := ends_step ok hm w40 e41
theorem e39 : EndsYes Tryz.prog s39 := ends_lead l39 e40
theorem e38 : EndsYes Tryz.prog s38 := ends_step ok hm w38 e39
theorem e37 : EndsYes Tryz.prog s37 := ends_lead l37 e38
theorem e36 : EndsYes Tryz.prog s36 := ends_step ok hm w36 e37
theorem e35 : EndsYes Tryz.prog s35 := ends_lead l35 e36
theorem e34 : EndsYes Tryz.prog s34 := ends_step ok hm w34 e35
theorem e33 : EndsYes Tryz.prog s33 := ends_lead l33 e34
theorem e32 : EndsYes Tryz.prog s32 := ends_step ok hm w32 e33
theorem e31 : EndsYes Tryz.prog s31 := ends_lead l31 e32
theorem e30 : EndsYes Tryz.prog s30 := ends_step ok hm w30 e31
theorem e29 : EndsYes Tryz.prog s29 := ends_lead l29 e30
theorem e28 : EndsYes Tryz.prog s28 := ends_step ok hm w28 e29
theorem e27 : EndsYes Tryz.prog s27 := ends_lead l27 e28
theorem e26 : EndsYes Tryz.prog s26 := ends_step ok hm w26 e27
theorem e25 : EndsYes Tryz.prog s25 := ends_lead l25 e26
theorem e24 : EndsYes Tryz.prog s24 := ends_step ok hm w24 e25
theorem e23 : EndsYes Tryz.prog s23 := ends_step ok hm w23 e24
theorem e22 : EndsYes Tryz.prog s22 := ends_step ok hm w22 e23
theorem e21 : EndsYes Tryz.prog s21 := ends_step ok hm w21 e22
theorem e20 : EndsYes Tryz.prog s20 := ends_step ok hm w20 e21
theorem e19 : EndsYes Tryz.prog s19 := ends_step ok hm w19 e20
theorem e18 : EndsYes Tryz.prog s18 := ends_step ok hm w18 e19
theorem e17 : EndsYes Tryz.prog s17 := ends_step ok hm w17 e18
theorem e16 : EndsYes Tryz.prog s16 := ends_step ok hm w16 e17
theorem e15 : EndsYes Tryz.prog s15 := ends_step ok hm w15 e16
theorem e14 : EndsYes Tryz.prog s14 := ends_step ok hm w14 e15
theorem e13 : EndsYes Tryz.prog s13 := ends_step ok hm w13 e14
theorem e12 : EndsYes Tryz.prog s12 := ends_step ok hm w12 e13
theorem e11 : EndsYes Tryz.prog s11 := ends_step ok hm w11 e12
theorem e10 : EndsYes Tryz.prog s10 := ends_step ok hm w10 e11
theorem e9 : EndsYes Tryz.prog s9 := ends_step ok hm w9 e10
theorem e8 : EndsYes Tryz.prog s8 := ends_step ok hm w8 e9
theorem e7 : EndsYes Tryz.prog s7 := ends_step ok hm w7 e8
theorem e6 : EndsYes Tryz.prog s6 := ends_step ok hm w6 e7
theorem e5 : EndsYes Tryz.prog s5 := ends_step ok hm w5 e6
theorem e4 : EndsYes Tryz.prog s4 := ends_step ok hm w4 e5
theorem e3 : EndsYes Tryz.prog s3 := ends_step ok hm w3 e4
theorem e2 : EndsYes Tryz.prog s2 := ends_step ok hm w2 e3
theorem e1 : EndsYes Tryz.prog s1 := ends_step ok hm w1 e2
theorem e0 : EndsYes Tryz.prog s0 := ends_step ok hm w0 e1

end Go.Proofs.YtnefhpkkbehjeaaGreatDoor.sccNames
