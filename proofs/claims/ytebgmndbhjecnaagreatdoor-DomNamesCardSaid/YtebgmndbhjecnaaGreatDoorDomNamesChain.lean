/- The law DomNames: its run, put together. -/
import Derived.Test.YtebgmndbhjecnaaGreatDoorDomNamesRunA
import Derived.Test.YtebgmndbhjecnaaGreatDoorDomNamesRunB
import Derived.Test.YtebgmndbhjecnaaGreatDoorDomNamesRunC
namespace Go.Proofs.YtebgmndbhjecnaaGreatDoor.domNames
set_option linter.unusedVariables false
set_option maxRecDepth 100000
open Go.Wvm

theorem ok : VPok Tryz.prog tables := VP.of_ok _
theorem hm : Tryz.prog.follows .mixedOrders = true := by kernel_rfl
theorem started : startV tables known 3 0 = some s0 := by kernel_rfl
theorem e31yz5 : EndsFrom Tryz.prog 0 s31yz5 v31y W31y := ends_over ok hm w31yz5
theorem e31yz4 : EndsFrom Tryz.prog 0 s31yz4 v31y W31y := ends_go ok hm w31yz4 e31yz5
theorem e31yz3 : EndsFrom Tryz.prog 0 s31yz3 v31y W31y := ends_go ok hm w31yz3 e31yz4
theorem e31yz2 : EndsFrom Tryz.prog 0 s31yz2 v31y W31y := ends_go ok hm w31yz2 e31yz3
theorem e31yz1 : EndsFrom Tryz.prog 0 s31yz1 v31y W31y := ends_go ok hm w31yz1 e31yz2
theorem e31yz0 : EndsFrom Tryz.prog 0 s31yz0 v31y W31y := ends_go ok hm w31yz0 e31yz1
theorem h31y : subM Tryz.prog tables 1000000 tb31y 0 s31yz0 = .over v31y W31y := subM_hit (e := ⟨s31yz0, v31y, W31y⟩) (by kernel_rfl)
theorem t31y : ∀ e ∈ tb31y, EndsFrom Tryz.prog 0 e.m e.v e.W := tb_cons (x := ⟨s31yz0, v31y, W31y⟩) e31yz0 tb_nil
theorem l31 : Leads Tryz.prog 0 s31 s32 := (leads_big (m' := n31y) ok hm (subM_ok ok hm t31y) (bigF_range c31y h31y z31y)).trans (leads_drop d31y)
theorem e33yz5 : EndsFrom Tryz.prog 0 s33yz5 v33y W33y := ends_over ok hm w33yz5
theorem e33yz4 : EndsFrom Tryz.prog 0 s33yz4 v33y W33y := ends_go ok hm w33yz4 e33yz5
theorem e33yz3 : EndsFrom Tryz.prog 0 s33yz3 v33y W33y := ends_go ok hm w33yz3 e33yz4
theorem e33yz2 : EndsFrom Tryz.prog 0 s33yz2 v33y W33y := ends_go ok hm w33yz2 e33yz3
theorem e33yz1 : EndsFrom Tryz.prog 0 s33yz1 v33y W33y := ends_go ok hm w33yz1 e33yz2
theorem e33yz0 : EndsFrom Tryz.prog 0 s33yz0 v33y W33y := ends_go ok hm w33yz0 e33yz1
theorem h33y : subM Tryz.prog tables 1000000 tb33y 0 s33yz0 = .over v33y W33y := subM_hit (e := ⟨s33yz0, v33y, W33y⟩) (by kernel_rfl)
theorem t33y : ∀ e ∈ tb33y, EndsFrom Tryz.prog 0 e.m e.v e.W := tb_cons (x := ⟨s33yz0, v33y, W33y⟩) e33yz0 tb_nil
theorem l33 : Leads Tryz.prog 0 s33 s34 := (leads_big (m' := n33y) ok hm (subM_ok ok hm t33y) (bigF_range c33y h33y z33y)).trans (leads_drop d33y)
theorem e35yz4 : EndsFrom Tryz.prog 0 s35yz4 v35y W35y := ends_over ok hm w35yz4
theorem e35yz3 : EndsFrom Tryz.prog 0 s35yz3 v35y W35y := ends_go ok hm w35yz3 e35yz4
theorem e35yz2 : EndsFrom Tryz.prog 0 s35yz2 v35y W35y := ends_go ok hm w35yz2 e35yz3
theorem e35yz1 : EndsFrom Tryz.prog 0 s35yz1 v35y W35y := ends_go ok hm w35yz1 e35yz2
theorem e35yz0 : EndsFrom Tryz.prog 0 s35yz0 v35y W35y := ends_go ok hm w35yz0 e35yz1
theorem h35y : subM Tryz.prog tables 1000000 tb35y 0 s35yz0 = .over v35y W35y := subM_hit (e := ⟨s35yz0, v35y, W35y⟩) (by kernel_rfl)
theorem t35y : ∀ e ∈ tb35y, EndsFrom Tryz.prog 0 e.m e.v e.W := tb_cons (x := ⟨s35yz0, v35y, W35y⟩) e35yz0 tb_nil
theorem l35 : Leads Tryz.prog 0 s35 s36 := (leads_big (m' := n35y) ok hm (subM_ok ok hm t35y) (bigF_range c35y h35y z35y)).trans (leads_drop d35y)
theorem e37yz1 : EndsFrom Tryz.prog 0 s37yz1 v37y W37y := ends_over ok hm w37yz1
theorem e37yz0 : EndsFrom Tryz.prog 0 s37yz0 v37y W37y := ends_go ok hm w37yz0 e37yz1
theorem h37y : subM Tryz.prog tables 1000000 tb37y 0 s37yz0 = .over v37y W37y := subM_hit (e := ⟨s37yz0, v37y, W37y⟩) (by kernel_rfl)
theorem t37y : ∀ e ∈ tb37y, EndsFrom Tryz.prog 0 e.m e.v e.W := tb_cons (x := ⟨s37yz0, v37y, W37y⟩) e37yz0 tb_nil
theorem l37 : Leads Tryz.prog 0 s37 s38 := (leads_big (m' := n37y) ok hm (subM_ok ok hm t37y) (bigF_range c37y h37y z37y)).trans (leads_drop d37y)
theorem e41yz2 : EndsFrom Tryz.prog 0 s41yz2 v41y W41y := ends_over ok hm w41yz2
theorem e41yz1 : EndsFrom Tryz.prog 0 s41yz1 v41y W41y := ends_go ok hm w41yz1 e41yz2
theorem e41yz0 : EndsFrom Tryz.prog 0 s41yz0 v41y W41y := ends_go ok hm w41yz0 e41yz1
theorem h41y : subM Tryz.prog tables 1000000 tb41y 0 s41yz0 = .over v41y W41y := subM_hit (e := ⟨s41yz0, v41y, W41y⟩) (by kernel_rfl)
theorem t41y : ∀ e ∈ tb41y, EndsFrom Tryz.prog 0 e.m e.v e.W := tb_cons (x := ⟨s41yz0, v41y, W41y⟩) e41yz0 tb_nil
theorem l41 : Leads Tryz.prog 0 s41 s42 := (leads_big (m' := n41y) ok hm (subM_ok ok hm t41y) (bigF_range c41y h41y z41y)).trans (leads_drop d41y)
theorem e45yz2 : EndsFrom Tryz.prog 0 s45yz2 v45y W45y := ends_over ok hm w45yz2
theorem e45yz1 : EndsFrom Tryz.prog 0 s45yz1 v45y W45y := ends_go ok hm w45yz1 e45yz2
theorem e45yz0 : EndsFrom Tryz.prog 0 s45yz0 v45y W45y := ends_go ok hm w45yz0 e45yz1
theorem h45y : subM Tryz.prog tables 1000000 tb45y 0 s45yz0 = .over v45y W45y := subM_hit (e := ⟨s45yz0, v45y, W45y⟩) (by kernel_rfl)
theorem t45y : ∀ e ∈ tb45y, EndsFrom Tryz.prog 0 e.m e.v e.W := tb_cons (x := ⟨s45yz0, v45y, W45y⟩) e45yz0 tb_nil
theorem l45 : Leads Tryz.prog 0 s45 s46 := (leads_big (m' := n45y) ok hm (subM_ok ok hm t45y) (bigF_range c45y h45y z45y)).trans (leads_drop d45y)
theorem e49yz5 : EndsFrom Tryz.prog 0 s49yz5 v49y W49y := ends_over ok hm w49yz5
theorem e49yz4 : EndsFrom Tryz.prog 0 s49yz4 v49y W49y := ends_go ok hm w49yz4 e49yz5
theorem e49yz3 : EndsFrom Tryz.prog 0 s49yz3 v49y W49y := ends_go ok hm w49yz3 e49yz4
theorem e49yz2 : EndsFrom Tryz.prog 0 s49yz2 v49y W49y := ends_go ok hm w49yz2 e49yz3
theorem e49yz1 : EndsFrom Tryz.prog 0 s49yz1 v49y W49y := ends_go ok hm w49yz1 e49yz2
theorem e49yz0 : EndsFrom Tryz.prog 0 s49yz0 v49y W49y := ends_go ok hm w49yz0 e49yz1
theorem h49y : subM Tryz.prog tables 1000000 tb49y 0 s49yz0 = .over v49y W49y := subM_hit (e := ⟨s49yz0, v49y, W49y⟩) (by kernel_rfl)
theorem t49y : ∀ e ∈ tb49y, EndsFrom Tryz.prog 0 e.m e.v e.W := tb_cons (x := ⟨s49yz0, v49y, W49y⟩) e49yz0 tb_nil
theorem l49 : Leads Tryz.prog 0 s49 s50 := (leads_big (m' := n49y) ok hm (subM_ok ok hm t49y) (bigF_range c49y h49y z49y)).trans (leads_drop d49y)
theorem e51yz4 : EndsFrom Tryz.prog 0 s51yz4 v51y W51y := ends_over ok hm w51yz4
theorem e51yz3 : EndsFrom Tryz.prog 0 s51yz3 v51y W51y := ends_go ok hm w51yz3 e51yz4
theorem e51yz2 : EndsFrom Tryz.prog 0 s51yz2 v51y W51y := ends_go ok hm w51yz2 e51yz3
theorem e51yz1 : EndsFrom Tryz.prog 0 s51yz1 v51y W51y := ends_go ok hm w51yz1 e51yz2
theorem e51yz0 : EndsFrom Tryz.prog 0 s51yz0 v51y W51y := ends_go ok hm w51yz0 e51yz1
theorem h51y : subM Tryz.prog tables 1000000 tb51y 0 s51yz0 = .over v51y W51y := subM_hit (e := ⟨s51yz0, v51y, W51y⟩) (by kernel_rfl)
theorem t51y : ∀ e ∈ tb51y, EndsFrom Tryz.prog 0 e.m e.v e.W := tb_cons (x := ⟨s51yz0, v51y, W51y⟩) e51yz0 tb_nil
theorem l51 : Leads Tryz.prog 0 s51 s52 := (leads_big (m' := n51y) ok hm (subM_ok ok hm t51y) (bigF_range c51y h51y z51y)).trans (leads_drop d51y)
theorem e54yz3 : EndsFrom Tryz.prog 0 s54yz3 v54y W54y := ends_over ok hm w54yz3
theorem e54yz2 : EndsFrom Tryz.prog 0 s54yz2 v54y W54y := ends_go ok hm w54yz2 e54yz3
theorem e54yz1 : EndsFrom Tryz.prog 0 s54yz1 v54y W54y := ends_go ok hm w54yz1 e54yz2
theorem e54yz0 : EndsFrom Tryz.prog 0 s54yz0 v54y W54y := ends_go ok hm w54yz0 e54yz1
theorem h54y : subM Tryz.prog tables 1000000 tb54y 0 s54yz0 = .over v54y W54y := subM_hit (e := ⟨s54yz0, v54y, W54y⟩) (by kernel_rfl)
theorem t54y : ∀ e ∈ tb54y, EndsFrom Tryz.prog 0 e.m e.v e.W := tb_cons (x := ⟨s54yz0, v54y, W54y⟩) e54yz0 tb_nil
theorem l54 : Leads Tryz.prog 0 s54 s55 := (leads_big (m' := n54y) ok hm (subM_ok ok hm t54y) (bigF_range c54y h54y z54y)).trans (leads_drop d54y)
theorem e58yz2 : EndsFrom Tryz.prog 0 s58yz2 v58y W58y := ends_over ok hm w58yz2
theorem e58yz1 : EndsFrom Tryz.prog 0 s58yz1 v58y W58y := ends_go ok hm w58yz1 e58yz2
theorem e58yz0 : EndsFrom Tryz.prog 0 s58yz0 v58y W58y := ends_go ok hm w58yz0 e58yz1
theorem h58y : subM Tryz.prog tables 1000000 tb58y 0 s58yz0 = .over v58y W58y := subM_hit (e := ⟨s58yz0, v58y, W58y⟩) (by kernel_rfl)
theorem t58y : ∀ e ∈ tb58y, EndsFrom Tryz.prog 0 e.m e.v e.W := tb_cons (x := ⟨s58yz0, v58y, W58y⟩) e58yz0 tb_nil
theorem l58 : Leads Tryz.prog 0 s58 s59 := (leads_big (m' := n58y) ok hm (subM_ok ok hm t58y) (bigF_range c58y h58y z58y)).trans (leads_drop d58y)
theorem e60yz2 : EndsFrom Tryz.prog 0 s60yz2 v60y W60y := ends_over ok hm w60yz2
theorem e60yz1 : EndsFrom Tryz.prog 0 s60yz1 v60y W60y := ends_go ok hm w60yz1 e60yz2
theorem e60yz0 : EndsFrom Tryz.prog 0 s60yz0 v60y W60y := ends_go ok hm w60yz0 e60yz1
theorem h60y : subM Tryz.prog tables 1000000 tb60y 0 s60yz0 = .over v60y W60y := subM_hit (e := ⟨s60yz0, v60y, W60y⟩) (by kernel_rfl)
theorem t60y : ∀ e ∈ tb60y, EndsFrom Tryz.prog 0 e.m e.v e.W := tb_cons (x := ⟨s60yz0, v60y, W60y⟩) e60yz0 tb_nil
theorem l60 : Leads Tryz.prog 0 s60 s61 := (leads_big (m' := n60y) ok hm (subM_ok ok hm t60y) (bigF_range c60y h60y z60y)).trans (leads_drop d60y)
theorem e62yz4 : EndsFrom Tryz.prog 0 s62yz4 v62y W62y := ends_over ok hm w62yz4
theorem e62yz3 : EndsFrom Tryz.prog 0 s62yz3 v62y W62y := ends_go ok hm w62yz3 e62yz4
theorem e62yz2 : EndsFrom Tryz.prog 0 s62yz2 v62y W62y := ends_go ok hm w62yz2 e62yz3
theorem e62yz1 : EndsFrom Tryz.prog 0 s62yz1 v62y W62y := ends_go ok hm w62yz1 e62yz2
theorem e62yz0 : EndsFrom Tryz.prog 0 s62yz0 v62y W62y := ends_go ok hm w62yz0 e62yz1
theorem h62y : subM Tryz.prog tables 1000000 tb62y 0 s62yz0 = .over v62y W62y := subM_hit (e := ⟨s62yz0, v62y, W62y⟩) (by kernel_rfl)
theorem t62y : ∀ e ∈ tb62y, EndsFrom Tryz.prog 0 e.m e.v e.W := tb_cons (x := ⟨s62yz0, v62y, W62y⟩) e62yz0 tb_nil
theorem l62 : Leads Tryz.prog 0 s62 s63 := (leads_big (m' := n62y) ok hm (subM_ok ok hm t62y) (bigF_range c62y h62y z62y)).trans (leads_drop d62y)
theorem e64yz3 : EndsFrom Tryz.prog 0 s64yz3 v64y W64y := ends_over ok hm w64yz3
theorem e64yz2 : EndsFrom Tryz.prog 0 s64yz2 v64y W64y := ends_go ok hm w64yz2 e64yz3
theorem e64yz1 : EndsFrom Tryz.prog 0 s64yz1 v64y W64y := ends_go ok hm w64yz1 e64yz2
theorem e64yz0 : EndsFrom Tryz.prog 0 s64yz0 v64y W64y := ends_go ok hm w64yz0 e64yz1
theorem h64y : subM Tryz.prog tables 1000000 tb64y 0 s64yz0 = .over v64y W64y := subM_hit (e := ⟨s64yz0, v64y, W64y⟩) (by kernel_rfl)
theorem t64y : ∀ e ∈ tb64y, EndsFrom Tryz.prog 0 e.m e.v e.W := tb_cons (x := ⟨s64yz0, v64y, W64y⟩) e64yz0 tb_nil
theorem l64 : Leads Tryz.prog 0 s64 s65 := (leads_big (m' := n64y) ok hm (subM_ok ok hm t64y) (bigF_range c64y h64y z64y)).trans (leads_drop d64y)
theorem e66yz2 : EndsFrom Tryz.prog 0 s66yz2 v66y W66y := ends_over ok hm w66yz2
theorem e66yz1 : EndsFrom Tryz.prog 0 s66yz1 v66y W66y := ends_go ok hm w66yz1 e66yz2
theorem e66yz0 : EndsFrom Tryz.prog 0 s66yz0 v66y W66y := ends_go ok hm w66yz0 e66yz1
theorem h66y : subM Tryz.prog tables 1000000 tb66y 0 s66yz0 = .over v66y W66y := subM_hit (e := ⟨s66yz0, v66y, W66y⟩) (by kernel_rfl)
theorem t66y : ∀ e ∈ tb66y, EndsFrom Tryz.prog 0 e.m e.v e.W := tb_cons (x := ⟨s66yz0, v66y, W66y⟩) e66yz0 tb_nil
theorem l66 : Leads Tryz.prog 0 s66 s67 := (leads_big (m' := n66y) ok hm (subM_ok ok hm t66y) (bigF_range c66y h66y z66y)).trans (leads_drop d66y)
theorem e68yz2 : EndsFrom Tryz.prog 0 s68yz2 v68y W68y := ends_over ok hm w68yz2
theorem e68yz1 : EndsFrom Tryz.prog 0 s68yz1 v68y W68y := ends_go ok hm w68yz1 e68yz2
theorem e68yz0 : EndsFrom Tryz.prog 0 s68yz0 v68y W68y := ends_go ok hm w68yz0 e68yz1
theorem h68y : subM Tryz.prog tables 1000000 tb68y 0 s68yz0 = .over v68y W68y := subM_hit (e := ⟨s68yz0, v68y, W68y⟩) (by kernel_rfl)
theorem t68y : ∀ e ∈ tb68y, EndsFrom Tryz.prog 0 e.m e.v e.W := tb_cons (x := ⟨s68yz0, v68y, W68y⟩) e68yz0 tb_nil
theorem l68 : Leads Tryz.prog 0 s68 s69 := (leads_big (m' := n68y) ok hm (subM_ok ok hm t68y) (bigF_range c68y h68y z68y)).trans (leads_drop d68y)
theorem e70yz4 : EndsFrom Tryz.prog 0 s70yz4 v70y W70y := ends_over ok hm w70yz4
theorem e70yz3 : EndsFrom Tryz.prog 0 s70yz3 v70y W70y := ends_go ok hm w70yz3 e70yz4
theorem e70yz2 : EndsFrom Tryz.prog 0 s70yz2 v70y W70y := ends_go ok hm w70yz2 e70yz3
theorem e70yz1 : EndsFrom Tryz.prog 0 s70yz1 v70y W70y := ends_go ok hm w70yz1 e70yz2
theorem e70yz0 : EndsFrom Tryz.prog 0 s70yz0 v70y W70y := ends_go ok hm w70yz0 e70yz1
theorem h70y : subM Tryz.prog tables 1000000 tb70y 0 s70yz0 = .over v70y W70y := subM_hit (e := ⟨s70yz0, v70y, W70y⟩) (by kernel_rfl)
theorem t70y : ∀ e ∈ tb70y, EndsFrom Tryz.prog 0 e.m e.v e.W := tb_cons (x := ⟨s70yz0, v70y, W70y⟩) e70yz0 tb_nil
theorem l70 : Leads Tryz.prog 0 s70 s71 := (leads_big (m' := n70y) ok hm (subM_ok ok hm t70y) (bigF_range c70y h70y z70y)).trans (leads_drop d70y)
theorem e72yz3 : EndsFrom Tryz.prog 0 s72yz3 v72y W72y := ends_over ok hm w72yz3
theorem e72yz2 : EndsFrom Tryz.prog 0 s72yz2 v72y W72y := ends_go ok hm w72yz2 e72yz3
theorem e72yz1 : EndsFrom Tryz.prog 0 s72yz1 v72y W72y := ends_go ok hm w72yz1 e72yz2
theorem e72yz0 : EndsFrom Tryz.prog 0 s72yz0 v72y W72y := ends_go ok hm w72yz0 e72yz1
theorem h72y : subM Tryz.prog tables 1000000 tb72y 0 s72yz0 = .over v72y W72y := subM_hit (e := ⟨s72yz0, v72y, W72y⟩) (by kernel_rfl)
theorem t72y : ∀ e ∈ tb72y, EndsFrom Tryz.prog 0 e.m e.v e.W := tb_cons (x := ⟨s72yz0, v72y, W72y⟩) e72yz0 tb_nil
theorem l72 : Leads Tryz.prog 0 s72 s73 := (leads_big (m' := n72y) ok hm (subM_ok ok hm t72y) (bigF_range c72y h72y z72y)).trans (leads_drop d72y)
theorem e76 : EndsYes Tryz.prog s76 := ends_last ok hm w76
theorem e75 : EndsYes Tryz.prog s75 := ends_step ok hm w75 e76
theorem e74 : EndsYes Tryz.prog s74 := ends_step ok hm w74 e75
theorem e73 : EndsYes Tryz.prog s73 := ends_step ok hm w73 e74
theorem e72 : EndsYes Tryz.prog s72 := ends_lead l72 e73
theorem e71 : EndsYes Tryz.prog s71 := ends_step ok hm w71 e72
theorem e70 : EndsYes Tryz.prog s70 := ends_lead l70 e71
theorem e69 : EndsYes Tryz.prog s69 := ends_step ok hm w69 e70
theorem e68 : EndsYes Tryz.prog s68 := ends_lead l68 e69
theorem e67 : EndsYes Tryz.prog s67 := ends_step ok hm w67 e68
theorem e66 : EndsYes Tryz.prog s66 := ends_lead l66 e67
theorem e65 : EndsYes Tryz.prog s65 := ends_step ok hm w65 e66
theorem e64 : EndsYes Tryz.prog s64 := ends_lead l64 e65
theorem e63 : EndsYes Tryz.prog s63 := ends_step ok hm w63 e64
theorem e62 : EndsYes Tryz.prog s62 := ends_lead l62 e63
theorem e61 : EndsYes Tryz.prog s61 := ends_step ok hm w61 e62
theorem e60 : EndsYes Tryz.prog s60 := ends_lead l60 e61
theorem e59 : EndsYes Tryz.prog s59 := ends_step ok hm w59 e60
theorem e58 : EndsYes Tryz.prog s58 := ends_lead l58 e59
theorem e57 : EndsYes Tryz.prog s57 := ends_step ok hm w57 e58
theorem e56 : EndsYes Tryz.prog s56 := ends_step ok hm w56 e57
theorem e55 : EndsYes Tryz.prog s55 := ends_step ok hm w55 e56
theorem e54 : EndsYes Tryz.prog s54 := ends_lead l54 e55
theorem e53 : EndsYes Tryz.prog s53 := ends_step ok hm w53 e54
theorem e52 : EndsYes Tryz.prog s52 := ends_step ok hm w52 e53
theorem e51 : EndsYes Tryz.prog s51 := ends_lead l51 e52
theorem e50 : EndsYes Tryz.prog s50 := ends_step ok hm w50 e51
theorem e49 : EndsYes Tryz.prog s49 := ends_lead l49 e50
theorem e48 : EndsYes Tryz.prog s48 := ends_step ok hm w48 e49
theorem e47 : EndsYes Tryz.prog s47 := ends_step ok hm w47 e48
theorem e46 : EndsYes Tryz.prog s46 := ends_step ok hm w46 e47
theorem e45 : EndsYes Tryz.prog s45 := ends_lead l45 e46
theorem e44 : EndsYes Tryz.prog s44 := ends_step ok hm w44 e45
theorem e43 : EndsYes Tryz.prog s43 := ends_step ok hm w43 e44
theorem e42 : EndsYes Tryz.prog s42 := ends_step ok hm w42 e43
theorem e41 : EndsYes Tryz.prog s41 := ends_lead l41 e42
theorem e40 : EndsYes Tryz.prog s40 := ends_step ok hm w40 e41
theorem e39 : EndsYes Tryz.prog s39 := ends_step ok hm w39 e40
theorem e38 : EndsYes Tryz.prog s38 := ends_step ok hm w38 e39
theorem e37 : EndsYes Tryz.prog s37 := ends_lead l37 e38
theorem e36 : EndsYes Tryz.prog s36 := ends_step ok hm w36 e37
theorem e35 : EndsYes Tryz.prog s35 := ends_lead l35 e36
theorem e34 : EndsYes Tryz.prog s34 := ends_step ok hm w34 e35
theorem e33 : EndsYes Tryz.prog s33 := ends_lead l33 e34
theorem e32 : EndsYes Tryz.prog s32 := ends_step ok hm w32 e33
theorem e31 : EndsYes Tryz.prog s31 := ends_lead l31 e32
theorem e30 : EndsYes Tryz.prog s30 := ends_step ok hm w30 e31
theorem e29 : EndsYes Tryz.prog s29 := ends_step ok hm w29 e30
theorem e28 : EndsYes Tryz.prog s28 := ends_step ok hm w28 e29
theorem e27 : EndsYes Tryz.prog s27 := ends_step ok hm w27 e28
theorem e26 : EndsYes Tryz.prog s26 := ends_step ok hm w26 e27
theorem e25 : EndsYes Tryz.prog s25 := ends_step ok hm w25 e26
theorem e24 : EndsYes Tryz.prog s24 := ends_step ok hm w24 e25
theorem e23 : EndsYes Tryz.prog s23 := ends_step ok hm w23 e24
theorem e22 : EndsYes Tryz.prog s22 := ends_step ok hm w22 e23
theorem e21 : EndsYes Tryz.prog s21 := ends_step ok hm w21 e22
theorem e20 : EndsYes Tryz.prog s20 := ends_step ok hm w20 e21
theorem e19 : EndsYes Tryz.prog s19 := ends_step ok hm w19 e20
theorem e18 : EndsYes Tryz.prog s18 := ends_step ok hm w18 e19
theorem e17 : EndsYes Tryz.prog s17 := ends_step ok hm w17 e18
theorem e16 : EndsYes Tryz.prog s16 := ends_step ok hm w16 e17
theorem e15 : EndsYes Tryz.prog s15 := ends_step ok hm w15 e16
theorem e14 : EndsYes Tryz.prog s14 := ends_step ok hm w14 e15
theorem e13 : EndsYes Tryz.prog s13 := ends_step ok hm w13 e14
theorem e12 : EndsYes Tryz.prog s12 := ends_step ok hm w12 e13
theorem e11 : EndsYes Tryz.prog s11 := ends_step ok hm w11 e12
theorem e10 : EndsYes Tryz.prog s10 := ends_step ok hm w10 e11
theorem e9 : EndsYes Tryz.prog s9 := ends_step ok hm w9 e10
theorem e8 : EndsYes Tryz.prog s8 := ends_step ok hm w8 e9
theorem e7 : EndsYes Tryz.prog s7 := ends_step ok hm w7 e8
theorem e6 : EndsYes Tryz.prog s6 := ends_step ok hm w6 e7
theorem e5 : EndsYes Tryz.prog s5 := ends_step ok hm w5 e6
theorem e4 : EndsYes Tryz.prog s4 := ends_step ok hm w4 e5
theorem e3 : EndsYes Tryz.prog s3 := ends_step ok hm w3 e4
theorem e2 : EndsYes Tryz.prog s2 := ends_step ok hm w2 e3
theorem e1 : EndsYes Tryz.prog s1 := ends_step ok hm w1 e2
theorem e0 : EndsYes Tryz.prog s0 := ends_step ok hm w0 e1

end Go.Proofs.YtebgmndbhjecnaaGreatDoor.domNames
