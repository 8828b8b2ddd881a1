/- The law TriNone: states of the small machine between the stretches of its run. -/
import Derived.Test.YtnefhpkkbehjeaaGreatDoorTriNoneStC
namespace Go.Proofs.YtnefhpkkbehjeaaGreatDoor.triNone
set_option linter.unusedVariables false
set_option maxRecDepth 100000
open Go.Wvm

noncomputable def h5128 : TO := (.node h4958 none (.node (.node h4961 none (.node h4939 none (.node .nil none h4984))) none h4949))
noncomputable def v58y : Value := undef
noncomputable def W58y : VW := ⟨13175, h5128, known⟩
noncomputable def tb58y : List EntX := [⟨s58yz0, v58y, W58y⟩]
noncomputable def fr5129 : VF := ⟨78, (nn t4904 t4906), 60, [(.inBlock 0), (.code c769)], [{ target := (.collected 12744), args := ⟨[]⟩ }], false, .normal, none⟩
noncomputable def o5130 : VObj := (.loop { state := .exhausted, pending := none, fn := 78, tm := (nn t4904 t4906), nt := 60, params := [26, 27], assign := c795, body := c796 })
noncomputable def h5131 : TO := (.node (.node (.node .nil none (.node .nil (some o5130) .nil)) none .nil) none .nil)
noncomputable def h5132 : TO := (.node h5131 none (.node .nil none (.node .nil none (.node .nil (some o2844) .nil))))
noncomputable def h5133 : TO := (.node (.node (.node .nil none (.node .nil none (.node .nil none h5132))) none .nil) none (.node (.node (.node (.node .nil none h2183) none .nil) none .nil) none .nil))
noncomputable def h5134 : TO := (.node (.node (.node (.node .nil none h4932) none .nil) none (.node h2512 none .nil)) none h5133)
noncomputable def h5135 : TO := (.node (.node h4931 none (.node h4659 none h2881)) none (.node h5134 none (.node h4934 none h2853)))
noncomputable def h5136 : TO := (.node h5135 none (.node (.node h4961 none (.node h4939 none (.node .nil none h4984))) none h4949))
noncomputable def n58y : VM := ⟨fr5129, [fr4927, fr2818, fr2821, fr2826, fr2054], ⟨13175, h5136, known⟩⟩
noncomputable def t5137 : TV := (nn (nn .nil (lf (.pointer (some ⟨12738, 0, none⟩)))) (nn t4905 .nil))
noncomputable def fr5138 : VF := ⟨78, t5137, 60, [(.inBlock 0), (.code c769)], [{ target := (.collected 12744), args := ⟨[]⟩ }], false, .normal, none⟩
noncomputable def h5139 : TO := (.node (.node (.node .nil none (.node h2194 none .nil)) none h4960) none (.node h3769 none (.node .nil none h4984)))
noncomputable def h5140 : TO := (.node (.node .nil none (.node h4943 none .nil)) none (.node (.node (.node (.node .nil none h2232) none .nil) none .nil) none .nil))
noncomputable def h5141 : TO := (.node (.node (.node (.node (.node .nil none h4940) none .nil) none h2219) none h4941) none (.node h5140 none h4948))
noncomputable def h5142 : TO := (.node (.node h4660 none (.node h4933 none (.node h4934 none h2853))) none (.node h5139 none h5141))
noncomputable def s59 : VM := ⟨fr5138, [fr4927, fr2818, fr2821, fr2826, fr2054], ⟨13175, h5142, known⟩⟩
end Go.Proofs.YtnefhpkkbehjeaaGreatDoor.triNone
