import Derived.Test.YtieliilnnfjijaaDtN
set_option linter.all false
set_option linter.unusedSimpArgs false
set_option linter.unnecessarySimpa false
set_option linter.unusedVariables false
set_option linter.unusedSectionVars false
set_option linter.unusedSectionVars false
set_option linter.unusedVariables false
namespace Go.Ds
section
variable {P : Program} {X : Caller} {Q : Out → Env → GH → Nat → Prop} {ks : List Fr} {e : Env} {g : GH} {lo : Nat}
/-- One round of a loop. -/
theorem Wk.once {b : PC} (h : Wk P X Q (.C b (.again b :: ks) e g lo)) : Wk P X Q (.C (.loop b) ks e g lo) := by
  rw [dloop]; exact GC.loop h.C
theorem Wk.more {b : PC} (h : Wk P X Q (.C (.loop b) ks e g lo)) : Wk P X Q (.O .normal (.again b :: ks) e g lo) := by
  rw [dOagain]; exact GO.again h.C
theorem Wk.leave {b : PC} {j : Nat} (h : Wk P X Q (.O (.exit j) ks e g lo)) : Wk P X Q (.O (.exit j) (.again b :: ks) e g lo) := by
  rw [dOagain]; exact GO.exit_again h.O
end
end Go.Ds
