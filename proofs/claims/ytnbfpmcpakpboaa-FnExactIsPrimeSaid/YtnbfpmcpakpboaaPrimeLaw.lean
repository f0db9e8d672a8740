/- The law on IsPrime. -/
import Derived.Test.YtnbfpmcpakpboaaVec
set_option linter.unusedVariables false
set_option maxRecDepth 100000
namespace Go.Proofs.Ytnbfpmcpakpboaa
open M
theorem specIsPrime_s (p : Int) : Spec Try.prog 35 [.int .i64 p] [] (Ret (.bool (primeB p))) :=
  Spec.of_same Try.func35 rfl (by kernel_rfl) rfl fun μ w => specIsPrime_any p w
/-- the law on IsPrime returns true -/
theorem lawIsPrime_s (p : Int) : Spec Try.prog 6 [.int .i64 p] [] (Ret (.bool true)) := by
  refine Spec.ret rfl (Spec.of_vc tabOK tabEq Try.func6 rfl (by kernel_rfl) rfl rfl ?_)
  refine And.intro trivial (Spec.mono (specIsPrime_s p) ?_)
  rintro r m ⟨rfl, rfl⟩
  refine And.intro trivial (Spec.mono (implIsPrime_s p) ?_)
  rintro r m ⟨rfl, rfl⟩
  refine ifVC_false (by simp) ?_
  exact boolEq rfl
end Go.Proofs.Ytnbfpmcpakpboaa
