/- The law on MultiplyVectors. -/
import Derived.Test.YtnbfpmcpakpboaaMul
set_option linter.unusedVariables false
set_option maxRecDepth 100000
namespace Go.Proofs.Ytnbfpmcpakpboaa
open M

theorem eqSelf (n : Nat) (z g : Nat → Int) : allEq n (fun j => updR z 0 n g (j + 0)) (fun j => updR z 0 n g (j + 0)) = true := List.all_eq_true.2 fun j _ => by simp

/-- the law on MultiplyVectors returns true -/
theorem lawMul_s (p n : Int) (U T v w : Nat → Int) (hU : isU8 8 U) (hT : isU8 512 T) (hv : isU8 8 v) (hw : isU8 8 w) :
    Spec Try.prog 10 [algV p n U T, .ints .u8 8 v, .ints .u8 8 w] [] (Ret (.bool true)) := by
  refine Spec.ret rfl (Spec.of_vc tabOK tabEq Try.func10 rfl (by kernel_rfl) rfl rfl ?_)
  refine Exists.intro 12 (And.intro (by kernel_rfl) ?_)
  refine Exists.intro (algV p n U T) (And.intro (And.intro rfl (And.intro rfl (Spec.mono (toAlgebra_s p n U T) fun r m h => h.1))) ?_)
  refine And.intro (by omega) ?_
  refine Exists.intro (.ints .u8 8 v) (And.intro (And.intro rfl (And.intro rfl (Spec.mono (toVector_s _) fun r m h => h.1))) ?_)
  refine And.intro (by omega) ?_
  refine Exists.intro (.ints .u8 8 w) (And.intro (And.intro rfl (And.intro rfl (Spec.mono (toVector_s _) fun r m h => h.1))) ?_)
  refine Exists.intro (mulV p n U T v w) (And.intro (And.intro rfl (And.intro rfl (Spec.mono (specMul_s p n U T v w hU hT hv hw) fun r m h => h.1))) ?_)
  (repeat (first | refine And.intro (by omega) ?_ | refine And.intro ⟨by omega, by omega⟩ ?_))
  refine Exists.intro 12 (And.intro (by kernel_rfl) ?_)
  refine Exists.intro (algV p n U T) (And.intro (And.intro rfl (And.intro rfl (Spec.mono (toAlgebra_s p n U T) fun r m h => h.1))) ?_)
  refine And.intro (by omega) ?_
  refine Exists.intro (.ints .u8 8 v) (And.intro (And.intro rfl (And.intro rfl (Spec.mono (toVector_s _) fun r m h => h.1))) ?_)
  refine And.intro (by omega) ?_
  refine Exists.intro (.ints .u8 8 w) (And.intro (And.intro rfl (And.intro rfl (Spec.mono (toVector_s _) fun r m h => h.1))) ?_)
  refine Exists.intro (mulV p n U T v w) (And.intro (And.intro rfl (And.intro rfl (Spec.mono (implMul_s p n U T v w hU hT hv hw) fun r m h => h.1))) ?_)
  (repeat (first | refine And.intro (by omega) ?_ | refine And.intro ⟨by omega, by omega⟩ ?_))
  refine And.intro trivial (Spec.mono (eqVector_s _ _) ?_)
  rintro r m ⟨rfl, rfl⟩
  refine ifVC_false ?_ ?_
  · rw [eqSelf]
    rfl
  refine ifVC_false (by simp) ?_
  exact boolEq rfl
theorem lawMul_c (p n : Int) (U T : Nat → Int) (hU : isU8 8 U) (hT : isU8 512 T) (v : Nat → Int) (hv : isU8 8 v) (w : Nat → Int) (hw : isU8 8 w) : Spec Try.prog 10 [algV p n U T, .ints .u8 8 v, .ints .u8 8 w] [] (Ret (.bool true)) := lawMul_s p n U T v w hU hT hv hw
end Go.Proofs.Ytnbfpmcpakpboaa
