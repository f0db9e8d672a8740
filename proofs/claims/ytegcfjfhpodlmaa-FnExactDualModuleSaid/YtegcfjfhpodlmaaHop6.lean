/- Functions of one Hopf algebra, on both sides, and the laws. -/
import Derived.Test.YtegcfjfhpodlmaaHop5
import Derived.Test.YtegcfjfhpodlmaaDual2
import Derived.Test.YtegcfjfhpodlmaaEqs
set_option linter.unusedVariables false
set_option linter.unusedSimpArgs false
set_option maxRecDepth 100000
set_option maxHeartbeats 1000000
namespace Go.Proofs.Ytegcfjfhpodlmaa
open M

/-- nothing but zeros -/
abbrev zr : Nat → Int := fun _ => 0
theorem toHopf_s (p n : Int) (U T Z C S : Nat → Int) : Spec Try.prog 8 [hopV p n U T Z C S] [] (Ret (hopV p n U T Z C S)) := by
  refine Spec.ret rfl (Spec.of_vc tabOK tabEq Try.func8 rfl (by kernel_rfl) rfl rfl ?_)
  (repeat (first | refine And.intro (by omega) ?_ | refine And.intro ⟨by omega, by omega⟩ ?_))
  refine And.intro trivial (Spec.mono (toVector_s _) ?_)
  rintro r m ⟨rfl, rfl⟩
  change opsVC _ _ _ _ _ _ [some (hopV p n U T Z C S, 1106), some (hopV 0 0 zr zr zr zr zr, 1106), some (hopV p n zr zr zr zr zr, 1106)] _
  (repeat (first | refine And.intro (by omega) ?_ | refine And.intro ⟨by omega, by omega⟩ ?_))
  refine And.intro trivial (Spec.mono (toTable_s _) ?_)
  rintro r m ⟨rfl, rfl⟩
  change opsVC _ _ _ _ _ _ [some (hopV p n U T Z C S, 1106), some (hopV 0 0 zr zr zr zr zr, 1106), some (hopV p n (updR zr 0 8 U) zr zr zr zr, 1106)] _
  (repeat (first | refine And.intro (by omega) ?_ | refine And.intro ⟨by omega, by omega⟩ ?_))
  refine And.intro trivial (Spec.mono (toVector_s _) ?_)
  rintro r m ⟨rfl, rfl⟩
  change opsVC _ _ _ _ _ _ [some (hopV p n U T Z C S, 1106), some (hopV 0 0 zr zr zr zr zr, 1106), some (hopV p n (updR zr 0 8 U) (updR zr 0 512 T) zr zr zr, 1106)] _
  (repeat (first | refine And.intro (by omega) ?_ | refine And.intro ⟨by omega, by omega⟩ ?_))
  refine And.intro trivial (Spec.mono (toTable_s _) ?_)
  rintro r m ⟨rfl, rfl⟩
  change opsVC _ _ _ _ _ _ [some (hopV p n U T Z C S, 1106), some (hopV 0 0 zr zr zr zr zr, 1106), some (hopV p n (updR zr 0 8 U) (updR zr 0 512 T) (updR zr 0 8 Z) zr zr, 1106)] _
  (repeat (first | refine And.intro (by omega) ?_ | refine And.intro ⟨by omega, by omega⟩ ?_))
  refine And.intro trivial (Spec.mono (toLinear_s _) ?_)
  rintro r m ⟨rfl, rfl⟩
  change opsVC _ _ _ _ _ _ [some (hopV p n U T Z C S, 1106), some (hopV 0 0 zr zr zr zr zr, 1106), some (hopV p n (updR zr 0 8 U) (updR zr 0 512 T) (updR zr 0 8 Z) (updR zr 0 512 C) zr, 1106)] _
  (repeat (first | refine And.intro (by omega) ?_ | refine And.intro ⟨by omega, by omega⟩ ?_))
  exact hopE p n (fun j hj => upd0 hj) (fun j hj => upd0 hj) (fun j hj => upd0 hj) (fun j hj => upd0 hj) (fun j hj => upd0 hj)

section
variable (p n : Int) (U T Z C S : Nat → Int) (hU : isU8 8 U) (hT : isU8 512 T) (hZ : isU8 8 Z) (hC : isU8 512 C) (hS : isU8 64 S)
include hU hT hZ hC hS

/-! ### IsHopf, AxiomThatFails -/
def failV (p n : Int) (U T Z C S : Nat → Int) : SV := .tcons (.int .i64 (if hshB p n U T Z C S = true then (failN p n.toNat U T Z C S : Int) else 0)) (.tcons (.int .i64 (if hshB p n U T Z C S = true then 0 else 1)) .tnil)

end
end Go.Proofs.Ytegcfjfhpodlmaa
