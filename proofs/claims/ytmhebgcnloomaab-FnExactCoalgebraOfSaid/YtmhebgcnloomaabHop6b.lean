/- Algebras and coalgebras of Hopf algebras, on both sides, and the laws. -/
import Derived.Test.YtmhebgcnloomaabHop6
set_option linter.unusedVariables false
set_option maxRecDepth 100000
set_option maxHeartbeats 1000000
namespace Go.Proofs.Ytmhebgcnloomaab
open M

section
variable (p n : Int) (U T Z C S : Nat → Int) (hU : isU8 8 U) (hT : isU8 512 T) (hZ : isU8 8 Z) (hC : isU8 512 C) (hS : isU8 64 S)
include hU hT hZ hC hS


/-! ### AlgebraOf -/
theorem implAlgebraOf_s : Spec Try.prog 11 [hopV p n U T Z C S] [] (Ret (orV (hopB p n U T Z C S) p n U T)) := by
  refine Spec.ret rfl (Spec.of_vc tabOK tabEq Try.func11 rfl (by kernel_rfl) rfl rfl ?_)
  refine And.intro trivial (Spec.mono (isHopf_s p n U T Z C S hU hT hZ hC hS) ?_)
  rintro r m ⟨rfl, rfl⟩
  refine ifVC_split (fun h => ?_) (fun h => ?_)
  · have h : hopB p n U T Z C S = false := by simpa using h
    rw [h]; exact orV_no
  have h : hopB p n U T Z C S = true := by simpa using h
  refine And.intro trivial (Spec.mono (algebraOf_s p n U T Z C S) ?_)
  rintro r m ⟨rfl, rfl⟩
  rw [h]; exact orV_yes (fun _ _ => rfl) (fun _ _ => rfl)
theorem specAlgebraOf_s : Spec Try.prog 10 [hopV p n U T Z C S] [] (Ret (orV (hopB p n U T Z C S) p n U T)) := by
  refine Spec.ret rfl (Spec.of_vc tabOK tabEq Try.func10 rfl (by kernel_rfl) rfl rfl ?_)
  refine And.intro trivial (Spec.mono (l03Is_s p n U T Z C S hU hT hZ hC hS) ?_)
  rintro r m ⟨rfl, rfl⟩
  refine ifVC_split (fun h => ?_) (fun h => ?_)
  · have h : hopB p n U T Z C S = false := by simpa using h
    rw [h]; exact orV_no
  have h : hopB p n U T Z C S = true := by simpa using h
  refine And.intro trivial (Spec.mono (l03Algebra_s p n U T Z C S) ?_)
  rintro r m ⟨rfl, rfl⟩
  rw [h]; exact orV_yes (fun _ _ => rfl) (fun _ _ => rfl)
theorem lawAlgebraOf_c : Spec Try.prog 4 [hopV p n U T Z C S] [] (Ret (.bool true)) := by
  refine Spec.ret rfl (Spec.of_vc tabOK tabEq Try.func4 rfl (by kernel_rfl) rfl rfl ?_)
  refine And.intro trivial (Spec.mono (toHopf_s p n U T Z C S) ?_)
  rintro r m ⟨rfl, rfl⟩
  change opsVC _ _ _ _ _ _ [some (hopV p n U T Z C S, 1106)] _
  refine And.intro trivial (Spec.mono (specAlgebraOf_s p n U T Z C S hU hT hZ hC hS) ?_)
  rintro r m ⟨rfl, rfl⟩
  change opsVC _ _ _ _ _ _ [some (hopV p n U T Z C S, 1106)] _
  refine And.intro trivial (Spec.mono (toHopf_s p n U T Z C S) ?_)
  rintro r m ⟨rfl, rfl⟩
  change opsVC _ _ _ _ _ _ [some (hopV p n U T Z C S, 1106), some (orZero (hopB p n U T Z C S) p n U T, 522)] _
  refine And.intro trivial (Spec.mono (implAlgebraOf_s p n U T Z C S hU hT hZ hC hS) ?_)
  rintro r m ⟨rfl, rfl⟩
  change opsVC _ _ _ _ _ _ [some (hopV p n U T Z C S, 1106), some (orZero (hopB p n U T Z C S) p n U T, 522)] _
  refine And.intro trivial (Spec.mono (eqAlgebra_s _ _ _ _ _ _ (allEq_self 8 _) (allEq_self 512 _)) ?_)
  rintro r m ⟨rfl, rfl⟩
  change opsVC _ _ _ _ _ _ [some (hopV p n U T Z C S, 1106), some (orZero (hopB p n U T Z C S) p n U T, 522), some (orZero (hopB p n U T Z C S) p n U T, 522)] _
  refine ifVC_false (by simp) ?_
  exact boolEq rfl

/-! ### CoalgebraOf -/
theorem implCoalgebraOf_s : Spec Try.prog 14 [hopV p n U T Z C S] [] (Ret (orV (hopB p n U T Z C S) p n Z C)) := by
  refine Spec.ret rfl (Spec.of_vc tabOK tabEq Try.func14 rfl (by kernel_rfl) rfl rfl ?_)
  refine And.intro trivial (Spec.mono (isHopf_s p n U T Z C S hU hT hZ hC hS) ?_)
  rintro r m ⟨rfl, rfl⟩
  refine ifVC_split (fun h => ?_) (fun h => ?_)
  · have h : hopB p n U T Z C S = false := by simpa using h
    rw [h]; exact orV_no
  have h : hopB p n U T Z C S = true := by simpa using h
  refine And.intro trivial (Spec.mono (coalgebraOf_s p n U T Z C S) ?_)
  rintro r m ⟨rfl, rfl⟩
  rw [h]; exact orV_yes (fun _ _ => rfl) (fun _ _ => rfl)
theorem specCoalgebraOf_s : Spec Try.prog 13 [hopV p n U T Z C S] [] (Ret (orV (hopB p n U T Z C S) p n Z C)) := by
  refine Spec.ret rfl (Spec.of_vc tabOK tabEq Try.func13 rfl (by kernel_rfl) rfl rfl ?_)
  refine And.intro trivial (Spec.mono (l03Is_s p n U T Z C S hU hT hZ hC hS) ?_)
  rintro r m ⟨rfl, rfl⟩
  refine ifVC_split (fun h => ?_) (fun h => ?_)
  · have h : hopB p n U T Z C S = false := by simpa using h
    rw [h]; exact orV_no
  have h : hopB p n U T Z C S = true := by simpa using h
  refine And.intro trivial (Spec.mono (l03Coalgebra_s p n U T Z C S) ?_)
  rintro r m ⟨rfl, rfl⟩
  rw [h]; exact orV_yes (fun _ _ => rfl) (fun _ _ => rfl)
theorem lawCoalgebraOf_c : Spec Try.prog 5 [hopV p n U T Z C S] [] (Ret (.bool true)) := by
  refine Spec.ret rfl (Spec.of_vc tabOK tabEq Try.func5 rfl (by kernel_rfl) rfl rfl ?_)
  refine And.intro trivial (Spec.mono (toHopf_s p n U T Z C S) ?_)
  rintro r m ⟨rfl, rfl⟩
  change opsVC _ _ _ _ _ _ [some (hopV p n U T Z C S, 1106)] _
  refine And.intro trivial (Spec.mono (specCoalgebraOf_s p n U T Z C S hU hT hZ hC hS) ?_)
  rintro r m ⟨rfl, rfl⟩
  change opsVC _ _ _ _ _ _ [some (hopV p n U T Z C S, 1106)] _
  refine And.intro trivial (Spec.mono (toHopf_s p n U T Z C S) ?_)
  rintro r m ⟨rfl, rfl⟩
  change opsVC _ _ _ _ _ _ [some (hopV p n U T Z C S, 1106), some (orZero (hopB p n U T Z C S) p n Z C, 522)] _
  refine And.intro trivial (Spec.mono (implCoalgebraOf_s p n U T Z C S hU hT hZ hC hS) ?_)
  rintro r m ⟨rfl, rfl⟩
  change opsVC _ _ _ _ _ _ [some (hopV p n U T Z C S, 1106), some (orZero (hopB p n U T Z C S) p n Z C, 522)] _
  refine And.intro trivial (Spec.mono (eqCoalgebra_s _ _ _ _ _ _ (allEq_self 8 _) (allEq_self 512 _)) ?_)
  rintro r m ⟨rfl, rfl⟩
  change opsVC _ _ _ _ _ _ [some (hopV p n U T Z C S, 1106), some (orZero (hopB p n U T Z C S) p n Z C, 522), some (orZero (hopB p n U T Z C S) p n Z C, 522)] _
  refine ifVC_false (by simp) ?_
  exact boolEq rfl

end
end Go.Proofs.Ytmhebgcnloomaab
