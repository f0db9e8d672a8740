/- CentreOf: the law. -/
import Derived.Test.YtmnbeinomodggaaCen2
set_option linter.unusedVariables false
set_option maxRecDepth 100000
set_option maxHeartbeats 4000000
namespace Go.Proofs.Ytmnbeinomodggaa
open M

theorem lawCentre_c (p n : Int) (U T : Nat → Int) (hU : isU8 8 U) (hT : isU8 512 T) : Spec Try.prog 3 [algV p n U T] [] (Ret (.bool true)) := by
  have hp1 : (if algB p n U T = true then (0 : Int) else 1) = 0 → 1 < (p.toNat : Int) := fun h => by
    by_cases hc : algB p n U T = true
    · obtain ⟨p', n', rfl, rfl, hA⟩ := algP_of hU hT hc
      have := hA.hp2; omega
    · rw [if_neg hc] at h; omega
  refine Spec.ret rfl (Spec.of_vc tabOK tabEq Try.func3 rfl (by kernel_rfl) rfl rfl ?_)
  refine And.intro trivial (Spec.mono (toAlgebra_s p n U T) ?_)
  rintro r m ⟨rfl, rfl⟩
  change opsVC _ _ _ _ _ _ [some (algV p n U T, 522)] _
  refine And.intro trivial (Spec.mono (specCentre_s p n U T hU hT) ?_)
  rintro r m (⟨he, rfl, rfl⟩ | ⟨he, k0, c0, A0, _, rfl, hR0, rfl⟩ | ⟨_, hf, _⟩)
  · -- an error on both sides
    refine And.intro trivial (Spec.mono (toAlgebra_s p n U T) ?_)
    rintro r m ⟨rfl, rfl⟩
    change opsVC _ _ _ _ _ _ [some (algV p n U T, 522)] _
    refine And.intro trivial (Spec.mono (implCentre_s p n U T hU hT) ?_)
    rintro r m (⟨_, rfl, rfl⟩ | ⟨he', _⟩ | ⟨he', _⟩)
    rotate_left
    · exact absurd he' he
    · exact absurd he' he
    refine And.intro trivial (Spec.mono (eqVecsNil_s) ?_)
    rintro r m ⟨rfl, rfl⟩
    refine ifVC_false (by simp) ?_
    refine And.intro trivial (Spec.mono (markVecsNil_s 101) ?_)
    rintro r m ⟨rfl, rfl⟩
    refine And.intro trivial (Spec.mono (heldVecsNil_s 101) ?_)
    rintro r m ⟨rfl, rfl⟩
    refine And.intro trivial (Spec.mono (toAlgebra_s p n U T) ?_)
    rintro r m ⟨rfl, rfl⟩
    change opsVC _ _ _ _ _ _ [some (algV p n U T, 522)] _
    refine And.intro trivial (Spec.mono (implCentre_s p n U T hU hT) ?_)
    rintro r m (⟨_, rfl, rfl⟩ | ⟨he', _⟩ | ⟨he', _⟩)
    rotate_left
    · exact absurd he' he
    · exact absurd he' he
    refine And.intro trivial (Spec.mono (eqVecsNil_s) ?_)
    rintro r m ⟨rfl, rfl⟩
    refine ifVC_false (by simp) ?_
    refine And.intro trivial (Spec.mono (heldVecsNil_s 101) ?_)
    rintro r m ⟨rfl, rfl⟩
    exact boolEq rfl
  · -- a list
    have hk0 : k0 ≤ 8 := red_k hR0
    have uniq := fun k A (h : RedL _ _ k A) => redL_uniq (hp1 he) (cen_space (by have := hp1 he; omega)) hR0 h
    refine And.intro trivial (Spec.mono (toAlgebra_s p n U T) ?_)
    rintro r m ⟨rfl, rfl⟩
    change opsVC _ _ _ _ _ _ [some (algV p n U T, 522), some (.ints .u8 (k0 * 8) A0, c0 * 8)] _
    refine And.intro trivial (Spec.mono (implCentre_s p n U T hU hT) ?_)
    rintro r m (⟨he', _⟩ | ⟨_, k1, c1, A1, hk1, rfl, hR1, rfl⟩ | ⟨_, _, A1, rfl, hR1, rfl⟩)
    · exact absurd he he'
    rotate_left
    · obtain ⟨hz, _⟩ := uniq _ _ hR1
      subst hz
      change opsVC _ _ _ _ _ _ [some (algV p n U T, 522), some (.ints .u8 (0 * 8) A0, c0 * 8)] _
      refine And.intro (And.intro rfl trivial) (Spec.mono (eqVecsEmpty_s c0 (c0 * 8) A0) ?_)
      rintro r m ⟨rfl, rfl⟩
      change opsVC _ _ _ _ _ _ [some (algV p n U T, 522), some (.ints .u8 (0 * 8) A0, c0 * 8)] _
      refine And.intro trivial (Spec.mono (markVecsNil_s 101) ?_)
      rintro r m ⟨rfl, rfl⟩
      refine And.intro trivial (Spec.mono (heldVecsNil_s 101) ?_)
      rintro r m ⟨rfl, rfl⟩
      refine And.intro trivial (Spec.mono (toAlgebra_s p n U T) ?_)
      rintro r m ⟨rfl, rfl⟩
      change opsVC _ _ _ _ _ _ [some (algV p n U T, 522), some (.ints .u8 (0 * 8) A0, c0 * 8)] _
      refine And.intro trivial (Spec.mono (implCentre_s p n U T hU hT) ?_)
      rintro r m (⟨he', _⟩ | ⟨_, k2, c2, A2, hk2, rfl, hR2, rfl⟩ | ⟨_, _, A2, rfl, hR2, rfl⟩)
      · exact absurd he he'
      · obtain ⟨hz, _⟩ := uniq _ _ hR2; exact absurd hz.symm (hk2 rfl)
      change opsVC _ _ _ _ _ _ [some (algV p n U T, 522), some (.ints .u8 (0 * 8) A0, c0 * 8)] _
      refine And.intro (And.intro rfl trivial) (Spec.mono (eqVecsEmpty_s c0 (c0 * 8) A0) ?_)
      rintro r m ⟨rfl, rfl⟩
      change opsVC _ _ _ _ _ _ [some (algV p n U T, 522), some (.ints .u8 (0 * 8) A0, c0 * 8)] _
      refine And.intro trivial (Spec.mono (heldVecsNil_s 101) ?_)
      rintro r m ⟨rfl, rfl⟩
      exact boolEq rfl
    obtain ⟨hz, hA⟩ := uniq _ _ hR1
    subst hz
    change opsVC _ _ _ _ _ _ [some (algV p n U T, 522), some (.ints .u8 (k0 * 8) A0, c0 * 8), some (.ints .u8 (k0 * 8) A1, c1 * 8)] _
    refine And.intro (And.intro rfl (And.intro rfl trivial)) (Spec.mono (eqVecs_s k0 c1 c0 A1 A0 (by omega) (fun j hj => (hA j hj).symm)) ?_)
    rintro r m ⟨rfl, rfl⟩
    change opsVC _ _ _ _ _ _ [some (algV p n U T, 522), some (.ints .u8 (k0 * 8) A0, c0 * 8), some (.ints .u8 (k0 * 8) A1, c1 * 8)] _
    refine And.intro (And.intro rfl trivial) (Spec.mono (markVecs_s k0 c1 101 A1 (by omega) (by omega)) ?_)
    rintro r m ⟨rfl, rfl⟩
    change opsVC _ _ _ _ _ _ [some (algV p n U T, 522), some (.ints .u8 (k0 * 8) A0, c0 * 8), some (.ints .u8 (k0 * 8) (markF 101), c1 * 8)] _
    refine And.intro (And.intro rfl trivial) (Spec.mono (heldVecs_s k0 c1 101 (by omega) (by omega)) ?_)
    rintro r m ⟨rfl, rfl⟩
    change opsVC _ _ _ _ _ _ [some (algV p n U T, 522), some (.ints .u8 (k0 * 8) A0, c0 * 8), some (.ints .u8 (k0 * 8) (markF 101), c1 * 8)] _
    refine ifVC_false (by simp) ?_
    refine And.intro trivial (Spec.mono (toAlgebra_s p n U T) ?_)
    rintro r m ⟨rfl, rfl⟩
    change opsVC _ _ _ _ _ _ [some (algV p n U T, 522), some (.ints .u8 (k0 * 8) A0, c0 * 8), some (.ints .u8 (k0 * 8) (markF 101), c1 * 8)] _
    refine And.intro trivial (Spec.mono (implCentre_s p n U T hU hT) ?_)
    rintro r m (⟨he', _⟩ | ⟨_, k2, c2, A2, hk2, rfl, hR2, rfl⟩ | ⟨_, _, A2, rfl, hR2, rfl⟩)
    · exact absurd he he'
    rotate_left
    · obtain ⟨hz, _⟩ := uniq _ _ hR2; exact absurd hz (hk1 rfl)
    obtain ⟨hz, hA2⟩ := uniq _ _ hR2
    subst hz
    change opsVC _ _ _ _ _ _ [some (algV p n U T, 522), some (.ints .u8 (k0 * 8) A0, c0 * 8), some (.ints .u8 (k0 * 8) (markF 101), c1 * 8), some (.ints .u8 (k0 * 8) A2, c2 * 8)] _
    refine And.intro (And.intro rfl (And.intro rfl trivial)) (Spec.mono (eqVecs_s k0 c2 c0 A2 A0 (by omega) (fun j hj => (hA2 j hj).symm)) ?_)
    rintro r m ⟨rfl, rfl⟩
    change opsVC _ _ _ _ _ _ [some (algV p n U T, 522), some (.ints .u8 (k0 * 8) A0, c0 * 8), some (.ints .u8 (k0 * 8) (markF 101), c1 * 8), some (.ints .u8 (k0 * 8) A2, c2 * 8)] _
    refine And.intro (And.intro rfl trivial) (Spec.mono (heldVecs_s k0 c1 101 (by omega) (by omega)) ?_)
    rintro r m ⟨rfl, rfl⟩
    change opsVC _ _ _ _ _ _ [some (algV p n U T, 522), some (.ints .u8 (k0 * 8) A0, c0 * 8), some (.ints .u8 (k0 * 8) (markF 101), c1 * 8), some (.ints .u8 (k0 * 8) A2, c2 * 8)] _
    refine ifVC_false (by simp) ?_
    exact boolEq rfl
  · cases hf
end Go.Proofs.Ytmnbeinomodggaa
