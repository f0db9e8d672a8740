/- Dual algebras and coalgebras and cocommutativity, on both sides, and the laws. -/
import Derived.Test.YtegcfjfhpodlmaaCoFirst
import Derived.Test.YtegcfjfhpodlmaaOpp
set_option linter.unusedVariables false
set_option linter.unusedSimpArgs false
set_option maxRecDepth 100000
set_option maxHeartbeats 1000000
namespace Go.Proofs.Ytegcfjfhpodlmaa
open M

theorem dual_dual {T : Nat → Int} {q : Nat} (hq : q < 512) : dualF (dualF T) q = codF T q := by
  have key : ∀ a b c : Nat, a < 8 → b < 8 → c < 8 → (a * 64 + b * 8 + c) % 8 = c ∧ (a * 64 + b * 8 + c) / 64 = a ∧ (a * 64 + b * 8 + c) / 8 % 8 = b := fun a b c ha hb hc => by omega
  obtain ⟨k1, k2, k3⟩ := key (q % 8) (q / 64) (q / 8 % 8) (by omega) (by omega) (by omega)
  unfold dualF codF
  rw [k1, k2, k3]

/-- a struct, or zeros -/
def orZero (b : Bool) (p n : Int) (U T : Nat → Int) : SV := algV (if b = true then p else 0) (if b = true then n else 0) (fun j => if b = true then U j else 0) (fun q => if b = true then T q else 0)
def orV (b : Bool) (p n : Int) (U T : Nat → Int) : SV := .tcons (orZero b p n U T) (.tcons (.int .i64 (if b = true then 0 else 1)) .tnil)
theorem orZ_no {p n : Int} {U T : Nat → Int} : SV.eqv (algV 0 0 (fun _ => 0) fun _ => 0) (orZero false p n U T) := And.intro rfl (And.intro rfl (And.intro (rowEq fun _ _ => rfl) (And.intro (rowEq fun _ _ => rfl) rfl)))
theorem orV_no {p n : Int} {U T : Nat → Int} : SV.eqv (.tcons (algV 0 0 (fun _ => 0) fun _ => 0) (.tcons (.int .i64 1) .tnil)) (orV false p n U T) := And.intro orZ_no (And.intro rfl rfl)
theorem orV_yes {p n : Int} {U U' T T' : Nat → Int} (hU : ∀ j, j < 8 → U j = U' j) (hT : ∀ q, q < 512 → T q = T' q) : SV.eqv (.tcons (algV p n U T) (.tcons (.int .i64 0) .tnil)) (orV true p n U' T') :=
  And.intro (And.intro rfl (And.intro rfl (And.intro (rowEq hU) (And.intro (rowEq hT) rfl)))) (And.intro rfl rfl)

/-! ### cocommutativity -/
theorem coco_iff {C : Nat → Int} : commB (dualF C) = true ↔ ∀ i j k, i < 8 → j < 8 → k < 8 → vecT C i j k = vecT C i k j := by
  rw [comm_iff]
  constructor
  · intro h i j k hi hj hk
    have := h j k i hj hk hi
    rw [dual_vec C hi hj hk, dual_vec C hi hk hj] at this
    exact this
  · intro h j k i hj hk hi
    rw [dual_vec C hi hj hk, dual_vec C hi hk hj]
    exact h i j k hi hj hk
theorem coco_no {C : Nat → Int} {i j k : Nat} (hi : i < 8) (hj : j < 8) (hk : k < 8) (h : vecT C i j k ≠ vecT C i k j) : commB (dualF C) = false := by
  cases hb : commB (dualF C) with
  | false => rfl
  | true => exact absurd (coco_iff.1 hb i j k hi hj hk) h
theorem coco_yes {C : Nat → Int} (h : ∀ i j k, i < 8 → j < 8 → k < j → vecT C i j k = vecT C i k j) : commB (dualF C) = true := by
  refine coco_iff.2 fun i j k hi hj hk => ?_
  rcases Nat.lt_trichotomy j k with h1 | h1 | h1
  · exact (h i k j hi hk h1).symm
  · rw [h1]
  · exact h i j k hi hj h1
def cocoV (p n : Int) (U C : Nat → Int) : SV := .tcons (.bool (coB p n U C && commB (dualF C))) (.tcons (.int .i64 (if coB p n U C = true then 0 else 1)) .tnil)

end Go.Proofs.Ytegcfjfhpodlmaa
