/- The model's way to find what leads to a vector. -/
import Derived.Test.YtcocapkdpbdmdaaSolve2
set_option linter.unusedVariables false
set_option linter.unusedSimpArgs false
set_option maxRecDepth 100000
set_option maxHeartbeats 4000000
namespace Go.Proofs.Ytcocapkdpbdmdaa
open M

/-- what is left of v, and what leads to the part taken off -/
def liftV (p : Int) (A B v : Nat → Int) : Nat → (Nat → Int) × (Nat → Int)
  | 0 => (v, fun _ => 0)
  | k + 1 =>
    if (liftV p A B v k).1 (first8 (partF A 8 k)) ≠ 0 then
      (addM p (liftV p A B v k).1 (-((liftV p A B v k).1 (first8 (partF A 8 k)))) (partF A 8 k), addM p (liftV p A B v k).2 ((liftV p A B v k).1 (first8 (partF A 8 k))) (partF B 8 k))
    else liftV p A B v k
theorem liftV_rng {p : Nat} (hp : 0 < p) {A B v : Nat → Int} (h1 : ∀ j, j < 8 → 0 ≤ v j ∧ v j < p) : ∀ k, (∀ j, j < 8 → 0 ≤ (liftV p A B v k).1 j ∧ (liftV p A B v k).1 j < p) ∧ ∀ j, j < 8 → 0 ≤ (liftV p A B v k).2 j ∧ (liftV p A B v k).2 j < p
  | 0 => ⟨h1, fun j _ => ⟨Int.le_refl _, by show (0 : Int) < p; omega⟩⟩
  | k + 1 => by
    have ih := liftV_rng hp (A := A) (B := B) h1 k
    unfold liftV
    split
    · exact ⟨fun j _ => addM_rng hp _ _ _ j, fun j _ => addM_rng hp _ _ _ j⟩
    · exact ih
def liftR (p n : Nat) (f v : Nat → Int) : (Nat → Int) × (Nat → Int) := liftV p (solN p f n).A (solN p f n).B v (solN p f n).r

end Go.Proofs.Ytcocapkdpbdmdaa
