/- The laws' comparisons of maps, tables and structs of these. -/
import Derived.Test.YtcocapkdpbdmdaaMulLaw
set_option linter.unusedVariables false
set_option linter.unusedSimpArgs false
set_option maxRecDepth 100000
namespace Go.Proofs.Ytcocapkdpbdmdaa
open M

theorem allEq_no {len m i : Nat} {F G : Nat → Int} (hi : i < len) (h : allEq m (partF F m i) (partF G m i) = false) : allEq (len * m) F G = false := by
  rw [allEq_split]
  cases hb : (List.range len).all fun i => allEq m (fun j => F (j + i * m)) (fun j => G (j + i * m)) with
  | false => rfl
  | true =>
    have := List.all_eq_true.1 hb i (List.mem_range.2 hi)
    have h : allEq m (fun j => F (j + i * m)) (fun j => G (j + i * m)) = false := h
    rw [h] at this; cases this
theorem allEq_yes {len m : Nat} {F G : Nat → Int} (h : ∀ i, i < len → allEq m (partF F m i) (partF G m i) = true) : allEq (len * m) F G = true := by
  rw [allEq_split]
  exact List.all_eq_true.2 fun i hi => h i (List.mem_range.1 hi)
theorem allEq_self (n : Nat) (F : Nat → Int) : allEq n F F = true := List.all_eq_true.2 fun i _ => by simp

end Go.Proofs.Ytcocapkdpbdmdaa
