/- The laws' comparisons of maps, tables and structs of these. -/
import Derived.Test.YtegcfjfhpodlmaaMulLaw
set_option linter.unusedVariables false
set_option linter.unusedSimpArgs false
set_option maxRecDepth 100000
namespace Go.Proofs.Ytegcfjfhpodlmaa
open M

theorem allEq_no {len m i : Nat} {F G : Nat → Int} (hi : i < len) (h : allEq m (partF F m i) (partF G m i) = false) : allEq (len * m) F G = false := by
  rw [allEq_split]
  cases hb : (List.range len).all fun i => allEq m (fun j => F (j + i * m)) (fun j => G (j + i * m)) with
  | false => rfl
  | true =>
    have := List.all_eq_true.1 hb i (List.mem_range.2 hi)
    have h : allEq m (fun j => F (j + i * m)) (fun j => G (j + i * m)) = false := h
    rw [h] at this; cases this
theorem allEq_yes {len m : Nat} {F G : Nat → Int} (h : ∀ i, i < len → allEq m (partF F m i) (partF G m i) = true) : allEq (len * m) F G = true := by
  rw [allEq_split]
  exact List.all_eq_true.2 fun i hi => h i (List.mem_range.1 hi)
theorem allEq_self (n : Nat) (F : Nat → Int) : allEq n F F = true := List.all_eq_true.2 fun i _ => by simp

theorem eqLinear_s (F G : Nat → Int) : Spec Try.prog 42 [.ints .u8 64 F, .ints .u8 64 G] [] (Ret (.bool (allEq 64 F G))) := by
  refine Spec.ret rfl (Spec.of_vc tabOK tabEq Try.func42 rfl (by kernel_rfl) rfl rfl ?_)
  refine LoopVC.of (fun i : Nat => i ≤ 8 ∧ ∀ j, j < i → allEq 8 (partF F 8 j) (partF G 8 j) = true) (fun i => [(2, .ptr 0 [] 0 0), (3, .ptr 1 [] 0 0), (5, .int .i64 i)]) (fun _ => [some (.ints .u8 64 F, 64), some (.ints .u8 64 G, 64)]) (fun i => 8 - i) 0 ⟨by omega, fun j hj => by omega⟩ ?_ ?_ ?_
  · exact (And.intro rfl (And.intro rfl (And.intro rfl (trivial))))
  · exact And.intro (And.intro (rowEq fun _ _ => rfl) rfl) (And.intro (And.intro (rowEq fun _ _ => rfl) rfl) trivial)
  · rintro i ⟨hi, hall⟩
    refine ifVC_split (fun h => ?_) (fun h => ?_)
    · have hlt := of_decide_eq_true h
      refine Exists.intro 7 (And.intro (by kernel_rfl) ?_)
      (repeat (first | refine And.intro (by omega) ?_ | refine And.intro ⟨by omega, by omega⟩ ?_))
      refine Exists.intro (.bool (allEq 8 (partF F 8 i) (partF G 8 i))) (And.intro (And.intro rfl (And.intro rfl ?_)) ?_)
      · refine Spec.mono (eqVector_s _ _) ?_
        rintro r m ⟨rfl, _⟩
        simp only [Int.toNat_natCast]
        rfl
      refine ifVC_split (fun hc => ?_) (fun hc => ?_)
      · exact boolEq (allEq_no (len := 8) (m := 8) (i := i) (by omega) (by simpa using hc)).symm
      · have hc : allEq 8 (partF F 8 i) (partF G 8 i) = true := by simpa using hc
        refine Exists.intro (i + 1) (And.intro ⟨by omega, fun j hj => ?_⟩ (And.intro (by omega) (And.intro ?_ ?_)))
        · by_cases hji : j = i
          · subst hji; exact hc
          · exact hall j (by omega)
        · exact And.intro rfl (And.intro rfl (And.intro (slotI (wrapS (by omega))) trivial))
        · exact And.intro (And.intro (rowEq fun _ _ => rfl) rfl) (And.intro (And.intro (rowEq fun _ _ => rfl) rfl) trivial)
    · have hge := of_decide_eq_false h
      exact boolEq (allEq_yes (len := 8) (m := 8) fun j hj => hall j (by omega)).symm

end Go.Proofs.Ytegcfjfhpodlmaa
