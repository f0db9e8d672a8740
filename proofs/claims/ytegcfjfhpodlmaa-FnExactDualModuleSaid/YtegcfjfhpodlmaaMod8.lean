/- Modules that are made: by an interface's methods. RegularModule, TrivialModule, on both sides, and the laws. -/
import Derived.Test.YtegcfjfhpodlmaaMod1
import Derived.Test.YtegcfjfhpodlmaaIfc
set_option linter.unusedVariables false
set_option linter.unusedSimpArgs false
set_option maxRecDepth 100000
set_option maxHeartbeats 1000000
namespace Go.Proofs.Ytegcfjfhpodlmaa
open M

theorem eqLinearA8_s (F G : Nat → Int) : Spec Try.prog 27 [.ints .u8 512 F, .ints .u8 512 G] [] (Ret (.bool (allEq 512 F G))) := by
  refine Spec.ret rfl (Spec.of_vc tabOK tabEq Try.func27 rfl (by kernel_rfl) rfl rfl ?_)
  refine LoopVC.of (fun i : Nat => i ≤ 8 ∧ ∀ j, j < i → allEq 64 (partF F 64 j) (partF G 64 j) = true) (fun i => [(2, .ptr 0 [] 0 0), (3, .ptr 1 [] 0 0), (5, .int .i64 i)]) (fun _ => [some (.ints .u8 512 F, 512), some (.ints .u8 512 G, 512)]) (fun i => 8 - i) 0 ⟨by omega, fun j hj => by omega⟩ ?_ ?_ ?_
  · exact (And.intro rfl (And.intro rfl (And.intro rfl (trivial))))
  · exact And.intro (And.intro (rowEq fun _ _ => rfl) rfl) (And.intro (And.intro (rowEq fun _ _ => rfl) rfl) trivial)
  · rintro i ⟨hi, hall⟩
    refine ifVC_split (fun h => ?_) (fun h => ?_)
    · have hlt := of_decide_eq_true h
      refine Exists.intro 7 (And.intro (by kernel_rfl) ?_)
      (repeat (first | refine And.intro (by omega) ?_ | refine And.intro ⟨by omega, by omega⟩ ?_))
      refine Exists.intro (.bool (allEq 64 (partF F 64 i) (partF G 64 i))) (And.intro (And.intro rfl (And.intro rfl ?_)) ?_)
      · refine Spec.mono (eqLinear_s _ _) ?_
        rintro r m ⟨rfl, _⟩
        simp only [Int.toNat_natCast]
        rfl
      refine ifVC_split (fun hc => ?_) (fun hc => ?_)
      · exact boolEq (allEq_no (len := 8) (m := 64) (i := i) (by omega) (by simpa using hc)).symm
      · have hc : allEq 64 (partF F 64 i) (partF G 64 i) = true := by simpa using hc
        refine Exists.intro (i + 1) (And.intro ⟨by omega, fun j hj => ?_⟩ (And.intro (by omega) (And.intro ?_ ?_)))
        · by_cases hji : j = i
          · subst hji; exact hc
          · exact hall j (by omega)
        · exact And.intro rfl (And.intro rfl (And.intro (slotI (wrapS (by omega))) trivial))
        · exact And.intro (And.intro (rowEq fun _ _ => rfl) rfl) (And.intro (And.intro (rowEq fun _ _ => rfl) rfl) trivial)
    · have hge := of_decide_eq_false h
      exact boolEq (allEq_yes (len := 8) (m := 64) fun j hj => hall j (by omega)).symm
theorem eqModule_s (d : Int) (A B : Nat → Int) (h : allEq 512 A B = true) : Spec Try.prog 11 [modV d A, modV d B] [] (Ret (.bool true)) := by
  refine Spec.ret rfl (Spec.of_vc tabOK tabEq Try.func11 rfl (by kernel_rfl) rfl rfl ?_)
  refine ifVC_false (by simp) ?_
  (repeat (first | refine And.intro (by omega) ?_ | refine And.intro ⟨by omega, by omega⟩ ?_))
  refine And.intro trivial (Spec.mono (eqLinearA8_s _ _) ?_)
  rintro r m ⟨rfl, rfl⟩
  refine ifVC_false (by simpa using h) ?_
  exact boolEq rfl

/-- a table of n maps -/
def tabOf (n : Nat) (G : Nat → Nat → Int) : Nat → Int := fun q => if q / 64 < n then G (q / 64) (q % 64) else 0

/-- the module that an action makes: dualAction -/
theorem moduleOfDual_s (p : Int) (n : Nat) (U T Z C S : Nat → Int) (d : Int) (e : Int) (A : Nat → Int) (hn : n ≤ 8) (G : Nat → Nat → Int)
    (sd : Spec Try.prog 133 [.pair (hopV p n U T Z C S) (.pair (modV e A) .unit)] [] (Ret (.int .i64 d))) (sa : ∀ i : Nat, i < n → Spec Try.prog 132 [.pair (hopV p n U T Z C S) (.pair (modV e A) .unit), .int .i64 i] [] (Ret (.ints .u8 64 (G i)))) :
    Spec Try.prog 26 [hopV p n U T Z C S, .ifc 58 (.pair (hopV p n U T Z C S) (.pair (modV e A) .unit))] [] (Ret (modV d (tabOf n G))) := by
  refine Spec.ret rfl (Spec.of_vc tabOK tabEq Try.func26 rfl (by kernel_rfl) rfl rfl ?_)
  refine And.intro trivial (Spec.mono sd ?_)
  rintro r m ⟨rfl, rfl⟩
  refine LoopVC.of (fun i : Nat => i ≤ n) (fun i => [(1, .ifc 58 (.pair (hopV p n U T Z C S) (.pair (modV e A) .unit))), (2, .ptr 0 [] 0 0), (4, .ptr 1 [] 0 0), (5, .ptr 2 [] 0 0), (11, .int .i64 n), (12, .int .i64 i)])
    (fun i => [some (hopV p n U T Z C S, 1106), some (modV 0 fun _ => 0, 513), some (modV d fun q => if q / 64 < i then tabOf n G q else 0, 513)]) (fun i => n - i) 0 (by omega) ?_ ?_ ?_
  · exact (And.intro rfl (And.intro rfl (And.intro rfl (And.intro rfl (And.intro rfl (And.intro rfl (trivial)))))))
  · exact And.intro (And.intro (hopR p n U T Z C S) rfl) (And.intro (And.intro (modR 0 _) rfl) (And.intro (And.intro (modE d fun q _ => by simp) rfl) trivial))
  · intro i hi
    refine ifVC_split (fun h => ?_) (fun h => ?_)
    · have hlt := of_decide_eq_true h
      have hidx : (i : Int).toNat = i := by omega
      refine And.intro trivial (Spec.mono (sa i (by omega)) ?_)
      rintro r m ⟨rfl, rfl⟩
      (repeat (first | refine And.intro (by omega) ?_ | refine And.intro ⟨by omega, by omega⟩ ?_))
      refine Exists.intro (i + 1) (And.intro (by omega) (And.intro (by omega) (And.intro (And.intro rfl (And.intro rfl (And.intro rfl (And.intro rfl (And.intro rfl (And.intro (slotI (wrapS (by omega))) trivial)))))) ?_)))
      refine And.intro (And.intro (hopR p n U T Z C S) rfl) (And.intro (And.intro (modR 0 _) rfl) (And.intro (And.intro (modE d fun q hq => ?_) rfl) trivial))
      show updR _ ((i : Int).toNat * 64 + 0) 64 _ q = _
      by_cases h1 : (i : Int).toNat * 64 + 0 ≤ q ∧ q < (i : Int).toNat * 64 + 0 + 64
      · refine (if_pos h1).trans ?_
        rw [if_pos (show q / 64 < i + 1 by omega)]
        unfold tabOf
        rw [if_pos (show q / 64 < n by omega), show q / 64 = i by omega, show q - ((i : Int).toNat * 64 + 0) = q % 64 by omega]
      · refine (if_neg h1).trans ?_
        dsimp only
        by_cases h2 : q / 64 < i
        · rw [if_pos h2, if_pos (show q / 64 < i + 1 by omega)]
        · rw [if_neg h2, if_neg (show ¬ q / 64 < i + 1 by omega)]
    · have hge := of_decide_eq_false h
      obtain rfl : i = n := by omega
      (repeat (first | refine And.intro (by omega) ?_ | refine And.intro ⟨by omega, by omega⟩ ?_))
      refine modE d fun q hq => ?_
      show (if q / 64 < i then tabOf i G q else 0) = _
      by_cases h2 : q / 64 < i
      · rw [if_pos h2]
      · rw [if_neg h2]; unfold tabOf; rw [if_neg h2]

end Go.Proofs.Ytegcfjfhpodlmaa
