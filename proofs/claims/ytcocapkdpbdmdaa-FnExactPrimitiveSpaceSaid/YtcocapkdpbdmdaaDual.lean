/- Dual tables: the program's loops and the model's. -/
import Derived.Test.YtcocapkdpbdmdaaCoMath
set_option linter.unusedVariables false
set_option linter.unusedSimpArgs false
set_option maxRecDepth 100000
namespace Go.Proofs.Ytcocapkdpbdmdaa
open M

theorem dualAlgebra_s (p n : Int) (U C : Nat → Int) : Spec Try.prog 75 [algV p n U C] [] (Ret (algV p n U (dualF C))) := by
  refine Spec.ret rfl (Spec.of_vc tabOK tabEq Try.func75 rfl (by kernel_rfl) rfl rfl ?_)
  (repeat (first | refine And.intro (by omega) ?_ | refine And.intro ⟨by omega, by omega⟩ ?_))
  have hz : SV.eqv (algV 0 0 (fun _ => 0) fun _ => 0) (algV 0 0 (fun _ => 0) fun _ => 0) := algR _ _ _ _
  refine LoopVC.of (fun i : Nat => i ≤ 8) (fun i => [(2, .ptr 1 [] 0 0), (3, .ptr 2 [] 0 0), (18, .ints .u8 512 C), (19, .int .i64 i)])
    (fun i => [none, some (algV 0 0 (fun _ => 0) (fun _ => 0), 522), some (algV p n U (fun q => if q % 8 < i then dualF C q else 0), 522)]) (fun i => 8 - i) 0 (by omega) ?_ ?_ ?_
  · exact And.intro rfl (And.intro rfl (And.intro (rowEq fun _ _ => rfl) (And.intro rfl trivial)))
  · exact And.intro (And.intro hz rfl) (And.intro (And.intro (And.intro rfl (And.intro rfl (And.intro (rowEq fun _ _ => rfl) (And.intro (rowEq fun q _ => by simp) rfl)))) rfl) trivial)
  · intro i hi
    refine ifVC_split (fun h => ?_) (fun h => ?_)
    · have hlti := of_decide_eq_true h
      have hidx : (i : Int).toNat = i := by omega
      (repeat (first | refine And.intro (by omega) ?_ | refine And.intro ⟨by omega, by omega⟩ ?_))
      refine LoopVC.of (fun j : Nat => j ≤ 8) (fun j => [(2, .ptr 1 [] 0 0), (3, .ptr 2 [] 0 0), (4, .int .i64 i), (18, .ints .u8 512 C), (19, .int .i64 i), (23, .ints .u8 64 fun q => C (q + i * 64)), (24, .int .i64 j)])
        (fun j => [none, some (algV 0 0 (fun _ => 0) (fun _ => 0), 522), some (algV p n U (fun q => if q % 8 < i ∨ (q % 8 = i ∧ q / 64 < j) then dualF C q else 0), 522), none]) (fun j => 8 - j) 0 (by omega) ?_ ?_ ?_
      · exact And.intro rfl (And.intro rfl (And.intro rfl (And.intro (rowEq fun _ _ => rfl) (And.intro rfl (And.intro (rowEq fun q hq => by show updR _ 0 64 _ (q + 0) = _; simp [updR, hq]) (And.intro rfl trivial))))))
      · exact And.intro (And.intro hz rfl) (And.intro (And.intro (And.intro rfl (And.intro rfl (And.intro (rowEq fun _ _ => rfl) (And.intro (rowEq fun q _ => by simp) rfl)))) rfl) trivial)
      · intro j hj
        refine ifVC_split (fun h => ?_) (fun h => ?_)
        · have hltj := of_decide_eq_true h
          have hjdx : (j : Int).toNat = j := by omega
          (repeat (first | refine And.intro (by omega) ?_ | refine And.intro ⟨by omega, by omega⟩ ?_))
          refine LoopVC.of (fun k : Nat => k ≤ 8) (fun k => [(2, .ptr 1 [] 0 0), (3, .ptr 2 [] 0 0), (4, .int .i64 i), (6, .int .i64 j), (18, .ints .u8 512 C), (19, .int .i64 i), (23, .ints .u8 64 fun q => C (q + i * 64)), (24, .int .i64 j), (28, .ints .u8 8 fun q => C (q + j * 8 + i * 64)), (29, .int .i64 k)])
            (fun k => [none, some (algV 0 0 (fun _ => 0) (fun _ => 0), 522), some (algV p n U (fun q => if q % 8 < i ∨ (q % 8 = i ∧ (q / 64 < j ∨ (q / 64 = j ∧ q / 8 % 8 < k))) then dualF C q else 0), 522), none, none]) (fun k => 8 - k) 0 (by omega) ?_ ?_ ?_
          · exact And.intro rfl (And.intro rfl (And.intro rfl (And.intro rfl (And.intro (rowEq fun _ _ => rfl) (And.intro rfl (And.intro (rowEq fun _ _ => rfl) (And.intro rfl (And.intro (rowEq fun q hq => by show updR _ 0 8 _ (q + 0) = _; simp [updR, hq]) (And.intro rfl trivial)))))))))
          · exact And.intro (And.intro hz rfl) (And.intro (And.intro (And.intro rfl (And.intro rfl (And.intro (rowEq fun _ _ => rfl) (And.intro (rowEq fun q _ => by simp) rfl)))) rfl) trivial)
          · intro k hk
            refine ifVC_split (fun h => ?_) (fun h => ?_)
            · have hltk := of_decide_eq_true h
              have hkdx : (k : Int).toNat = k := by omega
              (repeat (first | refine And.intro (by omega) ?_ | refine And.intro ⟨by omega, by omega⟩ ?_))
              refine Exists.intro (k + 1) (And.intro (by omega) (And.intro (by omega) (And.intro (And.intro rfl (And.intro rfl (And.intro rfl (And.intro rfl (And.intro (rowEq fun _ _ => rfl) (And.intro rfl (And.intro (rowEq fun _ _ => rfl) (And.intro rfl (And.intro (rowEq fun _ _ => rfl) (And.intro (slotI (wrapS (by omega))) trivial)))))))))) ?_)))
              refine And.intro (And.intro hz rfl) (And.intro (And.intro (And.intro rfl (And.intro rfl (And.intro (rowEq fun _ _ => rfl) (And.intro (rowEq fun q hq => ?_) rfl)))) rfl) trivial)
              show upd1 _ ((i : Int).toNat * 1 + ((k : Int).toNat * 8 + ((j : Int).toNat * 64 + 0))) _ q = _
              unfold upd1
              rw [hidx, hjdx, hkdx]
              dsimp only
              by_cases h1 : q = i * 1 + (k * 8 + (j * 64 + 0))
              · rw [if_pos h1, if_pos (by omega)]
                unfold dualF
                show C _ = C _
                congr 1
                omega
              · rw [if_neg h1]
                by_cases h2 : q % 8 < i ∨ (q % 8 = i ∧ (q / 64 < j ∨ (q / 64 = j ∧ q / 8 % 8 < k)))
                · rw [if_pos h2, if_pos (by omega)]
                · rw [if_neg h2, if_neg (by omega)]
            · have hge := of_decide_eq_false h
              obtain rfl : k = 8 := by omega
              refine Exists.intro (j + 1) (And.intro (by omega) (And.intro (by omega) (And.intro (And.intro rfl (And.intro rfl (And.intro rfl (And.intro (rowEq fun _ _ => rfl) (And.intro rfl (And.intro (rowEq fun _ _ => rfl) (And.intro (slotI (wrapS (by omega))) trivial))))))) ?_)))
              refine And.intro (And.intro hz rfl) (And.intro (And.intro (And.intro rfl (And.intro rfl (And.intro (rowEq fun _ _ => rfl) (And.intro (rowEq fun q hq => ?_) rfl)))) rfl) trivial)
              by_cases h2 : q % 8 < i ∨ (q % 8 = i ∧ (q / 64 < j ∨ (q / 64 = j ∧ q / 8 % 8 < 8)))
              · rw [if_pos h2, if_pos (by omega)]
              · rw [if_neg h2, if_neg (by omega)]
        · have hge := of_decide_eq_false h
          obtain rfl : j = 8 := by omega
          refine Exists.intro (i + 1) (And.intro (by omega) (And.intro (by omega) (And.intro (And.intro rfl (And.intro rfl (And.intro (rowEq fun _ _ => rfl) (And.intro (slotI (wrapS (by omega))) trivial)))) ?_)))
          refine And.intro (And.intro hz rfl) (And.intro (And.intro (And.intro rfl (And.intro rfl (And.intro (rowEq fun _ _ => rfl) (And.intro (rowEq fun q hq => ?_) rfl)))) rfl) trivial)
          by_cases h2 : q % 8 < i ∨ (q % 8 = i ∧ q / 64 < 8)
          · rw [if_pos h2, if_pos (by omega)]
          · rw [if_neg h2, if_neg (by omega)]
    · have hge := of_decide_eq_false h
      obtain rfl : i = 8 := by omega
      (repeat (first | refine And.intro (by omega) ?_ | refine And.intro ⟨by omega, by omega⟩ ?_))
      refine And.intro rfl (And.intro rfl (And.intro (rowEq fun _ _ => rfl) (And.intro (rowEq fun q hq => ?_) rfl)))
      rw [if_pos (by omega)]

/-- the table of the dual coalgebra -/
def codF (T : Nat → Int) : Nat → Int := fun q => T ((q / 8 % 8) * 64 + (q % 8) * 8 + q / 64)

end Go.Proofs.Ytcocapkdpbdmdaa
