/- Lists of numbers compared, marked and held. -/
import Derived.Test.YtnbfpmcpakpboabVec
set_option linter.unusedVariables false
set_option maxRecDepth 100000
namespace Go.Proofs.Ytnbfpmcpakpboab
open M

theorem eqNil_s : Spec Try.prog 45 [.nilsl, .nilsl] [] (Ret (.bool true)) := by
  refine Spec.ret rfl (Spec.of_vc tabOK tabEq Try.func45 rfl (by kernel_rfl) rfl rfl ?_)
  refine LoopVC.of (fun i : Nat => i = 0) (fun i => [(0, .nilsl), (1, .nilsl), (5, .int .i64 0)]) (fun _ => []) (fun i => 0) 0 rfl ?_ ?_ ?_
  · exact (And.intro rfl (And.intro rfl (And.intro rfl (trivial))))
  · exact trivial
  · rintro i hi
    exact boolEq rfl

theorem eqInts_s (n : Nat) (g h : Nat → Int) (hn : n ≤ 1000) :
    Spec Try.prog 45 [.sl 0 0 n n, .sl 1 0 n n] [some (.ints .i64 n g, n), some (.ints .i64 n h, n)] (fun r m => r = .bool (allEq n g h) ∧ m = [some (.ints .i64 n g, n), some (.ints .i64 n h, n)]) := by
  refine Spec.cut (Nat.le_refl _) (by simp [SV.ids]) (fun id u c hb => by rcases id with _ | _ | id <;> cases hb <;> simp [SV.ids]) (Spec.of_vc tabOK tabEq Try.func45 rfl (by kernel_rfl) rfl rfl ?_)
  refine ifVC_false (by simp) ?_
  refine LoopVC.of (fun i : Nat => i ≤ n ∧ ∀ j, j < i → g j = h j) (fun i => [(0, .sl 0 0 n n), (1, .sl 1 0 n n), (5, .int .i64 i)]) (fun _ => [some (.ints .i64 n g, n), some (.ints .i64 n h, n)]) (fun i => n - i) 0 ⟨by omega, fun j hj => by omega⟩ ?_ ?_ ?_
  · exact (And.intro rfl (And.intro rfl (And.intro rfl (trivial))))
  · exact And.intro (And.intro (rowEq fun _ _ => rfl) rfl) (And.intro (And.intro (rowEq fun _ _ => rfl) rfl) trivial)
  · rintro i ⟨hi, hall⟩
    refine ifVC_split (fun hh => ?_) (fun hh => ?_)
    · have hlt := of_decide_eq_true hh
      refine Exists.intro 8 (And.intro (by kernel_rfl) ?_)
      (repeat (first | refine And.intro (by omega) ?_ | refine And.intro ⟨by omega, by omega⟩ ?_))
      have hidx : (i : Int).toNat * 1 + 0 = i := by omega
      refine ifVC_split (fun hc => ?_) (fun hc => ?_)
      · have hc : g i ≠ h i := by
          have hc : g ((i : Int).toNat * 1 + 0) ≠ h ((i : Int).toNat * 1 + 0) := by simpa using hc
          rw [hidx] at hc; exact hc
        refine And.intro (boolEq ?_) (And.intro (And.intro (rowEq fun _ _ => rfl) rfl) (And.intro (And.intro (rowEq fun _ _ => rfl) rfl) trivial))
        cases hb : allEq n g h with
        | false => rfl
        | true => exact absurd (by have := List.all_eq_true.1 hb i (List.mem_range.2 (by omega)); simpa using this) hc
      · have hc : g i = h i := by
          have hc : g ((i : Int).toNat * 1 + 0) = h ((i : Int).toNat * 1 + 0) := by simpa using hc
          rw [hidx] at hc; exact hc
        refine Exists.intro (i + 1) (And.intro ⟨by omega, fun j hj => ?_⟩ (And.intro (by omega) (And.intro ?_ ?_)))
        · by_cases hji : j = i
          · subst hji; exact hc
          · exact hall j (by omega)
        · exact And.intro rfl (And.intro rfl (And.intro (slotI (wrapS (by omega))) trivial))
        · exact And.intro (And.intro (rowEq fun _ _ => rfl) rfl) (And.intro (And.intro (rowEq fun _ _ => rfl) rfl) trivial)
    · have hge := of_decide_eq_false hh
      obtain rfl : i = n := by omega
      refine And.intro (boolEq ?_) (And.intro (And.intro (rowEq fun _ _ => rfl) rfl) (And.intro (And.intro (rowEq fun _ _ => rfl) rfl) trivial))
      unfold allEq
      exact (List.all_eq_true.2 fun j hj => by simp [hall j (List.mem_range.1 hj)]).symm

theorem markNil_s (k : Int) : Spec Try.prog 46 [.nilsl, .int .i64 k] [] (Ret (.int .i64 k)) := by
  refine Spec.ret rfl (Spec.of_vc tabOK tabEq Try.func46 rfl (by kernel_rfl) rfl rfl ?_)
  refine LoopVC.of (fun i : Nat => i = 0) (fun i => [(0, .nilsl), (1, .int .i64 k), (5, .int .i64 0)]) (fun _ => []) (fun i => 0) 0 rfl ?_ ?_ ?_
  · exact (And.intro rfl (And.intro rfl (And.intro rfl (trivial))))
  · exact trivial
  · rintro i hi
    exact slotI rfl
theorem heldNil_s (k : Int) : Spec Try.prog 47 [.nilsl, .int .i64 k] [] (Ret (.int .i64 k)) := by
  refine Spec.ret rfl (Spec.of_vc tabOK tabEq Try.func47 rfl (by kernel_rfl) rfl rfl ?_)
  refine LoopVC.of (fun i : Nat => i = 0) (fun i => [(0, .nilsl), (1, .int .i64 k), (5, .int .i64 0)]) (fun _ => []) (fun i => 0) 0 rfl ?_ ?_ ?_
  · exact (And.intro rfl (And.intro rfl (And.intro rfl (trivial))))
  · exact trivial
  · rintro i hi
    exact slotI rfl

theorem markInts_s (n : Nat) (k : Int) (g : Nat → Int) (hn : n ≤ 1000) (hk : 0 ≤ k ∧ k ≤ 1000000) :
    Spec Try.prog 46 [.sl 0 0 n n, .int .i64 k] [some (.ints .i64 n g, n)] (fun r m => r = .int .i64 (k + n) ∧ m = [some (.ints .i64 n fun j => k + j, n)]) := by
  refine Spec.cut (Nat.le_refl _) (by simp [SV.ids]) (fun id u c hb => by cases id <;> cases hb; simp [SV.ids]) (Spec.of_vc tabOK tabEq Try.func46 rfl (by kernel_rfl) rfl rfl ?_)
  refine LoopVC.of (fun i : Nat => i ≤ n) (fun i => [(0, .sl 0 0 n n), (1, .int .i64 (k + i)), (5, .int .i64 i)]) (fun i => [some (.ints .i64 n fun j => if j < i then k + j else g j, n)]) (fun i => n - i) 0 (by omega) ?_ ?_ ?_
  · exact And.intro rfl (And.intro (slotI (by omega)) (And.intro rfl trivial))
  · exact And.intro (And.intro (rowEq fun _ _ => by simp) rfl) trivial
  · intro i hi
    refine ifVC_split (fun hh => ?_) (fun hh => ?_)
    · have hlt := of_decide_eq_true hh
      (repeat (first | refine And.intro (by omega) ?_ | refine And.intro ⟨by omega, by omega⟩ ?_))
      refine Exists.intro (i + 1) (And.intro (by omega) (And.intro (by omega) (And.intro (And.intro rfl (And.intro (slotI (by rw [wrapI (by omega)]; omega)) (And.intro (slotI (wrapS (by omega))) trivial))) ?_)))
      refine And.intro (And.intro (rowEq fun j hj => ?_) rfl) trivial
      show upd1 _ _ _ j = if j < i + 1 then k + j else g j
      unfold upd1
      rw [show ((i : Int).toNat * 1 + 0) = i by omega]
      dsimp only
      by_cases h1 : j = i
      · subst h1
        rw [if_pos rfl, if_pos (show j < j + 1 by omega)]
      · rw [if_neg h1]
        by_cases h2 : j < i
        · rw [if_pos h2, if_pos (by omega)]
        · rw [if_neg h2, if_neg (by omega)]
    · have hge := of_decide_eq_false hh
      obtain rfl : i = n := by omega
      exact And.intro (slotI rfl) (And.intro (And.intro (rowEq fun j hj => by simp [hj]) rfl) trivial)

theorem heldInts_s (n : Nat) (k : Int) (hn : n ≤ 1000) (hk : 0 ≤ k ∧ k ≤ 1000000) :
    Spec Try.prog 47 [.sl 0 0 n n, .int .i64 k] [some (.ints .i64 n fun j => k + j, n)] (fun r m => r = .int .i64 (k + n) ∧ m = [some (.ints .i64 n fun j => k + j, n)]) := by
  refine Spec.cut (Nat.le_refl _) (by simp [SV.ids]) (fun id u c hb => by cases id <;> cases hb; simp [SV.ids]) (Spec.of_vc tabOK tabEq Try.func47 rfl (by kernel_rfl) rfl rfl ?_)
  refine LoopVC.of (fun i : Nat => i ≤ n) (fun i => [(0, .sl 0 0 n n), (1, .int .i64 (k + i)), (5, .int .i64 i)]) (fun i => [some (.ints .i64 n fun j => k + j, n)]) (fun i => n - i) 0 (by omega) ?_ ?_ ?_
  · exact And.intro rfl (And.intro (slotI (by omega)) (And.intro rfl trivial))
  · exact And.intro (And.intro (rowEq fun _ _ => rfl) rfl) trivial
  · intro i hi
    refine ifVC_split (fun hh => ?_) (fun hh => ?_)
    · have hlt := of_decide_eq_true hh
      (repeat (first | refine And.intro (by omega) ?_ | refine And.intro ⟨by omega, by omega⟩ ?_))
      refine ifVC_false (by rw [show ((i : Int).toNat * 1 + 0) = i by omega]; simp) ?_
      refine Exists.intro (i + 1) (And.intro (by omega) (And.intro (by omega) (And.intro (And.intro rfl (And.intro (slotI (by rw [wrapI (by omega)]; omega)) (And.intro (slotI (wrapS (by omega))) trivial))) ?_)))
      exact And.intro (And.intro (rowEq fun j hj => rfl) rfl) trivial
    · have hge := of_decide_eq_false hh
      obtain rfl : i = n := by omega
      exact And.intro (slotI rfl) (And.intro (And.intro (rowEq fun j hj => rfl) rfl) trivial)
end Go.Proofs.Ytnbfpmcpakpboab
