/- Lists of vectors compared, marked and held. -/
import Derived.Test.YtcocapkdpbdmdaaMul
set_option linter.unusedVariables false
set_option linter.unusedSimpArgs false
set_option maxRecDepth 100000
namespace Go.Proofs.Ytcocapkdpbdmdaa
open M

theorem eqVecsNil_s : Spec Try.prog 11 [.nilsl, .nilsl] [] (Ret (.bool true)) := by
  refine Spec.ret rfl (Spec.of_vc tabOK tabEq Try.func11 rfl (by kernel_rfl) rfl rfl ?_)
  refine LoopVC.of (fun i : Nat => i = 0) (fun i => [(0, .nilsl), (1, .nilsl), (5, .int .i64 0)]) (fun _ => []) (fun i => 0) 0 rfl ?_ ?_ ?_
  · exact (And.intro rfl (And.intro rfl (And.intro rfl (trivial))))
  · exact trivial
  · rintro i hi
    exact boolEq rfl
theorem eqVecsEmpty_s (c d : Nat) (g : Nat → Int) : Spec Try.prog 11 [.nilsl, .sl 0 0 0 c] [some (.ints .u8 (0 * 8) g, d)] (fun r m => r = .bool true ∧ m = [some (.ints .u8 (0 * 8) g, d)]) := by
  refine Spec.cut (Nat.le_refl _) (by simp [SV.ids]) (fun id u c hb => by cases id <;> cases hb; simp [SV.ids]) (Spec.of_vc tabOK tabEq Try.func11 rfl (by kernel_rfl) rfl rfl ?_)
  refine LoopVC.of (fun i : Nat => i = 0) (fun i => [(0, .nilsl), (1, .sl 0 0 0 c), (5, .int .i64 0)]) (fun _ => [some (.ints .u8 (0 * 8) g, d)]) (fun i => 0) 0 rfl ?_ ?_ ?_
  · exact (And.intro rfl (And.intro rfl (And.intro rfl (trivial))))
  · exact And.intro (And.intro (rowEq fun _ _ => rfl) rfl) trivial
  · rintro i hi
    exact And.intro (boolEq rfl) (And.intro (And.intro (rowEq fun _ _ => rfl) rfl) trivial)

theorem eqVecs_s (n c d : Nat) (g h : Nat → Int) (hn : n ≤ 100000) (hgh : ∀ j, j < n * 8 → g j = h j) :
    Spec Try.prog 11 [.sl 0 0 n c, .sl 1 0 n d] [some (.ints .u8 (n * 8) g, c * 8), some (.ints .u8 (n * 8) h, d * 8)] (fun r m => r = .bool true ∧ m = [some (.ints .u8 (n * 8) g, c * 8), some (.ints .u8 (n * 8) h, d * 8)]) := by
  refine Spec.cut (Nat.le_refl _) (by simp [SV.ids]) (fun id u c hb => by rcases id with _ | _ | id <;> cases hb <;> simp [SV.ids]) (Spec.of_vc tabOK tabEq Try.func11 rfl (by kernel_rfl) rfl rfl ?_)
  refine ifVC_false (by simp) ?_
  refine LoopVC.of (fun i : Nat => i ≤ n) (fun i => [(0, .sl 0 0 n c), (1, .sl 1 0 n d), (5, .int .i64 i)]) (fun _ => [some (.ints .u8 (n * 8) g, c * 8), some (.ints .u8 (n * 8) h, d * 8)]) (fun i => n - i) 0 (by omega) ?_ ?_ ?_
  · exact (And.intro rfl (And.intro rfl (And.intro rfl (trivial))))
  · exact And.intro (And.intro (rowEq fun _ _ => rfl) rfl) (And.intro (And.intro (rowEq fun _ _ => rfl) rfl) trivial)
  · intro i hi
    refine ifVC_split (fun hh => ?_) (fun hh => ?_)
    · have hlt := of_decide_eq_true hh
      refine Exists.intro 8 (And.intro (by kernel_rfl) ?_)
      (repeat (first | refine And.intro (by omega) ?_ | refine And.intro ⟨by omega, by omega⟩ ?_))
      refine And.intro trivial (Spec.mono (eqVector_s _ _) ?_)
      rintro r m ⟨rfl, rfl⟩
      refine ifVC_false ?_ ?_
      · have : allEq 8 (fun j => g (j + ((i : Int).toNat * 8 + 0))) (fun j => h (j + ((i : Int).toNat * 8 + 0))) = true := List.all_eq_true.2 fun j hj => by
          have hj := List.mem_range.1 hj
          show (g (j + ((i : Int).toNat * 8 + 0)) == h (j + ((i : Int).toNat * 8 + 0))) = true
          rw [hgh (j + ((i : Int).toNat * 8 + 0)) (by omega)]
          simp
        show (!allEq 8 (fun j => g (j + ((i : Int).toNat * 8 + 0))) (fun j => h (j + ((i : Int).toNat * 8 + 0)))) = false
        rw [this]; rfl
      refine Exists.intro (i + 1) (And.intro (by omega) (And.intro (by omega) (And.intro (And.intro rfl (And.intro rfl (And.intro (slotI (wrapS (by omega))) trivial))) ?_)))
      exact And.intro (And.intro (rowEq fun _ _ => rfl) rfl) (And.intro (And.intro (rowEq fun _ _ => rfl) rfl) trivial)
    · exact And.intro (boolEq rfl) (And.intro (And.intro (rowEq fun _ _ => rfl) rfl) (And.intro (And.intro (rowEq fun _ _ => rfl) rfl) trivial))

theorem markVecsNil_s (k : Int) : Spec Try.prog 12 [.nilsl, .int .i64 k] [] (Ret (.int .i64 k)) := by
  refine Spec.ret rfl (Spec.of_vc tabOK tabEq Try.func12 rfl (by kernel_rfl) rfl rfl ?_)
  refine LoopVC.of (fun i : Nat => i = 0) (fun i => [(0, .nilsl), (1, .int .i64 k), (5, .int .i64 0)]) (fun _ => []) (fun i => 0) 0 rfl ?_ ?_ ?_
  · exact (And.intro rfl (And.intro rfl (And.intro rfl (trivial))))
  · exact trivial
  · rintro i hi
    exact slotI rfl
theorem heldVecsNil_s (k : Int) : Spec Try.prog 13 [.nilsl, .int .i64 k] [] (Ret (.int .i64 k)) := by
  refine Spec.ret rfl (Spec.of_vc tabOK tabEq Try.func13 rfl (by kernel_rfl) rfl rfl ?_)
  refine LoopVC.of (fun i : Nat => i = 0) (fun i => [(0, .nilsl), (1, .int .i64 k), (5, .int .i64 0)]) (fun _ => []) (fun i => 0) 0 rfl ?_ ?_ ?_
  · exact (And.intro rfl (And.intro rfl (And.intro rfl (trivial))))
  · exact trivial
  · rintro i hi
    exact slotI rfl

def markF (k : Int) : Nat → Int := fun q => IntKind.u8.wrap (k + q)
theorem markVecs_s (n c : Nat) (k : Int) (g : Nat → Int) (hn : n ≤ 100000) (hk : 0 ≤ k ∧ k ≤ 1000000) :
    Spec Try.prog 12 [.sl 0 0 n c, .int .i64 k] [some (.ints .u8 (n * 8) g, c * 8)] (fun r m => r = .int .i64 (k + ((n * 8 : Nat) : Int)) ∧ m = [some (.ints .u8 (n * 8) (markF k), c * 8)]) := by
  refine Spec.cut (Nat.le_refl _) (by simp [SV.ids]) (fun id u c hb => by cases id <;> cases hb; simp [SV.ids]) (Spec.of_vc tabOK tabEq Try.func12 rfl (by kernel_rfl) rfl rfl ?_)
  refine LoopVC.of (fun i : Nat => i ≤ n) (fun i => [(0, .sl 0 0 n c), (1, .int .i64 (k + ((i * 8 : Nat) : Int))), (5, .int .i64 i)]) (fun i => [some (.ints .u8 (n * 8) fun q => if q < i * 8 then markF k q else g q, c * 8)]) (fun i => n - i) 0 (by omega) ?_ ?_ ?_
  · exact And.intro rfl (And.intro (slotI (by omega)) (And.intro rfl trivial))
  · exact And.intro (And.intro (rowEq fun _ _ => by simp) rfl) trivial
  · intro i hi
    refine ifVC_split (fun hh => ?_) (fun hh => ?_)
    · have hlt := of_decide_eq_true hh
      refine LoopVC.of (fun j : Nat => j ≤ 8) (fun j => [(0, .sl 0 0 n c), (1, .int .i64 (k + ((i * 8 + j : Nat) : Int))), (5, .int .i64 i), (6, .int .i64 j)]) (fun j => [some (.ints .u8 (n * 8) fun q => if q < i * 8 + j then markF k q else g q, c * 8)]) (fun j => 8 - j) 0 (by omega) ?_ ?_ ?_
      · exact And.intro rfl (And.intro (slotI (by omega)) (And.intro rfl (And.intro rfl trivial)))
      · exact And.intro (And.intro (rowEq fun _ _ => by simp) rfl) trivial
      · intro j hj
        refine ifVC_split (fun hh2 => ?_) (fun hh2 => ?_)
        · have hlt2 := of_decide_eq_true hh2
          (repeat (first | refine And.intro (by omega) ?_ | refine And.intro ⟨by omega, by omega⟩ ?_))
          refine Exists.intro (j + 1) (And.intro (by omega) (And.intro (by omega) (And.intro (And.intro rfl (And.intro (slotI (by rw [wrapI (by omega)]; omega)) (And.intro rfl (And.intro (slotI (wrapS (by omega))) trivial)))) ?_)))
          refine And.intro (And.intro (rowEq fun q hq => ?_) rfl) trivial
          show upd1 _ _ _ q = if q < i * 8 + (j + 1) then markF k q else g q
          unfold upd1
          dsimp only
          by_cases h1 : q = i * 8 + j
          · subst h1
            rw [if_pos (by omega), if_pos (by omega)]
            rfl
          · rw [if_neg (by omega)]
            by_cases h2 : q < i * 8 + j
            · rw [if_pos h2, if_pos (by omega)]
            · rw [if_neg h2, if_neg (by omega)]
        · have hge2 := of_decide_eq_false hh2
          obtain rfl : j = 8 := by omega
          refine Exists.intro (i + 1) (And.intro (by omega) (And.intro (by omega) (And.intro (And.intro rfl (And.intro (slotI (by omega)) (And.intro (slotI (wrapS (by omega))) trivial))) ?_)))
          refine And.intro (And.intro (rowEq fun q hq => ?_) rfl) trivial
          show (if q < i * 8 + 8 then markF k q else g q) = if q < (i + 1) * 8 then markF k q else g q
          rw [show (i + 1) * 8 = i * 8 + 8 by omega]
    · have hge := of_decide_eq_false hh
      obtain rfl : i = n := by omega
      exact And.intro (slotI rfl) (And.intro (And.intro (rowEq fun q hq => by simp [hq]) rfl) trivial)

theorem heldVecs_s (n c : Nat) (k : Int) (hn : n ≤ 100000) (hk : 0 ≤ k ∧ k ≤ 1000000) :
    Spec Try.prog 13 [.sl 0 0 n c, .int .i64 k] [some (.ints .u8 (n * 8) (markF k), c * 8)] (fun r m => r = .int .i64 (k + ((n * 8 : Nat) : Int)) ∧ m = [some (.ints .u8 (n * 8) (markF k), c * 8)]) := by
  refine Spec.cut (Nat.le_refl _) (by simp [SV.ids]) (fun id u c hb => by cases id <;> cases hb; simp [SV.ids]) (Spec.of_vc tabOK tabEq Try.func13 rfl (by kernel_rfl) rfl rfl ?_)
  refine LoopVC.of (fun i : Nat => i ≤ n) (fun i => [(0, .sl 0 0 n c), (1, .int .i64 (k + ((i * 8 : Nat) : Int))), (5, .int .i64 i)]) (fun i => [some (.ints .u8 (n * 8) (markF k), c * 8)]) (fun i => n - i) 0 (by omega) ?_ ?_ ?_
  · exact And.intro rfl (And.intro (slotI (by omega)) (And.intro rfl trivial))
  · exact And.intro (And.intro (rowEq fun _ _ => rfl) rfl) trivial
  · intro i hi
    refine ifVC_split (fun hh => ?_) (fun hh => ?_)
    · have hlt := of_decide_eq_true hh
      refine LoopVC.of (fun j : Nat => j ≤ 8) (fun j => [(0, .sl 0 0 n c), (1, .int .i64 (k + ((i * 8 + j : Nat) : Int))), (5, .int .i64 i), (6, .int .i64 j)]) (fun j => [some (.ints .u8 (n * 8) (markF k), c * 8)]) (fun j => 8 - j) 0 (by omega) ?_ ?_ ?_
      · exact And.intro rfl (And.intro (slotI (by omega)) (And.intro rfl (And.intro rfl trivial)))
      · exact And.intro (And.intro (rowEq fun _ _ => rfl) rfl) trivial
      · intro j hj
        refine ifVC_split (fun hh2 => ?_) (fun hh2 => ?_)
        · have hlt2 := of_decide_eq_true hh2
          (repeat (first | refine And.intro (by omega) ?_ | refine And.intro ⟨by omega, by omega⟩ ?_))
          refine ifVC_false ?_ ?_
          · show (!(markF k ((j : Int).toNat * 1 + ((i : Int).toNat * 8 + 0)) == IntKind.u8.wrap (k + ((i * 8 + j : Nat) : Int)))) = false
            rw [show (j : Int).toNat * 1 + ((i : Int).toNat * 8 + 0) = i * 8 + j by omega]
            simp [markF]
          refine Exists.intro (j + 1) (And.intro (by omega) (And.intro (by omega) (And.intro (And.intro rfl (And.intro (slotI (by rw [wrapI (by omega)]; omega)) (And.intro rfl (And.intro (slotI (wrapS (by omega))) trivial)))) ?_)))
          exact And.intro (And.intro (rowEq fun q hq => rfl) rfl) trivial
        · have hge2 := of_decide_eq_false hh2
          obtain rfl : j = 8 := by omega
          refine Exists.intro (i + 1) (And.intro (by omega) (And.intro (by omega) (And.intro (And.intro rfl (And.intro (slotI (by omega)) (And.intro (slotI (wrapS (by omega))) trivial))) ?_)))
          exact And.intro (And.intro (rowEq fun q hq => rfl) rfl) trivial
    · have hge := of_decide_eq_false hh
      obtain rfl : i = n := by omega
      exact And.intro (slotI rfl) (And.intro (And.intro (rowEq fun q hq => rfl) rfl) trivial)
end Go.Proofs.Ytcocapkdpbdmdaa
