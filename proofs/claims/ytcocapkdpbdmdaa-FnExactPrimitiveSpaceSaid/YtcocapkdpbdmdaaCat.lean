/- slices.Grow and slices.Concat for rows of bytes. -/
import Derived.Test.YtcocapkdpbdmdaaRed
set_option linter.unusedVariables false
set_option linter.unusedSimpArgs false
set_option maxRecDepth 100000
set_option maxHeartbeats 1000000
namespace Go.Proofs.Ytcocapkdpbdmdaa
open M

/-- room for n bytes, where there was nothing -/
theorem grow_s (n : Nat) (h0 : 0 < n) (hn : n ≤ 1000000) :
    Spec Try.prog 93 [.nilsl, .int .i64 n] [] (fun r m => ∃ cap g, n ≤ cap ∧ r = .sl 0 0 0 cap ∧ m = [some (.ints .u8 n g, cap * 1)]) := by
  refine Spec.of_vc tabOK tabEq Try.func93 rfl (by kernel_rfl) rfl rfl ?_
  have hw : IntKind.i64.wrap ((n : Int) - IntKind.i64.wrap ((0 : Int) - 0)) = n := by
    rw [wrapI (x := (0 : Int) - 0) (by omega), wrapI (by omega)]; omega
  refine ifVC_true (decide_eq_true (show IntKind.i64.wrap ((n : Int) - IntKind.i64.wrap ((0 : Int) - 0)) > 0 by rw [hw]; omega)) ?_
  refine And.intro rfl ?_
  have hN : (IntKind.i64.wrap ((n : Int) - IntKind.i64.wrap ((0 : Int) - 0))).toNat = n := by rw [hw]; rfl
  refine And.intro ⟨by omega, by omega, by omega, by omega⟩ (fun cap' hcap => ?_)
  refine And.intro ⟨by omega, by omega⟩ ?_
  refine ⟨cap', fun _ => 0, by omega, ?_, ?_⟩
  · rfl
  · show [some (SV.ints .u8 (IntKind.i64.wrap ((n : Int) - IntKind.i64.wrap ((0 : Int) - 0))).toNat fun _ => 0, cap' * 1)] = _
    rw [hN]

/-- two slices, told by their place -/
def two (a b : SV) : Nat → SV
  | 0 => a
  | 1 => b
  | _ => .nilsl
theorem two_upd (a b : SV) : updV (updV (fun _ => .nilsl) 0 a) 1 b = two a b := by
  funext k
  match k with
  | 0 => rfl
  | 1 => rfl
  | k + 2 => simp [updV, two]
theorem two_ren (ρ : Nat → Nat) (a b : SV) : (fun k => (two a b k).ren1 ρ) = two (a.ren1 ρ) (b.ren1 ρ) := by
  funext k
  match k with
  | 0 => rfl
  | 1 => rfl
  | k + 2 => rfl
inductive CatI (w1 w2 o1 o2 : Nat) (g1 g2 : Nat → Int) : Nat × Nat × Nat × Nat × (Nat → Int) → Prop where
  | a (n1 cp : Nat) (G : Nat → Int) : CatI w1 w2 o1 o2 g1 g2 (0, 0, n1, cp, G)
  | b (cp : Nat) (G : Nat → Int) (h : w1 ≤ cp) (hg : ∀ j, j < w1 → G j = g1 (j + o1)) : CatI w1 w2 o1 o2 g1 g2 (1, w1, w1, cp, G)
  | c (cp : Nat) (G : Nat → Int) (h : w1 + w2 ≤ cp) (hg : ∀ j, j < w1 → G j = g1 (j + o1)) (hg2 : ∀ j, j < w2 → G (w1 + j) = g2 (j + o2)) : CatI w1 w2 o1 o2 g1 g2 (2, w1 + w2, w1 + w2, cp, G)
theorem concat_s (w1 w2 c1 c2 o1 o2 N1 N2 d1 d2 cap c0 : Nat) (g1 g2 : Nat → Int) (h0 : 0 < w1 + w2) (hn : w1 + w2 ≤ 1000000) (h1 : o1 + w1 ≤ N1) (h2 : o2 + w2 ≤ N2) :
    Spec Try.prog 81 [.sl 0 0 2 cap] [some (.vec 2 (two (.sl 1 o1 w1 c1) (.sl 2 o2 w2 c2)), c0), some (.ints .u8 N1 g1, d1), some (.ints .u8 N2 g2, d2)]
      (fun r m => ∃ cap' G, w1 + w2 ≤ cap' ∧ (∀ j, j < w1 → G j = g1 (j + o1)) ∧ (∀ j, j < w2 → G (w1 + j) = g2 (j + o2)) ∧ r = .sl 3 0 (w1 + w2) cap' ∧ m = [some (.vec 2 (two (.sl 1 o1 w1 c1) (.sl 2 o2 w2 c2)), c0), some (.ints .u8 N1 g1, d1), some (.ints .u8 N2 g2, d2), some (.ints .u8 (w1 + w2) G, cap' * 1)]) := by
  refine Spec.of_vc tabOK tabEq Try.func81 rfl (by kernel_rfl) rfl rfl ?_
  have e1 : IntKind.i64.wrap ((0 : Int) + (w1 : Int)) = (w1 : Int) := by rw [wrapI (by omega)]; omega
  have e2 : IntKind.i64.wrap ((w1 : Int) + (w2 : Int)) = ((w1 + w2 : Nat) : Int) := by rw [wrapI (by omega)]; omega
  refine LoopVC.of (fun x : Nat => x ≤ 2) (fun x => [(0, .sl 0 0 2 cap), (3, .int .i64 (match x with | 0 => (0 : Int) | 1 => w1 | _ => ((w1 + w2 : Nat) : Int))), (9, .sl 0 0 2 cap), (10, .int .i64 2), (11, .int .i64 x)])
    (fun _ => [some (.vec 2 (two (.sl 1 o1 w1 c1) (.sl 2 o2 w2 c2)), c0), some (.ints .u8 N1 g1, d1), some (.ints .u8 N2 g2, d2)]) (fun x => 2 - x) 0 (by omega) ?_ ?_ ?_
  · exact (And.intro rfl (And.intro rfl (And.intro rfl (And.intro rfl (And.intro rfl (trivial))))))
  · exact And.intro (And.intro (And.intro rfl fun _ _ => rfl) rfl) (And.intro (And.intro (rowEq fun _ _ => rfl) rfl) (And.intro (And.intro (rowEq fun _ _ => rfl) rfl) trivial))
  · intro x hx
    obtain rfl | rfl | rfl : x = 0 ∨ x = 1 ∨ x = 2 := by omega
    · (repeat (first | refine And.intro (by omega) ?_ | refine And.intro ⟨by omega, by omega⟩ ?_))
      refine And.intro rfl ?_
      refine ifVC_false (decide_eq_false (show ¬ (IntKind.i64.wrap ((0 : Int) + (w1 : Int)) < 0) by rw [e1]; omega)) ?_
      refine Exists.intro 1 (And.intro (by omega) (And.intro (by omega) (And.intro (And.intro rfl (And.intro (slotI e1) (And.intro rfl (And.intro rfl (And.intro rfl trivial))))) ?_)))
      exact And.intro (And.intro (And.intro rfl fun _ _ => rfl) rfl) (And.intro (And.intro (rowEq fun _ _ => rfl) rfl) (And.intro (And.intro (rowEq fun _ _ => rfl) rfl) trivial))
    · (repeat (first | refine And.intro (by omega) ?_ | refine And.intro ⟨by omega, by omega⟩ ?_))
      refine And.intro rfl ?_
      refine ifVC_false (decide_eq_false (show ¬ (IntKind.i64.wrap ((w1 : Int) + (w2 : Int)) < 0) by rw [e2]; omega)) ?_
      refine Exists.intro 2 (And.intro (by omega) (And.intro (by omega) (And.intro (And.intro rfl (And.intro (slotI e2) (And.intro rfl (And.intro rfl (And.intro rfl trivial))))) ?_)))
      exact And.intro (And.intro (And.intro rfl fun _ _ => rfl) rfl) (And.intro (And.intro (rowEq fun _ _ => rfl) rfl) (And.intro (And.intro (rowEq fun _ _ => rfl) rfl) trivial))
    · refine And.intro trivial (Spec.mono (grow_s (w1 + w2) h0 hn) ?_)
      rintro r m ⟨cap1, G0, hc1, rfl, rfl⟩
      refine LoopVC.of (CatI w1 w2 o1 o2 g1 g2)
        (fun y => [(6, .sl 3 0 y.2.1 y.2.2.2.1), (25, .sl 0 0 2 cap), (26, .int .i64 2), (27, .int .i64 y.1)])
        (fun y => [some (.vec 2 (two (.sl 1 o1 w1 c1) (.sl 2 o2 w2 c2)), c0), some (.ints .u8 N1 g1, d1), some (.ints .u8 N2 g2, d2), some (.ints .u8 y.2.2.1 y.2.2.2.2, y.2.2.2.1 * 1)]) (fun y => 2 - y.1) (0, 0, w1 + w2, cap1, G0) (.a _ _ _) ?_ ?_ ?_
      · exact (And.intro rfl (And.intro rfl (And.intro rfl (And.intro rfl (trivial)))))
      · exact And.intro (And.intro (And.intro rfl fun _ _ => rfl) rfl) (And.intro (And.intro (rowEq fun _ _ => rfl) rfl) (And.intro (And.intro (rowEq fun _ _ => rfl) rfl) (And.intro (And.intro (rowEq fun _ _ => rfl) rfl) trivial)))
      · intro y hy
        cases hy with
        | a n1 cp G =>
          (repeat (first | refine And.intro (by omega) ?_ | refine And.intro ⟨by omega, by omega⟩ ?_))
          refine And.intro rfl ?_
          (repeat (first | refine And.intro (by omega) ?_ | refine And.intro ⟨by omega, by omega⟩ ?_))
          refine Or.inl (And.intro ⟨show 0 * 1 ≤ n1 by omega, rfl, Nat.zero_le _, show (0 + w1) * 1 ≤ 140737488355328 by omega, show 0 + w1 ≤ 4611686018427387904 by omega⟩ (fun cap' hcap => ?_))
          have hcap : 0 + w1 ≤ cap' := hcap
          refine Exists.intro (1, w1, w1, cap', appF G (0 * 1) o1 g1) (And.intro (.b _ _ (by omega) fun j hj => ?_) (And.intro (show 2 - 1 < 2 - 0 by decide) (And.intro (And.intro ?_ (And.intro rfl (And.intro rfl (And.intro rfl trivial)))) ?_)))
          · unfold appF; rw [if_neg (by omega)]; exact congrArg g1 (by omega)
          · show SV.sl 3 0 (0 + w1) cap' = SV.sl 3 0 w1 cap'
            rw [Nat.zero_add]
          · refine And.intro (And.intro (And.intro rfl fun _ _ => rfl) rfl) (And.intro (And.intro (rowEq fun _ _ => rfl) rfl) (And.intro (And.intro (rowEq fun _ _ => rfl) rfl) (And.intro (And.intro (And.intro (And.intro rfl ?_) fun j hj => rfl) rfl) trivial)))
            show (0 + w1) * 1 = w1; omega
        | b cp G hl hG =>
          (repeat (first | refine And.intro (by omega) ?_ | refine And.intro ⟨by omega, by omega⟩ ?_))
          refine And.intro rfl ?_
          (repeat (first | refine And.intro (by omega) ?_ | refine And.intro ⟨by omega, by omega⟩ ?_))
          refine Or.inl (And.intro ⟨show w1 * 1 ≤ w1 by omega, rfl, hl, show (w1 + w2) * 1 ≤ 140737488355328 by omega, show w1 + w2 ≤ 4611686018427387904 by omega⟩ (fun cap' hcap => ?_))
          have hcap : w1 + w2 ≤ cap' := hcap
          refine Exists.intro (2, w1 + w2, w1 + w2, cap', appF G (w1 * 1) o2 g2) (And.intro (.c _ _ hcap (fun j hj => ?_) fun j hj => ?_) (And.intro (show 2 - 2 < 2 - 1 by decide) (And.intro (And.intro rfl (And.intro rfl (And.intro rfl (And.intro rfl trivial)))) ?_)))
          · unfold appF; rw [if_pos (by omega)]; exact hG j hj
          · unfold appF; rw [if_neg (by omega)]; exact congrArg g2 (by omega)
          · refine And.intro (And.intro (And.intro rfl fun _ _ => rfl) rfl) (And.intro (And.intro (rowEq fun _ _ => rfl) rfl) (And.intro (And.intro (rowEq fun _ _ => rfl) rfl) (And.intro (And.intro (And.intro (And.intro rfl ?_) fun j hj => rfl) rfl) trivial)))
            show (w1 + w2) * 1 = w1 + w2; omega
        | c cp G hl h3 h4 => exact ⟨cp, G, hl, h3, h4, rfl, rfl⟩
end Go.Proofs.Ytcocapkdpbdmdaa
