/- Sums of maps. -/
import Derived.Test.YtcocapkdpbdmdacHop1
set_option linter.unusedVariables false
set_option linter.unusedSimpArgs false
set_option maxRecDepth 100000
set_option maxHeartbeats 1000000
namespace Go.Proofs.Ytcocapkdpbdmdac
open M

/-- F and c times G -/
def addMapF (p : Int) (F : Nat → Int) (c : Int) (G : Nat → Int) : Nat → Int := fun q => (F q + c * G q) % p
theorem addMap_s (p c : Int) (F G : Nat → Int) (hp : 0 < p ∧ p < 256) (hc : 0 ≤ c ∧ c < 256) (hF : isU8 64 F) (hG : isU8 64 G) : Spec Try.prog 107 [.int .i64 p, .ints .u8 64 F, .int .i64 c, .ints .u8 64 G] [] (Ret (.ints .u8 64 (addMapF p F c G))) := by
  refine Spec.ret rfl (Spec.of_vc tabOK tabEq Try.func107 rfl (by kernel_rfl) rfl rfl ?_)
  (repeat (first | refine And.intro (by omega) ?_ | refine And.intro ⟨by omega, by omega⟩ ?_))
  refine LoopVC.of (fun i : Nat => i ≤ 8) (fun i => [(0, .int .i64 p), (2, .int .i64 c), (5, .ptr 0 [] 0 0), (8, .ptr 2 [] 0 0), (11, .ints .u8 64 G), (12, .int .i64 i)])
    (fun i => [some (.ints .u8 64 fun q => if q / 8 < i then addMapF p F c G q else F q, 64), none, some (.ints .u8 64 fun _ => 0, 64)]) (fun i => 8 - i) 0 (by omega) ?_ ?_ ?_
  · exact And.intro rfl (And.intro rfl (And.intro rfl (And.intro rfl (And.intro (rowEq fun _ _ => rfl) (And.intro rfl trivial)))))
  · exact And.intro (And.intro (rowEq fun q _ => by simp) rfl) (And.intro (And.intro (rowEq fun _ _ => rfl) rfl) trivial)
  · intro i hi
    refine ifVC_split (fun h => ?_) (fun h => ?_)
    · have hlt := of_decide_eq_true h
      have hidx : (i : Int).toNat = i := by omega
      (repeat (first | refine And.intro (by omega) ?_ | refine And.intro ⟨by omega, by omega⟩ ?_))
      refine Exists.intro 9 (And.intro (by kernel_rfl) ?_)
      (repeat (first | refine And.intro (by omega) ?_ | refine And.intro ⟨by omega, by omega⟩ ?_))
      have hG8 : ∀ a, a < 8 → updR (fun _ => 0) 0 8 (fun q => G (q + (i : Int).toNat * 8)) (a + 0) = partF G 8 i a := fun a ha => by rw [hidx]; simp [updR, ha, partF]
      have hF8 : ∀ a, a < 8 → (if (a + ((i : Int).toNat * 8 + 0)) / 8 < i then addMapF p F c G (a + ((i : Int).toNat * 8 + 0)) else F (a + ((i : Int).toNat * 8 + 0))) = partF F 8 i a := fun a ha => by
        rw [hidx, if_neg (by omega)]; rfl
      refine Exists.intro (.ints .u8 8 (fun a => addMapF p F c G (a + i * 8))) (And.intro (And.intro rfl (And.intro rfl ?_)) ?_)
      · refine Spec.mono (Spec.ret (v := .ints .u8 8 (fun a => addMapF p F c G (a + i * 8))) rfl (Spec.mono (addMultiple_s p c _ _ hp hc (fun a ha => by have : 0 ≤ partF F 8 i a ∧ partF F 8 i a < 256 := hF _ (show a + i * 8 < 64 by omega); rw [← hF8 a ha] at this; exact this) (fun a ha => by have : 0 ≤ partF G 8 i a ∧ partF G 8 i a < 256 := hG _ (show a + i * 8 < 64 by omega); rw [← hG8 a ha] at this; exact this)) ?_)) fun r m h => h.1
        rintro r m ⟨rfl, _⟩
        refine rowEq fun a ha => ?_
        have e1 := hF8 a ha
        have e2 := hG8 a ha
        unfold addM
        show ((if (a + ((i : Int).toNat * 8 + 0)) / 8 < i then addMapF p F c G (a + ((i : Int).toNat * 8 + 0)) else F (a + ((i : Int).toNat * 8 + 0))) + c * updR (fun _ => 0) 0 8 (fun q => G (q + (i : Int).toNat * 8)) (a + 0)) % p = _
        rw [e1, e2]
        rfl
      (repeat (first | refine And.intro (by omega) ?_ | refine And.intro ⟨by omega, by omega⟩ ?_))
      refine Exists.intro (i + 1) (And.intro (by omega) (And.intro (by omega) (And.intro (And.intro rfl (And.intro rfl (And.intro rfl (And.intro rfl (And.intro (rowEq fun _ _ => rfl) (And.intro (slotI (wrapS (by omega))) trivial)))))) ?_)))
      refine And.intro (And.intro (rowEq fun q hq => ?_) rfl) (And.intro (And.intro (rowEq fun _ _ => rfl) rfl) trivial)
      show updR _ ((i : Int).toNat * 8 + 0) 8 _ q = _
      unfold updR
      rw [hidx]
      dsimp only
      by_cases h1 : i * 8 + 0 ≤ q ∧ q < i * 8 + 0 + 8
      · rw [if_pos h1, if_pos (by omega), show q - (i * 8 + 0) + i * 8 = q by omega]
      · rw [if_neg h1]
        by_cases h2 : q / 8 < i
        · rw [if_pos h2, if_pos (show q / 8 < i + 1 by omega)]
        · rw [if_neg h2, if_neg (show ¬ q / 8 < i + 1 by omega)]
    · have hge := of_decide_eq_false h
      obtain rfl : i = 8 := by omega
      (repeat (first | refine And.intro (by omega) ?_ | refine And.intro ⟨by omega, by omega⟩ ?_))
      refine rowEq fun q hq => ?_
      show updR _ 0 64 _ q = _
      simp [updR, hq]
      omega
end Go.Proofs.Ytcocapkdpbdmdac
