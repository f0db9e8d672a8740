/- IsModuleMap, on both sides, and the law. -/
import Derived.Test.YtcocapkdpbdmdabMod4
import Derived.Test.YtcocapkdpbdmdabAddMap
set_option linter.unusedVariables false
set_option linter.unusedSimpArgs false
set_option maxRecDepth 100000
set_option maxHeartbeats 1000000
namespace Go.Proofs.Ytcocapkdpbdmdab
open M

/-! ### what a map does wrong -/
def faultF (p : Int) (n : Nat) (A B F : Nat → Int) : Nat → Int := fun q => if q / 64 < n then addMapF p (thenF p F (partF A 64 (q / 64))) (p - 1) (thenF p (partF B 64 (q / 64)) F) (q % 64) else 0
def mapIB (p : Int) (A B F : Nat → Int) (i : Nat) : Bool := allEq 64 (thenF p F (partF A 64 i)) (thenF p (partF B 64 i) F)
def mapB (p : Int) (n : Nat) (A B F : Nat → Int) : Bool := (List.range n).all (mapIB p A B F)
theorem sub_zero_iff {p x y : Int} (hp : 0 < p) (hx : 0 ≤ x ∧ x < p) (hy : 0 ≤ y ∧ y < p) : (x + (p - 1) * y) % p = 0 ↔ x = y := by
  have e : x + (p - 1) * y = x - y + p * y := by rw [Int.sub_mul]; omega
  rw [e, Int.add_mul_emod_self_left]
  constructor
  · intro h
    obtain ⟨k, hk⟩ := Int.dvd_of_emod_eq_zero h
    have h1 : -p < p * k := by omega
    have h2 : p * k < p := by omega
    have h3 : k = 0 := by
      rcases Int.lt_trichotomy k 0 with h | h | h
      · have := Int.mul_le_mul_of_nonneg_left (show k ≤ -1 by omega) (show 0 ≤ p by omega)
        omega
      · exact h
      · have := Int.mul_le_mul_of_nonneg_left (show 1 ≤ k by omega) (show 0 ≤ p by omega)
        omega
    subst h3
    omega
  · rintro rfl
    simp
theorem then_lt {p : Int} (hp : 0 < p) (F G : Nat → Int) (q : Nat) : 0 ≤ thenF p F G q ∧ thenF p F G q < p := ⟨Int.emod_nonneg _ (by omega), Int.emod_lt_of_pos _ hp⟩
theorem fault_none {p : Int} {n : Nat} (hp : 0 < p) (hn : n ≤ 8) (A B F : Nat → Int) : allEq 512 (faultF p n A B F) (fun _ => 0) = mapB p n A B F := by
  rw [Bool.eq_iff_iff]
  constructor
  · intro h
    refine List.all_eq_true.2 fun i hi => List.all_eq_true.2 fun q hq => ?_
    have hi := List.mem_range.1 hi
    have hq := List.mem_range.1 hq
    have := allEq_get h (show i * 64 + q < 512 by omega)
    unfold faultF at this
    rw [show (i * 64 + q) / 64 = i by omega, show (i * 64 + q) % 64 = q by omega, if_pos hi] at this
    rw [beq_iff_eq]
    exact (sub_zero_iff hp (then_lt hp _ _ _) (then_lt hp _ _ _)).1 this
  · intro h
    refine List.all_eq_true.2 fun q hq => ?_
    have hq := List.mem_range.1 hq
    rw [beq_iff_eq]
    unfold faultF
    split
    · rename_i h1
      have := allEq_get (List.all_eq_true.1 h (q / 64) (List.mem_range.2 h1)) (show q % 64 < 64 by omega)
      exact (sub_zero_iff hp (then_lt hp _ _ _) (then_lt hp _ _ _)).2 this
    · rfl

theorem mapFault_s (p : Int) (n : Nat) (U T Z C S : Nat → Int) (d e : Int) (A B F : Nat → Int) (hp : 0 < p ∧ p < 256) (hn : n ≤ 8) (hA : isU8 512 A) (hB : isU8 512 B) (hF : isU8 64 F) :
    Spec Try.prog 39 [hopV p n U T Z C S, modV d A, modV e B, .ints .u8 64 F] [] (Ret (.ints .u8 512 (faultF p n A B F))) := by
  refine Spec.ret rfl (Spec.of_vc tabOK tabEq Try.func39 rfl (by kernel_rfl) rfl rfl ?_)
  refine LoopVC.of (fun i : Nat => i ≤ n) (fun i => [(4, .ptr 0 [] 0 0), (5, .ptr 1 [] 0 0), (6, .ptr 2 [] 0 0), (7, .ptr 3 [] 0 0), (8, .ptr 4 [] 0 0), (9, .ptr 5 [] 0 0), (14, .int .i64 n), (15, .int .i64 i)])
    (fun i => [some (hopV p n U T Z C S, 1106), some (modV d A, 513), some (modV e B, 513), some (.ints .u8 64 F, 64), some (.ints .u8 512 fun _ => 0, 512), some (.ints .u8 512 fun q => if q / 64 < i then faultF p n A B F q else 0, 512)]) (fun i => n - i) 0 (by omega) ?_ ?_ ?_
  · exact (And.intro rfl (And.intro rfl (And.intro rfl (And.intro rfl (And.intro rfl (And.intro rfl (And.intro rfl (And.intro rfl (trivial)))))))))
  · exact And.intro (And.intro (hopR p n U T Z C S) rfl) (And.intro (And.intro (modR d A) rfl) (And.intro (And.intro (modR e B) rfl) (And.intro (And.intro (rowEq fun _ _ => rfl) rfl) (And.intro (And.intro (rowEq fun _ _ => rfl) rfl) (And.intro (And.intro (rowEq fun q _ => by simp) rfl) trivial)))))
  · intro i hi
    refine ifVC_split (fun h => ?_) (fun h => ?_)
    · have hlt := of_decide_eq_true h
      have hidx : (i : Int).toNat = i := by omega
      refine Exists.intro 9 (And.intro (by kernel_rfl) ?_)
      (repeat (first | refine And.intro (by omega) ?_ | refine And.intro ⟨by omega, by omega⟩ ?_))
      refine Exists.intro (.ints .u8 64 (thenF p F (partF A 64 i))) (And.intro (And.intro rfl (And.intro rfl ?_)) ?_)
      · rw [row_is A i hidx]
        exact Spec.mono (applyToAll_s p _ _ hp (fun q hq => hF _ (by omega)) (part_u8 hA (by omega))) fun r m h => h.1
      (repeat (first | refine And.intro (by omega) ?_ | refine And.intro ⟨by omega, by omega⟩ ?_))
      refine Exists.intro 9 (And.intro (by kernel_rfl) ?_)
      (repeat (first | refine And.intro (by omega) ?_ | refine And.intro ⟨by omega, by omega⟩ ?_))
      refine Exists.intro (.ints .u8 64 (thenF p (partF B 64 i) F)) (And.intro (And.intro rfl (And.intro rfl ?_)) ?_)
      · rw [row_is B i hidx]
        exact Spec.mono (applyToAll_s p _ _ hp (part_u8 hB (by omega)) (fun q hq => hF _ (by omega))) fun r m h => h.1
      (repeat (first | refine And.intro (by omega) ?_ | refine And.intro ⟨by omega, by omega⟩ ?_))
      have hw : IntKind.i64.wrap (p - 1) = p - 1 := wrapI (by omega)
      have e1 : ∀ q, q < 64 → updR (fun _ => 0) 0 64 (thenF p F (partF A 64 i)) (q + 0) = thenF p F (partF A 64 i) q := fun q hq => by simp [updR, hq]
      have e2 : ∀ q, q < 64 → updR (fun _ => 0) 0 64 (thenF p (partF B 64 i) F) (q + 0) = thenF p (partF B 64 i) F q := fun q hq => by simp [updR, hq]
      refine And.intro trivial (Spec.mono (addMap_s p _ _ _ hp (by rw [hw]; omega) (fun q hq => by have := thenF_u8 hp F (partF A 64 i) 64 q hq; rw [← e1 q hq] at this; exact this) (fun q hq => by have := thenF_u8 hp (partF B 64 i) F 64 q hq; rw [← e2 q hq] at this; exact this)) ?_)
      rintro r m ⟨rfl, rfl⟩
      (repeat (first | refine And.intro (by omega) ?_ | refine And.intro ⟨by omega, by omega⟩ ?_))
      refine Exists.intro (i + 1) (And.intro (by omega) (And.intro (by omega) (And.intro (And.intro rfl (And.intro rfl (And.intro rfl (And.intro rfl (And.intro rfl (And.intro rfl (And.intro rfl (And.intro (slotI (wrapS (by omega))) trivial)))))))) ?_)))
      refine And.intro (And.intro (hopR p n U T Z C S) rfl) (And.intro (And.intro (modR d A) rfl) (And.intro (And.intro (modR e B) rfl) (And.intro (And.intro (rowEq fun _ _ => rfl) rfl) (And.intro (And.intro (rowEq fun _ _ => rfl) rfl) (And.intro (And.intro (rowEq fun q hq => ?_) rfl) trivial)))))
      have key : ∀ x, x < 64 → addMapF p (fun q => updR (fun _ => 0) 0 64 (thenF p F (partF A 64 i)) (q + 0)) (IntKind.i64.wrap (p - 1)) (fun q => updR (fun _ => 0) 0 64 (thenF p (partF B 64 i) F) (q + 0)) x = addMapF p (thenF p F (partF A 64 i)) (p - 1) (thenF p (partF B 64 i) F) x := fun x hx => by
        unfold addMapF
        dsimp only
        rw [e1 x hx, e2 x hx, hw]
      show updR _ ((i : Int).toNat * 64 + 0) 64 _ q = _
      by_cases h1 : (i : Int).toNat * 64 + 0 ≤ q ∧ q < (i : Int).toNat * 64 + 0 + 64
      · refine (if_pos h1).trans ((key _ (by omega)).trans ?_)
        rw [if_pos (show q / 64 < i + 1 by omega)]
        unfold faultF
        rw [if_pos (show q / 64 < n by omega), show q / 64 = i by omega, show q - ((i : Int).toNat * 64 + 0) = q % 64 by omega]
      · refine (if_neg h1).trans ?_
        dsimp only
        by_cases h2 : q / 64 < i
        · rw [if_pos h2, if_pos (show q / 64 < i + 1 by omega)]
        · rw [if_neg h2, if_neg (show ¬ q / 64 < i + 1 by omega)]
    · have hge := of_decide_eq_false h
      obtain rfl : i = n := by omega
      (repeat (first | refine And.intro (by omega) ?_ | refine And.intro ⟨by omega, by omega⟩ ?_))
      refine rowEq fun q hq => ?_
      show updR _ 0 512 _ q = _
      simp only [updR, Nat.zero_le, true_and, Nat.zero_add, hq, if_true, Nat.sub_zero, Nat.add_zero]
      by_cases h2 : q / 64 < i
      · rw [if_pos h2]
      · rw [if_neg h2]; unfold faultF; rw [if_neg h2]
end Go.Proofs.Ytcocapkdpbdmdab
