/- The order of the antipode, on both sides, and the law. -/
import Derived.Test.YtegcfjfhpodlmaaHop6c
set_option linter.unusedVariables false
set_option linter.unusedSimpArgs false
set_option maxRecDepth 100000
set_option maxHeartbeats 1000000
namespace Go.Proofs.Ytegcfjfhpodlmaa
open M

/-- first G, then F -/
def thenF (p : Int) (F G : Nat → Int) : Nat → Int := fun q => linS F (partF G 8 (q / 8)) 8 (q % 8) % p
theorem thenF_u8 {p : Int} (hp : 0 < p ∧ p < 256) (F G : Nat → Int) (n : Nat) : isU8 n (thenF p F G) := fun q _ => modB hp

theorem applyToAll_s (p : Int) (F G : Nat → Int) (hp : 0 < p ∧ p < 256) (hF : isU8 64 F) (hG : isU8 64 G) : Spec Try.prog 46 [.int .i64 p, .ints .u8 64 F, .ints .u8 64 G] [] (Ret (.ints .u8 64 (thenF p F G))) := by
  refine Spec.ret rfl (Spec.of_vc tabOK tabEq Try.func46 rfl (by kernel_rfl) rfl rfl ?_)
  (repeat (first | refine And.intro (by omega) ?_ | refine And.intro ⟨by omega, by omega⟩ ?_))
  refine LoopVC.of (fun i : Nat => i ≤ 8) (fun i => [(0, .int .i64 p), (4, .ptr 0 [] 0 0), (5, .ptr 1 [] 0 0), (6, .ptr 2 [] 0 0), (9, .ints .u8 64 G), (10, .int .i64 i)])
    (fun i => [some (.ints .u8 64 F, 64), some (.ints .u8 64 fun q => if q / 8 < i then thenF p F G q else G q, 64), some (.ints .u8 64 fun _ => 0, 64)]) (fun i => 8 - i) 0 (by omega) ?_ ?_ ?_
  · exact And.intro rfl (And.intro rfl (And.intro rfl (And.intro rfl (And.intro (rowEq fun _ _ => rfl) (And.intro rfl trivial)))))
  · exact And.intro (And.intro (rowEq fun _ _ => rfl) rfl) (And.intro (And.intro (rowEq fun q _ => by simp) rfl) (And.intro (And.intro (rowEq fun _ _ => rfl) rfl) trivial))
  · intro i hi
    refine ifVC_split (fun h => ?_) (fun h => ?_)
    · have hlt := of_decide_eq_true h
      have hidx : (i : Int).toNat = i := by omega
      (repeat (first | refine And.intro (by omega) ?_ | refine And.intro ⟨by omega, by omega⟩ ?_))
      have hW : ∀ a, a < 8 → updR (fun _ => 0) 0 8 (fun q => G (q + (i : Int).toNat * 8)) (a + 0) = partF G 8 i a := fun a ha => by rw [hidx]; simp [updR, ha, partF]
      refine And.intro trivial (Spec.mono (apply_s p _ _ hp (fun q hq => hF _ (by omega)) (fun a ha => by rw [hW a ha]; exact hG _ (by omega))) ?_)
      rintro r m ⟨rfl, rfl⟩
      (repeat (first | refine And.intro (by omega) ?_ | refine And.intro ⟨by omega, by omega⟩ ?_))
      refine Exists.intro (i + 1) (And.intro (by omega) (And.intro (by omega) (And.intro (And.intro rfl (And.intro rfl (And.intro rfl (And.intro rfl (And.intro (rowEq fun _ _ => rfl) (And.intro (slotI (wrapS (by omega))) trivial)))))) ?_)))
      refine And.intro (And.intro (rowEq fun _ _ => rfl) rfl) (And.intro (And.intro (rowEq fun q hq => ?_) rfl) (And.intro (And.intro (rowEq fun _ _ => rfl) rfl) trivial))
      show updR _ ((i : Int).toNat * 8 + 0) 8 _ q = _
      unfold updR
      rw [hidx]
      by_cases h1 : i * 8 + 0 ≤ q ∧ q < i * 8 + 0 + 8
      · rw [if_pos h1, if_pos (by omega)]
        unfold thenF
        rw [show q / 8 = i by omega, show q - (i * 8 + 0) = q % 8 by omega]
        refine congrArg (· % p) (linS_congr 8 fun a ha => ?_)
        have := hW a ha
        rw [hidx] at this
        unfold updR at this
        rw [this]
        rfl
      · rw [if_neg h1]
        dsimp only
        by_cases h2 : q / 8 < i
        · rw [if_pos h2, if_pos (show q / 8 < i + 1 by omega)]
        · rw [if_neg h2, if_neg (show ¬ q / 8 < i + 1 by omega)]
    · have hge := of_decide_eq_false h
      obtain rfl : i = 8 := by omega
      (repeat (first | refine And.intro (by omega) ?_ | refine And.intro ⟨by omega, by omega⟩ ?_))
      refine rowEq fun q hq => ?_
      show updR _ 0 64 _ q = _
      simp [updR, hq]
      omega

/-- images for a size, zeros elsewhere -/
def zero64 (n : Nat) (G : Nat → Int) : Prop := ∀ a m, a < 8 → m < 8 → (n ≤ a ∨ n ≤ m) → partF G 8 a m = 0
theorem thenF_zero {p : Int} {n : Nat} {F G : Nat → Int} (hF : zero64 n F) (hG : zero64 n G) : zero64 n (thenF p F G) := fun a m ha hm h => by
  show linS F (partF G 8 ((m + a * 8) / 8)) 8 ((m + a * 8) % 8) % p = 0
  rw [show (m + a * 8) / 8 = a by omega, show (m + a * 8) % 8 = m by omega, linS_sum, sumN_none 8 fun i hi => ?_]
  · simp
  · by_cases hb : n ≤ a
    · rw [hG a i ha hi (.inl hb)]; simp
    · have : F (i * 8 + m) = 0 := by
        have := hF i m hi hm (.inr (by omega))
        unfold partF at this
        rw [Nat.add_comm]; exact this
      rw [this]; simp

/-! ### orders -/
/-- S taken k + 1 times -/
def powS (p : Int) (S : Nat → Int) : Nat → Nat → Int
  | 0 => S
  | k + 1 => thenF p S (powS p S k)
theorem powS_u8 {p : Int} (hp : 0 < p ∧ p < 256) {S : Nat → Int} (hS : isU8 64 S) : ∀ k, isU8 64 (powS p S k)
  | 0 => hS
  | k + 1 => thenF_u8 hp S _ 64
theorem powS_zero {p : Int} {n : Nat} {S : Nat → Int} (h : zero64 n S) : ∀ k, zero64 n (powS p S k)
  | 0 => h
  | k + 1 => thenF_zero h (powS_zero h k)
def sameAt (p : Int) (n : Nat) (S : Nat → Int) (k : Nat) : Bool := allEq 64 (powS p S k) (idF n)
/-- r is one more than the first place with f, among m, or 0 -/
def firstOk (f : Nat → Bool) (m r : Nat) : Prop := (r = 0 ∧ ∀ k, k < m → f k = false) ∨ (∃ k, r = k + 1 ∧ k < m ∧ f k = true ∧ ∀ k', k' < k → f k' = false)
theorem first_one {f : Nat → Bool} {m r r' : Nat} (h : firstOk f m r) (h' : firstOk f m r') : r = r' := by
  rcases h with ⟨rfl, h⟩ | ⟨k, rfl, hk, h1, h2⟩
  · rcases h' with ⟨rfl, h'⟩ | ⟨k, rfl, hk, h1, h2⟩
    · rfl
    · rw [h k hk] at h1; cases h1
  · rcases h' with ⟨rfl, h'⟩ | ⟨k', rfl, hk', h1', h2'⟩
    · rw [h' k hk] at h1; cases h1
    · rcases Nat.lt_trichotomy k k' with h | h | h
      · rw [h2' k h] at h1; cases h1
      · rw [h]
      · rw [h2 k' h] at h1'; cases h1'
def firstN (f : Nat → Bool) : Nat → Nat
  | 0 => 0
  | m + 1 => match firstN f m with | 0 => (match f m with | true => m + 1 | false => 0) | r + 1 => r + 1
theorem first_is (f : Nat → Bool) : ∀ m, firstOk f m (firstN f m)
  | 0 => .inl ⟨rfl, fun k hk => by omega⟩
  | m + 1 => by
    have ih := first_is f m
    unfold firstN
    split
    · rename_i h0
      rw [h0] at ih
      have hall : ∀ k, k < m → f k = false := by
        rcases ih with ⟨_, h⟩ | ⟨k, h, _⟩
        · exact h
        · omega
      split
      · rename_i h; exact .inr ⟨m, rfl, by omega, h, hall⟩
      · rename_i h
        refine .inl ⟨rfl, fun k hk => ?_⟩
        by_cases hkm : k = m
        · subst hkm; exact h
        · exact hall k (by omega)
    · rename_i r h0
      rw [h0] at ih
      rcases ih with ⟨h, _⟩ | ⟨k, h, hk, h1, h2⟩
      · omega
      · exact .inr ⟨k, h, by omega, h1, h2⟩
def ordV (b : Bool) (r : Nat) : SV := .tcons (.int .i64 (if b = true then (r : Int) else 0)) (.tcons (.int .i64 (if b = true then (if r = 0 then 3 else 0) else 1)) .tnil)
def ordN (p : Int) (n : Nat) (S : Nat → Int) : Nat := firstN (sameAt p n S) 60

section
variable (p n : Int) (U T Z C S : Nat → Int) (hU : isU8 8 U) (hT : isU8 512 T) (hZ : isU8 8 Z) (hC : isU8 512 C) (hS : isU8 64 S)
include hU hT hZ hC hS

end
end Go.Proofs.Ytegcfjfhpodlmaa
