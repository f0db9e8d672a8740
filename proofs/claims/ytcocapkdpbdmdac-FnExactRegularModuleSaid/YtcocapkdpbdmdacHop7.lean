/- The order of the antipode, on both sides, and the law. -/
import Derived.Test.YtcocapkdpbdmdacHop6c
set_option linter.unusedVariables false
set_option linter.unusedSimpArgs false
set_option maxRecDepth 100000
set_option maxHeartbeats 1000000
namespace Go.Proofs.Ytcocapkdpbdmdac
open M

/-- first G, then F -/
def thenF (p : Int) (F G : Nat → Int) : Nat → Int := fun q => linS F (partF G 8 (q / 8)) 8 (q % 8) % p
theorem thenF_u8 {p : Int} (hp : 0 < p ∧ p < 256) (F G : Nat → Int) (n : Nat) : isU8 n (thenF p F G) := fun q _ => modB hp

/-- images for a size, zeros elsewhere -/
def zero64 (n : Nat) (G : Nat → Int) : Prop := ∀ a m, a < 8 → m < 8 → (n ≤ a ∨ n ≤ m) → partF G 8 a m = 0
theorem thenF_zero {p : Int} {n : Nat} {F G : Nat → Int} (hF : zero64 n F) (hG : zero64 n G) : zero64 n (thenF p F G) := fun a m ha hm h => by
  show linS F (partF G 8 ((m + a * 8) / 8)) 8 ((m + a * 8) % 8) % p = 0
  rw [show (m + a * 8) / 8 = a by omega, show (m + a * 8) % 8 = m by omega, linS_sum, sumN_none 8 fun i hi => ?_]
  · simp
  · by_cases hb : n ≤ a
    · rw [hG a i ha hi (.inl hb)]; simp
    · have : F (i * 8 + m) = 0 := by
        have := hF i m hi hm (.inr (by omega))
        unfold partF at this
        rw [Nat.add_comm]; exact this
      rw [this]; simp

/-! ### orders -/
/-- S taken k + 1 times -/
def powS (p : Int) (S : Nat → Int) : Nat → Nat → Int
  | 0 => S
  | k + 1 => thenF p S (powS p S k)
theorem powS_u8 {p : Int} (hp : 0 < p ∧ p < 256) {S : Nat → Int} (hS : isU8 64 S) : ∀ k, isU8 64 (powS p S k)
  | 0 => hS
  | k + 1 => thenF_u8 hp S _ 64
theorem powS_zero {p : Int} {n : Nat} {S : Nat → Int} (h : zero64 n S) : ∀ k, zero64 n (powS p S k)
  | 0 => h
  | k + 1 => thenF_zero h (powS_zero h k)
def sameAt (p : Int) (n : Nat) (S : Nat → Int) (k : Nat) : Bool := allEq 64 (powS p S k) (idF n)
/-- r is one more than the first place with f, among m, or 0 -/
def firstOk (f : Nat → Bool) (m r : Nat) : Prop := (r = 0 ∧ ∀ k, k < m → f k = false) ∨ (∃ k, r = k + 1 ∧ k < m ∧ f k = true ∧ ∀ k', k' < k → f k' = false)
theorem first_one {f : Nat → Bool} {m r r' : Nat} (h : firstOk f m r) (h' : firstOk f m r') : r = r' := by
  rcases h with ⟨rfl, h⟩ | ⟨k, rfl, hk, h1, h2⟩
  · rcases h' with ⟨rfl, h'⟩ | ⟨k, rfl, hk, h1, h2⟩
    · rfl
    · rw [h k hk] at h1; cases h1
  · rcases h' with ⟨rfl, h'⟩ | ⟨k', rfl, hk', h1', h2'⟩
    · rw [h' k hk] at h1; cases h1
    · rcases Nat.lt_trichotomy k k' with h | h | h
      · rw [h2' k h] at h1; cases h1
      · rw [h]
      · rw [h2 k' h] at h1'; cases h1'
def firstN (f : Nat → Bool) : Nat → Nat
  | 0 => 0
  | m + 1 => match firstN f m with | 0 => (match f m with | true => m + 1 | false => 0) | r + 1 => r + 1
theorem first_is (f : Nat → Bool) : ∀ m, firstOk f m (firstN f m)
  | 0 => .inl ⟨rfl, fun k hk => by omega⟩
  | m + 1 => by
    have ih := first_is f m
    unfold firstN
    split
    · rename_i h0
      rw [h0] at ih
      have hall : ∀ k, k < m → f k = false := by
        rcases ih with ⟨_, h⟩ | ⟨k, h, _⟩
        · exact h
        · omega
      split
      · rename_i h; exact .inr ⟨m, rfl, by omega, h, hall⟩
      · rename_i h
        refine .inl ⟨rfl, fun k hk => ?_⟩
        by_cases hkm : k = m
        · subst hkm; exact h
        · exact hall k (by omega)
    · rename_i r h0
      rw [h0] at ih
      rcases ih with ⟨h, _⟩ | ⟨k, h, hk, h1, h2⟩
      · omega
      · exact .inr ⟨k, h, by omega, h1, h2⟩
def ordV (b : Bool) (r : Nat) : SV := .tcons (.int .i64 (if b = true then (r : Int) else 0)) (.tcons (.int .i64 (if b = true then (if r = 0 then 3 else 0) else 1)) .tnil)
def ordN (p : Int) (n : Nat) (S : Nat → Int) : Nat := firstN (sameAt p n S) 60

section
variable (p n : Int) (U T Z C S : Nat → Int) (hU : isU8 8 U) (hT : isU8 512 T) (hZ : isU8 8 Z) (hC : isU8 512 C) (hS : isU8 64 S)
include hU hT hZ hC hS

end
end Go.Proofs.Ytcocapkdpbdmdac
