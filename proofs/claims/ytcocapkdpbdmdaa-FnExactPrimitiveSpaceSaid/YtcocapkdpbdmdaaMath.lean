/- plain facts on numbers for the primes; imports nothing of the translation -/
import Derived.Below
set_option linter.unusedVariables false
set_option linter.unusedSimpArgs false
namespace Go.Proofs.Ytcocapkdpbdmdaa.M

/-- the primes up to 31 -/
def primeB (p : Int) : Bool := [2, 3, 5, 7, 11, 13, 17, 19, 23, 29, 31].contains p

theorem primeB_out {p : Int} (h : p < 2 ∨ 31 < p) : primeB p = false := by
  unfold primeB; simp; omega

theorem primeN : ∀ p : Fin 32, 2 ≤ p.val → ∀ d : Fin 32, 2 ≤ d.val → p.val % d.val = 0 → d.val < p.val → primeB (p.val : Int) = false := by decide
theorem primeY : ∀ p : Fin 32, 2 ≤ p.val → (∀ e : Fin 32, 2 ≤ e.val → e.val < p.val → p.val % e.val ≠ 0) → primeB (p.val : Int) = true := by decide

theorem primeB_div {p d : Int} (h2 : 2 ≤ p) (h31 : p ≤ 31) (hd : 2 ≤ d) (hlt : d < p) (h : p % d = 0) : primeB p = false := by
  obtain ⟨n, rfl⟩ := Int.eq_ofNat_of_zero_le (show 0 ≤ p by omega)
  obtain ⟨k, rfl⟩ := Int.eq_ofNat_of_zero_le (show 0 ≤ d by omega)
  exact primeN ⟨n, by omega⟩ (by simp; omega) ⟨k, by omega⟩ (by simp; omega) (by simp; omega) (by simp; omega)

theorem primeB_all {p : Int} (h2 : 2 ≤ p) (h31 : p ≤ 31) (h : ∀ e : Int, 2 ≤ e → e < p → p % e ≠ 0) : primeB p = true := by
  obtain ⟨n, rfl⟩ := Int.eq_ofNat_of_zero_le (show 0 ≤ p by omega)
  refine primeY ⟨n, by omega⟩ (by simp; omega) fun e he hlt h0 => ?_
  have := h (e.val : Int) (by omega) (by simp at hlt; omega)
  simp at h0
  omega

/-- no divisor below d, and d * d more than p: a prime -/
theorem primeQ : ∀ p : Fin 32, 2 ≤ p.val → ∀ d : Fin 8, 2 ≤ d.val → p.val < d.val * d.val → (∀ e : Fin 8, 2 ≤ e.val → e.val < d.val → e.val * e.val ≤ p.val → p.val % e.val ≠ 0) → primeB (p.val : Int) = true := by decide
theorem primeB_sq {p d : Int} (h2 : 2 ≤ p) (h31 : p ≤ 31) (hd : 2 ≤ d) (hd6 : d ≤ 6) (hlt : p < d * d) (h : ∀ e : Int, 2 ≤ e → e < d → p % e ≠ 0) : primeB p = true := by
  obtain ⟨n, rfl⟩ := Int.eq_ofNat_of_zero_le (show 0 ≤ p by omega)
  obtain ⟨k, rfl⟩ := Int.eq_ofNat_of_zero_le (show 0 ≤ d by omega)
  refine primeQ ⟨n, by omega⟩ (by simp; omega) ⟨k, by omega⟩ (by simp; omega) (by simp; exact_mod_cast hlt) fun e he hlt _ h0 => ?_
  have := h (e.val : Int) (by omega) (by simp at hlt; omega)
  simp at h0
  omega
theorem sq_le_six {p d : Int} (h31 : p ≤ 31) (hd : 2 ≤ d) (h : d * d ≤ p) : d ≤ 5 := by
  rcases Int.lt_or_le 5 d with h6 | h6
  · have : 6 * 6 ≤ d * d := Int.mul_le_mul (by omega) (by omega) (by omega) (by omega)
    omega
  · exact h6
theorem div_lt {p d : Int} (hd : 2 ≤ d) (h : d * d ≤ p) : d < p := by
  have : 2 * d ≤ d * d := Int.mul_le_mul_of_nonneg_right hd (by omega)
  omega
end Go.Proofs.Ytcocapkdpbdmdaa.M
