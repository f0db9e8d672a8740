/- the functions of the primes return what the plain list of the primes up to 31 says -/
import Derived.Test.YtcocapkdpbdmdaaMath
import Derived.Test.YtcocapkdpbdmdaaProg
import Derived.WalkKit
import Derived.Lib.Hide
import Derived.IntWalk
set_option linter.unusedVariables false
set_option linter.unusedSimpArgs false
namespace Go.Proofs.Ytcocapkdpbdmdaa
open Go.RowKit M

theorem ret_bool {a b : Bool} (h : a = b) : Ending.returned (.bool a) = .returned (.bool b) := by rw [h]

theorem l01In_any (n lo hi : Int) (w : World) :
    Calls Try.prog 84 #[.int .i64 n, .int .i64 lo, .int .i64 hi] w fun e w' => e = .returned (.bool (decide (lo ≤ n) && decide (n ≤ hi))) ∧ w = w' := by
  by_cases h1 : lo ≤ n
  · go_enter Try.func84, Try.ntmps84
    go_wp2
    go_ret
    exact ⟨ret_bool (by simp [h1]), rfl⟩
  · go_enter Try.func84, Try.ntmps84
    go_wp2
    go_ret
    exact ⟨ret_bool (by simp; omega), rfl⟩

/-- impl.IsPrime outside the range -/
theorem implPrime_out (p : Int) (h : p < 2 ∨ 31 < p) (w : World) :
    Calls Try.prog 63 #[.int .i64 p] w fun e w' => e = .returned (.bool (primeB p)) ∧ w = w' := by
  rw [primeB_out h]
  rcases h with h | h
  · go_enter Try.func63, Try.ntmps63
    go_wp2
    go_ret
    exact ⟨rfl, rfl⟩
  · have h2 : ¬ p < 2 := by omega
    go_enter Try.func63, Try.ntmps63
    go_wp2
    go_ret
    exact ⟨rfl, rfl⟩

theorem implPrime_in (p : Int) (h2 : 2 ≤ p) (h31 : p ≤ 31) (w : World) :
    Calls Try.prog 63 #[.int .i64 p] w fun e w' => e = .returned (.bool (primeB p)) ∧ w = w' := by
  have h2' : ¬ p < 2 := by omega
  go_enter Try.func63, Try.ntmps63
  go_wp2
  go_loop [3] (fun t => ∃ d : Int, 2 ≤ d ∧ d ≤ 6 ∧ (∀ e : Int, 2 ≤ e → e < d → p % e ≠ 0) ∧ t = .int .i64 d) (fun t => (100 - intOf t).toNat)
  case atStart => exact ⟨2, by omega, by omega, fun e h h' => by omega, rfl⟩
  case round =>
    obtain ⟨d, hd, hd6, hdiv, rfl⟩ := hrel
    have H := Lib.hid hdiv
    clear hdiv
    have hw : wrap64 (d * d) = d * d := by
      have : d * d ≤ 6 * 6 := Int.mul_le_mul hd6 hd6 (by omega) (by omega)
      have : 0 ≤ d * d := Int.mul_nonneg (by omega) (by omega)
      exact IntWalk.wrap64_in _ (by omega)
    by_cases hsq : d * d ≤ p
    · have hsq' : wrap64 (d * d) ≤ p := by rw [hw]; exact hsq
      have hlt := div_lt hd hsq
      have h5 := sq_le_six h31 hd hsq
      have HW := Lib.hid hw
      clear hw hsq
      by_cases hz : (p % d == 0) = true
      · have hres := primeB_div h2 h31 hd hlt (by simpa using hz)
        have HR := Lib.hid hres
        clear hres
        go_wp2
        go_ret
        exact ⟨ret_bool HR.out.symm, rfl⟩
      · have hz' : (p % d == 0) = false := by simpa using hz
        have HZ : p % d ≠ 0 := by simpa using hz
        have HH := Lib.hid HZ
        clear hz HZ
        go_wp2
        go_round
        case rel => exact ⟨d + 1, by omega, by omega, fun e he hl => by
          by_cases hed : e = d
          · subst hed; exact HH.out
          · exact H.out e he (by omega), rfl⟩
        case measure => simp [intOf]; omega
    · have hsq' : p < wrap64 (d * d) := by rw [hw]; omega
      have hres := primeB_sq h2 h31 hd hd6 (by omega) H.out
      have HR := Lib.hid hres
      clear hres hw hsq
      go_wp2
      go_ret
      exact ⟨ret_bool HR.out.symm, rfl⟩

theorem implPrime_any (p : Int) (w : World) :
    Calls Try.prog 63 #[.int .i64 p] w fun e w' => e = .returned (.bool (primeB p)) ∧ w = w' := by
  by_cases h : p < 2 ∨ 31 < p
  · exact implPrime_out p h w
  · exact implPrime_in p (by omega) (by omega) w

/-- the model's loop -/
theorem specPrime_any (p : Int) (w : World) :
    Calls Try.prog 83 #[.int .i64 p] w fun e w' => e = .returned (.bool (primeB p)) ∧ w = w' := by
  go_enter Try.func83, Try.ntmps83
  go_wp2
  go_loop [3] (fun t => ∃ d : Int, 2 ≤ d ∧ d ≤ 32 ∧ (2 ≤ p → d ≤ p) ∧ (∀ e : Int, 2 ≤ e → e < d → p % e ≠ 0) ∧ t = .int .i64 d) (fun t => (100 - intOf t).toNat)
  case atStart => exact ⟨2, by omega, by omega, by omega, fun e h h' => by omega, rfl⟩
  case round =>
    obtain ⟨d, hd, hd32, hdp, hdiv, rfl⟩ := hrel
    have H := Lib.hid hdiv
    have HP := Lib.hid hdp
    clear hdiv hdp
    by_cases h1 : d < p
    · by_cases h3 : d ≤ 31
      · by_cases hz : (p % d == 0) = true
        · have hres : primeB p = false := by
            by_cases h31 : p ≤ 31
            · exact primeB_div (by omega) h31 hd h1 (by simpa using hz)
            · exact primeB_out (by omega)
          have HR := Lib.hid hres
          clear hres
          go_wp2
          go_ret
          exact ⟨ret_bool HR.out.symm, rfl⟩
        · have hz' : (p % d == 0) = false := by simpa using hz
          have HZ : p % d ≠ 0 := by simpa using hz
          have HH := Lib.hid HZ
          clear hz HZ
          go_wp2
          go_round
          case rel => exact ⟨d + 1, by omega, by omega, by omega, fun e he hl => by
            by_cases hed : e = d
            · subst hed; exact HH.out
            · exact H.out e he (by omega), rfl⟩
          case measure => simp [intOf]; omega
      · have h3' : ¬ d ≤ 31 := h3
        have hres := primeB_out (p := p) (by omega)
        have HR := Lib.hid hres
        clear hres
        go_wp2_with (go_at_call 84; refine (l01In_any _ _ _ _).mono ?_; rintro e w' ⟨rfl, rfl⟩)
        go_ret
        exact ⟨ret_bool (by rw [HR.out]; simp; omega), rfl⟩
    · have hres : primeB p = (decide (2 ≤ p) && decide (p ≤ 31)) := by
        by_cases h2 : 2 ≤ p
        · have hdp2 := HP.out h2
          obtain rfl : d = p := by omega
          by_cases h31 : d ≤ 31
          · rw [primeB_all h2 h31 H.out]; simp [h2, h31]
          · rw [primeB_out (by omega)]; simp [h31]
        · rw [primeB_out (by omega)]; simp [h2]
      have HR := Lib.hid hres
      clear hres
      go_wp2_with (go_at_call 84; refine (l01In_any _ _ _ _).mono ?_; rintro e w' ⟨rfl, rfl⟩)
      go_ret
      exact ⟨ret_bool HR.out.symm, rfl⟩

end Go.Proofs.Ytcocapkdpbdmdaa
