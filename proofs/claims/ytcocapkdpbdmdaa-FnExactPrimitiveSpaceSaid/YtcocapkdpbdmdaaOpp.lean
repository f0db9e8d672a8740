/- Opposite algebras and commutativity, on both sides, and the laws. -/
import Derived.Test.YtcocapkdpbdmdaaEqs
set_option linter.unusedVariables false
set_option linter.unusedSimpArgs false
set_option maxRecDepth 100000
namespace Go.Proofs.Ytcocapkdpbdmdaa
open M

theorem flip_zero {p : Int} {n : Nat} {U T : Nat → Int} (hV : Valid p n U T) {q : Nat} (hq : q < 512) (h : ¬ (q / 64 < n ∧ q / 8 % 8 < n)) : flipF T q = 0 := by
  have e : flipF T q = vecT T (q / 8 % 8) (q / 64) (q % 8) := by unfold flipF vecT; congr 1; omega
  rw [e]
  exact hV.zero _ _ _ (by omega) (by omega) (by omega) (by omega)

def oppA (p n : Int) (U T : Nat → Int) : SV := algV (if algB p n U T = true then p else 0) (if algB p n U T = true then n else 0) (fun j => if algB p n U T = true then U j else 0) (fun q => if algB p n U T = true then flipF T q else 0)
def oppV (p n : Int) (U T : Nat → Int) : SV := .tcons (oppA p n U T) (.tcons (.int .i64 (if algB p n U T = true then 0 else 1)) .tnil)

/-! ### commutativity -/
def commB (T : Nat → Int) : Bool := allEq 512 T (flipF T)
theorem comm_iff {T : Nat → Int} : commB T = true ↔ ∀ i j m, i < 8 → j < 8 → m < 8 → vecT T i j m = vecT T j i m := by
  unfold commB
  constructor
  · intro h i j m hi hj hm
    have := allEq_get h (i := m + (j * 8 + i * 64)) (by omega)
    unfold flipF at this
    unfold vecT
    rw [this]
    congr 1
    omega
  · intro h
    refine List.all_eq_true.2 fun q hq => ?_
    have hq := List.mem_range.1 hq
    have := h (q / 64) (q / 8 % 8) (q % 8) (by omega) (by omega) (by omega)
    have e1 : T q = vecT T (q / 64) (q / 8 % 8) (q % 8) := by unfold vecT; congr 1; omega
    have e2 : flipF T q = vecT T (q / 8 % 8) (q / 64) (q % 8) := by unfold flipF vecT; congr 1; omega
    rw [e1, e2, this]
    simp
theorem comm_no {T : Nat → Int} {i k : Nat} (hi : i < 8) (hk : k < 8) (h : allEq 8 (vecT T i k) (vecT T k i) = false) : commB T = false := by
  cases hb : commB T with
  | false => rfl
  | true =>
    have : allEq 8 (vecT T i k) (vecT T k i) = true := List.all_eq_true.2 fun m hm => by rw [comm_iff.1 hb i k m hi hk (List.mem_range.1 hm)]; simp
    rw [h] at this; cases this
theorem comm_yes {p : Int} {n : Nat} {U T : Nat → Int} (hV : Valid p n U T) (h : ∀ i k, i < n → k < i → allEq 8 (vecT T i k) (vecT T k i) = true) : commB T = true := by
  refine comm_iff.2 fun i j m hi hj hm => ?_
  by_cases hn : n ≤ i ∨ n ≤ j
  · rw [hV.zero i j m hi hj hm (by omega), hV.zero j i m hj hi hm (by omega)]
  · rcases Nat.lt_trichotomy i j with h1 | h1 | h1
    · exact (allEq_get (h j i (by omega) h1) hm).symm
    · rw [h1]
    · exact allEq_get (h i j (by omega) h1) hm

def commV (p n : Int) (U T : Nat → Int) : SV := .tcons (.bool (algB p n U T && commB T)) (.tcons (.int .i64 (if algB p n U T = true then 0 else 1)) .tnil)

end Go.Proofs.Ytcocapkdpbdmdaa
