/- Powers of vectors, on both sides, and the law. -/
import Derived.Test.YtcocapkdpbdmdaaMulLaw
set_option linter.unusedVariables false
set_option linter.unusedSimpArgs false
set_option maxRecDepth 100000
namespace Go.Proofs.Ytcocapkdpbdmdaa
open M

theorem prodF_u8 {p : Int} (hp : 0 < p ∧ p < 256) (T v w : Nat → Int) (n : Nat) : isU8 n (prodF p T v w) := fun q _ => modB hp
theorem leftT_zero {p : Int} {n : Nat} {U T : Nat → Int} (hV : Valid p n U T) (v : Nat → Int) {j m : Nat} (hj : j < 8) (hm : m < 8) (h : n ≤ j ∨ n ≤ m) : leftT p T v (j * 8 + m) = 0 := by
  unfold leftT rightF
  rw [show (j * 8 + m) / 8 = j by omega, show (j * 8 + m) % 8 = m by omega, linS_sum, sumN_none 8 fun i hi => ?_]
  · simp
  · have e : rowT (flipF T) j (i * 8 + m) = vecT T i j m := by unfold rowT flipF vecT; congr 1; omega
    rw [e, hV.zero i j m hi hj hm (by omega)]; simp
theorem prodF_zero {p : Int} {n : Nat} {U T : Nat → Int} (hV : Valid p n U T) (v w : Nat → Int) {m : Nat} (hm : m < 8) (h : n ≤ m) : prodF p T v w m = 0 := by
  unfold prodF
  rw [linS_sum, sumN_none 8 fun i hi => by rw [leftT_zero hV v hi hm (.inr h)]; simp]
  simp

def powF (p : Int) (U T v : Nat → Int) : Nat → Nat → Int
  | 0 => U
  | k + 1 => prodF p T (powF p U T v k) v
theorem powF_u8 {p : Int} (hp : 0 < p ∧ p < 256) {U T v : Nat → Int} (hU : isU8 8 U) : ∀ k, isU8 8 (powF p U T v k)
  | 0 => hU
  | k + 1 => prodF_u8 hp T _ _ 8
theorem powF_zero {p : Int} {n : Nat} {U T v : Nat → Int} (hV : Valid p n U T) : ∀ k i, n ≤ i → i < 8 → powF p U T v k i = 0
  | 0, i, h1, h2 => hV.uzero i h2 h1
  | k + 1, i, h1, h2 => prodF_zero hV _ _ h2 h1

def oneV (z v : Nat → Int) : Nat → Int := updR z (0 * 8) 8 v
theorem one_0 (z v : Nat → Int) : ∀ j, j < 8 → partF (oneV z v) 8 0 j = v j := fun j hj => by
  unfold partF oneV updR; rw [if_pos (by omega)]; congr 1
theorem one_vectors (p n : Int) (z v : Nat → Int) : vectorsB p n 1 (oneV z v) = entriesB p n v := by
  show ((List.range 1).all fun i => entriesB p n (partF (oneV z v) 8 i)) = _
  simp only [List.range_succ, List.range_zero, List.nil_append, List.all_cons, List.all_nil, Bool.and_true]
  rw [entriesB_congr (one_0 z v)]
theorem one_u8 {z v : Nat → Int} (hv : isU8 8 v) : isU8 (1 * 8) (oneV z v) := fun j hj => by
  have := one_0 z v j (by omega)
  unfold partF at this
  rw [show j + 0 * 8 = j by omega] at this
  rw [this]; exact hv j (by omega)

def oneOk (p n : Int) (U T v : Nat → Int) : Bool := algB p n U T && entriesB p n v
def powIn (k : Int) : Bool := decide (0 ≤ k) && decide (k ≤ 100)
def powV (p n : Int) (U T v : Nat → Int) (k : Int) : SV :=
  .tcons (.ints .u8 8 fun j => if (oneOk p n U T v && powIn k) = true then powF p U T v k.toNat j else 0) (.tcons (.int .i64 (if oneOk p n U T v = true then (if powIn k = true then 0 else 2) else 1)) .tnil)

end Go.Proofs.Ytcocapkdpbdmdaa
