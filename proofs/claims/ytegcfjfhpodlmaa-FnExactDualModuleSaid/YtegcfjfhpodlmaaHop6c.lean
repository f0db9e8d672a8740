/- Functions of a Hopf algebra and a vector, on both sides, and the laws. -/
import Derived.Test.YtegcfjfhpodlmaaHop6
import Derived.Test.YtegcfjfhpodlmaaCo3
set_option linter.unusedVariables false
set_option linter.unusedSimpArgs false
set_option maxRecDepth 100000
set_option maxHeartbeats 1000000
namespace Go.Proofs.Ytegcfjfhpodlmaa
open M

section
variable (p n : Int) (U T Z C S : Nat → Int) (hU : isU8 8 U) (hT : isU8 512 T) (hZ : isU8 8 Z) (hC : isU8 512 C) (hS : isU8 64 S)
include hU hT hZ hC hS


/-! ### functions of a Hopf algebra and a vector -/
end

/-- a Hopf algebra and a vector for it -/
def hopOne (p n : Int) (U T Z C S v : Nat → Int) : Bool := hopB p n U T Z C S && entriesB p n v
theorem hopOne_bad {p n : Int} {U T Z C S z v : Nat → Int} (h : (!(hopB p n U T Z C S && vectorsB p n 1 (oneV z v))) = true) : hopOne p n U T Z C S v = false := by
  rw [one_vectors] at h; unfold hopOne; simpa only [Bool.not_eq_true'] using h
theorem hopOne_ok {p n : Int} {U T Z C S z v : Nat → Int} (h : (!(hopB p n U T Z C S && vectorsB p n 1 (oneV z v))) = false) : hopOne p n U T Z C S v = true := by
  rw [one_vectors] at h; simpa [hopOne] using h
theorem hopOne_bad2 {p n : Int} {U T Z C S v : Nat → Int} (h : ((if (hopB p n U T Z C S && entriesB p n v) = true then (0 : Int) else 1) != 0) = true) : hopOne p n U T Z C S v = false := by
  cases hm : hopOne p n U T Z C S v with
  | false => rfl
  | true => unfold hopOne at hm; rw [if_pos hm] at h; simp at h
theorem hopOne_ok2 {p n : Int} {U T Z C S v : Nat → Int} (h : ((if (hopB p n U T Z C S && entriesB p n v) = true then (0 : Int) else 1) != 0) = false) : hopOne p n U T Z C S v = true := by
  cases hm : hopOne p n U T Z C S v with
  | true => rfl
  | false => unfold hopOne at hm; rw [if_neg (by rw [hm]; simp)] at h; simp at h
theorem hopOne_code {p n : Int} {U T Z C S v : Nat → Int} (h : hopOne p n U T Z C S v = false) : (if (hopB p n U T Z C S && entriesB p n v) = true then (0 : Int) else 1) = 1 := by
  unfold hopOne at h; simp [h]
theorem hopB_valid {p n : Int} {U T Z C S : Nat → Int} (hU : isU8 8 U) (hT : isU8 512 T) (hZ : isU8 8 Z) (hC : isU8 512 C) (hS : isU8 64 S) (h : hopB p n U T Z C S = true) : ∃ k : Nat, n = k ∧ HV p k U T Z C S := by
  unfold hopB at h
  simp only [Bool.and_eq_true] at h
  exact hsh_valid hU hT hZ hC hS h.1
theorem hopOne_spec {p n : Int} {U T Z C S v : Nat → Int} (hU : isU8 8 U) (hT : isU8 512 T) (hZ : isU8 8 Z) (hC : isU8 512 C) (hS : isU8 64 S) (h : hopOne p n U T Z C S v = true) : ∃ k : Nat, n = k ∧ HV p k U T Z C S ∧ ∀ i, k ≤ i → i < 8 → v i = 0 := by
  unfold hopOne at h
  simp only [Bool.and_eq_true] at h
  obtain ⟨k, rfl, hV⟩ := hopB_valid hU hT hZ hC hS h.1
  exact ⟨k, rfl, hV, fun i h1 h2 => (entries_get h.2 h2).2 (by omega)⟩

section
variable (p n : Int) (U T Z C S : Nat → Int) (hU : isU8 8 U) (hT : isU8 512 T) (hZ : isU8 8 Z) (hC : isU8 512 C) (hS : isU8 64 S) (v : Nat → Int) (hv : isU8 8 v)
include hU hT hZ hC hS hv

/-! ### CounitOf -/
def hcounitV (p n : Int) (U T Z C S v : Nat → Int) : SV := .tcons (.int .i64 (if hopOne p n U T Z C S v = true then cnt p Z v else 0)) (.tcons (.int .i64 (if hopOne p n U T Z C S v = true then 0 else 1)) .tnil)
/-! ### CoproductOf -/
def hcoprodV (p n : Int) (U T Z C S v : Nat → Int) : SV := .tcons (.ints .u8 64 fun q => if hopOne p n U T Z C S v = true then leftT p C v q else 0) (.tcons (.int .i64 (if hopOne p n U T Z C S v = true then 0 else 1)) .tnil)
/-! ### AntipodeOf -/
def hantV (p n : Int) (U T Z C S v : Nat → Int) : SV := .tcons (.ints .u8 8 fun j => if hopOne p n U T Z C S v = true then linS S v 8 j % p else 0) (.tcons (.int .i64 (if hopOne p n U T Z C S v = true then 0 else 1)) .tnil)
end
end Go.Proofs.Ytegcfjfhpodlmaa
