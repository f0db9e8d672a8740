/- CounitIn, CoproductIn and IsGroupLike on both sides, and the laws. -/
import Derived.Test.YtcocapkdpbdmdaaCo2
import Derived.Test.YtcocapkdpbdmdaaCoFirst
set_option linter.unusedVariables false
set_option linter.unusedSimpArgs false
set_option maxRecDepth 100000
set_option maxHeartbeats 1000000
namespace Go.Proofs.Ytcocapkdpbdmdaa
open M

theorem coOne_bad {p n : Int} {U C z v : Nat → Int} (h : (!(coB p n U C && vectorsB p n 1 (oneV z v))) = true) : coOne p n U C v = false := by
  rw [one_vectors] at h; unfold coOne; simpa only [Bool.not_eq_true'] using h
theorem coOne_ok {p n : Int} {U C z v : Nat → Int} (h : (!(coB p n U C && vectorsB p n 1 (oneV z v))) = false) : coOne p n U C v = true := by
  rw [one_vectors] at h; simpa [coOne] using h
theorem coOne_bad2 {p n : Int} {U C v : Nat → Int} (h : ((if (coB p n U C && entriesB p n v) = true then (0 : Int) else 1) != 0) = true) : coOne p n U C v = false := by
  cases hm : coOne p n U C v with
  | false => rfl
  | true => unfold coOne at hm; rw [if_pos hm] at h; simp at h
theorem coOne_ok2 {p n : Int} {U C v : Nat → Int} (h : ((if (coB p n U C && entriesB p n v) = true then (0 : Int) else 1) != 0) = false) : coOne p n U C v = true := by
  cases hm : coOne p n U C v with
  | true => rfl
  | false => unfold coOne at hm; rw [if_neg (by rw [hm]; simp)] at h; simp at h
theorem coOne_spec {p n : Int} {U C v : Nat → Int} (hU : isU8 8 U) (hC : isU8 512 C) (h : coOne p n U C v = true) : ∃ k : Nat, n = k ∧ Valid p k U (dualF C) ∧ ∀ i, k ≤ i → i < 8 → v i = 0 := by
  unfold coOne at h
  simp only [Bool.and_eq_true] at h
  obtain ⟨k, rfl, hV⟩ := coB_valid hU hC h.1
  exact ⟨k, rfl, hV, fun i h1 h2 => (entries_get h.2 h2).2 (by omega)⟩
theorem coOne_code {p n : Int} {U C v : Nat → Int} (h : coOne p n U C v = false) : (if (coB p n U C && entriesB p n v) = true then (0 : Int) else 1) = 1 := by
  unfold coOne at h; simp [h]

def counitV (p n : Int) (U C v : Nat → Int) : SV := .tcons (.int .i64 (if coOne p n U C v = true then cnt p U v else 0)) (.tcons (.int .i64 (if coOne p n U C v = true then 0 else 1)) .tnil)

def coprodV (p n : Int) (U C v : Nat → Int) : SV := .tcons (.ints .u8 64 fun q => if coOne p n U C v = true then leftT p C v q else 0) (.tcons (.int .i64 (if coOne p n U C v = true then 0 else 1)) .tnil)

def groupV (p n : Int) (U C v : Nat → Int) : SV := .tcons (.bool (coOne p n U C v && groupB p U C v)) (.tcons (.int .i64 (if coOne p n U C v = true then 0 else 1)) .tnil)

end Go.Proofs.Ytcocapkdpbdmdaa
