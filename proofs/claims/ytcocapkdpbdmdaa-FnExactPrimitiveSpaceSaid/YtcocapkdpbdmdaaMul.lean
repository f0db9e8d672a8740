/- Products of vectors: both sides, and the law. -/
import Derived.Test.YtcocapkdpbdmdaaProd
set_option linter.unusedVariables false
set_option linter.unusedSimpArgs false
set_option maxRecDepth 100000
namespace Go.Proofs.Ytcocapkdpbdmdaa
open M

/-- two vectors one behind the other -/
def twoV (z v w : Nat → Int) : Nat → Int := updR (updR z (0 * 8) 8 v) (1 * 8) 8 w
theorem two_0 (z v w : Nat → Int) : ∀ j, j < 8 → partF (twoV z v w) 8 0 j = v j := fun j hj => by
  unfold partF twoV updR; rw [if_neg (by omega), if_pos (by omega)]; congr 1
theorem two_1 (z v w : Nat → Int) : ∀ j, j < 8 → partF (twoV z v w) 8 1 j = w j := fun j hj => by
  unfold partF twoV updR; rw [if_pos (by omega)]; congr 1
theorem two_vectors (p n : Int) (z v w : Nat → Int) : vectorsB p n 2 (twoV z v w) = (entriesB p n v && entriesB p n w) := by
  show ((List.range 2).all fun i => entriesB p n (partF (twoV z v w) 8 i)) = _
  simp only [List.range_succ, List.range_zero, List.nil_append, List.all_append, List.all_cons, List.all_nil, Bool.and_true]
  rw [entriesB_congr (two_0 z v w), entriesB_congr (two_1 z v w)]
theorem two_u8 {z v w : Nat → Int} (hv : isU8 8 v) (hw : isU8 8 w) : isU8 (2 * 8) (twoV z v w) := fun j hj => by
  by_cases h : j < 8
  · have := two_0 z v w j h
    unfold partF at this
    rw [show j + 0 * 8 = j by omega] at this
    rw [this]; exact hv j h
  · have := two_1 z v w (j - 8) (by omega)
    unfold partF at this
    rw [show j - 8 + 1 * 8 = j by omega] at this
    rw [this]; exact hw _ (by omega)

def mulOk (p n : Int) (U T v w : Nat → Int) : Bool := algB p n U T && (entriesB p n v && entriesB p n w)
def mulV (p n : Int) (U T v w : Nat → Int) : SV := .tcons (.ints .u8 8 fun j => if mulOk p n U T v w = true then prodF p T v w j else 0) (.tcons (.int .i64 (if mulOk p n U T v w = true then 0 else 1)) .tnil)

theorem algB_valid {p n : Int} {U T : Nat → Int} (hU : isU8 8 U) (hT : isU8 512 T) (h : algB p n U T = true) : ∃ k : Nat, n = k ∧ Valid p k U T := by
  unfold algB at h
  simp only [Bool.and_eq_true] at h
  obtain ⟨k, rfl⟩ : ∃ k : Nat, n = k := ⟨n.toNat, by have := (field_bounds (shape_field h.1)).2; omega⟩
  exact ⟨k, rfl, valid_of hU hT h.1⟩

theorem eqVector_s (v w : Nat → Int) : Spec Try.prog 34 [.ints .u8 8 v, .ints .u8 8 w] [] (Ret (.bool (allEq 8 v w))) := by
  refine Spec.ret rfl (Spec.of_vc tabOK tabEq Try.func34 rfl (by kernel_rfl) rfl rfl ?_)
  refine LoopVC.of (fun i : Nat => i ≤ 8 ∧ ∀ j, j < i → v j = w j) (fun i => [(2, .ptr 0 [] 0 0), (3, .ptr 1 [] 0 0), (5, .int .i64 i)]) (fun _ => [some (.ints .u8 8 v, 8), some (.ints .u8 8 w, 8)]) (fun i => 8 - i) 0 ⟨by omega, fun j hj => by omega⟩ ?_ ?_ ?_
  · exact And.intro rfl (And.intro rfl (And.intro rfl trivial))
  · exact And.intro (And.intro (rowEq fun _ _ => rfl) rfl) (And.intro (And.intro (rowEq fun _ _ => rfl) rfl) trivial)
  · rintro i ⟨hi, hall⟩
    refine ifVC_split (fun h => ?_) (fun h => ?_)
    · have hlt := of_decide_eq_true h
      refine Exists.intro 6 (And.intro (by kernel_rfl) ?_)
      refine And.intro ⟨by omega, by omega⟩ ?_
      refine And.intro (by omega) ?_
      refine And.intro ⟨by omega, by omega⟩ ?_
      refine And.intro (by omega) ?_
      have hidx : (i : Int).toNat * 1 + 0 = i := by omega
      refine ifVC_split (fun hc => ?_) (fun hc => ?_)
      · have hc : v i ≠ w i := by
          have hc : v ((i : Int).toNat * 1 + 0) ≠ w ((i : Int).toNat * 1 + 0) := by simpa using hc
          rw [hidx] at hc; exact hc
        refine boolEq ?_
        cases hb : allEq 8 v w with
        | false => rfl
        | true => exact absurd (allEq_get hb (by omega)) hc
      · have hc : v i = w i := by
          have hc : v ((i : Int).toNat * 1 + 0) = w ((i : Int).toNat * 1 + 0) := by simpa using hc
          rw [hidx] at hc; exact hc
        refine Exists.intro (i + 1) (And.intro ⟨by omega, fun j hj => ?_⟩ (And.intro (by omega) (And.intro ?_ ?_)))
        · by_cases hji : j = i
          · subst hji; exact hc
          · exact hall j (by omega)
        · exact And.intro rfl (And.intro rfl (And.intro (slotI (wrapS (by omega))) trivial))
        · exact And.intro (And.intro (rowEq fun _ _ => rfl) rfl) (And.intro (And.intro (rowEq fun _ _ => rfl) rfl) trivial)
    · have hge := of_decide_eq_false h
      obtain rfl : i = 8 := by omega
      refine boolEq ?_
      unfold allEq
      exact (List.all_eq_true.2 fun j hj => by simp [hall j (List.mem_range.1 hj)]).symm

end Go.Proofs.Ytcocapkdpbdmdaa
