/- Coalgebras by tables: the dual algebra's table, and what its axioms say of the coalgebra. -/
import Derived.Test.YtcocapkdpbdmdaaProd
set_option linter.unusedVariables false
set_option linter.unusedSimpArgs false
set_option maxRecDepth 100000
namespace Go.Proofs.Ytcocapkdpbdmdaa
open M

/-- the table of the dual algebra -/
def dualF (C : Nat → Int) : Nat → Int := fun q => C ((q % 8) * 64 + (q / 64) * 8 + q / 8 % 8)
theorem dual_vec (C : Nat → Int) {i j k : Nat} (hi : i < 8) (hj : j < 8) (hk : k < 8) : vecT (dualF C) j k i = vecT C i j k := by
  unfold vecT dualF
  congr 1
  omega
theorem dual_u8 {C : Nat → Int} (h : isU8 512 C) : isU8 512 (dualF C) := fun q hq => h _ (by omega)

theorem tab_iff {p n : Int} {T : Nat → Int} : tabB p n T = true ↔ ∀ i j m, i < 8 → j < 8 → m < 8 → vecT T i j m < p ∧ ((n ≤ i ∨ n ≤ j ∨ n ≤ m) → vecT T i j m = 0) := by
  have e : ∀ i j m, vecT T i j m = partF (partF T 64 i) 8 j m := fun i j m => by unfold vecT partF; rw [Nat.add_assoc]
  constructor
  · intro ht
    have row : ∀ i, i < 8 → linB p n n (partF T 64 i) = true ∧ (n ≤ i → ∀ q, q < 64 → T (q + i * 64) = 0) := fun i hi => by
      have := List.all_eq_true.1 ht i (List.mem_range.2 hi)
      simp only [rowB, Bool.and_eq_true, Bool.or_eq_true, decide_eq_true_eq] at this
      refine ⟨this.1, fun hni q hq => ?_⟩
      rcases this.2 with h | h
      · omega
      · exact allEq_get h hq
    have image : ∀ i j, i < 8 → j < 8 → entriesB p n (partF (partF T 64 i) 8 j) = true ∧ (n ≤ j → ∀ q, q < 8 → T (q + j * 8 + i * 64) = 0) := fun i j hi hj => by
      have := List.all_eq_true.1 (row i hi).1 j (List.mem_range.2 hj)
      simp only [imageB, Bool.and_eq_true, Bool.or_eq_true, decide_eq_true_eq] at this
      refine ⟨this.1, fun hnj q hq => ?_⟩
      rcases this.2 with h | h
      · omega
      · exact allEq_get h hq
    intro i j m hi hj hm
    refine ⟨by rw [e]; exact (entries_get (image i j hi hj).1 hm).1, fun hz => ?_⟩
    rcases hz with hz | hz | hz
    · have := (row i hi).2 hz (m + j * 8) (by omega)
      unfold vecT; rw [← Nat.add_assoc]; exact this
    · have := (image i j hi hj).2 hz m hm
      unfold vecT; rw [← Nat.add_assoc]; exact this
    · rw [e]; exact (entries_get (image i j hi hj).1 hm).2 hz
  · intro h
    refine all8_yes fun i hi => ?_
    simp only [rowB, Bool.and_eq_true, Bool.or_eq_true, decide_eq_true_eq]
    refine ⟨all8_yes fun j hj => ?_, ?_⟩
    · simp only [imageB, Bool.and_eq_true, Bool.or_eq_true, decide_eq_true_eq]
      refine ⟨all8_yes fun m hm => ?_, ?_⟩
      · simp only [entryB, Bool.and_eq_true, Bool.or_eq_true, decide_eq_true_eq, beq_iff_eq]
        rw [← e]
        refine ⟨(h i j m hi hj hm).1, ?_⟩
        by_cases hmn : (m : Int) < n
        · exact .inl hmn
        · exact .inr ((h i j m hi hj hm).2 (.inr (.inr (by omega))))
      · by_cases hjn : (j : Int) < n
        · exact .inl hjn
        · refine .inr (List.all_eq_true.2 fun m hm => ?_)
          have hm := List.mem_range.1 hm
          rw [← e, (h i j m hi hj hm).2 (.inr (.inl (by omega)))]
          simp
    · by_cases hin : (i : Int) < n
      · exact .inl hin
      · refine .inr (List.all_eq_true.2 fun q hq => ?_)
        have hq := List.mem_range.1 hq
        have e2 : partF T 64 i q = vecT T i (q / 8) (q % 8) := by unfold partF vecT; congr 1; omega
        rw [e2, (h i (q / 8) (q % 8) hi (by omega) (by omega)).2 (.inl (by omega))]
        simp

theorem tab_dual (p n : Int) (C : Nat → Int) : tabB p n (dualF C) = tabB p n C := by
  rw [Bool.eq_iff_iff, tab_iff, tab_iff]
  constructor
  · intro h i j k hi hj hk
    have := h j k i hj hk hi
    rw [dual_vec C hi hj hk] at this
    exact ⟨this.1, fun hz => this.2 (by omega)⟩
  · intro h j k i hj hk hi
    rw [dual_vec C hi hj hk]
    have := h i j k hi hj hk
    exact ⟨this.1, fun hz => this.2 (by omega)⟩
theorem shape_dual (p n : Int) (U C : Nat → Int) : shapeB p n U (dualF C) = shapeB p n U C := by
  unfold shapeB
  rw [tab_dual]

/-- the two sums of coassociativity -/
def coL (n : Nat) (C : Nat → Int) (i j k l : Nat) : Int := sumN n fun a => vecT C i a l * vecT C a j k
def coR (n : Nat) (C : Nat → Int) (i j k l : Nat) : Int := sumN n fun a => vecT C i j a * vecT C a k l
def coOk (p : Int) (n : Nat) (C : Nat → Int) (i j k l : Nat) : Bool := decide (coL n C i j k l % p = coR n C i j k l % p)

section
variable {p : Int} {n : Nat} {U C : Nat → Int}

theorem co_zero (hV : Valid p n U (dualF C)) {i j k : Nat} (hi : i < 8) (hj : j < 8) (hk : k < 8) (h : n ≤ i ∨ n ≤ j ∨ n ≤ k) : vecT C i j k = 0 := by
  rw [← dual_vec C hi hj hk]
  exact hV.zero j k i hj hk hi (by omega)
theorem co_lt (hV : Valid p n U (dualF C)) {i j k : Nat} (hi : i < 8) (hj : j < 8) (hk : k < 8) : 0 ≤ vecT C i j k ∧ vecT C i j k < p := by
  rw [← dual_vec C hi hj hk]
  exact hV.lt j k i hj hk hi

theorem right_co (hV : Valid p n U (dualF C)) {i j k m : Nat} (hi : i < 8) (hj : j < 8) (hk : k < 8) (hm : m < 8) : rightF p (dualF C) (vecT (dualF C) i j) k m = coL n C m i j k % p := by
  have hn := hV.hn
  unfold rightF coL
  rw [linS_cut 8 hn (fun a h1 h2 => hV.zero i j a hi hj h2 (.inr (.inr h1))), linS_sum]
  congr 1
  refine sumN_congr n fun a ha => ?_
  have e : rowT (flipF (dualF C)) k (a * 8 + m) = vecT (dualF C) a k m := by unfold rowT flipF vecT; congr 1; omega
  rw [e, dual_vec C hm (by omega) hk, dual_vec C (by omega) hi hj, Int.mul_comm]
theorem left_co (hV : Valid p n U (dualF C)) {i j k m : Nat} (hi : i < 8) (hj : j < 8) (hk : k < 8) (hm : m < 8) : leftF p (dualF C) i (vecT (dualF C) j k) m = coR n C m i j k % p := by
  have hn := hV.hn
  unfold leftF coR
  rw [linS_cut 8 hn (fun a h1 h2 => hV.zero j k a hj hk h2 (.inr (.inr h1))), linS_sum]
  congr 1
  refine sumN_congr n fun a ha => ?_
  have e : rowT (dualF C) i (a * 8 + m) = vecT (dualF C) i a m := by unfold rowT vecT; congr 1; omega
  rw [e, dual_vec C hm hi (by omega), dual_vec C (by omega) hj hk, Int.mul_comm]
theorem co_behind (hV : Valid p n U (dualF C)) {i j k l : Nat} (hi : i < 8) (hj : j < 8) (hk : k < 8) (hl : l < 8) (h : n ≤ i) : coOk p n C i j k l = true := by
  have hn := hV.hn
  unfold coOk coL coR
  rw [sumN_none n fun a ha => by rw [co_zero hV hi (by omega) hl (.inl h)]; simp, sumN_none n fun a ha => by rw [co_zero hV hi hj (by omega) (.inl h)]; simp]
  simp

def coAss (p : Int) (n : Nat) (C : Nat → Int) : Prop := ∀ i j k l, i < n → j < n → k < n → l < n → coOk p n C i j k l = true
theorem okF_co (hV : Valid p n U (dualF C)) {i j k : Nat} (hi : i < n) (hj : j < n) (hk : k < n) : okF p (dualF C) i j k = true ↔ ∀ m, m < n → coOk p n C m i j k = true := by
  have hn := hV.hn
  unfold okF
  constructor
  · intro h m hm
    have := allEq_get h (show m < 8 by omega)
    rw [right_co hV (by omega) (by omega) (by omega) (by omega), left_co hV (by omega) (by omega) (by omega) (by omega)] at this
    simpa [coOk] using this
  · intro h
    refine List.all_eq_true.2 fun m hm => ?_
    have hm := List.mem_range.1 hm
    rw [right_co hV (by omega) (by omega) (by omega) hm, left_co hV (by omega) (by omega) (by omega) hm]
    have : coOk p n C m i j k = true := by
      by_cases hmn : m < n
      · exact h m hmn
      · exact co_behind hV hm (by omega) (by omega) (by omega) (by omega)
    simpa [coOk] using this
theorem ass_co (hV : Valid p n U (dualF C)) : assB p n (dualF C) ↔ coAss p n C := by
  constructor
  · intro h i j k l hi hj hk hl
    exact (okF_co hV hj hk hl).1 (h j k l hj hk hl) i hi
  · intro h i j k hi hj hk
    exact (okF_co hV hi hj hk).2 fun m hm => h m i j k hm hi hj hk
theorem assL_co (hV : Valid p n U (dualF C)) : assL p n (dualF C) = true ↔ coAss p n C := by
  rw [← ass_co hV]
  constructor
  · intro h i j k hi hj hk
    exact List.all_eq_true.1 (List.all_eq_true.1 (List.all_eq_true.1 h i (List.mem_range.2 hi)) j (List.mem_range.2 hj)) k (List.mem_range.2 hk)
  · exact assL_yes

/-- what the counit gives on the left and on the right -/
def couA (p : Int) (n : Nat) (U C : Nat → Int) (i m : Nat) : Int := linS (rowT C i) U n m % p
def couB (p : Int) (n : Nat) (U C : Nat → Int) (i j : Nat) : Int := sumN n (fun a => U a * vecT C i j a) % p
def couOk (p : Int) (n : Nat) (U C : Nat → Int) (i : Nat) : Bool := allEq 8 (couA p n U C i) (unitV i) && allEq 8 (fun j => if j < n then couB p n U C i j else 0) (unitV i)

theorem couA_sum (i m : Nat) (hm : m < 8) : couA p n U C i m = sumN n (fun a => U a * vecT C i a m) % p := by
  unfold couA
  rw [linS_sum]
  congr 1
  refine sumN_congr n fun a ha => ?_
  have e : rowT C i (a * 8 + m) = vecT C i a m := by unfold rowT vecT; congr 1; omega
  rw [e]
theorem right_cou (hV : Valid p n U (dualF C)) {i m : Nat} (hi : i < 8) (hm : m < 8) : rightF p (dualF C) U i m = couA p n U C m i := by
  have hn := hV.hn
  rw [couA_sum m i hi]
  unfold rightF
  rw [linS_cut 8 hn (fun a h1 h2 => hV.uzero a h2 h1), linS_sum]
  congr 1
  refine sumN_congr n fun a ha => ?_
  have e : rowT (flipF (dualF C)) i (a * 8 + m) = vecT (dualF C) a i m := by unfold rowT flipF vecT; congr 1; omega
  rw [e, dual_vec C hm (by omega) hi]
theorem left_cou (hV : Valid p n U (dualF C)) {i m : Nat} (hi : i < 8) (hm : m < 8) : leftF p (dualF C) i U m = couB p n U C m i := by
  have hn := hV.hn
  unfold leftF couB
  rw [linS_cut 8 hn (fun a h1 h2 => hV.uzero a h2 h1), linS_sum]
  congr 1
  refine sumN_congr n fun a ha => ?_
  have e : rowT (dualF C) i (a * 8 + m) = vecT (dualF C) i a m := by unfold rowT vecT; congr 1; omega
  rw [e, dual_vec C hm hi (by omega)]
theorem couA_zero (hV : Valid p n U (dualF C)) {i m : Nat} (hi : i < 8) (hm : m < 8) (h : n ≤ i ∨ n ≤ m) : couA p n U C i m = 0 := by
  have hn := hV.hn
  rw [couA_sum i m hm, sumN_none n fun a ha => by rw [co_zero hV hi (by omega) hm (by omega)]; simp]
  simp
theorem couB_zero (hV : Valid p n U (dualF C)) {i m : Nat} (hi : i < 8) (hm : m < 8) (h : n ≤ i ∨ n ≤ m) : couB p n U C i m = 0 := by
  have hn := hV.hn
  unfold couB
  rw [sumN_none n fun a ha => by rw [co_zero hV hi hm (by omega) (by omega)]; simp]
  simp
theorem unitV_sym (i m : Nat) : unitV i m = unitV m i := by
  unfold unitV
  by_cases h : m = i
  · rw [if_pos h, if_pos h.symm]
  · rw [if_neg h, if_neg (fun e => h e.symm)]
theorem unitV_ne {i m : Nat} (h : m ≠ i) : unitV i m = 0 := by unfold unitV; rw [if_neg h]

theorem unit_co (hV : Valid p n U (dualF C)) : unitB p n U (dualF C) = true ↔ ∀ i, i < n → couOk p n U C i = true := by
  have hn := hV.hn
  constructor
  · intro h i hi
    have get : ∀ m, m < n → couA p n U C i m = unitV m i ∧ couB p n U C i m = unitV m i := fun m hm => by
      have := List.all_eq_true.1 h m (List.mem_range.2 hm)
      simp only [unitOk, Bool.and_eq_true] at this
      have h1 := allEq_get this.1 (show i < 8 by omega)
      have h2 := allEq_get this.2 (show i < 8 by omega)
      rw [right_cou hV (by omega) (by omega)] at h1
      rw [left_cou hV (by omega) (by omega)] at h2
      exact ⟨h1, h2⟩
    simp only [couOk, Bool.and_eq_true]
    refine ⟨List.all_eq_true.2 fun m hm => ?_, List.all_eq_true.2 fun m hm => ?_⟩
    · have hm := List.mem_range.1 hm
      by_cases hmn : m < n
      · rw [(get m hmn).1, unitV_sym]; simp
      · rw [couA_zero hV (by omega) hm (by omega), unitV_ne (by omega)]; simp
    · have hm := List.mem_range.1 hm
      dsimp only
      by_cases hmn : m < n
      · rw [if_pos hmn, (get m hmn).2, unitV_sym]; simp
      · rw [if_neg hmn, unitV_ne (by omega)]; simp
  · intro h
    refine unitB_yes fun i hi => ?_
    have get : ∀ m, m < n → couA p n U C m i = unitV i m ∧ couB p n U C m i = unitV i m := fun m hm => by
      have := h m hm
      simp only [couOk, Bool.and_eq_true] at this
      have h1 := allEq_get this.1 (show i < 8 by omega)
      have h2 := allEq_get this.2 (show i < 8 by omega)
      rw [if_pos hi] at h2
      rw [unitV_sym i m]
      exact ⟨h1, h2⟩
    simp only [unitOk, Bool.and_eq_true]
    refine ⟨List.all_eq_true.2 fun m hm => ?_, List.all_eq_true.2 fun m hm => ?_⟩
    · have hm := List.mem_range.1 hm
      rw [right_cou hV (by omega) hm]
      by_cases hmn : m < n
      · rw [(get m hmn).1]; simp
      · rw [couA_zero hV hm (by omega) (by omega), unitV_ne (by omega)]; simp
    · have hm := List.mem_range.1 hm
      rw [left_cou hV (by omega) hm]
      by_cases hmn : m < n
      · rw [(get m hmn).2]; simp
      · rw [couB_zero hV hm (by omega) (by omega), unitV_ne (by omega)]; simp
end
end Go.Proofs.Ytcocapkdpbdmdaa
