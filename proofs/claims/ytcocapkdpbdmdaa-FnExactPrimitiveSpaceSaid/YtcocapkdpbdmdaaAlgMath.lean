/- Associativity and the unit, as both sides reckon them. -/
import Derived.Test.YtcocapkdpbdmdaaShape
set_option linter.unusedVariables false
set_option linter.unusedSimpArgs false
set_option maxRecDepth 100000
namespace Go.Proofs.Ytcocapkdpbdmdaa
open M

theorem field_bounds {p n : Int} (h : fieldB p n = true) : (0 < p ∧ p < 256) ∧ 1 ≤ n ∧ n ≤ 8 := by
  unfold fieldB at h
  simp only [Bool.and_eq_true, decide_eq_true_eq] at h
  obtain ⟨h1, h2⟩ := h
  refine ⟨?_, h2⟩
  by_cases hp : p < 2
  · rw [primeB_out (.inl hp)] at h1; cases h1
  · by_cases hp' : 31 < p
    · rw [primeB_out (.inr hp')] at h1; cases h1
    · omega

/-- the product of the basis elements i and j -/
def vecT (T : Nat → Int) (i j : Nat) : Nat → Int := fun m => T (m + (j * 8 + i * 64))

structure Valid (p : Int) (n : Nat) (U T : Nat → Int) : Prop where
  hp : 0 < p ∧ p < 256
  hn : n ≤ 8
  lt : ∀ i j m, i < 8 → j < 8 → m < 8 → 0 ≤ vecT T i j m ∧ vecT T i j m < p
  zero : ∀ i j m, i < 8 → j < 8 → m < 8 → (n ≤ i ∨ n ≤ j ∨ n ≤ m) → vecT T i j m = 0
  uzero : ∀ i, i < 8 → n ≤ i → U i = 0
  ult : ∀ i, i < 8 → 0 ≤ U i ∧ U i < p

theorem entries_get {p n : Int} {v : Nat → Int} (h : entriesB p n v = true) {i : Nat} (hi : i < 8) : v i < p ∧ (n ≤ i → v i = 0) := by
  have := List.all_eq_true.1 h i (List.mem_range.2 hi)
  simp only [entryB, Bool.and_eq_true, Bool.or_eq_true, decide_eq_true_eq, beq_iff_eq] at this
  refine ⟨this.1, fun hn => ?_⟩
  rcases this.2 with h | h
  · omega
  · exact h
theorem allEq_get {n : Nat} {v w : Nat → Int} (h : allEq n v w = true) {i : Nat} (hi : i < n) : v i = w i := by
  have := List.all_eq_true.1 h i (List.mem_range.2 hi)
  simpa using this

theorem valid_of {p : Int} {n : Nat} {U T : Nat → Int} (hU : isU8 8 U) (hT : isU8 512 T) (h : shapeB p n U T = true) : Valid p n U T := by
  unfold shapeB vectorB at h
  simp only [Bool.and_eq_true] at h
  obtain ⟨⟨hf, he⟩, ht⟩ := h
  obtain ⟨hp, hn1, hn8⟩ := field_bounds hf
  have row : ∀ i, i < 8 → linB p n n (partF T 64 i) = true ∧ (n ≤ i → ∀ q, q < 64 → T (q + i * 64) = 0) := fun i hi => by
    have := List.all_eq_true.1 ht i (List.mem_range.2 hi)
    simp only [rowB, Bool.and_eq_true, Bool.or_eq_true, decide_eq_true_eq] at this
    refine ⟨this.1, fun hni q hq => ?_⟩
    rcases this.2 with h | h
    · omega
    · exact allEq_get h hq
  have image : ∀ i j, i < 8 → j < 8 → entriesB p n (partF (partF T 64 i) 8 j) = true ∧ (n ≤ j → ∀ q, q < 8 → T (q + j * 8 + i * 64) = 0) := fun i j hi hj => by
    have := List.all_eq_true.1 (row i hi).1 j (List.mem_range.2 hj)
    simp only [imageB, Bool.and_eq_true, Bool.or_eq_true, decide_eq_true_eq] at this
    refine ⟨this.1, fun hnj q hq => ?_⟩
    rcases this.2 with h | h
    · omega
    · exact allEq_get h hq
  have eq : ∀ i j m, vecT T i j m = partF (partF T 64 i) 8 j m := fun i j m => by unfold vecT partF; rw [Nat.add_assoc]
  refine ⟨hp, by omega, fun i j m hi hj hm => ⟨(hT _ (by omega)).1, ?_⟩, fun i j m hi hj hm hz => ?_, fun i hi hni => (entries_get he hi).2 (by omega), fun i hi => ⟨(hU i hi).1, (entries_get he hi).1⟩⟩
  · rw [eq]; exact (entries_get (image i j hi hj).1 hm).1
  · rcases hz with hz | hz | hz
    · have := (row i hi).2 hz (m + j * 8) (by omega)
      unfold vecT; rw [← Nat.add_assoc]; exact this
    · have := (image i j hi hj).2 hz m hm
      unfold vecT; rw [← Nat.add_assoc]; exact this
    · rw [eq]; exact (entries_get (image i j hi hj).1 hm).2 (by omega)

theorem linS_congr {F G v v' : Nat → Int} {j : Nat} : ∀ k : Nat, (∀ i, i < k → v i * F (i * 8 + j) = v' i * G (i * 8 + j)) → linS F v k j = linS G v' k j
  | 0, _ => rfl
  | k + 1, h => by
    show linS F v k j + v k * F (k * 8 + j) = linS G v' k j + v' k * G (k * 8 + j)
    rw [linS_congr k fun i hi => h i (by omega), h k (by omega)]
theorem linS_cut {F v : Nat → Int} {n j : Nat} : ∀ k : Nat, n ≤ k → (∀ i, n ≤ i → i < k → v i = 0) → linS F v k j = linS F v n j
  | 0, h, _ => by obtain rfl : n = 0 := by omega
                  rfl
  | k + 1, h, hz => by
    rcases Nat.lt_or_ge n (k + 1) with h' | h'
    · show linS F v k j + v k * F (k * 8 + j) = _
      rw [linS_cut k (by omega) fun i h1 h2 => hz i h1 (by omega), hz k (by omega) (by omega)]
      simp
    · obtain rfl : n = k + 1 := by omega
      rfl
theorem linS_unit (F : Nat → Int) (k j : Nat) : ∀ n : Nat, linS F (unitV k) n j = if k < n then F (k * 8 + j) else 0
  | 0 => by simp [linS]
  | n + 1 => by
    show linS F (unitV k) n j + unitV k n * F (n * 8 + j) = _
    rw [linS_unit F k j n]
    by_cases h1 : k < n
    · rw [if_pos h1, if_pos (by omega), show unitV k n = 0 by unfold unitV; rw [if_neg (by omega)]]; simp
    · rw [if_neg h1]
      by_cases h2 : k = n
      · subst h2; rw [if_pos (by omega), show unitV k k = 1 by unfold unitV; rw [if_pos rfl]]; simp
      · rw [if_neg (by omega), show unitV k n = 0 by unfold unitV; rw [if_neg (fun e => h2 e.symm)]]; simp

/-- the product from the right with the basis element k, and from the left with i -/
def rightF (p : Int) (T v : Nat → Int) (k : Nat) : Nat → Int := fun m => linS (rowT (flipF T) k) v 8 m % p
def leftF (p : Int) (T : Nat → Int) (i : Nat) (v : Nat → Int) : Nat → Int := fun m => linS (rowT T i) v 8 m % p

theorem times_unit {p : Int} {n : Nat} {U T v : Nat → Int} (hV : Valid p n U T) (hv : ∀ i, n ≤ i → i < 8 → v i = 0) {k m : Nat} (hk : k < n) (hm : m < 8) : timS p n T v (unitV k) n m % p = rightF p T v k m := by
  have hn := hV.hn
  have key : ∀ a, a ≤ 8 → timS p n T v (unitV k) a m = linS (rowT (flipF T) k) v a m := by
    intro a
    induction a with
    | zero => intro _; rfl
    | succ a ih =>
      intro ha
      show timS p n T v (unitV k) a m + v a * (linS (rowT T a) (unitV k) n m % p) = linS (rowT (flipF T) k) v a m + v a * rowT (flipF T) k (a * 8 + m)
      rw [ih (by omega), linS_unit, if_pos hk]
      have e1 : rowT T a (k * 8 + m) = vecT T a k m := by unfold rowT vecT; congr 1; omega
      have e2 : rowT (flipF T) k (a * 8 + m) = vecT T a k m := by unfold rowT flipF vecT; congr 1; omega
      have := hV.lt a k m (by omega) (by omega) hm
      rw [e1, e2, Int.emod_eq_of_lt this.1 this.2]
  unfold rightF
  rw [key n hn, linS_cut 8 hn hv]

theorem unit_times {p : Int} {n : Nat} {U T v : Nat → Int} (hV : Valid p n U T) (hv : ∀ i, n ≤ i → i < 8 → v i = 0) {i m : Nat} (hi : i < n) (hm : m < 8) : timS p n T (unitV i) v n m % p = leftF p T i v m := by
  have hn := hV.hn
  have key : ∀ a, timS p n T (unitV i) v a m = if i < a then linS (rowT T i) v n m % p else 0 := by
    intro a
    induction a with
    | zero => simp [timS]
    | succ a ih =>
      show timS p n T (unitV i) v a m + unitV i a * (linS (rowT T a) v n m % p) = _
      rw [ih]
      by_cases h1 : i < a
      · rw [if_pos h1, if_pos (by omega), show unitV i a = 0 by unfold unitV; rw [if_neg (by omega)]]; simp
      · rw [if_neg h1]
        by_cases h2 : i = a
        · subst h2; rw [if_pos (by omega), show unitV i i = 1 by unfold unitV; rw [if_pos rfl]]; simp
        · rw [if_neg (by omega), show unitV i a = 0 by unfold unitV; rw [if_neg (fun e => h2 e.symm)]]; simp
  unfold leftF
  rw [key, if_pos hi, Int.emod_emod, linS_cut 8 hn hv]

/-- whether i, j, k are no fault -/
def okF (p : Int) (T : Nat → Int) (i j k : Nat) : Bool := allEq 8 (rightF p T (vecT T i j) k) (leftF p T i (vecT T j k))
def assB (p : Int) (n : Nat) (T : Nat → Int) : Prop := ∀ i j k, i < n → j < n → k < n → okF p T i j k = true
def unitOk (p : Int) (U T : Nat → Int) (i : Nat) : Bool := allEq 8 (rightF p T U i) (unitV i) && allEq 8 (leftF p T i U) (unitV i)
end Go.Proofs.Ytcocapkdpbdmdaa
