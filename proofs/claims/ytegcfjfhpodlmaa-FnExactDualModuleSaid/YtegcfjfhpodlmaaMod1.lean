/- Modules of a Hopf algebra: their form, what vectors make of vectors, and what is asked of modules. -/
import Derived.Test.YtegcfjfhpodlmaaHop7
set_option linter.unusedVariables false
set_option linter.unusedSimpArgs false
set_option maxRecDepth 100000
set_option maxHeartbeats 1000000
namespace Go.Proofs.Ytegcfjfhpodlmaa
open M

/-- a module as plain data -/
def modV (d : Int) (A : Nat → Int) : SV := .pair (.int .i64 d) (.pair (.ints .u8 512 A) .unit)
theorem modR (d : Int) (A : Nat → Int) : SV.eqv (modV d A) (modV d A) := And.intro rfl (And.intro (rowEq fun _ _ => rfl) rfl)
theorem modE (d : Int) {A B : Nat → Int} (h : ∀ q, q < 512 → A q = B q) : SV.eqv (modV d A) (modV d B) := And.intro rfl (And.intro (rowEq h) rfl)

/-- what is asked of a module's maps: their form -/
structure ModP (p : Int) (n d : Nat) (A : Nat → Int) : Prop where
  d1 : 1 ≤ d
  d8 : d ≤ 8
  lt : ∀ i j m, i < 8 → j < 8 → m < 8 → 0 ≤ vecT A i j m ∧ vecT A i j m < p
  zero : ∀ i j m, i < 8 → j < 8 → m < 8 → (n ≤ i ∨ d ≤ j ∨ d ≤ m) → vecT A i j m = 0

theorem mod_of {p : Int} {n d : Nat} {A : Nat → Int} (hA : isU8 512 A) (hf : fieldB p d = true) (h : tabCB p n d A = true) : ModP p n d A := by
  obtain ⟨hp, hn1, hn8⟩ := field_bounds hf
  have row : ∀ i, i < 8 → linB p d d (partF A 64 i) = true ∧ (n ≤ i → ∀ q, q < 64 → A (q + i * 64) = 0) := fun i hi => by
    have := List.all_eq_true.1 h i (List.mem_range.2 hi)
    simp only [rowCB, Bool.and_eq_true, Bool.or_eq_true, decide_eq_true_eq] at this
    refine ⟨this.1, fun hni q hq => ?_⟩
    rcases this.2 with h | h
    · omega
    · exact allEq_get h hq
  have image : ∀ i j, i < 8 → j < 8 → entriesB p d (partF (partF A 64 i) 8 j) = true ∧ (d ≤ j → ∀ q, q < 8 → A (q + j * 8 + i * 64) = 0) := fun i j hi hj => by
    have := List.all_eq_true.1 (row i hi).1 j (List.mem_range.2 hj)
    simp only [imageB, Bool.and_eq_true, Bool.or_eq_true, decide_eq_true_eq] at this
    refine ⟨this.1, fun hnj q hq => ?_⟩
    rcases this.2 with h | h
    · omega
    · exact allEq_get h hq
  have eq : ∀ i j m, vecT A i j m = partF (partF A 64 i) 8 j m := fun i j m => by unfold vecT partF; rw [Nat.add_assoc]
  refine ⟨by omega, by omega, fun i j m hi hj hm => ⟨(hA _ (by omega)).1, ?_⟩, fun i j m hi hj hm hz => ?_⟩
  · rw [eq]; exact (entries_get (image i j hi hj).1 hm).1
  · rcases hz with hz | hz | hz
    · have := (row i hi).2 hz (m + j * 8) (by omega)
      unfold vecT; rw [← Nat.add_assoc]; exact this
    · have := (image i j hi hj).2 hz m hm
      unfold vecT; rw [← Nat.add_assoc]; exact this
    · rw [eq]; exact (entries_get (image i j hi hj).1 hm).2 (by omega)

/-! ### what a vector makes of a vector -/
theorem act_eq {p : Int} {n d : Nat} {A v w : Nat → Int} (hn : n ≤ 8) (hd : d ≤ 8) (hv : ∀ i, n ≤ i → i < 8 → v i = 0) (hw : ∀ i, d ≤ i → i < 8 → w i = 0) {m : Nat} (hm : m < 8) : timS p d A v w n m % p = prodF p A v w m := by
  unfold prodF
  rw [linS_cut 8 hd hw, timS_sum, linS_sum, sumN_mod]
  have e : sumN d (fun j => w j * leftT p A v (j * 8 + m)) % p = sumN d (fun j => w j * linS (rowT (flipF A) j) v n m) % p := by
    rw [← sumN_mod p w fun j => linS (rowT (flipF A) j) v n m]
    congr 1
    refine sumN_congr d fun j hj => ?_
    unfold leftT rightF
    rw [show (j * 8 + m) / 8 = j by omega, show (j * 8 + m) % 8 = m by omega, linS_cut 8 hn hv]
  rw [e]
  congr 1
  have l : sumN n (fun i => v i * linS (rowT A i) w d m) = sumN n (fun i => sumN d fun j => v i * (w j * vecT A i j m)) := sumN_congr n fun i hi => by
    rw [linS_sum, sumN_mul]
    refine sumN_congr d fun j hj => ?_
    rw [show rowT A i (j * 8 + m) = vecT A i j m by unfold rowT vecT; congr 1; omega]
  have r : sumN d (fun j => w j * linS (rowT (flipF A) j) v n m) = sumN d (fun j => sumN n fun i => v i * (w j * vecT A i j m)) := sumN_congr d fun j hj => by
    rw [linS_sum, sumN_mul]
    refine sumN_congr n fun i hi => ?_
    rw [show rowT (flipF A) j (i * 8 + m) = vecT A i j m by unfold rowT flipF vecT; congr 1; omega, ← Int.mul_assoc, Int.mul_comm (w j), Int.mul_assoc]
  rw [l, r, sumN_swap]
theorem act_unit {p : Int} {n d : Nat} {A v : Nat → Int} (hn : n ≤ 8) (hd : d ≤ 8) (hv : ∀ i, n ≤ i → i < 8 → v i = 0) {k m : Nat} (hk : k < d) (hm : m < 8) : timS p d A v (unitV k) n m % p = leftT p A v (k * 8 + m) := by
  rw [act_eq hn hd hv (fun i h1 h2 => by unfold unitV; rw [if_neg (by omega)]) hm, prodF_unit A v (by omega)]
  unfold leftT rightF
  rw [Int.emod_emod]

theorem left_zero {p : Int} {n d : Nat} {A : Nat → Int} (h : ModP p n d A) (v : Nat → Int) {q : Nat} (hq : q < 64) (hz : d ≤ q / 8 ∨ d ≤ q % 8) : leftT p A v q = 0 := by
  unfold leftT rightF
  rw [linS_sum, sumN_none 8 fun i hi => by
    have := h.zero i (q / 8) (q % 8) hi (by omega) (by omega) (by omega)
    rw [show rowT (flipF A) (q / 8) (i * 8 + q % 8) = vecT A i (q / 8) (q % 8) by unfold rowT flipF vecT; congr 1; omega, this]
    simp]
  simp
theorem then_zero {p : Int} {n d : Nat} {A : Nat → Int} (h : ModP p n d A) {i j q : Nat} (hi : i < 8) (hj : j < 8) (hq : q < 64) (hz : d ≤ q / 8 ∨ d ≤ q % 8) : thenF p (partF A 64 i) (partF A 64 j) q = 0 := by
  unfold thenF
  rw [linS_sum, sumN_none 8 fun a ha => by
    rcases hz with hz | hz
    · have := h.zero j (q / 8) a hj (by omega) ha (.inr (.inl hz))
      rw [show partF (partF A 64 j) 8 (q / 8) a = vecT A j (q / 8) a by unfold partF vecT; congr 1; omega, this]
      simp
    · have := h.zero i a (q % 8) hi ha (by omega) (.inr (.inr hz))
      rw [show partF A 64 i (a * 8 + q % 8) = vecT A i a (q % 8) by unfold partF vecT; congr 1; omega, this]
      simp]
  simp

/-! ### what is asked of the actions -/
def keepIJ (p : Int) (T A : Nat → Int) (i j : Nat) : Bool := allEq 64 (leftT p A (vecT T i j)) (thenF p (partF A 64 i) (partF A 64 j))
def keepB (p : Int) (n d : Nat) (U T A : Nat → Int) : Bool := all2 n (keepIJ p T A) && allEq 64 (leftT p A U) (idF d)
def mdlB (p n d : Int) (U T A : Nat → Int) : Bool := fieldB p d && (tabCB p n d A && keepB p n.toNat d.toNat U T A)
/-- the same, by the basis elements of the module -/
def rowIJ (p : Int) (T A : Nat → Int) (k i j : Nat) : Bool := allEq 8 (partF (leftT p A (vecT T i j)) 8 k) (partF (thenF p (partF A 64 i) (partF A 64 j)) 8 k)
def rowKB (p : Int) (n : Nat) (U T A : Nat → Int) (k : Nat) : Bool := allEq 8 (partF (leftT p A U) 8 k) (unitV k) && all2 n (rowIJ p T A k)

theorem allEq64_rows {d : Nat} {F G : Nat → Int} (hF : ∀ q, q < 64 → d ≤ q / 8 → F q = G q) (h : ∀ k, k < d → allEq 8 (partF F 8 k) (partF G 8 k) = true) : allEq 64 F G = true := by
  refine List.all_eq_true.2 fun q hq => ?_
  have hq := List.mem_range.1 hq
  rw [beq_iff_eq]
  rcases Nat.lt_or_ge (q / 8) d with h1 | h1
  · have := allEq_get (h _ h1) (show q % 8 < 8 by omega)
    unfold partF at this
    rw [show q % 8 + q / 8 * 8 = q by omega] at this
    exact this
  · exact hF q hq h1
theorem allEq64_row {F G : Nat → Int} (h : allEq 64 F G = true) {k : Nat} (hk : k < 8) : allEq 8 (partF F 8 k) (partF G 8 k) = true :=
  List.all_eq_true.2 fun q hq => by
    have hq := List.mem_range.1 hq
    rw [beq_iff_eq]
    exact allEq_get h (show q + k * 8 < 64 by omega)
theorem id_part {d k : Nat} (hk : k < d) {m : Nat} (hm : m < 8) : partF (idF d) 8 k m = unitV k m := by
  unfold partF idF
  rw [show (m + k * 8) / 8 = k by omega, show (m + k * 8) % 8 = m by omega, if_pos hk]

theorem keep_rows {p : Int} {n d : Nat} {U T A : Nat → Int} (hn : n ≤ 8) (h : ModP p n d A) : keepB p n d U T A = (List.range d).all (rowKB p n U T A) := by
  have hd := h.d8
  rw [Bool.eq_iff_iff]
  unfold keepB
  rw [Bool.and_eq_true, List.all_eq_true]
  constructor
  · rintro ⟨h1, h2⟩ k hk
    have hk := List.mem_range.1 hk
    unfold rowKB
    rw [Bool.and_eq_true]
    refine ⟨?_, all2_yes fun i j hi hj => allEq64_row (all2_get h1 hi hj) (by omega)⟩
    have := allEq64_row h2 (k := k) (by omega)
    rw [← this]
    exact allEq_congr (fun _ _ => rfl) fun m hm => (id_part hk hm).symm
  · intro hall
    have get : ∀ k, k < d → allEq 8 (partF (leftT p A U) 8 k) (unitV k) = true ∧ all2 n (rowIJ p T A k) = true := fun k hk => by
      have := hall k (List.mem_range.2 hk)
      unfold rowKB at this
      rwa [Bool.and_eq_true] at this
    refine ⟨all2_yes fun i j hi hj => ?_, ?_⟩
    · refine allEq64_rows (d := d) (fun q hq hz => ?_) fun k hk => all2_get (get k hk).2 hi hj
      rw [left_zero h _ hq (.inl hz), then_zero h (by omega) (by omega) hq (.inl hz)]
    · refine allEq64_rows (d := d) (fun q hq hz => ?_) fun k hk => ?_
      · rw [left_zero h _ hq (.inl hz)]
        unfold idF
        rw [if_neg (by omega)]
      · rw [← (get k hk).1]
        exact allEq_congr (fun _ _ => rfl) fun m hm => id_part hk hm
end Go.Proofs.Ytegcfjfhpodlmaa
