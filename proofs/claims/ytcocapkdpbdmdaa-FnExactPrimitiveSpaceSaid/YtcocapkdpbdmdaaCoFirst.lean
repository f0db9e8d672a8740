/- The first fault of a coalgebra, on both sides, and the laws on IsCoalgebra and FirstCoFault. -/
import Derived.Test.YtcocapkdpbdmdaaCoIs
import Derived.Test.YtcocapkdpbdmdaaInts
import Derived.Test.YtcocapkdpbdmdaaFirst
set_option linter.unusedVariables false
set_option linter.unusedSimpArgs false
set_option maxRecDepth 100000
set_option maxHeartbeats 2000000
namespace Go.Proofs.Ytcocapkdpbdmdaa
open M

theorem toCoalgebra_s (p n : Int) (U T : Nat → Int) : Spec Try.prog 8 [algV p n U T] [] (Ret (algV p n U T)) := by
  refine Spec.ret rfl (Spec.of_vc tabOK tabEq Try.func8 rfl (by kernel_rfl) rfl rfl ?_)
  refine And.intro (by omega) ?_
  refine And.intro trivial (Spec.mono (toVector_s _) ?_)
  rintro r m ⟨rfl, rfl⟩
  refine And.intro (by omega) ?_
  refine And.intro (by omega) ?_
  refine And.intro trivial (Spec.mono (toTable_s _) ?_)
  rintro r m ⟨rfl, rfl⟩
  refine And.intro (by omega) ?_
  refine And.intro rfl (And.intro rfl (And.intro (rowEq fun j hj => ?_) (And.intro (rowEq fun j hj => ?_) rfl)))
  · show updR _ 0 8 _ j = U j
    simp [updR, hj]
  · show updR _ 0 512 _ j = T j
    simp [updR, hj]

/-- the first place with another number than 0 -/
def FirstAt (v : Nat → Int) (l : Nat) : Prop := l ≤ 8 ∧ (∀ j, j < l → v j = 0) ∧ (l < 8 → v l ≠ 0)
theorem exists_first (v : Nat → Int) : ∃ l, FirstAt v l := by
  have key : ∀ k, k ≤ 8 → (∀ j, j < k → v j = 0) ∨ ∃ l, FirstAt v l := by
    intro k
    induction k with
    | zero => intro _; exact .inl fun j hj => by omega
    | succ k ih =>
      intro hk
      rcases ih (by omega) with h | h
      · by_cases hz : v k = 0
        · refine .inl fun j hj => ?_
          by_cases hjk : j = k
          · subst hjk; exact hz
          · exact h j (by omega)
        · exact .inr ⟨k, by omega, h, fun _ => hz⟩
      · exact .inr h
  rcases key 8 (Nat.le_refl _) with h | h
  · exact ⟨8, Nat.le_refl _, h, fun h8 => by omega⟩
  · exact h

theorem firstPlace_l (v : Nat → Int) (l : Nat) (hl : FirstAt v l) : Spec Try.prog 59 [.sl 0 0 8 8] [some (.ints .u8 8 v, 8)] (fun r m => r = .int .i64 l ∧ m = [some (.ints .u8 8 v, 8)]) := by
  obtain ⟨h1, h2, h3⟩ := hl
  refine Spec.cut (Nat.le_refl _) (by simp [SV.ids]) (fun id u c hb => by cases id <;> cases hb; simp [SV.ids]) (Spec.of_vc tabOK tabEq Try.func59 rfl (by kernel_rfl) rfl rfl ?_)
  refine LoopVC.of (fun i : Nat => i ≤ l) (fun i => [(0, .sl 0 0 8 8), (5, .sl 0 0 8 8), (6, .int .i64 8), (7, .int .i64 i)]) (fun _ => [some (.ints .u8 8 v, 8)]) (fun i => l - i) 0 (by omega) ?_ ?_ ?_
  · exact (And.intro rfl (And.intro rfl (And.intro rfl (And.intro rfl (trivial)))))
  · exact And.intro (And.intro (rowEq fun _ _ => rfl) rfl) trivial
  · intro i hi
    refine ifVC_split (fun h => ?_) (fun h => ?_)
    · have hlt := of_decide_eq_true h
      have hidx : (i : Int).toNat * 1 + 0 = i := by omega
      (repeat (first | refine And.intro (by omega) ?_ | refine And.intro ⟨by omega, by omega⟩ ?_))
      refine ifVC_split (fun hc => ?_) (fun hc => ?_)
      · have hc : v i ≠ 0 := by
          have hc : v ((i : Int).toNat * 1 + 0) ≠ 0 := by simpa using hc
          rw [hidx] at hc; exact hc
        have : i = l := by
          rcases Nat.lt_or_ge i l with h' | h'
          · exact absurd (h2 i h') hc
          · omega
        subst this
        exact And.intro (slotI rfl) (And.intro (And.intro (rowEq fun _ _ => rfl) rfl) trivial)
      · have hc : v i = 0 := by
          have hc : v ((i : Int).toNat * 1 + 0) = 0 := by simpa using hc
          rw [hidx] at hc; exact hc
        have : i < l := by
          rcases Nat.lt_or_ge i l with h' | h'
          · exact h'
          · have hil : i = l := by omega
            subst hil
            exact absurd hc (h3 (by omega))
        refine Exists.intro (i + 1) (And.intro (by omega) (And.intro (by omega) (And.intro (And.intro rfl (And.intro rfl (And.intro rfl (And.intro (slotI (wrapS (by omega))) trivial)))) ?_)))
        exact And.intro (And.intro (rowEq fun _ _ => rfl) rfl) trivial
    · have hge := of_decide_eq_false h
      exact And.intro (slotI (by omega)) (And.intro (And.intro (rowEq fun _ _ => rfl) rfl) trivial)
theorem firstPlace8_s (v : Nat → Int) : Spec Try.prog 59 [.sl 0 0 8 8] [some (.ints .u8 8 v, 8)] (fun r m => ∃ l : Nat, r = .int .i64 l ∧ FirstAt v l ∧ m = [some (.ints .u8 8 v, 8)]) := by
  obtain ⟨l, hl⟩ := exists_first v
  exact Spec.mono (firstPlace_l v l hl) fun r m h => ⟨l, h.1, hl, h.2⟩

theorem diff_zero {p a b : Int} (ha : 0 ≤ a ∧ a < p) (hb : 0 ≤ b ∧ b < p) : (a + (p - 1) * b) % p = 0 ↔ a = b := by
  have e : (a + (p - 1) * b) % p = (a - b) % p := by
    have : a + (p - 1) * b = a - b + b * p := by rw [Int.sub_mul, Int.one_mul, Int.mul_comm p b]; omega
    rw [this, Int.add_mul_emod_self_right]
  rw [e]
  by_cases h : b ≤ a
  · rw [Int.emod_eq_of_lt (by omega) (by omega)]
    omega
  · have : (a - b) % p = a - b + p := by
      rw [← Int.add_emod_right, Int.emod_eq_of_lt (by omega) (by omega)]
    rw [this]
    omega

section
variable {p : Int} {n : Nat} {U C : Nat → Int}
theorem apL (hV : Valid p n U (dualF C)) {i j k m : Nat} (hi : i < 8) (hj : j < 8) (hk : k < 8) (hm : m < 8) : linS (rowT C i) (vecT (dualF C) j k) 8 m % p = coL n C i j k m % p := by
  have hn := hV.hn
  unfold coL
  rw [linS_cut 8 hn (fun a h1 h2 => hV.zero j k a hj hk h2 (.inr (.inr h1))), linS_sum]
  congr 1
  refine sumN_congr n fun a ha => ?_
  have e : rowT C i (a * 8 + m) = vecT C i a m := by unfold rowT vecT; congr 1; omega
  rw [e, dual_vec C (by omega) hj hk, Int.mul_comm]
theorem apR (hV : Valid p n U (dualF C)) {i j k m : Nat} (hi : i < 8) (hj : j < 8) (hk : k < 8) (hm : m < 8) : linS (rowT (flipF C) k) (vecT C i j) 8 m % p = coR n C i j k m % p := by
  have hn := hV.hn
  unfold coR
  rw [linS_cut 8 hn (fun a h1 h2 => co_zero hV hi hj h2 (.inr (.inr h1))), linS_sum]
  congr 1
  refine sumN_congr n fun a ha => ?_
  have e : rowT (flipF C) k (a * 8 + m) = vecT C a k m := by unfold rowT flipF vecT; congr 1; omega
  rw [e]
theorem co_last (hV : Valid p n U (dualF C)) {i j k l : Nat} (hi : i < 8) (hj : j < 8) (hk : k < 8) (hl : l < 8) (h : n ≤ l) : coOk p n C i j k l = true := by
  have hn := hV.hn
  unfold coOk coL coR
  rw [sumN_none n fun a ha => by rw [co_zero hV hi (by omega) hl (.inr (.inr h))]; simp, sumN_none n fun a ha => by rw [co_zero hV (by omega) hk hl (.inr (.inr h))]; simp]
  simp
end

def CoQ (p : Int) (n : Nat) (C : Nat → Int) (r : SV) (m : Mem) : Prop :=
  (coAss p n C ∧ r = .nilsl) ∨ ∃ id g, coFaultAt p n C g ∧ r = .sl id 0 4 4 ∧ blockOf m id = some (.ints .i64 4 g, 4)
theorem CoQ.yes {p : Int} {n : Nat} {C : Nat → Int} {m : Mem} (h : coAss p n C) : CoQ p n C .nilsl m := .inl ⟨h, rfl⟩
theorem CoQ.no {p : Int} {n : Nat} {C g : Nat → Int} {m : Mem} {id : Nat} (h : coFaultAt p n C g) (hb : blockOf m id = some (.ints .i64 4 g, 4)) : CoQ p n C (.sl id 0 4 4) m := .inr ⟨id, g, h, rfl, hb⟩

/-- what the first place of the difference tells -/
theorem coFault_of {p : Int} {n : Nat} {U C g d : Nat → Int} {i j k l : Nat} (hV : Valid p n U (dualF C)) (hi : i < n) (hj : j < n) (hk : k < n)
    (hd : ∀ q, q < 8 → d q = (coL n C i j k q % p + (p - 1) * (coR n C i j k q % p)) % p) (hl : FirstAt d l)
    (hc : allEq 8 (fun q => coL n C i j k q % p) (fun q => coR n C i j k q % p) = false)
    (h1 : ∀ i' j' k' l', i' < i → j' < n → k' < n → l' < n → coOk p n C i' j' k' l' = true) (h2 : ∀ j' k' l', j' < j → k' < n → l' < n → coOk p n C i j' k' l' = true) (h3 : ∀ k' l', k' < k → l' < n → coOk p n C i j k' l' = true)
    (g0 : g 0 = (i : Int)) (g1 : g 1 = (j : Int)) (g2 : g 2 = (k : Int)) (g3 : g 3 = (l : Int)) : coFaultAt p n C g := by
  have hn := hV.hn
  have hp := hV.hp
  obtain ⟨l1, l2, l3⟩ := hl
  have zero : ∀ q, q < 8 → (d q = 0 ↔ coOk p n C i j k q = true) := fun q hq => by
    rw [hd q hq, diff_zero ⟨Int.emod_nonneg _ (by omega), Int.emod_lt_of_pos _ hp.1⟩ ⟨Int.emod_nonneg _ (by omega), Int.emod_lt_of_pos _ hp.1⟩]
    simp [coOk]
  have hl8 : l < 8 := by
    rcases Nat.lt_or_ge l 8 with h | h
    · exact h
    · have : allEq 8 (fun q => coL n C i j k q % p) (fun q => coR n C i j k q % p) = true := List.all_eq_true.2 fun q hq => by
        have hq := List.mem_range.1 hq
        have := (zero q hq).1 (l2 q (by omega))
        simpa [coOk] using this
      rw [hc] at this; cases this
  have hbad : coOk p n C i j k l = false := by
    cases hb : coOk p n C i j k l with
    | false => rfl
    | true => exact absurd ((zero l hl8).2 hb) (l3 hl8)
  have hln : l < n := by
    rcases Nat.lt_or_ge l n with h | h
    · exact h
    · rw [co_last hV (by omega) (by omega) (by omega) hl8 h] at hbad; cases hbad
  refine ⟨i, j, k, l, hi, hj, hk, hln, hbad, fun i' j' k' l' a1 a2 a3 a4 a5 => ?_, g0, g1, g2, g3⟩
  rcases a5 with a5 | ⟨rfl, a5⟩ | ⟨rfl, rfl, a5⟩ | ⟨rfl, rfl, rfl, a5⟩
  · exact h1 i' j' k' l' a5 a2 a3 a4
  · exact h2 j' k' l' a5 a3 a4
  · exact h3 k' l' a5 a4
  · exact (zero l' (by omega)).1 (l2 l' a5)

end Go.Proofs.Ytcocapkdpbdmdaa
