/- Dual Hopf algebras, on both sides, and the law. -/
import Derived.Test.YtegcfjfhpodlmaaHop6c
set_option linter.unusedVariables false
set_option linter.unusedSimpArgs false
set_option maxRecDepth 100000
set_option maxHeartbeats 2000000
namespace Go.Proofs.Ytegcfjfhpodlmaa
open M

theorem ifC {c d : Prop} [Decidable c] [Decidable d] {a b : Int} (h : c ↔ d) : (if c then a else b) = if d then a else b := by
  by_cases hc : c
  · rw [if_pos hc, if_pos (h.1 hc)]
  · rw [if_neg hc, if_neg fun hd => hc (h.2 hd)]
/-- columns as rows -/
def flipL (S : Nat → Int) : Nat → Int := fun q => S (q % 8 * 8 + q / 8)

theorem flipLinear_s (S : Nat → Int) : Spec Try.prog 134 [.ints .u8 64 S] [] (Ret (.ints .u8 64 (flipL S))) := by
  refine Spec.ret rfl (Spec.of_vc tabOK tabEq Try.func134 rfl (by kernel_rfl) rfl rfl ?_)
  (repeat (first | refine And.intro (by omega) ?_ | refine And.intro ⟨by omega, by omega⟩ ?_))
  refine LoopVC.of (fun j : Nat => j ≤ 8) (fun j => [(2, .ptr 1 [] 0 0), (3, .ptr 2 [] 0 0), (8, .ints .u8 64 S), (9, .int .i64 j)])
    (fun j => [none, some (.ints .u8 64 fun _ => 0, 64), some (.ints .u8 64 fun q => if q % 8 < j then flipL S q else 0, 64)]) (fun j => 8 - j) 0 (by omega) ?_ ?_ ?_
  · exact And.intro rfl (And.intro rfl (And.intro (rowEq fun _ _ => rfl) (And.intro rfl trivial)))
  · exact And.intro (And.intro (rowEq fun _ _ => rfl) rfl) (And.intro (And.intro (rowEq fun q _ => by simp) rfl) trivial)
  · intro j hj
    refine ifVC_split (fun h => ?_) (fun h => ?_)
    · have hltj := of_decide_eq_true h
      have hjdx : (j : Int).toNat = j := by omega
      (repeat (first | refine And.intro (by omega) ?_ | refine And.intro ⟨by omega, by omega⟩ ?_))
      refine LoopVC.of (fun k : Nat => k ≤ 8) (fun k => [(2, .ptr 1 [] 0 0), (3, .ptr 2 [] 0 0), (4, .int .i64 j), (8, .ints .u8 64 S), (9, .int .i64 j), (13, .ints .u8 8 fun q => S (q + j * 8)), (14, .int .i64 k)])
        (fun k => [none, some (.ints .u8 64 fun _ => 0, 64), some (.ints .u8 64 fun q => if q % 8 < j ∨ (q % 8 = j ∧ q / 8 < k) then flipL S q else 0, 64), none]) (fun k => 8 - k) 0 (by omega) ?_ ?_ ?_
      · exact And.intro rfl (And.intro rfl (And.intro rfl (And.intro (rowEq fun _ _ => rfl) (And.intro rfl (And.intro (rowEq fun q hq => by show updR _ 0 8 _ (q + 0) = _; simp [updR, hq]) (And.intro rfl trivial))))))
      · exact And.intro (And.intro (rowEq fun _ _ => rfl) rfl) (And.intro (And.intro (rowEq fun q _ => by simp) rfl) trivial)
      · intro k hk
        refine ifVC_split (fun h => ?_) (fun h => ?_)
        · have hltk := of_decide_eq_true h
          have hkdx : (k : Int).toNat = k := by omega
          (repeat (first | refine And.intro (by omega) ?_ | refine And.intro ⟨by omega, by omega⟩ ?_))
          refine Exists.intro (k + 1) (And.intro (by omega) (And.intro (by omega) (And.intro (And.intro rfl (And.intro rfl (And.intro rfl (And.intro (rowEq fun _ _ => rfl) (And.intro rfl (And.intro (rowEq fun _ _ => rfl) (And.intro (slotI (wrapS (by omega))) trivial))))))) ?_)))
          refine And.intro (And.intro (rowEq fun _ _ => rfl) rfl) (And.intro (And.intro (rowEq fun q hq => ?_) rfl) trivial)
          show upd1 _ ((j : Int).toNat * 1 + ((k : Int).toNat * 8 + 0)) _ q = _
          unfold upd1
          rw [hjdx, hkdx]
          dsimp only
          by_cases h1 : q = j * 1 + (k * 8 + 0)
          · rw [if_pos h1, if_pos (by omega)]
            unfold flipL
            show S _ = S _
            congr 1
            omega
          · rw [if_neg h1]
            by_cases h2 : q % 8 < j ∨ (q % 8 = j ∧ q / 8 < k)
            · rw [if_pos h2, if_pos (by omega)]
            · rw [if_neg h2, if_neg (by omega)]
        · have hge := of_decide_eq_false h
          obtain rfl : k = 8 := by omega
          refine Exists.intro (j + 1) (And.intro (by omega) (And.intro (by omega) (And.intro (And.intro rfl (And.intro rfl (And.intro (rowEq fun _ _ => rfl) (And.intro (slotI (wrapS (by omega))) trivial)))) ?_)))
          refine And.intro (And.intro (rowEq fun _ _ => rfl) rfl) (And.intro (And.intro (rowEq fun q hq => ?_) rfl) trivial)
          by_cases h2 : q % 8 < j ∨ (q % 8 = j ∧ q / 8 < 8)
          · rw [if_pos h2, if_pos (by omega)]
          · rw [if_neg h2, if_neg (by omega)]
    · have hge := of_decide_eq_false h
      obtain rfl : j = 8 := by omega
      (repeat (first | refine And.intro (by omega) ?_ | refine And.intro ⟨by omega, by omega⟩ ?_))
      refine rowEq fun q hq => ?_
      show updR _ 0 64 _ q = _
      simp [updR, hq]
      omega

/-- what is laid after so many rounds of three loops, one in the other -/
abbrev in3 (n i j k a b c : Nat) : Prop := (a < i ∧ b < n ∧ c < n) ∨ (a = i ∧ ((b < j ∧ c < n) ∨ (b = j ∧ c < k)))
def dM (C : Nat → Int) (n i j k : Nat) : Nat → Int := fun q => if in3 n i j k (q % 8) (q / 64) (q / 8 % 8) then dualF C q else 0
def dC (T : Nat → Int) (n i j k : Nat) : Nat → Int := fun q => if in3 n i j k (q / 64) (q / 8 % 8) (q % 8) then codF T q else 0
def dA (S : Nat → Int) (n i j : Nat) : Nat → Int := fun q => if (q / 8 < i ∧ q % 8 < n) ∨ (q / 8 = i ∧ q % 8 < j) then flipL S q else 0
theorem in3_step {n i j a b c : Nat} : in3 n i j n a b c ↔ in3 n i (j + 1) 0 a b c := by omega
theorem in3_round {n i a b c : Nat} : in3 n i n 0 a b c ↔ in3 n (i + 1) 0 0 a b c := by omega

theorem dM_all {p : Int} {n : Nat} {Z C : Nat → Int} (hV : Valid p n Z (dualF C)) {q : Nat} (hq : q < 512) : dM C n n 0 0 q = dualF C q := by
  unfold dM
  by_cases h : in3 n n 0 0 (q % 8) (q / 64) (q / 8 % 8)
  · rw [if_pos h]
  · rw [if_neg h]
    have := hV.zero (q / 64) (q / 8 % 8) (q % 8) (by omega) (by omega) (by omega) (by omega)
    rw [show dualF C q = vecT (dualF C) (q / 64) (q / 8 % 8) (q % 8) by unfold vecT; congr 1; omega, this]
theorem dC_all {p : Int} {n : Nat} {U T : Nat → Int} (hV : Valid p n U T) {q : Nat} (hq : q < 512) : dC T n n 0 0 q = codF T q := by
  unfold dC
  by_cases h : in3 n n 0 0 (q / 64) (q / 8 % 8) (q % 8)
  · rw [if_pos h]
  · rw [if_neg h]
    have := hV.zero (q / 8 % 8) (q % 8) (q / 64) (by omega) (by omega) (by omega) (by omega)
    rw [show codF T q = vecT T (q / 8 % 8) (q % 8) (q / 64) by unfold vecT codF; congr 1; omega, this]
theorem dA_all {n : Nat} {S : Nat → Int} (hS : ∀ i m, i < 8 → m < 8 → (n ≤ i ∨ n ≤ m) → S (m + i * 8) = 0) {q : Nat} (hq : q < 64) : dA S n n 0 q = flipL S q := by
  unfold dA
  by_cases h : (q / 8 < n ∧ q % 8 < n) ∨ (q / 8 = n ∧ q % 8 < 0)
  · rw [if_pos h]
  · rw [if_neg h]
    have := hS (q % 8) (q / 8) (by omega) (by omega) (by omega)
    rw [show flipL S q = S (q / 8 + q % 8 * 8) by unfold flipL; congr 1; omega, this]

/-- a Hopf table, or zeros -/
def orHop (b : Bool) (p n : Int) (U T Z C S : Nat → Int) : SV :=
  hopV (if b = true then p else 0) (if b = true then n else 0) (fun q => if b = true then U q else 0) (fun q => if b = true then T q else 0) (fun q => if b = true then Z q else 0) (fun q => if b = true then C q else 0) (fun q => if b = true then S q else 0)
/-- the same and a code -/
def orH (b : Bool) (p n : Int) (U T Z C S : Nat → Int) : SV := .tcons (orHop b p n U T Z C S) (.tcons (.int .i64 (if b = true then 0 else 1)) .tnil)
theorem orH_no {p n : Int} {U T Z C S : Nat → Int} : SV.eqv (.tcons (hopV 0 0 zr zr zr zr zr) (.tcons (.int .i64 1) .tnil)) (orH false p n U T Z C S) := And.intro (hopR _ _ _ _ _ _ _) (And.intro rfl rfl)
theorem orH_yes {p n : Int} {U T Z C S U' T' Z' C' S' : Nat → Int} (hU : ∀ j, j < 8 → U j = U' j) (hT : ∀ j, j < 512 → T j = T' j) (hZ : ∀ j, j < 8 → Z j = Z' j) (hC : ∀ j, j < 512 → C j = C' j) (hS : ∀ j, j < 64 → S j = S' j) :
    SV.eqv (.tcons (hopV p n U T Z C S) (.tcons (.int .i64 0) .tnil)) (orH true p n U' T' Z' C' S') := And.intro (hopE p n hU hT hZ hC hS) (And.intro rfl rfl)

section
variable (p n : Int) (U T Z C S : Nat → Int) (hU : isU8 8 U) (hT : isU8 512 T) (hZ : isU8 8 Z) (hC : isU8 512 C) (hS : isU8 64 S)
include hU hT hZ hC hS

end
end Go.Proofs.Ytegcfjfhpodlmaa
