/- Texts in one: Hop8, DualI, NormI, OpenHop. -/
import Derived.Test.YtegcfjfhpodlmabGreatPg
import Derived.Test.YtegcfjfhpodlmabGreatPd
import Derived.Test.YtegcfjfhpodlmabGreatPf
set_option linter.unusedSimpArgs false
set_option linter.unusedVariables false
set_option linter.unusedSectionVars false
/- Dual Hopf algebras, on both sides, and the law. -/
set_option linter.unusedVariables false
set_option linter.unusedSimpArgs false
set_option maxRecDepth 100000
set_option maxHeartbeats 2000000
namespace Go.Proofs.YtegcfjfhpodlmabGreat
open M

theorem ifC {c d : Prop} [Decidable c] [Decidable d] {a b : Int} (h : c ↔ d) : (if c then a else b) = if d then a else b := by
  by_cases hc : c
  · rw [if_pos hc, if_pos (h.1 hc)]
  · rw [if_neg hc, if_neg fun hd => hc (h.2 hd)]
/-- columns as rows -/
def flipL (S : Nat → Int) : Nat → Int := fun q => S (q % 8 * 8 + q / 8)

theorem flipLinear_s (S : Nat → Int) : Spec Tryz.prog 52 [.ints .u8 64 S] [] (Ret (.ints .u8 64 (flipL S))) := by
  refine Spec.ret rfl (Spec.of_vc tabOK tabEq Tryz.func52 rfl (by kernel_rfl) rfl rfl ?_)
  (repeat (first | refine And.intro (by omega) ?_ | refine And.intro ⟨by omega, by omega⟩ ?_))
  refine LoopVC.of (fun j : Nat => j ≤ 8) (fun j => [(2, .ptr 1 [] 0 0), (3, .ptr 2 [] 0 0), (8, .ints .u8 64 S), (9, .int .i64 j)])
    (fun j => [none, some (.ints .u8 64 fun _ => 0, 64), some (.ints .u8 64 fun q => if q % 8 < j then flipL S q else 0, 64)]) (fun j => 8 - j) 0 (by omega) ?_ ?_ ?_
  · exact And.intro rfl (And.intro rfl (And.intro (rowEq fun _ _ => rfl) (And.intro rfl trivial)))
  · exact And.intro (And.intro (rowEq fun _ _ => rfl) rfl) (And.intro (And.intro (rowEq fun q _ => by simp) rfl) trivial)
  · intro j hj
    refine ifVC_split (fun h => ?_) (fun h => ?_)
    · have hltj := of_decide_eq_true h
      have hjdx : (j : Int).toNat = j := by omega
      (repeat (first | refine And.intro (by omega) ?_ | refine And.intro ⟨by omega, by omega⟩ ?_))
      refine LoopVC.of (fun k : Nat => k ≤ 8) (fun k => [(2, .ptr 1 [] 0 0), (3, .ptr 2 [] 0 0), (4, .int .i64 j), (8, .ints .u8 64 S), (9, .int .i64 j), (13, .ints .u8 8 fun q => S (q + j * 8)), (14, .int .i64 k)])
        (fun k => [none, some (.ints .u8 64 fun _ => 0, 64), some (.ints .u8 64 fun q => if q % 8 < j ∨ (q % 8 = j ∧ q / 8 < k) then flipL S q else 0, 64), none]) (fun k => 8 - k) 0 (by omega) ?_ ?_ ?_
      · exact And.intro rfl (And.intro rfl (And.intro rfl (And.intro (rowEq fun _ _ => rfl) (And.intro rfl (And.intro (rowEq fun q hq => by show updR _ 0 8 _ (q + 0) = _; simp [updR, hq]) (And.intro rfl trivial))))))
      · exact And.intro (And.intro (rowEq fun _ _ => rfl) rfl) (And.intro (And.intro (rowEq fun q _ => by simp) rfl) trivial)
      · intro k hk
        refine ifVC_split (fun h => ?_) (fun h => ?_)
        · have hltk := of_decide_eq_true h
          have hkdx : (k : Int).toNat = k := by omega
          (repeat (first | refine And.intro (by omega) ?_ | refine And.intro ⟨by omega, by omega⟩ ?_))
          refine Exists.intro (k + 1) (And.intro (by omega) (And.intro (by omega) (And.intro (And.intro rfl (And.intro rfl (And.intro rfl (And.intro (rowEq fun _ _ => rfl) (And.intro rfl (And.intro (rowEq fun _ _ => rfl) (And.intro (slotI (wrapS (by omega))) trivial))))))) ?_)))
          refine And.intro (And.intro (rowEq fun _ _ => rfl) rfl) (And.intro (And.intro (rowEq fun q hq => ?_) rfl) trivial)
          show upd1 _ ((j : Int).toNat * 1 + ((k : Int).toNat * 8 + 0)) _ q = _
          unfold upd1
          rw [hjdx, hkdx]
          dsimp only
          by_cases h1 : q = j * 1 + (k * 8 + 0)
          · rw [if_pos h1, if_pos (by omega)]
            unfold flipL
            show S _ = S _
            congr 1
            omega
          · rw [if_neg h1]
            by_cases h2 : q % 8 < j ∨ (q % 8 = j ∧ q / 8 < k)
            · rw [if_pos h2, if_pos (by omega)]
            · rw [if_neg h2, if_neg (by omega)]
        · have hge := of_decide_eq_false h
          obtain rfl : k = 8 := by omega
          refine Exists.intro (j + 1) (And.intro (by omega) (And.intro (by omega) (And.intro (And.intro rfl (And.intro rfl (And.intro (rowEq fun _ _ => rfl) (And.intro (slotI (wrapS (by omega))) trivial)))) ?_)))
          refine And.intro (And.intro (rowEq fun _ _ => rfl) rfl) (And.intro (And.intro (rowEq fun q hq => ?_) rfl) trivial)
          by_cases h2 : q % 8 < j ∨ (q % 8 = j ∧ q / 8 < 8)
          · rw [if_pos h2, if_pos (by omega)]
          · rw [if_neg h2, if_neg (by omega)]
    · have hge := of_decide_eq_false h
      obtain rfl : j = 8 := by omega
      (repeat (first | refine And.intro (by omega) ?_ | refine And.intro ⟨by omega, by omega⟩ ?_))
      refine rowEq fun q hq => ?_
      show updR _ 0 64 _ q = _
      simp [updR, hq]
      omega

theorem hopfOf_s (p n p' n' : Int) (U T Z C S : Nat → Int) : Spec Tryz.prog 51 [algV p n U T, algV p' n' Z C, .ints .u8 64 S] [] (Ret (hopV p n U T Z C S)) := by
  refine Spec.ret rfl (Spec.of_vc tabOK tabEq Tryz.func51 rfl (by kernel_rfl) rfl rfl ?_)
  (repeat (first | refine And.intro (by omega) ?_ | refine And.intro ⟨by omega, by omega⟩ ?_))
  exact And.intro rfl (And.intro rfl (And.intro (rowEq fun _ _ => rfl) (And.intro (rowEq fun _ _ => rfl) (And.intro (rowEq fun _ _ => rfl) (And.intro (rowEq fun _ _ => rfl) (And.intro (rowEq fun q hq => by simp [updR, hq]) rfl))))))

theorem dualHopf_s (p n : Int) (U T Z C S : Nat → Int) : Spec Tryz.prog 36 [hopV p n U T Z C S] [] (Ret (hopV p n Z (dualF C) U (codF T) (flipL S))) := by
  refine Spec.ret rfl (Spec.of_vc tabOK tabEq Tryz.func36 rfl (by kernel_rfl) rfl rfl ?_)
  refine Exists.intro 9 (And.intro (by kernel_rfl) ?_)
  refine Exists.intro (algV p n Z C) (And.intro (And.intro rfl (And.intro rfl (Spec.mono (coalgebraOf_s p n U T Z C S) fun r m h => h.1))) ?_)
  refine Exists.intro (algV p n Z (dualF C)) (And.intro (And.intro rfl (And.intro rfl (Spec.mono (dualAlgebra_s p n Z C) fun r m h => h.1))) ?_)
  refine Exists.intro (algV p n U T) (And.intro (And.intro rfl (And.intro rfl (Spec.mono (algebraOf_s p n U T Z C S) fun r m h => h.1))) ?_)
  refine Exists.intro (algV p n U (codF T)) (And.intro (And.intro rfl (And.intro rfl (Spec.mono (dualCoalgebra_s p n U T) fun r m h => h.1))) ?_)
  refine Exists.intro 6 (And.intro (by kernel_rfl) ?_)
  (repeat (first | refine And.intro (by omega) ?_ | refine And.intro ⟨by omega, by omega⟩ ?_))
  refine Exists.intro (.ints .u8 64 (flipL S)) (And.intro (And.intro rfl (And.intro rfl (Spec.mono (flipLinear_s _) fun r m h => h.1))) ?_)
  refine Exists.intro (hopV p n Z (dualF C) U (codF T) (flipL S)) (And.intro (And.intro rfl (And.intro rfl (Spec.mono (hopfOf_s p n p n Z (dualF C) U (codF T) (flipL S)) fun r m h => h.1))) ?_)
  exact hopR _ _ _ _ _ _ _

/-- what is laid after so many rounds of three loops, one in the other -/
abbrev in3 (n i j k a b c : Nat) : Prop := (a < i ∧ b < n ∧ c < n) ∨ (a = i ∧ ((b < j ∧ c < n) ∨ (b = j ∧ c < k)))
def dM (C : Nat → Int) (n i j k : Nat) : Nat → Int := fun q => if in3 n i j k (q % 8) (q / 64) (q / 8 % 8) then dualF C q else 0
def dC (T : Nat → Int) (n i j k : Nat) : Nat → Int := fun q => if in3 n i j k (q / 64) (q / 8 % 8) (q % 8) then codF T q else 0
def dA (S : Nat → Int) (n i j : Nat) : Nat → Int := fun q => if (q / 8 < i ∧ q % 8 < n) ∨ (q / 8 = i ∧ q % 8 < j) then flipL S q else 0
theorem in3_step {n i j a b c : Nat} : in3 n i j n a b c ↔ in3 n i (j + 1) 0 a b c := by omega
theorem in3_round {n i a b c : Nat} : in3 n i n 0 a b c ↔ in3 n (i + 1) 0 0 a b c := by omega

theorem l03Dual_s (p : Int) (n : Nat) (U T Z C S : Nat → Int) (hn : n ≤ 8) : Spec Tryz.prog 34 [hopV p n U T Z C S] [] (Ret (hopV p n Z (dM C n n 0 0) U (dC T n n 0 0) (dA S n n 0))) := by
  refine Spec.ret rfl (Spec.of_vc tabOK tabEq Tryz.func34 rfl (by kernel_rfl) rfl rfl ?_)
  (repeat (first | refine And.intro (by omega) ?_ | refine And.intro ⟨by omega, by omega⟩ ?_))
  refine LoopVC.of (fun i : Nat => i ≤ n) (fun i => [(1, .ptr 0 [] 0 0), (2, .ptr 1 [] 0 0), (3, .int .i64 n), (4, .ptr 2 [] 0 0), (5, .int .i64 i)])
    (fun i => [some (hopV p n U T Z C S, 1106), some (hopV 0 0 zr zr zr zr zr, 1106), some (hopV p n Z (dM C n i 0 0) U (dC T n i 0 0) (dA S n i 0), 1106)]) (fun i => n - i) 0 (by omega) ?_ ?_ ?_
  · exact (And.intro rfl (And.intro rfl (And.intro rfl (And.intro rfl (And.intro rfl (trivial))))))
  · refine And.intro (And.intro (hopR _ _ _ _ _ _ _) rfl) (And.intro (And.intro (hopR _ _ _ _ _ _ _) rfl) (And.intro (And.intro (hopE p n (fun q hq => ?_) (fun q hq => ?_) (fun q hq => ?_) (fun q hq => ?_) (fun q hq => ?_)) rfl) trivial))
    · simp [updR, hq]
    · unfold dM; rw [if_neg (by omega)]
    · simp [updR, hq]
    · unfold dC; rw [if_neg (by omega)]
    · unfold dA; rw [if_neg (by omega)]
  · intro i hi
    refine ifVC_split (fun h => ?_) (fun h => ?_)
    · have hlti := of_decide_eq_true h
      have hidx : (i : Int).toNat = i := by omega
      refine LoopVC.of (fun j : Nat => j ≤ n) (fun j => [(1, .ptr 0 [] 0 0), (2, .ptr 1 [] 0 0), (3, .int .i64 n), (4, .ptr 2 [] 0 0), (5, .int .i64 i), (6, .int .i64 j)])
        (fun j => [some (hopV p n U T Z C S, 1106), some (hopV 0 0 zr zr zr zr zr, 1106), some (hopV p n Z (dM C n i j 0) U (dC T n i j 0) (dA S n i j), 1106)]) (fun j => n - j) 0 (by omega) ?_ ?_ ?_
      · exact (And.intro rfl (And.intro rfl (And.intro rfl (And.intro rfl (And.intro rfl (And.intro rfl (trivial)))))))
      · exact And.intro (And.intro (hopR _ _ _ _ _ _ _) rfl) (And.intro (And.intro (hopR _ _ _ _ _ _ _) rfl) (And.intro (And.intro (hopR _ _ _ _ _ _ _) rfl) trivial))
      · intro j hj
        refine ifVC_split (fun h => ?_) (fun h => ?_)
        · have hltj := of_decide_eq_true h
          have hjdx : (j : Int).toNat = j := by omega
          refine Exists.intro 11 (And.intro (by kernel_rfl) ?_)
          (repeat (first | refine And.intro (by omega) ?_ | refine And.intro ⟨by omega, by omega⟩ ?_))
          change vc _ _ _ _ _ [some (hopV p n U T Z C S, 1106), some (hopV 0 0 zr zr zr zr zr, 1106), some (hopV p n Z (dM C n i j 0) U (dC T n i j 0) (upd1 (dA S n i j) ((j : Int).toNat * 1 + ((i : Int).toNat * 8 + 0)) (S ((i : Int).toNat * 1 + ((j : Int).toNat * 8 + 0)))), 1106)] _
          refine LoopVC.of (fun k : Nat => k ≤ n) (fun k => [(1, .ptr 0 [] 0 0), (2, .ptr 1 [] 0 0), (3, .int .i64 n), (4, .ptr 2 [] 0 0), (5, .int .i64 i), (6, .int .i64 j), (7, .int .i64 k)])
            (fun k => [some (hopV p n U T Z C S, 1106), some (hopV 0 0 zr zr zr zr zr, 1106), some (hopV p n Z (dM C n i j k) U (dC T n i j k) (dA S n i (j + 1)), 1106)]) (fun k => n - k) 0 (by omega) ?_ ?_ ?_
          · exact (And.intro rfl (And.intro rfl (And.intro rfl (And.intro rfl (And.intro rfl (And.intro rfl (And.intro rfl (trivial))))))))
          · refine And.intro (And.intro (hopR _ _ _ _ _ _ _) rfl) (And.intro (And.intro (hopR _ _ _ _ _ _ _) rfl) (And.intro (And.intro (hopE p n (fun _ _ => rfl) (fun _ _ => rfl) (fun _ _ => rfl) (fun _ _ => rfl) (fun q hq => ?_)) rfl) trivial))
            unfold upd1 dA
            rw [hidx, hjdx]
            by_cases h1 : q = j * 1 + (i * 8 + 0)
            · rw [if_pos h1, if_pos (by omega)]
              unfold flipL
              congr 1
              omega
            · rw [if_neg h1]
              by_cases h2 : (q / 8 < i ∧ q % 8 < n) ∨ (q / 8 = i ∧ q % 8 < j)
              · rw [if_pos h2, if_pos (by omega)]
              · rw [if_neg h2, if_neg (by omega)]
          · intro k hk
            refine ifVC_split (fun h => ?_) (fun h => ?_)
            · have hltk := of_decide_eq_true h
              have hkdx : (k : Int).toNat = k := by omega
              refine Exists.intro 15 (And.intro (by kernel_rfl) ?_)
              (repeat (first | refine And.intro (by omega) ?_ | refine And.intro ⟨by omega, by omega⟩ ?_))
              refine Exists.intro 15 (And.intro (by kernel_rfl) ?_)
              (repeat (first | refine And.intro (by omega) ?_ | refine And.intro ⟨by omega, by omega⟩ ?_))
              refine Exists.intro (k + 1) (And.intro (by omega) (And.intro (by omega) (And.intro (And.intro rfl (And.intro rfl (And.intro rfl (And.intro rfl (And.intro rfl (And.intro rfl (And.intro (slotI (wrapS (by omega))) trivial))))))) ?_)))
              refine And.intro (And.intro (hopR _ _ _ _ _ _ _) rfl) (And.intro (And.intro (hopR _ _ _ _ _ _ _) rfl) (And.intro (And.intro (hopE p n (fun _ _ => rfl) (fun q hq => ?_) (fun _ _ => rfl) (fun q hq => ?_) (fun _ _ => rfl)) rfl) trivial))
              · show upd1 _ ((i : Int).toNat * 1 + ((k : Int).toNat * 8 + ((j : Int).toNat * 64 + 0))) (C ((k : Int).toNat * 1 + ((j : Int).toNat * 8 + ((i : Int).toNat * 64 + 0)))) q = _
                unfold upd1 dM
                rw [hidx, hjdx, hkdx]
                by_cases h1 : q = i * 1 + (k * 8 + (j * 64 + 0))
                · rw [if_pos h1, if_pos (by omega)]
                  unfold dualF
                  congr 1
                  omega
                · rw [if_neg h1]
                  by_cases h2 : in3 n i j k (q % 8) (q / 64) (q / 8 % 8)
                  · rw [if_pos h2, if_pos (by omega)]
                  · rw [if_neg h2, if_neg (by omega)]
              · show upd1 _ ((k : Int).toNat * 1 + ((j : Int).toNat * 8 + ((i : Int).toNat * 64 + 0))) (T ((i : Int).toNat * 1 + ((k : Int).toNat * 8 + ((j : Int).toNat * 64 + 0)))) q = _
                unfold upd1 dC
                rw [hidx, hjdx, hkdx]
                by_cases h1 : q = k * 1 + (j * 8 + (i * 64 + 0))
                · rw [if_pos h1, if_pos (by omega)]
                  unfold codF
                  congr 1
                  omega
                · rw [if_neg h1]
                  by_cases h2 : in3 n i j k (q / 64) (q / 8 % 8) (q % 8)
                  · rw [if_pos h2, if_pos (by omega)]
                  · rw [if_neg h2, if_neg (by omega)]
            · have hge := of_decide_eq_false h
              obtain rfl : k = n := by omega
              refine Exists.intro (j + 1) (And.intro (by omega) (And.intro (by omega) (And.intro (And.intro rfl (And.intro rfl (And.intro rfl (And.intro rfl (And.intro rfl (And.intro (slotI (wrapS (by omega))) trivial)))))) ?_)))
              refine And.intro (And.intro (hopR _ _ _ _ _ _ _) rfl) (And.intro (And.intro (hopR _ _ _ _ _ _ _) rfl) (And.intro (And.intro (hopE p k (fun _ _ => rfl) (fun q hq => ?_) (fun _ _ => rfl) (fun q hq => ?_) (fun _ _ => rfl)) rfl) trivial))
              · unfold dM; exact ifC in3_step
              · unfold dC; exact ifC in3_step
        · have hge := of_decide_eq_false h
          obtain rfl : j = n := by omega
          refine Exists.intro (i + 1) (And.intro (by omega) (And.intro (by omega) (And.intro (And.intro rfl (And.intro rfl (And.intro rfl (And.intro rfl (And.intro (slotI (wrapS (by omega))) trivial))))) ?_)))
          refine And.intro (And.intro (hopR _ _ _ _ _ _ _) rfl) (And.intro (And.intro (hopR _ _ _ _ _ _ _) rfl) (And.intro (And.intro (hopE p j (fun _ _ => rfl) (fun q hq => ?_) (fun _ _ => rfl) (fun q hq => ?_) (fun q hq => ?_)) rfl) trivial))
          · unfold dM; exact ifC in3_round
          · unfold dC; exact ifC in3_round
          · unfold dA; exact ifC (by omega)
    · have hge := of_decide_eq_false h
      obtain rfl : i = n := by omega
      (repeat (first | refine And.intro (by omega) ?_ | refine And.intro ⟨by omega, by omega⟩ ?_))
      exact hopR _ _ _ _ _ _ _

theorem dM_all {p : Int} {n : Nat} {Z C : Nat → Int} (hV : Valid p n Z (dualF C)) {q : Nat} (hq : q < 512) : dM C n n 0 0 q = dualF C q := by
  unfold dM
  by_cases h : in3 n n 0 0 (q % 8) (q / 64) (q / 8 % 8)
  · rw [if_pos h]
  · rw [if_neg h]
    have := hV.zero (q / 64) (q / 8 % 8) (q % 8) (by omega) (by omega) (by omega) (by omega)
    rw [show dualF C q = vecT (dualF C) (q / 64) (q / 8 % 8) (q % 8) by unfold vecT; congr 1; omega, this]
theorem dC_all {p : Int} {n : Nat} {U T : Nat → Int} (hV : Valid p n U T) {q : Nat} (hq : q < 512) : dC T n n 0 0 q = codF T q := by
  unfold dC
  by_cases h : in3 n n 0 0 (q / 64) (q / 8 % 8) (q % 8)
  · rw [if_pos h]
  · rw [if_neg h]
    have := hV.zero (q / 8 % 8) (q % 8) (q / 64) (by omega) (by omega) (by omega) (by omega)
    rw [show codF T q = vecT T (q / 8 % 8) (q % 8) (q / 64) by unfold vecT codF; congr 1; omega, this]
theorem dA_all {n : Nat} {S : Nat → Int} (hS : ∀ i m, i < 8 → m < 8 → (n ≤ i ∨ n ≤ m) → S (m + i * 8) = 0) {q : Nat} (hq : q < 64) : dA S n n 0 q = flipL S q := by
  unfold dA
  by_cases h : (q / 8 < n ∧ q % 8 < n) ∨ (q / 8 = n ∧ q % 8 < 0)
  · rw [if_pos h]
  · rw [if_neg h]
    have := hS (q % 8) (q / 8) (by omega) (by omega) (by omega)
    rw [show flipL S q = S (q / 8 + q % 8 * 8) by unfold flipL; congr 1; omega, this]

/-- a Hopf table, or zeros -/
def orHop (b : Bool) (p n : Int) (U T Z C S : Nat → Int) : SV :=
  hopV (if b = true then p else 0) (if b = true then n else 0) (fun q => if b = true then U q else 0) (fun q => if b = true then T q else 0) (fun q => if b = true then Z q else 0) (fun q => if b = true then C q else 0) (fun q => if b = true then S q else 0)
/-- the same and a code -/
def orH (b : Bool) (p n : Int) (U T Z C S : Nat → Int) : SV := .tcons (orHop b p n U T Z C S) (.tcons (.int .i64 (if b = true then 0 else 1)) .tnil)
section
variable (p n : Int) (U T Z C S : Nat → Int) (hU : isU8 8 U) (hT : isU8 512 T) (hZ : isU8 8 Z) (hC : isU8 512 C) (hS : isU8 64 S)
include hU hT hZ hC hS

end
end Go.Proofs.YtegcfjfhpodlmabGreat

/- The dual of a Hopf algebra has integrals; cointegrals, cosemisimple Hopf algebras and normed integrals: both sides, and the laws. -/
set_option linter.unusedVariables false
set_option linter.unusedSimpArgs false
set_option linter.unusedSectionVars false
set_option maxRecDepth 100000
set_option maxHeartbeats 4000000
namespace Go.Proofs.YtegcfjfhpodlmabGreat
open M

theorem valid_congr {p : Int} {n : Nat} {U T T' : Nat → Int} (hV : Valid p n U T) (h : ∀ q, q < 512 → T' q = T q) : Valid p n U T' := by
  have e : ∀ i j m, i < 8 → j < 8 → m < 8 → vecT T' i j m = vecT T i j m := fun i j m hi hj hm => h _ (by omega)
  exact ⟨hV.hp, hV.hn, fun i j m hi hj hm => by rw [e i j m hi hj hm]; exact hV.lt i j m hi hj hm, fun i j m hi hj hm hz => by rw [e i j m hi hj hm]; exact hV.zero i j m hi hj hm hz, hV.uzero, hV.ult⟩
theorem dual_cod (T : Nat → Int) {q : Nat} (hq : q < 512) : dualF (codF T) q = T q := by
  have cv : ∀ i j k, i < 8 → j < 8 → k < 8 → codF T (k + (j * 8 + i * 64)) = T (j * 64 + k * 8 + i) := fun i j k hi hj hk => by
    unfold codF
    congr 1
    omega
  have e : dualF (codF T) q = codF T (q / 8 % 8 + (q / 64 * 8 + q % 8 * 64)) := by
    unfold dualF
    congr 1
    omega
  rw [e, cv _ _ _ (by omega) (by omega) (by omega)]
  congr 1
  omega
theorem HV.dual {p : Int} {n : Nat} {U T Z C S : Nat → Int} (h : HV p n U T Z C S) : HV p n Z (dualF C) U (codF T) (flipL S) where
  a := h.c
  c := valid_congr h.a fun q hq => dual_cod T hq
  n1 := h.n1
  hU := h.hZ
  hT := fun q hq => h.hC _ (by omega)
  hZ := h.hU
  hC := fun q hq => h.hT _ (by omega)
  hS := fun q hq => h.hS _ (by omega)
  slt := fun i m hi hm => by
    have := h.slt m i hm hi
    unfold flipL
    rw [show (m + i * 8) % 8 * 8 + (m + i * 8) / 8 = i + m * 8 by omega]
    exact this
  szero := fun i m hi hm hz => by
    have := h.szero m i hm hi (by omega)
    unfold flipL
    rw [show (m + i * 8) % 8 * 8 + (m + i * 8) / 8 = i + m * 8 by omega]
    exact this

theorem ints_dual {p n : Nat} {U T Z C S : Nat → Int} (hp2 : 2 ≤ p) (hV : HV p n U T Z C S) (hB : hopB p n U T Z C S = true) :
    HasInt p n (dualF C) U ∧ HasInt p n (flipF (dualF C)) U := by
  have hn := hV.a.hn
  haveI := p_ne hp2
  have h1 : (1 : Fin p) ≠ 0 := fun h => by
    have := congrArg Fin.val h
    have h2 : (1 : Fin p).val = 1 % p := rfl
    rw [h2, Nat.mod_eq_of_lt (by omega)] at this
    cases this
  have hA := LS.Ax.dual (hop_ax (p := p) (by omega) hV hB)
  have nz : ∀ t : Fin n → Fin p, (∃ m, t m ≠ 0) → ∃ j, j < 8 ∧ backV t j ≠ 0 := fun t ⟨m, hm⟩ => ⟨m, by omega, fun h => hm (by
    have e := backV_ph t m
    rw [h, ph_zero] at e
    exact e.symm)⟩
  constructor
  · obtain ⟨t, hne, ht⟩ := LS.Ax.exists_int hA h1
    refine ⟨backV t, backV_vec t, nz t hne, fault_of hn t hV.c.zero hV.a.uzero fun i m => ?_⟩
    have h := ht (LS.e i) m
    rw [fin_pick, LS.Ax.eps_e hA] at h
    rw [← show _ = ph p (U i) * t m from h]
    exact LS.su_congr fun k => by rw [dual_vec C (i := m) (j := i) (k := k) (by omega) (by omega) (by omega)]; rfl
  · obtain ⟨t, hne, ht⟩ := LS.Ax.exists_int (LS.Ax.opcop hA) h1
    have fz : ∀ i j m : Nat, j < 8 → m < 8 → vecT (flipF (dualF C)) i j m = vecT (dualF C) j i m := fun i j m hj hm => by
      unfold vecT
      rw [show m + (j * 8 + i * 64) = i * 64 + j * 8 + m by omega, flipF_at (dualF C) hj hm]
      congr 1; omega
    refine ⟨backV t, backV_vec t, nz t hne, fault_of hn t (fun i j m hi hj hm h => by rw [fz i j m hj hm]; exact hV.c.zero j i m hj hi hm (by omega)) hV.a.uzero fun i m => ?_⟩
    have h := ht (LS.e i) m
    rw [fin_pick, LS.Ax.eps_e (LS.Ax.opcop hA)] at h
    rw [← show _ = ph p (U i) * t m from h]
    exact LS.su_congr fun k => by rw [fz i k m (by omega) (by omega), dual_vec C (i := m) (j := k) (k := i) (by omega) (by omega) (by omega)]; rfl
theorem HopP.dual {p n : Nat} {U T Z C S : Nat → Int} (h : HopP p n U T Z C S) (hB : hopB p n U T Z C S = true) : HopP p n Z (dualF C) U (codF T) (flipL S) where
  hp := h.hp
  hp2 := h.hp2
  V := h.V.dual
  l := (ints_dual h.hp2.1 h.V hB).1
  r := (ints_dual h.hp2.1 h.V hB).2

theorem l03Dual2_s {p : Int} {n : Nat} {U T Z C S : Nat → Int} (hV : HV p n U T Z C S) : Spec Tryz.prog 34 [hopV p n U T Z C S] [] (Ret (hopV p n Z (dualF C) U (codF T) (flipL S))) :=
  Spec.ret rfl (Spec.mono (l03Dual_s p n U T Z C S hV.a.hn) fun r m h => by
    obtain ⟨rfl, _⟩ := h
    exact hopE p n (fun _ _ => rfl) (fun q hq => dM_all hV.c hq) (fun _ _ => rfl) (fun q hq => dC_all hV.a hq) (fun q hq => dA_all hV.szero hq))

section
variable (p n : Nat) (U T Z C S : Nat → Int) (h : HopP p n U T Z C S) (hB : hopB p n U T Z C S = true)
include h hB
theorem cointegral_s : Spec Tryz.prog 32 [hopV p n U T Z C S] [] (Ret (.ints .u8 8 (intV p n (dualF C) U))) := by
  refine Spec.ret rfl (Spec.of_vc tabOK tabEq Tryz.func32 rfl (by kernel_rfl) rfl rfl ?_)
  refine And.intro trivial (Spec.mono (dualHopf_s p n U T Z C S) ?_)
  rintro r m ⟨rfl, rfl⟩
  refine And.intro trivial (Spec.mono (leftIntegral_s p n _ _ _ _ _ (h.dual hB)) ?_)
  rintro r m ⟨rfl, rfl⟩
  (repeat (first | refine And.intro (by omega) ?_ | refine And.intro ⟨by omega, by omega⟩ ?_))
  refine rowEq fun j hj => ?_
  show updR _ 0 8 _ j = _
  simp [updR, hj]
theorem l05Cointegral_s : Spec Tryz.prog 31 [hopV p n U T Z C S] [] (Ret (.ints .u8 8 (intV p n (dualF C) U))) := by
  refine Spec.ret rfl (Spec.of_vc tabOK tabEq Tryz.func31 rfl (by kernel_rfl) rfl rfl ?_)
  refine And.intro trivial (Spec.mono (l03Dual2_s h.V) ?_)
  rintro r m ⟨rfl, rfl⟩
  refine And.intro trivial (Spec.mono (l05Left_s p n _ _ _ _ _ (h.dual hB) false) ?_)
  rintro r m ⟨rfl, rfl⟩
  (repeat (first | refine And.intro (by omega) ?_ | refine And.intro ⟨by omega, by omega⟩ ?_))
  refine rowEq fun j hj => ?_
  show updR _ 0 8 _ j = _
  simp [updR, hj, sideT]
end

section
variable (p n : Int) (U T Z C S : Nat → Int) (hU : isU8 8 U) (hT : isU8 512 T) (hZ : isU8 8 Z) (hC : isU8 512 C) (hS : isU8 64 S)
include hU hT hZ hC hS
/-! ### Cointegral -/
noncomputable def coiOut (p n : Int) (U T Z C S : Nat → Int) : SV := .tcons (.ints .u8 8 fun j => if hopB p n U T Z C S = true then intV p.toNat n.toNat (dualF C) U j else 0) (.tcons (.int .i64 (if hopB p n U T Z C S = true then 0 else 1)) .tnil)
theorem implCointegral_s : Spec Tryz.prog 12 [hopV p n U T Z C S] [] (Ret (coiOut p n U T Z C S)) := by
  refine Spec.ret rfl (Spec.of_vc tabOK tabEq Tryz.func12 rfl (by kernel_rfl) rfl rfl ?_)
  refine And.intro trivial (Spec.mono (isHopf_s p n U T Z C S hU hT hZ hC hS) ?_)
  rintro r m ⟨rfl, rfl⟩
  refine ifVC_split (fun hc => ?_) (fun hc => ?_)
  · have hc : hopB p n U T Z C S = false := by simpa using hc
    (repeat (first | refine And.intro (by omega) ?_ | refine And.intro ⟨by omega, by omega⟩ ?_))
    refine And.intro (rowEq fun j hj => ?_) (And.intro (slotI (by simp [hc])) rfl)
    show updR _ 0 8 _ j = _
    simp [updR, hj, hc]
  have hc : hopB p n U T Z C S = true := by simpa using hc
  obtain ⟨p, n, rfl, rfl, h⟩ := hopP_of hU hT hZ hC hS hc
  refine And.intro trivial (Spec.mono (cointegral_s p n U T Z C S h hc) ?_)
  rintro r m ⟨rfl, rfl⟩
  (repeat (first | refine And.intro (by omega) ?_ | refine And.intro ⟨by omega, by omega⟩ ?_))
  refine And.intro (rowEq fun j hj => ?_) (And.intro (slotI (by simp [hc])) rfl)
  show updR _ 0 8 _ j = _
  simp [updR, hj, hc]
theorem specCointegral_s : Spec Tryz.prog 11 [hopV p n U T Z C S] [] (Ret (coiOut p n U T Z C S)) := by
  refine Spec.ret rfl (Spec.of_vc tabOK tabEq Tryz.func11 rfl (by kernel_rfl) rfl rfl ?_)
  refine And.intro trivial (Spec.mono (l03Is_s p n U T Z C S hU hT hZ hC hS) ?_)
  rintro r m ⟨rfl, rfl⟩
  refine ifVC_split (fun hc => ?_) (fun hc => ?_)
  · have hc : hopB p n U T Z C S = false := by simpa using hc
    (repeat (first | refine And.intro (by omega) ?_ | refine And.intro ⟨by omega, by omega⟩ ?_))
    refine And.intro (rowEq fun j hj => ?_) (And.intro (slotI (by simp [hc])) rfl)
    show updR _ 0 8 _ j = _
    simp [updR, hj, hc]
  have hc : hopB p n U T Z C S = true := by simpa using hc
  obtain ⟨p, n, rfl, rfl, h⟩ := hopP_of hU hT hZ hC hS hc
  refine And.intro trivial (Spec.mono (l05Cointegral_s p n U T Z C S h hc) ?_)
  rintro r m ⟨rfl, rfl⟩
  (repeat (first | refine And.intro (by omega) ?_ | refine And.intro ⟨by omega, by omega⟩ ?_))
  refine And.intro (rowEq fun j hj => ?_) (And.intro (slotI (by simp [hc])) rfl)
  show updR _ 0 8 _ j = _
  simp [updR, hj, hc]
theorem lawCointegral_c : Spec Tryz.prog 4 [hopV p n U T Z C S] [] (Ret (.bool true)) := by
  refine Spec.ret rfl (Spec.of_vc tabOK tabEq Tryz.func4 rfl (by kernel_rfl) rfl rfl ?_)
  refine And.intro trivial (Spec.mono (toHopf_s p n U T Z C S) ?_)
  rintro r m ⟨rfl, rfl⟩
  change opsVC _ _ _ _ _ _ [some (hopV p n U T Z C S, 1106)] _
  refine And.intro trivial (Spec.mono (specCointegral_s p n U T Z C S hU hT hZ hC hS) ?_)
  rintro r m ⟨rfl, rfl⟩
  (repeat (first | refine And.intro (by omega) ?_ | refine And.intro ⟨by omega, by omega⟩ ?_))
  refine And.intro trivial (Spec.mono (toHopf_s p n U T Z C S) ?_)
  rintro r m ⟨rfl, rfl⟩
  refine And.intro trivial (Spec.mono (implCointegral_s p n U T Z C S hU hT hZ hC hS) ?_)
  rintro r m ⟨rfl, rfl⟩
  (repeat (first | refine And.intro (by omega) ?_ | refine And.intro ⟨by omega, by omega⟩ ?_))
  refine And.intro trivial (Spec.mono (eqVector_s _ _) ?_)
  rintro r m ⟨rfl, rfl⟩
  refine ifVC_false ?_ ?_
  · rw [allEq_self]
    rfl
  refine ifVC_false (by simp) ?_
  exact boolEq rfl

/-! ### IsCosemisimple -/
noncomputable def cosOut (p n : Int) (U T Z C S : Nat → Int) : SV := .tcons (.bool (hopB p n U T Z C S && semB p.toNat n.toNat (dualF C) U)) (.tcons (.int .i64 (if hopB p n U T Z C S = true then 0 else 1)) .tnil)
theorem implCosemi_s : Spec Tryz.prog 14 [hopV p n U T Z C S] [] (Ret (cosOut p n U T Z C S)) := by
  refine Spec.ret rfl (Spec.of_vc tabOK tabEq Tryz.func14 rfl (by kernel_rfl) rfl rfl ?_)
  refine And.intro trivial (Spec.mono (isHopf_s p n U T Z C S hU hT hZ hC hS) ?_)
  rintro r m ⟨rfl, rfl⟩
  refine ifVC_split (fun hc => ?_) (fun hc => ?_)
  · have hc : hopB p n U T Z C S = false := by simpa using hc
    exact And.intro (boolEq (by simp [hc])) (And.intro (slotI (by simp [hc])) rfl)
  have hc : hopB p n U T Z C S = true := by simpa using hc
  obtain ⟨p, n, rfl, rfl, h⟩ := hopP_of hU hT hZ hC hS hc
  refine And.intro trivial (Spec.mono (dualHopf_s p n U T Z C S) ?_)
  rintro r m ⟨rfl, rfl⟩
  refine And.intro trivial (Spec.mono (isSemisimple_s _ _ _ _ _ p n (h.dual hc)) ?_)
  rintro r m ⟨rfl, rfl⟩
  exact And.intro (boolEq (by rw [hc]; rfl)) (And.intro (slotI (by simp [hc])) rfl)
theorem specCosemi_s : Spec Tryz.prog 13 [hopV p n U T Z C S] [] (Ret (cosOut p n U T Z C S)) := by
  refine Spec.ret rfl (Spec.of_vc tabOK tabEq Tryz.func13 rfl (by kernel_rfl) rfl rfl ?_)
  refine And.intro trivial (Spec.mono (l03Is_s p n U T Z C S hU hT hZ hC hS) ?_)
  rintro r m ⟨rfl, rfl⟩
  refine ifVC_split (fun hc => ?_) (fun hc => ?_)
  · have hc : hopB p n U T Z C S = false := by simpa using hc
    exact And.intro (boolEq (by simp [hc])) (And.intro (slotI (by simp [hc])) rfl)
  have hc : hopB p n U T Z C S = true := by simpa using hc
  obtain ⟨p, n, rfl, rfl, h⟩ := hopP_of hU hT hZ hC hS hc
  refine And.intro trivial (Spec.mono (l03Dual2_s h.V) ?_)
  rintro r m ⟨rfl, rfl⟩
  refine And.intro trivial (Spec.mono (l05Semisimple_s _ _ _ _ _ p n (h.dual hc)) ?_)
  rintro r m ⟨rfl, rfl⟩
  exact And.intro (boolEq (by rw [hc]; rfl)) (And.intro (slotI (by simp [hc])) rfl)
theorem lawIsCosemisimple_c : Spec Tryz.prog 5 [hopV p n U T Z C S] [] (Ret (.bool true)) := by
  refine Spec.ret rfl (Spec.of_vc tabOK tabEq Tryz.func5 rfl (by kernel_rfl) rfl rfl ?_)
  refine And.intro trivial (Spec.mono (toHopf_s p n U T Z C S) ?_)
  rintro r m ⟨rfl, rfl⟩
  change opsVC _ _ _ _ _ _ [some (hopV p n U T Z C S, 1106)] _
  refine And.intro trivial (Spec.mono (specCosemi_s p n U T Z C S hU hT hZ hC hS) ?_)
  rintro r m ⟨rfl, rfl⟩
  refine And.intro trivial (Spec.mono (toHopf_s p n U T Z C S) ?_)
  rintro r m ⟨rfl, rfl⟩
  refine And.intro trivial (Spec.mono (implCosemi_s p n U T Z C S hU hT hZ hC hS) ?_)
  rintro r m ⟨rfl, rfl⟩
  refine ifVC_false (by simp) ?_
  refine ifVC_false (by simp) ?_
  exact boolEq rfl

end
end Go.Proofs.YtegcfjfhpodlmabGreat

/- Normed integrals, on both sides, and the law. -/
set_option linter.unusedVariables false
set_option linter.unusedSimpArgs false
set_option linter.unusedSectionVars false
set_option maxRecDepth 100000
set_option maxHeartbeats 4000000
namespace Go.Proofs.YtegcfjfhpodlmabGreat
open M

section
variable (p n : Int) (U T Z C S : Nat → Int) (hU : isU8 8 U) (hT : isU8 512 T) (hZ : isU8 8 Z) (hC : isU8 512 C) (hS : isU8 64 S)
include hU hT hZ hC hS
/-! ### NormedIntegral -/
/-- the integral by its counit's inverse -/
noncomputable def norV (p n : Nat) (T Z : Nat → Int) : Nat → Int := fun j => ((invN p (cnt p Z (intV p n T Z)).toNat : Int)) * intV p n T Z j % p
noncomputable def norC (p n : Int) (U T Z C S : Nat → Int) : Int := if hopB p n U T Z C S = true then (if cnt p Z (intV p.toNat n.toNat T Z) = 0 then 4 else 0) else 1
noncomputable def norOut (p n : Int) (U T Z C S : Nat → Int) : SV := .tcons (.ints .u8 8 fun j => if norC p n U T Z C S = 0 then norV p.toNat n.toNat T Z j else 0) (.tcons (.int .i64 (norC p n U T Z C S)) .tnil)
omit hU hT hZ hC hS in
theorem inv_one {p x y z : Nat} (hp : primeB (p : Int) = true) (hp2 : 2 ≤ p ∧ p ≤ 31) (hy : y < p) (hz : z < p) (h1 : y * x % p = 1) (h2 : z * x % p = 1) : y = z := by
  have e : y * (z * x) % p = z * (y * x) % p := by congr 1; rw [← Nat.mul_assoc, ← Nat.mul_assoc, Nat.mul_comm y z]
  rw [Nat.mul_mod, h2, Nat.mul_mod z, h1, Nat.mul_one, Nat.mul_one, Nat.mod_mod, Nat.mod_mod, Nat.mod_eq_of_lt hy, Nat.mod_eq_of_lt hz] at e
  exact e
theorem implNormed_s : Spec Tryz.prog 9 [hopV p n U T Z C S] [] (Ret (norOut p n U T Z C S)) := by
  refine Spec.ret rfl (Spec.of_vc tabOK tabEq Tryz.func9 rfl (by kernel_rfl) rfl rfl ?_)
  refine And.intro trivial (Spec.mono (isHopf_s p n U T Z C S hU hT hZ hC hS) ?_)
  rintro r m ⟨rfl, rfl⟩
  refine ifVC_split (fun hc => ?_) (fun hc => ?_)
  · have hc : hopB p n U T Z C S = false := by simpa using hc
    have hn : norC p n U T Z C S = 1 := by unfold norC; rw [hc]; rfl
    (repeat (first | refine And.intro (by omega) ?_ | refine And.intro ⟨by omega, by omega⟩ ?_))
    refine And.intro (rowEq fun j hj => ?_) (And.intro (slotI (by rw [hn])) rfl)
    show updR _ 0 8 _ j = _
    simp [updR, hj, hn]
  have hc : hopB p n U T Z C S = true := by simpa using hc
  obtain ⟨p, n, rfl, rfl, h⟩ := hopP_of hU hT hZ hC hS hc
  have hv := int_vec h
  have hp2 := h.hp2
  refine And.intro trivial (Spec.mono (leftIntegral_s p n U T Z C S h) ?_)
  rintro r m ⟨rfl, rfl⟩
  (repeat (first | refine And.intro (by omega) ?_ | refine And.intro ⟨by omega, by omega⟩ ?_))
  have et : ∀ j, j < 8 → updR (fun _ => 0) 0 8 (intV p n T Z) (j + 0) = intV p n T Z j := fun j hj => by simp [updR, hj]
  have ec : cnt p Z (fun j => updR (fun _ => 0) 0 8 (intV p n T Z) (j + 0)) = cnt p Z (intV p n T Z) := by
    unfold cnt cntN
    exact congrArg (· % (p : Int)) (sumN_congr 8 fun i hi => by dsimp only; rw [et i hi])
  refine Exists.intro 4 (And.intro (by kernel_rfl) ?_)
  refine Exists.intro (algV p n Z C) (And.intro (And.intro rfl (And.intro rfl (Spec.mono (coalgebraOf_s p n U T Z C S) fun r m h => h.1))) ?_)
  (repeat (first | refine And.intro (by omega) ?_ | refine And.intro ⟨by omega, by omega⟩ ?_))
  refine Exists.intro (.int .i64 (cnt p Z (intV p n T Z))) (And.intro (And.intro rfl (And.intro rfl ?_)) ?_)
  · rw [← ec]
    exact Spec.mono (counit_s p n Z C _ h.V.a.hp h.V.hZ (fun j hj => by have := hv.rng j hj; rw [← et j hj] at this; exact ⟨this.1, Int.lt_trans this.2 (by omega)⟩)) fun r m h => h.1
  have hx0 : 0 ≤ cnt p Z (intV p n T Z) ∧ cnt p Z (intV p n T Z) < p := ⟨Int.emod_nonneg _ (by omega), Int.emod_lt_of_pos _ (by omega)⟩
  refine ifVC_split (fun h0 => ?_) (fun h0 => ?_)
  · have h0 : cnt p Z (intV p n T Z) = 0 := by simpa using h0
    have hn : norC p n U T Z C S = 4 := by unfold norC; rw [hc, Int.toNat_natCast, Int.toNat_natCast, if_pos rfl, if_pos h0]
    (repeat (first | refine And.intro (by omega) ?_ | refine And.intro ⟨by omega, by omega⟩ ?_))
    refine And.intro (rowEq fun j hj => ?_) (And.intro (slotI (by rw [hn])) rfl)
    show updR _ 0 8 _ j = _
    simp [updR, hj, hn]
  have h0 : cnt p Z (intV p n T Z) ≠ 0 := by simpa using h0
  have hn : norC p n U T Z C S = 0 := by unfold norC; rw [hc, Int.toNat_natCast, Int.toNat_natCast, if_pos rfl, if_neg h0]
  refine Exists.intro 5 (And.intro (by kernel_rfl) ?_)
  (repeat (first | refine And.intro (by omega) ?_ | refine And.intro ⟨by omega, by omega⟩ ?_))
  have ew : IntKind.u8.wrap (cnt p Z (intV p n T Z)) = (((cnt p Z (intV p n T Z)).toNat : Nat) : Int) := by rw [wrapB (by omega)]; omega
  have hcv : Spec Tryz.prog 30 [.int .i64 p, .sl 0 0 8 8, .int .u8 (IntKind.u8.wrap (cnt p Z (intV p n T Z)))] [some (.ints .u8 8 (updR (fun _ => 0) 0 8 (intV p n T Z)), 8)] (fun v m => ∃ g : Nat → Int, (∀ j, j < 8 → g j = norV p n T Z j) ∧ v = .tnil ∧ m = [some (.ints .u8 8 g, 8)]) := by
    rw [ew]
    refine Spec.mono (divideRow_s 8 8 8 p _ _ (by omega) h.hp hp2 (by omega) (fun j hj => by have := hv.rng j hj; rw [← et j hj] at this; rw [Nat.add_zero] at this; omega)) ?_
    rintro v m ⟨y, g, hy0, hy, hyx, hg, rfl, rfl⟩
    refine ⟨g, fun j hj => ?_, rfl, rfl⟩
    obtain ⟨i0, i1, i2, _⟩ := invN_spec h.hp hp2 (x := (cnt p Z (intV p n T Z)).toNat) (by omega)
    have e := inv_one h.hp hp2 hy i1 hyx i2
    rw [hg j hj, e]
    unfold mulM norV
    have := et j hj
    rw [Nat.add_zero] at this
    rw [this]
  refine And.intro (And.intro rfl trivial) (Spec.mono hcv ?_)
  rintro _ _ ⟨g, hg, rfl, rfl⟩
  (repeat (first | refine And.intro (by omega) ?_ | refine And.intro ⟨by omega, by omega⟩ ?_))
  refine And.intro (rowEq fun j hj => ?_) (And.intro (slotI (by rw [hn])) rfl)
  show updR _ 0 8 _ j = _
  simp only [updR, Nat.zero_le, true_and, Nat.zero_add, hj, if_true, Nat.sub_zero, Nat.add_zero]
  rw [if_pos hn, Int.toNat_natCast, Int.toNat_natCast]
  exact hg j hj
theorem specNormed_s : Spec Tryz.prog 7 [hopV p n U T Z C S] [] (Ret (norOut p n U T Z C S)) := by
  refine Spec.ret rfl (Spec.of_vc tabOK tabEq Tryz.func7 rfl (by kernel_rfl) rfl rfl ?_)
  refine And.intro trivial (Spec.mono (l03Is_s p n U T Z C S hU hT hZ hC hS) ?_)
  rintro r m ⟨rfl, rfl⟩
  refine ifVC_split (fun hc => ?_) (fun hc => ?_)
  · have hc : hopB p n U T Z C S = false := by simpa using hc
    have hn : norC p n U T Z C S = 1 := by unfold norC; rw [hc]; rfl
    (repeat (first | refine And.intro (by omega) ?_ | refine And.intro ⟨by omega, by omega⟩ ?_))
    refine And.intro (rowEq fun j hj => ?_) (And.intro (slotI (by rw [hn])) rfl)
    show updR _ 0 8 _ j = _
    simp [updR, hj, hn]
  have hc : hopB p n U T Z C S = true := by simpa using hc
  obtain ⟨p, n, rfl, rfl, h⟩ := hopP_of hU hT hZ hC hS hc
  have hv := int_vec h
  have hp2 := h.hp2
  refine And.intro trivial (Spec.mono (l05Left_s p n U T Z C S h false) ?_)
  rintro r m ⟨rfl, rfl⟩
  (repeat (first | refine And.intro (by omega) ?_ | refine And.intro ⟨by omega, by omega⟩ ?_))
  have et : ∀ j, j < 8 → updR (fun _ => 0) 0 8 (intV p n (sideT false T) Z) (j + 0) = intV p n T Z j := fun j hj => by simp [updR, hj, sideT]
  have ec : cnt p Z (fun j => updR (fun _ => 0) 0 8 (intV p n (sideT false T) Z) (j + 0)) = cnt p Z (intV p n T Z) := by
    unfold cnt cntN
    exact congrArg (· % (p : Int)) (sumN_congr 8 fun i hi => by dsimp only; rw [et i hi])
  have hu8 : isU8 8 (fun j => updR (fun _ => 0) 0 8 (intV p n (sideT false T) Z) (j + 0)) := fun j hj => by have := hv.rng j hj; rw [← et j hj] at this; exact ⟨this.1, Int.lt_trans this.2 (by omega)⟩
  refine And.intro trivial (Spec.mono (l03Counit_s p n U T Z C S _ h.V.a.hp h.V.a.hn h.V.hZ hu8 (fun i h1 h2 => (et i h2).trans (hv.out i h1 h2))) ?_)
  rintro r m ⟨rfl, rfl⟩
  have hx0 : 0 ≤ cnt p Z (intV p n T Z) ∧ cnt p Z (intV p n T Z) < p := ⟨Int.emod_nonneg _ (by omega), Int.emod_lt_of_pos _ (by omega)⟩
  refine ifVC_split (fun h0 => ?_) (fun h0 => ?_)
  · have h0 : cnt p Z (intV p n T Z) = 0 := by rw [← ec]; simpa using h0
    have hn : norC p n U T Z C S = 4 := by unfold norC; rw [hc, Int.toNat_natCast, Int.toNat_natCast, if_pos rfl, if_pos h0]
    (repeat (first | refine And.intro (by omega) ?_ | refine And.intro ⟨by omega, by omega⟩ ?_))
    refine And.intro (rowEq fun j hj => ?_) (And.intro (slotI (by rw [hn])) rfl)
    show updR _ 0 8 _ j = _
    simp [updR, hj, hn]
  have h0 : cnt p Z (intV p n T Z) ≠ 0 := by rw [← ec]; simpa using h0
  have hn : norC p n U T Z C S = 0 := by unfold norC; rw [hc, Int.toNat_natCast, Int.toNat_natCast, if_pos rfl, if_neg h0]
  obtain ⟨i0, i1, i2, _⟩ := invN_spec h.hp hp2 (x := (cnt p Z (intV p n T Z)).toNat) (by omega)
  refine Exists.intro 10 (And.intro (by kernel_rfl) ?_)
  (repeat (first | refine And.intro (by omega) ?_ | refine And.intro ⟨by omega, by omega⟩ ?_))
  refine Exists.intro (.int .u8 (invN p (cnt p Z (intV p n T Z)).toNat)) (And.intro (And.intro rfl (And.intro rfl ?_)) ?_)
  · have ew : IntKind.u8.wrap (cnt p Z (fun j => updR (fun _ => 0) 0 8 (intV p n (sideT false T) Z) (j + 0))) = (((cnt p Z (intV p n T Z)).toNat : Nat) : Int) := by rw [ec, wrapB (by omega)]; omega
    have hcv : Spec Tryz.prog 22 [.int .i64 p, .int .u8 (IntKind.u8.wrap (cnt p Z (fun j => updR (fun _ => 0) 0 8 (intV p n (sideT false T) Z) (j + 0))))] [] (Ret (.int .u8 (invN p (cnt p Z (intV p n T Z)).toNat))) := by
      rw [ew]; exact l01Inverse_s p _ h.hp hp2 (by omega)
    exact Spec.mono hcv fun r m h => h.1
  refine And.intro trivial (Spec.mono (l01Add_s p _ _ _ h.V.a.hp (by rw [wrapI (by omega)]; omega) (fun j _ => by constructor <;> omega) hu8) ?_)
  rintro r m ⟨rfl, rfl⟩
  (repeat (first | refine And.intro (by omega) ?_ | refine And.intro ⟨by omega, by omega⟩ ?_))
  refine And.intro (rowEq fun j hj => ?_) (And.intro (slotI (by rw [hn])) rfl)
  show updR _ 0 8 _ j = _
  simp only [updR, Nat.zero_le, true_and, Nat.zero_add, hj, if_true, Nat.sub_zero, Nat.add_zero]
  rw [if_pos hn, Int.toNat_natCast, Int.toNat_natCast]
  unfold addM norV
  have := et j hj
  simp only [updR, Nat.zero_le, true_and, Nat.zero_add, hj, if_true, Nat.sub_zero, Nat.add_zero] at this
  simp only [this, Int.zero_add]
  rw [wrapI (by omega), if_pos hj]
theorem lawNormedIntegral_c : Spec Tryz.prog 3 [hopV p n U T Z C S] [] (Ret (.bool true)) := by
  refine Spec.ret rfl (Spec.of_vc tabOK tabEq Tryz.func3 rfl (by kernel_rfl) rfl rfl ?_)
  refine And.intro trivial (Spec.mono (toHopf_s p n U T Z C S) ?_)
  rintro r m ⟨rfl, rfl⟩
  change opsVC _ _ _ _ _ _ [some (hopV p n U T Z C S, 1106)] _
  refine And.intro trivial (Spec.mono (specNormed_s p n U T Z C S hU hT hZ hC hS) ?_)
  rintro r m ⟨rfl, rfl⟩
  (repeat (first | refine And.intro (by omega) ?_ | refine And.intro ⟨by omega, by omega⟩ ?_))
  refine And.intro trivial (Spec.mono (toHopf_s p n U T Z C S) ?_)
  rintro r m ⟨rfl, rfl⟩
  refine And.intro trivial (Spec.mono (implNormed_s p n U T Z C S hU hT hZ hC hS) ?_)
  rintro r m ⟨rfl, rfl⟩
  (repeat (first | refine And.intro (by omega) ?_ | refine And.intro ⟨by omega, by omega⟩ ?_))
  refine And.intro trivial (Spec.mono (eqVector_s _ _) ?_)
  rintro r m ⟨rfl, rfl⟩
  refine ifVC_false ?_ ?_
  · rw [allEq_self]
    rfl
  refine ifVC_false (by simp) ?_
  exact boolEq rfl
end
end Go.Proofs.YtegcfjfhpodlmabGreat

/- An argument that is a Hopf table: its numbers. -/
set_option linter.unusedVariables false
set_option linter.unusedSimpArgs false
namespace Go.Proofs.YtegcfjfhpodlmabGreat
variable {P : Program} {H : Type} {enc : TypeId × Value → H}

theorem open_hopG {w : World} {r : Reach} {b0 b : Nat} {sp : Nat → Bool} {hd : Bool} {t : TypeId} {f0 f1 f2 f3 f4 f5 f6 : Field} {d2 d3 d4 d5 d6 : Nat} (hs : P.underlying t = some (.struct #[f0, f1, f2, f3, f4, f5, f6])) (hsz : (P.info? t).map (·.size) = some 1106)
    (h0 : P.underlying f0.type = some (.int .i64)) (z0 : (P.info? f0.type).map (·.size) = some 1) (o0 : f0.offset = 0) (h1 : P.underlying f1.type = some (.int .i64)) (z1 : (P.info? f1.type).map (·.size) = some 1) (o1 : f1.offset = 1)
    (h2 : RowT P f2.type .u8 8 d2) (z2 : (P.info? f2.type).map (·.size) = some 8) (o2 : f2.offset = 2) (h3 : RowT P f3.type .u8 512 d3) (z3 : (P.info? f3.type).map (·.size) = some 512) (o3 : f3.offset = 10)
    (h4 : RowT P f4.type .u8 8 d4) (z4 : (P.info? f4.type).map (·.size) = some 8) (o4 : f4.offset = 522) (h5 : RowT P f5.type .u8 512 d5) (z5 : (P.info? f5.type).map (·.size) = some 512) (o5 : f5.offset = 530)
    (h6 : RowT P f6.type .u8 64 d6) (z6 : (P.info? f6.type).map (·.size) = some 64) (o6 : f6.offset = 1042)
    {v : Value} {x : DataW H} {ps : List MemPlace} (hval : Value.okWide P w r b0 t v) (ht : DataW.Trod enc P w b sp hd t v x ps) :
    ∃ (p n : Int) (U T Z C S : Nat → Int), (∀ μ, v = toVal μ (hopV p n U T Z C S)) ∧ isU8 8 U ∧ isU8 512 T ∧ isU8 8 Z ∧ isU8 512 C ∧ isU8 64 S ∧ ps = [] := by
  unfold Value.okWide at hval
  rw [hs] at hval
  obtain ⟨cs, rfl, _⟩ := hval
  obtain ⟨fuel, hf⟩ := ht
  obtain ⟨xs, n, _, hx, hl, hlen, hfs⟩ := DataW.trod_struct hs hf
  have hl' : cs.toList.length = 1106 := by rw [cellsOf_of hsz] at hl; exact hl
  match xs, hlen with
  | [y0, y1, y2, y3, y4, y5, y6], _ =>
    have g0 := hfs 0 f0 rfl
    have g1 := hfs 1 f1 rfl
    have g2 := hfs 2 f2 rfl
    have g3 := hfs 3 f3 rfl
    have g4 := hfs 4 f4 rfl
    have g5 := hfs 5 f5 rfl
    have g6 := hfs 6 f6 rfl
    rw [cellsOf_of z0, o0] at g0
    rw [cellsOf_of z1, o1] at g1
    rw [cellsOf_of z2, o2] at g2
    rw [cellsOf_of z3, o3] at g3
    rw [cellsOf_of z4, o4] at g4
    rw [cellsOf_of z5, o5] at g5
    rw [cellsOf_of z6, o6] at g6
    obtain ⟨p, e0, w0, q0⟩ := trod_int_cell h0 g0
    obtain ⟨m, e1, w1, q1⟩ := trod_int_cell h1 g1
    obtain ⟨l2, c2, q2⟩ := open_row h2 _ _ _ z2 g2
    obtain ⟨l3, c3, q3⟩ := open_row h3 _ _ _ z3 g3
    obtain ⟨l4, c4, q4⟩ := open_row h4 _ _ _ z4 g4
    obtain ⟨l5, c5, q5⟩ := open_row h5 _ _ _ z5 g5
    obtain ⟨l6, c6, q6⟩ := open_row h6 _ _ _ z6 g6
    obtain ⟨e2, w2⟩ := row_cells (μ := fun _ => 0) l2 c2
    obtain ⟨e3, w3⟩ := row_cells (μ := fun _ => 0) l3 c3
    obtain ⟨e4, w4⟩ := row_cells (μ := fun _ => 0) l4 c4
    obtain ⟨e5, w5⟩ := row_cells (μ := fun _ => 0) l5 c5
    obtain ⟨e6, w6⟩ := row_cells (μ := fun _ => 0) l6 c6
    refine ⟨p, m, _, _, _, _, _, fun μ => ?_, fun j hj => u8_bounds (w2 j hj), fun j hj => u8_bounds (w3 j hj), fun j hj => u8_bounds (w4 j hj), fun j hj => u8_bounds (w5 j hj), fun j hj => u8_bounds (w6 j hj), ?_⟩
    · have hcs : cs.toList = (cs.toList.drop 0).take 1 ++ ((cs.toList.drop 1).take 1 ++ ((cs.toList.drop 2).take 8 ++ ((cs.toList.drop 10).take 512 ++ ((cs.toList.drop 522).take 8 ++ ((cs.toList.drop 530).take 512 ++ (cs.toList.drop 1042).take 64))))) := by
        have a6 : (cs.toList.drop 1042).take 64 = cs.toList.drop 1042 := List.take_of_length_le (by simp [hl'])
        rw [a6]
        have s1 := List.take_append_drop 1 cs.toList
        have s2 := List.take_append_drop 1 (cs.toList.drop 1)
        have s3 := List.take_append_drop 8 (cs.toList.drop 2)
        have s4 := List.take_append_drop 512 (cs.toList.drop 10)
        have s5 := List.take_append_drop 8 (cs.toList.drop 522)
        have s6 := List.take_append_drop 512 (cs.toList.drop 530)
        rw [List.drop_drop] at s2 s3 s4 s5 s6
        conv => lhs; rw [← s1, ← s2, ← s3, ← s4, ← s5, ← s6]
        rfl
      show Value.agg cs = Value.agg _
      congr 1
      apply Array.ext'
      have e0' : (cs.toList.drop 0).take 1 = [.int .i64 p] := e0
      have e1' : (cs.toList.drop 1).take 1 = [.int .i64 m] := e1
      have e2' : (cs.toList.drop 2).take 8 = _ := e2
      have e3' : (cs.toList.drop 10).take 512 = _ := e3
      have e4' : (cs.toList.drop 522).take 8 = _ := e4
      have e5' : (cs.toList.drop 530).take 512 = _ := e5
      have e6' : (cs.toList.drop 1042).take 64 = _ := e6
      rw [hcs, e0', e1', e2', e3', e4', e5', e6']
      simp [hopV, flat, scal]
    · have : ps = [y0, y1, y2, y3, y4, y5, y6].flatMap (·.2) := congrArg Prod.snd hx
      rw [this]
      simp [q0, q1, q2, q3, q4, q5, q6]
end Go.Proofs.YtegcfjfhpodlmabGreat
