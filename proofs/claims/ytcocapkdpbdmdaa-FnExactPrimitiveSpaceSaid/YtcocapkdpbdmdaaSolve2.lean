/- The model's way to solve linear equations: its lists as plain recursion. -/
import Derived.Test.YtcocapkdpbdmdaaSolve
import Derived.Test.YtcocapkdpbdmdaaRref
import Derived.Test.YtcocapkdpbdmdaaAlgMath
import Derived.Test.YtcocapkdpbdmdaaIsAlg
set_option linter.unusedVariables false
set_option linter.unusedSimpArgs false
set_option maxRecDepth 100000
set_option maxHeartbeats 4000000
namespace Go.Proofs.Ytcocapkdpbdmdaa
open M

theorem l01ZeroS_s (v : Nat → Int) : Spec Try.prog 66 [.ints .u8 8 v] [] (Ret (.bool (allEq 8 v fun _ => 0))) := by
  refine Spec.ret rfl (Spec.of_vc tabOK tabEq Try.func66 rfl (by kernel_rfl) rfl rfl ?_)
  (repeat (first | refine And.intro (by omega) ?_ | refine And.intro ⟨by omega, by omega⟩ ?_))
  exact boolEq rfl

/-- a vector, and what leads to it, less multiples of the rows so far -/
def redV (p : Int) (A B : Nat → Int) (x : (Nat → Int) × (Nat → Int)) : Nat → (Nat → Int) × (Nat → Int)
  | 0 => x
  | k + 1 =>
    if (redV p A B x k).1 (first8 (partF A 8 k)) ≠ 0 then
      (addM p (redV p A B x k).1 (-((redV p A B x k).1 (first8 (partF A 8 k)))) (partF A 8 k), addM p (redV p A B x k).2 (-((redV p A B x k).1 (first8 (partF A 8 k)))) (partF B 8 k))
    else redV p A B x k
def snocF (A : Nat → Int) (r : Nat) (v : Nat → Int) : Nat → Int := fun q => if q < r * 8 then A q else v (q - r * 8)
structure SolS where
  r : Nat
  q : Nat
  A : Nat → Int
  B : Nat → Int
  C : Nat → Int
def solStep (p : Nat) (s : SolS) (v w : Nat → Int) : SolS :=
  if allEq 8 v (fun _ => 0) = true then { s with q := s.q + 1, C := snocF s.C s.q w }
  else { s with r := s.r + 1, A := snocF s.A s.r (addM p (fun _ => 0) (invN p (v (first8 v)).toNat) v), B := snocF s.B s.r (addM p (fun _ => 0) (invN p (v (first8 v)).toNat) w) }
def solN (p : Nat) (f : Nat → Int) : Nat → SolS
  | 0 => ⟨0, 0, fun _ => 0, fun _ => 0, fun _ => 0⟩
  | i + 1 => solStep p (solN p f i) (redV p (solN p f i).A (solN p f i).B (partF f 8 i, unitV i) (solN p f i).r).1 (redV p (solN p f i).A (solN p f i).B (partF f 8 i, unitV i) (solN p f i).r).2

/-- rows of numbers modulo p -/
def rngR (p : Nat) (n : Nat) (A : Nat → Int) : Prop := ∀ q, q < n * 8 → 0 ≤ A q ∧ A q < p
structure SolOK (p i : Nat) (s : SolS) : Prop where
  a : rngR p s.r s.A
  b : rngR p s.r s.B
  c : rngR p s.q s.C
  sum : s.r + s.q = i
  fst : ∀ k, k < s.r → first8 (partF s.A 8 k) < 8

theorem addM_rng {p : Nat} (hp : 0 < p) (v : Nat → Int) (k : Int) (w : Nat → Int) (j : Nat) : 0 ≤ addM p v k w j ∧ addM p v k w j < p := mod_rng (by omega) _
theorem redV_rng {p : Nat} (hp : 0 < p) {A B : Nat → Int} {x : (Nat → Int) × (Nat → Int)} (h1 : ∀ j, j < 8 → 0 ≤ x.1 j ∧ x.1 j < p) (h2 : ∀ j, j < 8 → 0 ≤ x.2 j ∧ x.2 j < p) : ∀ k, (∀ j, j < 8 → 0 ≤ (redV p A B x k).1 j ∧ (redV p A B x k).1 j < p) ∧ ∀ j, j < 8 → 0 ≤ (redV p A B x k).2 j ∧ (redV p A B x k).2 j < p
  | 0 => ⟨h1, h2⟩
  | k + 1 => by
    unfold redV
    split
    · exact ⟨fun j _ => addM_rng hp _ _ _ j, fun j _ => addM_rng hp _ _ _ j⟩
    · exact redV_rng hp h1 h2 k
theorem snoc_rng {p r : Nat} {A v : Nat → Int} (h : rngR p r A) (hv : ∀ j, j < 8 → 0 ≤ v j ∧ v j < p) : rngR p (r + 1) (snocF A r v) := fun q hq => by
  unfold snocF
  split
  · exact h q (by omega)
  · exact hv _ (by omega)
theorem snoc_old {A v : Nat → Int} {r k j : Nat} (hk : k < r) (hj : j < 8) : partF (snocF A r v) 8 k j = partF A 8 k j := by unfold partF snocF; rw [if_pos (by omega)]
theorem snoc_new {A v : Nat → Int} {r j : Nat} (hj : j < 8) : partF (snocF A r v) 8 r j = v j := by unfold partF snocF; rw [if_neg (by omega)]; congr 1; omega

theorem solN_ok {p : Nat} {f : Nat → Int} (hp : primeB (p : Int) = true) (hp2 : 2 ≤ p ∧ p ≤ 31) (hf : ∀ q, q < 64 → 0 ≤ f q ∧ f q < p) : ∀ i, i ≤ 8 → SolOK p i (solN p f i)
  | 0, _ => ⟨fun q (hq : q < 0 * 8) => by omega, fun q (hq : q < 0 * 8) => by omega, fun q (hq : q < 0 * 8) => by omega, rfl, fun k hk => absurd hk (Nat.not_lt_zero _)⟩
  | i + 1, hi => by
    have ih := solN_ok hp hp2 hf i (by omega)
    have hr := redV_rng (p := p) (A := (solN p f i).A) (B := (solN p f i).B) (x := (partF f 8 i, unitV i)) (by omega) (fun j hj => hf _ (by omega)) (fun j hj => by show 0 ≤ unitV i j ∧ unitV i j < p; unfold unitV; split <;> omega) (solN p f i).r
    show SolOK p (i + 1) (solStep p (solN p f i) _ _)
    generalize redV p (solN p f i).A (solN p f i).B (partF f 8 i, unitV i) (solN p f i).r = vw at hr ⊢
    unfold solStep
    split
    · exact ⟨ih.a, ih.b, snoc_rng ih.c hr.2, by have := ih.sum; show (solN p f i).r + ((solN p f i).q + 1) = i + 1; omega, ih.fst⟩
    · rename_i hz
      have h8 : first8 vw.1 < 8 ∧ vw.1 (first8 vw.1) ≠ 0 ∧ ∀ j, j < first8 vw.1 → vw.1 j = 0 := by
        rcases first8_spec vw.1 with ⟨h1, h2⟩ | h
        · exact absurd (List.all_eq_true.2 fun j hj => beq_iff_eq.2 (h2 j (List.mem_range.1 hj))) hz
        · exact h
      have hx := hr.1 _ h8.1
      obtain ⟨i0, i1, i2, _⟩ := invN_spec hp hp2 (x := (vw.1 (first8 vw.1)).toNat) ⟨by omega, by omega⟩
      refine ⟨snoc_rng ih.a fun j _ => addM_rng (by omega) _ _ _ j, snoc_rng ih.b fun j _ => addM_rng (by omega) _ _ _ j, ih.c, by have := ih.sum; show (solN p f i).r + 1 + (solN p f i).q = i + 1; omega, fun k hk => ?_⟩
      show first8 (partF (snocF (solN p f i).A (solN p f i).r _) 8 k) < 8
      by_cases e : k = (solN p f i).r
      · rw [e, first8_congr fun j hj => snoc_new hj, first8_is (k := first8 vw.1) (by omega)]
        · exact h8.1
        · intro j hj; unfold addM; rw [h8.2.2 j hj]; simp
        · intro _
          have h1 : addM p (fun _ => 0) (invN p (vw.1 (first8 vw.1)).toNat) vw.1 (first8 vw.1) = 1 := by
            unfold addM
            have e1 : vw.1 (first8 vw.1) = ((vw.1 (first8 vw.1)).toNat : Int) := by omega
            generalize (vw.1 (first8 vw.1)).toNat = x at *
            rw [e1, Int.zero_add, ← Int.natCast_mul]
            exact_mod_cast i2
          rw [h1]; decide
      · rw [first8_congr fun j hj => snoc_old (show k < (solN p f i).r by have hk : k < (solN p f i).r + 1 := hk; omega) hj]
        exact ih.fst k (by have hk : k < (solN p f i).r + 1 := hk; omega)

/-- the three lists -/
def SolQ (p n : Nat) (f : Nat → Int) (r : SV) (m : Mem) : Prop :=
  ∃ c1 c2 c3, (solN p f n).r ≤ c1 ∧ (solN p f n).r ≤ c2 ∧ (solN p f n).q ≤ c3 ∧ r = .tcons (.sl 1 0 (solN p f n).r c1) (.tcons (.sl 2 0 (solN p f n).r c2) (.tcons (.sl 3 0 (solN p f n).q c3) .tnil)) ∧
    m = [some (.ints .u8 64 f, 64), some (.ints .u8 ((solN p f n).r * 8) (solN p f n).A, c1 * 8), some (.ints .u8 ((solN p f n).r * 8) (solN p f n).B, c2 * 8), some (.ints .u8 ((solN p f n).q * 8) (solN p f n).C, c3 * 8)]

end Go.Proofs.Ytcocapkdpbdmdaa
