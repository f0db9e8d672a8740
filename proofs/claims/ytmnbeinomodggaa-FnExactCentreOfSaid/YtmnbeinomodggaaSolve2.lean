/- The model's way to solve linear equations: its lists as plain recursion. -/
import Derived.Test.YtmnbeinomodggaaSolve
import Derived.Test.YtmnbeinomodggaaRref
import Derived.Test.YtmnbeinomodggaaAlgMath
import Derived.Test.YtmnbeinomodggaaIsAlg
set_option linter.unusedVariables false
set_option maxRecDepth 100000
set_option maxHeartbeats 4000000
namespace Go.Proofs.Ytmnbeinomodggaa
open M

theorem l01ZeroS_s (v : Nat → Int) : Spec Try.prog 78 [.ints .u8 8 v] [] (Ret (.bool (allEq 8 v fun _ => 0))) := by
  refine Spec.ret rfl (Spec.of_vc tabOK tabEq Try.func78 rfl (by kernel_rfl) rfl rfl ?_)
  (repeat (first | refine And.intro (by omega) ?_ | refine And.intro ⟨by omega, by omega⟩ ?_))
  exact boolEq rfl

/-- a vector, and what leads to it, less multiples of the rows so far -/
def redV (p : Int) (A B : Nat → Int) (x : (Nat → Int) × (Nat → Int)) : Nat → (Nat → Int) × (Nat → Int)
  | 0 => x
  | k + 1 =>
    if (redV p A B x k).1 (first8 (partF A 8 k)) ≠ 0 then
      (addM p (redV p A B x k).1 (-((redV p A B x k).1 (first8 (partF A 8 k)))) (partF A 8 k), addM p (redV p A B x k).2 (-((redV p A B x k).1 (first8 (partF A 8 k)))) (partF B 8 k))
    else redV p A B x k
def snocF (A : Nat → Int) (r : Nat) (v : Nat → Int) : Nat → Int := fun q => if q < r * 8 then A q else v (q - r * 8)
structure SolS where
  r : Nat
  q : Nat
  A : Nat → Int
  B : Nat → Int
  C : Nat → Int
def solStep (p : Nat) (s : SolS) (v w : Nat → Int) : SolS :=
  if allEq 8 v (fun _ => 0) = true then { s with q := s.q + 1, C := snocF s.C s.q w }
  else { s with r := s.r + 1, A := snocF s.A s.r (addM p (fun _ => 0) (invN p (v (first8 v)).toNat) v), B := snocF s.B s.r (addM p (fun _ => 0) (invN p (v (first8 v)).toNat) w) }
def solN (p : Nat) (f : Nat → Int) : Nat → SolS
  | 0 => ⟨0, 0, fun _ => 0, fun _ => 0, fun _ => 0⟩
  | i + 1 => solStep p (solN p f i) (redV p (solN p f i).A (solN p f i).B (partF f 8 i, unitV i) (solN p f i).r).1 (redV p (solN p f i).A (solN p f i).B (partF f 8 i, unitV i) (solN p f i).r).2

/-- rows of numbers modulo p -/
def rngR (p : Nat) (n : Nat) (A : Nat → Int) : Prop := ∀ q, q < n * 8 → 0 ≤ A q ∧ A q < p
structure SolOK (p i : Nat) (s : SolS) : Prop where
  a : rngR p s.r s.A
  b : rngR p s.r s.B
  c : rngR p s.q s.C
  sum : s.r + s.q = i
  fst : ∀ k, k < s.r → first8 (partF s.A 8 k) < 8

theorem addM_rng {p : Nat} (hp : 0 < p) (v : Nat → Int) (k : Int) (w : Nat → Int) (j : Nat) : 0 ≤ addM p v k w j ∧ addM p v k w j < p := mod_rng (by omega) _
theorem redV_rng {p : Nat} (hp : 0 < p) {A B : Nat → Int} {x : (Nat → Int) × (Nat → Int)} (h1 : ∀ j, j < 8 → 0 ≤ x.1 j ∧ x.1 j < p) (h2 : ∀ j, j < 8 → 0 ≤ x.2 j ∧ x.2 j < p) : ∀ k, (∀ j, j < 8 → 0 ≤ (redV p A B x k).1 j ∧ (redV p A B x k).1 j < p) ∧ ∀ j, j < 8 → 0 ≤ (redV p A B x k).2 j ∧ (redV p A B x k).2 j < p
  | 0 => ⟨h1, h2⟩
  | k + 1 => by
    unfold redV
    split
    · exact ⟨fun j _ => addM_rng hp _ _ _ j, fun j _ => addM_rng hp _ _ _ j⟩
    · exact redV_rng hp h1 h2 k
theorem snoc_rng {p r : Nat} {A v : Nat → Int} (h : rngR p r A) (hv : ∀ j, j < 8 → 0 ≤ v j ∧ v j < p) : rngR p (r + 1) (snocF A r v) := fun q hq => by
  unfold snocF
  split
  · exact h q (by omega)
  · exact hv _ (by omega)
theorem snoc_old {A v : Nat → Int} {r k j : Nat} (hk : k < r) (hj : j < 8) : partF (snocF A r v) 8 k j = partF A 8 k j := by unfold partF snocF; rw [if_pos (by omega)]
theorem snoc_new {A v : Nat → Int} {r j : Nat} (hj : j < 8) : partF (snocF A r v) 8 r j = v j := by unfold partF snocF; rw [if_neg (by omega)]; congr 1; omega

theorem solN_ok {p : Nat} {f : Nat → Int} (hp : primeB (p : Int) = true) (hp2 : 2 ≤ p ∧ p ≤ 31) (hf : ∀ q, q < 64 → 0 ≤ f q ∧ f q < p) : ∀ i, i ≤ 8 → SolOK p i (solN p f i)
  | 0, _ => ⟨fun q (hq : q < 0 * 8) => by omega, fun q (hq : q < 0 * 8) => by omega, fun q (hq : q < 0 * 8) => by omega, rfl, fun k hk => absurd hk (Nat.not_lt_zero _)⟩
  | i + 1, hi => by
    have ih := solN_ok hp hp2 hf i (by omega)
    have hr := redV_rng (p := p) (A := (solN p f i).A) (B := (solN p f i).B) (x := (partF f 8 i, unitV i)) (by omega) (fun j hj => hf _ (by omega)) (fun j hj => by show 0 ≤ unitV i j ∧ unitV i j < p; unfold unitV; split <;> omega) (solN p f i).r
    show SolOK p (i + 1) (solStep p (solN p f i) _ _)
    generalize redV p (solN p f i).A (solN p f i).B (partF f 8 i, unitV i) (solN p f i).r = vw at hr ⊢
    unfold solStep
    split
    · exact ⟨ih.a, ih.b, snoc_rng ih.c hr.2, by have := ih.sum; show (solN p f i).r + ((solN p f i).q + 1) = i + 1; omega, ih.fst⟩
    · rename_i hz
      have h8 : first8 vw.1 < 8 ∧ vw.1 (first8 vw.1) ≠ 0 ∧ ∀ j, j < first8 vw.1 → vw.1 j = 0 := by
        rcases first8_spec vw.1 with ⟨h1, h2⟩ | h
        · exact absurd (List.all_eq_true.2 fun j hj => beq_iff_eq.2 (h2 j (List.mem_range.1 hj))) hz
        · exact h
      have hx := hr.1 _ h8.1
      obtain ⟨i0, i1, i2, _⟩ := invN_spec hp hp2 (x := (vw.1 (first8 vw.1)).toNat) ⟨by omega, by omega⟩
      refine ⟨snoc_rng ih.a fun j _ => addM_rng (by omega) _ _ _ j, snoc_rng ih.b fun j _ => addM_rng (by omega) _ _ _ j, ih.c, by have := ih.sum; show (solN p f i).r + 1 + (solN p f i).q = i + 1; omega, fun k hk => ?_⟩
      show first8 (partF (snocF (solN p f i).A (solN p f i).r _) 8 k) < 8
      by_cases e : k = (solN p f i).r
      · rw [e, first8_congr fun j hj => snoc_new hj, first8_is (k := first8 vw.1) (by omega)]
        · exact h8.1
        · intro j hj; unfold addM; rw [h8.2.2 j hj]; simp
        · intro _
          have h1 : addM p (fun _ => 0) (invN p (vw.1 (first8 vw.1)).toNat) vw.1 (first8 vw.1) = 1 := by
            unfold addM
            have e1 : vw.1 (first8 vw.1) = ((vw.1 (first8 vw.1)).toNat : Int) := by omega
            generalize (vw.1 (first8 vw.1)).toNat = x at *
            rw [e1, Int.zero_add, ← Int.natCast_mul]
            exact_mod_cast i2
          rw [h1]; decide
      · rw [first8_congr fun j hj => snoc_old (show k < (solN p f i).r by have hk : k < (solN p f i).r + 1 := hk; omega) hj]
        exact ih.fst k (by have hk : k < (solN p f i).r + 1 := hk; omega)

/-- the three lists -/
def SolQ (p n : Nat) (f : Nat → Int) (r : SV) (m : Mem) : Prop :=
  ∃ c1 c2 c3, (solN p f n).r ≤ c1 ∧ (solN p f n).r ≤ c2 ∧ (solN p f n).q ≤ c3 ∧ r = .tcons (.sl 1 0 (solN p f n).r c1) (.tcons (.sl 2 0 (solN p f n).r c2) (.tcons (.sl 3 0 (solN p f n).q c3) .tnil)) ∧
    m = [some (.ints .u8 64 f, 64), some (.ints .u8 ((solN p f n).r * 8) (solN p f n).A, c1 * 8), some (.ints .u8 ((solN p f n).r * 8) (solN p f n).B, c2 * 8), some (.ints .u8 ((solN p f n).q * 8) (solN p f n).C, c3 * 8)]

theorem l01Solve_s (p n : Nat) (f : Nat → Int) (hp : primeB (p : Int) = true) (hp2 : 2 ≤ p ∧ p ≤ 31) (hn : n ≤ 8) (hf : ∀ q, q < 64 → 0 ≤ f q ∧ f q < p) :
    Spec Try.prog 51 [.int .i64 p, .int .i64 n, .ints .u8 64 f] [] (SolQ p n f) := by
  have hp0 : (0 : Int) < p ∧ (p : Int) < 256 := by omega
  refine (Spec.of_vc tabOK tabEq Try.func51 rfl (by kernel_rfl) rfl rfl ?_)
  refine LoopVC.of (fun x : Nat × Nat × Nat × Nat => x.1 ≤ n ∧ (solN p f x.1).r ≤ x.2.1 ∧ (solN p f x.1).r ≤ x.2.2.1 ∧ (solN p f x.1).q ≤ x.2.2.2)
    (fun x => [(0, .int .i64 p), (1, .int .i64 n), (5, .ptr 0 [] 0 0), (9, .sl 1 0 (solN p f x.1).r x.2.1), (10, .sl 2 0 (solN p f x.1).r x.2.2.1), (11, .sl 3 0 (solN p f x.1).q x.2.2.2), (12, .int .i64 x.1)])
    (fun x => [some (.ints .u8 64 f, 64), some (.ints .u8 ((solN p f x.1).r * 8) (solN p f x.1).A, x.2.1 * 8), some (.ints .u8 ((solN p f x.1).r * 8) (solN p f x.1).B, x.2.2.1 * 8), some (.ints .u8 ((solN p f x.1).q * 8) (solN p f x.1).C, x.2.2.2 * 8)]) (fun x => n - x.1) (0, 0, 0, 0) ⟨Nat.zero_le _, Nat.le_refl _, Nat.le_refl _, Nat.le_refl _⟩ ?_ ?_ ?_
  · exact (And.intro rfl (And.intro rfl (And.intro rfl (And.intro rfl (And.intro rfl (And.intro rfl (And.intro rfl (trivial))))))))
  · refine And.intro (And.intro (rowEq fun _ _ => rfl) rfl) (And.intro (And.intro ?_ rfl) (And.intro (And.intro ?_ rfl) (And.intro (And.intro ?_ rfl) trivial)))
    · exact ⟨⟨rfl, rfl⟩, fun j hj => by omega⟩
    · exact ⟨⟨rfl, rfl⟩, fun j hj => by omega⟩
    · exact ⟨⟨rfl, rfl⟩, fun j hj => by omega⟩
  · rintro ⟨i, c1, c2, c3⟩ ⟨hi, h1, h2, h3⟩
    dsimp only at hi h1 h2 h3
    have hok := solN_ok hp hp2 hf i (by omega)
    have hsum := hok.sum
    refine ifVC_split (fun hh => ?_) (fun hh => ?_)
    · have hlt : i < n := by have := of_decide_eq_true hh; omega
      have hidx : (i : Int).toNat = i := by omega
      refine Exists.intro 8 (And.intro (by kernel_rfl) ?_)
      (repeat (first | refine And.intro (by omega) ?_ | refine And.intro ⟨by omega, by omega⟩ ?_))
      refine Exists.intro (.ints .u8 8 (unitV i)) (And.intro (And.intro rfl (And.intro rfl (Spec.mono (l01Basis_s i (by omega)) fun r m h => h.1))) ?_)
      (repeat (first | refine And.intro (by omega) ?_ | refine And.intro ⟨by omega, by omega⟩ ?_))
      have hS : solN p f (i + 1) = solStep p (solN p f i) (redV p (solN p f i).A (solN p f i).B (partF f 8 i, unitV i) (solN p f i).r).1 (redV p (solN p f i).A (solN p f i).B (partF f 8 i, unitV i) (solN p f i).r).2 := rfl
      have hr := redV_rng (p := p) (A := (solN p f i).A) (B := (solN p f i).B) (x := (partF f 8 i, unitV i)) (by omega) (fun j hj => hf _ (by omega)) (fun j hj => by show 0 ≤ unitV i j ∧ unitV i j < p; unfold unitV; split <;> omega)
      have hrd : ∀ k, redV p (solN p f i).A (solN p f i).B (partF f 8 i, unitV i) (k + 1) = if (redV p (solN p f i).A (solN p f i).B (partF f 8 i, unitV i) k).1 (first8 (partF (solN p f i).A 8 k)) ≠ 0 then
          (addM p (redV p (solN p f i).A (solN p f i).B (partF f 8 i, unitV i) k).1 (-((redV p (solN p f i).A (solN p f i).B (partF f 8 i, unitV i) k).1 (first8 (partF (solN p f i).A 8 k)))) (partF (solN p f i).A 8 k), addM p (redV p (solN p f i).A (solN p f i).B (partF f 8 i, unitV i) k).2 (-((redV p (solN p f i).A (solN p f i).B (partF f 8 i, unitV i) k).1 (first8 (partF (solN p f i).A 8 k)))) (partF (solN p f i).B 8 k))
          else redV p (solN p f i).A (solN p f i).B (partF f 8 i, unitV i) k := fun k => rfl
      have hr0 : redV p (solN p f i).A (solN p f i).B (partF f 8 i, unitV i) 0 = (partF f 8 i, unitV i) := rfl
      generalize redV p (solN p f i).A (solN p f i).B (partF f 8 i, unitV i) = V at *
      obtain ⟨ha, hb, hc, _, hfst⟩ := hok
      have fin : ∀ (s' : SolS) (c1' c2' c3' : Nat), solN p f (i + 1) = s' → s'.r ≤ c1' → s'.r ≤ c2' → s'.q ≤ c3' → ∀ sl mm, subL [(0, .int .i64 p), (1, .int .i64 n), (5, .ptr 0 [] 0 0), (9, .sl 1 0 s'.r c1'), (10, .sl 2 0 s'.r c2'), (11, .sl 3 0 s'.q c3'), (12, .int .i64 ((i + 1 : Nat) : Int))] sl →
          memCut mm [some (.ints .u8 64 f, 64), some (.ints .u8 (s'.r * 8) s'.A, c1' * 8), some (.ints .u8 (s'.r * 8) s'.B, c2' * 8), some (.ints .u8 (s'.q * 8) s'.C, c3' * 8)] →
          ∃ x : Nat × Nat × Nat × Nat, (x.1 ≤ n ∧ (solN p f x.1).r ≤ x.2.1 ∧ (solN p f x.1).r ≤ x.2.2.1 ∧ (solN p f x.1).q ≤ x.2.2.2) ∧ n - x.1 < n - i ∧
            subL [(0, .int .i64 p), (1, .int .i64 n), (5, .ptr 0 [] 0 0), (9, .sl 1 0 (solN p f x.1).r x.2.1), (10, .sl 2 0 (solN p f x.1).r x.2.2.1), (11, .sl 3 0 (solN p f x.1).q x.2.2.2), (12, .int .i64 x.1)] sl ∧
            memCut mm [some (.ints .u8 64 f, 64), some (.ints .u8 ((solN p f x.1).r * 8) (solN p f x.1).A, x.2.1 * 8), some (.ints .u8 ((solN p f x.1).r * 8) (solN p f x.1).B, x.2.2.1 * 8), some (.ints .u8 ((solN p f x.1).q * 8) (solN p f x.1).C, x.2.2.2 * 8)] := by
        rintro s' c1' c2' c3' rfl g1 g2 g3 sl mm g4 g5
        exact ⟨(i + 1, c1', c2', c3'), ⟨hlt, g1, g2, g3⟩, by show n - (i + 1) < n - i; omega, g4, g5⟩
      generalize solN p f i = s at *
      obtain ⟨r, q, A, B, C⟩ := s
      dsimp only at h1 h2 h3 hsum ha hb hc hfst hrd hS
      refine LoopVC.of (fun k : Nat => k ≤ r) (fun k => [(0, .int .i64 p), (1, .int .i64 n), (5, .ptr 0 [] 0 0), (9, .sl 1 0 r c1), (10, .sl 2 0 r c2), (11, .sl 3 0 q c3), (12, .int .i64 i), (13, .ptr 4 [] 0 0), (14, .ptr 5 [] 0 0), (15, .int .i64 k)])
        (fun k => [some (.ints .u8 64 f, 64), some (.ints .u8 (r * 8) A, c1 * 8), some (.ints .u8 (r * 8) B, c2 * 8), some (.ints .u8 (q * 8) C, c3 * 8), some (.ints .u8 8 (V k).1, 8), some (.ints .u8 8 (V k).2, 8)]) (fun k => r - k) 0 (Nat.zero_le _) ?_ ?_ ?_
      · exact And.intro rfl (And.intro rfl (And.intro rfl (And.intro rfl (And.intro rfl (And.intro rfl (And.intro rfl (And.intro rfl (And.intro rfl (And.intro rfl trivial)))))))))
      · refine And.intro (And.intro (rowEq fun _ _ => rfl) rfl) (And.intro (And.intro (rowEq fun _ _ => rfl) rfl) (And.intro (And.intro (rowEq fun _ _ => rfl) rfl) (And.intro (And.intro (rowEq fun _ _ => rfl) rfl) (And.intro (And.intro (rowEq fun j hj => ?_) rfl) (And.intro (And.intro (rowEq fun j hj => ?_) rfl) trivial)))))
        · show updR _ 0 8 (fun j => f (j + ((i : Int).toNat * 8 + 0))) j = (V 0).1 j
          rw [hr0, hidx]
          simp [updR, hj, partF]
        · show updR _ 0 8 (unitV i) j = (V 0).2 j
          rw [hr0]
          simp [updR, hj]
      · intro k hk
        refine ifVC_split (fun hh => ?_) (fun hh => ?_)
        · have hkr : k < r := by have := of_decide_eq_true hh; omega
          have hkx : (k : Int).toNat * 8 + 0 = k * 8 := by omega
          (repeat (first | refine And.intro (by omega) ?_ | refine And.intro ⟨by omega, by omega⟩ ?_))
          have hat : first8 (fun j => A (j + ((k : Int).toNat * 8 + 0))) = first8 (partF A 8 k) := by rw [hkx]; rfl
          refine And.intro trivial (Spec.mono (l01First_s _) ?_)
          rintro _ _ ⟨rfl, rfl⟩
          rw [hat]
          have h8 := hfst k hkr
          have hrdk := hrd k
          generalize first8 (partF A 8 k) = a0 at *
          (repeat (first | refine And.intro (by omega) ?_ | refine And.intro ⟨by omega, by omega⟩ ?_))
          have hax : (a0 : Int).toNat * 1 + 0 = a0 := by omega
          have hv0 := (hr k).1 a0 h8
          refine ifVC_split (fun hz => ?_) (fun hz => ?_)
          · have hz : (V k).1 a0 ≠ 0 := by
              have hz : ((V k).1 ((a0 : Int).toNat * 1 + 0) != 0) = true := hz
              rw [hax] at hz; simpa using hz
            rw [if_pos hz] at hrdk
            have hneg : IntKind.i64.wrap (0 - IntKind.i64.wrap ((V k).1 ((a0 : Int).toNat * 1 + 0))) = -((V k).1 a0) := by
              rw [hax, wrapI (x := (V k).1 a0) (by omega), wrapI (by omega)]; omega
            (repeat (first | refine And.intro (by omega) ?_ | refine And.intro ⟨by omega, by omega⟩ ?_))
            refine Exists.intro 8 (And.intro (by kernel_rfl) ?_)
            (repeat (first | refine And.intro (by omega) ?_ | refine And.intro ⟨by omega, by omega⟩ ?_))
            refine Exists.intro (.ints .u8 8 _) (And.intro (And.intro rfl (And.intro rfl (Spec.mono (l01Add_s p _ _ _ hp0 (by rw [hneg]; omega) (fun j hj => by have := (hr k).1 (j + 0) (by omega); omega) (fun j hj => by have := ha (j + ((k : Int).toNat * 8 + 0)) (by omega); omega)) fun r m h => h.1))) ?_)
            (repeat (first | refine And.intro (by omega) ?_ | refine And.intro ⟨by omega, by omega⟩ ?_))
            refine Exists.intro 8 (And.intro (by kernel_rfl) ?_)
            (repeat (first | refine And.intro (by omega) ?_ | refine And.intro ⟨by omega, by omega⟩ ?_))
            refine Exists.intro (.ints .u8 8 _) (And.intro (And.intro rfl (And.intro rfl (Spec.mono (l01Add_s p _ _ _ hp0 (by rw [hneg]; omega) (fun j hj => by have := (hr k).2 (j + 0) (by omega); omega) (fun j hj => by have := hb (j + ((k : Int).toNat * 8 + 0)) (by omega); omega)) fun r m h => h.1))) ?_)
            (repeat (first | refine And.intro (by omega) ?_ | refine And.intro ⟨by omega, by omega⟩ ?_))
            refine Exists.intro (k + 1) (And.intro (by omega) (And.intro (by omega) (And.intro (And.intro rfl (And.intro rfl (And.intro rfl (And.intro rfl (And.intro rfl (And.intro rfl (And.intro rfl (And.intro rfl (And.intro rfl (And.intro (slotI (wrapS (by omega))) trivial)))))))))) ?_)))
            refine And.intro (And.intro (rowEq fun _ _ => rfl) rfl) (And.intro (And.intro (rowEq fun _ _ => rfl) rfl) (And.intro (And.intro (rowEq fun _ _ => rfl) rfl) (And.intro (And.intro (rowEq fun _ _ => rfl) rfl) (And.intro (And.intro (rowEq fun j hj => ?_) rfl) (And.intro (And.intro (rowEq fun j hj => ?_) rfl) trivial)))))
            · rw [hrdk]
              show updR _ 0 8 (addM p _ _ _) j = addM p _ _ _ j
              unfold updR
              rw [if_pos (by omega)]
              unfold addM
              rw [hneg, hkx]
              rfl
            · rw [hrdk]
              show updR _ 0 8 (addM p _ _ _) j = addM p _ _ _ j
              unfold updR
              rw [if_pos (by omega)]
              unfold addM
              rw [hneg, hkx]
              rfl
          · have hz : (V k).1 a0 = 0 := by
              have hz : ((V k).1 ((a0 : Int).toNat * 1 + 0) != 0) = false := hz
              rw [hax] at hz; simpa using hz
            rw [if_neg (fun e => e hz)] at hrdk
            refine Exists.intro (k + 1) (And.intro (by omega) (And.intro (by omega) (And.intro (And.intro rfl (And.intro rfl (And.intro rfl (And.intro rfl (And.intro rfl (And.intro rfl (And.intro rfl (And.intro rfl (And.intro rfl (And.intro (slotI (wrapS (by omega))) trivial)))))))))) ?_)))
            refine And.intro (And.intro (rowEq fun _ _ => rfl) rfl) (And.intro (And.intro (rowEq fun _ _ => rfl) rfl) (And.intro (And.intro (rowEq fun _ _ => rfl) rfl) (And.intro (And.intro (rowEq fun _ _ => rfl) rfl) (And.intro (And.intro (rowEq fun j hj => ?_) rfl) (And.intro (And.intro (rowEq fun j hj => ?_) rfl) trivial)))))
            · rw [hrdk]
            · rw [hrdk]
        · have hkr : k = r := by have := of_decide_eq_false hh; omega
          subst hkr
          have h9 : ∀ g : Nat → Int, (fun j => g (j + 0)) = g := fun g => rfl
          (repeat (first | refine And.intro (by omega) ?_ | refine And.intro ⟨by omega, by omega⟩ ?_))
          refine And.intro trivial (Spec.mono (l01ZeroS_s _) ?_)
          rintro _ _ ⟨rfl, rfl⟩
          have hrk := hr k
          generalize V k = vw at *
          obtain ⟨v, w⟩ := vw
          dsimp only at hrk
          refine ifVC_split (fun hz => ?_) (fun hz => ?_)
          · have hz : allEq 8 v (fun _ => 0) = true := hz
            have hS' : solN p f (i + 1) = ⟨k, q + 1, A, B, snocF C q w⟩ := by rw [hS]; unfold solStep; rw [if_pos hz]
            (repeat (first | refine And.intro (by omega) ?_ | refine And.intro ⟨by omega, by omega⟩ ?_))
            refine Or.inl (And.intro ⟨Nat.le_refl _, rfl, h3, show (q + 1) * 8 ≤ 140737488355328 by omega, show q + 1 ≤ 4611686018427387904 by omega⟩ (fun cap' hcap => ?_))
            refine fin _ c1 c2 cap' hS' h1 h2 hcap _ _ ?_ ?_
            · exact And.intro rfl (And.intro rfl (And.intro rfl (And.intro rfl (And.intro rfl (And.intro rfl (And.intro (slotI (wrapS (by omega))) trivial))))))
            · refine And.intro (And.intro (rowEq fun _ _ => rfl) rfl) (And.intro (And.intro (rowEq fun _ _ => rfl) rfl) (And.intro (And.intro (rowEq fun _ _ => rfl) rfl) (And.intro (And.intro (rowEq fun j hj => ?_) rfl) trivial)))
              show appF C (q * 8) 0 (updR _ 0 8 fun j => w (j + 0)) j = snocF C q w j
              unfold appF snocF
              by_cases e : j < q * 8
              · rw [if_pos e, if_pos e]
              · rw [if_neg e, if_neg e]
                unfold updR
                rw [if_pos (by omega)]
                rfl
          · have hz : allEq 8 v (fun _ => 0) = false := hz
            have h8 : first8 v < 8 ∧ v (first8 v) ≠ 0 := by
              rcases first8_spec v with ⟨h1, h2⟩ | h
              · have : allEq 8 v (fun _ => 0) = true := List.all_eq_true.2 fun j hj => beq_iff_eq.2 (h2 j (List.mem_range.1 hj))
                rw [this] at hz; cases hz
              · exact ⟨h.1, h.2.1⟩
            have hS' : solN p f (i + 1) = ⟨k + 1, q, snocF A k (addM p (fun _ => 0) (invN p (v (first8 v)).toNat) v), snocF B k (addM p (fun _ => 0) (invN p (v (first8 v)).toNat) w), C⟩ := by rw [hS]; unfold solStep; rw [if_neg (by rw [hz]; simp)]
            have hx := hrk.1 _ h8.1
            have hx0 : 0 < (v (first8 v)).toNat ∧ (v (first8 v)).toNat < p := by omega
            obtain ⟨i0, i1, _, _⟩ := invN_spec hp hp2 hx0
            (repeat (first | refine And.intro (by omega) ?_ | refine And.intro ⟨by omega, by omega⟩ ?_))
            refine And.intro trivial (Spec.mono (l01First_s _) ?_)
            rintro _ _ ⟨rfl, rfl⟩
            rw [h9 v]
            have hxv : v ((first8 v : Int).toNat * 1 + 0) = ((v (first8 v)).toNat : Int) := by rw [show (first8 v : Int).toNat * 1 + 0 = first8 v by omega]; omega
            have h81 := h8.1
            generalize (v (first8 v)).toNat = x0 at *
            generalize first8 v = a0 at *
            (repeat (first | refine And.intro (by omega) ?_ | refine And.intro ⟨by omega, by omega⟩ ?_))
            have hcv : Spec Try.prog 79 [.int .i64 p, .int .u8 (v ((a0 : Int).toNat * 1 + 0))] [] (Ret (.int .u8 (invN p x0))) := by
              rw [hxv]; exact l01Inverse_s p x0 hp hp2 hx0
            refine And.intro trivial (Spec.mono hcv ?_)
            rintro _ _ ⟨rfl, rfl⟩
            have hw1 : IntKind.i64.wrap (invN p x0 : Int) = invN p x0 := wrapI (by omega)
            have hz8 : isU8 8 (fun _ => 0) := fun j _ => by show (0 : Int) ≤ 0 ∧ (0 : Int) < 256; decide
            have hv8 : isU8 8 v := fun j hj => by have := hrk.1 j hj; omega
            have hw8 : isU8 8 w := fun j hj => by have := hrk.2 j hj; omega
            (repeat (first | refine And.intro (by omega) ?_ | refine And.intro ⟨by omega, by omega⟩ ?_))
            refine And.intro trivial (Spec.mono (l01Add_s p _ (fun _ => 0) _ hp0 (by rw [hw1]; omega) hz8 hv8) ?_)
            rintro _ _ ⟨rfl, rfl⟩
            rw [hw1, h9 v]
            (repeat (first | refine And.intro (by omega) ?_ | refine And.intro ⟨by omega, by omega⟩ ?_))
            refine Or.inl (And.intro ⟨Nat.le_refl _, rfl, h1, show (k + 1) * 8 ≤ 140737488355328 by omega, show k + 1 ≤ 4611686018427387904 by omega⟩ (fun cap' hcap => ?_))
            (repeat (first | refine And.intro (by omega) ?_ | refine And.intro ⟨by omega, by omega⟩ ?_))
            refine And.intro trivial (Spec.mono (l01Add_s p _ (fun _ => 0) _ hp0 (by omega) hz8 hw8) ?_)
            rintro _ _ ⟨rfl, rfl⟩
            (repeat (first | refine And.intro (by omega) ?_ | refine And.intro ⟨by omega, by omega⟩ ?_))
            refine Or.inl (And.intro ⟨Nat.le_refl _, rfl, h2, show (k + 1) * 8 ≤ 140737488355328 by omega, show k + 1 ≤ 4611686018427387904 by omega⟩ (fun cap2 hcap2 => ?_))
            refine fin _ cap' cap2 c3 hS' hcap hcap2 h3 _ _ ?_ ?_
            · exact And.intro rfl (And.intro rfl (And.intro rfl (And.intro rfl (And.intro rfl (And.intro rfl (And.intro (slotI (wrapS (by omega))) trivial))))))
            · have hsn : ∀ (F g z : Nat → Int) j, j < (k + 1) * 8 → appF F (k * 8) 0 (updR z 0 8 g) j = snocF F k g j := fun F g z j hj => by
                unfold appF snocF
                by_cases e : j < k * 8
                · rw [if_pos e, if_pos e]
                · rw [if_neg e, if_neg e]
                  unfold updR
                  rw [if_pos (by omega)]
                  rfl
              exact And.intro (And.intro (rowEq fun _ _ => rfl) rfl) (And.intro (And.intro (rowEq fun j hj => hsn _ _ _ j hj) rfl) (And.intro (And.intro (rowEq fun j hj => hsn _ _ _ j hj) rfl) (And.intro (And.intro (rowEq fun _ _ => rfl) rfl) trivial)))
    · have hin : i = n := by have := of_decide_eq_false hh; omega
      subst hin
      exact ⟨c1, c2, c3, h1, h2, h3, rfl, rfl⟩
end Go.Proofs.Ytmnbeinomodggaa
