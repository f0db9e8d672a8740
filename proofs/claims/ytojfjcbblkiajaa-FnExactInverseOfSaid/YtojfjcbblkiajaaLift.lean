/- The model's way to find what leads to a vector. -/
import Derived.Test.YtojfjcbblkiajaaSolve2
set_option linter.unusedVariables false
set_option maxRecDepth 100000
set_option maxHeartbeats 4000000
namespace Go.Proofs.Ytojfjcbblkiajaa
open M

/-- what is left of v, and what leads to the part taken off -/
def liftV (p : Int) (A B v : Nat → Int) : Nat → (Nat → Int) × (Nat → Int)
  | 0 => (v, fun _ => 0)
  | k + 1 =>
    if (liftV p A B v k).1 (first8 (partF A 8 k)) ≠ 0 then
      (addM p (liftV p A B v k).1 (-((liftV p A B v k).1 (first8 (partF A 8 k)))) (partF A 8 k), addM p (liftV p A B v k).2 ((liftV p A B v k).1 (first8 (partF A 8 k))) (partF B 8 k))
    else liftV p A B v k
theorem liftV_rng {p : Nat} (hp : 0 < p) {A B v : Nat → Int} (h1 : ∀ j, j < 8 → 0 ≤ v j ∧ v j < p) : ∀ k, (∀ j, j < 8 → 0 ≤ (liftV p A B v k).1 j ∧ (liftV p A B v k).1 j < p) ∧ ∀ j, j < 8 → 0 ≤ (liftV p A B v k).2 j ∧ (liftV p A B v k).2 j < p
  | 0 => ⟨h1, fun j _ => ⟨Int.le_refl _, by show (0 : Int) < p; omega⟩⟩
  | k + 1 => by
    have ih := liftV_rng hp (A := A) (B := B) h1 k
    unfold liftV
    split
    · exact ⟨fun j _ => addM_rng hp _ _ _ j, fun j _ => addM_rng hp _ _ _ j⟩
    · exact ih
def liftR (p n : Nat) (f v : Nat → Int) : (Nat → Int) × (Nat → Int) := liftV p (solN p f n).A (solN p f n).B v (solN p f n).r

theorem l01Lift_s (p n : Nat) (f v : Nat → Int) (hp : primeB (p : Int) = true) (hp2 : 2 ≤ p ∧ p ≤ 31) (hn : n ≤ 8) (hf : ∀ q, q < 64 → 0 ≤ f q ∧ f q < p) (hv : ∀ j, j < 8 → 0 ≤ v j ∧ v j < p) :
    Spec Try.prog 16 [.int .i64 p, .int .i64 n, .ints .u8 64 f, .ints .u8 8 v] [] (Ret (.tcons (.ints .u8 8 (liftR p n f v).2) (.tcons (.bool (allEq 8 (liftR p n f v).1 fun _ => 0)) .tnil))) := by
  have hp0 : (0 : Int) < p ∧ (p : Int) < 256 := by omega
  refine Spec.ret rfl (Spec.of_vc tabOK tabEq Try.func16 rfl (by kernel_rfl) rfl rfl ?_)
  (repeat (first | refine And.intro (by omega) ?_ | refine And.intro ⟨by omega, by omega⟩ ?_))
  refine And.intro trivial (Spec.mono (l01Solve_s p n f hp hp2 hn hf) ?_)
  rintro _ _ ⟨c1, c2, c3, h1, h2, h3, rfl, rfl⟩
  have hok := solN_ok hp hp2 hf n (by omega)
  have hsum := hok.sum
  have hLR : liftR p n f v = liftV p (solN p f n).A (solN p f n).B v (solN p f n).r := rfl
  obtain ⟨ha, hb, hc, _, hfst⟩ := hok
  generalize solN p f n = s at *
  obtain ⟨r, q, A, B, C⟩ := s
  dsimp only at h1 h2 h3 hsum ha hb hc hfst hLR
  have hr := liftV_rng (p := p) (A := A) (B := B) (by omega) hv
  have hrd : ∀ k, liftV p A B v (k + 1) = if (liftV p A B v k).1 (first8 (partF A 8 k)) ≠ 0 then
      (addM p (liftV p A B v k).1 (-((liftV p A B v k).1 (first8 (partF A 8 k)))) (partF A 8 k), addM p (liftV p A B v k).2 ((liftV p A B v k).1 (first8 (partF A 8 k))) (partF B 8 k))
    else liftV p A B v k := fun k => rfl
  have hr0 : liftV p A B v 0 = (v, fun _ => 0) := rfl
  generalize liftV p A B v = V at *
  (repeat (first | refine And.intro (by omega) ?_ | refine And.intro ⟨by omega, by omega⟩ ?_))
  refine LoopVC.of (fun k : Nat => k ≤ r) (fun k => [(0, .int .i64 p), (6, .ptr 0 [] 0 0), (7, .ptr 1 [] 0 0), (8, .ptr 2 [] 0 0), (10, .sl 4 0 r c1), (11, .sl 5 0 r c2), (13, .ptr 7 [] 0 0), (14, .int .i64 k)])
    (fun k => [none, some (.ints .u8 8 (V k).1, 8), some (.ints .u8 8 fun _ => 0, 8), none, some (.ints .u8 (r * 8) A, c1 * 8), some (.ints .u8 (r * 8) B, c2 * 8), none, some (.ints .u8 8 (V k).2, 8)]) (fun k => r - k) 0 (Nat.zero_le _) ?_ ?_ ?_
  · exact (And.intro rfl (And.intro rfl (And.intro rfl (And.intro rfl (And.intro rfl (And.intro rfl (And.intro rfl (And.intro rfl (trivial)))))))))
  · refine And.intro (And.intro (rowEq fun j hj => ?_) rfl) (And.intro (And.intro (rowEq fun _ _ => rfl) rfl) (And.intro (And.intro (rowEq fun _ _ => rfl) rfl) (And.intro (And.intro (rowEq fun _ _ => rfl) rfl) (And.intro (And.intro (rowEq fun j hj => ?_) rfl) trivial))))
    · rw [hr0]
    · rw [hr0]
      show updR _ 0 8 _ j = 0
      simp [updR, hj]
  · intro k hk
    refine ifVC_split (fun hh => ?_) (fun hh => ?_)
    · have hkr : k < r := by have := of_decide_eq_true hh; omega
      have hkx : (k : Int).toNat * 8 + 0 = k * 8 := by omega
      (repeat (first | refine And.intro (by omega) ?_ | refine And.intro ⟨by omega, by omega⟩ ?_))
      have hat : first8 (fun j => A (j + ((k : Int).toNat * 8 + 0))) = first8 (partF A 8 k) := by rw [hkx]; rfl
      refine And.intro trivial (Spec.mono (l01First_s _) ?_)
      rintro _ _ ⟨rfl, rfl⟩
      rw [hat]
      have h8 := hfst k hkr
      have hrdk := hrd k
      generalize first8 (partF A 8 k) = a0 at *
      (repeat (first | refine And.intro (by omega) ?_ | refine And.intro ⟨by omega, by omega⟩ ?_))
      have hax : (a0 : Int).toNat * 1 + 0 = a0 := by omega
      have hv0 := (hr k).1 a0 h8
      refine ifVC_split (fun hz => ?_) (fun hz => ?_)
      · have hz : (V k).1 a0 ≠ 0 := by
          have hz : ((V k).1 ((a0 : Int).toNat * 1 + 0) != 0) = true := hz
          rw [hax] at hz; simpa using hz
        rw [if_pos hz] at hrdk
        have hpos : IntKind.i64.wrap ((V k).1 ((a0 : Int).toNat * 1 + 0)) = (V k).1 a0 := by rw [hax]; exact wrapI (x := (V k).1 a0) (by omega)
        have hneg : IntKind.i64.wrap (0 - IntKind.i64.wrap ((V k).1 ((a0 : Int).toNat * 1 + 0))) = -((V k).1 a0) := by
          rw [hpos, wrapI (by omega)]; omega
        (repeat (first | refine And.intro (by omega) ?_ | refine And.intro ⟨by omega, by omega⟩ ?_))
        refine Exists.intro 8 (And.intro (by kernel_rfl) ?_)
        (repeat (first | refine And.intro (by omega) ?_ | refine And.intro ⟨by omega, by omega⟩ ?_))
        refine And.intro trivial (Spec.mono (l01Add_s p _ _ _ hp0 (by rw [hneg]; omega) (fun j hj => by have := (hr k).1 (j + 0) (by omega); omega) (fun j hj => by have := ha (j + ((k : Int).toNat * 8 + 0)) (by omega); omega)) ?_)
        rintro _ _ ⟨rfl, rfl⟩
        (repeat (first | refine And.intro (by omega) ?_ | refine And.intro ⟨by omega, by omega⟩ ?_))
        refine Exists.intro 7 (And.intro (by kernel_rfl) ?_)
        (repeat (first | refine And.intro (by omega) ?_ | refine And.intro ⟨by omega, by omega⟩ ?_))
        refine And.intro trivial (Spec.mono (l01Add_s p _ _ _ hp0 (by rw [hpos]; omega) (fun j hj => by have := (hr k).2 (j + 0) (by omega); omega) (fun j hj => by have := hb (j + ((k : Int).toNat * 8 + 0)) (by omega); omega)) ?_)
        rintro _ _ ⟨rfl, rfl⟩
        (repeat (first | refine And.intro (by omega) ?_ | refine And.intro ⟨by omega, by omega⟩ ?_))
        refine Exists.intro (k + 1) (And.intro (by omega) (And.intro (by omega) (And.intro (And.intro rfl (And.intro rfl (And.intro rfl (And.intro rfl (And.intro rfl (And.intro rfl (And.intro rfl (And.intro (slotI (wrapS (by omega))) trivial)))))))) ?_)))
        refine And.intro (And.intro (rowEq fun j hj => ?_) rfl) (And.intro (And.intro (rowEq fun _ _ => rfl) rfl) (And.intro (And.intro (rowEq fun _ _ => rfl) rfl) (And.intro (And.intro (rowEq fun _ _ => rfl) rfl) (And.intro (And.intro (rowEq fun j hj => ?_) rfl) trivial))))
        · rw [hrdk]
          show updR _ 0 8 (addM p _ _ _) j = addM p _ _ _ j
          unfold updR
          rw [if_pos (by omega)]
          unfold addM
          rw [hneg, hkx]
          rfl
        · rw [hrdk]
          show updR _ 0 8 (addM p _ _ _) j = addM p _ _ _ j
          unfold updR
          rw [if_pos (by omega)]
          unfold addM
          rw [hpos, hkx]
          rfl
      · have hz : (V k).1 a0 = 0 := by
          have hz : ((V k).1 ((a0 : Int).toNat * 1 + 0) != 0) = false := hz
          rw [hax] at hz; simpa using hz
        rw [if_neg (fun e => e hz)] at hrdk
        refine Exists.intro (k + 1) (And.intro (by omega) (And.intro (by omega) (And.intro (And.intro rfl (And.intro rfl (And.intro rfl (And.intro rfl (And.intro rfl (And.intro rfl (And.intro rfl (And.intro (slotI (wrapS (by omega))) trivial)))))))) ?_)))
        refine And.intro (And.intro (rowEq fun j hj => ?_) rfl) (And.intro (And.intro (rowEq fun _ _ => rfl) rfl) (And.intro (And.intro (rowEq fun _ _ => rfl) rfl) (And.intro (And.intro (rowEq fun _ _ => rfl) rfl) (And.intro (And.intro (rowEq fun j hj => ?_) rfl) trivial))))
        · rw [hrdk]
        · rw [hrdk]
    · have hkr : k = r := by have := of_decide_eq_false hh; omega
      subst hkr
      rw [hLR]
      refine Exists.intro 3 (And.intro (by kernel_rfl) ?_)
      (repeat (first | refine And.intro (by omega) ?_ | refine And.intro ⟨by omega, by omega⟩ ?_))

      refine Exists.intro (.bool (allEq 8 (V k).1 fun _ => 0)) (And.intro (And.intro rfl (And.intro rfl (Spec.mono (l01ZeroS_s _) fun r m h => h.1))) ?_)
      (repeat (first | refine And.intro (by omega) ?_ | refine And.intro ⟨by omega, by omega⟩ ?_))
      refine And.intro (rowEq fun j hj => ?_) (And.intro rfl rfl)
      show updR _ 0 8 _ j = _
      simp [updR, hj]
end Go.Proofs.Ytojfjcbblkiajaa
