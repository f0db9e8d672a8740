/- The model's reduced lists: what is left of a vector, and how it is put in. -/
import Derived.Test.YtcocapkdpbdmdaaList
import Derived.Test.YtcocapkdpbdmdaaRows3
set_option linter.unusedVariables false
set_option linter.unusedSimpArgs false
set_option maxRecDepth 100000
set_option maxHeartbeats 4000000
namespace Go.Proofs.Ytcocapkdpbdmdaa
open M

theorem l01By_s (p k cap : Nat) (A v : Nat → Int) (hp2 : 2 ≤ p ∧ p ≤ 31) (hk : k ≤ 8) (hA : rngR p k A) (hf : ∀ l, l < k → first8 (partF A 8 l) < 8) (hv : ∀ j, j < 8 → 0 ≤ v j ∧ v j < p) :
    Spec Try.prog 67 [.int .i64 p, .ints .u8 8 v, .sl 0 0 k cap] [some (.ints .u8 (k * 8) A, cap * 8)] (fun r m => r = .ints .u8 8 (byV p A v k) ∧ m = [some (.ints .u8 (k * 8) A, cap * 8)]) := by
  have hp0 : (0 : Int) < p ∧ (p : Int) < 256 := by omega
  refine Spec.cut (Nat.le_refl _) (by simp [SV.ids]) (fun id u c hb => by cases id <;> cases hb; simp [SV.ids]) (Spec.of_vc tabOK tabEq Try.func67 rfl (by kernel_rfl) rfl rfl ?_)
  have hr := liftV_rng (p := p) (A := A) (B := A) (by omega) hv
  have hrd : ∀ k, (liftV p A A v (k + 1)).1 = if (liftV p A A v k).1 (first8 (partF A 8 k)) ≠ 0 then addM p (liftV p A A v k).1 (-((liftV p A A v k).1 (first8 (partF A 8 k)))) (partF A 8 k) else (liftV p A A v k).1 := fun k => by
    show (if _ then (_, _) else liftV p A A v k : (Nat → Int) × (Nat → Int)).1 = _
    split <;> rfl
  have hr0 : (liftV p A A v 0).1 = v := rfl
  have hbd : byV p A v k = (liftV p A A v k).1 := rfl
  rw [hbd]
  generalize liftV p A A v = V at *
  refine LoopVC.of (fun i : Nat => i ≤ k) (fun i => [(0, .int .i64 p), (2, .sl 0 0 k cap), (4, .ptr 1 [] 0 0), (6, .ptr 2 [] 0 0), (7, .int .i64 i)])
    (fun i => [some (.ints .u8 (k * 8) A, cap * 8), some (.ints .u8 8 (V i).1, 8), some (.ints .u8 8 fun _ => 0, 8)]) (fun i => k - i) 0 (Nat.zero_le _) ?_ ?_ ?_
  · exact (And.intro rfl (And.intro rfl (And.intro rfl (And.intro rfl (And.intro rfl (trivial))))))
  · exact And.intro (And.intro (rowEq fun _ _ => rfl) rfl) (And.intro (And.intro (rowEq fun j hj => by rw [hr0]) rfl) (And.intro (And.intro (rowEq fun _ _ => rfl) rfl) trivial))
  · intro i hi
    refine ifVC_split (fun hh => ?_) (fun hh => ?_)
    · have hik : i < k := by have := of_decide_eq_true hh; omega
      have hkx : (i : Int).toNat * 8 + 0 = i * 8 := by omega
      (repeat (first | refine And.intro (by omega) ?_ | refine And.intro ⟨by omega, by omega⟩ ?_))
      have hat : first8 (fun j => A (j + ((i : Int).toNat * 8 + 0))) = first8 (partF A 8 i) := by rw [hkx]; rfl
      refine And.intro trivial (Spec.mono (l01First_s _) ?_)
      rintro _ _ ⟨rfl, rfl⟩
      rw [hat]
      have h8 := hf i hik
      have hrdk := hrd i
      generalize first8 (partF A 8 i) = a0 at *
      (repeat (first | refine And.intro (by omega) ?_ | refine And.intro ⟨by omega, by omega⟩ ?_))
      have hax : (a0 : Int).toNat * 1 + 0 = a0 := by omega
      have hv0 := (hr i).1 a0 h8
      refine ifVC_split (fun hz => ?_) (fun hz => ?_)
      · have hz : (V i).1 a0 ≠ 0 := by
          have hz : ((V i).1 ((a0 : Int).toNat * 1 + 0) != 0) = true := hz
          rw [hax] at hz; simpa using hz
        rw [if_pos hz] at hrdk
        have hpos : IntKind.i64.wrap ((V i).1 ((a0 : Int).toNat * 1 + 0)) = (V i).1 a0 := by rw [hax]; exact wrapI (x := (V i).1 a0) (by omega)
        have hneg : IntKind.i64.wrap (0 - IntKind.i64.wrap ((V i).1 ((a0 : Int).toNat * 1 + 0))) = -((V i).1 a0) := by
          rw [hpos, wrapI (by omega)]; omega
        refine Exists.intro 11 (And.intro (by kernel_rfl) ?_)
        (repeat (first | refine And.intro (by omega) ?_ | refine And.intro ⟨by omega, by omega⟩ ?_))
        refine And.intro trivial (Spec.mono (l01Add_s p _ _ _ hp0 (by rw [hneg]; omega) (fun j hj => by have := (hr i).1 (j + 0) (by omega); omega) (fun j hj => by have := hA (j + ((i : Int).toNat * 8 + 0)) (by omega); omega)) ?_)
        rintro _ _ ⟨rfl, rfl⟩
        (repeat (first | refine And.intro (by omega) ?_ | refine And.intro ⟨by omega, by omega⟩ ?_))
        refine Exists.intro (i + 1) (And.intro (by omega) (And.intro (by omega) (And.intro (And.intro rfl (And.intro rfl (And.intro rfl (And.intro rfl (And.intro (slotI (wrapS (by omega))) trivial))))) ?_)))
        refine And.intro (And.intro (rowEq fun _ _ => rfl) rfl) (And.intro (And.intro (rowEq fun j hj => ?_) rfl) (And.intro (And.intro (rowEq fun _ _ => rfl) rfl) trivial))
        rw [hrdk]
        show updR _ 0 8 (addM p _ _ _) j = addM p _ _ _ j
        unfold updR
        rw [if_pos (by omega)]
        unfold addM
        rw [hneg, hkx]
        rfl
      · have hz : (V i).1 a0 = 0 := by
          have hz : ((V i).1 ((a0 : Int).toNat * 1 + 0) != 0) = false := hz
          rw [hax] at hz; simpa using hz
        rw [if_neg (fun e => e hz)] at hrdk
        refine Exists.intro (i + 1) (And.intro (by omega) (And.intro (by omega) (And.intro (And.intro rfl (And.intro rfl (And.intro rfl (And.intro rfl (And.intro (slotI (wrapS (by omega))) trivial))))) ?_)))
        exact And.intro (And.intro (rowEq fun _ _ => rfl) rfl) (And.intro (And.intro (rowEq fun j hj => by rw [hrdk]) rfl) (And.intro (And.intro (rowEq fun _ _ => rfl) rfl) trivial))
    · have hik : i = k := by have := of_decide_eq_false hh; omega
      subst hik
      (repeat (first | refine And.intro (by omega) ?_ | refine And.intro ⟨by omega, by omega⟩ ?_))
      refine And.intro (rowEq fun j hj => ?_) (And.intro (And.intro (rowEq fun _ _ => rfl) rfl) trivial)
      show updR _ 0 8 _ j = _
      simp [updR, hj]

/-- what comes out of l01Put: the list itself, or the new one -/
def PutU (p k cap : Nat) (A u : Nat → Int) (a : Nat) (r : SV) (m : Mem) : Prop :=
  ((∀ j, j < 8 → u j = 0) ∧ r = .sl 0 0 k cap ∧ ∃ g, m = [some (.ints .u8 (k * 8) A, cap * 8), g]) ∨
  (∃ t y cap' F, t ≤ k ∧ (∀ i, i < t → first8 (partF A 8 i) < a) ∧ (∀ i, t ≤ i → i < k → a < first8 (partF A 8 i)) ∧ a < 8 ∧ y * u a % p = 1 ∧
    (∀ q, q < (k + 1) * 8 → F q = putR p A (addM p (fun _ => 0) y u) a t (q / 8) (q % 8)) ∧ k + 1 ≤ cap' ∧
    r = .sl 2 0 (k + 1) cap' ∧ ∃ g rest, m = some (.ints .u8 (k * 8) A, cap * 8) :: g :: some (.ints .u8 ((k + 1) * 8) F, cap' * 8) :: rest)
def PutQ (p k cap : Nat) (A v : Nat → Int) (r : SV) (m : Mem) : Prop := PutU p k cap A (byV p A v k) (first8 (byV p A v k)) r m

theorem slotB {x y : Bool} (h : x = y) : SV.eqv (.bool x) (.bool y) := congrArg SV.bool h
def lenP (t i : Nat) : Nat := if i ≤ t then i else i + 1
theorem lenP_le {t i : Nat} (h : i ≤ t) : lenP t i = i := if_pos h
theorem lenP_gt {t i : Nat} (h : t < i) : lenP t i = i + 1 := if_neg (by omega)

theorem l01Put_s (p k cap : Nat) (S : (Nat → Int) → Prop) (A v : Nat → Int) (hp : primeB (p : Int) = true) (hp2 : 2 ≤ p ∧ p ≤ 31) (hS : Space p 8 S) (h : RedL p S k A) (hv : ∀ j, j < 8 → 0 ≤ v j ∧ v j < p) :
    Spec Try.prog 60 [.int .i64 p, .sl 0 0 k cap, .ints .u8 8 v] [some (.ints .u8 (k * 8) A, cap * 8)] (PutQ p k cap A v) := by
  have hp0 : (0 : Int) < p ∧ (p : Int) < 256 := by omega
  have hk := red_k h
  have htri := redL_tri hS h
  have hA := htri.rng
  refine (Spec.of_vc tabOK tabEq Try.func60 rfl (by kernel_rfl) rfl rfl ?_)
  (repeat (first | refine And.intro (by omega) ?_ | refine And.intro ⟨by omega, by omega⟩ ?_))
  refine And.intro (And.intro rfl trivial) (Spec.mono (l01By_s p k cap A v hp2 hk hA htri.fst hv) ?_)
  rintro _ _ ⟨rfl, rfl⟩
  have hur := (liftV_rng (p := p) (A := A) (B := A) (by omega) hv k).1
  have hat := liftV_at (B := A) (v := v) (show 1 < p by omega) htri k (Nat.le_refl _)
  change ∀ j, j < 8 → 0 ≤ byV p A v k j ∧ byV p A v k j < p at hur
  change ∀ t, t < k → byV p A v k (first8 (partF A 8 t)) = 0 at hat
  unfold PutQ
  generalize byV p A v k = u at *
  have hup : ∀ j, j < 8 → updR v 0 (8 * 1) u (j + 0) = u j := fun j hj => by simp [updR, hj]
  have hfu : first8 (fun j => updR v 0 (8 * 1) u (j + 0)) = first8 u := first8_congr hup
  (repeat (first | refine And.intro (by omega) ?_ | refine And.intro ⟨by omega, by omega⟩ ?_))
  refine And.intro trivial (Spec.mono (l01ZeroS_s _) ?_)
  rintro _ _ ⟨rfl, rfl⟩
  refine ifVC_split (fun hz => ?_) (fun hz => ?_)
  · exact Or.inl ⟨fun j hj => by rw [← hup j hj]; exact allEq_get hz hj, rfl, _, rfl⟩
  have h8 : first8 u < 8 ∧ u (first8 u) ≠ 0 := by
    rcases first8_spec u with ⟨h1, h2⟩ | h
    · have : allEq 8 (fun j => updR v 0 (8 * 1) u (j + 0)) (fun _ => 0) = true := List.all_eq_true.2 fun j hj => beq_iff_eq.2 (by have hj := List.mem_range.1 hj; exact (hup j hj).trans (h2 j hj))
      rw [this] at hz; cases hz
    · exact ⟨h.1, h.2.1⟩
  obtain ⟨t, htk, ht1, ht2⟩ := place_in (a := first8 u) h.inc (fun i hi e => h8.2 (by have := hat i hi; rwa [show first8 (partF A 8 i) = first8 u from e] at this))
  have hx := hur _ h8.1
  have hx0 : 0 < (u (first8 u)).toNat ∧ (u (first8 u)).toNat < p := by omega
  obtain ⟨i0, i1, i2, _⟩ := invN_spec hp hp2 hx0
  have i2 : (invN p (u (first8 u)).toNat : Int) * u (first8 u) % p = 1 := by
    have e1 : u (first8 u) = ((u (first8 u)).toNat : Int) := by omega
    generalize (u (first8 u)).toNat = x at *
    rw [e1]
    exact_mod_cast i2
  (repeat (first | refine And.intro (by omega) ?_ | refine And.intro ⟨by omega, by omega⟩ ?_))
  refine And.intro trivial (Spec.mono (l01First_s _) ?_)
  rintro _ _ ⟨rfl, rfl⟩
  rw [hfu]
  have h81 := h8.1
  have hxe : (u (first8 u)) = ((u (first8 u)).toNat : Int) := by omega
  generalize hx0d : (u (first8 u)).toNat = x0 at *
  have hua : updR v 0 (8 * 1) u ((first8 u : Int).toNat * 1 + 0) = x0 := by rw [show (first8 u : Int).toNat * 1 + 0 = first8 u + 0 by omega, hup _ h81]; exact hxe
  refine Exists.intro 9 (And.intro (by kernel_rfl) ?_)
  (repeat (first | refine And.intro (by omega) ?_ | refine And.intro ⟨by omega, by omega⟩ ?_))
  refine Exists.intro (.int .u8 (invN p x0)) (And.intro (And.intro rfl (And.intro rfl (Spec.mono (show Spec Try.prog 82 [.int .i64 p, .int .u8 (updR v 0 (8 * 1) u ((first8 u : Int).toNat * 1 + 0))] [] (Ret (.int .u8 (invN p x0))) by rw [hua]; exact l01Inverse_s p x0 hp hp2 hx0) fun r m h => h.1))) ?_)
  (repeat (first | refine And.intro (by omega) ?_ | refine And.intro ⟨by omega, by omega⟩ ?_))
  have hw1 : IntKind.i64.wrap (invN p x0 : Int) = invN p x0 := wrapI (by omega)
  refine And.intro trivial (Spec.mono (l01Add_s p _ _ _ hp0 (by rw [hw1]; omega) (fun j _ => by show (0 : Int) ≤ 0 ∧ (0 : Int) < 256; decide) (fun j hj => by rw [hup j hj]; have := hur j hj; omega)) ?_)
  rintro _ _ ⟨rfl, rfl⟩
  rw [hw1]
  have hWv : ∀ j, j < 8 → updR (updR v 0 (8 * 1) u) 0 (8 * 1) (addM p (fun _ => 0) (invN p x0) fun j => updR v 0 (8 * 1) u (j + 0)) j = addM p (fun _ => 0) (invN p x0) u j := fun j hj => by
    unfold updR
    rw [if_pos (by omega), addM_at, addM_at, if_pos (by omega)]
    rfl
  have hNW : ∀ t j q, q < 8 → putR p A (updR (updR v 0 (8 * 1) u) 0 (8 * 1) (addM p (fun _ => 0) (invN p x0) fun j => updR v 0 (8 * 1) u (j + 0))) (first8 u) t j q = putR p A (addM p (fun _ => 0) (invN p x0) u) (first8 u) t j q := fun t j q hq => by
    unfold putR
    split
    · rw [addM_at, addM_at, hWv q hq]
    · split
      · exact hWv q hq
      · rw [addM_at, addM_at, hWv q hq]
  have hWr : ∀ j, j < 8 → 0 ≤ updR (updR v 0 (8 * 1) u) 0 (8 * 1) (addM p (fun _ => 0) (invN p x0) fun j => updR v 0 (8 * 1) u (j + 0)) j ∧ updR (updR v 0 (8 * 1) u) 0 (8 * 1) (addM p (fun _ => 0) (invN p x0) fun j => updR v 0 (8 * 1) u (j + 0)) j < p := fun j hj => by rw [hWv j hj]; exact addM_rng (by omega) _ _ _ _
  (repeat (first | refine And.intro (by omega) ?_ | refine And.intro ⟨by omega, by omega⟩ ?_))
  have goal : ∀ F c', k + 1 ≤ c' → (∀ q, q < (k + 1) * 8 → F q = putR p A (updR (updR v 0 (8 * 1) u) 0 (8 * 1) (addM p (fun _ => 0) (invN p x0) fun j => updR v 0 (8 * 1) u (j + 0))) (first8 u) t (q / 8) (q % 8)) → ∀ g rest,
      PutU p k cap A u (first8 u) (.sl 2 0 (k + 1) c') (some (SV.ints .u8 (k * 8) A, cap * 8) :: g :: some (.ints .u8 ((k + 1) * 8) F, c' * 8) :: rest) :=
    fun F c' hc hF g rest => .inr ⟨t, invN p x0, c', F, htk, ht1, ht2, h81, i2, fun q hq => (hF q hq).trans (hNW t _ _ (by omega)), hc, rfl, g, rest, rfl⟩
  generalize hWd : updR (updR v 0 (8 * 1) u) 0 (8 * 1) (addM p (fun _ => 0) (invN p x0) fun j => updR v 0 (8 * 1) u (j + 0)) = W at *
  have ha1 := h81
  generalize first8 u = a at *
  refine LoopVC.of (fun x : Nat × Nat × (Nat → Int) => x.1 ≤ k ∧ (lenP t x.1) ≤ x.2.1 ∧ ∀ q, q < (lenP t x.1) * 8 → x.2.2 q = putR p A W a t (q / 8) (q % 8))
    (fun x => [(0, .int .i64 p), (1, .sl 0 0 k cap), (5, .ptr 1 [] 0 0), (7, .int .i64 a), (8, .sl 2 0 (lenP t x.1) x.2.1), (9, .bool (decide (t < x.1))), (10, .int .i64 x.1)])
    (fun x => [some (.ints .u8 (k * 8) A, cap * 8), some (.ints .u8 8 W, 8), some (.ints .u8 ((lenP t x.1) * 8) x.2.2, x.2.1 * 8)]) (fun x => k - x.1) (0, 0, fun _ => 0) ⟨Nat.zero_le _, by show lenP t 0 ≤ 0; rw [lenP_le (Nat.zero_le _)]; omega, fun q hq => by have hq : q < lenP t 0 * 8 := hq; rw [lenP_le (Nat.zero_le _)] at hq; omega⟩ ?_ ?_ ?_
  · refine And.intro rfl (And.intro rfl (And.intro rfl (And.intro rfl (And.intro ?_ (And.intro ?_ (And.intro rfl trivial))))))
    · show SV.sl 2 0 0 0 = .sl 2 0 (lenP t 0) 0
      rw [lenP_le (Nat.zero_le _)]
    · show SV.bool false = .bool (decide (t < 0))
      rw [decide_eq_false (Nat.not_lt_zero _)]
  · refine And.intro (And.intro (rowEq fun _ _ => rfl) rfl) (And.intro (And.intro (rowEq fun j hj => ?_) rfl) (And.intro (And.intro ?_ rfl) trivial))
    · rw [← hWd]
    · show (SV.ints .u8 0 _).eqv (.ints .u8 (lenP t 0 * 8) fun _ => 0)
      rw [lenP_le (Nat.zero_le _)]
      exact ⟨⟨rfl, rfl⟩, fun j hj => by omega⟩
  · rintro ⟨i, c, F⟩ ⟨hi, hc, hF⟩
    dsimp only at hi hc hF
    refine ifVC_split (fun hh => ?_) (fun hh => ?_)
    · have hik : i < k := by have := of_decide_eq_true hh; omega
      have hix : (i : Int).toNat * 8 + 0 = i * 8 := by omega
      have hax : (a : Int).toNat * 1 + 0 = a := by omega
      have hneg : IntKind.i64.wrap (0 - IntKind.i64.wrap (A ((a : Int).toNat * 1 + ((i : Int).toNat * 8 + 0)))) = -(partF A 8 i a) := by
        have := hA (a + i * 8) (by omega)
        rw [show (a : Int).toNat * 1 + ((i : Int).toNat * 8 + 0) = a + i * 8 by omega, wrapI (x := A (a + i * 8)) (by omega), wrapI (by omega)]
        show _ = -(A (a + i * 8)); omega
      have hra := hA (a + i * 8) (by omega)
      have hra : 0 ≤ partF A 8 i a ∧ partF A 8 i a < p := hra
      have hAi : ∀ j, A (j + ((i : Int).toNat * 8 + 0)) = partF A 8 i j := fun j => by show _ = A (j + i * 8); congr 1
      have fin : ∀ (len' c' : Nat) (F' : Nat → Int), len' = lenP t (i + 1) → len' ≤ c' → (∀ q, q < len' * 8 → F' q = putR p A W a t (q / 8) (q % 8)) → ∀ sl mm, subL [(0, .int .i64 p), (1, .sl 0 0 k cap), (5, .ptr 1 [] 0 0), (7, .int .i64 a), (8, .sl 2 0 len' c'), (9, .bool (decide (t < i + 1))), (10, .int .i64 ((i + 1 : Nat) : Int))] sl →
          memCut mm [some (.ints .u8 (k * 8) A, cap * 8), some (.ints .u8 8 W, 8), some (.ints .u8 (len' * 8) F', c' * 8)] →
          ∃ x : Nat × Nat × (Nat → Int), (x.1 ≤ k ∧ (lenP t x.1) ≤ x.2.1 ∧ ∀ q, q < (lenP t x.1) * 8 → x.2.2 q = putR p A W a t (q / 8) (q % 8)) ∧ k - x.1 < k - i ∧
            subL [(0, .int .i64 p), (1, .sl 0 0 k cap), (5, .ptr 1 [] 0 0), (7, .int .i64 a), (8, .sl 2 0 (lenP t x.1) x.2.1), (9, .bool (decide (t < x.1))), (10, .int .i64 x.1)] sl ∧
            memCut mm [some (.ints .u8 (k * 8) A, cap * 8), some (.ints .u8 8 W, 8), some (.ints .u8 ((lenP t x.1) * 8) x.2.2, x.2.1 * 8)] := by
        rintro len' c' F' rfl g1 g2 sl mm g3 g4
        exact ⟨(i + 1, c', F'), ⟨hik, g1, g2⟩, by show k - (i + 1) < k - i; omega, g3, g4⟩
      refine ifVC_split (fun hp => ?_) (fun hp => ?_)
      · have hp : i ≤ t := by have hp : (!decide (t < i)) = true := hp; simp at hp; omega
        have hl := lenP_le hp
        (repeat (first | refine And.intro (by omega) ?_ | refine And.intro ⟨by omega, by omega⟩ ?_))
        have hfi : first8 (fun j => A (j + ((i : Int).toNat * 8 + 0))) = first8 (partF A 8 i) := by rw [hix]; rfl
        refine And.intro trivial (Spec.mono (l01First_s _) ?_)
        rintro _ _ ⟨rfl, rfl⟩
        rw [hfi]
        have q1 := ht1 i
        have q2 := ht2 i
        generalize first8 (partF A 8 i) = b0 at q1 q2 ⊢
        refine opsVC_g (w := true) rfl rfl rfl ?_
        change opsVC _ _ _ _ _ _ _ _
        refine opsVC_g (w := true) rfl rfl rfl ?_
        change opsVC _ _ _ _ _ _ _ _
        refine ifVC_split (fun hg => ?_) (fun hg => ?_)
        · have hg : a < b0 := by have := of_decide_eq_true hg; omega
          have hit : i = t := by
            rcases Nat.lt_or_ge i t with g | g
            · have := q1 g; omega
            · omega
          (repeat (first | refine And.intro (by omega) ?_ | refine And.intro ⟨by omega, by omega⟩ ?_))
          refine Or.inl (And.intro ⟨Nat.le_refl _, rfl, hc, show (lenP t i + 1) * 8 ≤ 140737488355328 by omega, show lenP t i + 1 ≤ 4611686018427387904 by omega⟩ (fun cap1 hcap1 => ?_))
          (repeat (first | refine And.intro (by omega) ?_ | refine And.intro ⟨by omega, by omega⟩ ?_))
          refine Exists.intro 17 (And.intro (by kernel_rfl) ?_)
          (repeat (first | refine And.intro (by omega) ?_ | refine And.intro ⟨by omega, by omega⟩ ?_))
          refine Exists.intro (.ints .u8 8 (addM p (partF A 8 i) (-(partF A 8 i a)) W)) (And.intro (And.intro rfl (And.intro rfl (Spec.mono (l01Add_s p _ _ _ hp0 (by rw [hneg]; omega) (fun j hj => by have := hA (j + i * 8) (by omega); show 0 ≤ A (j + (i * 8 + 0)) ∧ A (j + (i * 8 + 0)) < 256; rw [Nat.add_zero]; omega) (fun j hj => by have := hWr j hj; show 0 ≤ W (j + 0) ∧ W (j + 0) < 256; rw [Nat.add_zero]; omega)) ?_))) ?_)
          · rintro r m ⟨rfl, _⟩
            rw [hneg]
            rfl
          (repeat (first | refine And.intro (by omega) ?_ | refine And.intro ⟨by omega, by omega⟩ ?_))
          refine Or.inl (And.intro ⟨Nat.le_refl _, rfl, hcap1, show ((lenP t i + 1) + 1) * 8 ≤ 140737488355328 by omega, show (lenP t i + 1) + 1 ≤ 4611686018427387904 by omega⟩ (fun cap2 hcap2 => ?_))
          refine fin ((lenP t i + 1) + 1) cap2 _ (by rw [hl, lenP_gt (show t < i + 1 by omega)]) hcap2 ?_ _ _ ?_ (And.intro (And.intro (rowEq fun _ _ => rfl) rfl) (And.intro (And.intro (rowEq fun _ _ => rfl) rfl) (And.intro (And.intro (rowEq fun _ _ => rfl) rfl) trivial)))
          · intro q hq
            show appF (appF F (lenP t i * 8) 0 (updR (fun _ => 0) 0 8 fun j => W (j + 0))) ((lenP t i + 1) * 8) 0 (updR _ 0 8 (addM p (partF A 8 i) (-(partF A 8 i a)) W)) q = _
            unfold appF
            by_cases e : q < (lenP t i + 1) * 8
            · rw [if_pos e]
              show appF F (lenP t i * 8) 0 (updR _ 0 8 _) q = _
              unfold appF
              by_cases e2 : q < lenP t i * 8
              · rw [if_pos e2]; exact hF q e2
              · rw [if_neg e2]
                unfold updR putR
                rw [if_pos (by omega), if_neg (by omega), if_pos (by omega)]
                show W _ = W _
                congr 1; omega
            · rw [if_neg e]
              unfold updR
              rw [if_pos (by omega)]
              unfold putR
              rw [if_neg (by omega), if_neg (by omega), show q / 8 - 1 = i by omega, show q - (lenP t i + 1) * 8 + 0 - 0 = q % 8 by omega]
          · exact And.intro rfl (And.intro rfl (And.intro rfl (And.intro rfl (And.intro rfl (And.intro (slotB (by simp; omega)) (And.intro (slotI (wrapS (by omega))) trivial))))))
        · have hg : i < t := by
            have hg : ¬ (a < b0) := by have := of_decide_eq_false hg; omega
            rcases Nat.lt_or_ge i t with g | g
            · exact g
            · exact absurd (q2 g hik) hg
          (repeat (first | refine And.intro (by omega) ?_ | refine And.intro ⟨by omega, by omega⟩ ?_))
          refine Exists.intro 17 (And.intro (by kernel_rfl) ?_)
          (repeat (first | refine And.intro (by omega) ?_ | refine And.intro ⟨by omega, by omega⟩ ?_))
          refine Exists.intro (.ints .u8 8 (addM p (partF A 8 i) (-(partF A 8 i a)) W)) (And.intro (And.intro rfl (And.intro rfl (Spec.mono (l01Add_s p _ _ _ hp0 (by rw [hneg]; omega) (fun j hj => by have := hA (j + i * 8) (by omega); show 0 ≤ A (j + (i * 8 + 0)) ∧ A (j + (i * 8 + 0)) < 256; rw [Nat.add_zero]; omega) (fun j hj => by have := hWr j hj; show 0 ≤ W (j + 0) ∧ W (j + 0) < 256; rw [Nat.add_zero]; omega)) ?_))) ?_)
          · rintro r m ⟨rfl, _⟩
            rw [hneg]
            rfl
          (repeat (first | refine And.intro (by omega) ?_ | refine And.intro ⟨by omega, by omega⟩ ?_))
          refine Or.inl (And.intro ⟨Nat.le_refl _, rfl, hc, show (lenP t i + 1) * 8 ≤ 140737488355328 by omega, show lenP t i + 1 ≤ 4611686018427387904 by omega⟩ (fun cap2 hcap2 => ?_))
          refine fin (lenP t i + 1) cap2 _ (by rw [hl, lenP_le (show i + 1 ≤ t by omega)]) hcap2 ?_ _ _ ?_ (And.intro (And.intro (rowEq fun _ _ => rfl) rfl) (And.intro (And.intro (rowEq fun _ _ => rfl) rfl) (And.intro (And.intro (rowEq fun _ _ => rfl) rfl) trivial)))
          · intro q hq
            show appF F (lenP t i * 8) 0 (updR _ 0 8 (addM p (partF A 8 i) (-(partF A 8 i a)) W)) q = _
            unfold appF
            by_cases e : q < lenP t i * 8
            · rw [if_pos e]; exact hF q e
            · rw [if_neg e]
              unfold updR
              rw [if_pos (by omega)]
              unfold putR
              rw [if_pos (by omega), show q / 8 = i by omega, show q - lenP t i * 8 + 0 - 0 = q % 8 by omega]
          · exact And.intro rfl (And.intro rfl (And.intro rfl (And.intro rfl (And.intro rfl (And.intro (slotB (by simp; omega)) (And.intro (slotI (wrapS (by omega))) trivial))))))
      · have hp : t < i := by have hp : (!decide (t < i)) = false := hp; simpa using hp
        have hl := lenP_gt hp
        (repeat (first | refine And.intro (by omega) ?_ | refine And.intro ⟨by omega, by omega⟩ ?_))
        refine Exists.intro 17 (And.intro (by kernel_rfl) ?_)
        (repeat (first | refine And.intro (by omega) ?_ | refine And.intro ⟨by omega, by omega⟩ ?_))
        refine Exists.intro (.ints .u8 8 (addM p (partF A 8 i) (-(partF A 8 i a)) W)) (And.intro (And.intro rfl (And.intro rfl (Spec.mono (l01Add_s p _ _ _ hp0 (by rw [hneg]; omega) (fun j hj => by have := hA (j + i * 8) (by omega); show 0 ≤ A (j + (i * 8 + 0)) ∧ A (j + (i * 8 + 0)) < 256; rw [Nat.add_zero]; omega) (fun j hj => by have := hWr j hj; show 0 ≤ W (j + 0) ∧ W (j + 0) < 256; rw [Nat.add_zero]; omega)) ?_))) ?_)
        · rintro r m ⟨rfl, _⟩
          rw [hneg]
          rfl
        (repeat (first | refine And.intro (by omega) ?_ | refine And.intro ⟨by omega, by omega⟩ ?_))
        refine Or.inl (And.intro ⟨Nat.le_refl _, rfl, hc, show (lenP t i + 1) * 8 ≤ 140737488355328 by omega, show lenP t i + 1 ≤ 4611686018427387904 by omega⟩ (fun cap2 hcap2 => ?_))
        refine fin (lenP t i + 1) cap2 _ (by rw [hl, lenP_gt (show t < i + 1 by omega)]) hcap2 ?_ _ _ ?_ (And.intro (And.intro (rowEq fun _ _ => rfl) rfl) (And.intro (And.intro (rowEq fun _ _ => rfl) rfl) (And.intro (And.intro (rowEq fun _ _ => rfl) rfl) trivial)))
        · intro q hq
          show appF F (lenP t i * 8) 0 (updR _ 0 8 (addM p (partF A 8 i) (-(partF A 8 i a)) W)) q = _
          unfold appF
          by_cases e : q < lenP t i * 8
          · rw [if_pos e]; exact hF q e
          · rw [if_neg e]
            unfold updR
            rw [if_pos (by omega)]
            unfold putR
            rw [if_neg (by omega), if_neg (by omega), show q / 8 - 1 = i by omega, show q - lenP t i * 8 + 0 - 0 = q % 8 by omega]
        · exact And.intro rfl (And.intro rfl (And.intro rfl (And.intro rfl (And.intro rfl (And.intro (slotB (by simp; omega)) (And.intro (slotI (wrapS (by omega))) trivial))))))
    · have hik : i = k := by have := of_decide_eq_false hh; omega
      subst hik
      refine ifVC_split (fun hp => ?_) (fun hp => ?_)
      · have hp : i ≤ t := by have hp : (!decide (t < i)) = true := hp; simp at hp; omega
        have hl : lenP t i = i := lenP_le hp
        have hit : i = t := by omega
        (repeat (first | refine And.intro (by omega) ?_ | refine And.intro ⟨by omega, by omega⟩ ?_))
        refine Or.inl (And.intro ⟨Nat.le_refl _, rfl, hc, show (lenP t i + 1) * 8 ≤ 140737488355328 by omega, show lenP t i + 1 ≤ 4611686018427387904 by omega⟩ (fun cap1 hcap1 => ?_))
        have hfin : ∀ q, q < (i + 1) * 8 → appF F (lenP t i * 8) 0 (updR (fun _ => 0) 0 8 fun j => W (j + 0)) q = putR p A W a t (q / 8) (q % 8) := fun q hq => by
          unfold appF
          by_cases e : q < lenP t i * 8
          · rw [if_pos e]; exact hF q e
          · rw [if_neg e]
            unfold updR putR
            rw [if_pos (by omega), if_neg (by omega), if_pos (by omega)]
            show W _ = W _
            congr 1; omega
        have key : ∀ l, l = i + 1 → ∀ G, (∀ q, q < (i + 1) * 8 → G q = putR p A W a t (q / 8) (q % 8)) → ∀ c', l ≤ c' → ∀ g rest (Q : SV → Mem → Prop), (∀ F' c'', i + 1 ≤ c'' → (∀ q, q < (i + 1) * 8 → F' q = putR p A W a t (q / 8) (q % 8)) → ∀ g' rest', Q (.sl 2 0 (i + 1) c'') (some (.ints .u8 (i * 8) A, cap * 8) :: g' :: some (.ints .u8 ((i + 1) * 8) F', c'' * 8) :: rest')) → Q (.sl 2 0 l c') (some (.ints .u8 (i * 8) A, cap * 8) :: g :: some (.ints .u8 (l * 8) G, c' * 8) :: rest) := by
          rintro l rfl G hG c' hc' g rest Q hQ
          exact hQ G c' hc' hG g rest
        exact key (lenP t i + 1) (by omega) _ hfin cap1 hcap1 _ _ (PutU p i cap A u a) goal
      · have hp : t < i := by have hp : (!decide (t < i)) = false := hp; simpa using hp
        have hl : lenP t i = i + 1 := lenP_gt hp
        have key : ∀ l, l = i + 1 → ∀ G, (∀ q, q < (i + 1) * 8 → G q = putR p A W a t (q / 8) (q % 8)) → ∀ c', l ≤ c' → ∀ g rest (Q : SV → Mem → Prop), (∀ F' c'', i + 1 ≤ c'' → (∀ q, q < (i + 1) * 8 → F' q = putR p A W a t (q / 8) (q % 8)) → ∀ g' rest', Q (.sl 2 0 (i + 1) c'') (some (.ints .u8 (i * 8) A, cap * 8) :: g' :: some (.ints .u8 ((i + 1) * 8) F', c'' * 8) :: rest')) → Q (.sl 2 0 l c') (some (.ints .u8 (i * 8) A, cap * 8) :: g :: some (.ints .u8 (l * 8) G, c' * 8) :: rest) := by
          rintro l rfl G hG c' hc' g rest Q hQ
          exact hQ G c' hc' hG g rest
        exact key (lenP t i) hl _ (fun q hq => hF q (by omega)) c hc _ _ (PutU p i cap A u a) goal
end Go.Proofs.Ytcocapkdpbdmdaa
