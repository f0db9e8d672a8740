/- Powers of vectors, on both sides, and the law. -/
import Derived.Test.YtnbfpmcpakpboaaMulLaw
set_option linter.unusedVariables false
set_option maxRecDepth 100000
namespace Go.Proofs.Ytnbfpmcpakpboaa
open M

theorem prodF_u8 {p : Int} (hp : 0 < p ∧ p < 256) (T v w : Nat → Int) (n : Nat) : isU8 n (prodF p T v w) := fun q _ => modB hp
theorem leftT_zero {p : Int} {n : Nat} {U T : Nat → Int} (hV : Valid p n U T) (v : Nat → Int) {j m : Nat} (hj : j < 8) (hm : m < 8) (h : n ≤ j ∨ n ≤ m) : leftT p T v (j * 8 + m) = 0 := by
  unfold leftT rightF
  rw [show (j * 8 + m) / 8 = j by omega, show (j * 8 + m) % 8 = m by omega, linS_sum, sumN_none 8 fun i hi => ?_]
  · simp
  · have e : rowT (flipF T) j (i * 8 + m) = vecT T i j m := by unfold rowT flipF vecT; congr 1; omega
    rw [e, hV.zero i j m hi hj hm (by omega)]; simp
theorem prodF_zero {p : Int} {n : Nat} {U T : Nat → Int} (hV : Valid p n U T) (v w : Nat → Int) {m : Nat} (hm : m < 8) (h : n ≤ m) : prodF p T v w m = 0 := by
  unfold prodF
  rw [linS_sum, sumN_none 8 fun i hi => by rw [leftT_zero hV v hi hm (.inr h)]; simp]
  simp

def powF (p : Int) (U T v : Nat → Int) : Nat → Nat → Int
  | 0 => U
  | k + 1 => prodF p T (powF p U T v k) v
theorem powF_u8 {p : Int} (hp : 0 < p ∧ p < 256) {U T v : Nat → Int} (hU : isU8 8 U) : ∀ k, isU8 8 (powF p U T v k)
  | 0 => hU
  | k + 1 => prodF_u8 hp T _ _ 8
theorem powF_zero {p : Int} {n : Nat} {U T v : Nat → Int} (hV : Valid p n U T) : ∀ k i, n ≤ i → i < 8 → powF p U T v k i = 0
  | 0, i, h1, h2 => hV.uzero i h2 h1
  | k + 1, i, h1, h2 => prodF_zero hV _ _ h2 h1

def oneV (z v : Nat → Int) : Nat → Int := updR z (0 * 8) 8 v
theorem one_0 (z v : Nat → Int) : ∀ j, j < 8 → partF (oneV z v) 8 0 j = v j := fun j hj => by
  unfold partF oneV updR; rw [if_pos (by omega)]; congr 1
theorem one_vectors (p n : Int) (z v : Nat → Int) : vectorsB p n 1 (oneV z v) = entriesB p n v := by
  show ((List.range 1).all fun i => entriesB p n (partF (oneV z v) 8 i)) = _
  simp only [List.range_succ, List.range_zero, List.nil_append, List.all_cons, List.all_nil, Bool.and_true]
  rw [entriesB_congr (one_0 z v)]
theorem one_u8 {z v : Nat → Int} (hv : isU8 8 v) : isU8 (1 * 8) (oneV z v) := fun j hj => by
  have := one_0 z v j (by omega)
  unfold partF at this
  rw [show j + 0 * 8 = j by omega] at this
  rw [this]; exact hv j (by omega)

def oneOk (p n : Int) (U T v : Nat → Int) : Bool := algB p n U T && entriesB p n v
def powIn (k : Int) : Bool := decide (0 ≤ k) && decide (k ≤ 100)
def powV (p n : Int) (U T v : Nat → Int) (k : Int) : SV :=
  .tcons (.ints .u8 8 fun j => if (oneOk p n U T v && powIn k) = true then powF p U T v k.toNat j else 0) (.tcons (.int .i64 (if oneOk p n U T v = true then (if powIn k = true then 0 else 2) else 1)) .tnil)

theorem implPow_s (p n : Int) (U T v : Nat → Int) (k : Int) (hU : isU8 8 U) (hT : isU8 512 T) (hv : isU8 8 v) :
    Spec Try.prog 75 [algV p n U T, .ints .u8 8 v, .int .i64 k] [] (Ret (powV p n U T v k)) := by
  refine Spec.ret rfl (Spec.of_vc tabOK tabEq Try.func75 rfl (by kernel_rfl) rfl rfl ?_)
  (repeat (first | refine And.intro (by omega) ?_ | refine And.intro ⟨by omega, by omega⟩ ?_))
  refine And.intro (And.intro rfl trivial) (Spec.mono (isAlgebraWith_s p n U T 1 (oneV (fun j => 0) v) (by omega) hU hT (one_u8 hv)) ?_)
  rintro r m ⟨rfl, rfl⟩
  refine ifVC_split (fun hc => ?_) (fun hc => ?_)
  · have hc : oneOk p n U T v = false := by rw [one_vectors] at hc; unfold oneOk; simpa only [Bool.not_eq_true'] using hc
    (repeat (first | refine And.intro (by omega) ?_ | refine And.intro ⟨by omega, by omega⟩ ?_))
    refine And.intro (rowEq fun j hj => ?_) (And.intro (slotI (by simp [hc])) rfl)
    show updR _ 0 8 _ j = _
    simp [updR, hj, hc]
  have hc : oneOk p n U T v = true := by rw [one_vectors] at hc; simpa [oneOk] using hc
  have hc' := hc
  unfold oneOk at hc'
  simp only [Bool.and_eq_true] at hc'
  obtain ⟨n, rfl, hV⟩ := algB_valid hU hT hc'.1
  have out : powIn k = false → ∀ z : Nat → Int, SV.eqv (.tcons (.ints .u8 8 fun j => updR z 0 8 (fun _ => 0) (j + 0)) (.tcons (.int .i64 2) .tnil)) (powV p n U T v k) := fun hk z => by
    refine And.intro (rowEq fun j hj => ?_) (And.intro (slotI (by simp [hc, hk])) rfl)
    show updR _ 0 8 _ j = _
    simp [updR, hj, hk]
  refine ifVC_split (fun h0 => ?_) (fun h0 => ?_)
  · have h0 := of_decide_eq_true h0
    (repeat (first | refine And.intro (by omega) ?_ | refine And.intro ⟨by omega, by omega⟩ ?_))
    exact out (by simp [powIn]; omega) _
  have h0 := of_decide_eq_false h0
  refine ifVC_split (fun h1 => ?_) (fun h1 => ?_)
  · have h1 := of_decide_eq_true h1
    (repeat (first | refine And.intro (by omega) ?_ | refine And.intro ⟨by omega, by omega⟩ ?_))
    exact out (by simp [powIn]; omega) _
  have h1 := of_decide_eq_false h1
  have hk : powIn k = true := by simp [powIn]; omega
  obtain ⟨k, rfl⟩ : ∃ q : Nat, k = q := ⟨k.toNat, by omega⟩
  (repeat (first | refine And.intro (by omega) ?_ | refine And.intro ⟨by omega, by omega⟩ ?_))
  refine LoopVC.of (fun i : Nat => i ≤ k) (fun i => [(3, .ptr 0 [] 0 0), (4, .ptr 1 [] 0 0), (6, .ptr 2 [] 0 0), (8, .ptr 4 [] 0 0), (24, .int .i64 k), (25, .int .i64 i)])
    (fun i => [some (algV p n U T, 522), some (.ints .u8 8 v, 8), some (.ints .u8 8 fun _ => 0, 8), none, some (.ints .u8 8 (powF p U T v i), 8)]) (fun i => k - i) 0 (by omega) ?_ ?_ ?_
  · exact (And.intro rfl (And.intro rfl (And.intro rfl (And.intro rfl (And.intro rfl (And.intro rfl (trivial)))))))
  · exact And.intro (And.intro (algR p n U T) rfl) (And.intro (And.intro (rowEq fun _ _ => rfl) rfl) (And.intro (And.intro (rowEq fun _ _ => rfl) rfl) (And.intro (And.intro (rowEq fun j hj => by show updR _ 0 8 _ j = U j; simp [updR, hj]) rfl) trivial)))
  · intro i hi
    refine ifVC_split (fun h => ?_) (fun h => ?_)
    · have hlt := of_decide_eq_true h
      (repeat (first | refine And.intro (by omega) ?_ | refine And.intro ⟨by omega, by omega⟩ ?_))
      refine And.intro trivial (Spec.mono (product_s p n U T _ _ hV.hp hT (fun j hj => powF_u8 hV.hp hU i _ (by omega)) (fun j hj => hv _ (by omega))) ?_)
      rintro r m ⟨rfl, rfl⟩
      (repeat (first | refine And.intro (by omega) ?_ | refine And.intro ⟨by omega, by omega⟩ ?_))
      refine Exists.intro (i + 1) (And.intro (by omega) (And.intro (by omega) (And.intro (And.intro rfl (And.intro rfl (And.intro rfl (And.intro rfl (And.intro rfl (And.intro (slotI (wrapS (by omega))) trivial)))))) ?_)))
      refine And.intro (And.intro (algR p n U T) rfl) (And.intro (And.intro (rowEq fun _ _ => rfl) rfl) (And.intro (And.intro (rowEq fun _ _ => rfl) rfl) (And.intro (And.intro (rowEq fun j hj => ?_) rfl) trivial)))
      show updR _ 0 8 _ j = _
      simp [updR, hj]
      rfl
    · have hge := of_decide_eq_false h
      obtain rfl : i = k := by omega
      (repeat (first | refine And.intro (by omega) ?_ | refine And.intro ⟨by omega, by omega⟩ ?_))
      refine And.intro (rowEq fun j hj => ?_) (And.intro (slotI (by simp [hc, hk])) rfl)
      show updR _ 0 8 _ j = _
      simp [updR, hj, hc, hk]

theorem specPow_s (p n : Int) (U T v : Nat → Int) (k : Int) (hU : isU8 8 U) (hT : isU8 512 T) (hv : isU8 8 v) :
    Spec Try.prog 74 [algV p n U T, .ints .u8 8 v, .int .i64 k] [] (Ret (powV p n U T v k)) := by
  refine Spec.ret rfl (Spec.of_vc tabOK tabEq Try.func74 rfl (by kernel_rfl) rfl rfl ?_)
  (repeat (first | refine And.intro (by omega) ?_ | refine And.intro ⟨by omega, by omega⟩ ?_))
  refine And.intro (And.intro rfl trivial) (Spec.mono (l01Code_s p n U T 1 (oneV (fun j => 0) v) (by omega) hU hT (one_u8 hv)) ?_)
  rintro r m ⟨rfl, rfl⟩
  rw [one_vectors]
  refine ifVC_split (fun hc => ?_) (fun hc => ?_)
  · have hc : oneOk p n U T v = false := by
      cases hm : oneOk p n U T v with
      | false => rfl
      | true => unfold oneOk at hm; rw [if_pos hm] at hc; simp at hc
    (repeat (first | refine And.intro (by omega) ?_ | refine And.intro ⟨by omega, by omega⟩ ?_))
    refine And.intro (rowEq fun j hj => ?_) (And.intro (slotI (by unfold oneOk at hc; simp [hc, oneOk])) rfl)
    show updR _ 0 8 _ j = _
    simp [updR, hj, hc]
  have hc : oneOk p n U T v = true := by
    cases hm : oneOk p n U T v with
    | true => rfl
    | false => unfold oneOk at hm; rw [if_neg (by rw [hm]; simp)] at hc; simp at hc
  have hc' := hc
  unfold oneOk at hc'
  simp only [Bool.and_eq_true] at hc'
  obtain ⟨n, rfl, hV⟩ := algB_valid hU hT hc'.1
  refine And.intro trivial (Spec.mono (l01In_s _ _ _) ?_)
  rintro r m ⟨rfl, rfl⟩
  refine ifVC_split (fun h0 => ?_) (fun h0 => ?_)
  · have hk : powIn k = false := by unfold powIn; simp at h0 ⊢; omega
    (repeat (first | refine And.intro (by omega) ?_ | refine And.intro ⟨by omega, by omega⟩ ?_))
    refine And.intro (rowEq fun j hj => ?_) (And.intro (slotI (by simp [hc, hk])) rfl)
    show updR _ 0 8 _ j = _
    simp [updR, hj, hk]
  have hk : powIn k = true := by unfold powIn; simpa using h0
  have hb : 0 ≤ k ∧ k ≤ 100 := by unfold powIn at hk; simpa using hk
  obtain ⟨k, rfl⟩ : ∃ q : Nat, k = q := ⟨k.toNat, by omega⟩
  (repeat (first | refine And.intro (by omega) ?_ | refine And.intro ⟨by omega, by omega⟩ ?_))
  refine LoopVC.of (fun i : Nat => i ≤ k) (fun i => [(2, .int .i64 ((k - i : Nat) : Int)), (3, .ptr 0 [] 0 0), (4, .ptr 1 [] 0 0), (6, .ptr 2 [] 0 0), (9, .ptr 4 [] 0 0)])
    (fun i => [some (algV p n U T, 522), some (.ints .u8 8 v, 8), some (.ints .u8 8 fun _ => 0, 8), none, some (.ints .u8 8 (powF p U T v i), 8)]) (fun i => k - i) 0 (by omega) ?_ ?_ ?_
  · exact (And.intro rfl (And.intro rfl (And.intro rfl (And.intro rfl (And.intro rfl (trivial))))))
  · exact And.intro (And.intro (algR p n U T) rfl) (And.intro (And.intro (rowEq fun _ _ => rfl) rfl) (And.intro (And.intro (rowEq fun _ _ => rfl) rfl) (And.intro (And.intro (rowEq fun j hj => by show updR _ 0 8 _ j = U j; simp [updR, hj]) rfl) trivial)))
  · intro i hi
    refine ifVC_split (fun h => ?_) (fun h => ?_)
    · have hlt := of_decide_eq_true h
      (repeat (first | refine And.intro (by omega) ?_ | refine And.intro ⟨by omega, by omega⟩ ?_))
      refine And.intro trivial (Spec.mono (l01Times_s p n U T _ _ hV.hp hV.hn hT (fun j hj => powF_u8 hV.hp hU i _ (by omega)) (fun j hj => hv _ (by omega))) ?_)
      rintro r m ⟨rfl, rfl⟩
      (repeat (first | refine And.intro (by omega) ?_ | refine And.intro ⟨by omega, by omega⟩ ?_))
      refine Exists.intro (i + 1) (And.intro (by omega) (And.intro (by omega) (And.intro (And.intro (slotI (by rw [wrapI (by omega)]; omega)) (And.intro rfl (And.intro rfl (And.intro rfl (And.intro rfl trivial))))) ?_)))
      refine And.intro (And.intro (algR p n U T) rfl) (And.intro (And.intro (rowEq fun _ _ => rfl) rfl) (And.intro (And.intro (rowEq fun _ _ => rfl) rfl) (And.intro (And.intro (rowEq fun j hj => ?_) rfl) trivial)))
      show updR _ 0 8 (fun m => timS p n T (powF p U T v i) v n m % p) j = prodF p T (powF p U T v i) v j
      rw [← prod_eq hV (powF_zero hV i) (fun a h1 h2 => (entries_get hc'.2 h2).2 (by omega)) hj]
      simp [updR, hj]
    · have hge := of_decide_eq_false h
      obtain rfl : i = k := by omega
      (repeat (first | refine And.intro (by omega) ?_ | refine And.intro ⟨by omega, by omega⟩ ?_))
      refine And.intro (rowEq fun j hj => ?_) (And.intro (slotI (by simp [hc, hk])) rfl)
      show updR _ 0 8 _ j = _
      simp [updR, hj, hc, hk]

/-- the law on PowerOf returns true -/
theorem lawPow_s (p n : Int) (U T v : Nat → Int) (k : Int) (hU : isU8 8 U) (hT : isU8 512 T) (hv : isU8 8 v) :
    Spec Try.prog 11 [algV p n U T, .ints .u8 8 v, .int .i64 k] [] (Ret (.bool true)) := by
  refine Spec.ret rfl (Spec.of_vc tabOK tabEq Try.func11 rfl (by kernel_rfl) rfl rfl ?_)
  refine Exists.intro 11 (And.intro (by kernel_rfl) ?_)
  refine Exists.intro (algV p n U T) (And.intro (And.intro rfl (And.intro rfl (Spec.mono (toAlgebra_s p n U T) fun r m h => h.1))) ?_)
  refine And.intro (by omega) ?_
  refine Exists.intro (.ints .u8 8 v) (And.intro (And.intro rfl (And.intro rfl (Spec.mono (toVector_s _) fun r m h => h.1))) ?_)
  refine Exists.intro (powV p n U T v k) (And.intro (And.intro rfl (And.intro rfl (Spec.mono (specPow_s p n U T v k hU hT hv) fun r m h => h.1))) ?_)
  (repeat (first | refine And.intro (by omega) ?_ | refine And.intro ⟨by omega, by omega⟩ ?_))
  refine Exists.intro 11 (And.intro (by kernel_rfl) ?_)
  refine Exists.intro (algV p n U T) (And.intro (And.intro rfl (And.intro rfl (Spec.mono (toAlgebra_s p n U T) fun r m h => h.1))) ?_)
  refine And.intro (by omega) ?_
  refine Exists.intro (.ints .u8 8 v) (And.intro (And.intro rfl (And.intro rfl (Spec.mono (toVector_s _) fun r m h => h.1))) ?_)
  refine Exists.intro (powV p n U T v k) (And.intro (And.intro rfl (And.intro rfl (Spec.mono (implPow_s p n U T v k hU hT hv) fun r m h => h.1))) ?_)
  (repeat (first | refine And.intro (by omega) ?_ | refine And.intro ⟨by omega, by omega⟩ ?_))
  refine And.intro trivial (Spec.mono (eqVector_s _ _) ?_)
  rintro r m ⟨rfl, rfl⟩
  refine ifVC_false ?_ ?_
  · rw [eqSelf]
    rfl
  refine ifVC_false (by simp) ?_
  exact boolEq rfl
theorem lawPow_c (p n : Int) (U T : Nat → Int) (hU : isU8 8 U) (hT : isU8 512 T) (v : Nat → Int) (hv : isU8 8 v) (k : Int) : Spec Try.prog 11 [algV p n U T, .ints .u8 8 v, .int .i64 k] [] (Ret (.bool true)) := lawPow_s p n U T v k hU hT hv
end Go.Proofs.Ytnbfpmcpakpboaa
