/- Left integrals told: IsLeftIntegral on both sides, and the law. -/
import Derived.Test.YtmnbeinomodggaaHop6c
set_option linter.unusedVariables false
set_option maxRecDepth 100000
set_option maxHeartbeats 1000000
namespace Go.Proofs.Ytmnbeinomodggaa
open M

/-- e(i) t, at m -/
def etF (p : Int) (T t : Nat → Int) (i m : Nat) : Int := sumN 8 (fun k => t k * vecT T i k m) % p
/-- e(i) t less the counit of e(i) times t, in rows -/
def faultF (p : Int) (T Z t : Nat → Int) : Nat → Int := fun q => (etF p T t (q / 8) (q % 8) + (p - Z (q / 8)) * t (q % 8)) % p
theorem flipF_at (T : Nat → Int) {i j m : Nat} (hj : j < 8) (hm : m < 8) : flipF T (i * 64 + j * 8 + m) = T (j * 64 + i * 8 + m) := by unfold flipF; congr 1; omega
theorem flip2_at (T : Nat → Int) {i j m : Nat} (hi : i < 8) (hj : j < 8) (hm : m < 8) : flipF (flipF T) (i * 64 + j * 8 + m) = T (i * 64 + j * 8 + m) := by rw [flipF_at _ hj hm, flipF_at _ hi hm]
theorem leftT_flip (p : Int) (T t : Nat → Int) {q : Nat} (hq : q < 64) : leftT p (flipF T) t q = etF p T t (q / 8) (q % 8) := by
  unfold leftT rightF etF
  rw [linS_sum]
  refine congrArg (· % p) (sumN_congr 8 fun k hk => ?_)
  have e : rowT (flipF (flipF T)) (q / 8) (k * 8 + q % 8) = vecT T (q / 8) k (q % 8) := by
    have := flip2_at T (i := q / 8) (j := k) (m := q % 8) (by omega) hk (by omega)
    unfold rowT vecT
    rw [show k * 8 + q % 8 + q / 8 * 64 = q / 8 * 64 + k * 8 + q % 8 by omega, this]
    congr 1; omega
  rw [e]
theorem prod_unit_l {p : Int} {n : Nat} {U T : Nat → Int} (hV : Valid p n U T) (t : Nat → Int) {i m : Nat} (hi : i < 8) (hm : m < 8) : prodF p T (unitV i) t m = etF p T t i m := by
  unfold prodF etF
  rw [linS_sum]
  refine congrArg (· % p) (sumN_congr 8 fun k hk => ?_)
  unfold leftT rightF
  rw [show (k * 8 + m) / 8 = k by omega, show (k * 8 + m) % 8 = m by omega, linS_unit, if_pos hi]
  have e : rowT (flipF T) k (i * 8 + m) = vecT T i k m := by unfold rowT flipF vecT; congr 1; omega
  rw [e]
  have h0 : 0 ≤ vecT T i k m ∧ vecT T i k m < p := hV.lt i k m hi hk hm
  rw [Int.emod_eq_of_lt h0.1 h0.2]

theorem integralFault_s (p : Int) (n : Int) (U T Z t : Nat → Int) (hp : 0 < p ∧ p < 256) (hT : isU8 512 T) (hZ : ∀ j, j < 8 → 0 ≤ Z j ∧ Z j < p) (ht : isU8 8 t) :
    Spec Try.prog 44 [algV p n U T, .ints .u8 8 Z, .ints .u8 8 t] [] (Ret (.ints .u8 64 (faultF p T Z t))) := by
  refine Spec.ret rfl (Spec.of_vc tabOK tabEq Try.func44 rfl (by kernel_rfl) rfl rfl ?_)
  refine Exists.intro 5 (And.intro (by kernel_rfl) ?_)
  refine Exists.intro (algV p n U (flipF T)) (And.intro (And.intro rfl (And.intro rfl (Spec.mono (opposite_s p n U T) fun r m h => h.1))) ?_)
  (repeat (first | refine And.intro (by omega) ?_ | refine And.intro ⟨by omega, by omega⟩ ?_))
  refine Exists.intro (.ints .u8 64 (leftT p (flipF T) t)) (And.intro (And.intro rfl (And.intro rfl (Spec.mono (leftTable_s p n U (flipF T) _ hp (fun q hq => hT _ (by omega)) (fun j hj => ht _ (by omega))) fun r m h => h.1))) ?_)
  (repeat (first | refine And.intro (by omega) ?_ | refine And.intro ⟨by omega, by omega⟩ ?_))
  refine LoopVC.of (fun i : Nat => i ≤ 8) (fun i => [(3, .ptr 0 [] 0 0), (5, .ptr 2 [] 0 0), (6, .ptr 3 [] 0 0), (7, .ptr 4 [] 0 0), (14, .ints .u8 8 Z), (15, .int .i64 i)])
    (fun i => [some (algV p n U T, 522), none, some (.ints .u8 8 t, 8), some (.ints .u8 64 fun _ => 0, 64), some (.ints .u8 64 fun q => if q < i * 8 then faultF p T Z t q else leftT p (flipF T) t q, 64)]) (fun i => 8 - i) 0 (by omega) ?_ ?_ ?_
  · exact And.intro rfl (And.intro rfl (And.intro rfl (And.intro rfl (And.intro (rowEq fun _ _ => rfl) (And.intro rfl trivial)))))
  · exact And.intro (And.intro (algR p n U T) rfl) (And.intro (And.intro (rowEq fun _ _ => rfl) rfl) (And.intro (And.intro (rowEq fun _ _ => rfl) rfl) (And.intro (And.intro (rowEq fun q hq => by show updR _ 0 64 _ q = _; simp [updR, hq]) rfl) trivial)))
  · intro i hi
    refine ifVC_split (fun h => ?_) (fun h => ?_)
    · have hlt := of_decide_eq_true h
      have hidx : (i : Int).toNat = i := by omega
      have hZi := hZ i (by omega)
      (repeat (first | refine And.intro (by omega) ?_ | refine And.intro ⟨by omega, by omega⟩ ?_))
      refine Exists.intro 14 (And.intro (by kernel_rfl) ?_)
      (repeat (first | refine And.intro (by omega) ?_ | refine And.intro ⟨by omega, by omega⟩ ?_))
      have hw : IntKind.i64.wrap (p - IntKind.i64.wrap (Z (i : Int).toNat)) = p - Z i := by rw [hidx, wrapI (x := Z i) (by omega), wrapI (by omega)]
      refine Exists.intro _ (And.intro (And.intro rfl (And.intro rfl (Spec.mono (addMultiple_s p (IntKind.i64.wrap (p - IntKind.i64.wrap (Z (i : Int).toNat))) _ _ hp (by rw [hw]; omega) (fun m hm => ?_) (fun j hj => ht _ (by omega))) fun r m h => h.1))) ?_)
      · rw [hidx]
        show 0 ≤ (if m + (i * 8 + 0) < i * 8 then _ else leftT p (flipF T) t (m + (i * 8 + 0))) ∧ (if m + (i * 8 + 0) < i * 8 then _ else leftT p (flipF T) t (m + (i * 8 + 0))) < 256
        rw [if_neg (by omega)]
        unfold leftT rightF
        exact modB hp
      (repeat (first | refine And.intro (by omega) ?_ | refine And.intro ⟨by omega, by omega⟩ ?_))
      refine Exists.intro (i + 1) (And.intro (by omega) (And.intro (by omega) (And.intro (And.intro rfl (And.intro rfl (And.intro rfl (And.intro rfl (And.intro (rowEq fun _ _ => rfl) (And.intro (slotI (wrapS (by omega))) trivial)))))) ?_)))
      refine And.intro (And.intro (algR p n U T) rfl) (And.intro (And.intro (rowEq fun _ _ => rfl) rfl) (And.intro (And.intro (rowEq fun _ _ => rfl) rfl) (And.intro (And.intro (rowEq fun q hq => ?_) rfl) trivial)))
      show updR _ ((i : Int).toNat * 8 + 0) 8 _ q = if q < (i + 1) * 8 then faultF p T Z t q else leftT p (flipF T) t q
      unfold updR
      rw [hidx]
      dsimp only
      by_cases e : i * 8 + 0 ≤ q ∧ q < i * 8 + 0 + 8
      · rw [hidx] at hw
        rw [if_pos e, if_pos (by omega), hw]
        show ((if q - (i * 8 + 0) + (i * 8 + 0) < i * 8 then _ else leftT p (flipF T) t (q - (i * 8 + 0) + (i * 8 + 0))) + (p - Z i) * t (q - (i * 8 + 0) + 0)) % p = faultF p T Z t q
        rw [if_neg (by omega), show q - (i * 8 + 0) + (i * 8 + 0) = q by omega, leftT_flip p T t hq]
        unfold faultF
        rw [show q / 8 = i by omega, show q - (i * 8 + 0) + 0 = q % 8 by omega]
      · rw [if_neg e]
        by_cases e2 : q < i * 8
        · rw [if_pos e2, if_pos (by omega)]
        · rw [if_neg e2, if_neg (by omega)]
    · have hge := of_decide_eq_false h
      obtain rfl : i = 8 := by omega
      (repeat (first | refine And.intro (by omega) ?_ | refine And.intro ⟨by omega, by omega⟩ ?_))
      refine rowEq fun q hq => ?_
      show updR _ 0 64 _ q = _
      simp [updR, hq]

/-! ### IsLeftIntegral -/
def lintB (p : Int) (T Z t : Nat → Int) : Bool := allEq 64 (faultF p T Z t) fun _ => 0
theorem fault_iff {p a z t : Int} (hp : 0 < p) (ha : 0 ≤ a ∧ a < p) : (a + (p - z) * t) % p = 0 ↔ a = (0 + z * t) % p := by
  have e : (a + (p - z) * t) % p = (a - z * t) % p := by
    rw [show a + (p - z) * t = a - z * t + p * t by grind, Int.add_mul_emod_self_left]
  rw [e, Int.zero_add]
  constructor
  · intro h
    have : (a - z * t) % p = 0 := h
    have h2 := (Int.emod_emod_of_dvd (a - z * t) (Int.dvd_refl p))
    have h3 : a % p = (z * t) % p := Int.emod_eq_emod_iff_emod_sub_eq_zero.2 this
    rw [Int.emod_eq_of_lt ha.1 ha.2] at h3
    exact h3
  · intro h
    have h3 : a % p = (z * t) % p := by rw [Int.emod_eq_of_lt ha.1 ha.2]; exact h
    exact Int.emod_eq_emod_iff_emod_sub_eq_zero.1 h3
def hlintV (p n : Int) (U T Z C S t : Nat → Int) : SV := .tcons (.bool (hopOne p n U T Z C S t && lintB p T Z t)) (.tcons (.int .i64 (if hopOne p n U T Z C S t = true then 0 else 1)) .tnil)
theorem lintB_row {p : Int} {n : Nat} {U T Z C S t : Nat → Int} (hV : HV p n U T Z C S) (hz : ∀ i, n ≤ i → i < 8 → t i = 0) : lintB p T Z t = true ↔ ∀ i, i < n → allEq 8 (fun m => timS p n T (unitV i) t n m % p) (addM p (fun _ => 0) (Z i) t) = true := by
  have hn := hV.a.hn
  have hp := hV.a.hp
  have key : ∀ i m, i < n → m < 8 → (faultF p T Z t (i * 8 + m) = 0 ↔ timS p n T (unitV i) t n m % p = addM p (fun _ => 0) (Z i) t m) := fun i m hi hm => by
    rw [prod_eq hV.a (fun j h1 h2 => by unfold unitV; rw [if_neg (by omega)]) hz hm, prod_unit_l hV.a t (by omega) hm]
    unfold faultF
    rw [show (i * 8 + m) / 8 = i by omega, show (i * 8 + m) % 8 = m by omega]
    exact fault_iff hp.1 ⟨Int.emod_nonneg _ (by omega), Int.emod_lt_of_pos _ hp.1⟩
  constructor
  · intro h i hi
    refine List.all_eq_true.2 fun m hm => ?_
    have hm := List.mem_range.1 hm
    exact beq_iff_eq.2 ((key i m hi hm).1 (allEq_get h (by omega)))
  · intro h
    refine List.all_eq_true.2 fun q hq => ?_
    have hq := List.mem_range.1 hq
    refine beq_iff_eq.2 ?_
    by_cases e : q / 8 < n
    · have := (key (q / 8) (q % 8) e (by omega)).2 (allEq_get (h _ e) (by omega))
      rw [show q / 8 * 8 + q % 8 = q by omega] at this
      exact this
    · unfold faultF
      have h1 : etF p T t (q / 8) (q % 8) = 0 := by
        unfold etF
        rw [sumN_none 8 fun k hk => by rw [hV.a.zero (q / 8) k (q % 8) (by omega) hk (by omega) (.inl (by omega)), Int.mul_zero], Int.zero_emod]
      rw [h1, hV.c.uzero (q / 8) (by omega) (by omega), Int.zero_add, Int.sub_zero, Int.mul_emod_right]

section
variable (p n : Int) (U T Z C S : Nat → Int) (hU : isU8 8 U) (hT : isU8 512 T) (hZ : isU8 8 Z) (hC : isU8 512 C) (hS : isU8 64 S) (v : Nat → Int) (hv : isU8 8 v)
include hU hT hZ hC hS hv
theorem implIsLeft_s : Spec Try.prog 18 [hopV p n U T Z C S, .ints .u8 8 v] [] (Ret (hlintV p n U T Z C S v)) := by
  refine Spec.ret rfl (Spec.of_vc tabOK tabEq Try.func18 rfl (by kernel_rfl) rfl rfl ?_)
  (repeat (first | refine And.intro (by omega) ?_ | refine And.intro ⟨by omega, by omega⟩ ?_))
  refine And.intro (And.intro rfl trivial) (Spec.mono (isHopfWith_s p n U T Z C S hU hT hZ hC hS 1 (oneV (fun j => 0) v) (by omega) (one_u8 hv)) ?_)
  rintro r m ⟨rfl, rfl⟩
  refine ifVC_split (fun hc => ?_) (fun hc => ?_)
  · have hc := hopOne_bad hc
    exact And.intro (boolEq (by simp [hc])) (And.intro (slotI (by simp [hc])) rfl)
  have hc := hopOne_ok hc
  obtain ⟨n, rfl, hV, hz⟩ := hopOne_spec hU hT hZ hC hS hc
  refine Exists.intro 9 (And.intro (by kernel_rfl) ?_)
  refine Exists.intro (algV p n U T) (And.intro (And.intro rfl (And.intro rfl (Spec.mono (algebraOf_s p n U T Z C S) fun r m h => h.1))) ?_)
  (repeat (first | refine And.intro (by omega) ?_ | refine And.intro ⟨by omega, by omega⟩ ?_))
  refine Exists.intro (.ints .u8 64 (faultF p T Z v)) (And.intro (And.intro rfl (And.intro rfl (Spec.mono (integralFault_s p n U T Z _ hV.a.hp hT (fun j hj => hV.c.ult j hj) (fun j hj => hv _ (by omega))) fun r m h => h.1))) ?_)
  exact And.intro (boolEq (by rw [hc]; rfl)) (And.intro (slotI (by simp [hc])) rfl)
theorem specIsLeft_s : Spec Try.prog 16 [hopV p n U T Z C S, .ints .u8 8 v] [] (Ret (hlintV p n U T Z C S v)) := by
  refine Spec.ret rfl (Spec.of_vc tabOK tabEq Try.func16 rfl (by kernel_rfl) rfl rfl ?_)
  (repeat (first | refine And.intro (by omega) ?_ | refine And.intro ⟨by omega, by omega⟩ ?_))
  refine And.intro (And.intro rfl trivial) (Spec.mono (l03Code_s p n U T Z C S hU hT hZ hC hS 1 (oneV (fun j => 0) v) (by omega) (one_u8 hv)) ?_)
  rintro r m ⟨rfl, rfl⟩
  rw [one_vectors]
  refine ifVC_split (fun hc => ?_) (fun hc => ?_)
  · have hc := hopOne_bad2 hc
    exact And.intro (boolEq (by simp [hc])) (And.intro (slotI (by rw [hopOne_code hc]; simp [hc])) rfl)
  have hc := hopOne_ok2 hc
  obtain ⟨n, rfl, hV, hz⟩ := hopOne_spec hU hT hZ hC hS hc
  have hn := hV.a.hn
  refine LoopVC.of (fun i : Nat => i ≤ n ∧ ∀ l, l < i → allEq 8 (fun m => timS p n T (unitV l) v n m % p) (addM p (fun _ => 0) (Z l) v) = true) (fun i => [(2, .ptr 0 [] 0 0), (3, .ptr 1 [] 0 0), (7, .int .i64 i)]) (fun _ => [some (hopV p n U T Z C S, 1106), some (.ints .u8 8 v, 8), none]) (fun i => n - i) 0 ⟨Nat.zero_le _, fun l hl => absurd hl (Nat.not_lt_zero _)⟩ ?_ ?_ ?_
  · exact (And.intro rfl (And.intro rfl (And.intro rfl (trivial))))
  · exact And.intro (And.intro (hopR p n U T Z C S) rfl) (And.intro (And.intro (rowEq fun _ _ => rfl) rfl) trivial)
  · rintro i ⟨hi, hall⟩
    refine ifVC_split (fun h => ?_) (fun h => ?_)
    · have hlt := of_decide_eq_true h
      have hidx : (i : Int).toNat = i := by omega
      have hZi := hZ i (by omega)
      refine Exists.intro 16 (And.intro (by kernel_rfl) ?_)
      refine Exists.intro (algV p n U T) (And.intro (And.intro rfl (And.intro rfl (Spec.mono (l03Algebra_s p n U T Z C S) fun r m h => h.1))) ?_)
      refine Exists.intro (.ints .u8 8 (unitV i)) (And.intro (And.intro rfl (And.intro rfl (Spec.mono (l01Basis_s i (by omega)) ?_))) ?_)
      · rintro r m ⟨rfl, _⟩
        simp only [Int.toNat_natCast]
      (repeat (first | refine And.intro (by omega) ?_ | refine And.intro ⟨by omega, by omega⟩ ?_))
      refine Exists.intro (.ints .u8 8 fun m => timS p n T (unitV i) v n m % p) (And.intro (And.intro rfl (And.intro rfl (Spec.mono (l01Times_s p n U T _ _ hV.a.hp hn hT (unitV_u8 i 8) (fun j hj => hv _ (by omega))) fun r m h => h.1))) ?_)
      (repeat (first | refine And.intro (by omega) ?_ | refine And.intro ⟨by omega, by omega⟩ ?_))
      have hw : IntKind.i64.wrap (Z ((i : Int).toNat * 1 + 0)) = Z i := by rw [show (i : Int).toNat * 1 + 0 = i by omega]; exact wrapI (x := Z i) (by omega)
      refine Exists.intro (.ints .u8 8 (addM p (fun _ => 0) (Z i) v)) (And.intro (And.intro rfl (And.intro rfl (Spec.mono (l01Add_s p (IntKind.i64.wrap (Z ((i : Int).toNat * 1 + 0))) _ _ hV.a.hp (by rw [hw]; omega) (fun _ _ => by omega) (fun j hj => hv _ (by omega))) ?_))) ?_)
      · rintro r m ⟨rfl, _⟩
        rw [hw]
        rfl
      refine ifVC_split (fun h2 => ?_) (fun h2 => ?_)
      · have h2 : (!allEq 8 (fun m => timS p n T (unitV i) v n m % p) (addM p (fun _ => 0) (Z i) v)) = true := h2
        have hno : lintB p T Z v = false := by
          cases hb : lintB p T Z v with
          | false => rfl
          | true => have := (lintB_row hV hz).1 hb i (by omega); rw [this] at h2; cases h2
        exact And.intro (boolEq (by rw [hno, Bool.and_false])) (And.intro (slotI (by simp [hc])) rfl)
      · have h2 : (!allEq 8 (fun m => timS p n T (unitV i) v n m % p) (addM p (fun _ => 0) (Z i) v)) = false := h2
        refine Exists.intro (i + 1) (And.intro ⟨by omega, fun l hl => ?_⟩ (And.intro (by omega) (And.intro (And.intro rfl (And.intro rfl (And.intro (slotI (wrapS (by omega))) trivial))) ?_)))
        · by_cases e : l = i
          · subst e; simpa using h2
          · exact hall l (by omega)
        · exact And.intro (And.intro (hopR p n U T Z C S) rfl) (And.intro (And.intro (rowEq fun _ _ => rfl) rfl) trivial)
    · have hge := of_decide_eq_false h
      obtain rfl : i = n := by omega
      exact And.intro (boolEq (by rw [hc, (lintB_row hV hz).2 hall]; rfl)) (And.intro (slotI (by simp [hc])) rfl)
theorem lawIsLeft_c : Spec Try.prog 5 [hopV p n U T Z C S, .ints .u8 8 v] [] (Ret (.bool true)) := by
  refine Spec.ret rfl (Spec.of_vc tabOK tabEq Try.func5 rfl (by kernel_rfl) rfl rfl ?_)
  refine Exists.intro 9 (And.intro (by kernel_rfl) ?_)
  refine Exists.intro (hopV p n U T Z C S) (And.intro (And.intro rfl (And.intro rfl (Spec.mono (toHopf_s p n U T Z C S) fun r m h => h.1))) ?_)
  refine And.intro (by omega) ?_
  refine Exists.intro (.ints .u8 8 v) (And.intro (And.intro rfl (And.intro rfl (Spec.mono (toVector_s _) fun r m h => h.1))) ?_)
  refine Exists.intro (hlintV p n U T Z C S v) (And.intro (And.intro rfl (And.intro rfl (Spec.mono (specIsLeft_s p n U T Z C S hU hT hZ hC hS v hv) fun r m h => h.1))) ?_)
  refine Exists.intro 9 (And.intro (by kernel_rfl) ?_)
  refine Exists.intro (hopV p n U T Z C S) (And.intro (And.intro rfl (And.intro rfl (Spec.mono (toHopf_s p n U T Z C S) fun r m h => h.1))) ?_)
  refine And.intro (by omega) ?_
  refine Exists.intro (.ints .u8 8 v) (And.intro (And.intro rfl (And.intro rfl (Spec.mono (toVector_s _) fun r m h => h.1))) ?_)
  refine Exists.intro (hlintV p n U T Z C S v) (And.intro (And.intro rfl (And.intro rfl (Spec.mono (implIsLeft_s p n U T Z C S hU hT hZ hC hS v hv) fun r m h => h.1))) ?_)
  refine ifVC_false (by simp) ?_
  refine ifVC_false (by simp) ?_
  exact boolEq rfl
end
end Go.Proofs.Ytmnbeinomodggaa
