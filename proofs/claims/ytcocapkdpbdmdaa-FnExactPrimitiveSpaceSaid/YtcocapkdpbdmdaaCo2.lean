/- Coproducts, counits and group-like vectors, on both sides, and the laws. -/
import Derived.Test.YtcocapkdpbdmdaaCoIs
import Derived.Test.YtcocapkdpbdmdaaEqs
import Derived.Test.YtcocapkdpbdmdaaPow
set_option linter.unusedVariables false
set_option linter.unusedSimpArgs false
set_option maxRecDepth 100000
set_option maxHeartbeats 1000000
namespace Go.Proofs.Ytcocapkdpbdmdaa
open M

theorem coB_field {p n : Int} {U C : Nat → Int} (h : coB p n U C = true) : fieldB p n = true := by
  unfold coB algB at h
  simp only [Bool.and_eq_true] at h
  exact shape_field h.1
theorem coB_valid {p n : Int} {U C : Nat → Int} (hU : isU8 8 U) (hC : isU8 512 C) (h : coB p n U C = true) : ∃ k : Nat, n = k ∧ Valid p k U (dualF C) := algB_valid hU (dual_u8 hC) h

theorem isCoalgebraWith_s (p n : Int) (U C : Nat → Int) (len : Nat) (V : Nat → Int) (hlen : len ≤ 1000) (hU : isU8 8 U) (hC : isU8 512 C) (hV : isU8 (len * 8) V) :
    Spec Try.prog 27 [algV p n U C, .sl 0 0 len len] [some (.ints .u8 (len * 8) V, len * 8)] (fun r m => r = .bool (coB p n U C && vectorsB p n len V) ∧ m = [some (.ints .u8 (len * 8) V, len * 8)]) := by
  refine Spec.cut (Nat.le_refl _) (by simp [SV.ids]) (fun id u c hb => by cases id <;> cases hb; simp [SV.ids]) (Spec.of_vc tabOK tabEq Try.func27 rfl (by kernel_rfl) rfl rfl ?_)
  refine And.intro trivial (Spec.mono (implIsCo_s p n U C hU hC) ?_)
  rintro r m ⟨rfl, rfl⟩
  refine ifVC_split (fun ha => ?_) (fun ha => ?_)
  · have hfn : fieldB p n = true := coB_field ha
    refine And.intro (And.intro rfl trivial) (Spec.mono (areVectors_s p n len V hlen hfn hV) ?_)
    rintro r m ⟨rfl, rfl⟩
    exact And.intro (boolEq (by simp [ha])) (And.intro (And.intro (rowEq fun _ _ => rfl) rfl) trivial)
  · exact And.intro (boolEq (by simp [ha])) (And.intro (And.intro (rowEq fun _ _ => rfl) rfl) trivial)

theorem l02Code_s (p n : Int) (U C : Nat → Int) (len : Nat) (V : Nat → Int) (hlen : len ≤ 1000) (hU : isU8 8 U) (hC : isU8 512 C) (hV : isU8 (len * 8) V) :
    Spec Try.prog 23 [algV p n U C, .sl 0 0 len len] [some (.ints .u8 (len * 8) V, len * 8)] (fun r m => r = .int .i64 (if (coB p n U C && vectorsB p n len V) = true then 0 else 1) ∧ m = [some (.ints .u8 (len * 8) V, len * 8)]) := by
  refine Spec.cut (Nat.le_refl _) (by simp [SV.ids]) (fun id u c hb => by cases id <;> cases hb; simp [SV.ids]) (Spec.of_vc tabOK tabEq Try.func23 rfl (by kernel_rfl) rfl rfl ?_)
  refine And.intro trivial (Spec.mono (l02Is_s p n U C hU hC) ?_)
  rintro r m ⟨rfl, rfl⟩
  refine ifVC_split (fun ha => ?_) (fun ha => ?_)
  · exact And.intro (slotI (by simp at ha; simp [ha])) (And.intro (And.intro (rowEq fun _ _ => rfl) rfl) trivial)
  have ha : coB p n U C = true := by simpa using ha
  refine LoopVC.of (fun i : Nat => i ≤ len ∧ ∀ j, j < i → entriesB p n (partF V 8 j) = true) (fun i => [(1, .sl 0 0 len len), (2, .ptr 1 [] 0 0), (5, .int .i64 i)]) (fun _ => [some (.ints .u8 (len * 8) V, len * 8), some (algV p n U C, 522)]) (fun i => len - i) 0 ⟨by omega, fun j hj => by omega⟩ ?_ ?_ ?_
  · exact And.intro rfl (And.intro rfl (And.intro rfl trivial))
  · exact And.intro (And.intro (rowEq fun _ _ => rfl) rfl) (And.intro (And.intro (algR p n U C) rfl) trivial)
  · rintro i ⟨hi, hall⟩
    refine ifVC_split (fun h => ?_) (fun h => ?_)
    · have hlt := of_decide_eq_true h
      have hidx : (i : Int).toNat = i := by omega
      refine Exists.intro 8 (And.intro (by kernel_rfl) ?_)
      refine And.intro ⟨by omega, by omega⟩ ?_
      refine And.intro (by omega) ?_
      refine And.intro trivial (Spec.mono (l01Vector_s p n _ (fun j hj => hV _ (by omega))) ?_)
      rintro r m ⟨rfl, rfl⟩
      have he : entriesB p n (fun j => V (j + ((i : Int).toNat * 8 + 0))) = entriesB p n (partF V 8 i) := by rw [hidx]; rfl
      refine ifVC_split (fun hv => ?_) (fun hv => ?_)
      · have hv : entriesB p n (partF V 8 i) = false := by rw [← he]; simpa using hv
        exact And.intro (slotI (by simp [vectorsB_no (p := p) (n := n) (V := V) (len := len) (i := i) (by omega) hv])) (And.intro (And.intro (rowEq fun _ _ => rfl) rfl) trivial)
      · have hv : entriesB p n (partF V 8 i) = true := by rw [← he]; simpa using hv
        refine Exists.intro (i + 1) (And.intro ⟨by omega, fun j hj => ?_⟩ (And.intro (by omega) (And.intro ?_ ?_)))
        · by_cases hji : j = i
          · subst hji; exact hv
          · exact hall j (by omega)
        · exact And.intro rfl (And.intro rfl (And.intro (slotI (wrapS (by omega))) trivial))
        · exact And.intro (And.intro (rowEq fun _ _ => rfl) rfl) (And.intro (And.intro (algR p n U C) rfl) trivial)
    · have hge := of_decide_eq_false h
      exact And.intro (slotI (by simp [ha, vectorsB_yes (p := p) (n := n) (V := V) (len := len) fun j hj => hall j (by omega)])) (And.intro (And.intro (rowEq fun _ _ => rfl) rfl) trivial)


def coOne (p n : Int) (U C v : Nat → Int) : Bool := coB p n U C && entriesB p n v

/-! ### counits -/
def cntN (U v : Nat → Int) (k : Nat) : Int := sumN k fun i => v i * U i
def cnt (p : Int) (U v : Nat → Int) : Int := cntN U v 8 % p
theorem cnt_bound {U v : Nat → Int} (hU : isU8 8 U) (hv : isU8 8 v) (k : Nat) (hk : k ≤ 8) : 0 ≤ cntN U v k ∧ cntN U v k ≤ 65025 * k := sum_bound k fun i hi => mulB (hv i (by omega)) (hU i (by omega))
theorem cnt_step {U v : Nat → Int} (hU : isU8 8 U) (hv : isU8 8 v) {i a b : Nat} (hi : i < 8) (ha : a = i) (hb : b = i) :
    IntKind.i64.wrap (cntN U v i + IntKind.i64.wrap (IntKind.i64.wrap (v a) * IntKind.i64.wrap (U b))) = cntN U v (i + 1) := by
  subst ha; subst hb
  have h1 := hv b hi
  have h2 := hU b hi
  have h3 := mulB h1 h2
  have h4 := cnt_bound hU hv b (by omega)
  rw [wrapI (x := v b) (by omega), wrapI (x := U b) (by omega), wrapI (x := v b * U b) (by omega), wrapI (by omega)]
  rfl

theorem valueAt_s (p : Int) (U v : Nat → Int) (hp : 0 < p ∧ p < 256) (hU : isU8 8 U) (hv : isU8 8 v) : Spec Try.prog 76 [.int .i64 p, .ints .u8 8 U, .ints .u8 8 v] [] (Ret (.int .i64 (cnt p U v))) := by
  refine Spec.ret rfl (Spec.of_vc tabOK tabEq Try.func76 rfl (by kernel_rfl) rfl rfl ?_)
  (repeat (first | refine And.intro (by omega) ?_ | refine And.intro ⟨by omega, by omega⟩ ?_))
  refine LoopVC.of (fun i : Nat => i ≤ 8) (fun i => [(0, .int .i64 p), (4, .ptr 0 [] 0 0), (7, .int .i64 (cntN U v i)), (10, .ints .u8 8 v), (11, .int .i64 i)]) (fun _ => [some (.ints .u8 8 U, 8), none]) (fun i => 8 - i) 0 (by omega) ?_ ?_ ?_
  · exact And.intro rfl (And.intro rfl (And.intro rfl (And.intro (rowEq fun _ _ => rfl) (And.intro rfl trivial))))
  · exact And.intro (And.intro (rowEq fun _ _ => rfl) rfl) trivial
  · intro i hi
    refine ifVC_split (fun h => ?_) (fun h => ?_)
    · have hlt := of_decide_eq_true h
      (repeat (first | refine And.intro (by omega) ?_ | refine And.intro ⟨by omega, by omega⟩ ?_))
      refine Exists.intro (i + 1) (And.intro (by omega) (And.intro (by omega) (And.intro (And.intro rfl (And.intro rfl (And.intro (slotI (cnt_step hU hv (by omega) (by omega) (by omega))) (And.intro (rowEq fun _ _ => rfl) (And.intro (slotI (wrapS (by omega))) trivial))))) (And.intro (And.intro (rowEq fun _ _ => rfl) rfl) trivial))))
    · have hge := of_decide_eq_false h
      obtain rfl : i = 8 := by omega
      have h4 := cnt_bound hU hv 8 (by omega)
      (repeat (first | refine And.intro (by omega) ?_ | refine And.intro ⟨by omega, by omega⟩ ?_))
      refine slotI ?_
      rw [Int.tmod_eq_emod_of_nonneg h4.1]
      rfl

theorem counit_s (p n : Int) (U C v : Nat → Int) (hp : 0 < p ∧ p < 256) (hU : isU8 8 U) (hv : isU8 8 v) : Spec Try.prog 54 [algV p n U C, .ints .u8 8 v] [] (Ret (.int .i64 (cnt p U v))) := by
  refine Spec.ret rfl (Spec.of_vc tabOK tabEq Try.func54 rfl (by kernel_rfl) rfl rfl ?_)
  (repeat (first | refine And.intro (by omega) ?_ | refine And.intro ⟨by omega, by omega⟩ ?_))
  refine And.intro trivial (Spec.mono (valueAt_s p U v hp hU hv) ?_)
  rintro r m ⟨rfl, rfl⟩
  exact slotI rfl

theorem l02Counit_s (p n : Int) (U C v : Nat → Int) (hp : 0 < p ∧ p < 256) (hU : isU8 8 U) (hv : isU8 8 v) : Spec Try.prog 47 [algV p n U C, .ints .u8 8 v] [] (Ret (.int .i64 (cnt p U v))) := by
  refine Spec.ret rfl (Spec.of_vc tabOK tabEq Try.func47 rfl (by kernel_rfl) rfl rfl ?_)
  refine LoopVC.of (fun i : Nat => i ≤ 8) (fun i => [(2, .ptr 0 [] 0 0), (3, .ptr 1 [] 0 0), (5, .int .i64 (cntN U v i)), (6, .int .i64 i)]) (fun _ => [some (algV p n U C, 522), some (.ints .u8 8 v, 8)]) (fun i => 8 - i) 0 (by omega) ?_ ?_ ?_
  · exact (And.intro rfl (And.intro rfl (And.intro rfl (And.intro rfl (trivial)))))
  · exact And.intro (And.intro (algR p n U C) rfl) (And.intro (And.intro (rowEq fun _ _ => rfl) rfl) trivial)
  · intro i hi
    refine ifVC_split (fun h => ?_) (fun h => ?_)
    · have hlt := of_decide_eq_true h
      refine Exists.intro 12 (And.intro (by kernel_rfl) ?_)
      (repeat (first | refine And.intro (by omega) ?_ | refine And.intro ⟨by omega, by omega⟩ ?_))
      refine Exists.intro (i + 1) (And.intro (by omega) (And.intro (by omega) (And.intro (And.intro rfl (And.intro rfl (And.intro (slotI (cnt_step hU hv (by omega) (by omega) (by omega))) (And.intro (slotI (wrapS (by omega))) trivial)))) (And.intro (And.intro (algR p n U C) rfl) (And.intro (And.intro (rowEq fun _ _ => rfl) rfl) trivial)))))
    · have hge := of_decide_eq_false h
      obtain rfl : i = 8 := by omega
      have h4 := cnt_bound hU hv 8 (by omega)
      (repeat (first | refine And.intro (by omega) ?_ | refine And.intro ⟨by omega, by omega⟩ ?_))
      refine slotI ?_
      rw [Int.tmod_eq_emod_of_nonneg h4.1]
      rfl

/-! ### coproducts -/
theorem coproduct_s (p n : Int) (U C v : Nat → Int) (hp : 0 < p ∧ p < 256) (hC : isU8 512 C) (hv : isU8 8 v) :
    Spec Try.prog 55 [algV p n U C, .ints .u8 8 v] [] (Ret (.ints .u8 64 (leftT p C v))) := by
  refine Spec.ret rfl (Spec.of_vc tabOK tabEq Try.func55 rfl (by kernel_rfl) rfl rfl ?_)
  (repeat (first | refine And.intro (by omega) ?_ | refine And.intro ⟨by omega, by omega⟩ ?_))
  refine And.intro trivial (Spec.mono (sumOfMaps_s p _ _ hp (fun j hj => hC _ (by omega)) (fun j hj => hv _ (by omega))) ?_)
  rintro r m ⟨rfl, rfl⟩
  (repeat (first | refine And.intro (by omega) ?_ | refine And.intro ⟨by omega, by omega⟩ ?_))
  refine rowEq fun q hq => ?_
  show updR _ 0 64 _ q = leftT p C v q
  simp [updR, hq]

def cop (p : Int) (C v : Nat → Int) (i j k : Nat) : Int := sumN i (fun a => v a * vecT C a j k) % p
theorem cop_step (p : Int) (C v : Nat → Int) (i j k : Nat) : cop p C v (i + 1) j k = (cop p C v i j k + v i * vecT C i j k) % p := by
  unfold cop
  show (sumN i (fun a => v a * vecT C a j k) + v i * vecT C i j k) % p = _
  rw [Int.emod_add_emod]
theorem cop_left {p : Int} {n : Nat} {U C v : Nat → Int} (hV : Valid p n U (dualF C)) (hz : ∀ i, n ≤ i → i < 8 → v i = 0) {q : Nat} (hq : q < 64) : leftT p C v q = if q / 8 < n then cop p C v n (q / 8) (q % 8) else 0 := by
  have hn := hV.hn
  have e : leftT p C v q = cop p C v n (q / 8) (q % 8) := by
    unfold leftT rightF cop
    rw [linS_cut 8 hn hz, linS_sum]
    congr 1
    refine sumN_congr n fun a ha => ?_
    have e : rowT (flipF C) (q / 8) (a * 8 + q % 8) = vecT C a (q / 8) (q % 8) := by unfold rowT flipF vecT; congr 1; omega
    rw [e]
  rw [e]
  by_cases h : q / 8 < n
  · rw [if_pos h]
  · rw [if_neg h]
    unfold cop
    rw [sumN_none n fun a ha => by rw [co_zero hV (by omega) (by omega) (by omega) (.inr (.inl (by omega)))]; simp]
    simp

theorem l02Coproduct_s (p : Int) (n : Nat) (U C v : Nat → Int) (hV : Valid p n U (dualF C)) (hC : isU8 512 C) (hv : isU8 8 v) (hz : ∀ i, n ≤ i → i < 8 → v i = 0) :
    Spec Try.prog 48 [algV p n U C, .ints .u8 8 v] [] (Ret (.ints .u8 64 (leftT p C v))) := by
  have hn := hV.hn
  have hp := hV.hp
  refine Spec.ret rfl (Spec.of_vc tabOK tabEq Try.func48 rfl (by kernel_rfl) rfl rfl ?_)
  (repeat (first | refine And.intro (by omega) ?_ | refine And.intro ⟨by omega, by omega⟩ ?_))
  refine LoopVC.of (fun i : Nat => i ≤ n) (fun i => [(2, .ptr 0 [] 0 0), (3, .ptr 1 [] 0 0), (4, .ptr 2 [] 0 0), (5, .ptr 3 [] 0 0), (6, .int .i64 i)])
    (fun i => [some (algV p n U C, 522), some (.ints .u8 8 v, 8), some (.ints .u8 64 fun _ => 0, 64), some (.ints .u8 64 fun q => if q / 8 < n then cop p C v i (q / 8) (q % 8) else 0, 64)]) (fun i => n - i) 0 (by omega) ?_ ?_ ?_
  · exact (And.intro rfl (And.intro rfl (And.intro rfl (And.intro rfl (And.intro rfl (trivial))))))
  · exact And.intro (And.intro (algR p n U C) rfl) (And.intro (And.intro (rowEq fun _ _ => rfl) rfl) (And.intro (And.intro (rowEq fun _ _ => rfl) rfl) (And.intro (And.intro (rowEq fun q hq => by show updR _ 0 64 _ q = _; simp [updR, hq, cop, sumN]) rfl) trivial)))
  · intro i hi
    refine ifVC_split (fun h => ?_) (fun h => ?_)
    · have hlti := of_decide_eq_true h
      have hidx : (i : Int).toNat = i := by omega
      have hvi := hv i (by omega)
      refine LoopVC.of (fun j : Nat => j ≤ n) (fun j => [(2, .ptr 0 [] 0 0), (3, .ptr 1 [] 0 0), (4, .ptr 2 [] 0 0), (5, .ptr 3 [] 0 0), (6, .int .i64 i), (7, .int .i64 j)])
        (fun j => [some (algV p n U C, 522), some (.ints .u8 8 v, 8), some (.ints .u8 64 fun _ => 0, 64), some (.ints .u8 64 fun q => if q / 8 < j then cop p C v (i + 1) (q / 8) (q % 8) else if q / 8 < n then cop p C v i (q / 8) (q % 8) else 0, 64)]) (fun j => n - j) 0 (by omega) ?_ ?_ ?_
      · exact (And.intro rfl (And.intro rfl (And.intro rfl (And.intro rfl (And.intro rfl (And.intro rfl (trivial)))))))
      · exact And.intro (And.intro (algR p n U C) rfl) (And.intro (And.intro (rowEq fun _ _ => rfl) rfl) (And.intro (And.intro (rowEq fun _ _ => rfl) rfl) (And.intro (And.intro (rowEq fun q hq => by simp) rfl) trivial)))
      · intro j hj
        refine ifVC_split (fun h => ?_) (fun h => ?_)
        · have hltj := of_decide_eq_true h
          have hjdx : (j : Int).toNat = j := by omega
          refine Exists.intro 17 (And.intro (by kernel_rfl) ?_)
          (repeat (first | refine And.intro (by omega) ?_ | refine And.intro ⟨by omega, by omega⟩ ?_))
          have hout : isU8 64 fun q => if q / 8 < j then cop p C v (i + 1) (q / 8) (q % 8) else if q / 8 < n then cop p C v i (q / 8) (q % 8) else 0 := fun q hq => by
            dsimp only
            split
            · exact modB hp
            · split
              · exact modB hp
              · omega
          have hvw : IntKind.i64.wrap (v ((i : Int).toNat * 1 + 0)) = v i := by rw [show (i : Int).toNat * 1 + 0 = i by omega]; exact wrapI (by omega)
          refine Exists.intro (.ints .u8 8 _) (And.intro (And.intro rfl (And.intro rfl (Spec.mono (l01Add_s p _ _ _ hp (by rw [hvw]; omega) (fun q hq => hout _ (by omega)) (fun q hq => hC _ (by omega))) fun r m h => h.1))) ?_)
          (repeat (first | refine And.intro (by omega) ?_ | refine And.intro ⟨by omega, by omega⟩ ?_))
          refine Exists.intro (j + 1) (And.intro (by omega) (And.intro (by omega) (And.intro (And.intro rfl (And.intro rfl (And.intro rfl (And.intro rfl (And.intro rfl (And.intro (slotI (wrapS (by omega))) trivial)))))) ?_)))
          refine And.intro (And.intro (algR p n U C) rfl) (And.intro (And.intro (rowEq fun _ _ => rfl) rfl) (And.intro (And.intro (rowEq fun _ _ => rfl) rfl) (And.intro (And.intro (rowEq fun q hq => ?_) rfl) trivial)))
          show updR _ ((j : Int).toNat * 8 + 0) 8 _ q = _
          unfold updR
          rw [hjdx]
          by_cases h1 : j * 8 + 0 ≤ q ∧ q < j * 8 + 0 + 8
          · rw [if_pos h1, if_pos (by omega)]
            unfold addM
            rw [hvw, cop_step]
            dsimp only
            have e1 : q - (j * 8 + 0) + (j * 8 + 0) = q := by omega
            have e2 : C (q - (j * 8 + 0) + (j * 8 + ((i : Int).toNat * 64 + 0))) = vecT C i (q / 8) (q % 8) := by unfold vecT; congr 1; omega
            rw [e1, e2, if_neg (by omega), if_pos (by omega)]
          · rw [if_neg h1]
            dsimp only
            by_cases h2 : q / 8 < j
            · rw [if_pos h2, if_pos (show q / 8 < j + 1 by omega)]
            · rw [if_neg h2, if_neg (show ¬ q / 8 < j + 1 by omega)]
        · have hge := of_decide_eq_false h
          obtain rfl : j = n := by omega
          refine Exists.intro (i + 1) (And.intro (by omega) (And.intro (by omega) (And.intro (And.intro rfl (And.intro rfl (And.intro rfl (And.intro rfl (And.intro (slotI (wrapS (by omega))) trivial))))) ?_)))
          refine And.intro (And.intro (algR p j U C) rfl) (And.intro (And.intro (rowEq fun _ _ => rfl) rfl) (And.intro (And.intro (rowEq fun _ _ => rfl) rfl) (And.intro (And.intro (rowEq fun q hq => ?_) rfl) trivial)))
          by_cases h2 : q / 8 < j
          · rw [if_pos h2, if_pos h2]
          · rw [if_neg h2, if_neg h2, if_neg h2]
    · have hge := of_decide_eq_false h
      obtain rfl : i = n := by omega
      (repeat (first | refine And.intro (by omega) ?_ | refine And.intro ⟨by omega, by omega⟩ ?_))
      refine rowEq fun q hq => ?_
      rw [cop_left hV hz hq]
      show updR _ 0 64 _ q = _
      simp [updR, hq]

/-! ### tables of two vectors -/
def tenF (p : Int) (v w : Nat → Int) : Nat → Int := fun q => v (q / 8) * w (q % 8) % p
/-- a table and that of two vectors -/
def addTen (p : Int) (F v w : Nat → Int) : Nat → Int := fun q => (F q + v (q / 8) * w (q % 8)) % p
theorem addTensor_s (p : Int) (F v w : Nat → Int) (hp : 0 < p ∧ p < 256) (hF : ∀ q, q < 64 → 0 ≤ F q ∧ F q < p) (hv : isU8 8 v) (hw : isU8 8 w) :
    Spec Try.prog 56 [.int .i64 p, .ints .u8 64 F, .ints .u8 8 v, .ints .u8 8 w] [] (Ret (.ints .u8 64 (addTen p F v w))) := by
  refine Spec.ret rfl (Spec.of_vc tabOK tabEq Try.func56 rfl (by kernel_rfl) rfl rfl ?_)
  (repeat (first | refine And.intro (by omega) ?_ | refine And.intro ⟨by omega, by omega⟩ ?_))
  refine LoopVC.of (fun i : Nat => i ≤ 8) (fun i => [(0, .int .i64 p), (5, .ptr 0 [] 0 0), (7, .ptr 2 [] 0 0), (8, .ptr 3 [] 0 0), (11, .ints .u8 8 v), (12, .int .i64 i)])
    (fun i => [some (.ints .u8 64 fun q => if q / 8 < i then addTen p F v w q else F q, 64), none, some (.ints .u8 8 w, 8), some (.ints .u8 64 fun _ => 0, 64)]) (fun i => 8 - i) 0 (by omega) ?_ ?_ ?_
  · exact And.intro rfl (And.intro rfl (And.intro rfl (And.intro rfl (And.intro (rowEq fun _ _ => rfl) (And.intro rfl trivial)))))
  · exact And.intro (And.intro (rowEq fun q hq => by simp) rfl) (And.intro (And.intro (rowEq fun _ _ => rfl) rfl) (And.intro (And.intro (rowEq fun _ _ => rfl) rfl) trivial))
  · intro i hi
    refine ifVC_split (fun h => ?_) (fun h => ?_)
    · have hlt := of_decide_eq_true h
      have hidx : (i : Int).toNat = i := by omega
      have hvi := hv i (by omega)
      have hvw : IntKind.i64.wrap (v ((i : Int).toNat)) = v i := by rw [hidx]; exact wrapI (by omega)
      (repeat (first | refine And.intro (by omega) ?_ | refine And.intro ⟨by omega, by omega⟩ ?_))
      refine ifVC_split (fun hz => ?_) (fun hz => ?_)
      · refine Exists.intro 10 (And.intro (by kernel_rfl) ?_)
        (repeat (first | refine And.intro (by omega) ?_ | refine And.intro ⟨by omega, by omega⟩ ?_))
        refine Exists.intro (.ints .u8 8 _) (And.intro (And.intro rfl (And.intro rfl (Spec.mono (addMultiple_s p _ _ _ hp (by rw [hvw]; exact hvi) (fun q hq => ?_) (fun q hq => hw _ (by omega))) fun r m h => h.1))) ?_)
        · dsimp only
          rw [if_neg (by omega)]
          have := hF (q + ((i : Int).toNat * 8 + 0)) (by omega)
          omega
        (repeat (first | refine And.intro (by omega) ?_ | refine And.intro ⟨by omega, by omega⟩ ?_))
        refine Exists.intro (i + 1) (And.intro (by omega) (And.intro (by omega) (And.intro (And.intro rfl (And.intro rfl (And.intro rfl (And.intro rfl (And.intro (rowEq fun _ _ => rfl) (And.intro (slotI (wrapS (by omega))) trivial)))))) ?_)))
        refine And.intro (And.intro (rowEq fun q hq => ?_) rfl) (And.intro (And.intro (rowEq fun _ _ => rfl) rfl) (And.intro (And.intro (rowEq fun _ _ => rfl) rfl) trivial))
        show updR _ ((i : Int).toNat * 8 + 0) 8 _ q = _
        unfold updR
        rw [hidx]
        by_cases h1 : i * 8 + 0 ≤ q ∧ q < i * 8 + 0 + 8
        · rw [if_pos h1, if_pos (show q / 8 < i + 1 by omega)]
          unfold addM addTen
          have hvw' : IntKind.i64.wrap (v i) = v i := wrapI (by omega)
          dsimp only
          rw [show q - (i * 8 + 0) + (i * 8 + 0) = q by omega, if_neg (show ¬ q / 8 < i by omega), hvw', show q / 8 = i by omega, show q - (i * 8 + 0) + 0 = q % 8 by omega]
        · rw [if_neg h1]
          dsimp only
          by_cases h2 : q / 8 < i
          · rw [if_pos h2, if_pos (show q / 8 < i + 1 by omega)]
          · rw [if_neg h2, if_neg (show ¬ q / 8 < i + 1 by omega)]
      · have hz : v i = 0 := by
          have hz : v ((i : Int).toNat) = 0 := by simpa using hz
          rw [hidx] at hz; exact hz
        refine Exists.intro (i + 1) (And.intro (by omega) (And.intro (by omega) (And.intro (And.intro rfl (And.intro rfl (And.intro rfl (And.intro rfl (And.intro (rowEq fun _ _ => rfl) (And.intro (slotI (wrapS (by omega))) trivial)))))) ?_)))
        refine And.intro (And.intro (rowEq fun q hq => ?_) rfl) (And.intro (And.intro (rowEq fun _ _ => rfl) rfl) (And.intro (And.intro (rowEq fun _ _ => rfl) rfl) trivial))
        by_cases h2 : q / 8 < i
        · rw [if_pos h2, if_pos (show q / 8 < i + 1 by omega)]
        · rw [if_neg h2]
          by_cases h3 : q / 8 < i + 1
          · rw [if_pos h3]
            unfold addTen
            have := hF q hq
            rw [show q / 8 = i by omega, hz, Int.zero_mul, Int.add_zero, Int.emod_eq_of_lt this.1 this.2]
          · rw [if_neg h3]
    · have hge := of_decide_eq_false h
      obtain rfl : i = 8 := by omega
      (repeat (first | refine And.intro (by omega) ?_ | refine And.intro ⟨by omega, by omega⟩ ?_))
      refine rowEq fun q hq => ?_
      show updR _ 0 64 _ q = _
      simp [updR, hq]
      omega
theorem tensor_s (p : Int) (v w : Nat → Int) (hp : 0 < p ∧ p < 256) (hv : isU8 8 v) (hw : isU8 8 w) : Spec Try.prog 32 [.int .i64 p, .ints .u8 8 v, .ints .u8 8 w] [] (Ret (.ints .u8 64 (tenF p v w))) := by
  refine Spec.ret rfl (Spec.of_vc tabOK tabEq Try.func32 rfl (by kernel_rfl) rfl rfl ?_)
  (repeat (first | refine And.intro (by omega) ?_ | refine And.intro ⟨by omega, by omega⟩ ?_))
  refine And.intro trivial (Spec.mono (addTensor_s p _ _ _ hp (fun q hq => by constructor <;> omega) (fun q hq => hv _ (by omega)) (fun q hq => hw _ (by omega))) ?_)
  rintro r m ⟨rfl, rfl⟩
  (repeat (first | refine And.intro (by omega) ?_ | refine And.intro ⟨by omega, by omega⟩ ?_))
  refine rowEq fun q hq => ?_
  show updR _ 0 64 _ q = _
  simp [updR, hq, addTen, tenF]

theorem l02Outer_s (p : Int) (v w : Nat → Int) (hp : 0 < p ∧ p < 256) (hv : isU8 8 v) (hw : isU8 8 w) : Spec Try.prog 49 [.int .i64 p, .ints .u8 8 v, .ints .u8 8 w] [] (Ret (.ints .u8 64 (tenF p v w))) := by
  refine Spec.ret rfl (Spec.of_vc tabOK tabEq Try.func49 rfl (by kernel_rfl) rfl rfl ?_)
  (repeat (first | refine And.intro (by omega) ?_ | refine And.intro ⟨by omega, by omega⟩ ?_))
  refine LoopVC.of (fun i : Nat => i ≤ 8) (fun i => [(0, .int .i64 p), (4, .ptr 0 [] 0 0), (5, .ptr 1 [] 0 0), (6, .ptr 2 [] 0 0), (7, .ptr 3 [] 0 0), (8, .int .i64 i)])
    (fun i => [some (.ints .u8 8 v, 8), some (.ints .u8 8 w, 8), some (.ints .u8 64 fun _ => 0, 64), some (.ints .u8 64 fun q => if q < i * 8 then tenF p v w q else 0, 64)]) (fun i => 8 - i) 0 (by omega) ?_ ?_ ?_
  · exact (And.intro rfl (And.intro rfl (And.intro rfl (And.intro rfl (And.intro rfl (And.intro rfl (trivial)))))))
  · exact And.intro (And.intro (rowEq fun _ _ => rfl) rfl) (And.intro (And.intro (rowEq fun _ _ => rfl) rfl) (And.intro (And.intro (rowEq fun _ _ => rfl) rfl) (And.intro (And.intro (rowEq fun q hq => by show updR _ 0 64 _ q = _; simp [updR, hq]) rfl) trivial)))
  · intro i hi
    refine ifVC_split (fun h => ?_) (fun h => ?_)
    · have hlt := of_decide_eq_true h
      have hidx : (i : Int).toNat = i := by omega
      have hvi := hv i (by omega)
      have hvw : IntKind.i64.wrap (v ((i : Int).toNat * 1 + 0)) = v i := by rw [show (i : Int).toNat * 1 + 0 = i by omega]; exact wrapI (by omega)
      refine Exists.intro 9 (And.intro (by kernel_rfl) ?_)
      (repeat (first | refine And.intro (by omega) ?_ | refine And.intro ⟨by omega, by omega⟩ ?_))
      refine Exists.intro (.ints .u8 8 _) (And.intro (And.intro rfl (And.intro rfl (Spec.mono (l01Add_s p _ _ _ hp (by rw [hvw]; omega) (fun q hq => by omega) (fun q hq => hw _ (by omega))) fun r m h => h.1))) ?_)
      (repeat (first | refine And.intro (by omega) ?_ | refine And.intro ⟨by omega, by omega⟩ ?_))
      refine Exists.intro (i + 1) (And.intro (by omega) (And.intro (by omega) (And.intro (And.intro rfl (And.intro rfl (And.intro rfl (And.intro rfl (And.intro rfl (And.intro (slotI (wrapS (by omega))) trivial)))))) ?_)))
      refine And.intro (And.intro (rowEq fun _ _ => rfl) rfl) (And.intro (And.intro (rowEq fun _ _ => rfl) rfl) (And.intro (And.intro (rowEq fun _ _ => rfl) rfl) (And.intro (And.intro (rowEq fun q hq => ?_) rfl) trivial)))
      show updR _ ((i : Int).toNat * 8 + 0) 8 (addM p (fun _ => 0) (IntKind.i64.wrap (v ((i : Int).toNat * 1 + 0))) fun j => w (j + 0)) q = _
      unfold updR addM
      rw [hvw, hidx]
      dsimp only
      by_cases h1 : i * 8 + 0 ≤ q ∧ q < i * 8 + 0 + 8
      · rw [if_pos h1, if_pos (by omega)]
        unfold tenF
        rw [show q / 8 = i by omega, show q - (i * 8 + 0) + 0 = q % 8 by omega, Int.zero_add]
      · rw [if_neg h1]
        by_cases h2 : q < i * 8
        · rw [if_pos h2, if_pos (by omega)]
        · rw [if_neg h2, if_neg (by omega)]
    · have hge := of_decide_eq_false h
      obtain rfl : i = 8 := by omega
      (repeat (first | refine And.intro (by omega) ?_ | refine And.intro ⟨by omega, by omega⟩ ?_))
      refine rowEq fun q hq => ?_
      show updR _ 0 64 _ q = _
      simp [updR, hq]

/-! ### group-like vectors -/
def groupB (p : Int) (U C v : Nat → Int) : Bool := (cnt p U v == 1) && allEq 64 (leftT p C v) (tenF p v v)

theorem isGroupLike_s (p : Int) (n : Nat) (U C v : Nat → Int) (hV : Valid p n U (dualF C)) (hU : isU8 8 U) (hC : isU8 512 C) (hv : isU8 8 v) : Spec Try.prog 28 [algV p n U C, .ints .u8 8 v] [] (Ret (.bool (groupB p U C v))) := by
  refine Spec.ret rfl (Spec.of_vc tabOK tabEq Try.func28 rfl (by kernel_rfl) rfl rfl ?_)
  refine Exists.intro 15 (And.intro (by kernel_rfl) ?_)
  (repeat (first | refine And.intro (by omega) ?_ | refine And.intro ⟨by omega, by omega⟩ ?_))
  refine Exists.intro (.int .i64 (cnt p U v)) (And.intro (And.intro rfl (And.intro rfl (Spec.mono (counit_s p n U C _ hV.hp hU (fun j hj => hv _ (by omega))) fun r m h => h.1))) ?_)
  refine ifVC_split (fun hc => ?_) (fun hc => ?_)
  · (repeat (first | refine And.intro (by omega) ?_ | refine And.intro ⟨by omega, by omega⟩ ?_))
    refine Exists.intro (.ints .u8 64 (leftT p C v)) (And.intro (And.intro rfl (And.intro rfl (Spec.mono (coproduct_s p n U C _ hV.hp hC (fun j hj => hv _ (by omega))) fun r m h => h.1))) ?_)
    (repeat (first | refine And.intro (by omega) ?_ | refine And.intro ⟨by omega, by omega⟩ ?_))
    refine Exists.intro (.ints .u8 64 (tenF p v v)) (And.intro (And.intro rfl (And.intro rfl (Spec.mono (tensor_s p _ _ hV.hp (fun j hj => hv _ (by omega)) (fun j hj => hv _ (by omega))) fun r m h => h.1))) ?_)
    exact boolEq (by unfold groupB; rw [hc, Bool.true_and])
  · exact boolEq (by unfold groupB; rw [hc, Bool.false_and])

theorem l02Group_s (p : Int) (n : Nat) (U C v : Nat → Int) (hV : Valid p n U (dualF C)) (hU : isU8 8 U) (hC : isU8 512 C) (hv : isU8 8 v) (hz : ∀ i, n ≤ i → i < 8 → v i = 0) : Spec Try.prog 24 [algV p n U C, .ints .u8 8 v] [] (Ret (.bool (groupB p U C v))) := by
  refine Spec.ret rfl (Spec.of_vc tabOK tabEq Try.func24 rfl (by kernel_rfl) rfl rfl ?_)
  refine Exists.intro 15 (And.intro (by kernel_rfl) ?_)
  (repeat (first | refine And.intro (by omega) ?_ | refine And.intro ⟨by omega, by omega⟩ ?_))
  refine Exists.intro (.int .i64 (cnt p U v)) (And.intro (And.intro rfl (And.intro rfl (Spec.mono (l02Counit_s p n U C _ hV.hp hU (fun j hj => hv _ (by omega))) fun r m h => h.1))) ?_)
  refine ifVC_split (fun hc => ?_) (fun hc => ?_)
  · (repeat (first | refine And.intro (by omega) ?_ | refine And.intro ⟨by omega, by omega⟩ ?_))
    refine Exists.intro (.ints .u8 64 (leftT p C v)) (And.intro (And.intro rfl (And.intro rfl (Spec.mono (l02Coproduct_s p n U C _ hV hC (fun j hj => hv _ (by omega)) (fun i h1 h2 => hz i h1 h2)) fun r m h => h.1))) ?_)
    (repeat (first | refine And.intro (by omega) ?_ | refine And.intro ⟨by omega, by omega⟩ ?_))
    refine Exists.intro (.ints .u8 64 (tenF p v v)) (And.intro (And.intro rfl (And.intro rfl (Spec.mono (l02Outer_s p _ _ hV.hp (fun j hj => hv _ (by omega)) (fun j hj => hv _ (by omega))) fun r m h => h.1))) ?_)
    exact boolEq (by unfold groupB; rw [hc, Bool.true_and])
  · exact boolEq (by unfold groupB; rw [hc, Bool.false_and])
end Go.Proofs.Ytcocapkdpbdmdaa
