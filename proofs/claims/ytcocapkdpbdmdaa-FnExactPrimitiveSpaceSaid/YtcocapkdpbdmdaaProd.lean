/- Lists of vectors, left tables and products of vectors, on both sides. -/
import Derived.Test.YtcocapkdpbdmdaaIsAlg
set_option linter.unusedVariables false
set_option linter.unusedSimpArgs false
set_option maxRecDepth 100000
namespace Go.Proofs.Ytcocapkdpbdmdaa
open M

def sumN : Nat → (Nat → Int) → Int
  | 0, _ => 0
  | k + 1, g => sumN k g + g k
theorem sumN_congr {f g : Nat → Int} : ∀ k : Nat, (∀ i, i < k → f i = g i) → sumN k f = sumN k g
  | 0, _ => rfl
  | k + 1, h => by show sumN k f + f k = sumN k g + g k; rw [sumN_congr k fun i hi => h i (by omega), h k (by omega)]
theorem sumN_add (f g : Nat → Int) : ∀ k : Nat, sumN k (fun i => f i + g i) = sumN k f + sumN k g
  | 0 => rfl
  | k + 1 => by show sumN k (fun i => f i + g i) + (f k + g k) = (sumN k f + f k) + (sumN k g + g k); rw [sumN_add f g k]; omega
theorem sumN_zero : ∀ k : Nat, sumN k (fun _ => 0) = 0
  | 0 => rfl
  | k + 1 => by show sumN k (fun _ => 0) + 0 = 0; rw [sumN_zero k]; rfl
theorem sumN_none {f : Nat → Int} (k : Nat) (h : ∀ i, i < k → f i = 0) : sumN k f = 0 := by rw [sumN_congr (g := fun _ => 0) k h, sumN_zero]
theorem sumN_mul (c : Int) (g : Nat → Int) : ∀ k : Nat, c * sumN k g = sumN k (fun i => c * g i)
  | 0 => by simp [sumN]
  | k + 1 => by show c * (sumN k g + g k) = sumN k (fun i => c * g i) + c * g k; rw [Int.mul_add, sumN_mul c g k]
theorem sumN_swap (f : Nat → Nat → Int) (b : Nat) : ∀ a : Nat, sumN a (fun i => sumN b (f i)) = sumN b (fun j => sumN a (fun i => f i j))
  | 0 => by simp [sumN, sumN_zero]
  | a + 1 => by
    show sumN a (fun i => sumN b (f i)) + sumN b (f a) = sumN b (fun j => sumN a (fun i => f i j) + f a j)
    rw [sumN_swap f b a, sumN_add]
theorem sumN_mod (p : Int) (v g : Nat → Int) : ∀ k : Nat, sumN k (fun i => v i * (g i % p)) % p = sumN k (fun i => v i * g i) % p
  | 0 => rfl
  | k + 1 => by
    show (sumN k (fun i => v i * (g i % p)) + v k * (g k % p)) % p = (sumN k (fun i => v i * g i) + v k * g k) % p
    rw [Int.add_emod, sumN_mod p v g k, Int.mul_emod, Int.emod_emod, ← Int.mul_emod, ← Int.add_emod]
theorem linS_sum (F v : Nat → Int) (j : Nat) : ∀ k : Nat, linS F v k j = sumN k fun i => v i * F (i * 8 + j)
  | 0 => rfl
  | k + 1 => by show linS F v k j + v k * F (k * 8 + j) = _; rw [linS_sum F v j k]; rfl
theorem timS_sum (p : Int) (n : Nat) (T v w : Nat → Int) (j : Nat) : ∀ k : Nat, timS p n T v w k j = sumN k fun i => v i * (linS (rowT T i) w n j % p)
  | 0 => rfl
  | k + 1 => by show timS p n T v w k j + v k * (linS (rowT T k) w n j % p) = _; rw [timS_sum p n T v w j k]; rfl

theorem sum_bound {f : Nat → Int} (k : Nat) (h : ∀ i, i < k → 0 ≤ f i ∧ f i ≤ 65025) : 0 ≤ sumN k f ∧ sumN k f ≤ 65025 * k := by
  induction k with
  | zero => simp [sumN]
  | succ k ih =>
    have := ih fun i hi => h i (by omega)
    have h2 := h k (by omega)
    show 0 ≤ sumN k f + f k ∧ sumN k f + f k ≤ 65025 * ((k + 1 : Nat) : Int)
    omega

theorem sumN_cut {f : Nat → Int} {n : Nat} : ∀ k : Nat, n ≤ k → (∀ i, n ≤ i → i < k → f i = 0) → sumN k f = sumN n f
  | 0, h, _ => by obtain rfl : n = 0 := by omega
                  rfl
  | k + 1, h, hz => by
    rcases Nat.lt_or_ge n (k + 1) with h' | h'
    · show sumN k f + f k = _
      rw [sumN_cut k (by omega) fun i h1 h2 => hz i h1 (by omega), hz k (by omega) (by omega)]
      simp
    · obtain rfl : n = k + 1 := by omega
      rfl

/-- the left table of v -/
def leftT (p : Int) (T v : Nat → Int) : Nat → Int := fun q => rightF p T v (q / 8) (q % 8)
def prodF (p : Int) (T v w : Nat → Int) : Nat → Int := fun m => linS (leftT p T v) w 8 m % p

theorem prod_eq {p : Int} {n : Nat} {U T v w : Nat → Int} (hV : Valid p n U T) (hv : ∀ i, n ≤ i → i < 8 → v i = 0) (hw : ∀ i, n ≤ i → i < 8 → w i = 0) {m : Nat} (hm : m < 8) : timS p n T v w n m % p = prodF p T v w m := by
  have hn := hV.hn
  unfold prodF
  rw [linS_cut 8 hn hw, timS_sum, linS_sum, sumN_mod]
  have e : sumN n (fun j => w j * leftT p T v (j * 8 + m)) % p = sumN n (fun j => w j * linS (rowT (flipF T) j) v n m) % p := by
    rw [← sumN_mod p w fun j => linS (rowT (flipF T) j) v n m]
    congr 1
    refine sumN_congr n fun j hj => ?_
    unfold leftT rightF
    rw [show (j * 8 + m) / 8 = j by omega, show (j * 8 + m) % 8 = m by omega, linS_cut 8 hn hv]
  rw [e]
  congr 1
  have l : sumN n (fun i => v i * linS (rowT T i) w n m) = sumN n (fun i => sumN n fun j => v i * (w j * vecT T i j m)) := sumN_congr n fun i hi => by
    rw [linS_sum, sumN_mul]
    refine sumN_congr n fun j hj => ?_
    rw [show rowT T i (j * 8 + m) = vecT T i j m by unfold rowT vecT; congr 1; omega]
  have r : sumN n (fun j => w j * linS (rowT (flipF T) j) v n m) = sumN n (fun j => sumN n fun i => v i * (w j * vecT T i j m)) := sumN_congr n fun j hj => by
    rw [linS_sum, sumN_mul]
    refine sumN_congr n fun i hi => ?_
    rw [show rowT (flipF T) j (i * 8 + m) = vecT T i j m by unfold rowT flipF vecT; congr 1; omega, ← Int.mul_assoc, Int.mul_comm (w j), Int.mul_assoc]
  rw [l, r, sumN_swap]

/-- all vectors of a list -/
def vectorsB (p n : Int) (len : Nat) (V : Nat → Int) : Bool := (List.range len).all fun i => entriesB p n (partF V 8 i)
theorem vectorsB_no {p n : Int} {len i : Nat} {V : Nat → Int} (hi : i < len) (h : entriesB p n (partF V 8 i) = false) : vectorsB p n len V = false := by
  cases hb : vectorsB p n len V with
  | false => rfl
  | true => have := List.all_eq_true.1 hb i (List.mem_range.2 hi); rw [h] at this; cases this
theorem vectorsB_yes {p n : Int} {len : Nat} {V : Nat → Int} (h : ∀ i, i < len → entriesB p n (partF V 8 i) = true) : vectorsB p n len V = true := List.all_eq_true.2 fun i hi => h i (List.mem_range.1 hi)

theorem areVectors_s (p n : Int) (len : Nat) (V : Nat → Int) (hlen : len ≤ 1000) (hfn : fieldB p n = true) (hV : isU8 (len * 8) V) :
    Spec Try.prog 41 [.int .i64 p, .int .i64 n, .sl 0 0 len len] [some (.ints .u8 (len * 8) V, len * 8)] (fun r m => r = .bool (vectorsB p n len V) ∧ m = [some (.ints .u8 (len * 8) V, len * 8)]) := by
  refine Spec.cut (Nat.le_refl _) (by simp [SV.ids]) (fun id u c hb => by cases id <;> cases hb; simp [SV.ids]) (Spec.of_vc tabOK tabEq Try.func41 rfl (by kernel_rfl) rfl rfl ?_)
  refine LoopVC.of (fun i : Nat => i ≤ len ∧ ∀ j, j < i → entriesB p n (partF V 8 j) = true) (fun i => [(0, .int .i64 p), (1, .int .i64 n), (9, .sl 0 0 len len), (10, .int .i64 len), (11, .int .i64 i)]) (fun _ => [some (.ints .u8 (len * 8) V, len * 8)]) (fun i => len - i) 0 ⟨by omega, fun j hj => by omega⟩ ?_ ?_ ?_
  · exact And.intro rfl (And.intro rfl (And.intro rfl (And.intro rfl (And.intro rfl trivial))))
  · exact And.intro (And.intro (rowEq fun _ _ => rfl) rfl) trivial
  · rintro i ⟨hi, hall⟩
    refine ifVC_split (fun h => ?_) (fun h => ?_)
    · have hlt := of_decide_eq_true h
      have hidx : (i : Int).toNat = i := by omega
      have hvec : ∀ j, j < 8 → updR (fun _ => 0) 0 8 (fun j => V (j + ((i : Int).toNat * 8 + 0))) (j + 0) = partF V 8 i j := fun j hj => by
        rw [hidx]; simp [updR, hj, partF]
      refine And.intro ⟨by omega, by omega⟩ ?_
      refine And.intro (by omega) ?_
      refine And.intro (by omega) ?_
      refine And.intro (by omega) ?_
      refine And.intro trivial (Spec.mono (implIsVector_s p n _ (fun j hj => by rw [hvec j hj]; exact hV _ (by omega))) ?_)
      rintro r m ⟨rfl, rfl⟩
      have he : vectorB p n (fun j => updR (fun _ => 0) 0 8 (fun j => V (j + ((i : Int).toNat * 8 + 0))) (j + 0)) = entriesB p n (partF V 8 i) := by
        rw [vectorB, hfn, Bool.true_and]; exact entriesB_congr hvec
      refine ifVC_split (fun hv => ?_) (fun hv => ?_)
      · have hv : entriesB p n (partF V 8 i) = false := by rw [← he]; simpa using hv
        exact And.intro (boolEq (by rw [vectorsB_no (i := i) (by omega) hv])) (And.intro (And.intro (rowEq fun _ _ => rfl) rfl) trivial)
      · have hv : entriesB p n (partF V 8 i) = true := by rw [← he]; simpa using hv
        refine Exists.intro (i + 1) (And.intro ⟨by omega, fun j hj => ?_⟩ (And.intro (by omega) (And.intro ?_ ?_)))
        · by_cases hji : j = i
          · subst hji; exact hv
          · exact hall j (by omega)
        · exact And.intro rfl (And.intro rfl (And.intro rfl (And.intro rfl (And.intro (slotI (wrapS (by omega))) trivial))))
        · exact And.intro (And.intro (rowEq fun _ _ => rfl) rfl) trivial
    · have hge := of_decide_eq_false h
      exact And.intro (boolEq (by rw [vectorsB_yes fun j hj => hall j (by omega)])) (And.intro (And.intro (rowEq fun _ _ => rfl) rfl) trivial)

theorem sumOfMaps_s (p : Int) (T v : Nat → Int) (hp : 0 < p ∧ p < 256) (hT : isU8 512 T) (hv : isU8 8 v) :
    Spec Try.prog 77 [.int .i64 p, .ints .u8 512 T, .ints .u8 8 v] [] (Ret (.ints .u8 64 (leftT p T v))) := by
  refine Spec.ret rfl (Spec.of_vc tabOK tabEq Try.func77 rfl (by kernel_rfl) rfl rfl ?_)
  (repeat (first | refine And.intro (by omega) ?_ | refine And.intro ⟨by omega, by omega⟩ ?_))
  refine And.intro trivial (Spec.mono (flipTable_s _) ?_)
  rintro r m ⟨rfl, rfl⟩
  refine LoopVC.of (fun i : Nat => i ≤ 8) (fun i => [(0, .int .i64 p), (5, .ptr 1 [] 0 0), (6, .ptr 2 [] 0 0), (7, .ptr 3 [] 0 0), (11, .ints .u8 512 (flipF T)), (12, .int .i64 i)])
    (fun i => [none, some (.ints .u8 8 v, 8), some (.ints .u8 64 fun _ => 0, 64), some (.ints .u8 64 fun q => if q < i * 8 then leftT p T v q else 0, 64)]) (fun i => 8 - i) 0 (by omega) ?_ ?_ ?_
  · exact And.intro rfl (And.intro rfl (And.intro rfl (And.intro rfl (And.intro (rowEq fun _ _ => rfl) (And.intro rfl trivial)))))
  · exact And.intro (And.intro (rowEq fun _ _ => rfl) rfl) (And.intro (And.intro (rowEq fun _ _ => rfl) rfl) (And.intro (And.intro (rowEq fun _ _ => by simp) rfl) trivial))
  · intro i hi
    refine ifVC_split (fun h => ?_) (fun h => ?_)
    · have hlt := of_decide_eq_true h
      have hidx : (i : Int).toNat = i := by omega
      (repeat (first | refine And.intro (by omega) ?_ | refine And.intro ⟨by omega, by omega⟩ ?_))
      have hrow : ∀ q, q < 64 → updR (fun _ => 0) 0 64 (fun j => flipF T (j + (i : Int).toNat * 64)) (q + 0) = rowT (flipF T) i q := fun q hq => by rw [hidx]; simp [updR, hq, rowT]
      refine And.intro trivial (Spec.mono (apply_s p _ _ hp (fun q hq => by rw [hrow q hq]; exact hT _ (by omega)) (fun q hq => hv _ (by omega))) ?_)
      rintro r m ⟨rfl, rfl⟩
      (repeat (first | refine And.intro (by omega) ?_ | refine And.intro ⟨by omega, by omega⟩ ?_))
      refine Exists.intro (i + 1) (And.intro (by omega) (And.intro (by omega) (And.intro (And.intro rfl (And.intro rfl (And.intro rfl (And.intro rfl (And.intro (rowEq fun _ _ => rfl) (And.intro (slotI (wrapS (by omega))) trivial)))))) ?_)))
      refine And.intro (And.intro (rowEq fun _ _ => rfl) rfl) (And.intro (And.intro (rowEq fun _ _ => rfl) rfl) (And.intro (And.intro (rowEq fun q hq => ?_) rfl) trivial))
      show updR _ ((i : Int).toNat * 8 + 0) 8 (fun j => linS (fun q => updR (fun _ => 0) 0 64 (fun j => flipF T (j + (i : Int).toNat * 64)) (q + 0)) v 8 j % p) q = if q < (i + 1) * 8 then leftT p T v q else 0
      have hlin : ∀ j, j < 8 → linS (fun q => updR (fun _ => 0) 0 64 (fun j => flipF T (j + (i : Int).toNat * 64)) (q + 0)) v 8 j % p = rightF p T v i j := fun j hj => by
        unfold rightF
        rw [linS_congr (G := rowT (flipF T) i) (v' := v) 8 fun a ha => by rw [hrow _ (by omega)]]
      unfold updR at hlin ⊢
      rw [hidx] at hlin ⊢
      dsimp only at hlin ⊢
      by_cases h1 : i * 8 + 0 ≤ q ∧ q < i * 8 + 0 + 8
      · rw [if_pos h1, hlin _ (by omega), if_pos (by omega)]
        unfold leftT
        congr 1 <;> omega
      · rw [if_neg h1]
        by_cases h2 : q < i * 8
        · rw [if_pos h2, if_pos (by omega)]
        · rw [if_neg h2, if_neg (by omega)]
    · have hge := of_decide_eq_false h
      obtain rfl : i = 8 := by omega
      (repeat (first | refine And.intro (by omega) ?_ | refine And.intro ⟨by omega, by omega⟩ ?_))
      refine rowEq fun q hq => ?_
      show updR _ 0 64 _ q = leftT p T v q
      simp [updR, hq]

theorem leftT_u8 {p : Int} (hp : 0 < p ∧ p < 256) (T v : Nat → Int) (n : Nat) : isU8 n (leftT p T v) := fun q _ => modB hp

end Go.Proofs.Ytcocapkdpbdmdaa
