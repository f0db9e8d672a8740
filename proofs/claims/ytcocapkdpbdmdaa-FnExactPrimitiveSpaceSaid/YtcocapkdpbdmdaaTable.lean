/- The laws' copies of tables, and both checks of linear maps, tables and the form of algebras. -/
import Derived.Test.YtcocapkdpbdmdaaModel
set_option linter.unusedVariables false
set_option linter.unusedSimpArgs false
set_option maxRecDepth 100000
namespace Go.Proofs.Ytcocapkdpbdmdaa
open M

theorem toLinear_s (F : Nat → Int) : Spec Try.prog 52 [.ints .u8 64 F] [] (Ret (.ints .u8 64 F)) := by
  refine Spec.ret rfl (Spec.of_vc tabOK tabEq Try.func52 rfl (by kernel_rfl) rfl rfl ?_)
  refine LoopVC.of (fun i : Nat => i ≤ 8) (fun i => [(1, .ptr 0 [] 0 0), (2, .ptr 1 [] 0 0), (3, .ptr 2 [] 0 0), (4, .int .i64 i)])
    (fun i => [some (.ints .u8 64 F, 64), some (.ints .u8 64 fun _ => 0, 64), some (.ints .u8 64 fun q => if q < i * 8 then F q else 0, 64)]) (fun i => 8 - i) 0 (by omega) ?_ ?_ ?_
  · exact And.intro rfl (And.intro rfl (And.intro rfl (And.intro rfl trivial)))
  · exact And.intro (And.intro (rowEq fun _ _ => rfl) rfl) (And.intro (And.intro (rowEq fun _ _ => rfl) rfl) (And.intro (And.intro (rowEq fun _ _ => by simp) rfl) trivial))
  · intro i hi
    refine ifVC_split (fun h => ?_) (fun h => ?_)
    · have hlt := of_decide_eq_true h
      refine And.intro ⟨by omega, by omega⟩ ?_
      refine And.intro (by omega) ?_
      refine And.intro trivial (Spec.mono (toVector_s _) ?_)
      rintro r m ⟨rfl, rfl⟩
      refine And.intro ⟨by omega, by omega⟩ ?_
      refine And.intro (by omega) ?_
      refine Exists.intro (i + 1) (And.intro (by omega) (And.intro (by omega) (And.intro (And.intro rfl (And.intro rfl (And.intro rfl (And.intro (slotI (wrapS (by omega))) trivial)))) ?_)))
      refine And.intro (And.intro (rowEq fun _ _ => rfl) rfl) (And.intro (And.intro (rowEq fun _ _ => rfl) rfl) (And.intro (And.intro (rowEq fun q hq => ?_) rfl) trivial))
      show updR _ ((i : Int).toNat * 8 + 0) 8 (fun j => F (j + ((i : Int).toNat * 8 + 0))) q = if q < (i + 1) * 8 then F q else 0
      unfold updR
      rw [Int.toNat_natCast]
      dsimp only
      by_cases h1 : i * 8 + 0 ≤ q ∧ q < i * 8 + 0 + 8
      · rw [if_pos h1, if_pos (by omega), show q - (i * 8 + 0) + (i * 8 + 0) = q by omega]
      · rw [if_neg h1]
        by_cases h2 : q < i * 8
        · rw [if_pos h2, if_pos (by omega)]
        · rw [if_neg h2, if_neg (by omega)]
    · have hge := of_decide_eq_false h
      obtain rfl : i = 8 := by omega
      refine And.intro (by omega) ?_
      refine And.intro (by omega) ?_
      refine And.intro (by omega) ?_
      refine rowEq fun q hq => ?_
      show updR _ 0 64 _ q = F q
      simp [updR, hq]

theorem toTable_s (T : Nat → Int) : Spec Try.prog 26 [.ints .u8 512 T] [] (Ret (.ints .u8 512 T)) := by
  refine Spec.ret rfl (Spec.of_vc tabOK tabEq Try.func26 rfl (by kernel_rfl) rfl rfl ?_)
  refine LoopVC.of (fun i : Nat => i ≤ 8) (fun i => [(1, .ptr 0 [] 0 0), (2, .ptr 1 [] 0 0), (3, .ptr 2 [] 0 0), (4, .int .i64 i)])
    (fun i => [some (.ints .u8 512 T, 512), some (.ints .u8 512 fun _ => 0, 512), some (.ints .u8 512 fun q => if q < i * 64 then T q else 0, 512)]) (fun i => 8 - i) 0 (by omega) ?_ ?_ ?_
  · exact And.intro rfl (And.intro rfl (And.intro rfl (And.intro rfl trivial)))
  · exact And.intro (And.intro (rowEq fun _ _ => rfl) rfl) (And.intro (And.intro (rowEq fun _ _ => rfl) rfl) (And.intro (And.intro (rowEq fun _ _ => by simp) rfl) trivial))
  · intro i hi
    refine ifVC_split (fun h => ?_) (fun h => ?_)
    · have hlt := of_decide_eq_true h
      refine And.intro ⟨by omega, by omega⟩ ?_
      refine And.intro (by omega) ?_
      refine And.intro trivial (Spec.mono (toLinear_s _) ?_)
      rintro r m ⟨rfl, rfl⟩
      refine And.intro ⟨by omega, by omega⟩ ?_
      refine And.intro (by omega) ?_
      refine Exists.intro (i + 1) (And.intro (by omega) (And.intro (by omega) (And.intro (And.intro rfl (And.intro rfl (And.intro rfl (And.intro (slotI (wrapS (by omega))) trivial)))) ?_)))
      refine And.intro (And.intro (rowEq fun _ _ => rfl) rfl) (And.intro (And.intro (rowEq fun _ _ => rfl) rfl) (And.intro (And.intro (rowEq fun q hq => ?_) rfl) trivial))
      show updR _ ((i : Int).toNat * 64 + 0) 64 (fun j => T (j + ((i : Int).toNat * 64 + 0))) q = if q < (i + 1) * 64 then T q else 0
      unfold updR
      rw [Int.toNat_natCast]
      dsimp only
      by_cases h1 : i * 64 + 0 ≤ q ∧ q < i * 64 + 0 + 64
      · rw [if_pos h1, if_pos (by omega), show q - (i * 64 + 0) + (i * 64 + 0) = q by omega]
      · rw [if_neg h1]
        by_cases h2 : q < i * 64
        · rw [if_pos h2, if_pos (by omega)]
        · rw [if_neg h2, if_neg (by omega)]
    · have hge := of_decide_eq_false h
      obtain rfl : i = 8 := by omega
      refine And.intro (by omega) ?_
      refine And.intro (by omega) ?_
      refine And.intro (by omega) ?_
      refine rowEq fun q hq => ?_
      show updR _ 0 512 _ q = T q
      simp [updR, hq]

theorem entriesB_congr {p n : Int} {v w : Nat → Int} (h : ∀ j, j < 8 → v j = w j) : entriesB p n v = entriesB p n w := by
  unfold entriesB
  rw [Bool.eq_iff_iff, List.all_eq_true, List.all_eq_true]
  constructor <;> intro hh i hi <;> have := hh i hi <;> have hi := List.mem_range.1 hi <;> simpa [entryB, h i hi] using this
theorem allEq_congr {n : Nat} {v w v' w' : Nat → Int} (h : ∀ j, j < n → v j = v' j) (h' : ∀ j, j < n → w j = w' j) : allEq n v w = allEq n v' w' := by
  unfold allEq
  rw [Bool.eq_iff_iff, List.all_eq_true, List.all_eq_true]
  constructor <;> intro hh i hi <;> have := hh i hi <;> have hi := List.mem_range.1 hi <;> simpa [h i hi, h' i hi] using this

/-- the part i of m numbers of a row -/
def partF (F : Nat → Int) (m i : Nat) : Nat → Int := fun j => F (j + i * m)
/-- the image i of a linear map with images behind f that are 0 -/
def imageB (p f n : Int) (F : Nat → Int) (i : Nat) : Bool := entriesB p n (partF F 8 i) && (decide ((i : Int) < f) || allEq 8 (partF F 8 i) fun _ => 0)
def linB (p f n : Int) (F : Nat → Int) : Bool := (List.range 8).all (imageB p f n F)
def rowB (p n : Int) (T : Nat → Int) (i : Nat) : Bool := linB p n n (partF T 64 i) && (decide ((i : Int) < n) || allEq 64 (partF T 64 i) fun _ => 0)
def tabB (p n : Int) (T : Nat → Int) : Bool := (List.range 8).all (rowB p n T)
theorem all8_no {f : Nat → Bool} {i : Nat} (hi : i < 8) (h : f i = false) : (List.range 8).all f = false := by
  cases hb : (List.range 8).all f with
  | false => rfl
  | true => have := List.all_eq_true.1 hb i (List.mem_range.2 hi); rw [h] at this; cases this
theorem all8_yes {f : Nat → Bool} (h : ∀ i, i < 8 → f i = true) : (List.range 8).all f = true := List.all_eq_true.2 fun i hi => h i (List.mem_range.1 hi)

theorem l01Linear_s (p n : Int) (F : Nat → Int) (hF : isU8 64 F) : Spec Try.prog 94 [.int .i64 p, .int .i64 n, .ints .u8 64 F] [] (Ret (.bool (linB p n n F))) := by
  refine Spec.ret rfl (Spec.of_vc tabOK tabEq Try.func94 rfl (by kernel_rfl) rfl rfl ?_)
  refine LoopVC.of (fun i : Nat => i ≤ 8 ∧ ∀ j, j < i → imageB p n n F j = true) (fun i => [(0, .int .i64 p), (1, .int .i64 n), (5, .ptr 0 [] 0 0), (7, .int .i64 i)]) (fun _ => [some (.ints .u8 64 F, 64)]) (fun i => 8 - i) 0 ⟨by omega, fun j hj => by omega⟩ ?_ ?_ ?_
  · exact And.intro rfl (And.intro rfl (And.intro rfl (And.intro rfl trivial)))
  · exact And.intro (And.intro (rowEq fun _ _ => rfl) rfl) trivial
  · rintro i ⟨hi, hall⟩
    refine ifVC_split (fun h => ?_) (fun h => ?_)
    · have hlt := of_decide_eq_true h
      have hidx : (i : Int).toNat = i := by omega
      have step : imageB p n n F i = true → ∀ (s : Slots) (m : Mem), eqvO (lk s 0) (.int .i64 p) → eqvO (lk s 1) (.int .i64 n) → eqvO (lk s 5) (.ptr 0 [] 0 0) → eqvO (lk s 7) (.int .i64 (IntKind.i64.wrap ((i : Int) + 1))) → memCut m [some (.ints .u8 64 F, 64)] →
          ∃ x' : Nat, (x' ≤ 8 ∧ ∀ j, j < x' → imageB p n n F j = true) ∧ 8 - x' < 8 - i ∧ subL [(0, .int .i64 p), (1, .int .i64 n), (5, .ptr 0 [] 0 0), (7, .int .i64 x')] s ∧ memCut m [some (.ints .u8 64 F, 64)] := fun he s m h0 h1 h5 h7 hm =>
        ⟨i + 1, ⟨by omega, fun j hj => by
          by_cases hji : j = i
          · subst hji; exact he
          · exact hall j (by omega)⟩, by omega, ⟨h0, h1, h5, by rw [wrapS (by omega)] at h7; exact h7, trivial⟩, hm⟩
      refine And.intro ⟨by omega, by omega⟩ ?_
      refine And.intro (by omega) ?_
      refine And.intro trivial (Spec.mono (l01Vector_s p n _ (fun j hj => hF _ (by omega))) ?_)
      rintro r m ⟨rfl, rfl⟩
      have he : entriesB p n (fun j => F (j + ((i : Int).toNat * 8 + 0))) = entriesB p n (partF F 8 i) := by rw [hidx]; rfl
      refine ifVC_split (fun hv => ?_) (fun hv => ?_)
      · have hv : entriesB p n (partF F 8 i) = false := by rw [← he]; simpa using hv
        exact boolEq (by unfold linB; rw [all8_no (i := i) (by omega) (by simp [imageB, hv])])
      · have hv : entriesB p n (partF F 8 i) = true := by rw [← he]; simpa using hv
        refine ifVC_split (fun hb => ?_) (fun hb => ?_)
        · have hb := of_decide_eq_true hb
          refine And.intro ⟨by omega, by omega⟩ ?_
          refine And.intro (by omega) ?_
          have hq : allEq 8 (fun j => F (j + ((i : Int).toNat * 8 + 0))) (fun _ => 0) = allEq 8 (partF F 8 i) (fun _ => 0) := by rw [hidx]; rfl
          refine ifVC_split (fun hc => ?_) (fun hc => ?_)
          · have hc : allEq 8 (partF F 8 i) (fun _ => 0) = false := by rw [← hq]; simpa using hc
            exact boolEq (by unfold linB; rw [all8_no (i := i) (by omega) (by simp [imageB, hc]; intro; omega)])
          · have hc : allEq 8 (partF F 8 i) (fun _ => 0) = true := by rw [← hq]; simpa using hc
            exact step (by simp [imageB, hv, hc]) _ _ rfl rfl rfl rfl (And.intro (And.intro (rowEq fun _ _ => rfl) rfl) trivial)
        · have hb := of_decide_eq_false hb
          exact step (by simp [imageB, hv]; left; omega) _ _ rfl rfl rfl rfl (And.intro (And.intro (rowEq fun _ _ => rfl) rfl) trivial)
    · have hge := of_decide_eq_false h
      obtain rfl : i = 8 := by omega
      exact boolEq (by unfold linB; rw [all8_yes hall])
end Go.Proofs.Ytcocapkdpbdmdaa
