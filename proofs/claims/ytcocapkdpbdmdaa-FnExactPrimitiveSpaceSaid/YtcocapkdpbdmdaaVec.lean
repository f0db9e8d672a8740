/- Vectors: the law's copies, and both checks of a vector. -/
import Derived.Test.YtcocapkdpbdmdaaTab
import Derived.Test.YtcocapkdpbdmdaaPrimes
set_option linter.unusedVariables false
set_option linter.unusedSimpArgs false
set_option maxRecDepth 100000
namespace Go.Proofs.Ytcocapkdpbdmdaa
open M

theorem wrapI {x : Int} (h : -9223372036854775808 ≤ x ∧ x ≤ 9223372036854775807) : IntKind.i64.wrap x = x := by
  rw [IntWalk.i64_left]; exact IntWalk.wrap64_in x h
theorem slotI {x y : Int} (h : x = y) : SV.eqv (.int .i64 x) (.int .i64 y) := congrArg (SV.int .i64) h
theorem wrapS {i : Nat} (h : i < 1000000000) : IntKind.i64.wrap ((i : Int) + 1) = ((i + 1 : Nat) : Int) := by
  rw [wrapI (by omega)]; rfl
theorem rowEq {k : IntKind} {n : Nat} {v u : Nat → Int} (h : ∀ j, j < n → v j = u j) : SV.eqv (.ints k n v) (.ints k n u) := ⟨⟨rfl, rfl⟩, h⟩

theorem toVector_s (v : Nat → Int) : Spec Try.prog 9 [.ints .u8 8 v] [] (Ret (.ints .u8 8 v)) := by
  refine Spec.ret rfl (Spec.of_vc tabOK tabEq Try.func9 rfl (by kernel_rfl) rfl rfl ?_)
  refine LoopVC.of (fun i : Nat => i ≤ 8) (fun i => [(1, .ptr 0 [] 0 0), (2, .ptr 1 [] 0 0), (3, .ptr 2 [] 0 0), (4, .int .i64 i)])
    (fun i => [some (.ints .u8 8 v, 8), some (.ints .u8 8 fun _ => 0, 8), some (.ints .u8 8 fun j => if j < i then v j else 0, 8)]) (fun i => 8 - i) 0 (by omega) ?_ ?_ ?_
  · exact And.intro rfl (And.intro rfl (And.intro rfl (And.intro rfl trivial)))
  · exact And.intro (And.intro (rowEq fun _ _ => rfl) rfl) (And.intro (And.intro (rowEq fun _ _ => rfl) rfl) (And.intro (And.intro (rowEq fun _ _ => rfl) rfl) trivial))
  · intro i hi
    refine ifVC_split (fun h => ?_) (fun h => ?_)
    · have hlt := of_decide_eq_true h
      refine And.intro ⟨by omega, by omega⟩ ?_
      refine And.intro (by omega) ?_
      refine And.intro ⟨by omega, by omega⟩ ?_
      refine And.intro (by omega) ?_
      refine Exists.intro (i + 1) (And.intro (by omega) (And.intro (by omega) (And.intro (And.intro rfl (And.intro rfl (And.intro rfl (And.intro (slotI (wrapS (by omega))) trivial)))) ?_)))
      refine And.intro (And.intro (rowEq fun _ _ => rfl) rfl) (And.intro (And.intro (rowEq fun _ _ => rfl) rfl) (And.intro (And.intro (rowEq fun j hj => ?_) rfl) trivial))
      show upd1 _ _ _ j = if j < i + 1 then v j else 0
      unfold upd1
      rw [show ((i : Int).toNat * 1 + 0) = i by omega]
      by_cases h1 : j = i
      · subst h1; simp
      · by_cases h2 : j < i
        · rw [if_neg h1]; show (if j < i then v j else 0) = _; rw [if_pos h2, if_pos (by omega)]
        · rw [if_neg h1]; show (if j < i then v j else 0) = _; rw [if_neg h2, if_neg (by omega)]
    · have hge := of_decide_eq_false h
      obtain rfl : i = 8 := by omega
      refine And.intro (by omega) ?_
      refine And.intro (by omega) ?_
      refine And.intro (by omega) ?_
      refine rowEq fun j hj => ?_
      show updR _ 0 8 _ j = v j
      simp [updR, hj]
def isU8 (n : Nat) (v : Nat → Int) : Prop := ∀ i, i < n → 0 ≤ v i ∧ v i < 256
/-- there are vectors for p and n -/
def fieldB (p n : Int) : Bool := primeB p && (decide (1 ≤ n) && decide (n ≤ 8))
/-- the entry i of a vector for p and n -/
def entryB (p n : Int) (v : Nat → Int) (i : Nat) : Bool := decide (v i < p) && (decide ((i : Int) < n) || v i == 0)
def entriesB (p n : Int) (v : Nat → Int) : Bool := (List.range 8).all (entryB p n v)
def vectorB (p n : Int) (v : Nat → Int) : Bool := fieldB p n && entriesB p n v

theorem entriesB_no {p n : Int} {v : Nat → Int} {i : Nat} (hi : i < 8) (h : entryB p n v i = false) : entriesB p n v = false := by
  cases hb : entriesB p n v with
  | false => rfl
  | true =>
    have := List.all_eq_true.1 hb i (List.mem_range.2 hi)
    rw [h] at this; cases this
theorem entriesB_yes {p n : Int} {v : Nat → Int} (h : ∀ i, i < 8 → entryB p n v i = true) : entriesB p n v = true := List.all_eq_true.2 fun i hi => h i (List.mem_range.1 hi)
theorem boolEq {a b : Bool} (h : a = b) : SV.eqv (.bool a) (.bool b) := congrArg SV.bool h

theorem implIsPrime_s (p : Int) : Spec Try.prog 63 [.int .i64 p] [] (Ret (.bool (primeB p))) :=
  Spec.of_same Try.func63 rfl (by kernel_rfl) rfl fun μ w => implPrime_any p w
theorem l01Prime_s (p : Int) : Spec Try.prog 83 [.int .i64 p] [] (Ret (.bool (primeB p))) :=
  Spec.of_same Try.func83 rfl (by kernel_rfl) rfl fun μ w => specPrime_any p w
theorem l01In_s (n lo hi : Int) : Spec Try.prog 84 [.int .i64 n, .int .i64 lo, .int .i64 hi] [] (Ret (.bool (decide (lo ≤ n) && decide (n ≤ hi)))) :=
  Spec.of_same Try.func84 rfl (by kernel_rfl) rfl fun μ w => l01In_any n lo hi w

theorem isField_s (p n : Int) : Spec Try.prog 40 [.int .i64 p, .int .i64 n] [] (Ret (.bool (fieldB p n))) := by
  refine Spec.ret rfl (Spec.of_vc tabOK tabEq Try.func40 rfl (by kernel_rfl) rfl rfl ?_)
  refine And.intro trivial (Spec.mono (implIsPrime_s p) ?_)
  rintro r m ⟨rfl, rfl⟩
  refine ifVC_split (fun hp => ?_) (fun hp => ?_)
  · refine ifVC_split (fun h1 => ?_) (fun h1 => ?_)
    · exact boolEq (by have := of_decide_eq_true h1; simp only [fieldB, hp, Bool.true_and]; simp; intro _; omega)
    · exact boolEq (by have := of_decide_eq_false h1; simp only [fieldB, hp, Bool.true_and]; simp; intro; omega)
  · exact boolEq (by simp [fieldB, hp])

theorem l01Sizes_s (p n : Int) : Spec Try.prog 62 [.int .i64 p, .int .i64 n] [] (Ret (.bool (fieldB p n))) := by
  refine Spec.ret rfl (Spec.of_vc tabOK tabEq Try.func62 rfl (by kernel_rfl) rfl rfl ?_)
  refine And.intro trivial (Spec.mono (l01Prime_s p) ?_)
  rintro r m ⟨rfl, rfl⟩
  refine ifVC_split (fun hp => ?_) (fun hp => ?_)
  · refine And.intro trivial (Spec.mono (l01In_s n 1 8) ?_)
    rintro r m ⟨rfl, rfl⟩
    exact boolEq (by simp [fieldB, hp])
  · exact boolEq (by simp [fieldB, hp])

theorem implIsVector_s (p n : Int) (v : Nat → Int) (hv : isU8 8 v) : Spec Try.prog 64 [.int .i64 p, .int .i64 n, .ints .u8 8 v] [] (Ret (.bool (vectorB p n v))) := by
  refine Spec.ret rfl (Spec.of_vc tabOK tabEq Try.func64 rfl (by kernel_rfl) rfl rfl ?_)
  refine And.intro trivial (Spec.mono (isField_s p n) ?_)
  rintro r m ⟨rfl, rfl⟩
  refine ifVC_split (fun hf => ?_) (fun hf => ?_)
  · exact boolEq (by unfold vectorB; rw [show fieldB p n = false by simpa using hf]; rfl)
  have hf : fieldB p n = true := by simpa using hf
  refine And.intro (by omega) ?_
  refine LoopVC.of (fun i : Nat => i ≤ 8 ∧ ∀ j, j < i → entryB p n v j = true) (fun i => [(0, .int .i64 p), (1, .int .i64 n), (13, .ints .u8 8 v), (14, .int .i64 i)]) (fun _ => [none]) (fun i => 8 - i) 0 ⟨by omega, fun j hj => by omega⟩ ?_ ?_ ?_
  · exact And.intro rfl (And.intro rfl (And.intro (rowEq fun _ _ => rfl) (And.intro rfl trivial)))
  · exact trivial
  · rintro i ⟨hi, hall⟩
    refine ifVC_split (fun h => ?_) (fun h => ?_)
    · have hlt := of_decide_eq_true h
      refine And.intro ⟨by omega, by omega⟩ ?_
      have hvi := hv i (by omega)
      have hw : IntKind.i64.wrap (v ((i : Int).toNat)) = v i := by rw [Int.toNat_natCast]; exact wrapI (by omega)
      have next : entryB p n v i = true → ∃ x', (x' ≤ 8 ∧ ∀ j, j < x' → entryB p n v j = true) ∧ 8 - x' < 8 - i ∧ x' = i + 1 := fun he => ⟨i + 1, ⟨by omega, fun j hj => by
        by_cases hji : j = i
        · subst hji; exact he
        · exact hall j (by omega)⟩, by omega, rfl⟩
      have step : ∀ (s : Slots) (m : Mem), entryB p n v i = true → eqvO (lk s 0) (.int .i64 p) → eqvO (lk s 1) (.int .i64 n) → eqvO (lk s 13) (.ints .u8 8 v) → eqvO (lk s 14) (.int .i64 (IntKind.i64.wrap ((i : Int) + 1))) → memCut m [none] →
          ∃ x' : Nat, (x' ≤ 8 ∧ ∀ j, j < x' → entryB p n v j = true) ∧ 8 - x' < 8 - i ∧ subL [(0, .int .i64 p), (1, .int .i64 n), (13, .ints .u8 8 v), (14, .int .i64 x')] s ∧ memCut m [none] := fun s m he h0 h1 h13 h14 hm => by
        obtain ⟨x', g1, g2, rfl⟩ := next he
        exact ⟨i + 1, g1, g2, ⟨h0, h1, h13, by rw [wrapS (by omega)] at h14; exact h14, trivial⟩, hm⟩
      refine ifVC_split (fun ha => ?_) (fun ha => ?_)
      · have ha := of_decide_eq_true ha
        rw [hw] at ha
        exact boolEq (by rw [vectorB, entriesB_no (i := i) (by omega) (by simp [entryB]; intro; omega)]; simp)
      · have ha := of_decide_eq_false ha
        rw [hw] at ha
        refine ifVC_split (fun hb => ?_) (fun hb => ?_)
        · have hb := of_decide_eq_true hb
          refine ifVC_split (fun hc => ?_) (fun hc => ?_)
          · have hc : v i ≠ 0 := by simpa using hc
            exact boolEq (by rw [vectorB, entriesB_no (i := i) (by omega) (by simp [entryB, hc]; omega)]; simp)
          · have hc : v i = 0 := by simpa using hc
            exact step _ _ (by simp [entryB, hc]; omega) rfl rfl (rowEq fun _ _ => rfl) rfl trivial
        · have hb := of_decide_eq_false hb
          exact step _ _ (by simp [entryB]; omega) rfl rfl (rowEq fun _ _ => rfl) rfl trivial
    · have hge := of_decide_eq_false h
      obtain rfl : i = 8 := by omega
      exact boolEq (by rw [vectorB, hf, entriesB_yes hall]; rfl)
theorem l01Vector_s (p n : Int) (v : Nat → Int) (hv : isU8 8 v) : Spec Try.prog 46 [.int .i64 p, .int .i64 n, .ints .u8 8 v] [] (Ret (.bool (entriesB p n v))) := by
  refine Spec.ret rfl (Spec.of_vc tabOK tabEq Try.func46 rfl (by kernel_rfl) rfl rfl ?_)
  refine LoopVC.of (fun i : Nat => i ≤ 8 ∧ ∀ j, j < i → entryB p n v j = true) (fun i => [(0, .int .i64 p), (1, .int .i64 n), (5, .ptr 0 [] 0 0), (7, .int .i64 i)]) (fun _ => [some (.ints .u8 8 v, 8)]) (fun i => 8 - i) 0 ⟨by omega, fun j hj => by omega⟩ ?_ ?_ ?_
  · exact And.intro rfl (And.intro rfl (And.intro rfl (And.intro rfl trivial)))
  · exact And.intro (And.intro (rowEq fun _ _ => rfl) rfl) trivial
  · rintro i ⟨hi, hall⟩
    refine ifVC_split (fun h => ?_) (fun h => ?_)
    · have hlt := of_decide_eq_true h
      refine And.intro ⟨by omega, by omega⟩ ?_
      refine And.intro (by omega) ?_
      have hvi := hv i (by omega)
      have hw : IntKind.i64.wrap (v ((i : Int).toNat * 1 + 0)) = v i := by rw [show (i : Int).toNat * 1 + 0 = i by omega]; exact wrapI (by omega)
      have step : ∀ (s : Slots) (m : Mem), entryB p n v i = true → eqvO (lk s 0) (.int .i64 p) → eqvO (lk s 1) (.int .i64 n) → eqvO (lk s 5) (.ptr 0 [] 0 0) → eqvO (lk s 7) (.int .i64 (IntKind.i64.wrap ((i : Int) + 1))) → memCut m [some (.ints .u8 8 v, 8)] →
          ∃ x' : Nat, (x' ≤ 8 ∧ ∀ j, j < x' → entryB p n v j = true) ∧ 8 - x' < 8 - i ∧ subL [(0, .int .i64 p), (1, .int .i64 n), (5, .ptr 0 [] 0 0), (7, .int .i64 x')] s ∧ memCut m [some (.ints .u8 8 v, 8)] := fun s m he h0 h1 h5 h7 hm =>
        ⟨i + 1, ⟨by omega, fun j hj => by
          by_cases hji : j = i
          · subst hji; exact he
          · exact hall j (by omega)⟩, by omega, ⟨h0, h1, h5, by rw [wrapS (by omega)] at h7; exact h7, trivial⟩, hm⟩
      refine ifVC_split (fun ha => ?_) (fun ha => ?_)
      · have ha := of_decide_eq_true ha
        rw [hw] at ha
        exact boolEq (by rw [entriesB_no (i := i) (by omega) (by simp [entryB]; intro; omega)])
      · have ha := of_decide_eq_false ha
        rw [hw] at ha
        refine ifVC_split (fun hb => ?_) (fun hb => ?_)
        · have hb := of_decide_eq_true hb
          refine And.intro ⟨by omega, by omega⟩ ?_
          refine And.intro (by omega) ?_
          refine ifVC_split (fun hc => ?_) (fun hc => ?_)
          · have hc : v i ≠ 0 := by
              have hc : v ((i : Int).toNat * 1 + 0) ≠ 0 := by simpa using hc
              rw [show (i : Int).toNat * 1 + 0 = i by omega] at hc; exact hc
            exact boolEq (by rw [entriesB_no (i := i) (by omega) (by simp [entryB, hc]; omega)])
          · have hc : v i = 0 := by
              have hc : v ((i : Int).toNat * 1 + 0) = 0 := by simpa using hc
              rw [show (i : Int).toNat * 1 + 0 = i by omega] at hc; exact hc
            exact step _ _ (by simp [entryB, hc]; omega) rfl rfl rfl rfl (And.intro (And.intro (rowEq fun _ _ => rfl) rfl) trivial)
        · have hb := of_decide_eq_false hb
          exact step _ _ (by simp [entryB]; omega) rfl rfl rfl rfl (And.intro (And.intro (rowEq fun _ _ => rfl) rfl) trivial)
    · have hge := of_decide_eq_false h
      obtain rfl : i = 8 := by omega
      exact boolEq (by rw [entriesB_yes hall])

end Go.Proofs.Ytcocapkdpbdmdaa
