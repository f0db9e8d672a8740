/- Both checks of the form of an algebra. -/
import Derived.Test.YtcocapkdpbdmdaaTable
set_option linter.unusedVariables false
set_option linter.unusedSimpArgs false
set_option maxRecDepth 100000
namespace Go.Proofs.Ytcocapkdpbdmdaa
open M

theorem l01Table_s (p n : Int) (T : Nat → Int) (hT : isU8 512 T) : Spec Try.prog 85 [.int .i64 p, .int .i64 n, .ints .u8 512 T] [] (Ret (.bool (tabB p n T))) := by
  refine Spec.ret rfl (Spec.of_vc tabOK tabEq Try.func85 rfl (by kernel_rfl) rfl rfl ?_)
  refine LoopVC.of (fun i : Nat => i ≤ 8 ∧ ∀ j, j < i → rowB p n T j = true) (fun i => [(0, .int .i64 p), (1, .int .i64 n), (5, .ptr 0 [] 0 0), (7, .int .i64 i)]) (fun _ => [some (.ints .u8 512 T, 512)]) (fun i => 8 - i) 0 ⟨by omega, fun j hj => by omega⟩ ?_ ?_ ?_
  · exact And.intro rfl (And.intro rfl (And.intro rfl (And.intro rfl trivial)))
  · exact And.intro (And.intro (rowEq fun _ _ => rfl) rfl) trivial
  · rintro i ⟨hi, hall⟩
    refine ifVC_split (fun h => ?_) (fun h => ?_)
    · have hlt := of_decide_eq_true h
      have hidx : (i : Int).toNat = i := by omega
      have step : rowB p n T i = true → ∀ (s : Slots) (m : Mem), eqvO (lk s 0) (.int .i64 p) → eqvO (lk s 1) (.int .i64 n) → eqvO (lk s 5) (.ptr 0 [] 0 0) → eqvO (lk s 7) (.int .i64 (IntKind.i64.wrap ((i : Int) + 1))) → memCut m [some (.ints .u8 512 T, 512)] →
          ∃ x' : Nat, (x' ≤ 8 ∧ ∀ j, j < x' → rowB p n T j = true) ∧ 8 - x' < 8 - i ∧ subL [(0, .int .i64 p), (1, .int .i64 n), (5, .ptr 0 [] 0 0), (7, .int .i64 x')] s ∧ memCut m [some (.ints .u8 512 T, 512)] := fun he s m h0 h1 h5 h7 hm =>
        ⟨i + 1, ⟨by omega, fun j hj => by
          by_cases hji : j = i
          · subst hji; exact he
          · exact hall j (by omega)⟩, by omega, ⟨h0, h1, h5, by rw [wrapS (by omega)] at h7; exact h7, trivial⟩, hm⟩
      refine And.intro ⟨by omega, by omega⟩ ?_
      refine And.intro (by omega) ?_
      refine And.intro trivial (Spec.mono (l01Linear_s p n _ (fun j hj => hT _ (by omega))) ?_)
      rintro r m ⟨rfl, rfl⟩
      have he : linB p n n (fun j => T (j + ((i : Int).toNat * 64 + 0))) = linB p n n (partF T 64 i) := by rw [hidx]; rfl
      refine ifVC_split (fun hv => ?_) (fun hv => ?_)
      · have hv : linB p n n (partF T 64 i) = false := by rw [← he]; simpa using hv
        exact boolEq (by unfold tabB; rw [all8_no (i := i) (by omega) (by simp [rowB, hv])])
      · have hv : linB p n n (partF T 64 i) = true := by rw [← he]; simpa using hv
        refine ifVC_split (fun hb => ?_) (fun hb => ?_)
        · have hb := of_decide_eq_true hb
          refine And.intro ⟨by omega, by omega⟩ ?_
          refine And.intro (by omega) ?_
          have hq : allEq 64 (fun j => T (j + ((i : Int).toNat * 64 + 0))) (fun _ => 0) = allEq 64 (partF T 64 i) (fun _ => 0) := by rw [hidx]; rfl
          refine ifVC_split (fun hc => ?_) (fun hc => ?_)
          · have hc : allEq 64 (partF T 64 i) (fun _ => 0) = false := by rw [← hq]; simpa using hc
            exact boolEq (by unfold tabB; rw [all8_no (i := i) (by omega) (by simp [rowB, hc]; intro; omega)])
          · have hc : allEq 64 (partF T 64 i) (fun _ => 0) = true := by rw [← hq]; simpa using hc
            exact step (by simp [rowB, hv, hc]) _ _ rfl rfl rfl rfl (And.intro (And.intro (rowEq fun _ _ => rfl) rfl) trivial)
        · have hb := of_decide_eq_false hb
          exact step (by simp [rowB, hv]; left; omega) _ _ rfl rfl rfl rfl (And.intro (And.intro (rowEq fun _ _ => rfl) rfl) trivial)
    · have hge := of_decide_eq_false h
      obtain rfl : i = 8 := by omega
      exact boolEq (by unfold tabB; rw [all8_yes hall])

theorem linB_congr {p f n : Int} {F G : Nat → Int} (h : ∀ j, j < 64 → F j = G j) : linB p f n F = linB p f n G := by
  have hp : ∀ i, i < 8 → ∀ j, j < 8 → partF F 8 i j = partF G 8 i j := fun i hi j hj => h _ (by omega)
  unfold linB
  rw [Bool.eq_iff_iff, List.all_eq_true, List.all_eq_true]
  constructor <;> intro hh i hi <;> have h1 := hh i hi <;> have hi := List.mem_range.1 hi <;> unfold imageB at *
  · rw [← entriesB_congr (hp i hi), ← allEq_congr (hp i hi) fun _ _ => rfl]; exact h1
  · rw [entriesB_congr (hp i hi), allEq_congr (hp i hi) fun _ _ => rfl]; exact h1

theorem isLinear_s (p f n : Int) (F : Nat → Int) (hfn : fieldB p n = true) (hF : isU8 64 F) : Spec Try.prog 96 [.int .i64 p, .int .i64 f, .int .i64 n, .ints .u8 64 F] [] (Ret (.bool (linB p f n F))) := by
  refine Spec.ret rfl (Spec.of_vc tabOK tabEq Try.func96 rfl (by kernel_rfl) rfl rfl ?_)
  refine And.intro (by omega) ?_
  refine LoopVC.of (fun i : Nat => i ≤ 8 ∧ ∀ j, j < i → imageB p f n F j = true) (fun i => [(0, .int .i64 p), (1, .int .i64 f), (2, .int .i64 n), (11, .ints .u8 64 F), (12, .int .i64 i)]) (fun _ => [none]) (fun i => 8 - i) 0 ⟨by omega, fun j hj => by omega⟩ ?_ ?_ ?_
  · exact And.intro rfl (And.intro rfl (And.intro rfl (And.intro (rowEq fun _ _ => rfl) (And.intro rfl trivial))))
  · exact trivial
  · rintro i ⟨hi, hall⟩
    refine ifVC_split (fun h => ?_) (fun h => ?_)
    · have hlt := of_decide_eq_true h
      have hidx : (i : Int).toNat = i := by omega
      have step : imageB p f n F i = true → ∀ (s : Slots) (m : Mem), eqvO (lk s 0) (.int .i64 p) → eqvO (lk s 1) (.int .i64 f) → eqvO (lk s 2) (.int .i64 n) → eqvO (lk s 11) (.ints .u8 64 F) → eqvO (lk s 12) (.int .i64 (IntKind.i64.wrap ((i : Int) + 1))) → memCut m [none] →
          ∃ x' : Nat, (x' ≤ 8 ∧ ∀ j, j < x' → imageB p f n F j = true) ∧ 8 - x' < 8 - i ∧ subL [(0, .int .i64 p), (1, .int .i64 f), (2, .int .i64 n), (11, .ints .u8 64 F), (12, .int .i64 x')] s ∧ memCut m [none] := fun he s m h0 h1 h2 h11 h12 hm =>
        ⟨i + 1, ⟨by omega, fun j hj => by
          by_cases hji : j = i
          · subst hji; exact he
          · exact hall j (by omega)⟩, by omega, ⟨h0, h1, h2, h11, by rw [wrapS (by omega)] at h12; exact h12, trivial⟩, hm⟩
      have hvec : ∀ j, j < 8 → updR (fun _ => 0) 0 8 (fun j => F (j + (i : Int).toNat * 8)) (j + 0) = partF F 8 i j := fun j hj => by
        rw [hidx]; simp [updR, hj, partF]
      refine And.intro ⟨by omega, by omega⟩ ?_
      refine And.intro (by omega) ?_
      refine And.intro (by omega) ?_
      refine And.intro trivial (Spec.mono (implIsVector_s p n _ (fun j hj => by rw [hvec j hj]; exact hF _ (by omega))) ?_)
      rintro r m ⟨rfl, rfl⟩
      have he : vectorB p n (fun j => updR (fun _ => 0) 0 8 (fun j => F (j + (i : Int).toNat * 8)) (j + 0)) = entriesB p n (partF F 8 i) := by
        rw [vectorB, hfn, Bool.true_and]; exact entriesB_congr hvec
      refine ifVC_split (fun hv => ?_) (fun hv => ?_)
      · have hv : entriesB p n (partF F 8 i) = false := by rw [← he]; simpa using hv
        exact boolEq (by unfold linB; rw [all8_no (i := i) (by omega) (by simp [imageB, hv])])
      · have hv : entriesB p n (partF F 8 i) = true := by rw [← he]; simpa using hv
        refine ifVC_split (fun hb => ?_) (fun hb => ?_)
        · have hb := of_decide_eq_true hb
          refine And.intro (by omega) ?_
          have hq : allEq 8 (fun j => updR (fun _ => 0) 0 8 (fun j => F (j + (i : Int).toNat * 8)) (j + 0)) (fun _ => 0) = allEq 8 (partF F 8 i) (fun _ => 0) := allEq_congr hvec fun _ _ => rfl
          refine ifVC_split (fun hc => ?_) (fun hc => ?_)
          · have hc : allEq 8 (partF F 8 i) (fun _ => 0) = false := by rw [← hq]; simpa using hc
            exact boolEq (by unfold linB; rw [all8_no (i := i) (by omega) (by simp [imageB, hc]; intro; omega)])
          · have hc : allEq 8 (partF F 8 i) (fun _ => 0) = true := by rw [← hq]; simpa using hc
            exact step (by simp [imageB, hv, hc]) _ _ rfl rfl rfl (rowEq fun _ _ => rfl) rfl trivial
        · have hb := of_decide_eq_false hb
          exact step (by simp [imageB, hv]; left; omega) _ _ rfl rfl rfl (rowEq fun _ _ => rfl) rfl trivial
    · have hge := of_decide_eq_false h
      obtain rfl : i = 8 := by omega
      exact boolEq (by unfold linB; rw [all8_yes hall])

/-- where there are no vectors for p and n -/
theorem isLinearNo_s (p f n : Int) (F : Nat → Int) (hfn : fieldB p n = false) (hF : isU8 64 F) : Spec Try.prog 96 [.int .i64 p, .int .i64 f, .int .i64 n, .ints .u8 64 F] [] (Ret (.bool false)) := by
  refine Spec.ret rfl (Spec.of_vc tabOK tabEq Try.func96 rfl (by kernel_rfl) rfl rfl ?_)
  refine And.intro (by omega) ?_
  refine LoopVC.of (fun i : Nat => i = 0) (fun i => [(0, .int .i64 p), (1, .int .i64 f), (2, .int .i64 n), (11, .ints .u8 64 F), (12, .int .i64 i)]) (fun _ => [none]) (fun i => 8 - i) 0 rfl ?_ ?_ ?_
  · exact And.intro rfl (And.intro rfl (And.intro rfl (And.intro (rowEq fun _ _ => rfl) (And.intro rfl trivial))))
  · exact trivial
  · intro i hi0
    refine ifVC_split (fun h => ?_) (fun h => ?_)
    · refine And.intro ⟨by omega, by omega⟩ ?_
      refine And.intro (by omega) ?_
      refine And.intro (by omega) ?_
      refine And.intro trivial (Spec.mono (implIsVector_s p n _ (fun j hj => ?_)) ?_)
      · show 0 ≤ updR (fun _ => 0) 0 8 (fun j => F (j + (i : Int).toNat * 8)) (j + 0) ∧ updR (fun _ => 0) 0 8 (fun j => F (j + (i : Int).toNat * 8)) (j + 0) < 256
        simp only [updR, Nat.add_zero]
        rw [if_pos (by omega)]
        exact hF _ (by omega)
      rintro r m ⟨rfl, rfl⟩
      refine ifVC_split (fun hv => ?_) (fun hv => ?_)
      · rfl
      · exfalso
        have hv : vectorB p n (fun j => updR (fun _ => 0) 0 8 (fun j => F (j + (i : Int).toNat * 8)) (j + 0)) = true := by simpa using hv
        unfold vectorB at hv
        rw [hfn] at hv
        simp at hv
    · have hge := of_decide_eq_false h
      omega

/-- the row i of a table of c linear maps -/
def rowCB (p c n : Int) (T : Nat → Int) (i : Nat) : Bool := linB p n n (partF T 64 i) && (decide ((i : Int) < c) || allEq 64 (partF T 64 i) fun _ => 0)
def tabCB (p c n : Int) (T : Nat → Int) : Bool := (List.range 8).all (rowCB p c n T)

theorem isTableC_s (p c n : Int) (T : Nat → Int) (hfn : fieldB p n = true) (hT : isU8 512 T) : Spec Try.prog 95 [.int .i64 p, .int .i64 c, .int .i64 n, .ints .u8 512 T] [] (Ret (.bool (tabCB p c n T))) := by
  refine Spec.ret rfl (Spec.of_vc tabOK tabEq Try.func95 rfl (by kernel_rfl) rfl rfl ?_)
  refine And.intro (by omega) ?_
  refine LoopVC.of (fun i : Nat => i ≤ 8 ∧ ∀ j, j < i → rowCB p c n T j = true) (fun i => [(0, .int .i64 p), (1, .int .i64 c), (2, .int .i64 n), (11, .ints .u8 512 T), (12, .int .i64 i)]) (fun _ => [none]) (fun i => 8 - i) 0 ⟨by omega, fun j hj => by omega⟩ ?_ ?_ ?_
  · exact And.intro rfl (And.intro rfl (And.intro rfl (And.intro (rowEq fun _ _ => rfl) (And.intro rfl trivial))))
  · exact trivial
  · rintro i ⟨hi, hall⟩
    refine ifVC_split (fun h => ?_) (fun h => ?_)
    · have hlt := of_decide_eq_true h
      have hidx : (i : Int).toNat = i := by omega
      have step : rowCB p c n T i = true → ∀ (s : Slots) (m : Mem), eqvO (lk s 0) (.int .i64 p) → eqvO (lk s 1) (.int .i64 c) → eqvO (lk s 2) (.int .i64 n) → eqvO (lk s 11) (.ints .u8 512 T) → eqvO (lk s 12) (.int .i64 (IntKind.i64.wrap ((i : Int) + 1))) → memCut m [none] →
          ∃ x' : Nat, (x' ≤ 8 ∧ ∀ j, j < x' → rowCB p c n T j = true) ∧ 8 - x' < 8 - i ∧ subL [(0, .int .i64 p), (1, .int .i64 c), (2, .int .i64 n), (11, .ints .u8 512 T), (12, .int .i64 x')] s ∧ memCut m [none] := fun he s m h0 h1 h2 h11 h12 hm =>
        ⟨i + 1, ⟨by omega, fun j hj => by
          by_cases hji : j = i
          · subst hji; exact he
          · exact hall j (by omega)⟩, by omega, ⟨h0, h1, h2, h11, by rw [wrapS (by omega)] at h12; exact h12, trivial⟩, hm⟩
      have hvec : ∀ j, j < 64 → updR (fun _ => 0) 0 64 (fun j => T (j + (i : Int).toNat * 64)) (j + 0) = partF T 64 i j := fun j hj => by
        rw [hidx]; simp [updR, hj, partF]
      refine And.intro ⟨by omega, by omega⟩ ?_
      refine And.intro (by omega) ?_
      refine And.intro (by omega) ?_
      refine And.intro trivial (Spec.mono (isLinear_s p n n _ hfn (fun j hj => by rw [hvec j hj]; exact hT _ (by omega))) ?_)
      rintro r m ⟨rfl, rfl⟩
      have he : linB p n n (fun j => updR (fun _ => 0) 0 64 (fun j => T (j + (i : Int).toNat * 64)) (j + 0)) = linB p n n (partF T 64 i) := linB_congr hvec
      refine ifVC_split (fun hv => ?_) (fun hv => ?_)
      · have hv : linB p n n (partF T 64 i) = false := by rw [← he]; simpa using hv
        exact boolEq (by unfold tabCB; rw [all8_no (i := i) (by omega) (by simp [rowCB, hv])])
      · have hv : linB p n n (partF T 64 i) = true := by rw [← he]; simpa using hv
        refine ifVC_split (fun hb => ?_) (fun hb => ?_)
        · have hb := of_decide_eq_true hb
          refine And.intro (by omega) ?_
          have hq : allEq 64 (fun j => updR (fun _ => 0) 0 64 (fun j => T (j + (i : Int).toNat * 64)) (j + 0)) (fun _ => 0) = allEq 64 (partF T 64 i) (fun _ => 0) := allEq_congr hvec fun _ _ => rfl
          refine ifVC_split (fun hc => ?_) (fun hc => ?_)
          · have hc : allEq 64 (partF T 64 i) (fun _ => 0) = false := by rw [← hq]; simpa using hc
            exact boolEq (by unfold tabCB; rw [all8_no (i := i) (by omega) (by simp [rowCB, hc]; intro; omega)])
          · have hc : allEq 64 (partF T 64 i) (fun _ => 0) = true := by rw [← hq]; simpa using hc
            exact step (by simp [rowCB, hv, hc]) _ _ rfl rfl rfl (rowEq fun _ _ => rfl) rfl trivial
        · have hb := of_decide_eq_false hb
          exact step (by simp [rowCB, hv]; left; omega) _ _ rfl rfl rfl (rowEq fun _ _ => rfl) rfl trivial
    · have hge := of_decide_eq_false h
      obtain rfl : i = 8 := by omega
      exact boolEq (by unfold tabCB; rw [all8_yes hall])

theorem isTable_s (p n : Int) (T : Nat → Int) (hfn : fieldB p n = true) (hT : isU8 512 T) : Spec Try.prog 95 [.int .i64 p, .int .i64 n, .int .i64 n, .ints .u8 512 T] [] (Ret (.bool (tabB p n T))) := isTableC_s p n n T hfn hT
theorem isTableNo_s (p c n : Int) (T : Nat → Int) (hfn : fieldB p n = false) (hT : isU8 512 T) : Spec Try.prog 95 [.int .i64 p, .int .i64 c, .int .i64 n, .ints .u8 512 T] [] (Ret (.bool false)) := by
  refine Spec.ret rfl (Spec.of_vc tabOK tabEq Try.func95 rfl (by kernel_rfl) rfl rfl ?_)
  refine And.intro (by omega) ?_
  refine LoopVC.of (fun i : Nat => i = 0) (fun i => [(0, .int .i64 p), (1, .int .i64 c), (2, .int .i64 n), (11, .ints .u8 512 T), (12, .int .i64 i)]) (fun _ => [none]) (fun i => 8 - i) 0 rfl ?_ ?_ ?_
  · exact And.intro rfl (And.intro rfl (And.intro rfl (And.intro (rowEq fun _ _ => rfl) (And.intro rfl trivial))))
  · exact trivial
  · intro i hi0
    refine ifVC_split (fun h => ?_) (fun h => ?_)
    · refine And.intro ⟨by omega, by omega⟩ ?_
      refine And.intro (by omega) ?_
      refine And.intro (by omega) ?_
      refine And.intro trivial (Spec.mono (isLinearNo_s p n n _ hfn (fun j hj => ?_)) ?_)
      · show 0 ≤ updR (fun _ => 0) 0 64 (fun j => T (j + (i : Int).toNat * 64)) (j + 0) ∧ updR (fun _ => 0) 0 64 (fun j => T (j + (i : Int).toNat * 64)) (j + 0) < 256
        simp only [updR, Nat.add_zero]
        rw [if_pos (by omega)]
        exact hT _ (by omega)
      rintro r m ⟨rfl, rfl⟩
      exact rfl
    · have hge := of_decide_eq_false h
      omega

/-- the form of an algebra -/
def shapeB (p n : Int) (U T : Nat → Int) : Bool := vectorB p n U && tabB p n T

theorem isShaped_s (p n : Int) (U T : Nat → Int) (hU : isU8 8 U) (hT : isU8 512 T) : Spec Try.prog 87 [algV p n U T] [] (Ret (.bool (shapeB p n U T))) := by
  refine Spec.ret rfl (Spec.of_vc tabOK tabEq Try.func87 rfl (by kernel_rfl) rfl rfl ?_)
  refine And.intro (by omega) ?_
  refine And.intro trivial (Spec.mono (implIsVector_s p n _ (fun j hj => hU _ (by omega))) ?_)
  rintro r m ⟨rfl, rfl⟩
  have e : vectorB p n (fun j => U (j + 0)) = vectorB p n U := rfl
  refine ifVC_split (fun hv => ?_) (fun hv => ?_)
  · have hv : vectorB p n U = true := hv
    have hfn : fieldB p n = true := by unfold vectorB at hv; simp at hv; exact hv.1
    refine And.intro (by omega) ?_
    refine And.intro trivial (Spec.mono (isTable_s p n _ hfn (fun j hj => hT _ (by omega))) ?_)
    rintro r m ⟨rfl, rfl⟩
    exact boolEq (by simp [shapeB, hv])
  · have hv : vectorB p n U = false := hv
    exact boolEq (by simp [shapeB, hv])

end Go.Proofs.Ytcocapkdpbdmdaa
