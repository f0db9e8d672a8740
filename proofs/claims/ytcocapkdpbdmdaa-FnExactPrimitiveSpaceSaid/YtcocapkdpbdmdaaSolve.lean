/- First places, inverses, and the model's way to solve linear equations: its lists as plain recursion. -/
import Derived.Test.YtcocapkdpbdmdaaProd
import Derived.Test.YtcocapkdpbdmdaaModel
import Derived.Test.YtcocapkdpbdmdaaRed
set_option linter.unusedVariables false
set_option linter.unusedSimpArgs false
set_option maxRecDepth 100000
set_option maxHeartbeats 4000000
namespace Go.Proofs.Ytcocapkdpbdmdaa
open M

/-- the first place with an entry, or 8 -/
def firstAt (v : Nat → Int) : Nat → Nat
  | 0 => 8
  | k + 1 => if v (7 - k) ≠ 0 then 7 - k else firstAt v k
def first8 (v : Nat → Int) : Nat := firstAt v 8
theorem firstAt_spec (v : Nat → Int) : ∀ k, k ≤ 8 → (firstAt v k = 8 ∧ ∀ j, 8 - k ≤ j → j < 8 → v j = 0) ∨ (8 - k ≤ firstAt v k ∧ firstAt v k < 8 ∧ v (firstAt v k) ≠ 0 ∧ ∀ j, 8 - k ≤ j → j < firstAt v k → v j = 0)
  | 0, _ => .inl ⟨rfl, fun j h1 h2 => by omega⟩
  | k + 1, hk => by
    unfold firstAt
    by_cases h : v (7 - k) ≠ 0
    · rw [if_pos h]
      exact .inr ⟨by omega, by omega, h, fun j h1 h2 => by omega⟩
    · have h : v (7 - k) = 0 := Classical.not_not.1 h
      rw [if_neg (fun e => e h)]
      rcases firstAt_spec v k (by omega) with ⟨h1, h2⟩ | ⟨h1, h2, h3, h4⟩
      · refine .inl ⟨h1, fun j h3 h4 => ?_⟩
        by_cases e : j = 7 - k
        · rw [e]; exact h
        · exact h2 j (by omega) h4
      · refine .inr ⟨by omega, h2, h3, fun j h5 h6 => ?_⟩
        by_cases e : j = 7 - k
        · rw [e]; exact h
        · exact h4 j (by omega) h6
theorem first8_spec (v : Nat → Int) : (first8 v = 8 ∧ ∀ j, j < 8 → v j = 0) ∨ (first8 v < 8 ∧ v (first8 v) ≠ 0 ∧ ∀ j, j < first8 v → v j = 0) := by
  rcases firstAt_spec v 8 (Nat.le_refl _) with ⟨h1, h2⟩ | ⟨h1, h2, h3, h4⟩
  · exact .inl ⟨h1, fun j hj => h2 j (by omega) hj⟩
  · exact .inr ⟨h2, h3, fun j hj => h4 j (by omega) hj⟩
theorem first8_is {v : Nat → Int} {k : Nat} (hk : k ≤ 8) (h1 : ∀ j, j < k → v j = 0) (h2 : k < 8 → v k ≠ 0) : first8 v = k := by
  rcases first8_spec v with ⟨h3, h4⟩ | ⟨h3, h4, h5⟩
  · rcases Nat.lt_or_ge k 8 with h | h
    · exact absurd (h4 k h) (h2 h)
    · omega
  · rcases Nat.lt_trichotomy (first8 v) k with h | h | h
    · exact absurd (h1 _ h) h4
    · exact h
    · exact absurd (h5 k h) (h2 (by omega))
theorem first8_congr {v u : Nat → Int} (h : ∀ j, j < 8 → v j = u j) : first8 v = first8 u := by
  rcases first8_spec u with ⟨h3, h4⟩ | ⟨h3, h4, h5⟩
  · exact (first8_is (by omega) (fun j hj => by rw [h j (by omega)]; exact h4 j (by omega)) (fun hh => by omega))
  · exact first8_is (by omega) (fun j hj => by rw [h j (by omega)]; exact h5 j hj) (fun hh => by rw [h _ hh]; exact h4)

theorem l01First_s (v : Nat → Int) : Spec Try.prog 72 [.ints .u8 8 v] [] (Ret (.int .i64 (first8 v))) := by
  refine Spec.ret rfl (Spec.of_vc tabOK tabEq Try.func72 rfl (by kernel_rfl) rfl rfl ?_)
  refine LoopVC.of (fun i : Nat => i ≤ 8 ∧ ∀ j, j < i → v j = 0) (fun i => [(1, .ptr 0 [] 0 0), (3, .int .i64 i)]) (fun _ => [some (.ints .u8 8 v, 8)]) (fun i => 8 - i) 0 ⟨by omega, fun j hj => by omega⟩ ?_ ?_ ?_
  · exact (And.intro rfl (And.intro rfl (trivial)))
  · exact And.intro (And.intro (rowEq fun _ _ => rfl) rfl) trivial
  · rintro i ⟨hi, hall⟩
    refine ifVC_split (fun h1 => ?_) (fun h1 => ?_)
    · have h1 := of_decide_eq_true h1
      (repeat (first | refine And.intro (by omega) ?_ | refine And.intro ⟨by omega, by omega⟩ ?_))
      have hidx : (i : Int).toNat * 1 + 0 = i := by omega
      refine ifVC_split (fun h2 => ?_) (fun h2 => ?_)
      · have h2 : v i = 0 := by
          have h2 : (v ((i : Int).toNat * 1 + 0) == 0) = true := h2
          rw [hidx] at h2; simpa using h2
        refine Exists.intro (i + 1) (And.intro ⟨by omega, fun j hj => ?_⟩ (And.intro (by omega) (And.intro (And.intro rfl (And.intro (slotI (wrapS (by omega))) trivial)) ?_)))
        · by_cases e : j = i
          · rw [e]; exact h2
          · exact hall j (by omega)
        · exact And.intro (And.intro (rowEq fun _ _ => rfl) rfl) trivial
      · have h2 : v i ≠ 0 := by
          have h2 : (v ((i : Int).toNat * 1 + 0) == 0) = false := h2
          rw [hidx] at h2; simpa using h2
        refine slotI ?_
        rw [first8_is (k := i) hi hall fun _ => h2]
    · have h1 := of_decide_eq_false h1
      refine slotI ?_
      rw [first8_is (k := i) hi hall fun h => by omega]

/-- the number with which x has the product 1 -/
def invN (p x : Nat) : Nat := ((List.range p).find? fun y => y * x % p == 1).getD 0
theorem invN_spec {p x : Nat} (hp : primeB (p : Int) = true) (hp2 : 2 ≤ p ∧ p ≤ 31) (hx : 0 < x ∧ x < p) : 0 < invN p x ∧ invN p x < p ∧ invN p x * x % p = 1 ∧ ∀ y, y < invN p x → y * x % p ≠ 1 := by
  obtain ⟨e, he0, hep, he⟩ := invX ⟨p, by omega⟩ hp ⟨x, by omega⟩ hx.1 hx.2
  have hep : e.val < p := hep
  have he : e.val * x % p = 1 := he
  unfold invN
  cases h : (List.range p).find? fun y => y * x % p == 1 with
  | none =>
    have := List.find?_eq_none.1 h e.val (List.mem_range.2 hep)
    simp [he] at this
  | some y =>
    have h1 := List.find?_some h
    have h2 := List.mem_range.1 (List.mem_of_find?_eq_some h)
    have h1 : y * x % p = 1 := by simpa using h1
    refine ⟨?_, h2, h1, fun z hz hzx => ?_⟩
    · rcases Nat.eq_zero_or_pos y with h0 | h0
      · rw [h0] at h1; simp at h1
      · exact h0
    · have hz : z < y := hz
      obtain ⟨l1, l2, h3, h4⟩ := (List.find?_eq_some_iff_append.1 h).2
      have hlen : l1.length = y := by
        have h5 : (List.range p)[l1.length]? = some y := by rw [h3]; simp
        rw [List.getElem?_range] at h5
        · exact Option.some.inj h5
        · have := congrArg List.length h3
          simp at this
          omega
      have : z ∈ l1 := by
        have h5 : (List.range p)[z]? = some z := by rw [List.getElem?_range (by omega)]
        rw [h3, List.getElem?_append_left (by omega)] at h5
        exact List.mem_of_getElem? h5
      have := h4 z this
      simp [hzx] at this

theorem l01Inverse_s (p x : Nat) (hp : primeB (p : Int) = true) (hp2 : 2 ≤ p ∧ p ≤ 31) (hx : 0 < x ∧ x < p) : Spec Try.prog 82 [.int .i64 p, .int .u8 x] [] (Ret (.int .u8 (invN p x))) := by
  obtain ⟨i0, i1, i2, i3⟩ := invN_spec hp hp2 hx
  refine Spec.ret rfl (Spec.of_vc tabOK tabEq Try.func82 rfl (by kernel_rfl) rfl rfl ?_)
  refine LoopVC.of (fun k : Nat => 1 ≤ k ∧ k ≤ invN p x) (fun k => [(0, .int .i64 p), (1, .int .u8 x), (5, .int .i64 k)]) (fun _ => []) (fun k => p - k) 1 ⟨by omega, by omega⟩ ?_ trivial ?_
  · exact (And.intro rfl (And.intro rfl (And.intro rfl (trivial))))
  · rintro k ⟨h0, hk⟩
    have hb : k * x ≤ 31 * 31 := Nat.mul_le_mul (by omega) (by omega)
    have hval : (IntKind.i64.wrap ((k : Int) * IntKind.i64.wrap (x : Int))).tmod (p : Int) = ((k * x % p : Nat) : Int) := by
      rw [wrapI (x := (x : Int)) (by omega), ← Int.natCast_mul, wrapI (by omega)]
      rfl
    refine ifVC_true (decide_eq_true (show (k : Int) < p by omega)) ?_
    (repeat (first | refine And.intro (by omega) ?_ | refine And.intro ⟨by omega, by omega⟩ ?_))
    refine ifVC_split (fun h => ?_) (fun h => ?_)
    · have h : ((IntKind.i64.wrap ((k : Int) * IntKind.i64.wrap (x : Int))).tmod (p : Int) == 1) = true := h
      rw [hval] at h
      have h : ((k * x % p : Nat) : Int) = 1 := by simpa using h
      have hk1 : k = invN p x := by
        rcases Nat.lt_or_ge k (invN p x) with hl | hl
        · exact absurd (by omega) (i3 k hl)
        · omega
      subst hk1
      show SV.int .u8 (IntKind.u8.wrap (invN p x : Int)) = _
      rw [wrapB (by omega)]
    · have h : ((IntKind.i64.wrap ((k : Int) * IntKind.i64.wrap (x : Int))).tmod (p : Int) == 1) = false := h
      rw [hval] at h
      have hne : k ≠ invN p x := by rintro rfl; rw [i2] at h; simp at h
      exact Exists.intro (k + 1) (And.intro ⟨by omega, by omega⟩ (And.intro (by omega) (And.intro (And.intro rfl (And.intro rfl (And.intro (slotI (wrapS (by omega))) trivial))) trivial)))
end Go.Proofs.Ytcocapkdpbdmdaa
