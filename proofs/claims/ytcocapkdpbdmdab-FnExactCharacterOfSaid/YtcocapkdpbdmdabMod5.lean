/- CharacterOf, on both sides, and the law. -/
import Derived.Test.YtcocapkdpbdmdabMod4
set_option linter.unusedVariables false
set_option maxRecDepth 100000
set_option maxHeartbeats 1000000
namespace Go.Proofs.Ytcocapkdpbdmdab
open M

theorem trace_cut {p : Int} {n d : Nat} {A : Nat → Int} (h : ModP p n d A) {i : Nat} (hi : i < 8) : traceN p d (partF A 64 i) = traceN p 8 (partF A 64 i) := by
  unfold traceN
  rw [sumN_cut 8 h.d8 fun j h1 h2 => ?_]
  have := h.zero i j j hi h2 h2 (.inr (.inl h1))
  unfold vecT at this
  unfold partF
  rw [← this]
  congr 1
  omega
theorem trace_none {p : Int} {n d : Nat} {A : Nat → Int} (h : ModP p n d A) {i : Nat} (hi : i < 8) (hn : n ≤ i) : traceN p 8 (partF A 64 i) = 0 := by
  unfold traceN
  rw [sumN_none 8 fun j hj => ?_]
  · simp
  have := h.zero i j j hi hj hj (.inl hn)
  unfold vecT at this
  unfold partF
  rw [← this]
  congr 1
  omega
theorem trace_byte {p : Int} (hp : 0 < p ∧ p < 256) (k : Nat) (F : Nat → Int) : 0 ≤ traceN p k F ∧ traceN p k F < 256 := modB hp

section
variable (p n : Int) (U T Z C S : Nat → Int) (hU : isU8 8 U) (hT : isU8 512 T) (hZ : isU8 8 Z) (hC : isU8 512 C) (hS : isU8 64 S)
include hU hT hZ hC hS
variable (d : Int) (A : Nat → Int) (hA : isU8 512 A)
include hA

def charOut (p n : Int) (U T Z C S : Nat → Int) (d : Int) (A : Nat → Int) : SV := .tcons (.ints .u8 8 fun j => if hmB p n U T Z C S d A = true then traceN p 8 (partF A 64 j) else 0) (.tcons (.int .i64 (if hmB p n U T Z C S d A = true then 0 else 1)) .tnil)

theorem implCharacterOf_s : Spec Try.prog 16 [hopV p n U T Z C S, modV d A] [] (Ret (charOut p n U T Z C S d A)) := by
  refine Spec.ret rfl (Spec.of_vc tabOK tabEq Try.func16 rfl (by kernel_rfl) rfl rfl ?_)
  refine And.intro (And.intro rfl trivial) (Spec.mono (areModules1_s p n U T Z C S hU hT hZ hC hS d A hA) ?_)
  rintro r m ⟨rfl, rfl⟩
  refine ifVC_split (fun h => ?_) (fun h => ?_)
  · have h : hmB p n U T Z C S d A = false := by simpa using h
    (repeat (first | refine And.intro (by omega) ?_ | refine And.intro ⟨by omega, by omega⟩ ?_))
    refine And.intro (rowEq fun j hj => ?_) (And.intro (slotI (by simp [h])) rfl)
    show updR _ 0 8 _ j = _
    simp [updR, hj, h]
  have h : hmB p n U T Z C S d A = true := by simpa using h
  obtain ⟨n, d, rfl, rfl, hV, hpr, hM, hmd⟩ := hm_spec p n U T Z C S hU hT hZ hC hS d A hA h
  have hp := hV.a.hp
  (repeat (first | refine And.intro (by omega) ?_ | refine And.intro ⟨by omega, by omega⟩ ?_))
  refine LoopVC.of (fun i : Nat => i ≤ 8) (fun i => [(2, .ptr 0 [] 0 0), (4, .ptr 2 [] 0 0), (6, .ptr 4 [] 0 0), (16, .ints .u8 512 A), (17, .int .i64 i)]) (fun i => [some (hopV p n U T Z C S, 1106), some (modV d A, 513), some (.ints .u8 8 fun _ => 0, 8), none, some (.ints .u8 8 fun j => if j < i then traceN p 8 (partF A 64 j) else 0, 8)]) (fun i => 8 - i) 0 (by omega) ?_ ?_ ?_
  · exact And.intro rfl (And.intro rfl (And.intro rfl (And.intro (rowEq fun _ _ => rfl) (And.intro rfl trivial))))
  · exact And.intro (And.intro (hopR p n U T Z C S) rfl) (And.intro (And.intro (modR d A) rfl) (And.intro (And.intro (rowEq fun _ _ => rfl) rfl) (And.intro (And.intro (rowEq fun j _ => by simp) rfl) trivial)))
  · intro i hi
    refine ifVC_split (fun h1 => ?_) (fun h1 => ?_)
    · have hlt := of_decide_eq_true h1
      have hidx : (i : Int).toNat = i := by omega
      (repeat (first | refine And.intro (by omega) ?_ | refine And.intro ⟨by omega, by omega⟩ ?_))
      have hrow : ∀ q, q < 64 → updR (fun _ => 0) 0 64 (fun j => A (j + (i : Int).toNat * 64)) (q + 0) = partF A 64 i q := fun q hq => by rw [hidx]; simp [updR, hq, partF]
      refine And.intro trivial (Spec.mono (traceOfMap_s p _ hp (fun q hq => by rw [hrow q hq]; exact hA _ (by omega))) ?_)
      rintro r m ⟨rfl, rfl⟩
      (repeat (first | refine And.intro (by omega) ?_ | refine And.intro ⟨by omega, by omega⟩ ?_))
      have htr : traceN p 8 (fun q => updR (fun _ => 0) 0 64 (fun j => A (j + (i : Int).toNat * 64)) (q + 0)) = traceN p 8 (partF A 64 i) := by
        unfold traceN
        exact congrArg (· % p) (sumN_congr 8 fun a ha => hrow _ (by omega))
      refine Exists.intro (i + 1) (And.intro (by omega) (And.intro (by omega) (And.intro (And.intro rfl (And.intro rfl (And.intro rfl (And.intro (rowEq fun _ _ => rfl) (And.intro (slotI (wrapS (by omega))) trivial))))) ?_)))
      refine And.intro (And.intro (hopR p n U T Z C S) rfl) (And.intro (And.intro (modR d A) rfl) (And.intro (And.intro (rowEq fun _ _ => rfl) rfl) (And.intro (And.intro (rowEq fun j hj => ?_) rfl) trivial)))
      show upd1 _ _ _ j = _
      unfold upd1
      rw [htr, wrapB (trace_byte hp 8 _), show ((i : Int).toNat * 1 + 0) = i by omega]
      dsimp only
      by_cases h2 : j = i
      · subst h2; rw [if_pos rfl, if_pos (by omega)]
      · rw [if_neg h2]
        by_cases h3 : j < i
        · rw [if_pos h3, if_pos (by omega)]
        · rw [if_neg h3, if_neg (by omega)]
    · have hge := of_decide_eq_false h1
      obtain rfl : i = 8 := by omega
      (repeat (first | refine And.intro (by omega) ?_ | refine And.intro ⟨by omega, by omega⟩ ?_))
      refine And.intro (rowEq fun j hj => ?_) (And.intro (slotI (by simp [h])) rfl)
      show updR _ 0 8 _ j = _
      simp [updR, hj, h]

theorem specCharacterOf_s : Spec Try.prog 15 [hopV p n U T Z C S, modV d A] [] (Ret (charOut p n U T Z C S d A)) := by
  refine Spec.ret rfl (Spec.of_vc tabOK tabEq Try.func15 rfl (by kernel_rfl) rfl rfl ?_)
  refine And.intro (And.intro rfl trivial) (Spec.mono (l06Code1_s p n U T Z C S hU hT hZ hC hS d A hA) ?_)
  rintro r m ⟨rfl, rfl⟩
  refine ifVC_split (fun h => ?_) (fun h => ?_)
  · have h : hmB p n U T Z C S d A = false := code_bad h
    (repeat (first | refine And.intro (by omega) ?_ | refine And.intro ⟨by omega, by omega⟩ ?_))
    refine And.intro (rowEq fun j hj => ?_) (And.intro (slotI (by simp [h])) rfl)
    show updR _ 0 8 _ j = _
    simp [updR, hj, h]
  have h : hmB p n U T Z C S d A = true := code_ok h
  obtain ⟨n, d, rfl, rfl, hV, hpr, hM, hmd⟩ := hm_spec p n U T Z C S hU hT hZ hC hS d A hA h
  have hp := hV.a.hp
  have hn := hV.a.hn
  (repeat (first | refine And.intro (by omega) ?_ | refine And.intro ⟨by omega, by omega⟩ ?_))
  refine LoopVC.of (fun i : Nat => i ≤ n) (fun i => [(2, .ptr 0 [] 0 0), (3, .ptr 1 [] 0 0), (4, .ptr 2 [] 0 0), (7, .ptr 4 [] 0 0), (8, .int .i64 i)]) (fun i => [some (hopV p n U T Z C S, 1106), some (modV d A, 513), some (.ints .u8 8 fun _ => 0, 8), none, some (.ints .u8 8 fun j => if j < i then traceN p 8 (partF A 64 j) else 0, 8)]) (fun i => n - i) 0 (by omega) ?_ ?_ ?_
  · exact (And.intro rfl (And.intro rfl (And.intro rfl (And.intro rfl (And.intro rfl (trivial))))))
  · exact And.intro (And.intro (hopR p n U T Z C S) rfl) (And.intro (And.intro (modR d A) rfl) (And.intro (And.intro (rowEq fun _ _ => rfl) rfl) (And.intro (And.intro (rowEq fun j hj => by show updR _ 0 8 _ j = _; simp [updR, hj]) rfl) trivial)))
  · intro i hi
    refine ifVC_split (fun h1 => ?_) (fun h1 => ?_)
    · have hlt := of_decide_eq_true h1
      have hidx : (i : Int).toNat = i := by omega
      refine Exists.intro 14 (And.intro (by kernel_rfl) ?_)
      (repeat (first | refine And.intro (by omega) ?_ | refine And.intro ⟨by omega, by omega⟩ ?_))
      refine Exists.intro (.int .i64 (traceN p 8 (partF A 64 i))) (And.intro (And.intro rfl (And.intro rfl ?_)) ?_)
      · rw [row_is A i hidx, ← trace_cut hM (by omega)]
        exact Spec.mono (l01Trace_s p d _ hp hM.d8 (part_u8 hA (by omega))) fun r m h => h.1
      have ht := trace_byte hp 8 (partF A 64 i)
      refine Exists.intro (.int .u8 (traceN p 8 (partF A 64 i))) (And.intro (And.intro rfl (And.intro rfl ?_)) ?_)
      · refine Spec.mono (l01Mod_s p _ hp (by omega)) ?_
        rintro r m ⟨rfl, _⟩
        unfold traceN
        rw [Int.emod_emod]
      (repeat (first | refine And.intro (by omega) ?_ | refine And.intro ⟨by omega, by omega⟩ ?_))
      refine Exists.intro (i + 1) (And.intro (by omega) (And.intro (by omega) (And.intro (And.intro rfl (And.intro rfl (And.intro rfl (And.intro rfl (And.intro (slotI (wrapS (by omega))) trivial))))) ?_)))
      refine And.intro (And.intro (hopR p n U T Z C S) rfl) (And.intro (And.intro (modR d A) rfl) (And.intro (And.intro (rowEq fun _ _ => rfl) rfl) (And.intro (And.intro (rowEq fun j hj => ?_) rfl) trivial)))
      show upd1 _ _ _ j = _
      unfold upd1
      rw [show ((i : Int).toNat * 1 + 0) = i by omega]
      dsimp only
      by_cases h2 : j = i
      · subst h2; rw [if_pos rfl, if_pos (by omega)]
      · rw [if_neg h2]
        by_cases h3 : j < i
        · rw [if_pos h3, if_pos (by omega)]
        · rw [if_neg h3, if_neg (by omega)]
    · have hge := of_decide_eq_false h1
      obtain rfl : i = n := by omega
      (repeat (first | refine And.intro (by omega) ?_ | refine And.intro ⟨by omega, by omega⟩ ?_))
      refine And.intro (rowEq fun j hj => ?_) (And.intro (slotI (by simp [h])) rfl)
      show updR _ 0 8 _ j = _
      simp only [updR, Nat.zero_le, true_and, Nat.zero_add, hj, if_true, Nat.sub_zero]
      rw [if_pos h, Nat.add_zero]
      by_cases h3 : j < i
      · rw [if_pos h3]
      · rw [if_neg h3, trace_none hM hj (by omega)]

theorem lawCharacterOf_c : Spec Try.prog 5 [hopV p n U T Z C S, modV d A] [] (Ret (.bool true)) := by
  refine Spec.ret rfl (Spec.of_vc tabOK tabEq Try.func5 rfl (by kernel_rfl) rfl rfl ?_)
  refine Exists.intro 10 (And.intro (by kernel_rfl) ?_)
  refine Exists.intro (hopV p n U T Z C S) (And.intro (And.intro rfl (And.intro rfl (Spec.mono (toHopf_s p n U T Z C S) fun r m h => h.1))) ?_)
  refine Exists.intro (modV d A) (And.intro (And.intro rfl (And.intro rfl (Spec.mono (toModule_s d A) fun r m h => h.1))) ?_)
  refine Exists.intro (charOut p n U T Z C S d A) (And.intro (And.intro rfl (And.intro rfl (Spec.mono (specCharacterOf_s p n U T Z C S hU hT hZ hC hS d A hA) fun r m h => h.1))) ?_)
  (repeat (first | refine And.intro (by omega) ?_ | refine And.intro ⟨by omega, by omega⟩ ?_))
  refine Exists.intro 10 (And.intro (by kernel_rfl) ?_)
  refine Exists.intro (hopV p n U T Z C S) (And.intro (And.intro rfl (And.intro rfl (Spec.mono (toHopf_s p n U T Z C S) fun r m h => h.1))) ?_)
  refine Exists.intro (modV d A) (And.intro (And.intro rfl (And.intro rfl (Spec.mono (toModule_s d A) fun r m h => h.1))) ?_)
  refine Exists.intro (charOut p n U T Z C S d A) (And.intro (And.intro rfl (And.intro rfl (Spec.mono (implCharacterOf_s p n U T Z C S hU hT hZ hC hS d A hA) fun r m h => h.1))) ?_)
  (repeat (first | refine And.intro (by omega) ?_ | refine And.intro ⟨by omega, by omega⟩ ?_))
  refine And.intro trivial (Spec.mono (eqVector_s _ _) ?_)
  rintro r m ⟨rfl, rfl⟩
  refine ifVC_false ?_ ?_
  · rw [allEq_self]
    rfl
  refine ifVC_false (by simp) ?_
  exact boolEq rfl
end
end Go.Proofs.Ytcocapkdpbdmdab
