/- DualModule, on both sides, and the law. -/
import Derived.Test.YtegcfjfhpodlmaaMod8
import Derived.Test.YtegcfjfhpodlmaaMod3b
import Derived.Test.YtegcfjfhpodlmaaHop8
set_option linter.unusedVariables false
set_option linter.unusedSimpArgs false
set_option linter.unusedSectionVars false
set_option maxRecDepth 100000
set_option maxHeartbeats 1000000
namespace Go.Proofs.Ytegcfjfhpodlmaa
open M

/-! ### the dual of a module -/
def dmodF (p : Int) (n : Nat) (S A : Nat → Int) : Nat → Int := fun q => if q / 64 < n then leftT p A (partF S 8 (q / 64)) (q % 8 * 8 + q / 8 % 8) else 0
theorem dualDim_s (p n : Int) (U T Z C S : Nat → Int) (d : Int) (A : Nat → Int) : Spec Try.prog 133 [.pair (hopV p n U T Z C S) (.pair (modV d A) .unit)] [] (Ret (.int .i64 d)) := by
  refine Spec.ret rfl (Spec.of_vc tabOK tabEq Try.func133 rfl (by kernel_rfl) rfl rfl ?_)
  exact slotI rfl
theorem dualAct_s (p n : Int) (U T Z C S : Nat → Int) (d : Int) (A : Nat → Int) (i : Nat) (hp : 0 < p ∧ p < 256) (hS : isU8 64 S) (hA : isU8 512 A) (hi : i < 8) : Spec Try.prog 132 [.pair (hopV p n U T Z C S) (.pair (modV d A) .unit), .int .i64 i] [] (Ret (.ints .u8 64 (flipL (leftT p A (partF S 8 i))))) := by
  have hidx : (i : Int).toNat = i := by omega
  refine Spec.ret rfl (Spec.of_vc tabOK tabEq Try.func132 rfl (by kernel_rfl) rfl rfl ?_)
  refine Exists.intro 12 (And.intro (by kernel_rfl) ?_)
  (repeat (first | refine And.intro (by omega) ?_ | refine And.intro ⟨by omega, by omega⟩ ?_))
  refine Exists.intro (.ints .u8 64 (leftT p A (partF S 8 i))) (And.intro (And.intro rfl (And.intro rfl ?_)) ?_)
  · rw [show (fun j => S (j + ((i : Int).toNat * 8 + 0))) = partF S 8 i by rw [hidx]; rfl]
    exact Spec.mono (sumOfMaps_s p _ _ hp (fun q hq => hA _ (by omega)) (part_u8 hS (by omega))) fun r m h => h.1
  refine And.intro trivial (Spec.mono (flipLinear_s _) ?_)
  rintro r m ⟨rfl, rfl⟩
  (repeat (first | refine And.intro (by omega) ?_ | refine And.intro ⟨by omega, by omega⟩ ?_))
  refine rowEq fun q hq => ?_
  show updR _ 0 64 _ q = _
  simp [updR, hq]
theorem dmod_eq {p : Int} {n d : Nat} {S A : Nat → Int} {q : Nat} (hq : q < 512) : tabOf n (fun i => flipL (leftT p A (partF S 8 i))) q = dmodF p n S A q := by
  unfold tabOf dmodF flipL
  show (if q / 64 < n then leftT p A (partF S 8 (q / 64)) (q % 64 % 8 * 8 + q % 64 / 8) else 0) = _
  rw [show q % 64 % 8 = q % 8 by omega, show q % 64 / 8 = q / 8 % 8 by omega]

/-- what is laid so far: the map i, the column k, the entry j -/
def dmodS (p : Int) (n d : Nat) (S A : Nat → Int) (i k j : Nat) : Nat → Int := fun q => if q / 8 % 8 < d ∧ (q / 64 < i ∧ q % 8 < d ∨ q / 64 = i ∧ (q % 8 < k ∨ q % 8 = k ∧ q / 8 % 8 < j)) then dmodF p n S A q else 0
theorem dmodS_end {p : Int} {n d : Nat} {S A : Nat → Int} (hM : ModP p n d A) (hn : n ≤ 8) {q : Nat} (hq : q < 512) : dmodS p n d S A n 0 0 q = dmodF p n S A q := by
  unfold dmodS
  by_cases h : q / 8 % 8 < d ∧ (q / 64 < n ∧ q % 8 < d ∨ q / 64 = n ∧ (q % 8 < 0 ∨ q % 8 = 0 ∧ q / 8 % 8 < 0))
  · rw [if_pos h]
  · rw [if_neg h]
    unfold dmodF
    by_cases h1 : q / 64 < n
    · rw [if_pos h1, left_zero hM _ (by omega) (by omega)]
    · rw [if_neg h1]

section
variable (p n : Int) (U T Z C S : Nat → Int) (hU : isU8 8 U) (hT : isU8 512 T) (hZ : isU8 8 Z) (hC : isU8 512 C) (hS : isU8 64 S)
include hU hT hZ hC hS
variable (d : Int) (A : Nat → Int) (hA : isU8 512 A)
include hA
theorem hm_spec2 (h : hmB p n U T Z C S d A = true) : ∃ k e : Nat, n = k ∧ d = e ∧ HV p k U T Z C S ∧ primeB p = true ∧ ModP p k e A := by
  unfold hmB at h
  simp only [Bool.and_eq_true] at h
  obtain ⟨k, rfl, hV, hpr⟩ := hop_valid p n U T Z C S hU hT hZ hC hS h.1
  have h2 := h.2
  unfold mdlB at h2
  simp only [Bool.and_eq_true] at h2
  obtain ⟨e, rfl⟩ : ∃ e : Nat, d = e := ⟨d.toNat, by have := (field_bounds h2.1).2; omega⟩
  exact ⟨k, e, rfl, rfl, hV, hpr, mod_of hA h2.1 h2.2.1⟩
def dmodOut (p n : Int) (U T Z C S : Nat → Int) (d : Int) (A : Nat → Int) : SV := .tcons (modV (if hmB p n U T Z C S d A = true then d else 0) fun q => if hmB p n U T Z C S d A = true then dmodF p n.toNat S A q else 0) (.tcons (.int .i64 (if hmB p n U T Z C S d A = true then 0 else 1)) .tnil)

theorem implDualModule_s : Spec Try.prog 10 [hopV p n U T Z C S, modV d A] [] (Ret (dmodOut p n U T Z C S d A)) := by
  refine Spec.ret rfl (Spec.of_vc tabOK tabEq Try.func10 rfl (by kernel_rfl) rfl rfl ?_)
  refine And.intro (And.intro rfl trivial) (Spec.mono (areModules1_s p n U T Z C S hU hT hZ hC hS d A hA) ?_)
  rintro r m ⟨rfl, rfl⟩
  refine ifVC_split (fun h => ?_) (fun h => ?_)
  · have h : hmB p n U T Z C S d A = false := by simpa using h
    exact And.intro (And.intro (slotI (by simp [h])) (And.intro (rowEq fun q _ => by simp [h]) rfl)) (And.intro (slotI (by simp [h])) rfl)
  have h : hmB p n U T Z C S d A = true := by simpa using h
  obtain ⟨n, d, rfl, rfl, hV, hpr, hM⟩ := hm_spec2 p n U T Z C S hU hT hZ hC hS d A hA h
  have hn := hV.a.hn
  refine And.intro trivial (Spec.mono (moduleOfDual_s p n U T Z C S d d A hn (fun i => flipL (leftT p A (partF S 8 i))) (dualDim_s p n U T Z C S d A) (fun i hi => dualAct_s p n U T Z C S d A i hV.a.hp hS hA (by omega))) ?_)
  rintro r m ⟨rfl, rfl⟩
  refine And.intro (And.intro (slotI (by simp [h])) (And.intro (rowEq fun q hq => ?_) rfl)) (And.intro (slotI (by simp [h])) rfl)
  rw [if_pos h, Int.toNat_natCast]
  exact dmod_eq (d := d) hq

theorem specDualModule_s : Spec Try.prog 7 [hopV p n U T Z C S, modV d A] [] (Ret (dmodOut p n U T Z C S d A)) := by
  refine Spec.ret rfl (Spec.of_vc tabOK tabEq Try.func7 rfl (by kernel_rfl) rfl rfl ?_)
  refine And.intro (And.intro rfl trivial) (Spec.mono (l06Code1_s p n U T Z C S hU hT hZ hC hS d A hA) ?_)
  rintro r m ⟨rfl, rfl⟩
  refine ifVC_split (fun h => ?_) (fun h => ?_)
  · have h : hmB p n U T Z C S d A = false := by cases hb : hmB p n U T Z C S d A <;> simp_all
    exact And.intro (And.intro (slotI (by simp [h])) (And.intro (rowEq fun q _ => by simp [h]) rfl)) (And.intro (slotI (by simp [h])) rfl)
  have h : hmB p n U T Z C S d A = true := by cases hb : hmB p n U T Z C S d A <;> simp_all
  obtain ⟨n, d, rfl, rfl, hV, hpr, hM⟩ := hm_spec2 p n U T Z C S hU hT hZ hC hS d A hA h
  have hn := hV.a.hn
  have hp := hV.a.hp
  have hd8 := hM.d8
  have hSz : ∀ i, i < 8 → ∀ k, n ≤ k → k < 8 → partF S 8 i k = 0 := fun i hi k h1 h2 => hV.szero i k hi h2 (.inr h1)
  refine LoopVC.of (fun i : Nat => i ≤ n) (fun i => [(2, .ptr 0 [] 0 0), (3, .ptr 1 [] 0 0), (4, .ptr 2 [] 0 0), (7, .ptr 4 [] 0 0), (8, .int .i64 i)]) (fun i => [some (hopV p n U T Z C S, 1106), some (modV d A, 513), some (modV 0 fun _ => 0, 513), none, some (modV d (dmodS p n d S A i 0 0), 513)]) (fun i => n - i) 0 (by omega) ?_ ?_ ?_
  · exact (And.intro rfl (And.intro rfl (And.intro rfl (And.intro rfl (And.intro rfl (trivial))))))
  · exact And.intro (And.intro (hopR p n U T Z C S) rfl) (And.intro (And.intro (modR d A) rfl) (And.intro (And.intro (modR 0 _) rfl) (And.intro (And.intro (modE d fun q _ => by unfold dmodS; rw [if_neg (by omega)]) rfl) trivial)))
  · intro i hi
    refine ifVC_split (fun h1 => ?_) (fun h1 => ?_)
    · have hlt := of_decide_eq_true h1
      have hidx : (i : Int).toNat = i := by omega
      refine LoopVC.of (fun k : Nat => k ≤ d) (fun k => [(2, .ptr 0 [] 0 0), (3, .ptr 1 [] 0 0), (4, .ptr 2 [] 0 0), (7, .ptr 4 [] 0 0), (8, .int .i64 i), (9, .int .i64 k)]) (fun k => [some (hopV p n U T Z C S, 1106), some (modV d A, 513), some (modV 0 fun _ => 0, 513), none, some (modV d (dmodS p n d S A i k 0), 513)]) (fun k => d - k) 0 (by omega) ?_ ?_ ?_
      · exact (And.intro rfl (And.intro rfl (And.intro rfl (And.intro rfl (And.intro rfl (And.intro rfl (trivial)))))))
      · exact And.intro (And.intro (hopR p n U T Z C S) rfl) (And.intro (And.intro (modR d A) rfl) (And.intro (And.intro (modR 0 _) rfl) (And.intro (And.intro (modR d _) rfl) trivial)))
      · intro k hk
        refine ifVC_split (fun h2 => ?_) (fun h2 => ?_)
        · have hltk := of_decide_eq_true h2
          have hkdx : (k : Int).toNat = k := by omega
          refine Exists.intro 10 (And.intro (by kernel_rfl) ?_)
          (repeat (first | refine And.intro (by omega) ?_ | refine And.intro ⟨by omega, by omega⟩ ?_))
          refine Exists.intro (.ints .u8 8 (unitV k)) (And.intro (And.intro rfl (And.intro rfl ?_)) ?_)
          · have := l01Basis_s (k : Int) (by omega)
            rw [hkdx] at this
            exact Spec.mono this fun r m h => h.1
          refine Exists.intro (.ints .u8 8 fun y => timS p d A (partF S 8 i) (unitV k) n y % p) (And.intro (And.intro rfl (And.intro rfl ?_)) ?_)
          · rw [show (fun j => S (j + ((i : Int).toNat * 8 + 0))) = partF S 8 i by rw [hidx]; rfl]
            exact Spec.mono (l06Act_s p n d U T Z C S A _ _ hp hn hd8 hA (part_u8 hS (by omega)) (unitV_u8 k 8)) fun r m h => h.1
          (repeat (first | refine And.intro (by omega) ?_ | refine And.intro ⟨by omega, by omega⟩ ?_))
          refine LoopVC.of (fun j : Nat => j ≤ d) (fun j => [(2, .ptr 0 [] 0 0), (3, .ptr 1 [] 0 0), (4, .ptr 2 [] 0 0), (7, .ptr 4 [] 0 0), (8, .int .i64 i), (9, .int .i64 k), (10, .ptr 5 [] 0 0), (11, .int .i64 j)]) (fun j => [some (hopV p n U T Z C S, 1106), some (modV d A, 513), some (modV 0 fun _ => 0, 513), none, some (modV d (dmodS p n d S A i k j), 513), some (.ints .u8 8 fun y => timS p d A (partF S 8 i) (unitV k) n y % p, 8)]) (fun j => d - j) 0 (by omega) ?_ ?_ ?_
          · exact (And.intro rfl (And.intro rfl (And.intro rfl (And.intro rfl (And.intro rfl (And.intro rfl (And.intro rfl (And.intro rfl (trivial)))))))))
          · exact And.intro (And.intro (hopR p n U T Z C S) rfl) (And.intro (And.intro (modR d A) rfl) (And.intro (And.intro (modR 0 _) rfl) (And.intro (And.intro (modR d _) rfl) (And.intro (And.intro (rowEq fun y hy => by show updR _ 0 8 _ y = _; simp [updR, hy]) rfl) trivial))))
          · intro j hj
            refine ifVC_split (fun h3 => ?_) (fun h3 => ?_)
            · have hltj := of_decide_eq_true h3
              have hjdx : (j : Int).toNat = j := by omega
              refine Exists.intro 10 (And.intro (by kernel_rfl) ?_)
              (repeat (first | refine And.intro (by omega) ?_ | refine And.intro ⟨by omega, by omega⟩ ?_))
              refine Exists.intro (j + 1) (And.intro (by omega) (And.intro (by omega) (And.intro (And.intro rfl (And.intro rfl (And.intro rfl (And.intro rfl (And.intro rfl (And.intro rfl (And.intro rfl (And.intro (slotI (wrapS (by omega))) trivial)))))))) ?_)))
              refine And.intro (And.intro (hopR p n U T Z C S) rfl) (And.intro (And.intro (modR d A) rfl) (And.intro (And.intro (modR 0 _) rfl) (And.intro (And.intro (modE d fun q hq => ?_) rfl) (And.intro (And.intro (rowEq fun _ _ => rfl) rfl) trivial))))
              show upd1 _ ((k : Int).toNat * 1 + ((j : Int).toNat * 8 + ((i : Int).toNat * 64 + 0))) (timS p d A (partF S 8 i) (unitV k) n ((j : Int).toNat * 1 + 0) % p) q = _
              unfold upd1
              rw [hidx, hkdx, hjdx]
              by_cases h4 : q = k * 1 + (j * 8 + (i * 64 + 0))
              · rw [if_pos h4, act_unit hn hd8 (hSz i (by omega)) (by omega) (by omega)]
                unfold dmodS
                rw [if_pos (by omega)]
                unfold dmodF
                rw [if_pos (by omega), show q / 64 = i by omega, show q % 8 = k by omega, show q / 8 % 8 = j by omega, show j * 1 + 0 = j by omega]
              · rw [if_neg h4]
                unfold dmodS
                by_cases h5 : q / 8 % 8 < d ∧ (q / 64 < i ∧ q % 8 < d ∨ q / 64 = i ∧ (q % 8 < k ∨ q % 8 = k ∧ q / 8 % 8 < j))
                · rw [if_pos h5, if_pos (by omega)]
                · rw [if_neg h5, if_neg (by omega)]
            · have hge := of_decide_eq_false h3
              obtain rfl : j = d := by omega
              refine Exists.intro (k + 1) (And.intro (by omega) (And.intro (by omega) (And.intro (And.intro rfl (And.intro rfl (And.intro rfl (And.intro rfl (And.intro rfl (And.intro (slotI (wrapS (by omega))) trivial)))))) ?_)))
              refine And.intro (And.intro (hopR p n U T Z C S) rfl) (And.intro (And.intro (modR j A) rfl) (And.intro (And.intro (modR 0 _) rfl) (And.intro (And.intro (modE j fun q hq => ?_) rfl) trivial)))
              unfold dmodS
              exact ifC (by omega)
        · have hge := of_decide_eq_false h2
          obtain rfl : k = d := by omega
          refine Exists.intro (i + 1) (And.intro (by omega) (And.intro (by omega) (And.intro (And.intro rfl (And.intro rfl (And.intro rfl (And.intro rfl (And.intro (slotI (wrapS (by omega))) trivial))))) ?_)))
          refine And.intro (And.intro (hopR p n U T Z C S) rfl) (And.intro (And.intro (modR k A) rfl) (And.intro (And.intro (modR 0 _) rfl) (And.intro (And.intro (modE k fun q hq => ?_) rfl) trivial)))
          unfold dmodS
          exact ifC (by omega)
    · have hge := of_decide_eq_false h1
      obtain rfl : i = n := by omega
      refine And.intro (And.intro (slotI (by simp [h])) (And.intro (rowEq fun q hq => ?_) rfl)) (And.intro (slotI (by simp [h])) rfl)
      rw [if_pos h, Int.toNat_natCast]
      exact dmodS_end hM hn hq

theorem lawDualModule_c : Spec Try.prog 3 [hopV p n U T Z C S, modV d A] [] (Ret (.bool true)) := by
  refine Spec.ret rfl (Spec.of_vc tabOK tabEq Try.func3 rfl (by kernel_rfl) rfl rfl ?_)
  refine Exists.intro 10 (And.intro (by kernel_rfl) ?_)
  refine Exists.intro (hopV p n U T Z C S) (And.intro (And.intro rfl (And.intro rfl (Spec.mono (toHopf_s p n U T Z C S) fun r m h => h.1))) ?_)
  refine Exists.intro (modV d A) (And.intro (And.intro rfl (And.intro rfl (Spec.mono (toModule_s d A) fun r m h => h.1))) ?_)
  refine Exists.intro (dmodOut p n U T Z C S d A) (And.intro (And.intro rfl (And.intro rfl (Spec.mono (specDualModule_s p n U T Z C S hU hT hZ hC hS d A hA) fun r m h => h.1))) ?_)
  (repeat (first | refine And.intro (by omega) ?_ | refine And.intro ⟨by omega, by omega⟩ ?_))
  refine Exists.intro 10 (And.intro (by kernel_rfl) ?_)
  refine Exists.intro (hopV p n U T Z C S) (And.intro (And.intro rfl (And.intro rfl (Spec.mono (toHopf_s p n U T Z C S) fun r m h => h.1))) ?_)
  refine Exists.intro (modV d A) (And.intro (And.intro rfl (And.intro rfl (Spec.mono (toModule_s d A) fun r m h => h.1))) ?_)
  refine Exists.intro (dmodOut p n U T Z C S d A) (And.intro (And.intro rfl (And.intro rfl (Spec.mono (implDualModule_s p n U T Z C S hU hT hZ hC hS d A hA) fun r m h => h.1))) ?_)
  (repeat (first | refine And.intro (by omega) ?_ | refine And.intro ⟨by omega, by omega⟩ ?_))
  refine And.intro trivial (Spec.mono (eqModule_s _ _ _ (allEq_self 512 _)) ?_)
  rintro r m ⟨rfl, rfl⟩
  refine ifVC_false (by simp) ?_
  exact boolEq rfl
end
end Go.Proofs.Ytegcfjfhpodlmaa
