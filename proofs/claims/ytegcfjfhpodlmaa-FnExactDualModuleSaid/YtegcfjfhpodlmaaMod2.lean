/- Modules of a Hopf algebra: the checks of both sides. -/
import Derived.Test.YtegcfjfhpodlmaaMod1
set_option linter.unusedVariables false
set_option linter.unusedSimpArgs false
set_option maxRecDepth 100000
set_option maxHeartbeats 1000000
namespace Go.Proofs.Ytegcfjfhpodlmaa
open M

theorem toLinearA8_s (T : Nat → Int) : Spec Try.prog 24 [.ints .u8 512 T] [] (Ret (.ints .u8 512 T)) := by
  refine Spec.ret rfl (Spec.of_vc tabOK tabEq Try.func24 rfl (by kernel_rfl) rfl rfl ?_)
  refine LoopVC.of (fun i : Nat => i ≤ 8) (fun i => [(1, .ptr 0 [] 0 0), (2, .ptr 1 [] 0 0), (3, .ptr 2 [] 0 0), (4, .int .i64 i)])
    (fun i => [some (.ints .u8 512 T, 512), some (.ints .u8 512 fun _ => 0, 512), some (.ints .u8 512 fun q => if q < i * 64 then T q else 0, 512)]) (fun i => 8 - i) 0 (by omega) ?_ ?_ ?_
  · exact And.intro rfl (And.intro rfl (And.intro rfl (And.intro rfl trivial)))
  · exact And.intro (And.intro (rowEq fun _ _ => rfl) rfl) (And.intro (And.intro (rowEq fun _ _ => rfl) rfl) (And.intro (And.intro (rowEq fun _ _ => by simp) rfl) trivial))
  · intro i hi
    refine ifVC_split (fun h => ?_) (fun h => ?_)
    · have hlt := of_decide_eq_true h
      (repeat (first | refine And.intro (by omega) ?_ | refine And.intro ⟨by omega, by omega⟩ ?_))
      refine And.intro trivial (Spec.mono (toLinear_s _) ?_)
      rintro r m ⟨rfl, rfl⟩
      (repeat (first | refine And.intro (by omega) ?_ | refine And.intro ⟨by omega, by omega⟩ ?_))
      refine Exists.intro (i + 1) (And.intro (by omega) (And.intro (by omega) (And.intro (And.intro rfl (And.intro rfl (And.intro rfl (And.intro (slotI (wrapS (by omega))) trivial)))) ?_)))
      refine And.intro (And.intro (rowEq fun _ _ => rfl) rfl) (And.intro (And.intro (rowEq fun _ _ => rfl) rfl) (And.intro (And.intro (rowEq fun q hq => ?_) rfl) trivial))
      show updR _ ((i : Int).toNat * 64 + 0) 64 (fun j => T (j + ((i : Int).toNat * 64 + 0))) q = if q < (i + 1) * 64 then T q else 0
      unfold updR
      rw [Int.toNat_natCast]
      dsimp only
      by_cases h1 : i * 64 + 0 ≤ q ∧ q < i * 64 + 0 + 64
      · rw [if_pos h1, if_pos (by omega), show q - (i * 64 + 0) + (i * 64 + 0) = q by omega]
      · rw [if_neg h1]
        by_cases h2 : q < i * 64
        · rw [if_pos h2, if_pos (by omega)]
        · rw [if_neg h2, if_neg (by omega)]
    · have hge := of_decide_eq_false h
      obtain rfl : i = 8 := by omega
      (repeat (first | refine And.intro (by omega) ?_ | refine And.intro ⟨by omega, by omega⟩ ?_))
      refine rowEq fun q hq => ?_
      show updR _ 0 512 _ q = T q
      simp [updR, hq]
theorem toModule_s (d : Int) (A : Nat → Int) : Spec Try.prog 9 [modV d A] [] (Ret (modV d A)) := by
  refine Spec.ret rfl (Spec.of_vc tabOK tabEq Try.func9 rfl (by kernel_rfl) rfl rfl ?_)
  (repeat (first | refine And.intro (by omega) ?_ | refine And.intro ⟨by omega, by omega⟩ ?_))
  refine And.intro trivial (Spec.mono (toLinearA8_s _) ?_)
  rintro r m ⟨rfl, rfl⟩
  (repeat (first | refine And.intro (by omega) ?_ | refine And.intro ⟨by omega, by omega⟩ ?_))
  exact modE d fun j hj => upd0 hj

/-! ### what a vector makes of a vector -/
theorem l06Act_s (p : Int) (n d : Nat) (U T Z C S A a v : Nat → Int) (hp : 0 < p ∧ p < 256) (hn : n ≤ 8) (hd : d ≤ 8) (hA : isU8 512 A) (ha : isU8 8 a) (hv : isU8 8 v) :
    Spec Try.prog 19 [hopV p n U T Z C S, modV d A, .ints .u8 8 a, .ints .u8 8 v] [] (Ret (.ints .u8 8 fun j => timS p d A a v n j % p)) := by
  refine Spec.ret rfl (Spec.of_vc tabOK tabEq Try.func19 rfl (by kernel_rfl) rfl rfl ?_)
  (repeat (first | refine And.intro (by omega) ?_ | refine And.intro ⟨by omega, by omega⟩ ?_))
  refine LoopVC.of (fun i : Nat => i ≤ n) (fun i => [(4, .ptr 0 [] 0 0), (5, .ptr 1 [] 0 0), (6, .ptr 2 [] 0 0), (7, .ptr 3 [] 0 0), (8, .ptr 4 [] 0 0), (9, .ptr 5 [] 0 0), (10, .int .i64 i)])
    (fun i => [some (hopV p n U T Z C S, 1106), some (modV d A, 513), some (.ints .u8 8 a, 8), some (.ints .u8 8 v, 8), some (.ints .u8 8 fun _ => 0, 8), some (.ints .u8 8 fun j => timS p d A a v i j % p, 8)]) (fun i => n - i) 0 (by omega) ?_ ?_ ?_
  · exact (And.intro rfl (And.intro rfl (And.intro rfl (And.intro rfl (And.intro rfl (And.intro rfl (And.intro rfl (trivial))))))))
  · exact And.intro (And.intro (hopR p n U T Z C S) rfl) (And.intro (And.intro (modR d A) rfl) (And.intro (And.intro (rowEq fun _ _ => rfl) rfl) (And.intro (And.intro (rowEq fun _ _ => rfl) rfl) (And.intro (And.intro (rowEq fun _ _ => rfl) rfl) (And.intro (And.intro (rowEq fun j hj => by show updR _ 0 8 _ j = _; simp [updR, hj, timS]) rfl) trivial)))))
  · intro i hi
    refine ifVC_split (fun h => ?_) (fun h => ?_)
    · have hlt := of_decide_eq_true h
      (repeat (first | refine And.intro (by omega) ?_ | refine And.intro ⟨by omega, by omega⟩ ?_))
      have hai := ha i (by omega)
      have hidx : (i : Int).toNat * 1 + 0 = i := by omega
      refine ifVC_split (fun hz => ?_) (fun hz => ?_)
      · refine Exists.intro 18 (And.intro (by kernel_rfl) ?_)
        (repeat (first | refine And.intro (by omega) ?_ | refine And.intro ⟨by omega, by omega⟩ ?_))
        refine Exists.intro (.ints .u8 8 fun j => linS (rowT A i) v d j % p) (And.intro (And.intro rfl (And.intro rfl ?_)) ?_)
        · refine Spec.mono (l01Apply_s p d _ _ hp hd (fun j hj => hA _ (by omega)) (fun j hj => hv _ (by omega))) ?_
          rintro r m ⟨rfl, _⟩
          rw [Int.toNat_natCast]
          rfl
        (repeat (first | refine And.intro (by omega) ?_ | refine And.intro ⟨by omega, by omega⟩ ?_))
        refine Exists.intro (.ints .u8 8 fun j => timS p d A a v (i + 1) j % p) (And.intro (And.intro rfl (And.intro rfl ?_)) ?_)
        · refine Spec.mono (l01Add_s p _ _ _ hp (by rw [hidx, wrapI (by omega)]; omega) (fun j _ => modB hp) (fun j _ => modB hp)) ?_
          rintro r m ⟨rfl, _⟩
          refine congrArg (SV.ints .u8 8) (funext fun j => ?_)
          show (timS p d A a v i (j + 0) % p + IntKind.i64.wrap (a ((i : Int).toNat * 1 + 0)) * (linS (rowT A i) v d j % p)) % p = (timS p d A a v i j + a i * (linS (rowT A i) v d j % p)) % p
          rw [hidx, wrapI (by omega), Int.emod_add_emod, Nat.add_zero]
        (repeat (first | refine And.intro (by omega) ?_ | refine And.intro ⟨by omega, by omega⟩ ?_))
        refine Exists.intro (i + 1) (And.intro (by omega) (And.intro (by omega) (And.intro (And.intro rfl (And.intro rfl (And.intro rfl (And.intro rfl (And.intro rfl (And.intro rfl (And.intro (slotI (wrapS (by omega))) trivial))))))) ?_)))
        refine And.intro (And.intro (hopR p n U T Z C S) rfl) (And.intro (And.intro (modR d A) rfl) (And.intro (And.intro (rowEq fun _ _ => rfl) rfl) (And.intro (And.intro (rowEq fun _ _ => rfl) rfl) (And.intro (And.intro (rowEq fun _ _ => rfl) rfl) (And.intro (And.intro (rowEq fun j hj => ?_) rfl) trivial)))))
        show updR _ 0 8 _ j = _
        simp [updR, hj]
      · have hz : a i = 0 := by
          have hz : a ((i : Int).toNat * 1 + 0) = 0 := by simpa using hz
          rw [hidx] at hz; exact hz
        refine Exists.intro (i + 1) (And.intro (by omega) (And.intro (by omega) (And.intro (And.intro rfl (And.intro rfl (And.intro rfl (And.intro rfl (And.intro rfl (And.intro rfl (And.intro (slotI (wrapS (by omega))) trivial))))))) ?_)))
        refine And.intro (And.intro (hopR p n U T Z C S) rfl) (And.intro (And.intro (modR d A) rfl) (And.intro (And.intro (rowEq fun _ _ => rfl) rfl) (And.intro (And.intro (rowEq fun _ _ => rfl) rfl) (And.intro (And.intro (rowEq fun _ _ => rfl) rfl) (And.intro (And.intro (rowEq fun j hj => ?_) rfl) trivial)))))
        show timS p d A a v i j % p = (timS p d A a v i j + a i * (linS (rowT A i) v d j % p)) % p
        rw [hz]; simp
    · have hge := of_decide_eq_false h
      obtain rfl : i = n := by omega
      (repeat (first | refine And.intro (by omega) ?_ | refine And.intro ⟨by omega, by omega⟩ ?_))
      refine rowEq fun j hj => ?_
      show updR _ 0 8 _ j = _
      simp [updR, hj]

/-! ### the program's check of the actions -/
theorem keepsActions_s (p : Int) (n d : Nat) (U T Z C S A : Nat → Int) (hV : HV p n U T Z C S) (hA : isU8 512 A) (hd : d ≤ 8) :
    Spec Try.prog 41 [hopV p n U T Z C S, modV d A] [] (Ret (.bool (keepB p n d U T A))) := by
  have hn := hV.a.hn
  have hp := hV.a.hp
  refine Spec.ret rfl (Spec.of_vc tabOK tabEq Try.func41 rfl (by kernel_rfl) rfl rfl ?_)
  refine LoopVC.of (fun i : Nat => i ≤ n ∧ ∀ i' j, i' < i → j < n → keepIJ p T A i' j = true) (fun i => [(2, .ptr 0 [] 0 0), (3, .ptr 1 [] 0 0), (9, .int .i64 n), (10, .int .i64 i)]) (fun _ => [some (hopV p n U T Z C S, 1106), some (modV d A, 513)]) (fun i => n - i) 0 ⟨by omega, fun i' j h => by omega⟩ ?_ ?_ ?_
  · exact (And.intro rfl (And.intro rfl (And.intro rfl (And.intro rfl (trivial)))))
  · exact And.intro (And.intro (hopR p n U T Z C S) rfl) (And.intro (And.intro (modR d A) rfl) trivial)
  · rintro i ⟨hi, hall⟩
    refine ifVC_split (fun h => ?_) (fun h => ?_)
    · have hlt := of_decide_eq_true h
      have hidx : (i : Int).toNat = i := by omega
      refine LoopVC.of (fun j : Nat => j ≤ n ∧ ∀ j', j' < j → keepIJ p T A i j' = true) (fun j => [(2, .ptr 0 [] 0 0), (3, .ptr 1 [] 0 0), (5, .int .i64 i), (9, .int .i64 n), (10, .int .i64 i), (14, .int .i64 n), (15, .int .i64 j)]) (fun _ => [some (hopV p n U T Z C S, 1106), some (modV d A, 513)]) (fun j => n - j) 0 ⟨by omega, fun j' h => by omega⟩ ?_ ?_ ?_
      · exact (And.intro rfl (And.intro rfl (And.intro rfl (And.intro rfl (And.intro rfl (And.intro rfl (And.intro rfl (trivial))))))))
      · exact And.intro (And.intro (hopR p n U T Z C S) rfl) (And.intro (And.intro (modR d A) rfl) trivial)
      · rintro j ⟨hj, hall'⟩
        refine ifVC_split (fun h' => ?_) (fun h' => ?_)
        · have hlt' := of_decide_eq_true h'
          have hjdx : (j : Int).toNat = j := by omega
          refine Exists.intro 12 (And.intro (by kernel_rfl) ?_)
          (repeat (first | refine And.intro (by omega) ?_ | refine And.intro ⟨by omega, by omega⟩ ?_))
          refine Exists.intro (.ints .u8 64 (leftT p A (vecT T i j))) (And.intro (And.intro rfl (And.intro rfl ?_)) ?_)
          · rw [vec_is T i j hidx hjdx]
            exact Spec.mono (sumOfMaps_s p _ _ hp (fun q hq => hA _ (by omega)) (vecT_u8 hV.hT (by omega) (by omega))) fun r m h => h.1
          (repeat (first | refine And.intro (by omega) ?_ | refine And.intro ⟨by omega, by omega⟩ ?_))
          refine Exists.intro 12 (And.intro (by kernel_rfl) ?_)
          (repeat (first | refine And.intro (by omega) ?_ | refine And.intro ⟨by omega, by omega⟩ ?_))
          refine Exists.intro (.ints .u8 64 (thenF p (partF A 64 i) (partF A 64 j))) (And.intro (And.intro rfl (And.intro rfl ?_)) ?_)
          · rw [row_is A i hidx, row_is A j hjdx]
            exact Spec.mono (applyToAll_s p _ _ hp (part_u8 hA (by omega)) (part_u8 hA (by omega))) fun r m h => h.1
          have he : allEq 64 (fun q => updR (fun _ => 0) 0 64 (leftT p A (vecT T i j)) (q + 0)) (thenF p (partF A 64 i) (partF A 64 j)) = keepIJ p T A i j := allEq_congr (fun q hq => by simp [updR, hq]) fun _ _ => rfl
          refine ifVC_split (fun hc => ?_) (fun hc => ?_)
          · have hc : keepIJ p T A i j = false := by rw [← he]; simpa using hc
            exact boolEq (by unfold keepB; rw [all2_no (i := i) (j := j) (by omega) (by omega) hc]; rfl)
          · have hc : keepIJ p T A i j = true := by rw [← he]; simpa using hc
            refine Exists.intro (j + 1) (And.intro ⟨by omega, fun j' hj' => ?_⟩ (And.intro (by omega) (And.intro (And.intro rfl (And.intro rfl (And.intro rfl (And.intro rfl (And.intro rfl (And.intro rfl (And.intro (slotI (wrapS (by omega))) trivial))))))) (And.intro (And.intro (hopR p n U T Z C S) rfl) (And.intro (And.intro (modR d A) rfl) trivial)))))
            by_cases hjj : j' = j
            · subst hjj; exact hc
            · exact hall' j' (by omega)
        · have hge := of_decide_eq_false h'
          obtain rfl : j = n := by omega
          refine Exists.intro (i + 1) (And.intro ⟨by omega, fun i' j' hi' hj' => ?_⟩ (And.intro (by omega) (And.intro (And.intro rfl (And.intro rfl (And.intro rfl (And.intro (slotI (wrapS (by omega))) trivial)))) (And.intro (And.intro (hopR p j U T Z C S) rfl) (And.intro (And.intro (modR d A) rfl) trivial)))))
          by_cases hii : i' = i
          · subst hii; exact hall' j' hj'
          · exact hall i' j' (by omega) hj'
    · have hge := of_decide_eq_false h
      obtain rfl : i = n := by omega
      refine Exists.intro 11 (And.intro (by kernel_rfl) ?_)
      (repeat (first | refine And.intro (by omega) ?_ | refine And.intro ⟨by omega, by omega⟩ ?_))
      refine Exists.intro (.ints .u8 64 (leftT p A U)) (And.intro (And.intro rfl (And.intro rfl (Spec.mono (sumOfMaps_s p _ _ hp (fun q hq => hA _ (by omega)) (fun q hq => hV.hU _ (by omega))) fun r m h => h.1))) ?_)
      (repeat (first | refine And.intro (by omega) ?_ | refine And.intro ⟨by omega, by omega⟩ ?_))
      refine Exists.intro (.ints .u8 64 (idF d)) (And.intro (And.intro rfl (And.intro rfl (Spec.mono (identity_s d hd) fun r m h => h.1))) ?_)
      refine boolEq ?_
      unfold keepB
      rw [all2_yes hall, Bool.true_and]
end Go.Proofs.Ytegcfjfhpodlmaa
