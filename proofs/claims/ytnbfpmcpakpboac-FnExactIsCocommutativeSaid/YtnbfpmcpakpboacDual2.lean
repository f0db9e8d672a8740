/- Dual algebras and coalgebras and cocommutativity, on both sides, and the laws. -/
import Derived.Test.YtnbfpmcpakpboacCoFirst
import Derived.Test.YtnbfpmcpakpboacOpp
set_option linter.unusedVariables false
set_option maxRecDepth 100000
set_option maxHeartbeats 1000000
namespace Go.Proofs.Ytnbfpmcpakpboac
open M

theorem dualCoalgebra_s (p n : Int) (U C : Nat → Int) : Spec Try.prog 59 [algV p n U C] [] (Ret (algV p n U (codF C))) := by
  refine Spec.ret rfl (Spec.of_vc tabOK tabEq Try.func59 rfl (by kernel_rfl) rfl rfl ?_)
  (repeat (first | refine And.intro (by omega) ?_ | refine And.intro ⟨by omega, by omega⟩ ?_))
  have hz : SV.eqv (algV 0 0 (fun _ => 0) fun _ => 0) (algV 0 0 (fun _ => 0) fun _ => 0) := algR _ _ _ _
  refine LoopVC.of (fun i : Nat => i ≤ 8) (fun i => [(2, .ptr 1 [] 0 0), (3, .ptr 2 [] 0 0), (18, .ints .u8 512 C), (19, .int .i64 i)])
    (fun i => [none, some (algV 0 0 (fun _ => 0) (fun _ => 0), 522), some (algV p n U (fun q => if q / 8 % 8 < i then codF C q else 0), 522)]) (fun i => 8 - i) 0 (by omega) ?_ ?_ ?_
  · exact And.intro rfl (And.intro rfl (And.intro (rowEq fun _ _ => rfl) (And.intro rfl trivial)))
  · exact And.intro (And.intro hz rfl) (And.intro (And.intro (And.intro rfl (And.intro rfl (And.intro (rowEq fun _ _ => rfl) (And.intro (rowEq fun q _ => by simp) rfl)))) rfl) trivial)
  · intro i hi
    refine ifVC_split (fun h => ?_) (fun h => ?_)
    · have hlti := of_decide_eq_true h
      have hidx : (i : Int).toNat = i := by omega
      (repeat (first | refine And.intro (by omega) ?_ | refine And.intro ⟨by omega, by omega⟩ ?_))
      refine LoopVC.of (fun j : Nat => j ≤ 8) (fun j => [(2, .ptr 1 [] 0 0), (3, .ptr 2 [] 0 0), (4, .int .i64 i), (18, .ints .u8 512 C), (19, .int .i64 i), (23, .ints .u8 64 fun q => C (q + i * 64)), (24, .int .i64 j)])
        (fun j => [none, some (algV 0 0 (fun _ => 0) (fun _ => 0), 522), some (algV p n U (fun q => if q / 8 % 8 < i ∨ (q / 8 % 8 = i ∧ q % 8 < j) then codF C q else 0), 522), none]) (fun j => 8 - j) 0 (by omega) ?_ ?_ ?_
      · exact And.intro rfl (And.intro rfl (And.intro rfl (And.intro (rowEq fun _ _ => rfl) (And.intro rfl (And.intro (rowEq fun q hq => by show updR _ 0 64 _ (q + 0) = _; simp [updR, hq]) (And.intro rfl trivial))))))
      · exact And.intro (And.intro hz rfl) (And.intro (And.intro (And.intro rfl (And.intro rfl (And.intro (rowEq fun _ _ => rfl) (And.intro (rowEq fun q _ => by simp) rfl)))) rfl) trivial)
      · intro j hj
        refine ifVC_split (fun h => ?_) (fun h => ?_)
        · have hltj := of_decide_eq_true h
          have hjdx : (j : Int).toNat = j := by omega
          (repeat (first | refine And.intro (by omega) ?_ | refine And.intro ⟨by omega, by omega⟩ ?_))
          refine LoopVC.of (fun k : Nat => k ≤ 8) (fun k => [(2, .ptr 1 [] 0 0), (3, .ptr 2 [] 0 0), (4, .int .i64 i), (6, .int .i64 j), (18, .ints .u8 512 C), (19, .int .i64 i), (23, .ints .u8 64 fun q => C (q + i * 64)), (24, .int .i64 j), (28, .ints .u8 8 fun q => C (q + j * 8 + i * 64)), (29, .int .i64 k)])
            (fun k => [none, some (algV 0 0 (fun _ => 0) (fun _ => 0), 522), some (algV p n U (fun q => if q / 8 % 8 < i ∨ (q / 8 % 8 = i ∧ (q % 8 < j ∨ (q % 8 = j ∧ q / 64 < k))) then codF C q else 0), 522), none, none]) (fun k => 8 - k) 0 (by omega) ?_ ?_ ?_
          · exact And.intro rfl (And.intro rfl (And.intro rfl (And.intro rfl (And.intro (rowEq fun _ _ => rfl) (And.intro rfl (And.intro (rowEq fun _ _ => rfl) (And.intro rfl (And.intro (rowEq fun q hq => by show updR _ 0 8 _ (q + 0) = _; simp [updR, hq]) (And.intro rfl trivial)))))))))
          · exact And.intro (And.intro hz rfl) (And.intro (And.intro (And.intro rfl (And.intro rfl (And.intro (rowEq fun _ _ => rfl) (And.intro (rowEq fun q _ => by simp) rfl)))) rfl) trivial)
          · intro k hk
            refine ifVC_split (fun h => ?_) (fun h => ?_)
            · have hltk := of_decide_eq_true h
              have hkdx : (k : Int).toNat = k := by omega
              (repeat (first | refine And.intro (by omega) ?_ | refine And.intro ⟨by omega, by omega⟩ ?_))
              refine Exists.intro (k + 1) (And.intro (by omega) (And.intro (by omega) (And.intro (And.intro rfl (And.intro rfl (And.intro rfl (And.intro rfl (And.intro (rowEq fun _ _ => rfl) (And.intro rfl (And.intro (rowEq fun _ _ => rfl) (And.intro rfl (And.intro (rowEq fun _ _ => rfl) (And.intro (slotI (wrapS (by omega))) trivial)))))))))) ?_)))
              refine And.intro (And.intro hz rfl) (And.intro (And.intro (And.intro rfl (And.intro rfl (And.intro (rowEq fun _ _ => rfl) (And.intro (rowEq fun q hq => ?_) rfl)))) rfl) trivial)
              show upd1 _ ((j : Int).toNat * 1 + ((i : Int).toNat * 8 + ((k : Int).toNat * 64 + 0))) _ q = _
              unfold upd1
              rw [hidx, hjdx, hkdx]
              dsimp only
              by_cases h1 : q = j * 1 + (i * 8 + (k * 64 + 0))
              · rw [if_pos h1, if_pos (by omega)]
                unfold codF
                show C _ = C _
                congr 1
                omega
              · rw [if_neg h1]
                by_cases h2 : q / 8 % 8 < i ∨ (q / 8 % 8 = i ∧ (q % 8 < j ∨ (q % 8 = j ∧ q / 64 < k)))
                · rw [if_pos h2, if_pos (by omega)]
                · rw [if_neg h2, if_neg (by omega)]
            · have hge := of_decide_eq_false h
              obtain rfl : k = 8 := by omega
              refine Exists.intro (j + 1) (And.intro (by omega) (And.intro (by omega) (And.intro (And.intro rfl (And.intro rfl (And.intro rfl (And.intro (rowEq fun _ _ => rfl) (And.intro rfl (And.intro (rowEq fun _ _ => rfl) (And.intro (slotI (wrapS (by omega))) trivial))))))) ?_)))
              refine And.intro (And.intro hz rfl) (And.intro (And.intro (And.intro rfl (And.intro rfl (And.intro (rowEq fun _ _ => rfl) (And.intro (rowEq fun q hq => ?_) rfl)))) rfl) trivial)
              by_cases h2 : q / 8 % 8 < i ∨ (q / 8 % 8 = i ∧ (q % 8 < j ∨ (q % 8 = j ∧ q / 64 < 8)))
              · rw [if_pos h2, if_pos (by omega)]
              · rw [if_neg h2, if_neg (by omega)]
        · have hge := of_decide_eq_false h
          obtain rfl : j = 8 := by omega
          refine Exists.intro (i + 1) (And.intro (by omega) (And.intro (by omega) (And.intro (And.intro rfl (And.intro rfl (And.intro (rowEq fun _ _ => rfl) (And.intro (slotI (wrapS (by omega))) trivial)))) ?_)))
          refine And.intro (And.intro hz rfl) (And.intro (And.intro (And.intro rfl (And.intro rfl (And.intro (rowEq fun _ _ => rfl) (And.intro (rowEq fun q hq => ?_) rfl)))) rfl) trivial)
          by_cases h2 : q / 8 % 8 < i ∨ (q / 8 % 8 = i ∧ q % 8 < 8)
          · rw [if_pos h2, if_pos (by omega)]
          · rw [if_neg h2, if_neg (by omega)]
    · have hge := of_decide_eq_false h
      obtain rfl : i = 8 := by omega
      (repeat (first | refine And.intro (by omega) ?_ | refine And.intro ⟨by omega, by omega⟩ ?_))
      refine And.intro rfl (And.intro rfl (And.intro (rowEq fun _ _ => rfl) (And.intro (rowEq fun q hq => ?_) rfl)))
      rw [if_pos (by omega)]


theorem dual_dual {T : Nat → Int} {q : Nat} (hq : q < 512) : dualF (dualF T) q = codF T q := by
  have key : ∀ a b c : Nat, a < 8 → b < 8 → c < 8 → (a * 64 + b * 8 + c) % 8 = c ∧ (a * 64 + b * 8 + c) / 64 = a ∧ (a * 64 + b * 8 + c) / 8 % 8 = b := fun a b c ha hb hc => by omega
  obtain ⟨k1, k2, k3⟩ := key (q % 8) (q / 64) (q / 8 % 8) (by omega) (by omega) (by omega)
  unfold dualF codF
  rw [k1, k2, k3]

theorem l02Turned_s (T : Nat → Int) : Spec Try.prog 57 [.ints .u8 512 T] [] (Ret (.ints .u8 512 (dualF T))) := by
  refine Spec.ret rfl (Spec.of_vc tabOK tabEq Try.func57 rfl (by kernel_rfl) rfl rfl ?_)
  (repeat (first | refine And.intro (by omega) ?_ | refine And.intro ⟨by omega, by omega⟩ ?_))
  refine LoopVC.of (fun i : Nat => i ≤ 8) (fun i => [(1, .ptr 0 [] 0 0), (2, .ptr 1 [] 0 0), (3, .ptr 2 [] 0 0), (4, .int .i64 i)])
    (fun i => [some (.ints .u8 512 T, 512), some (.ints .u8 512 fun _ => 0, 512), some (.ints .u8 512 fun q => if q % 8 < i then dualF T q else 0, 512)]) (fun i => 8 - i) 0 (by omega) ?_ ?_ ?_
  · exact (And.intro rfl (And.intro rfl (And.intro rfl (And.intro rfl (trivial)))))
  · exact And.intro (And.intro (rowEq fun _ _ => rfl) rfl) (And.intro (And.intro (rowEq fun _ _ => rfl) rfl) (And.intro (And.intro (rowEq fun q hq => by show updR _ 0 512 _ q = _; simp [updR, hq]) rfl) trivial))
  · intro i hi
    refine ifVC_split (fun h => ?_) (fun h => ?_)
    · have hlti := of_decide_eq_true h
      have hidx : (i : Int).toNat = i := by omega
      refine LoopVC.of (fun j : Nat => j ≤ 8) (fun j => [(1, .ptr 0 [] 0 0), (2, .ptr 1 [] 0 0), (3, .ptr 2 [] 0 0), (4, .int .i64 i), (5, .int .i64 j)])
        (fun j => [some (.ints .u8 512 T, 512), some (.ints .u8 512 fun _ => 0, 512), some (.ints .u8 512 fun q => if q % 8 < i ∨ (q % 8 = i ∧ q / 64 < j) then dualF T q else 0, 512)]) (fun j => 8 - j) 0 (by omega) ?_ ?_ ?_
      · exact (And.intro rfl (And.intro rfl (And.intro rfl (And.intro rfl (And.intro rfl (trivial))))))
      · exact And.intro (And.intro (rowEq fun _ _ => rfl) rfl) (And.intro (And.intro (rowEq fun _ _ => rfl) rfl) (And.intro (And.intro (rowEq fun q hq => by simp) rfl) trivial))
      · intro j hj
        refine ifVC_split (fun h => ?_) (fun h => ?_)
        · have hltj := of_decide_eq_true h
          have hjdx : (j : Int).toNat = j := by omega
          refine LoopVC.of (fun k : Nat => k ≤ 8) (fun k => [(1, .ptr 0 [] 0 0), (2, .ptr 1 [] 0 0), (3, .ptr 2 [] 0 0), (4, .int .i64 i), (5, .int .i64 j), (6, .int .i64 k)])
            (fun k => [some (.ints .u8 512 T, 512), some (.ints .u8 512 fun _ => 0, 512), some (.ints .u8 512 fun q => if q % 8 < i ∨ (q % 8 = i ∧ (q / 64 < j ∨ (q / 64 = j ∧ q / 8 % 8 < k))) then dualF T q else 0, 512)]) (fun k => 8 - k) 0 (by omega) ?_ ?_ ?_
          · exact (And.intro rfl (And.intro rfl (And.intro rfl (And.intro rfl (And.intro rfl (And.intro rfl (trivial)))))))
          · exact And.intro (And.intro (rowEq fun _ _ => rfl) rfl) (And.intro (And.intro (rowEq fun _ _ => rfl) rfl) (And.intro (And.intro (rowEq fun q hq => by simp) rfl) trivial))
          · intro k hk
            refine ifVC_split (fun h => ?_) (fun h => ?_)
            · have hltk := of_decide_eq_true h
              have hkdx : (k : Int).toNat = k := by omega
              refine Exists.intro 13 (And.intro (by kernel_rfl) ?_)
              (repeat (first | refine And.intro (by omega) ?_ | refine And.intro ⟨by omega, by omega⟩ ?_))
              refine Exists.intro (k + 1) (And.intro (by omega) (And.intro (by omega) (And.intro (And.intro rfl (And.intro rfl (And.intro rfl (And.intro rfl (And.intro rfl (And.intro (slotI (wrapS (by omega))) trivial)))))) ?_)))
              refine And.intro (And.intro (rowEq fun _ _ => rfl) rfl) (And.intro (And.intro (rowEq fun _ _ => rfl) rfl) (And.intro (And.intro (rowEq fun q hq => ?_) rfl) trivial))
              show upd1 _ ((i : Int).toNat * 1 + ((k : Int).toNat * 8 + ((j : Int).toNat * 64 + 0))) (T ((k : Int).toNat * 1 + ((j : Int).toNat * 8 + ((i : Int).toNat * 64 + 0)))) q = _
              unfold upd1
              rw [hidx, hjdx, hkdx]
              dsimp only
              by_cases h1 : q = i * 1 + (k * 8 + (j * 64 + 0))
              · rw [if_pos h1, if_pos (by omega)]
                unfold dualF
                congr 1
                omega
              · rw [if_neg h1]
                by_cases h2 : q % 8 < i ∨ (q % 8 = i ∧ (q / 64 < j ∨ (q / 64 = j ∧ q / 8 % 8 < k)))
                · rw [if_pos h2, if_pos (by omega)]
                · rw [if_neg h2, if_neg (by omega)]
            · have hge := of_decide_eq_false h
              obtain rfl : k = 8 := by omega
              refine Exists.intro (j + 1) (And.intro (by omega) (And.intro (by omega) (And.intro (And.intro rfl (And.intro rfl (And.intro rfl (And.intro rfl (And.intro (slotI (wrapS (by omega))) trivial))))) ?_)))
              refine And.intro (And.intro (rowEq fun _ _ => rfl) rfl) (And.intro (And.intro (rowEq fun _ _ => rfl) rfl) (And.intro (And.intro (rowEq fun q hq => ?_) rfl) trivial))
              by_cases h2 : q % 8 < i ∨ (q % 8 = i ∧ (q / 64 < j ∨ (q / 64 = j ∧ q / 8 % 8 < 8)))
              · rw [if_pos h2, if_pos (by omega)]
              · rw [if_neg h2, if_neg (by omega)]
        · have hge := of_decide_eq_false h
          obtain rfl : j = 8 := by omega
          refine Exists.intro (i + 1) (And.intro (by omega) (And.intro (by omega) (And.intro (And.intro rfl (And.intro rfl (And.intro rfl (And.intro (slotI (wrapS (by omega))) trivial)))) ?_)))
          refine And.intro (And.intro (rowEq fun _ _ => rfl) rfl) (And.intro (And.intro (rowEq fun _ _ => rfl) rfl) (And.intro (And.intro (rowEq fun q hq => ?_) rfl) trivial))
          by_cases h2 : q % 8 < i ∨ (q % 8 = i ∧ q / 64 < 8)
          · rw [if_pos h2, if_pos (by omega)]
          · rw [if_neg h2, if_neg (by omega)]
    · have hge := of_decide_eq_false h
      obtain rfl : i = 8 := by omega
      (repeat (first | refine And.intro (by omega) ?_ | refine And.intro ⟨by omega, by omega⟩ ?_))
      refine rowEq fun q hq => ?_
      show updR _ 0 512 _ q = _
      simp [updR, hq]
      omega

/-- a struct, or zeros -/
def orZero (b : Bool) (p n : Int) (U T : Nat → Int) : SV := algV (if b = true then p else 0) (if b = true then n else 0) (fun j => if b = true then U j else 0) (fun q => if b = true then T q else 0)
def orV (b : Bool) (p n : Int) (U T : Nat → Int) : SV := .tcons (orZero b p n U T) (.tcons (.int .i64 (if b = true then 0 else 1)) .tnil)
theorem orZ_no {p n : Int} {U T : Nat → Int} : SV.eqv (algV 0 0 (fun _ => 0) fun _ => 0) (orZero false p n U T) := And.intro rfl (And.intro rfl (And.intro (rowEq fun _ _ => rfl) (And.intro (rowEq fun _ _ => rfl) rfl)))
theorem orV_no {p n : Int} {U T : Nat → Int} : SV.eqv (.tcons (algV 0 0 (fun _ => 0) fun _ => 0) (.tcons (.int .i64 1) .tnil)) (orV false p n U T) := And.intro orZ_no (And.intro rfl rfl)
theorem orV_yes {p n : Int} {U U' T T' : Nat → Int} (hU : ∀ j, j < 8 → U j = U' j) (hT : ∀ q, q < 512 → T q = T' q) : SV.eqv (.tcons (algV p n U T) (.tcons (.int .i64 0) .tnil)) (orV true p n U' T') :=
  And.intro (And.intro rfl (And.intro rfl (And.intro (rowEq hU) (And.intro (rowEq hT) rfl)))) (And.intro rfl rfl)

theorem implDualCo_s (p n : Int) (U T : Nat → Int) (hU : isU8 8 U) (hT : isU8 512 T) : Spec Try.prog 23 [algV p n U T] [] (Ret (orV (algB p n U T) p n U (codF T))) := by
  refine Spec.ret rfl (Spec.of_vc tabOK tabEq Try.func23 rfl (by kernel_rfl) rfl rfl ?_)
  refine And.intro trivial (Spec.mono (isAlgebra_s p n U T hU hT) ?_)
  rintro r m ⟨rfl, rfl⟩
  change opsVC _ _ _ _ _ _ [some (algV p n U T, 522), some (algV 0 0 (fun _ => 0) (fun _ => 0), 522)] _
  refine ifVC_split (fun hc => ?_) (fun hc => ?_)
  · have hc : algB p n U T = false := by simpa using hc
    rw [hc]
    exact orV_no
  have hc : algB p n U T = true := by simpa using hc
  rw [hc]
  refine And.intro trivial (Spec.mono (dualCoalgebra_s p n U T) ?_)
  rintro r m ⟨rfl, rfl⟩
  exact orV_yes (fun _ _ => rfl) fun _ _ => rfl

theorem specDualCo_s (p n : Int) (U T : Nat → Int) (hU : isU8 8 U) (hT : isU8 512 T) : Spec Try.prog 21 [algV p n U T] [] (Ret (orV (algB p n U T) p n U (codF T))) := by
  refine Spec.ret rfl (Spec.of_vc tabOK tabEq Try.func21 rfl (by kernel_rfl) rfl rfl ?_)
  refine And.intro trivial (Spec.mono (l01Is_s p n U T hU hT) ?_)
  rintro r m ⟨rfl, rfl⟩
  change opsVC _ _ _ _ _ _ [some (algV p n U T, 522), some (algV 0 0 (fun _ => 0) (fun _ => 0), 522)] _
  refine ifVC_split (fun hc => ?_) (fun hc => ?_)
  · have hc : algB p n U T = false := by simpa using hc
    rw [hc]
    exact orV_no
  have hc : algB p n U T = true := by simpa using hc
  rw [hc]
  refine Exists.intro 11 (And.intro (by kernel_rfl) ?_)
  (repeat (first | refine And.intro (by omega) ?_ | refine And.intro ⟨by omega, by omega⟩ ?_))
  refine Exists.intro (.ints .u8 512 (dualF T)) (And.intro (And.intro rfl (And.intro rfl (Spec.mono (l02Turned_s _) fun r m h => h.1))) ?_)
  refine Exists.intro (.ints .u8 512 (dualF (dualF T))) (And.intro (And.intro rfl (And.intro rfl (Spec.mono (l02Turned_s _) fun r m h => h.1))) ?_)
  exact orV_yes (fun _ _ => rfl) fun q hq => dual_dual hq

theorem implDualAlg_s (p n : Int) (U C : Nat → Int) (hU : isU8 8 U) (hC : isU8 512 C) : Spec Try.prog 26 [algV p n U C] [] (Ret (orV (coB p n U C) p n U (dualF C))) := by
  refine Spec.ret rfl (Spec.of_vc tabOK tabEq Try.func26 rfl (by kernel_rfl) rfl rfl ?_)
  refine And.intro trivial (Spec.mono (implIsCo_s p n U C hU hC) ?_)
  rintro r m ⟨rfl, rfl⟩
  change opsVC _ _ _ _ _ _ [some (algV p n U C, 522), some (algV 0 0 (fun _ => 0) (fun _ => 0), 522)] _
  refine ifVC_split (fun hc => ?_) (fun hc => ?_)
  · have hc : coB p n U C = false := by simpa using hc
    rw [hc]
    exact orV_no
  have hc : coB p n U C = true := by simpa using hc
  rw [hc]
  refine And.intro trivial (Spec.mono (dualAlgebra_s p n U C) ?_)
  rintro r m ⟨rfl, rfl⟩
  exact orV_yes (fun _ _ => rfl) fun _ _ => rfl

theorem specDualAlg_s (p n : Int) (U C : Nat → Int) (hU : isU8 8 U) (hC : isU8 512 C) : Spec Try.prog 25 [algV p n U C] [] (Ret (orV (coB p n U C) p n U (dualF C))) := by
  refine Spec.ret rfl (Spec.of_vc tabOK tabEq Try.func25 rfl (by kernel_rfl) rfl rfl ?_)
  refine And.intro trivial (Spec.mono (l02Is_s p n U C hU hC) ?_)
  rintro r m ⟨rfl, rfl⟩
  change opsVC _ _ _ _ _ _ [some (algV p n U C, 522), some (algV 0 0 (fun _ => 0) (fun _ => 0), 522)] _
  refine ifVC_split (fun hc => ?_) (fun hc => ?_)
  · have hc : coB p n U C = false := by simpa using hc
    rw [hc]
    exact orV_no
  have hc : coB p n U C = true := by simpa using hc
  rw [hc]
  refine Exists.intro 10 (And.intro (by kernel_rfl) ?_)
  (repeat (first | refine And.intro (by omega) ?_ | refine And.intro ⟨by omega, by omega⟩ ?_))
  refine Exists.intro (.ints .u8 512 (dualF C)) (And.intro (And.intro rfl (And.intro rfl (Spec.mono (l02Turned_s _) fun r m h => h.1))) ?_)
  exact orV_yes (fun _ _ => rfl) fun _ _ => rfl

/-- the law on DualCoalgebra returns true -/
theorem lawDualCo_c (p n : Int) (U T : Nat → Int) (hU : isU8 8 U) (hT : isU8 512 T) : Spec Try.prog 5 [algV p n U T] [] (Ret (.bool true)) := by
  refine Spec.ret rfl (Spec.of_vc tabOK tabEq Try.func5 rfl (by kernel_rfl) rfl rfl ?_)
  refine And.intro trivial (Spec.mono (toAlgebra_s p n U T) ?_)
  rintro r m ⟨rfl, rfl⟩
  change opsVC _ _ _ _ _ _ [some (algV p n U T, 522)] _
  refine And.intro trivial (Spec.mono (specDualCo_s p n U T hU hT) ?_)
  rintro r m ⟨rfl, rfl⟩
  change opsVC _ _ _ _ _ _ [some (algV p n U T, 522)] _
  refine And.intro trivial (Spec.mono (toAlgebra_s p n U T) ?_)
  rintro r m ⟨rfl, rfl⟩
  change opsVC _ _ _ _ _ _ [some (algV p n U T, 522), some (orZero (algB p n U T) p n U (codF T), 522)] _
  refine And.intro trivial (Spec.mono (implDualCo_s p n U T hU hT) ?_)
  rintro r m ⟨rfl, rfl⟩
  change opsVC _ _ _ _ _ _ [some (algV p n U T, 522), some (orZero (algB p n U T) p n U (codF T), 522)] _
  refine And.intro trivial (Spec.mono (eqCoalgebra_s _ _ _ _ _ _ (allEq_self 8 _) (allEq_self 512 _)) ?_)
  rintro r m ⟨rfl, rfl⟩
  change opsVC _ _ _ _ _ _ [some (algV p n U T, 522), some (orZero (algB p n U T) p n U (codF T), 522), some (orZero (algB p n U T) p n U (codF T), 522)] _
  refine ifVC_false (by simp) ?_
  exact boolEq rfl

/-- the law on DualAlgebra returns true -/
theorem lawDualAlg_c (p n : Int) (U C : Nat → Int) (hU : isU8 8 U) (hC : isU8 512 C) : Spec Try.prog 6 [algV p n U C] [] (Ret (.bool true)) := by
  refine Spec.ret rfl (Spec.of_vc tabOK tabEq Try.func6 rfl (by kernel_rfl) rfl rfl ?_)
  refine And.intro trivial (Spec.mono (toCoalgebra_s p n U C) ?_)
  rintro r m ⟨rfl, rfl⟩
  change opsVC _ _ _ _ _ _ [some (algV p n U C, 522)] _
  refine And.intro trivial (Spec.mono (specDualAlg_s p n U C hU hC) ?_)
  rintro r m ⟨rfl, rfl⟩
  change opsVC _ _ _ _ _ _ [some (algV p n U C, 522)] _
  refine And.intro trivial (Spec.mono (toCoalgebra_s p n U C) ?_)
  rintro r m ⟨rfl, rfl⟩
  change opsVC _ _ _ _ _ _ [some (algV p n U C, 522), some (orZero (coB p n U C) p n U (dualF C), 522)] _
  refine And.intro trivial (Spec.mono (implDualAlg_s p n U C hU hC) ?_)
  rintro r m ⟨rfl, rfl⟩
  change opsVC _ _ _ _ _ _ [some (algV p n U C, 522), some (orZero (coB p n U C) p n U (dualF C), 522)] _
  refine And.intro trivial (Spec.mono (eqAlgebra_s _ _ _ _ _ _ (allEq_self 8 _) (allEq_self 512 _)) ?_)
  rintro r m ⟨rfl, rfl⟩
  change opsVC _ _ _ _ _ _ [some (algV p n U C, 522), some (orZero (coB p n U C) p n U (dualF C), 522), some (orZero (coB p n U C) p n U (dualF C), 522)] _
  refine ifVC_false (by simp) ?_
  exact boolEq rfl

/-! ### cocommutativity -/
theorem coco_iff {C : Nat → Int} : commB (dualF C) = true ↔ ∀ i j k, i < 8 → j < 8 → k < 8 → vecT C i j k = vecT C i k j := by
  rw [comm_iff]
  constructor
  · intro h i j k hi hj hk
    have := h j k i hj hk hi
    rw [dual_vec C hi hj hk, dual_vec C hi hk hj] at this
    exact this
  · intro h j k i hj hk hi
    rw [dual_vec C hi hj hk, dual_vec C hi hk hj]
    exact h i j k hi hj hk
theorem coco_no {C : Nat → Int} {i j k : Nat} (hi : i < 8) (hj : j < 8) (hk : k < 8) (h : vecT C i j k ≠ vecT C i k j) : commB (dualF C) = false := by
  cases hb : commB (dualF C) with
  | false => rfl
  | true => exact absurd (coco_iff.1 hb i j k hi hj hk) h
theorem coco_yes {C : Nat → Int} (h : ∀ i j k, i < 8 → j < 8 → k < j → vecT C i j k = vecT C i k j) : commB (dualF C) = true := by
  refine coco_iff.2 fun i j k hi hj hk => ?_
  rcases Nat.lt_trichotomy j k with h1 | h1 | h1
  · exact (h i k j hi hk h1).symm
  · rw [h1]
  · exact h i j k hi hj h1
def cocoV (p n : Int) (U C : Nat → Int) : SV := .tcons (.bool (coB p n U C && commB (dualF C))) (.tcons (.int .i64 (if coB p n U C = true then 0 else 1)) .tnil)

theorem implCoco_s (p n : Int) (U C : Nat → Int) (hU : isU8 8 U) (hC : isU8 512 C) : Spec Try.prog 29 [algV p n U C] [] (Ret (cocoV p n U C)) := by
  refine Spec.ret rfl (Spec.of_vc tabOK tabEq Try.func29 rfl (by kernel_rfl) rfl rfl ?_)
  refine And.intro trivial (Spec.mono (implIsCo_s p n U C hU hC) ?_)
  rintro r m ⟨rfl, rfl⟩
  refine ifVC_split (fun hc => ?_) (fun hc => ?_)
  · have hc : coB p n U C = false := by simpa using hc
    exact And.intro (boolEq (by simp [hc])) (And.intro (slotI (by simp [hc])) rfl)
  have hc : coB p n U C = true := by simpa using hc
  refine And.intro trivial (Spec.mono (dualAlgebra_s p n U C) ?_)
  rintro r m ⟨rfl, rfl⟩
  (repeat (first | refine And.intro (by omega) ?_ | refine And.intro ⟨by omega, by omega⟩ ?_))
  refine Exists.intro 5 (And.intro (by kernel_rfl) ?_)
  (repeat (first | refine And.intro (by omega) ?_ | refine And.intro ⟨by omega, by omega⟩ ?_))
  refine Exists.intro (.ints .u8 512 _) (And.intro (And.intro rfl (And.intro rfl (Spec.mono (flipTable_s _) fun r m h => h.1))) ?_)
  refine And.intro (boolEq ?_) (And.intro (slotI (by simp [hc])) rfl)
  rw [hc, Bool.true_and]
  unfold commB
  refine allEq_congr (fun q hq => ?_) fun q hq => ?_
  · show updR _ 0 512 _ (q + 0) = _
    simp [updR, hq]
  · unfold flipF
    show updR _ 0 512 _ (_ + 0) = _
    unfold updR
    rw [if_pos (by omega)]
    rfl

theorem specCoco_s (p n : Int) (U C : Nat → Int) (hU : isU8 8 U) (hC : isU8 512 C) : Spec Try.prog 28 [algV p n U C] [] (Ret (cocoV p n U C)) := by
  refine Spec.ret rfl (Spec.of_vc tabOK tabEq Try.func28 rfl (by kernel_rfl) rfl rfl ?_)
  refine And.intro trivial (Spec.mono (l02Is_s p n U C hU hC) ?_)
  rintro r m ⟨rfl, rfl⟩
  refine ifVC_split (fun hc => ?_) (fun hc => ?_)
  · have hc : coB p n U C = false := by simpa using hc
    exact And.intro (boolEq (by simp [hc])) (And.intro (slotI (by simp [hc])) rfl)
  have hc : coB p n U C = true := by simpa using hc
  refine LoopVC.of (fun i : Nat => i ≤ 8 ∧ ∀ a j k, a < i → j < 8 → k < j → vecT C a j k = vecT C a k j) (fun i => [(1, .ptr 0 [] 0 0), (4, .int .i64 i)]) (fun _ => [some (algV p n U C, 522)]) (fun i => 8 - i) 0 ⟨by omega, fun a j k h => by omega⟩ ?_ ?_ ?_
  · exact (And.intro rfl (And.intro rfl (trivial)))
  · exact And.intro (And.intro (algR p n U C) rfl) trivial
  · rintro i ⟨hi, halli⟩
    refine ifVC_split (fun h => ?_) (fun h => ?_)
    · have hlti := of_decide_eq_true h
      refine LoopVC.of (fun j : Nat => j ≤ 8 ∧ ∀ b k, b < j → k < b → vecT C i b k = vecT C i k b) (fun j => [(1, .ptr 0 [] 0 0), (4, .int .i64 i), (5, .int .i64 j)]) (fun _ => [some (algV p n U C, 522)]) (fun j => 8 - j) 0 ⟨by omega, fun b k h => by omega⟩ ?_ ?_ ?_
      · exact (And.intro rfl (And.intro rfl (And.intro rfl (trivial))))
      · exact And.intro (And.intro (algR p n U C) rfl) trivial
      · rintro j ⟨hj, hallj⟩
        refine ifVC_split (fun h => ?_) (fun h => ?_)
        · have hltj := of_decide_eq_true h
          refine LoopVC.of (fun k : Nat => k ≤ j ∧ ∀ c, c < k → vecT C i j c = vecT C i c j) (fun k => [(1, .ptr 0 [] 0 0), (4, .int .i64 i), (5, .int .i64 j), (6, .int .i64 k)]) (fun _ => [some (algV p n U C, 522)]) (fun k => j - k) 0 ⟨by omega, fun c h => by omega⟩ ?_ ?_ ?_
          · exact (And.intro rfl (And.intro rfl (And.intro rfl (And.intro rfl (trivial)))))
          · exact And.intro (And.intro (algR p n U C) rfl) trivial
          · rintro k ⟨hk, hallk⟩
            refine ifVC_split (fun h => ?_) (fun h => ?_)
            · have hltk := of_decide_eq_true h
              refine Exists.intro 16 (And.intro (by kernel_rfl) ?_)
              (repeat (first | refine And.intro (by omega) ?_ | refine And.intro ⟨by omega, by omega⟩ ?_))
              have e1 : C ((k : Int).toNat * 1 + ((j : Int).toNat * 8 + ((i : Int).toNat * 64 + 0))) = vecT C i j k := by simp only [Int.toNat_natCast]; unfold vecT; congr 1; omega
              have e2 : C ((j : Int).toNat * 1 + ((k : Int).toNat * 8 + ((i : Int).toNat * 64 + 0))) = vecT C i k j := by simp only [Int.toNat_natCast]; unfold vecT; congr 1; omega
              refine ifVC_split (fun hd => ?_) (fun hd => ?_)
              · have hd : vecT C i j k ≠ vecT C i k j := by rw [← e1, ← e2]; simpa using hd
                exact And.intro (boolEq (by rw [coco_no (by omega) (by omega) (by omega) hd]; simp)) (And.intro (slotI (by simp [hc])) rfl)
              · have hd : vecT C i j k = vecT C i k j := by rw [← e1, ← e2]; simpa using hd
                refine Exists.intro (k + 1) (And.intro ⟨by omega, fun c hck => ?_⟩ (And.intro (by omega) (And.intro ?_ ?_)))
                · by_cases hckk : c = k
                  · subst hckk; exact hd
                  · exact hallk c (by omega)
                · exact And.intro rfl (And.intro rfl (And.intro rfl (And.intro (slotI (wrapS (by omega))) trivial)))
                · exact And.intro (And.intro (algR p n U C) rfl) trivial
            · have hge := of_decide_eq_false h
              refine Exists.intro (j + 1) (And.intro ⟨by omega, fun b k' hb hk' => ?_⟩ (And.intro (by omega) (And.intro ?_ ?_)))
              · by_cases hbj : b = j
                · subst hbj; exact hallk k' (by omega)
                · exact hallj b k' (by omega) hk'
              · exact And.intro rfl (And.intro rfl (And.intro (slotI (wrapS (by omega))) trivial))
              · exact And.intro (And.intro (algR p n U C) rfl) trivial
        · have hge := of_decide_eq_false h
          refine Exists.intro (i + 1) (And.intro ⟨by omega, fun a b k' ha hb hk' => ?_⟩ (And.intro (by omega) (And.intro ?_ ?_)))
          · by_cases hai : a = i
            · subst hai; exact hallj b k' (by omega) hk'
            · exact halli a b k' (by omega) hb hk'
          · exact And.intro rfl (And.intro (slotI (wrapS (by omega))) trivial)
          · exact And.intro (And.intro (algR p n U C) rfl) trivial
    · have hge := of_decide_eq_false h
      exact And.intro (boolEq (by rw [hc, coco_yes fun a j k ha hj hk => halli a j k (by omega) hj hk]; rfl)) (And.intro (slotI (by simp [hc])) rfl)

/-- the law on IsCocommutative returns true -/
theorem lawCoco_c (p n : Int) (U C : Nat → Int) (hU : isU8 8 U) (hC : isU8 512 C) : Spec Try.prog 7 [algV p n U C] [] (Ret (.bool true)) := by
  refine Spec.ret rfl (Spec.of_vc tabOK tabEq Try.func7 rfl (by kernel_rfl) rfl rfl ?_)
  refine And.intro trivial (Spec.mono (toCoalgebra_s p n U C) ?_)
  rintro r m ⟨rfl, rfl⟩
  refine And.intro trivial (Spec.mono (specCoco_s p n U C hU hC) ?_)
  rintro r m ⟨rfl, rfl⟩
  refine And.intro trivial (Spec.mono (toCoalgebra_s p n U C) ?_)
  rintro r m ⟨rfl, rfl⟩
  refine And.intro trivial (Spec.mono (implCoco_s p n U C hU hC) ?_)
  rintro r m ⟨rfl, rfl⟩
  refine ifVC_false (by simp) ?_
  refine ifVC_false (by simp) ?_
  exact boolEq rfl
end Go.Proofs.Ytnbfpmcpakpboac
