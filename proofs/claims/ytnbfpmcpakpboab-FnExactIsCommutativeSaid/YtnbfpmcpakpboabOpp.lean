/- Opposite algebras and commutativity, on both sides, and the laws. -/
import Derived.Test.YtnbfpmcpakpboabEqs
set_option linter.unusedVariables false
set_option maxRecDepth 100000
namespace Go.Proofs.Ytnbfpmcpakpboab
open M

theorem opposite_s (p n : Int) (U T : Nat → Int) : Spec Try.prog 65 [algV p n U T] [] (Ret (algV p n U (flipF T))) := by
  refine Spec.ret rfl (Spec.of_vc tabOK tabEq Try.func65 rfl (by kernel_rfl) rfl rfl ?_)
  (repeat (first | refine And.intro (by omega) ?_ | refine And.intro ⟨by omega, by omega⟩ ?_))
  refine And.intro trivial (Spec.mono (flipTable_s _) ?_)
  rintro r m ⟨rfl, rfl⟩
  (repeat (first | refine And.intro (by omega) ?_ | refine And.intro ⟨by omega, by omega⟩ ?_))
  refine And.intro rfl (And.intro rfl (And.intro (rowEq fun _ _ => rfl) (And.intro (rowEq fun q hq => ?_) rfl)))
  show updR _ 0 512 _ q = flipF T q
  simp [updR, hq]

theorem flip_zero {p : Int} {n : Nat} {U T : Nat → Int} (hV : Valid p n U T) {q : Nat} (hq : q < 512) (h : ¬ (q / 64 < n ∧ q / 8 % 8 < n)) : flipF T q = 0 := by
  have e : flipF T q = vecT T (q / 8 % 8) (q / 64) (q % 8) := by unfold flipF vecT; congr 1; omega
  rw [e]
  exact hV.zero _ _ _ (by omega) (by omega) (by omega) (by omega)

theorem l01Opposite_s (p : Int) (n : Nat) (U T : Nat → Int) (hV : Valid p n U T) : Spec Try.prog 68 [.int .i64 n, .ints .u8 512 T] [] (Ret (.ints .u8 512 (flipF T))) := by
  have hn := hV.hn
  refine Spec.ret rfl (Spec.of_vc tabOK tabEq Try.func68 rfl (by kernel_rfl) rfl rfl ?_)
  (repeat (first | refine And.intro (by omega) ?_ | refine And.intro ⟨by omega, by omega⟩ ?_))
  refine LoopVC.of (fun i : Nat => i ≤ n) (fun i => [(0, .int .i64 n), (3, .ptr 0 [] 0 0), (4, .ptr 1 [] 0 0), (5, .ptr 2 [] 0 0), (6, .int .i64 i)])
    (fun i => [some (.ints .u8 512 T, 512), some (.ints .u8 512 fun _ => 0, 512), some (.ints .u8 512 fun q => if q / 64 < i ∧ q / 8 % 8 < n then flipF T q else 0, 512)]) (fun i => n - i) 0 (by omega) ?_ ?_ ?_
  · exact (And.intro rfl (And.intro rfl (And.intro rfl (And.intro rfl (And.intro rfl (trivial))))))
  · exact And.intro (And.intro (rowEq fun _ _ => rfl) rfl) (And.intro (And.intro (rowEq fun _ _ => rfl) rfl) (And.intro (And.intro (rowEq fun q hq => by show updR _ 0 512 _ q = _; simp [updR, hq]) rfl) trivial))
  · intro i hi
    refine ifVC_split (fun h => ?_) (fun h => ?_)
    · have hlti := of_decide_eq_true h
      have hidx : (i : Int).toNat = i := by omega
      refine LoopVC.of (fun k : Nat => k ≤ n) (fun k => [(0, .int .i64 n), (3, .ptr 0 [] 0 0), (4, .ptr 1 [] 0 0), (5, .ptr 2 [] 0 0), (6, .int .i64 i), (7, .int .i64 k)])
        (fun k => [some (.ints .u8 512 T, 512), some (.ints .u8 512 fun _ => 0, 512), some (.ints .u8 512 fun q => if (q / 64 < i ∧ q / 8 % 8 < n) ∨ (q / 64 = i ∧ q / 8 % 8 < k) then flipF T q else 0, 512)]) (fun k => n - k) 0 (by omega) ?_ ?_ ?_
      · exact (And.intro rfl (And.intro rfl (And.intro rfl (And.intro rfl (And.intro rfl (And.intro rfl (trivial)))))))
      · exact And.intro (And.intro (rowEq fun _ _ => rfl) rfl) (And.intro (And.intro (rowEq fun _ _ => rfl) rfl) (And.intro (And.intro (rowEq fun q hq => by simp) rfl) trivial))
      · intro k hk
        refine ifVC_split (fun h => ?_) (fun h => ?_)
        · have hltk := of_decide_eq_true h
          have hkdx : (k : Int).toNat = k := by omega
          refine Exists.intro 9 (And.intro (by kernel_rfl) ?_)
          (repeat (first | refine And.intro (by omega) ?_ | refine And.intro ⟨by omega, by omega⟩ ?_))
          refine Exists.intro (k + 1) (And.intro (by omega) (And.intro (by omega) (And.intro (And.intro rfl (And.intro rfl (And.intro rfl (And.intro rfl (And.intro rfl (And.intro (slotI (wrapS (by omega))) trivial)))))) ?_)))
          refine And.intro (And.intro (rowEq fun _ _ => rfl) rfl) (And.intro (And.intro (rowEq fun _ _ => rfl) rfl) (And.intro (And.intro (rowEq fun q hq => ?_) rfl) trivial))
          show updR _ ((k : Int).toNat * 8 + ((i : Int).toNat * 64 + 0)) 8 (fun j => T (j + ((i : Int).toNat * 8 + ((k : Int).toNat * 64 + 0)))) q = _
          unfold updR
          rw [hidx, hkdx]
          dsimp only
          by_cases h1 : k * 8 + (i * 64 + 0) ≤ q ∧ q < k * 8 + (i * 64 + 0) + 8
          · rw [if_pos h1, if_pos (by omega)]
            unfold flipF
            congr 1
            omega
          · rw [if_neg h1]
            by_cases h2 : (q / 64 < i ∧ q / 8 % 8 < n) ∨ (q / 64 = i ∧ q / 8 % 8 < k)
            · rw [if_pos h2, if_pos (by omega)]
            · rw [if_neg h2, if_neg (by omega)]
        · have hge := of_decide_eq_false h
          obtain rfl : k = n := by omega
          refine Exists.intro (i + 1) (And.intro (by omega) (And.intro (by omega) (And.intro (And.intro rfl (And.intro rfl (And.intro rfl (And.intro rfl (And.intro (slotI (wrapS (by omega))) trivial))))) ?_)))
          refine And.intro (And.intro (rowEq fun _ _ => rfl) rfl) (And.intro (And.intro (rowEq fun _ _ => rfl) rfl) (And.intro (And.intro (rowEq fun q hq => ?_) rfl) trivial))
          by_cases h2 : (q / 64 < i ∧ q / 8 % 8 < k) ∨ (q / 64 = i ∧ q / 8 % 8 < k)
          · rw [if_pos h2, if_pos (by omega)]
          · rw [if_neg h2, if_neg (by omega)]
    · have hge := of_decide_eq_false h
      obtain rfl : i = n := by omega
      (repeat (first | refine And.intro (by omega) ?_ | refine And.intro ⟨by omega, by omega⟩ ?_))
      refine rowEq fun q hq => ?_
      show updR _ 0 512 _ q = flipF T q
      by_cases h2 : q / 64 < i ∧ q / 8 % 8 < i
      · simp [updR, hq, h2]
      · have := flip_zero hV hq h2
        simp [updR, hq, h2, this]

def oppA (p n : Int) (U T : Nat → Int) : SV := algV (if algB p n U T = true then p else 0) (if algB p n U T = true then n else 0) (fun j => if algB p n U T = true then U j else 0) (fun q => if algB p n U T = true then flipF T q else 0)
def oppV (p n : Int) (U T : Nat → Int) : SV := .tcons (oppA p n U T) (.tcons (.int .i64 (if algB p n U T = true then 0 else 1)) .tnil)

theorem implOpp_s (p n : Int) (U T : Nat → Int) (hU : isU8 8 U) (hT : isU8 512 T) : Spec Try.prog 31 [algV p n U T] [] (Ret (oppV p n U T)) := by
  refine Spec.ret rfl (Spec.of_vc tabOK tabEq Try.func31 rfl (by kernel_rfl) rfl rfl ?_)
  refine And.intro trivial (Spec.mono (isAlgebra_s p n U T hU hT) ?_)
  rintro r m ⟨rfl, rfl⟩
  refine ifVC_split (fun hc => ?_) (fun hc => ?_)
  · have hc : algB p n U T = false := by simpa using hc
    exact And.intro (And.intro (slotI (by simp [hc])) (And.intro (slotI (by simp [hc])) (And.intro (rowEq fun j hj => by simp [hc]) (And.intro (rowEq fun j hj => by simp [hc]) rfl)))) (And.intro (slotI (by simp [hc])) rfl)
  have hc : algB p n U T = true := by simpa using hc
  refine And.intro trivial (Spec.mono (opposite_s p n U T) ?_)
  rintro r m ⟨rfl, rfl⟩
  exact And.intro (And.intro (slotI (by simp [hc])) (And.intro (slotI (by simp [hc])) (And.intro (rowEq fun j hj => by simp [hc]) (And.intro (rowEq fun j hj => by simp [hc]) rfl)))) (And.intro (slotI (by simp [hc])) rfl)

theorem specOpp_s (p n : Int) (U T : Nat → Int) (hU : isU8 8 U) (hT : isU8 512 T) : Spec Try.prog 30 [algV p n U T] [] (Ret (oppV p n U T)) := by
  refine Spec.ret rfl (Spec.of_vc tabOK tabEq Try.func30 rfl (by kernel_rfl) rfl rfl ?_)
  refine And.intro trivial (Spec.mono (l01Is_s p n U T hU hT) ?_)
  rintro r m ⟨rfl, rfl⟩
  change opsVC _ _ _ _ _ _ [some (algV p n U T, 522), some (algV 0 0 (fun _ => 0) (fun _ => 0), 522)] _
  refine ifVC_split (fun hc => ?_) (fun hc => ?_)
  · have hc : algB p n U T = false := by simpa using hc
    exact And.intro (And.intro (slotI (by simp [hc])) (And.intro (slotI (by simp [hc])) (And.intro (rowEq fun j hj => by simp [hc]) (And.intro (rowEq fun j hj => by simp [hc]) rfl)))) (And.intro (slotI (by simp [hc])) rfl)
  have hc : algB p n U T = true := by simpa using hc
  obtain ⟨n, rfl, hV⟩ := algB_valid hU hT hc
  have hV' : Valid p n U fun j => T (j + 0) := hV
  (repeat (first | refine And.intro (by omega) ?_ | refine And.intro ⟨by omega, by omega⟩ ?_))
  refine And.intro trivial (Spec.mono (l01Opposite_s p n U _ hV') ?_)
  rintro r m ⟨rfl, rfl⟩
  change opsVC _ _ _ _ _ _ [some (algV p n U T, 522), some (algV 0 0 (fun _ => 0) (fun _ => 0), 522)] _
  (repeat (first | refine And.intro (by omega) ?_ | refine And.intro ⟨by omega, by omega⟩ ?_))
  refine And.intro (And.intro ?_ (And.intro ?_ (And.intro ?_ (And.intro ?_ ?_)))) (And.intro (slotI (if_pos hc).symm) rfl)
  · exact slotI (if_pos hc).symm
  · exact slotI (if_pos hc).symm
  · exact rowEq fun j hj => (if_pos hc).symm
  · refine rowEq fun j hj => ?_
    rw [if_pos hc]
    show updR _ 0 512 _ j = _
    simp [updR, hj]
  · exact rfl

/-- the law on OppositeAlgebra returns true -/
theorem lawOpp_c (p n : Int) (U T : Nat → Int) (hU : isU8 8 U) (hT : isU8 512 T) : Spec Try.prog 8 [algV p n U T] [] (Ret (.bool true)) := by
  refine Spec.ret rfl (Spec.of_vc tabOK tabEq Try.func8 rfl (by kernel_rfl) rfl rfl ?_)
  refine And.intro trivial (Spec.mono (toAlgebra_s p n U T) ?_)
  rintro r m ⟨rfl, rfl⟩
  change opsVC _ _ _ _ _ _ [some (algV p n U T, 522)] _
  refine And.intro trivial (Spec.mono (specOpp_s p n U T hU hT) ?_)
  rintro r m ⟨rfl, rfl⟩
  change opsVC _ _ _ _ _ _ [some (algV p n U T, 522)] _
  refine And.intro trivial (Spec.mono (toAlgebra_s p n U T) ?_)
  rintro r m ⟨rfl, rfl⟩
  change opsVC _ _ _ _ _ _ [some (algV p n U T, 522), some (oppA p n U T, 522)] _
  refine And.intro trivial (Spec.mono (implOpp_s p n U T hU hT) ?_)
  rintro r m ⟨rfl, rfl⟩
  change opsVC _ _ _ _ _ _ [some (algV p n U T, 522), some (oppA p n U T, 522)] _
  refine And.intro trivial (Spec.mono (eqAlgebra_s _ _ _ _ _ _ (allEq_self 8 _) (allEq_self 512 _)) ?_)
  rintro r m ⟨rfl, rfl⟩
  change opsVC _ _ _ _ _ _ [some (algV p n U T, 522), some (oppA p n U T, 522), some (oppA p n U T, 522)] _
  refine ifVC_false (by simp) ?_
  exact boolEq rfl

/-! ### commutativity -/
def commB (T : Nat → Int) : Bool := allEq 512 T (flipF T)
theorem comm_iff {T : Nat → Int} : commB T = true ↔ ∀ i j m, i < 8 → j < 8 → m < 8 → vecT T i j m = vecT T j i m := by
  unfold commB
  constructor
  · intro h i j m hi hj hm
    have := allEq_get h (i := m + (j * 8 + i * 64)) (by omega)
    unfold flipF at this
    unfold vecT
    rw [this]
    congr 1
    omega
  · intro h
    refine List.all_eq_true.2 fun q hq => ?_
    have hq := List.mem_range.1 hq
    have := h (q / 64) (q / 8 % 8) (q % 8) (by omega) (by omega) (by omega)
    have e1 : T q = vecT T (q / 64) (q / 8 % 8) (q % 8) := by unfold vecT; congr 1; omega
    have e2 : flipF T q = vecT T (q / 8 % 8) (q / 64) (q % 8) := by unfold flipF vecT; congr 1; omega
    rw [e1, e2, this]
    simp
theorem comm_no {T : Nat → Int} {i k : Nat} (hi : i < 8) (hk : k < 8) (h : allEq 8 (vecT T i k) (vecT T k i) = false) : commB T = false := by
  cases hb : commB T with
  | false => rfl
  | true =>
    have : allEq 8 (vecT T i k) (vecT T k i) = true := List.all_eq_true.2 fun m hm => by rw [comm_iff.1 hb i k m hi hk (List.mem_range.1 hm)]; simp
    rw [h] at this; cases this
theorem comm_yes {p : Int} {n : Nat} {U T : Nat → Int} (hV : Valid p n U T) (h : ∀ i k, i < n → k < i → allEq 8 (vecT T i k) (vecT T k i) = true) : commB T = true := by
  refine comm_iff.2 fun i j m hi hj hm => ?_
  by_cases hn : n ≤ i ∨ n ≤ j
  · rw [hV.zero i j m hi hj hm (by omega), hV.zero j i m hj hi hm (by omega)]
  · rcases Nat.lt_trichotomy i j with h1 | h1 | h1
    · exact (allEq_get (h j i (by omega) h1) hm).symm
    · rw [h1]
    · exact allEq_get (h i j (by omega) h1) hm

def commV (p n : Int) (U T : Nat → Int) : SV := .tcons (.bool (algB p n U T && commB T)) (.tcons (.int .i64 (if algB p n U T = true then 0 else 1)) .tnil)

theorem implComm_s (p n : Int) (U T : Nat → Int) (hU : isU8 8 U) (hT : isU8 512 T) : Spec Try.prog 24 [algV p n U T] [] (Ret (commV p n U T)) := by
  refine Spec.ret rfl (Spec.of_vc tabOK tabEq Try.func24 rfl (by kernel_rfl) rfl rfl ?_)
  refine And.intro trivial (Spec.mono (isAlgebra_s p n U T hU hT) ?_)
  rintro r m ⟨rfl, rfl⟩
  refine ifVC_split (fun hc => ?_) (fun hc => ?_)
  · have hc : algB p n U T = false := by simpa using hc
    exact And.intro (boolEq (by simp [hc])) (And.intro (slotI (by simp [hc])) rfl)
  have hc : algB p n U T = true := by simpa using hc
  refine Exists.intro 5 (And.intro (by kernel_rfl) ?_)
  refine Exists.intro (algV p n U (flipF T)) (And.intro (And.intro rfl (And.intro rfl (Spec.mono (opposite_s p n U T) fun r m h => h.1))) ?_)
  refine And.intro (boolEq ?_) (And.intro (slotI (by simp [hc])) rfl)
  show ((p == p) && ((n == n) && (allEq 8 U U && (allEq 512 T (flipF T) && true)))) = _
  rw [allEq_self, hc]
  simp [commB]

theorem specComm_s (p n : Int) (U T : Nat → Int) (hU : isU8 8 U) (hT : isU8 512 T) : Spec Try.prog 23 [algV p n U T] [] (Ret (commV p n U T)) := by
  refine Spec.ret rfl (Spec.of_vc tabOK tabEq Try.func23 rfl (by kernel_rfl) rfl rfl ?_)
  refine And.intro trivial (Spec.mono (l01Is_s p n U T hU hT) ?_)
  rintro r m ⟨rfl, rfl⟩
  refine ifVC_split (fun hc => ?_) (fun hc => ?_)
  · have hc : algB p n U T = false := by simpa using hc
    exact And.intro (boolEq (by simp [hc])) (And.intro (slotI (by simp [hc])) rfl)
  have hc : algB p n U T = true := by simpa using hc
  obtain ⟨n, rfl, hV⟩ := algB_valid hU hT hc
  have hn := hV.hn
  refine LoopVC.of (fun i : Nat => i ≤ n ∧ ∀ a k, a < i → k < a → allEq 8 (vecT T a k) (vecT T k a) = true) (fun i => [(1, .ptr 0 [] 0 0), (4, .int .i64 i)]) (fun _ => [some (algV p n U T, 522)]) (fun i => n - i) 0 ⟨by omega, fun a k h => by omega⟩ ?_ ?_ ?_
  · exact (And.intro rfl (And.intro rfl (trivial)))
  · exact And.intro (And.intro (algR p n U T) rfl) trivial
  · rintro i ⟨hi, hall⟩
    refine ifVC_split (fun h => ?_) (fun h => ?_)
    · have hlti := of_decide_eq_true h
      refine LoopVC.of (fun k : Nat => k ≤ i ∧ ∀ b, b < k → allEq 8 (vecT T i b) (vecT T b i) = true) (fun k => [(1, .ptr 0 [] 0 0), (4, .int .i64 i), (5, .int .i64 k)]) (fun _ => [some (algV p n U T, 522)]) (fun k => i - k) 0 ⟨by omega, fun b h => by omega⟩ ?_ ?_ ?_
      · exact (And.intro rfl (And.intro rfl (And.intro rfl (trivial))))
      · exact And.intro (And.intro (algR p n U T) rfl) trivial
      · rintro k ⟨hk, hallk⟩
        refine ifVC_split (fun h => ?_) (fun h => ?_)
        · have hltk := of_decide_eq_true h
          refine Exists.intro 12 (And.intro (by kernel_rfl) ?_)
          (repeat (first | refine And.intro (by omega) ?_ | refine And.intro ⟨by omega, by omega⟩ ?_))
          have hval : allEq 8 (fun j => T (j + ((k : Int).toNat * 8 + ((i : Int).toNat * 64 + 0)))) (fun j => T (j + ((i : Int).toNat * 8 + ((k : Int).toNat * 64 + 0)))) = allEq 8 (vecT T i k) (vecT T k i) := by
            simp only [Int.toNat_natCast]
            rfl
          refine ifVC_split (fun hd => ?_) (fun hd => ?_)
          · have hd : allEq 8 (vecT T i k) (vecT T k i) = false := by rw [← hval]; simpa using hd
            exact And.intro (boolEq (by rw [comm_no (by omega) (by omega) hd]; simp)) (And.intro (slotI (by simp [hc])) rfl)
          · have hd : allEq 8 (vecT T i k) (vecT T k i) = true := by rw [← hval]; simpa using hd
            refine Exists.intro (k + 1) (And.intro ⟨by omega, fun b hb => ?_⟩ (And.intro (by omega) (And.intro ?_ ?_)))
            · by_cases hbk : b = k
              · subst hbk; exact hd
              · exact hallk b (by omega)
            · exact And.intro rfl (And.intro rfl (And.intro (slotI (wrapS (by omega))) trivial))
            · exact And.intro (And.intro (algR p n U T) rfl) trivial
        · have hge := of_decide_eq_false h
          refine Exists.intro (i + 1) (And.intro ⟨by omega, fun a b ha hb => ?_⟩ (And.intro (by omega) (And.intro ?_ ?_)))
          · by_cases hai : a = i
            · subst hai; exact hallk b (by omega)
            · exact hall a b (by omega) hb
          · exact And.intro rfl (And.intro (slotI (wrapS (by omega))) trivial)
          · exact And.intro (And.intro (algR p n U T) rfl) trivial
    · have hge := of_decide_eq_false h
      exact And.intro (boolEq (by rw [hc, comm_yes hV fun a k ha hk => hall a k (by omega) hk]; rfl)) (And.intro (slotI (by simp [hc])) rfl)

/-- the law on IsCommutative returns true -/
theorem lawComm_c (p n : Int) (U T : Nat → Int) (hU : isU8 8 U) (hT : isU8 512 T) : Spec Try.prog 5 [algV p n U T] [] (Ret (.bool true)) := by
  refine Spec.ret rfl (Spec.of_vc tabOK tabEq Try.func5 rfl (by kernel_rfl) rfl rfl ?_)
  refine And.intro trivial (Spec.mono (toAlgebra_s p n U T) ?_)
  rintro r m ⟨rfl, rfl⟩
  refine And.intro trivial (Spec.mono (specComm_s p n U T hU hT) ?_)
  rintro r m ⟨rfl, rfl⟩
  refine And.intro trivial (Spec.mono (toAlgebra_s p n U T) ?_)
  rintro r m ⟨rfl, rfl⟩
  refine And.intro trivial (Spec.mono (implComm_s p n U T hU hT) ?_)
  rintro r m ⟨rfl, rfl⟩
  refine ifVC_false (by simp) ?_
  refine ifVC_false (by simp) ?_
  exact boolEq rfl
end Go.Proofs.Ytnbfpmcpakpboab
