/- RegularModule and TrivialModule, on both sides, and the laws. -/
import Derived.Test.YtcocapkdpbdmdacMod8
import Derived.Test.YtcocapkdpbdmdacAddMap
set_option linter.unusedVariables false
set_option linter.unusedSimpArgs false
set_option maxRecDepth 100000
set_option maxHeartbeats 1000000
namespace Go.Proofs.Ytcocapkdpbdmdac
open M

theorem modE2 {d e : Int} {A B : Nat → Int} (h : d = e) (hq : ∀ q, q < 512 → A q = B q) : SV.eqv (modV d A) (modV e B) := And.intro (slotI h) (And.intro (rowEq hq) rfl)

/-! ### the regular module -/
theorem regDim_s (p n : Int) (U T Z C S : Nat → Int) : Spec Try.prog 104 [.pair (hopV p n U T Z C S) .unit] [] (Ret (.int .i64 n)) := by
  refine Spec.ret rfl (Spec.of_vc tabOK tabEq Try.func104 rfl (by kernel_rfl) rfl rfl ?_)
  exact slotI rfl
theorem regAct_s (p n : Int) (U T Z C S : Nat → Int) (i : Nat) (hi : i < 8) : Spec Try.prog 103 [.pair (hopV p n U T Z C S) .unit, .int .i64 i] [] (Ret (.ints .u8 64 (partF T 64 i))) := by
  have hidx : (i : Int).toNat = i := by omega
  refine Spec.ret rfl (Spec.of_vc tabOK tabEq Try.func103 rfl (by kernel_rfl) rfl rfl ?_)
  (repeat (first | refine And.intro (by omega) ?_ | refine And.intro ⟨by omega, by omega⟩ ?_))
  refine rowEq fun q hq => ?_
  show updR _ 0 64 _ q = _
  simp [updR, hq, hidx, partF]

section
variable (p n : Int) (U T Z C S : Nat → Int) (hU : isU8 8 U) (hT : isU8 512 T) (hZ : isU8 8 Z) (hC : isU8 512 C) (hS : isU8 64 S)
include hU hT hZ hC hS
def regOut (p n : Int) (U T Z C S : Nat → Int) : SV := .tcons (modV (if hopB p n U T Z C S = true then n else 0) fun q => if hopB p n U T Z C S = true then T q else 0) (.tcons (.int .i64 (if hopB p n U T Z C S = true then 0 else 1)) .tnil)
theorem implRegular_s : Spec Try.prog 7 [hopV p n U T Z C S] [] (Ret (regOut p n U T Z C S)) := by
  refine Spec.ret rfl (Spec.of_vc tabOK tabEq Try.func7 rfl (by kernel_rfl) rfl rfl ?_)
  refine And.intro trivial (Spec.mono (isHopf_s p n U T Z C S hU hT hZ hC hS) ?_)
  rintro r m ⟨rfl, rfl⟩
  refine ifVC_split (fun hc => ?_) (fun hc => ?_)
  · have hc : hopB p n U T Z C S = false := by simpa using hc
    exact And.intro (modE2 (by simp [hc]) fun q _ => by simp [hc]) (And.intro (slotI (by simp [hc])) rfl)
  have hc : hopB p n U T Z C S = true := by simpa using hc
  obtain ⟨n, rfl, hV⟩ := hopB_valid hU hT hZ hC hS hc
  have hn := hV.a.hn
  refine And.intro trivial (Spec.mono (moduleOfReg_s p n U T Z C S n hn (fun i => partF T 64 i) (regDim_s p n U T Z C S) (fun i hi => regAct_s p n U T Z C S i (by omega))) ?_)
  rintro r m ⟨rfl, rfl⟩
  refine And.intro (modE2 (by simp [hc]) fun q hq => ?_) (And.intro (slotI (by simp [hc])) rfl)
  rw [if_pos hc]
  unfold tabOf
  split
  · show T (q % 64 + q / 64 * 64) = T q
    congr 1; omega
  · rename_i h
    have := hV.a.zero (q / 64) (q / 8 % 8) (q % 8) (by omega) (by omega) (by omega) (.inl (by omega))
    unfold vecT at this
    rw [← this]
    congr 1; omega
theorem specRegular_s : Spec Try.prog 5 [hopV p n U T Z C S] [] (Ret (regOut p n U T Z C S)) := by
  refine Spec.ret rfl (Spec.of_vc tabOK tabEq Try.func5 rfl (by kernel_rfl) rfl rfl ?_)
  refine And.intro trivial (Spec.mono (l03Is_s p n U T Z C S hU hT hZ hC hS) ?_)
  rintro r m ⟨rfl, rfl⟩
  refine ifVC_split (fun hc => ?_) (fun hc => ?_)
  · have hc : hopB p n U T Z C S = false := by simpa using hc
    exact And.intro (modE2 (by simp [hc]) fun q _ => by simp [hc]) (And.intro (slotI (by simp [hc])) rfl)
  have hc : hopB p n U T Z C S = true := by simpa using hc
  (repeat (first | refine And.intro (by omega) ?_ | refine And.intro ⟨by omega, by omega⟩ ?_))
  exact And.intro (modE2 (by simp [hc]) fun q _ => by simp [hc]) (And.intro (slotI (by simp [hc])) rfl)
theorem lawRegular_c : Spec Try.prog 3 [hopV p n U T Z C S] [] (Ret (.bool true)) := by
  refine Spec.ret rfl (Spec.of_vc tabOK tabEq Try.func3 rfl (by kernel_rfl) rfl rfl ?_)
  refine And.intro trivial (Spec.mono (toHopf_s p n U T Z C S) ?_)
  rintro r m ⟨rfl, rfl⟩
  change opsVC _ _ _ _ _ _ [some (hopV p n U T Z C S, 1106)] _
  refine And.intro trivial (Spec.mono (specRegular_s p n U T Z C S hU hT hZ hC hS) ?_)
  rintro r m ⟨rfl, rfl⟩
  (repeat (first | refine And.intro (by omega) ?_ | refine And.intro ⟨by omega, by omega⟩ ?_))
  refine And.intro trivial (Spec.mono (toHopf_s p n U T Z C S) ?_)
  rintro r m ⟨rfl, rfl⟩
  refine And.intro trivial (Spec.mono (implRegular_s p n U T Z C S hU hT hZ hC hS) ?_)
  rintro r m ⟨rfl, rfl⟩
  (repeat (first | refine And.intro (by omega) ?_ | refine And.intro ⟨by omega, by omega⟩ ?_))
  refine And.intro trivial (Spec.mono (eqModule_s _ _ _ (allEq_self 512 _)) ?_)
  rintro r m ⟨rfl, rfl⟩
  refine ifVC_false (by simp) ?_
  exact boolEq rfl
end

/-! ### trivial modules -/
def trivF (n m : Nat) (Z : Nat → Int) : Nat → Int := fun q => if q / 64 < n ∧ q / 8 % 8 < m ∧ q % 8 = q / 8 % 8 then Z (q / 64) else 0
theorem trivDim_s (p n : Int) (U T Z C S : Nat → Int) (m : Int) : Spec Try.prog 106 [.pair (hopV p n U T Z C S) (.pair (.int .i64 m) .unit)] [] (Ret (.int .i64 m)) := by
  refine Spec.ret rfl (Spec.of_vc tabOK tabEq Try.func106 rfl (by kernel_rfl) rfl rfl ?_)
  exact slotI rfl
theorem trivAct_s (p n : Int) (U T Z C S : Nat → Int) (m i : Nat) (hp : 0 < p ∧ p < 256) (hZ : isU8 8 Z) (hm : m ≤ 8) (hi : i < 8) : Spec Try.prog 105 [.pair (hopV p n U T Z C S) (.pair (.int .i64 m) .unit), .int .i64 i] [] (Ret (.ints .u8 64 (addMapF p (fun _ => 0) (Z i) (idF m)))) := by
  have hidx : (i : Int).toNat * 1 + 0 = i := by omega
  have hzi := hZ i (by omega)
  refine Spec.ret rfl (Spec.of_vc tabOK tabEq Try.func105 rfl (by kernel_rfl) rfl rfl ?_)
  refine Exists.intro 13 (And.intro (by kernel_rfl) ?_)
  (repeat (first | refine And.intro (by omega) ?_ | refine And.intro ⟨by omega, by omega⟩ ?_))
  refine Exists.intro (.ints .u8 64 (idF m)) (And.intro (And.intro rfl (And.intro rfl (Spec.mono (identity_s m hm) fun r m h => h.1))) ?_)
  refine And.intro trivial (Spec.mono (addMap_s p _ _ _ hp (by rw [hidx, wrapI (by omega)]; exact hzi) (fun q _ => by constructor <;> omega) (idF_u8 m 64)) ?_)
  rintro r m' ⟨rfl, rfl⟩
  (repeat (first | refine And.intro (by omega) ?_ | refine And.intro ⟨by omega, by omega⟩ ?_))
  refine rowEq fun q hq => ?_
  show updR _ 0 64 _ q = _
  rw [hidx, wrapI (by omega)]
  simp [updR, hq]
theorem triv_eq {p : Int} {n m : Nat} {Z : Nat → Int} (hZ : ∀ j, j < 8 → 0 ≤ Z j ∧ Z j < p) (hn : n ≤ 8) {q : Nat} (hq : q < 512) : tabOf n (fun i => addMapF p (fun _ => 0) (Z i) (idF m)) q = trivF n m Z q := by
  unfold tabOf trivF addMapF
  by_cases h : q / 64 < n
  · rw [if_pos h]
    have hz := hZ (q / 64) (by omega)
    unfold idF unitV
    dsimp only
    rw [show q % 64 / 8 = q / 8 % 8 by omega, show q % 64 % 8 = q % 8 by omega, Int.zero_add]
    by_cases h1 : q / 8 % 8 < m
    · rw [if_pos h1]
      by_cases h2 : q % 8 = q / 8 % 8
      · rw [if_pos h2, if_pos ⟨h, h1, h2⟩, Int.mul_one, Int.emod_eq_of_lt hz.1 hz.2]
      · rw [if_neg h2, if_neg fun e => h2 e.2.2]; simp
    · rw [if_neg h1, if_neg fun e => h1 e.2.1]; simp
  · rw [if_neg h, if_neg fun e => h e.1]

theorem l06Trivial_s (p : Int) (n m : Nat) (U T Z C S : Nat → Int) (hn : n ≤ 8) (hm : m ≤ 8) : Spec Try.prog 19 [hopV p n U T Z C S, .int .i64 m] [] (Ret (modV m (trivF n m Z))) := by
  refine Spec.ret rfl (Spec.of_vc tabOK tabEq Try.func19 rfl (by kernel_rfl) rfl rfl ?_)
  refine LoopVC.of (fun i : Nat => i ≤ n) (fun i => [(1, .int .i64 m), (2, .ptr 0 [] 0 0), (4, .ptr 1 [] 0 0), (5, .ptr 2 [] 0 0), (6, .int .i64 i)])
    (fun i => [some (hopV p n U T Z C S, 1106), some (modV 0 fun _ => 0, 513), some (modV m (trivF i m Z), 513)]) (fun i => n - i) 0 (by omega) ?_ ?_ ?_
  · exact (And.intro rfl (And.intro rfl (And.intro rfl (And.intro rfl (And.intro rfl (trivial))))))
  · exact And.intro (And.intro (hopR p n U T Z C S) rfl) (And.intro (And.intro (modR 0 _) rfl) (And.intro (And.intro (modE m fun q _ => by simp [trivF]) rfl) trivial))
  · intro i hi
    refine ifVC_split (fun h => ?_) (fun h => ?_)
    · have hlt := of_decide_eq_true h
      have hidx : (i : Int).toNat = i := by omega
      refine LoopVC.of (fun k : Nat => k ≤ m) (fun k => [(1, .int .i64 m), (2, .ptr 0 [] 0 0), (4, .ptr 1 [] 0 0), (5, .ptr 2 [] 0 0), (6, .int .i64 i), (7, .int .i64 k)])
        (fun k => [some (hopV p n U T Z C S, 1106), some (modV 0 fun _ => 0, 513), some (modV m fun q => if q / 64 < i ∨ (q / 64 = i ∧ q / 8 % 8 < k) then trivF n m Z q else 0, 513)]) (fun k => m - k) 0 (by omega) ?_ ?_ ?_
      · exact (And.intro rfl (And.intro rfl (And.intro rfl (And.intro rfl (And.intro rfl (And.intro rfl (trivial)))))))
      · refine And.intro (And.intro (hopR p n U T Z C S) rfl) (And.intro (And.intro (modR 0 _) rfl) (And.intro (And.intro (modE m fun q _ => ?_) rfl) trivial))
        show trivF i m Z q = _
        unfold trivF
        by_cases h1 : q / 64 < i
        · rw [if_pos (show q / 64 < i ∨ _ from .inl h1)]
          by_cases h2 : q / 8 % 8 < m ∧ q % 8 = q / 8 % 8
          · rw [if_pos ⟨h1, h2⟩, if_pos ⟨by omega, h2⟩]
          · rw [if_neg fun e => h2 e.2, if_neg fun e => h2 e.2]
        · rw [if_neg fun e => h1 e.1, if_neg (by omega)]
      · intro k hk
        refine ifVC_split (fun h => ?_) (fun h => ?_)
        · have hltk := of_decide_eq_true h
          have hkdx : (k : Int).toNat = k := by omega
          refine Exists.intro 11 (And.intro (by kernel_rfl) ?_)
          (repeat (first | refine And.intro (by omega) ?_ | refine And.intro ⟨by omega, by omega⟩ ?_))
          refine Exists.intro (k + 1) (And.intro (by omega) (And.intro (by omega) (And.intro (And.intro rfl (And.intro rfl (And.intro rfl (And.intro rfl (And.intro rfl (And.intro (slotI (wrapS (by omega))) trivial)))))) ?_)))
          refine And.intro (And.intro (hopR p n U T Z C S) rfl) (And.intro (And.intro (modR 0 _) rfl) (And.intro (And.intro (modE m fun q hq => ?_) rfl) trivial))
          show upd1 _ ((k : Int).toNat * 1 + ((k : Int).toNat * 8 + ((i : Int).toNat * 64 + 0))) _ q = _
          unfold upd1
          rw [hidx, hkdx]
          dsimp only
          by_cases h1 : q = k * 1 + (k * 8 + (i * 64 + 0))
          · have hk8 : k < 8 := by omega
            have e2 : q / 64 = i := by omega
            have e3 : q % 8 = k := by omega
            have e1 : q / 8 = 8 * i + k := by omega
            have e4 : q / 8 % 8 = k := by omega
            rw [if_pos h1, if_pos (by omega)]
            unfold trivF
            rw [if_pos (by omega), e2, show i * 1 + 0 = i by omega]
          · rw [if_neg h1]
            by_cases h2 : q / 64 < i ∨ (q / 64 = i ∧ q / 8 % 8 < k)
            · rw [if_pos h2, if_pos (by omega)]
            · rw [if_neg h2]
              by_cases h3 : q / 64 < i ∨ (q / 64 = i ∧ q / 8 % 8 < k + 1)
              · rw [if_pos h3]
                unfold trivF
                rw [if_neg (by omega)]
              · rw [if_neg h3]
        · have hge := of_decide_eq_false h
          obtain rfl : k = m := by omega
          refine Exists.intro (i + 1) (And.intro (by omega) (And.intro (by omega) (And.intro (And.intro rfl (And.intro rfl (And.intro rfl (And.intro rfl (And.intro (slotI (wrapS (by omega))) trivial))))) ?_)))
          refine And.intro (And.intro (hopR p n U T Z C S) rfl) (And.intro (And.intro (modR 0 _) rfl) (And.intro (And.intro (modE k fun q _ => ?_) rfl) trivial))
          show (if q / 64 < i ∨ (q / 64 = i ∧ q / 8 % 8 < k) then trivF n k Z q else 0) = trivF (i + 1) k Z q
          unfold trivF
          by_cases h2 : q / 8 % 8 < k ∧ q % 8 = q / 8 % 8
          · by_cases h1 : q / 64 < i + 1
            · rw [if_pos (show q / 64 < i ∨ (q / 64 = i ∧ q / 8 % 8 < k) by omega), if_pos ⟨by omega, h2⟩, if_pos ⟨h1, h2⟩]
            · rw [if_neg (show ¬ (q / 64 < i ∨ (q / 64 = i ∧ q / 8 % 8 < k)) by omega), if_neg fun e => h1 e.1]
          · rw [if_neg (fun e : q / 64 < i + 1 ∧ q / 8 % 8 < k ∧ q % 8 = q / 8 % 8 => h2 e.2), if_neg (fun e : q / 64 < n ∧ q / 8 % 8 < k ∧ q % 8 = q / 8 % 8 => h2 e.2)]
            simp
    · have hge := of_decide_eq_false h
      obtain rfl : i = n := by omega
      exact modR m _

section
variable (p n : Int) (U T Z C S : Nat → Int) (hU : isU8 8 U) (hT : isU8 512 T) (hZ : isU8 8 Z) (hC : isU8 512 C) (hS : isU8 64 S)
include hU hT hZ hC hS
variable (m : Int)
def trivOk (p n : Int) (U T Z C S : Nat → Int) (m : Int) : Bool := hopB p n U T Z C S && (decide (1 ≤ m) && decide (m ≤ 8))
def trivOut (p n : Int) (U T Z C S : Nat → Int) (m : Int) : SV := .tcons (modV (if trivOk p n U T Z C S m = true then m else 0) fun q => if trivOk p n U T Z C S m = true then trivF n.toNat m.toNat Z q else 0) (.tcons (.int .i64 (if hopB p n U T Z C S = true then (if (decide (1 ≤ m) && decide (m ≤ 8)) = true then 0 else 2) else 1)) .tnil)
theorem implTrivial_s : Spec Try.prog 10 [hopV p n U T Z C S, .int .i64 m] [] (Ret (trivOut p n U T Z C S m)) := by
  refine Spec.ret rfl (Spec.of_vc tabOK tabEq Try.func10 rfl (by kernel_rfl) rfl rfl ?_)
  refine And.intro trivial (Spec.mono (isHopf_s p n U T Z C S hU hT hZ hC hS) ?_)
  rintro r m' ⟨rfl, rfl⟩
  refine ifVC_split (fun hc => ?_) (fun hc => ?_)
  · have hc : hopB p n U T Z C S = false := by simpa using hc
    have hk : trivOk p n U T Z C S m = false := by unfold trivOk; rw [hc]; rfl
    exact And.intro (modE2 (by simp [hk]) fun q _ => by simp [hk]) (And.intro (slotI (by simp [hc])) rfl)
  have hc : hopB p n U T Z C S = true := by simpa using hc
  have out : (decide (1 ≤ m) && decide (m ≤ 8)) = false → SV.eqv (.tcons (modV 0 fun _ => 0) (.tcons (.int .i64 2) .tnil)) (trivOut p n U T Z C S m) := fun h => by
    have hk : trivOk p n U T Z C S m = false := by unfold trivOk; rw [h]; simp
    exact And.intro (modE2 (by simp [hk]) fun q _ => by simp [hk]) (And.intro (slotI (by rw [if_pos hc, if_neg (by rw [h]; simp)])) rfl)
  refine ifVC_split (fun h1 => ?_) (fun h1 => ?_)
  · have h1 := of_decide_eq_true h1
    exact out (by rw [decide_eq_false (show ¬ (1 ≤ m) by omega)]; rfl)
  have h1 := of_decide_eq_false h1
  refine ifVC_split (fun h2 => ?_) (fun h2 => ?_)
  · have h2 := of_decide_eq_true h2
    exact out (by rw [decide_eq_false (show ¬ (m ≤ 8) by omega)]; simp)
  have h2 := of_decide_eq_false h2
  obtain ⟨n, rfl, hV⟩ := hopB_valid hU hT hZ hC hS hc
  have hn := hV.a.hn
  obtain ⟨m, rfl⟩ : ∃ k : Nat, m = k := ⟨m.toNat, by omega⟩
  have hi : (decide (1 ≤ (m : Int)) && decide ((m : Int) ≤ 8)) = true := by simp; omega
  have hk : trivOk p n U T Z C S m = true := by unfold trivOk; rw [hc, hi]; rfl
  refine And.intro trivial (Spec.mono (moduleOfTriv_s p n U T Z C S m m hn (fun i => addMapF p (fun _ => 0) (Z i) (idF m)) (trivDim_s p n U T Z C S m) (fun i hi => trivAct_s p n U T Z C S m i hV.a.hp hZ (by omega) (by omega))) ?_)
  rintro r m' ⟨rfl, rfl⟩
  refine And.intro (modE2 (by simp [hk]) fun q hq => ?_) (And.intro (slotI (by rw [if_pos hc, if_pos hi])) rfl)
  rw [if_pos hk, Int.toNat_natCast, Int.toNat_natCast]
  exact triv_eq (fun j hj => hV.c.ult j hj) hn hq
theorem specTrivial_s : Spec Try.prog 9 [hopV p n U T Z C S, .int .i64 m] [] (Ret (trivOut p n U T Z C S m)) := by
  refine Spec.ret rfl (Spec.of_vc tabOK tabEq Try.func9 rfl (by kernel_rfl) rfl rfl ?_)
  refine And.intro trivial (Spec.mono (l03Is_s p n U T Z C S hU hT hZ hC hS) ?_)
  rintro r m' ⟨rfl, rfl⟩
  refine ifVC_split (fun hc => ?_) (fun hc => ?_)
  · have hc : hopB p n U T Z C S = false := by simpa using hc
    have hk : trivOk p n U T Z C S m = false := by unfold trivOk; rw [hc]; rfl
    exact And.intro (modE2 (by simp [hk]) fun q _ => by simp [hk]) (And.intro (slotI (by simp [hc])) rfl)
  have hc : hopB p n U T Z C S = true := by simpa using hc
  refine And.intro trivial (Spec.mono (l01In_s m 1 8) ?_)
  rintro r m' ⟨rfl, rfl⟩
  refine ifVC_split (fun h => ?_) (fun h => ?_)
  · have h : (decide (1 ≤ m) && decide (m ≤ 8)) = false := by simpa only [Bool.not_eq_true'] using h
    have hk : trivOk p n U T Z C S m = false := by unfold trivOk; rw [h]; simp
    exact And.intro (modE2 (by simp [hk]) fun q _ => by simp [hk]) (And.intro (slotI (by rw [if_pos hc, if_neg (by rw [h]; simp)])) rfl)
  have hi : (decide (1 ≤ m) && decide (m ≤ 8)) = true := by simpa only [Bool.not_eq_false'] using h
  have hi' := hi
  simp only [Bool.and_eq_true, decide_eq_true_eq] at hi'
  have hk : trivOk p n U T Z C S m = true := by unfold trivOk; rw [hc, hi]; rfl
  obtain ⟨n, rfl, hV⟩ := hopB_valid hU hT hZ hC hS hc
  have hn := hV.a.hn
  obtain ⟨m, rfl⟩ : ∃ k : Nat, m = k := ⟨m.toNat, by omega⟩
  refine And.intro trivial (Spec.mono (l06Trivial_s p n m U T Z C S hn (by omega)) ?_)
  rintro r m' ⟨rfl, rfl⟩
  exact And.intro (modE2 (by simp [hk]) fun q _ => by rw [if_pos hk, Int.toNat_natCast, Int.toNat_natCast]) (And.intro (slotI (by rw [if_pos hc, if_pos hi])) rfl)
theorem lawTrivial_c : Spec Try.prog 4 [hopV p n U T Z C S, .int .i64 m] [] (Ret (.bool true)) := by
  refine Spec.ret rfl (Spec.of_vc tabOK tabEq Try.func4 rfl (by kernel_rfl) rfl rfl ?_)
  refine And.intro trivial (Spec.mono (toHopf_s p n U T Z C S) ?_)
  rintro r m' ⟨rfl, rfl⟩
  refine And.intro trivial (Spec.mono (specTrivial_s p n U T Z C S hU hT hZ hC hS m) ?_)
  rintro r m' ⟨rfl, rfl⟩
  (repeat (first | refine And.intro (by omega) ?_ | refine And.intro ⟨by omega, by omega⟩ ?_))
  refine And.intro trivial (Spec.mono (toHopf_s p n U T Z C S) ?_)
  rintro r m' ⟨rfl, rfl⟩
  refine And.intro trivial (Spec.mono (implTrivial_s p n U T Z C S hU hT hZ hC hS m) ?_)
  rintro r m' ⟨rfl, rfl⟩
  (repeat (first | refine And.intro (by omega) ?_ | refine And.intro ⟨by omega, by omega⟩ ?_))
  refine And.intro trivial (Spec.mono (eqModule_s _ _ _ (allEq_self 512 _)) ?_)
  rintro r m' ⟨rfl, rfl⟩
  refine ifVC_false (by simp) ?_
  exact boolEq rfl
end
end Go.Proofs.Ytcocapkdpbdmdac
