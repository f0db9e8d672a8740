/- All group-like vectors: counting up on both sides, and lists that grow. -/
import Derived.Test.YtmhebgcnloomaaaCo3
set_option linter.unusedVariables false
set_option maxRecDepth 100000
set_option maxHeartbeats 1000000
namespace Go.Proofs.Ytmhebgcnloomaaa
open M

def digF (p n m : Nat) : Nat → Int := fun i => if i < n then ((m / p ^ (n - 1 - i) % p : Nat) : Int) else 0
theorem dig_pred {p k m t : Nat} (hp : 0 < p) (ht : m + 1 = p ^ k * t) : 0 < t ∧ m / p ^ k = t - 1 ∧ (m + 1) / p ^ k = t := by
  have hpk : 0 < p ^ k := Nat.pow_pos hp
  have h0 : 0 < t := by
    rcases Nat.eq_zero_or_pos t with rfl | h
    · rw [Nat.mul_zero] at ht; omega
    · exact h
  refine ⟨h0, ?_, by rw [ht]; exact Nat.mul_div_cancel_left t hpk⟩
  obtain ⟨s, rfl⟩ : ∃ s, t = s + 1 := ⟨t - 1, by omega⟩
  rw [Nat.mul_add, Nat.mul_one, Nat.mul_comm] at ht
  refine Nat.div_eq_of_lt_le ?_ ?_
  · show (s + 1 - 1) * p ^ k ≤ m
    rw [Nat.add_sub_cancel]; omega
  · show m < (s + 1 - 1 + 1) * p ^ k
    rw [Nat.add_sub_cancel, Nat.add_mul, Nat.one_mul]; omega
theorem dig_up {p k m : Nat} (hp : 0 < p) (hd : p ^ k ∣ m + 1) (h : m / p ^ k % p + 1 < p) (l : Nat) : (m + 1) / p ^ k % p = m / p ^ k % p + 1 ∧ (m + 1) / p ^ (k + 1 + l) = m / p ^ (k + 1 + l) := by
  obtain ⟨t, ht⟩ := hd
  obtain ⟨h0, h1, h2⟩ := dig_pred hp ht
  rw [h1] at h
  have hq := Nat.div_add_mod (t - 1) p
  have ht2 : t = p * ((t - 1) / p) + ((t - 1) % p + 1) := by omega
  have e1 : t % p = (t - 1) % p + 1 := by
    conv => lhs; rw [ht2, Nat.mul_add_mod]
    exact Nat.mod_eq_of_lt h
  have e2 : t / p = (t - 1) / p := by
    conv => lhs; rw [ht2, Nat.mul_add_div hp, Nat.div_eq_of_lt h]
    omega
  refine ⟨by rw [h1, h2, e1], ?_⟩
  rw [Nat.pow_add, Nat.pow_add, Nat.pow_one, ← Nat.div_div_eq_div_mul, ← Nat.div_div_eq_div_mul, ← Nat.div_div_eq_div_mul, ← Nat.div_div_eq_div_mul, h1, h2, e2]
theorem dig_carry {p k m : Nat} (hp : 0 < p) (hd : p ^ k ∣ m + 1) (h : ¬ m / p ^ k % p + 1 < p) : (m + 1) / p ^ k % p = 0 ∧ p ^ (k + 1) ∣ m + 1 := by
  obtain ⟨t, ht⟩ := hd
  obtain ⟨h0, h1, h2⟩ := dig_pred hp ht
  rw [h1] at h
  have hlt := Nat.mod_lt (t - 1) hp
  have hq := Nat.div_add_mod (t - 1) p
  have ht2 : t = p * ((t - 1) / p + 1) := by rw [Nat.mul_add, Nat.mul_one]; omega
  refine ⟨by rw [h2, ht2, Nat.mul_mod_right], ⟨(t - 1) / p + 1, ?_⟩⟩
  rw [Nat.pow_succ, Nat.mul_assoc, ← ht2, ht]
theorem dig_last {p k m n : Nat} (hp : 0 < p) (hk : k < n) (hd : p ^ k ∣ m + 1) (h : m / p ^ k % p + 1 < p) : m + 1 ≠ p ^ n := by
  intro e
  have h1 := (dig_up hp hd h 0).1
  rw [e] at h1
  rw [show n = k + 1 + (n - k - 1) by omega, Nat.pow_add, Nat.pow_succ, Nat.mul_assoc, Nat.mul_div_cancel_left _ (Nat.pow_pos hp), Nat.mul_mod_right] at h1
  omega
theorem digF_zero (p n i : Nat) : digF p n 0 i = 0 := by unfold digF; split <;> simp

theorem digF_u8 {p : Nat} (n m : Nat) (hp : 0 < p ∧ p < 256) : isU8 8 (digF p n m) := fun i hi => by
  unfold digF
  split
  · have := Nat.mod_lt (m / p ^ (n - 1 - i)) hp.1
    omega
  · omega
theorem digF_out {p n m i : Nat} (h : n ≤ i) : digF p n m i = 0 := by unfold digF; rw [if_neg (by omega)]
theorem pow_small {p n : Nat} (hp : p ≤ 31) (hn : n ≤ 8) : p ^ n ≤ 852891037441 :=
  Nat.le_trans (Nat.pow_le_pow_left hp n) (Nat.le_trans (Nat.pow_le_pow_right (by omega) hn) (by decide))

theorem countVectors_s (p n : Nat) (hp : p ≤ 31) (hn : n ≤ 8) : Spec Try.prog 32 [.int .i64 p, .int .i64 n] [] (Ret (.int .i64 ((p ^ n : Nat) : Int))) := by
  refine Spec.ret rfl (Spec.of_vc tabOK tabEq Try.func32 rfl (by kernel_rfl) rfl rfl ?_)
  refine LoopVC.of (fun i : Nat => i ≤ n) (fun i => [(0, .int .i64 p), (5, .int .i64 ((p ^ i : Nat) : Int)), (6, .int .i64 n), (7, .int .i64 i)]) (fun _ => []) (fun i => n - i) 0 (by omega) ?_ trivial ?_
  · exact And.intro rfl (And.intro (slotI (by simp)) (And.intro rfl (And.intro rfl trivial)))
  · intro i hi
    refine ifVC_split (fun h => ?_) (fun h => ?_)
    · have hlt := of_decide_eq_true h
      have hb : p ^ i.succ ≤ 852891037441 := pow_small hp (by omega)
      refine Exists.intro (i + 1) (And.intro (by omega) (And.intro (by omega) (And.intro (And.intro rfl (And.intro (slotI ?_) (And.intro rfl (And.intro (slotI (wrapS (by omega))) trivial)))) trivial)))
      show IntKind.i64.wrap (((p ^ i : Nat) : Int) * (p : Int)) = _
      rw [← Int.natCast_mul, ← Nat.pow_succ]
      exact wrapI (by omega)
    · have hge := of_decide_eq_false h
      obtain rfl : i = n := by omega
      exact slotI rfl

theorem l02Count_s (p n : Nat) (hp : p ≤ 31) (hp1 : 1 ≤ p) (hn : n ≤ 8) : Spec Try.prog 29 [.int .i64 p, .int .i64 n] [] (Ret (.int .i64 (if (5001 : Int) < ((p ^ n : Nat) : Int) then 5001 else ((p ^ n : Nat) : Int)))) := by
  refine Spec.ret rfl (Spec.of_vc tabOK tabEq Try.func29 rfl (by kernel_rfl) rfl rfl ?_)
  refine LoopVC.of (fun i : Nat => i ≤ n) (fun i => [(0, .int .i64 p), (1, .int .i64 ((n : Int) - i)), (5, .int .i64 ((p ^ i : Nat) : Int))]) (fun _ => []) (fun i => n - i) 0 (by omega) ?_ trivial ?_
  · exact And.intro rfl (And.intro (slotI (by omega)) (And.intro (slotI (by simp)) trivial))
  · intro i hi
    have out : ¬ (i < n ∧ p ^ i ≤ 5000) → (if (5001 : Int) < ((p ^ i : Nat) : Int) then (5001 : Int) else ((p ^ i : Nat) : Int)) = (if (5001 : Int) < ((p ^ n : Nat) : Int) then 5001 else ((p ^ n : Nat) : Int)) := fun hh => by
      by_cases hin : i = n
      · subst hin; rfl
      · have h1 : p ^ i ≤ p ^ n := Nat.pow_le_pow_right hp1 hi
        have h2 : ¬ p ^ i ≤ 5000 := fun h2 => hh ⟨by omega, h2⟩
        generalize p ^ i = a at *
        generalize p ^ n = b at *
        split <;> split <;> omega
    refine ifVC_split (fun h => ?_) (fun h => ?_)
    · have hlt := of_decide_eq_true h
      refine ifVC_split (fun h2 => ?_) (fun h2 => ?_)
      · have h2 := of_decide_eq_true h2
        have hb : p ^ i.succ ≤ 852891037441 := pow_small hp (by omega)
        refine Exists.intro (i + 1) (And.intro (by omega) (And.intro (by omega) (And.intro (And.intro rfl (And.intro (slotI (by rw [wrapI (by omega)]; omega)) (And.intro (slotI ?_) trivial))) trivial)))
        show IntKind.i64.wrap (((p ^ i : Nat) : Int) * (p : Int)) = _
        rw [← Int.natCast_mul, ← Nat.pow_succ]
        exact wrapI (by omega)
      · have h2 := of_decide_eq_false h2
        exact slotI (out fun ⟨_, h3⟩ => h2 (by omega))
    · have hge := of_decide_eq_false h
      exact slotI (out fun ⟨h3, _⟩ => hge (by omega))

theorem countUp_s (p n m : Nat) (hp : 2 ≤ p ∧ p ≤ 31) (hn : 1 ≤ n ∧ n ≤ 8) (hm : m < p ^ n) :
    Spec Try.prog 33 [.int .i64 p, .sl 0 0 n 8] [some (.ints .u8 8 (digF p n m), 8)] (fun r m' => r = .bool (decide (m + 1 < p ^ n)) ∧ m' = [some (.ints .u8 8 (digF p n (m + 1)), 8)]) := by
  refine Spec.cut (Nat.le_refl _) (by simp [SV.ids]) (fun id u c hb => by cases id <;> cases hb; simp [SV.ids]) (Spec.of_vc tabOK tabEq Try.func33 rfl (by kernel_rfl) rfl rfl ?_)
  refine LoopVC.of (fun k : Nat => k ≤ n ∧ p ^ k ∣ m + 1) (fun k => [(0, .int .i64 p), (1, .sl 0 0 n 8), (5, .int .i64 ((n : Int) - 1 - k))]) (fun k => [some (.ints .u8 8 (fun j => if j < n - k then digF p n m j else digF p n (m + 1) j), 8)]) (fun k => n - k) 0 ⟨by omega, by simp⟩ ?_ ?_ ?_
  · exact And.intro rfl (And.intro rfl (And.intro (slotI (by rw [wrapI (by omega)]; omega)) trivial))
  · refine And.intro (And.intro (rowEq fun j hj => ?_) rfl) trivial
    show _ = if j < n - 0 then _ else _
    split
    · rfl
    · rw [digF_out (by omega), digF_out (by omega)]
  · rintro k ⟨hk, hd⟩
    refine ifVC_split (fun h => ?_) (fun h => ?_)
    · have hlt := of_decide_eq_true h
      have hkn : k < n := by omega
      have hp0 : 0 < p := by omega
      have hidx : ((n : Int) - 1 - k).toNat * 1 + 0 = n - 1 - k := by omega
      have hdl := Nat.mod_lt (m / p ^ k) hp0
      have hdig : digF p n m (n - 1 - k) = ((m / p ^ k % p : Nat) : Int) := by unfold digF; rw [if_pos (by omega), show n - 1 - (n - 1 - k) = k by omega]
      have hold : (if ((n : Int) - 1 - k).toNat * 1 + 0 < n - k then digF p n m (((n : Int) - 1 - k).toNat * 1 + 0) else digF p n (m + 1) (((n : Int) - 1 - k).toNat * 1 + 0)) = ((m / p ^ k % p : Nat) : Int) := by
        rw [hidx, if_pos (by omega), hdig]
      have hval : IntKind.i64.wrap (upd1 (fun j => if j < n - k then digF p n m j else digF p n (m + 1) j) (((n : Int) - 1 - k).toNat * 1 + 0) (IntKind.u8.wrap ((if ((n : Int) - 1 - k).toNat * 1 + 0 < n - k then digF p n m (((n : Int) - 1 - k).toNat * 1 + 0) else digF p n (m + 1) (((n : Int) - 1 - k).toNat * 1 + 0)) + 1)) (((n : Int) - 1 - k).toNat * 1 + 0)) = ((m / p ^ k % p : Nat) : Int) + 1 := by
        unfold upd1
        rw [if_pos rfl, hold, wrapB (by omega)]
        exact wrapI (by omega)
      (repeat (first | refine And.intro (by omega) ?_ | refine And.intro ⟨by omega, by omega⟩ ?_))
      refine ifVC_split (fun hc => ?_) (fun hc => ?_)
      · have hc := of_decide_eq_true hc
        have hc : ((m / p ^ k % p : Nat) : Int) + 1 < (p : Int) := Eq.subst (motive := fun x => x < (p : Int)) hval hc
        have hc : m / p ^ k % p + 1 < p := by omega
        have hup := dig_up hp0 hd hc
        have hne := dig_last hp0 hkn hd hc
        refine And.intro (boolEq (by simp; omega)) (And.intro (And.intro (rowEq fun j hj => ?_) rfl) trivial)
        show upd1 _ _ _ j = _
        unfold upd1
        dsimp only
        by_cases hj1 : j = n - 1 - k
        · subst hj1
          rw [if_pos hidx.symm, hold, wrapB (by omega)]
          unfold digF
          rw [if_pos (by omega), show n - 1 - (n - 1 - k) = k by omega, (hup 0).1]
          omega
        · rw [if_neg (by omega)]
          by_cases hj2 : j < n - k
          · rw [if_pos hj2]
            unfold digF
            rw [if_pos (by omega), if_pos (by omega)]
            have := (hup (n - 1 - j - (k + 1))).2
            rw [show k + 1 + (n - 1 - j - (k + 1)) = n - 1 - j by omega] at this
            rw [this]
          · rw [if_neg hj2]
      · have hc := of_decide_eq_false hc
        have hc : ¬ (((m / p ^ k % p : Nat) : Int) + 1 < (p : Int)) := Eq.subst (motive := fun x => ¬ x < (p : Int)) hval hc
        have hc : ¬ m / p ^ k % p + 1 < p := by omega
        have hca := dig_carry hp0 hd hc
        (repeat (first | refine And.intro (by omega) ?_ | refine And.intro ⟨by omega, by omega⟩ ?_))
        refine Exists.intro (k + 1) (And.intro ⟨by omega, hca.2⟩ (And.intro (by omega) (And.intro (And.intro rfl (And.intro rfl (And.intro (slotI (by rw [wrapI (by omega)]; omega)) trivial))) ?_)))
        refine And.intro (And.intro (rowEq fun j hj => ?_) rfl) trivial
        show upd1 _ _ _ j = if j < n - (k + 1) then _ else _
        unfold upd1
        dsimp only
        by_cases hj1 : j = n - 1 - k
        · subst hj1
          rw [if_pos hidx.symm, if_neg (by omega)]
          unfold digF
          rw [if_pos (by omega), show n - 1 - (n - 1 - k) = k by omega, hca.1]
          rfl
        · rw [if_neg (by omega), if_neg (by omega)]
          by_cases hj2 : j < n - k
          · rw [if_pos hj2, if_pos (by omega)]
          · rw [if_neg hj2, if_neg (by omega)]
    · have hge := of_decide_eq_false h
      obtain rfl : k = n := by omega
      have hle := Nat.le_of_dvd (by omega) hd
      refine And.intro (boolEq (by simp; omega)) (And.intro (And.intro (rowEq fun j hj => ?_) rfl) trivial)
      show (if j < k - k then _ else _) = _
      rw [if_neg (by omega)]
end Go.Proofs.Ytmhebgcnloomaaa
