/- Left tables and their traces, on both sides, and the laws. -/
import Derived.Test.YtojfjcbblkiajaaEqs
import Derived.Test.YtojfjcbblkiajaaPow
set_option linter.unusedVariables false
set_option maxRecDepth 100000
namespace Go.Proofs.Ytojfjcbblkiajaa
open M

theorem l01Left_s (p : Int) (n : Nat) (U T v : Nat → Int) (hV : Valid p n U T) (hT : isU8 512 T) (hv : isU8 8 v) (hz : ∀ i, n ≤ i → i < 8 → v i = 0) :
    Spec Try.prog 17 [algV p n U T, .ints .u8 8 v] [] (Ret (.ints .u8 64 (leftT p T v))) := by
  have hn := hV.hn
  refine Spec.ret rfl (Spec.of_vc tabOK tabEq Try.func17 rfl (by kernel_rfl) rfl rfl ?_)
  (repeat (first | refine And.intro (by omega) ?_ | refine And.intro ⟨by omega, by omega⟩ ?_))
  refine LoopVC.of (fun i : Nat => i ≤ n) (fun i => [(2, .ptr 0 [] 0 0), (3, .ptr 1 [] 0 0), (4, .ptr 2 [] 0 0), (5, .ptr 3 [] 0 0), (6, .int .i64 i)])
    (fun i => [some (algV p n U T, 522), some (.ints .u8 8 v, 8), some (.ints .u8 64 fun _ => 0, 64), some (.ints .u8 64 fun q => if q < i * 8 then leftT p T v q else 0, 64)]) (fun i => n - i) 0 (by omega) ?_ ?_ ?_
  · exact (And.intro rfl (And.intro rfl (And.intro rfl (And.intro rfl (And.intro rfl (trivial))))))
  · exact And.intro (And.intro (algR p n U T) rfl) (And.intro (And.intro (rowEq fun _ _ => rfl) rfl) (And.intro (And.intro (rowEq fun _ _ => rfl) rfl) (And.intro (And.intro (rowEq fun q hq => by show updR _ 0 64 _ q = _; simp [updR, hq]) rfl) trivial)))
  · intro i hi
    refine ifVC_split (fun h => ?_) (fun h => ?_)
    · have hlt := of_decide_eq_true h
      have hidx : (i : Int).toNat = i := by omega
      refine Exists.intro 6 (And.intro (by kernel_rfl) ?_)
      (repeat (first | refine And.intro (by omega) ?_ | refine And.intro ⟨by omega, by omega⟩ ?_))
      refine Exists.intro (.ints .u8 8 (unitV i)) (And.intro (And.intro rfl (And.intro rfl (Spec.mono (l01Basis_s i (by omega)) ?_))) ?_)
      · rintro r m ⟨rfl, _⟩
        simp only [Int.toNat_natCast]
      refine Exists.intro (.ints .u8 8 fun m => timS p n T v (unitV i) n m % p) (And.intro (And.intro rfl (And.intro rfl (Spec.mono (l01Times_s p n U T _ _ hV.hp hn hT (fun j hj => hv _ (by omega)) (unitV_u8 i 8)) fun r m h => h.1))) ?_)
      (repeat (first | refine And.intro (by omega) ?_ | refine And.intro ⟨by omega, by omega⟩ ?_))
      refine Exists.intro (i + 1) (And.intro (by omega) (And.intro (by omega) (And.intro (And.intro rfl (And.intro rfl (And.intro rfl (And.intro rfl (And.intro (slotI (wrapS (by omega))) trivial))))) ?_)))
      refine And.intro (And.intro (algR p n U T) rfl) (And.intro (And.intro (rowEq fun _ _ => rfl) rfl) (And.intro (And.intro (rowEq fun _ _ => rfl) rfl) (And.intro (And.intro (rowEq fun q hq => ?_) rfl) trivial)))
      show updR _ ((i : Int).toNat * 8 + 0) 8 (fun m => timS p n T v (unitV i) n m % p) q = if q < (i + 1) * 8 then leftT p T v q else 0
      unfold updR
      rw [hidx]
      dsimp only
      by_cases h1 : i * 8 + 0 ≤ q ∧ q < i * 8 + 0 + 8
      · rw [if_pos h1, if_pos (by omega), times_unit hV hz (by omega) (by omega)]
        unfold leftT
        congr 1 <;> omega
      · rw [if_neg h1]
        by_cases h2 : q < i * 8
        · rw [if_pos h2, if_pos (by omega)]
        · rw [if_neg h2, if_neg (by omega)]
    · have hge := of_decide_eq_false h
      obtain rfl : i = n := by omega
      (repeat (first | refine And.intro (by omega) ?_ | refine And.intro ⟨by omega, by omega⟩ ?_))
      refine rowEq fun q hq => ?_
      show updR _ 0 64 _ q = leftT p T v q
      by_cases h2 : q < i * 8
      · simp [updR, hq, h2]
      · have := leftT_zero hV v (j := q / 8) (m := q % 8) (by omega) (by omega) (.inl (by omega))
        rw [show q / 8 * 8 + q % 8 = q by omega] at this
        simp [updR, hq, h2, this]

def leftV (p n : Int) (U T v : Nat → Int) : SV := .tcons (.ints .u8 64 fun q => if oneOk p n U T v = true then leftT p T v q else 0) (.tcons (.int .i64 (if oneOk p n U T v = true then 0 else 1)) .tnil)

/-- the trace of a map -/
def traceN (p : Int) (k : Nat) (F : Nat → Int) : Int := sumN k (fun i => F (i * 8 + i)) % p
theorem trace_bound {F : Nat → Int} (hF : isU8 64 F) (k : Nat) (hk : k ≤ 8) : 0 ≤ sumN k (fun i => F (i * 8 + i)) ∧ sumN k (fun i => F (i * 8 + i)) ≤ 65025 * k :=
  sum_bound k fun i hi => by have := hF (i * 8 + i) (by omega); omega

theorem trace_eq {p : Int} {n : Nat} {U T : Nat → Int} (hV : Valid p n U T) (v : Nat → Int) : traceN p n (leftT p T v) = traceN p 8 (leftT p T v) := by
  unfold traceN
  rw [sumN_cut 8 hV.hn fun i h1 h2 => leftT_zero hV v h2 h2 (.inl h1)]

def traceV (p n : Int) (U T v : Nat → Int) : SV := .tcons (.int .i64 (if oneOk p n U T v = true then traceN p 8 (leftT p T v) else 0)) (.tcons (.int .i64 (if oneOk p n U T v = true then 0 else 1)) .tnil)

end Go.Proofs.Ytojfjcbblkiajaa
