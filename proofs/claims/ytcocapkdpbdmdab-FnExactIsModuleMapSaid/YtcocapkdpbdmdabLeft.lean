/- Left tables and their traces, on both sides, and the laws. -/
import Derived.Test.YtcocapkdpbdmdabEqs
import Derived.Test.YtcocapkdpbdmdabPow
set_option linter.unusedVariables false
set_option maxRecDepth 100000
namespace Go.Proofs.Ytcocapkdpbdmdab
open M

def leftV (p n : Int) (U T v : Nat → Int) : SV := .tcons (.ints .u8 64 fun q => if oneOk p n U T v = true then leftT p T v q else 0) (.tcons (.int .i64 (if oneOk p n U T v = true then 0 else 1)) .tnil)

/-- the trace of a map -/
def traceN (p : Int) (k : Nat) (F : Nat → Int) : Int := sumN k (fun i => F (i * 8 + i)) % p
theorem trace_bound {F : Nat → Int} (hF : isU8 64 F) (k : Nat) (hk : k ≤ 8) : 0 ≤ sumN k (fun i => F (i * 8 + i)) ∧ sumN k (fun i => F (i * 8 + i)) ≤ 65025 * k :=
  sum_bound k fun i hi => by have := hF (i * 8 + i) (by omega); omega

theorem traceOfMap_s (p : Int) (F : Nat → Int) (hp : 0 < p ∧ p < 256) (hF : isU8 64 F) : Spec Try.prog 34 [.int .i64 p, .ints .u8 64 F] [] (Ret (.int .i64 (traceN p 8 F))) := by
  refine Spec.ret rfl (Spec.of_vc tabOK tabEq Try.func34 rfl (by kernel_rfl) rfl rfl ?_)
  (repeat (first | refine And.intro (by omega) ?_ | refine And.intro ⟨by omega, by omega⟩ ?_))
  refine LoopVC.of (fun i : Nat => i ≤ 8) (fun i => [(0, .int .i64 p), (5, .int .i64 (sumN i fun a => F (a * 8 + a))), (8, .ints .u8 64 F), (9, .int .i64 i)]) (fun _ => [none]) (fun i => 8 - i) 0 (by omega) ?_ ?_ ?_
  · exact And.intro rfl (And.intro rfl (And.intro (rowEq fun _ _ => rfl) (And.intro rfl trivial)))
  · exact trivial
  · intro i hi
    have hb := trace_bound hF i hi
    refine ifVC_split (fun h => ?_) (fun h => ?_)
    · have hlt := of_decide_eq_true h
      have hidx : (i : Int).toNat = i := by omega
      have hFi := hF (i * 8 + i) (by omega)
      (repeat (first | refine And.intro (by omega) ?_ | refine And.intro ⟨by omega, by omega⟩ ?_))
      refine Exists.intro (i + 1) (And.intro (by omega) (And.intro (by omega) (And.intro (And.intro rfl (And.intro (slotI ?_) (And.intro (rowEq fun _ _ => rfl) (And.intro (slotI (wrapS (by omega))) trivial)))) trivial)))
      show IntKind.i64.wrap (sumN i (fun a => F (a * 8 + a)) + IntKind.i64.wrap (updR (fun _ => 0) 0 8 (fun j => F (j + (i : Int).toNat * 8)) ((i : Int).toNat * 1 + 0))) = _
      have e : updR (fun _ => 0) 0 8 (fun j => F (j + (i : Int).toNat * 8)) ((i : Int).toNat * 1 + 0) = F (i * 8 + i) := by
        unfold updR
        rw [hidx, if_pos (by omega)]
        show F _ = F _
        congr 1
        omega
      rw [e, wrapI (x := F (i * 8 + i)) (by omega), wrapI (by omega)]
      rfl
    · have hge := of_decide_eq_false h
      obtain rfl : i = 8 := by omega
      (repeat (first | refine And.intro (by omega) ?_ | refine And.intro ⟨by omega, by omega⟩ ?_))
      refine slotI ?_
      rw [Int.tmod_eq_emod_of_nonneg hb.1]
      rfl

theorem l01Trace_s (p : Int) (n : Nat) (F : Nat → Int) (hp : 0 < p ∧ p < 256) (hn : n ≤ 8) (hF : isU8 64 F) : Spec Try.prog 33 [.int .i64 p, .int .i64 n, .ints .u8 64 F] [] (Ret (.int .i64 (traceN p n F))) := by
  refine Spec.ret rfl (Spec.of_vc tabOK tabEq Try.func33 rfl (by kernel_rfl) rfl rfl ?_)
  refine LoopVC.of (fun i : Nat => i ≤ n) (fun i => [(0, .int .i64 p), (1, .int .i64 n), (5, .ptr 0 [] 0 0), (7, .int .i64 (sumN i fun a => F (a * 8 + a))), (8, .int .i64 i)]) (fun _ => [some (.ints .u8 64 F, 64)]) (fun i => n - i) 0 (by omega) ?_ ?_ ?_
  · exact (And.intro rfl (And.intro rfl (And.intro rfl (And.intro rfl (And.intro rfl (trivial))))))
  · exact And.intro (And.intro (rowEq fun _ _ => rfl) rfl) trivial
  · intro i hi
    have hb := trace_bound hF i (by omega)
    refine ifVC_split (fun h => ?_) (fun h => ?_)
    · have hlt := of_decide_eq_true h
      have hidx : (i : Int).toNat = i := by omega
      have hFi := hF (i * 8 + i) (by omega)
      (repeat (first | refine And.intro (by omega) ?_ | refine And.intro ⟨by omega, by omega⟩ ?_))
      refine Exists.intro (i + 1) (And.intro (by omega) (And.intro (by omega) (And.intro (And.intro rfl (And.intro rfl (And.intro rfl (And.intro (slotI ?_) (And.intro (slotI (wrapS (by omega))) trivial))))) (And.intro (And.intro (rowEq fun _ _ => rfl) rfl) trivial))))
      have e : F ((i : Int).toNat * 1 + ((i : Int).toNat * 8 + 0)) = F (i * 8 + i) := by rw [hidx]; congr 1; omega
      rw [e, wrapI (x := F (i * 8 + i)) (by omega), wrapI (by omega)]
      rfl
    · have hge := of_decide_eq_false h
      obtain rfl : i = n := by omega
      (repeat (first | refine And.intro (by omega) ?_ | refine And.intro ⟨by omega, by omega⟩ ?_))
      refine slotI ?_
      rw [Int.tmod_eq_emod_of_nonneg hb.1]
      rfl

theorem trace_eq {p : Int} {n : Nat} {U T : Nat → Int} (hV : Valid p n U T) (v : Nat → Int) : traceN p n (leftT p T v) = traceN p 8 (leftT p T v) := by
  unfold traceN
  rw [sumN_cut 8 hV.hn fun i h1 h2 => leftT_zero hV v h2 h2 (.inl h1)]

def traceV (p n : Int) (U T v : Nat → Int) : SV := .tcons (.int .i64 (if oneOk p n U T v = true then traceN p 8 (leftT p T v) else 0)) (.tcons (.int .i64 (if oneOk p n U T v = true then 0 else 1)) .tnil)

end Go.Proofs.Ytcocapkdpbdmdab
