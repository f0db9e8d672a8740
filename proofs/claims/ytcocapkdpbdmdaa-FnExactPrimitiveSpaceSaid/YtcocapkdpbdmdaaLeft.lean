/- Left tables and their traces, on both sides, and the laws. -/
import Derived.Test.YtcocapkdpbdmdaaEqs
import Derived.Test.YtcocapkdpbdmdaaPow
set_option linter.unusedVariables false
set_option linter.unusedSimpArgs false
set_option maxRecDepth 100000
namespace Go.Proofs.Ytcocapkdpbdmdaa
open M

def leftV (p n : Int) (U T v : Nat → Int) : SV := .tcons (.ints .u8 64 fun q => if oneOk p n U T v = true then leftT p T v q else 0) (.tcons (.int .i64 (if oneOk p n U T v = true then 0 else 1)) .tnil)

/-- the trace of a map -/
def traceN (p : Int) (k : Nat) (F : Nat → Int) : Int := sumN k (fun i => F (i * 8 + i)) % p
theorem trace_bound {F : Nat → Int} (hF : isU8 64 F) (k : Nat) (hk : k ≤ 8) : 0 ≤ sumN k (fun i => F (i * 8 + i)) ∧ sumN k (fun i => F (i * 8 + i)) ≤ 65025 * k :=
  sum_bound k fun i hi => by have := hF (i * 8 + i) (by omega); omega

theorem trace_eq {p : Int} {n : Nat} {U T : Nat → Int} (hV : Valid p n U T) (v : Nat → Int) : traceN p n (leftT p T v) = traceN p 8 (leftT p T v) := by
  unfold traceN
  rw [sumN_cut 8 hV.hn fun i h1 h2 => leftT_zero hV v h2 h2 (.inl h1)]

def traceV (p n : Int) (U T v : Nat → Int) : SV := .tcons (.int .i64 (if oneOk p n U T v = true then traceN p 8 (leftT p T v) else 0)) (.tcons (.int .i64 (if oneOk p n U T v = true then 0 else 1)) .tnil)

end Go.Proofs.Ytcocapkdpbdmdaa
