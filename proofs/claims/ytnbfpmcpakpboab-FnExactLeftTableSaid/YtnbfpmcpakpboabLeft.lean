/- Left tables and their traces, on both sides, and the laws. -/
import Derived.Test.YtnbfpmcpakpboabEqs
import Derived.Test.YtnbfpmcpakpboabPow
set_option linter.unusedVariables false
set_option maxRecDepth 100000
namespace Go.Proofs.Ytnbfpmcpakpboab
open M

theorem l01Left_s (p : Int) (n : Nat) (U T v : Nat → Int) (hV : Valid p n U T) (hT : isU8 512 T) (hv : isU8 8 v) (hz : ∀ i, n ≤ i → i < 8 → v i = 0) :
    Spec Try.prog 50 [algV p n U T, .ints .u8 8 v] [] (Ret (.ints .u8 64 (leftT p T v))) := by
  have hn := hV.hn
  refine Spec.ret rfl (Spec.of_vc tabOK tabEq Try.func50 rfl (by kernel_rfl) rfl rfl ?_)
  (repeat (first | refine And.intro (by omega) ?_ | refine And.intro ⟨by omega, by omega⟩ ?_))
  refine LoopVC.of (fun i : Nat => i ≤ n) (fun i => [(2, .ptr 0 [] 0 0), (3, .ptr 1 [] 0 0), (4, .ptr 2 [] 0 0), (5, .ptr 3 [] 0 0), (6, .int .i64 i)])
    (fun i => [some (algV p n U T, 522), some (.ints .u8 8 v, 8), some (.ints .u8 64 fun _ => 0, 64), some (.ints .u8 64 fun q => if q < i * 8 then leftT p T v q else 0, 64)]) (fun i => n - i) 0 (by omega) ?_ ?_ ?_
  · exact (And.intro rfl (And.intro rfl (And.intro rfl (And.intro rfl (And.intro rfl (trivial))))))
  · exact And.intro (And.intro (algR p n U T) rfl) (And.intro (And.intro (rowEq fun _ _ => rfl) rfl) (And.intro (And.intro (rowEq fun _ _ => rfl) rfl) (And.intro (And.intro (rowEq fun q hq => by show updR _ 0 64 _ q = _; simp [updR, hq]) rfl) trivial)))
  · intro i hi
    refine ifVC_split (fun h => ?_) (fun h => ?_)
    · have hlt := of_decide_eq_true h
      have hidx : (i : Int).toNat = i := by omega
      refine Exists.intro 6 (And.intro (by kernel_rfl) ?_)
      (repeat (first | refine And.intro (by omega) ?_ | refine And.intro ⟨by omega, by omega⟩ ?_))
      refine Exists.intro (.ints .u8 8 (unitV i)) (And.intro (And.intro rfl (And.intro rfl (Spec.mono (l01Basis_s i (by omega)) ?_))) ?_)
      · rintro r m ⟨rfl, _⟩
        simp only [Int.toNat_natCast]
      refine Exists.intro (.ints .u8 8 fun m => timS p n T v (unitV i) n m % p) (And.intro (And.intro rfl (And.intro rfl (Spec.mono (l01Times_s p n U T _ _ hV.hp hn hT (fun j hj => hv _ (by omega)) (unitV_u8 i 8)) fun r m h => h.1))) ?_)
      (repeat (first | refine And.intro (by omega) ?_ | refine And.intro ⟨by omega, by omega⟩ ?_))
      refine Exists.intro (i + 1) (And.intro (by omega) (And.intro (by omega) (And.intro (And.intro rfl (And.intro rfl (And.intro rfl (And.intro rfl (And.intro (slotI (wrapS (by omega))) trivial))))) ?_)))
      refine And.intro (And.intro (algR p n U T) rfl) (And.intro (And.intro (rowEq fun _ _ => rfl) rfl) (And.intro (And.intro (rowEq fun _ _ => rfl) rfl) (And.intro (And.intro (rowEq fun q hq => ?_) rfl) trivial)))
      show updR _ ((i : Int).toNat * 8 + 0) 8 (fun m => timS p n T v (unitV i) n m % p) q = if q < (i + 1) * 8 then leftT p T v q else 0
      unfold updR
      rw [hidx]
      dsimp only
      by_cases h1 : i * 8 + 0 ≤ q ∧ q < i * 8 + 0 + 8
      · rw [if_pos h1, if_pos (by omega), times_unit hV hz (by omega) (by omega)]
        unfold leftT
        congr 1 <;> omega
      · rw [if_neg h1]
        by_cases h2 : q < i * 8
        · rw [if_pos h2, if_pos (by omega)]
        · rw [if_neg h2, if_neg (by omega)]
    · have hge := of_decide_eq_false h
      obtain rfl : i = n := by omega
      (repeat (first | refine And.intro (by omega) ?_ | refine And.intro ⟨by omega, by omega⟩ ?_))
      refine rowEq fun q hq => ?_
      show updR _ 0 64 _ q = leftT p T v q
      by_cases h2 : q < i * 8
      · simp [updR, hq, h2]
      · have := leftT_zero hV v (j := q / 8) (m := q % 8) (by omega) (by omega) (.inl (by omega))
        rw [show q / 8 * 8 + q % 8 = q by omega] at this
        simp [updR, hq, h2, this]

def leftV (p n : Int) (U T v : Nat → Int) : SV := .tcons (.ints .u8 64 fun q => if oneOk p n U T v = true then leftT p T v q else 0) (.tcons (.int .i64 (if oneOk p n U T v = true then 0 else 1)) .tnil)

theorem implLeft_s (p n : Int) (U T v : Nat → Int) (hU : isU8 8 U) (hT : isU8 512 T) (hv : isU8 8 v) :
    Spec Try.prog 26 [algV p n U T, .ints .u8 8 v] [] (Ret (leftV p n U T v)) := by
  refine Spec.ret rfl (Spec.of_vc tabOK tabEq Try.func26 rfl (by kernel_rfl) rfl rfl ?_)
  (repeat (first | refine And.intro (by omega) ?_ | refine And.intro ⟨by omega, by omega⟩ ?_))
  refine And.intro (And.intro rfl trivial) (Spec.mono (isAlgebraWith_s p n U T 1 (oneV (fun j => 0) v) (by omega) hU hT (one_u8 hv)) ?_)
  rintro r m ⟨rfl, rfl⟩
  refine ifVC_split (fun hc => ?_) (fun hc => ?_)
  · have hc : oneOk p n U T v = false := by rw [one_vectors] at hc; unfold oneOk; simpa only [Bool.not_eq_true'] using hc
    (repeat (first | refine And.intro (by omega) ?_ | refine And.intro ⟨by omega, by omega⟩ ?_))
    refine And.intro (rowEq fun j hj => ?_) (And.intro (slotI (by simp [hc])) rfl)
    show updR _ 0 64 _ j = _
    simp [updR, hj, hc]
  have hc : oneOk p n U T v = true := by rw [one_vectors] at hc; simpa [oneOk] using hc
  have hc' := hc
  unfold oneOk at hc'
  simp only [Bool.and_eq_true] at hc'
  obtain ⟨n, rfl, hV⟩ := algB_valid hU hT hc'.1
  (repeat (first | refine And.intro (by omega) ?_ | refine And.intro ⟨by omega, by omega⟩ ?_))
  refine And.intro trivial (Spec.mono (leftTable_s p n U T _ hV.hp hT (fun j hj => hv _ (by omega))) ?_)
  rintro r m ⟨rfl, rfl⟩
  (repeat (first | refine And.intro (by omega) ?_ | refine And.intro ⟨by omega, by omega⟩ ?_))
  refine And.intro (rowEq fun j hj => ?_) (And.intro (slotI (by simp [hc])) rfl)
  show updR _ 0 64 _ j = _
  simp [updR, hj, hc]

theorem specLeft_s (p n : Int) (U T v : Nat → Int) (hU : isU8 8 U) (hT : isU8 512 T) (hv : isU8 8 v) :
    Spec Try.prog 25 [algV p n U T, .ints .u8 8 v] [] (Ret (leftV p n U T v)) := by
  refine Spec.ret rfl (Spec.of_vc tabOK tabEq Try.func25 rfl (by kernel_rfl) rfl rfl ?_)
  (repeat (first | refine And.intro (by omega) ?_ | refine And.intro ⟨by omega, by omega⟩ ?_))
  refine And.intro (And.intro rfl trivial) (Spec.mono (l01Code_s p n U T 1 (oneV (fun j => 0) v) (by omega) hU hT (one_u8 hv)) ?_)
  rintro r m ⟨rfl, rfl⟩
  rw [one_vectors]
  refine ifVC_split (fun hc => ?_) (fun hc => ?_)
  · have hc : oneOk p n U T v = false := by
      cases hm : oneOk p n U T v with
      | false => rfl
      | true => unfold oneOk at hm; rw [if_pos hm] at hc; simp at hc
    (repeat (first | refine And.intro (by omega) ?_ | refine And.intro ⟨by omega, by omega⟩ ?_))
    refine And.intro (rowEq fun j hj => ?_) (And.intro (slotI (by unfold oneOk at hc; simp [hc, oneOk])) rfl)
    show updR _ 0 64 _ j = _
    simp [updR, hj, hc]
  have hc : oneOk p n U T v = true := by
    cases hm : oneOk p n U T v with
    | true => rfl
    | false => unfold oneOk at hm; rw [if_neg (by rw [hm]; simp)] at hc; simp at hc
  have hc' := hc
  unfold oneOk at hc'
  simp only [Bool.and_eq_true] at hc'
  obtain ⟨n, rfl, hV⟩ := algB_valid hU hT hc'.1
  (repeat (first | refine And.intro (by omega) ?_ | refine And.intro ⟨by omega, by omega⟩ ?_))
  refine And.intro trivial (Spec.mono (l01Left_s p n U T _ hV hT (fun j hj => hv _ (by omega)) (fun i h1 h2 => (entries_get hc'.2 h2).2 (by omega))) ?_)
  rintro r m ⟨rfl, rfl⟩
  (repeat (first | refine And.intro (by omega) ?_ | refine And.intro ⟨by omega, by omega⟩ ?_))
  refine And.intro (rowEq fun j hj => ?_) (And.intro (slotI (by simp [hc])) rfl)
  show updR _ 0 64 _ j = _
  simp [updR, hj, hc]

/-- the law on LeftTable returns true -/
theorem lawLeft_c (p n : Int) (U T : Nat → Int) (hU : isU8 8 U) (hT : isU8 512 T) (v : Nat → Int) (hv : isU8 8 v) :
    Spec Try.prog 6 [algV p n U T, .ints .u8 8 v] [] (Ret (.bool true)) := by
  refine Spec.ret rfl (Spec.of_vc tabOK tabEq Try.func6 rfl (by kernel_rfl) rfl rfl ?_)
  refine Exists.intro 10 (And.intro (by kernel_rfl) ?_)
  refine Exists.intro (algV p n U T) (And.intro (And.intro rfl (And.intro rfl (Spec.mono (toAlgebra_s p n U T) fun r m h => h.1))) ?_)
  refine And.intro (by omega) ?_
  refine Exists.intro (.ints .u8 8 v) (And.intro (And.intro rfl (And.intro rfl (Spec.mono (toVector_s _) fun r m h => h.1))) ?_)
  refine Exists.intro (leftV p n U T v) (And.intro (And.intro rfl (And.intro rfl (Spec.mono (specLeft_s p n U T v hU hT hv) fun r m h => h.1))) ?_)
  (repeat (first | refine And.intro (by omega) ?_ | refine And.intro ⟨by omega, by omega⟩ ?_))
  refine Exists.intro 10 (And.intro (by kernel_rfl) ?_)
  refine Exists.intro (algV p n U T) (And.intro (And.intro rfl (And.intro rfl (Spec.mono (toAlgebra_s p n U T) fun r m h => h.1))) ?_)
  refine And.intro (by omega) ?_
  refine Exists.intro (.ints .u8 8 v) (And.intro (And.intro rfl (And.intro rfl (Spec.mono (toVector_s _) fun r m h => h.1))) ?_)
  refine Exists.intro (leftV p n U T v) (And.intro (And.intro rfl (And.intro rfl (Spec.mono (implLeft_s p n U T v hU hT hv) fun r m h => h.1))) ?_)
  (repeat (first | refine And.intro (by omega) ?_ | refine And.intro ⟨by omega, by omega⟩ ?_))
  refine And.intro trivial (Spec.mono (eqLinear_s _ _) ?_)
  rintro r m ⟨rfl, rfl⟩
  refine ifVC_false ?_ ?_
  · rw [eqSelf]
    rfl
  refine ifVC_false (by simp) ?_
  exact boolEq rfl

/-- the trace of a map -/
def traceN (p : Int) (k : Nat) (F : Nat → Int) : Int := sumN k (fun i => F (i * 8 + i)) % p
theorem trace_bound {F : Nat → Int} (hF : isU8 64 F) (k : Nat) (hk : k ≤ 8) : 0 ≤ sumN k (fun i => F (i * 8 + i)) ∧ sumN k (fun i => F (i * 8 + i)) ≤ 65025 * k :=
  sum_bound k fun i hi => by have := hF (i * 8 + i) (by omega); omega

theorem traceOfMap_s (p : Int) (F : Nat → Int) (hp : 0 < p ∧ p < 256) (hF : isU8 64 F) : Spec Try.prog 67 [.int .i64 p, .ints .u8 64 F] [] (Ret (.int .i64 (traceN p 8 F))) := by
  refine Spec.ret rfl (Spec.of_vc tabOK tabEq Try.func67 rfl (by kernel_rfl) rfl rfl ?_)
  (repeat (first | refine And.intro (by omega) ?_ | refine And.intro ⟨by omega, by omega⟩ ?_))
  refine LoopVC.of (fun i : Nat => i ≤ 8) (fun i => [(0, .int .i64 p), (5, .int .i64 (sumN i fun a => F (a * 8 + a))), (8, .ints .u8 64 F), (9, .int .i64 i)]) (fun _ => [none]) (fun i => 8 - i) 0 (by omega) ?_ ?_ ?_
  · exact And.intro rfl (And.intro rfl (And.intro (rowEq fun _ _ => rfl) (And.intro rfl trivial)))
  · exact trivial
  · intro i hi
    have hb := trace_bound hF i hi
    refine ifVC_split (fun h => ?_) (fun h => ?_)
    · have hlt := of_decide_eq_true h
      have hidx : (i : Int).toNat = i := by omega
      have hFi := hF (i * 8 + i) (by omega)
      (repeat (first | refine And.intro (by omega) ?_ | refine And.intro ⟨by omega, by omega⟩ ?_))
      refine Exists.intro (i + 1) (And.intro (by omega) (And.intro (by omega) (And.intro (And.intro rfl (And.intro (slotI ?_) (And.intro (rowEq fun _ _ => rfl) (And.intro (slotI (wrapS (by omega))) trivial)))) trivial)))
      show IntKind.i64.wrap (sumN i (fun a => F (a * 8 + a)) + IntKind.i64.wrap (updR (fun _ => 0) 0 8 (fun j => F (j + (i : Int).toNat * 8)) ((i : Int).toNat * 1 + 0))) = _
      have e : updR (fun _ => 0) 0 8 (fun j => F (j + (i : Int).toNat * 8)) ((i : Int).toNat * 1 + 0) = F (i * 8 + i) := by
        unfold updR
        rw [hidx, if_pos (by omega)]
        show F _ = F _
        congr 1
        omega
      rw [e, wrapI (x := F (i * 8 + i)) (by omega), wrapI (by omega)]
      rfl
    · have hge := of_decide_eq_false h
      obtain rfl : i = 8 := by omega
      (repeat (first | refine And.intro (by omega) ?_ | refine And.intro ⟨by omega, by omega⟩ ?_))
      refine slotI ?_
      rw [Int.tmod_eq_emod_of_nonneg hb.1]
      rfl

theorem l01Trace_s (p : Int) (n : Nat) (F : Nat → Int) (hp : 0 < p ∧ p < 256) (hn : n ≤ 8) (hF : isU8 64 F) : Spec Try.prog 66 [.int .i64 p, .int .i64 n, .ints .u8 64 F] [] (Ret (.int .i64 (traceN p n F))) := by
  refine Spec.ret rfl (Spec.of_vc tabOK tabEq Try.func66 rfl (by kernel_rfl) rfl rfl ?_)
  refine LoopVC.of (fun i : Nat => i ≤ n) (fun i => [(0, .int .i64 p), (1, .int .i64 n), (5, .ptr 0 [] 0 0), (7, .int .i64 (sumN i fun a => F (a * 8 + a))), (8, .int .i64 i)]) (fun _ => [some (.ints .u8 64 F, 64)]) (fun i => n - i) 0 (by omega) ?_ ?_ ?_
  · exact (And.intro rfl (And.intro rfl (And.intro rfl (And.intro rfl (And.intro rfl (trivial))))))
  · exact And.intro (And.intro (rowEq fun _ _ => rfl) rfl) trivial
  · intro i hi
    have hb := trace_bound hF i (by omega)
    refine ifVC_split (fun h => ?_) (fun h => ?_)
    · have hlt := of_decide_eq_true h
      have hidx : (i : Int).toNat = i := by omega
      have hFi := hF (i * 8 + i) (by omega)
      (repeat (first | refine And.intro (by omega) ?_ | refine And.intro ⟨by omega, by omega⟩ ?_))
      refine Exists.intro (i + 1) (And.intro (by omega) (And.intro (by omega) (And.intro (And.intro rfl (And.intro rfl (And.intro rfl (And.intro (slotI ?_) (And.intro (slotI (wrapS (by omega))) trivial))))) (And.intro (And.intro (rowEq fun _ _ => rfl) rfl) trivial))))
      have e : F ((i : Int).toNat * 1 + ((i : Int).toNat * 8 + 0)) = F (i * 8 + i) := by rw [hidx]; congr 1; omega
      rw [e, wrapI (x := F (i * 8 + i)) (by omega), wrapI (by omega)]
      rfl
    · have hge := of_decide_eq_false h
      obtain rfl : i = n := by omega
      (repeat (first | refine And.intro (by omega) ?_ | refine And.intro ⟨by omega, by omega⟩ ?_))
      refine slotI ?_
      rw [Int.tmod_eq_emod_of_nonneg hb.1]
      rfl

theorem trace_eq {p : Int} {n : Nat} {U T : Nat → Int} (hV : Valid p n U T) (v : Nat → Int) : traceN p n (leftT p T v) = traceN p 8 (leftT p T v) := by
  unfold traceN
  rw [sumN_cut 8 hV.hn fun i h1 h2 => leftT_zero hV v h2 h2 (.inl h1)]

def traceV (p n : Int) (U T v : Nat → Int) : SV := .tcons (.int .i64 (if oneOk p n U T v = true then traceN p 8 (leftT p T v) else 0)) (.tcons (.int .i64 (if oneOk p n U T v = true then 0 else 1)) .tnil)

theorem implTrace_s (p n : Int) (U T v : Nat → Int) (hU : isU8 8 U) (hT : isU8 512 T) (hv : isU8 8 v) :
    Spec Try.prog 29 [algV p n U T, .ints .u8 8 v] [] (Ret (traceV p n U T v)) := by
  refine Spec.ret rfl (Spec.of_vc tabOK tabEq Try.func29 rfl (by kernel_rfl) rfl rfl ?_)
  (repeat (first | refine And.intro (by omega) ?_ | refine And.intro ⟨by omega, by omega⟩ ?_))
  refine And.intro (And.intro rfl trivial) (Spec.mono (isAlgebraWith_s p n U T 1 (oneV (fun j => 0) v) (by omega) hU hT (one_u8 hv)) ?_)
  rintro r m ⟨rfl, rfl⟩
  refine ifVC_split (fun hc => ?_) (fun hc => ?_)
  · have hc : oneOk p n U T v = false := by rw [one_vectors] at hc; unfold oneOk; simpa only [Bool.not_eq_true'] using hc
    exact And.intro (slotI (by simp [hc])) (And.intro (slotI (by simp [hc])) rfl)
  have hc : oneOk p n U T v = true := by rw [one_vectors] at hc; simpa [oneOk] using hc
  have hc' := hc
  unfold oneOk at hc'
  simp only [Bool.and_eq_true] at hc'
  obtain ⟨n, rfl, hV⟩ := algB_valid hU hT hc'.1
  refine Exists.intro 7 (And.intro (by kernel_rfl) ?_)
  (repeat (first | refine And.intro (by omega) ?_ | refine And.intro ⟨by omega, by omega⟩ ?_))
  refine Exists.intro (.ints .u8 64 (leftT p T v)) (And.intro (And.intro rfl (And.intro rfl (Spec.mono (leftTable_s p n U T _ hV.hp hT (fun j hj => hv _ (by omega))) fun r m h => h.1))) ?_)
  refine Exists.intro (.int .i64 (traceN p 8 (leftT p T v))) (And.intro (And.intro rfl (And.intro rfl (Spec.mono (traceOfMap_s p _ hV.hp (leftT_u8 hV.hp T v 64)) fun r m h => h.1))) ?_)
  exact And.intro (slotI (by simp [hc])) (And.intro (slotI (by simp [hc])) rfl)

theorem specTrace_s (p n : Int) (U T v : Nat → Int) (hU : isU8 8 U) (hT : isU8 512 T) (hv : isU8 8 v) :
    Spec Try.prog 28 [algV p n U T, .ints .u8 8 v] [] (Ret (traceV p n U T v)) := by
  refine Spec.ret rfl (Spec.of_vc tabOK tabEq Try.func28 rfl (by kernel_rfl) rfl rfl ?_)
  (repeat (first | refine And.intro (by omega) ?_ | refine And.intro ⟨by omega, by omega⟩ ?_))
  refine And.intro (And.intro rfl trivial) (Spec.mono (l01Code_s p n U T 1 (oneV (fun j => 0) v) (by omega) hU hT (one_u8 hv)) ?_)
  rintro r m ⟨rfl, rfl⟩
  rw [one_vectors]
  refine ifVC_split (fun hc => ?_) (fun hc => ?_)
  · have hc : oneOk p n U T v = false := by
      cases hm : oneOk p n U T v with
      | false => rfl
      | true => unfold oneOk at hm; rw [if_pos hm] at hc; simp at hc
    exact And.intro (slotI (by simp [hc])) (And.intro (slotI (by unfold oneOk at hc; simp [hc, oneOk])) rfl)
  have hc : oneOk p n U T v = true := by
    cases hm : oneOk p n U T v with
    | true => rfl
    | false => unfold oneOk at hm; rw [if_neg (by rw [hm]; simp)] at hc; simp at hc
  have hc' := hc
  unfold oneOk at hc'
  simp only [Bool.and_eq_true] at hc'
  obtain ⟨n, rfl, hV⟩ := algB_valid hU hT hc'.1
  refine Exists.intro 9 (And.intro (by kernel_rfl) ?_)
  (repeat (first | refine And.intro (by omega) ?_ | refine And.intro ⟨by omega, by omega⟩ ?_))
  refine Exists.intro (.ints .u8 64 (leftT p T v)) (And.intro (And.intro rfl (And.intro rfl (Spec.mono (l01Left_s p n U T _ hV hT (fun j hj => hv _ (by omega)) (fun i h1 h2 => (entries_get hc'.2 h2).2 (by omega))) fun r m h => h.1))) ?_)
  refine Exists.intro (.int .i64 (traceN p n (leftT p T v))) (And.intro (And.intro rfl (And.intro rfl (Spec.mono (l01Trace_s p n _ hV.hp hV.hn (leftT_u8 hV.hp T v 64)) fun r m h => h.1))) ?_)
  exact And.intro (slotI (by rw [trace_eq hV]; simp [hc])) (And.intro (slotI (by simp [hc])) rfl)

/-- the law on TraceOf returns true -/
theorem lawTrace_c (p n : Int) (U T : Nat → Int) (hU : isU8 8 U) (hT : isU8 512 T) (v : Nat → Int) (hv : isU8 8 v) :
    Spec Try.prog 7 [algV p n U T, .ints .u8 8 v] [] (Ret (.bool true)) := by
  refine Spec.ret rfl (Spec.of_vc tabOK tabEq Try.func7 rfl (by kernel_rfl) rfl rfl ?_)
  refine Exists.intro 9 (And.intro (by kernel_rfl) ?_)
  refine Exists.intro (algV p n U T) (And.intro (And.intro rfl (And.intro rfl (Spec.mono (toAlgebra_s p n U T) fun r m h => h.1))) ?_)
  refine And.intro (by omega) ?_
  refine Exists.intro (.ints .u8 8 v) (And.intro (And.intro rfl (And.intro rfl (Spec.mono (toVector_s _) fun r m h => h.1))) ?_)
  refine Exists.intro (traceV p n U T v) (And.intro (And.intro rfl (And.intro rfl (Spec.mono (specTrace_s p n U T v hU hT hv) fun r m h => h.1))) ?_)
  refine Exists.intro 9 (And.intro (by kernel_rfl) ?_)
  refine Exists.intro (algV p n U T) (And.intro (And.intro rfl (And.intro rfl (Spec.mono (toAlgebra_s p n U T) fun r m h => h.1))) ?_)
  refine And.intro (by omega) ?_
  refine Exists.intro (.ints .u8 8 v) (And.intro (And.intro rfl (And.intro rfl (Spec.mono (toVector_s _) fun r m h => h.1))) ?_)
  refine Exists.intro (traceV p n U T v) (And.intro (And.intro rfl (And.intro rfl (Spec.mono (implTrace_s p n U T v hU hT hv) fun r m h => h.1))) ?_)
  refine ifVC_false (by simp) ?_
  refine ifVC_false (by simp) ?_
  exact boolEq rfl
end Go.Proofs.Ytnbfpmcpakpboab
