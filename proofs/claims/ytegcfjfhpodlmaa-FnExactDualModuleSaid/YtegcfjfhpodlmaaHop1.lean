/- Hopf tables: their parts, their form, and sums over pairs, on both sides. -/
import Derived.Test.YtegcfjfhpodlmaaCo2
import Derived.Test.YtegcfjfhpodlmaaDual2
set_option linter.unusedVariables false
set_option linter.unusedSimpArgs false
set_option maxRecDepth 100000
set_option maxHeartbeats 1000000
namespace Go.Proofs.Ytegcfjfhpodlmaa
open M

/-- a Hopf table as plain data -/
def hopV (p n : Int) (U T Z C S : Nat → Int) : SV :=
  .pair (.int .i64 p) (.pair (.int .i64 n) (.pair (.ints .u8 8 U) (.pair (.ints .u8 512 T) (.pair (.ints .u8 8 Z) (.pair (.ints .u8 512 C) (.pair (.ints .u8 64 S) .unit))))))
theorem hopE (p n : Int) {U U' T T' Z Z' C C' S S' : Nat → Int} (hU : ∀ j, j < 8 → U j = U' j) (hT : ∀ j, j < 512 → T j = T' j) (hZ : ∀ j, j < 8 → Z j = Z' j) (hC : ∀ j, j < 512 → C j = C' j) (hS : ∀ j, j < 64 → S j = S' j) :
    SV.eqv (hopV p n U T Z C S) (hopV p n U' T' Z' C' S') :=
  And.intro rfl (And.intro rfl (And.intro (rowEq hU) (And.intro (rowEq hT) (And.intro (rowEq hZ) (And.intro (rowEq hC) (And.intro (rowEq hS) rfl))))))
theorem hopR (p n : Int) (U T Z C S : Nat → Int) : SV.eqv (hopV p n U T Z C S) (hopV p n U T Z C S) :=
  hopE p n (fun _ _ => rfl) (fun _ _ => rfl) (fun _ _ => rfl) (fun _ _ => rfl) (fun _ _ => rfl)

theorem algebraOf_s (p n : Int) (U T Z C S : Nat → Int) : Spec Try.prog 73 [hopV p n U T Z C S] [] (Ret (algV p n U T)) := by
  refine Spec.ret rfl (Spec.of_vc tabOK tabEq Try.func73 rfl (by kernel_rfl) rfl rfl ?_)
  (repeat (first | refine And.intro (by omega) ?_ | refine And.intro ⟨by omega, by omega⟩ ?_))
  exact And.intro rfl (And.intro rfl (And.intro (rowEq fun _ _ => rfl) (And.intro (rowEq fun _ _ => rfl) rfl)))
theorem coalgebraOf_s (p n : Int) (U T Z C S : Nat → Int) : Spec Try.prog 75 [hopV p n U T Z C S] [] (Ret (algV p n Z C)) := by
  refine Spec.ret rfl (Spec.of_vc tabOK tabEq Try.func75 rfl (by kernel_rfl) rfl rfl ?_)
  (repeat (first | refine And.intro (by omega) ?_ | refine And.intro ⟨by omega, by omega⟩ ?_))
  exact And.intro rfl (And.intro rfl (And.intro (rowEq fun _ _ => rfl) (And.intro (rowEq fun _ _ => rfl) rfl)))
theorem l03Algebra_s (p n : Int) (U T Z C S : Nat → Int) : Spec Try.prog 67 [hopV p n U T Z C S] [] (Ret (algV p n U T)) := by
  refine Spec.ret rfl (Spec.of_vc tabOK tabEq Try.func67 rfl (by kernel_rfl) rfl rfl ?_)
  (repeat (first | refine And.intro (by omega) ?_ | refine And.intro ⟨by omega, by omega⟩ ?_))
  exact And.intro rfl (And.intro rfl (And.intro (rowEq fun _ _ => rfl) (And.intro (rowEq fun _ _ => rfl) rfl)))
theorem l03Coalgebra_s (p n : Int) (U T Z C S : Nat → Int) : Spec Try.prog 92 [hopV p n U T Z C S] [] (Ret (algV p n Z C)) := by
  refine Spec.ret rfl (Spec.of_vc tabOK tabEq Try.func92 rfl (by kernel_rfl) rfl rfl ?_)
  (repeat (first | refine And.intro (by omega) ?_ | refine And.intro ⟨by omega, by omega⟩ ?_))
  exact And.intro rfl (And.intro rfl (And.intro (rowEq fun _ _ => rfl) (And.intro (rowEq fun _ _ => rfl) rfl)))

/-- the form of a Hopf table -/
def hshB (p n : Int) (U T Z C S : Nat → Int) : Bool := shapeB p n U T && (shapeB p n Z C && linB p n n S)

theorem isShapedHopf_s (p n : Int) (U T Z C S : Nat → Int) (hU : isU8 8 U) (hT : isU8 512 T) (hZ : isU8 8 Z) (hC : isU8 512 C) (hS : isU8 64 S) :
    Spec Try.prog 55 [hopV p n U T Z C S] [] (Ret (.bool (hshB p n U T Z C S))) := by
  refine Spec.ret rfl (Spec.of_vc tabOK tabEq Try.func55 rfl (by kernel_rfl) rfl rfl ?_)
  refine And.intro trivial (Spec.mono (algebraOf_s p n U T Z C S) ?_)
  rintro r m ⟨rfl, rfl⟩
  refine And.intro trivial (Spec.mono (isShaped_s p n U T hU hT) ?_)
  rintro r m ⟨rfl, rfl⟩
  refine ifVC_split (fun h1 => ?_) (fun h1 => ?_)
  · refine And.intro trivial (Spec.mono (coalgebraOf_s p n U T Z C S) ?_)
    rintro r m ⟨rfl, rfl⟩
    refine And.intro trivial (Spec.mono (dualAlgebra_s p n Z C) ?_)
    rintro r m ⟨rfl, rfl⟩
    refine And.intro trivial (Spec.mono (isShaped_s p n Z (dualF C) hZ (dual_u8 hC)) ?_)
    rintro r m ⟨rfl, rfl⟩
    refine ifVC_split (fun h2 => ?_) (fun h2 => ?_)
    · have hfn := shape_field h1
      (repeat (first | refine And.intro (by omega) ?_ | refine And.intro ⟨by omega, by omega⟩ ?_))
      refine And.intro trivial (Spec.mono (isLinear_s p n n _ hfn (fun j hj => hS _ (by omega))) ?_)
      rintro r m ⟨rfl, rfl⟩
      rw [shape_dual] at h2
      exact boolEq (by unfold hshB; rw [h1, h2]; rfl)
    · rw [shape_dual] at h2
      exact boolEq (by unfold hshB; rw [h1, h2]; rfl)
  · exact boolEq (by unfold hshB; rw [h1]; rfl)

theorem l03Shape_s (p n : Int) (U T Z C S : Nat → Int) (hU : isU8 8 U) (hT : isU8 512 T) (hZ : isU8 8 Z) (hC : isU8 512 C) (hS : isU8 64 S) :
    Spec Try.prog 50 [hopV p n U T Z C S] [] (Ret (.bool (hshB p n U T Z C S))) := by
  refine Spec.ret rfl (Spec.of_vc tabOK tabEq Try.func50 rfl (by kernel_rfl) rfl rfl ?_)
  refine Exists.intro 5 (And.intro (by kernel_rfl) ?_)
  refine And.intro trivial (Spec.mono (l03Algebra_s p n U T Z C S) ?_)
  rintro r m ⟨rfl, rfl⟩
  refine And.intro trivial (Spec.mono (l01Shape_s p n U T hU hT) ?_)
  rintro r m ⟨rfl, rfl⟩
  refine ifVC_split (fun h1 => ?_) (fun h1 => ?_)
  · have hfn := shape_field h1
    have hsh : shapeB p n Z C = (entriesB p n Z && tabB p n C) := by unfold shapeB vectorB; rw [hfn, Bool.true_and]
    (repeat (first | refine And.intro (by omega) ?_ | refine And.intro ⟨by omega, by omega⟩ ?_))
    refine And.intro trivial (Spec.mono (l01Vector_s p n _ (fun j hj => hZ _ (by omega))) ?_)
    rintro r m ⟨rfl, rfl⟩
    refine ifVC_split (fun h2 => ?_) (fun h2 => ?_)
    · have h2 : entriesB p n Z = true := h2
      (repeat (first | refine And.intro (by omega) ?_ | refine And.intro ⟨by omega, by omega⟩ ?_))
      refine And.intro trivial (Spec.mono (l01Table_s p n _ (fun j hj => hC _ (by omega))) ?_)
      rintro r m ⟨rfl, rfl⟩
      refine ifVC_split (fun h3 => ?_) (fun h3 => ?_)
      · have h3 : tabB p n C = true := h3
        (repeat (first | refine And.intro (by omega) ?_ | refine And.intro ⟨by omega, by omega⟩ ?_))
        refine And.intro trivial (Spec.mono (l01Linear_s p n _ (fun j hj => hS _ (by omega))) ?_)
        rintro r m ⟨rfl, rfl⟩
        exact boolEq (by unfold hshB; rw [h1, hsh, h2, h3]; rfl)
      · have h3 : tabB p n C = false := h3
        exact boolEq (by unfold hshB; rw [h1, hsh, h2, h3]; rfl)
    · have h2 : entriesB p n Z = false := h2
      exact boolEq (by unfold hshB; rw [h1, hsh, h2]; rfl)
  · exact boolEq (by unfold hshB; rw [h1]; rfl)

/-- what holds of shaped Hopf tables -/
structure HV (p : Int) (n : Nat) (U T Z C S : Nat → Int) : Prop where
  a : Valid p n U T
  c : Valid p n Z (dualF C)
  n1 : 1 ≤ n
  hU : isU8 8 U
  hT : isU8 512 T
  hZ : isU8 8 Z
  hC : isU8 512 C
  hS : isU8 64 S
  slt : ∀ i m, i < 8 → m < 8 → S (m + i * 8) < p
  szero : ∀ i m, i < 8 → m < 8 → (n ≤ i ∨ n ≤ m) → S (m + i * 8) = 0

theorem lin_get {p n : Int} {S : Nat → Int} (h : linB p n n S = true) {i m : Nat} (hi : i < 8) (hm : m < 8) : S (m + i * 8) < p ∧ ((n ≤ i ∨ n ≤ m) → S (m + i * 8) = 0) := by
  have := List.all_eq_true.1 h i (List.mem_range.2 hi)
  simp only [imageB, Bool.and_eq_true, Bool.or_eq_true, decide_eq_true_eq] at this
  have e := entries_get this.1 hm
  refine ⟨e.1, fun hz => ?_⟩
  rcases hz with hz | hz
  · rcases this.2 with h' | h'
    · omega
    · exact allEq_get h' hm
  · exact e.2 hz
theorem hsh_valid {p n : Int} {U T Z C S : Nat → Int} (hU : isU8 8 U) (hT : isU8 512 T) (hZ : isU8 8 Z) (hC : isU8 512 C) (hS : isU8 64 S) (h : hshB p n U T Z C S = true) : ∃ k : Nat, n = k ∧ HV p k U T Z C S := by
  unfold hshB at h
  simp only [Bool.and_eq_true] at h
  obtain ⟨h1, h2, h3⟩ := h
  have hfb := field_bounds (shape_field h1)
  obtain ⟨n, rfl⟩ : ∃ k : Nat, n = k := ⟨n.toNat, by have := hfb.2; omega⟩
  refine ⟨n, rfl, valid_of hU hT h1, valid_co hZ hC h2, by have := hfb.2.1; omega, hU, hT, hZ, hC, hS, fun i m hi hm => (lin_get h3 hi hm).1, fun i m hi hm hz => (lin_get h3 hi hm).2 (by omega)⟩

theorem upd0 {f g : Nat → Int} {m q : Nat} (h : q < m) : updR f 0 m g q = g q := by simp [updR, h]

/-! ### the map that leads each vector to itself -/
def idF (n : Nat) : Nat → Int := fun q => if q / 8 < n then unitV (q / 8) (q % 8) else 0
theorem idF_u8 (n m : Nat) : isU8 m (idF n) := fun q _ => by
  unfold idF
  split
  · exact unitV_u8 _ (q % 8 + 1) _ (by omega)
  · omega

theorem identity_s (n : Nat) (hn : n ≤ 8) : Spec Try.prog 59 [.int .i64 n] [] (Ret (.ints .u8 64 (idF n))) := by
  refine Spec.ret rfl (Spec.of_vc tabOK tabEq Try.func59 rfl (by kernel_rfl) rfl rfl ?_)
  refine LoopVC.of (fun i : Nat => i ≤ n) (fun i => [(2, .ptr 0 [] 0 0), (3, .ptr 1 [] 0 0), (5, .int .i64 n), (6, .int .i64 i)]) (fun i => [some (.ints .u8 64 fun _ => 0, 64), some (.ints .u8 64 fun q => if q / 8 < i then unitV (q / 8) (q % 8) else 0, 64)]) (fun i => n - i) 0 (by omega) ?_ ?_ ?_
  · exact (And.intro rfl (And.intro rfl (And.intro rfl (And.intro rfl (trivial)))))
  · exact And.intro (And.intro (rowEq fun _ _ => rfl) rfl) (And.intro (And.intro (rowEq fun q _ => by simp) rfl) trivial)
  · intro i hi
    refine ifVC_split (fun h => ?_) (fun h => ?_)
    · have hlt := of_decide_eq_true h
      have hidx : (i : Int).toNat = i := by omega
      refine And.intro trivial (Spec.mono (basisVector_s i (by omega)) ?_)
      rintro r m ⟨rfl, rfl⟩
      (repeat (first | refine And.intro (by omega) ?_ | refine And.intro ⟨by omega, by omega⟩ ?_))
      refine Exists.intro (i + 1) (And.intro (by omega) (And.intro (by omega) (And.intro (And.intro rfl (And.intro rfl (And.intro rfl (And.intro (slotI (wrapS (by omega))) trivial)))) ?_)))
      refine And.intro (And.intro (rowEq fun _ _ => rfl) rfl) (And.intro (And.intro (rowEq fun q hq => ?_) rfl) trivial)
      show updR _ ((i : Int).toNat * 8 + 0) 8 (unitV (i : Int).toNat) q = _
      unfold updR
      rw [hidx]
      dsimp only
      by_cases h1 : i * 8 + 0 ≤ q ∧ q < i * 8 + 0 + 8
      · rw [if_pos h1, if_pos (by omega), show q / 8 = i by omega, show q - (i * 8 + 0) = q % 8 by omega]
      · rw [if_neg h1]
        by_cases h2 : q / 8 < i
        · rw [if_pos h2, if_pos (by omega)]
        · rw [if_neg h2, if_neg (by omega)]
    · have hge := of_decide_eq_false h
      obtain rfl : i = n := by omega
      (repeat (first | refine And.intro (by omega) ?_ | refine And.intro ⟨by omega, by omega⟩ ?_))
      refine rowEq fun q hq => ?_
      show updR _ 0 64 _ q = _
      simp [updR, hq, idF]

/-! ### sums over pairs -/
theorem prodF_sum {p : Int} (T v w : Nat → Int) (m : Nat) : prodF p T v w m = sumN 8 (fun a => w a * leftT p T v (a * 8 + m)) % p := by
  unfold prodF; rw [linS_sum]
theorem prodF_congr {p : Int} {T v v' w w' : Nat → Int} (hv : ∀ i, i < 8 → v i = v' i) (hw : ∀ i, i < 8 → w i = w' i) (m : Nat) : prodF p T v w m = prodF p T v' w' m := by
  rw [prodF_sum, prodF_sum]
  congr 1
  refine sumN_congr 8 fun a ha => ?_
  rw [hw a ha]
  congr 1
  unfold leftT rightF
  rw [linS_congr 8 fun i hi => by rw [hv i hi]]
theorem prodF_none {p : Int} {T v : Nat → Int} (hv : ∀ i, i < 8 → v i = 0) (w : Nat → Int) (m : Nat) : prodF p T v w m = 0 := by
  rw [prodF_sum, sumN_none 8 fun a ha => by
    have : leftT p T v (a * 8 + m) = 0 := by
      unfold leftT rightF
      rw [linS_sum, sumN_none 8 fun i hi => by rw [hv i hi]; simp]
      simp
    rw [this]; simp]
  simp
theorem sumN_unit (g : Nat → Int) (k : Nat) : ∀ n : Nat, sumN n (fun a => unitV k a * g a) = if k < n then g k else 0
  | 0 => by simp [sumN]
  | n + 1 => by
    show sumN n (fun a => unitV k a * g a) + unitV k n * g n = _
    rw [sumN_unit g k n]
    by_cases h1 : k < n
    · rw [if_pos h1, if_pos (by omega), show unitV k n = 0 by unfold unitV; rw [if_neg (by omega)]]; simp
    · rw [if_neg h1]
      by_cases h2 : k = n
      · subst h2; rw [if_pos (by omega), show unitV k k = 1 by unfold unitV; rw [if_pos rfl]]; simp
      · rw [if_neg (by omega), show unitV k n = 0 by unfold unitV; rw [if_neg (fun e => h2 e.symm)]]; simp
theorem prodF_unit {p : Int} (T v : Nat → Int) {k m : Nat} (hk : k < 8) : prodF p T v (unitV k) m = leftT p T v (k * 8 + m) % p := by
  rw [prodF_sum, sumN_unit, if_pos hk]
theorem sumN_modl (p : Int) (g : Nat → Int) (k : Nat) : sumN k (fun i => g i % p) % p = sumN k g % p := by
  have := sumN_mod p (fun _ => 1) g k
  simpa using this
/-- products with sums -/
theorem prodF_lin {p : Int} (T v w : Nat → Int) (m : Nat) : prodF p T v w m = sumN 8 (fun k => w k * prodF p T v (unitV k) m) % p := by
  rw [prodF_sum, ← sumN_mod]
  congr 1
  exact sumN_congr 8 fun k hk => by rw [prodF_unit T v hk]
theorem prodF_apply {p : Int} (T v F w : Nat → Int) (m : Nat) : prodF p T v (fun y => linS F w 8 y % p) m = sumN 8 (fun k => w k * prodF p T v (fun y => F (y + k * 8)) m) % p := by
  rw [prodF_sum]
  have e : sumN 8 (fun a => (linS F w 8 a % p) * leftT p T v (a * 8 + m)) % p = sumN 8 (fun a => linS F w 8 a * leftT p T v (a * 8 + m)) % p := by
    have := sumN_mod p (fun a => leftT p T v (a * 8 + m)) (fun a => linS F w 8 a) 8
    rw [sumN_congr (g := fun a => leftT p T v (a * 8 + m) * (linS F w 8 a % p)) 8 fun a _ => Int.mul_comm _ _, this]
    exact congrArg (· % p) (sumN_congr 8 fun a _ => Int.mul_comm _ _)
  rw [e, sumN_congr (g := fun a => sumN 8 fun k => w k * (F (a + k * 8) * leftT p T v (a * 8 + m))) 8 fun a _ => by
    rw [linS_sum, Int.mul_comm, sumN_mul]
    refine sumN_congr 8 fun k _ => ?_
    rw [show k * 8 + a = a + k * 8 by omega, Int.mul_comm, Int.mul_assoc]]
  have r : sumN 8 (fun k => w k * prodF p T v (fun y => F (y + k * 8)) m) % p = sumN 8 (fun k => w k * sumN 8 fun a => F (a + k * 8) * leftT p T v (a * 8 + m)) % p := by
    rw [← sumN_mod p w fun k => sumN 8 fun a => F (a + k * 8) * leftT p T v (a * 8 + m)]
    exact congrArg (· % p) (sumN_congr 8 fun k _ => by rw [prodF_sum])
  rw [r, sumN_swap]
  exact congrArg (· % p) (sumN_congr 8 fun k _ => (sumN_mul _ _ _).symm)
end Go.Proofs.Ytegcfjfhpodlmaa
