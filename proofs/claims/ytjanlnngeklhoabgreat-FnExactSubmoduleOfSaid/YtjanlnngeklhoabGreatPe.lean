/- Texts in one: CoIs, Eqs, Left, Opp, CoFirst, Co2, Co3, Vecs, Red, Cat, Rows3, Gauss, Graph, Inv, Solve, Solve2, Lin, Lift, SolMath, AlgV, Inverse. -/
import Derived.Test.YtjanlnngeklhoabGreatPd
import Derived.Test.YtjanlnngeklhoabGreatLogB
set_option linter.unusedSimpArgs false
set_option linter.unusedVariables false
set_option linter.unusedSectionVars false
/- Both checks of coalgebras, and the law on IsCoalgebra. -/
set_option linter.unusedVariables false
set_option linter.unusedSimpArgs false
set_option maxRecDepth 100000
namespace Go.Proofs.YtjanlnngeklhoabGreat
open M

def couL (p : Int) (n : Nat) (U C : Nat → Int) : Bool := (List.range n).all (couOk p n U C)
theorem couL_no {p : Int} {n i : Nat} {U C : Nat → Int} (hi : i < n) (h : couOk p n U C i = false) : couL p n U C = false := by
  cases hb : couL p n U C with
  | false => rfl
  | true => have := List.all_eq_true.1 hb i (List.mem_range.2 hi); rw [h] at this; cases this
theorem couL_yes {p : Int} {n : Nat} {U C : Nat → Int} (h : ∀ i, i < n → couOk p n U C i = true) : couL p n U C = true := List.all_eq_true.2 fun i hi => h i (List.mem_range.1 hi)

theorem couA_step (p : Int) (n : Nat) (U C : Nat → Int) (i m : Nat) : couA p (n + 1) U C i m = (couA p n U C i m + U n * rowT C i (n * 8 + m)) % p := by
  unfold couA
  show (linS (rowT C i) U n m + U n * rowT C i (n * 8 + m)) % p = _
  rw [Int.emod_add_emod]

theorem l02Counits_s (p : Int) (n : Nat) (U C : Nat → Int) (hp : 0 < p ∧ p < 256) (hn : n ≤ 8) (hU : isU8 8 U) (hC : isU8 512 C) :
    Spec Tryz.prog 115 [algV p n U C] [] (Ret (.bool (couL p n U C))) := by
  refine Spec.ret rfl (Spec.of_vc tabOK tabEq Tryz.func115 rfl (by kernel_rfl) rfl rfl ?_)
  refine LoopVC.of (fun i : Nat => i ≤ n ∧ ∀ i', i' < i → couOk p n U C i' = true) (fun i => [(1, .ptr 0 [] 0 0), (3, .int .i64 i)]) (fun _ => [some (algV p n U C, 522)]) (fun i => n - i) 0 ⟨by omega, fun i' h => by omega⟩ ?_ ?_ ?_
  · exact (And.intro rfl (And.intro rfl (trivial)))
  · exact And.intro (And.intro (algR p n U C) rfl) trivial
  · rintro i ⟨hi, hall⟩
    refine ifVC_split (fun h => ?_) (fun h => ?_)
    · have hlti := of_decide_eq_true h
      (repeat (first | refine And.intro (by omega) ?_ | refine And.intro ⟨by omega, by omega⟩ ?_))
      refine LoopVC.of (fun j : Nat => j ≤ n) (fun j => [(1, .ptr 0 [] 0 0), (3, .int .i64 i), (4, .ptr 1 [] 0 0), (5, .ptr 2 [] 0 0), (6, .int .i64 j)])
        (fun j => [some (algV p n U C, 522), some (.ints .u8 8 (couA p j U C i), 8), some (.ints .u8 8 (fun q => if q < j then couB p n U C i q else 0), 8)]) (fun j => n - j) 0 (by omega) ?_ ?_ ?_
      · exact (And.intro rfl (And.intro rfl (And.intro rfl (And.intro rfl (And.intro rfl (trivial))))))
      · exact And.intro (And.intro (algR p n U C) rfl) (And.intro (And.intro (rowEq fun q hq => by show updR _ 0 8 _ q = _; simp [updR, hq, couA, linS]) rfl) (And.intro (And.intro (rowEq fun q hq => by show updR _ 0 8 _ q = _; simp [updR, hq]) rfl) trivial))
      · intro j hj
        refine ifVC_split (fun h => ?_) (fun h => ?_)
        · have hltj := of_decide_eq_true h
          have hUj := hU j (by omega)
          have hidx : (j : Int).toNat * 1 + 0 = j := by omega
          refine Exists.intro 15 (And.intro (by kernel_rfl) ?_)
          (repeat (first | refine And.intro (by omega) ?_ | refine And.intro ⟨by omega, by omega⟩ ?_))
          refine Exists.intro (.ints .u8 8 (couA p (j + 1) U C i)) (And.intro (And.intro rfl (And.intro rfl ?_)) ?_)
          · refine Spec.mono (l01Add_s p _ _ _ hp (by rw [hidx, wrapI (by omega)]; omega) (fun q _ => modB hp) (fun q hq => hC _ (by omega))) ?_
            rintro r m ⟨rfl, _⟩
            refine congrArg (SV.ints .u8 8) (funext fun q => ?_)
            show (couA p j U C i (q + 0) + IntKind.i64.wrap (U ((j : Int).toNat * 1 + 0)) * C (q + ((j : Int).toNat * 8 + ((i : Int).toNat * 64 + 0)))) % p = _
            rw [couA_step, hidx, wrapI (by omega), Int.toNat_natCast, Int.toNat_natCast]
            have e : rowT C i (j * 8 + q) = C (q + (j * 8 + (i * 64 + 0))) := by unfold rowT; congr 1; omega
            rw [e]
            rfl
          (repeat (first | refine And.intro (by omega) ?_ | refine And.intro ⟨by omega, by omega⟩ ?_))
          have bS : ∀ a, a ≤ n → 0 ≤ sumN a (fun b => U b * vecT C i j b) ∧ sumN a (fun b => U b * vecT C i j b) ≤ 65025 * a := fun a ha => sum_bound a fun b hb => mulB (hU b (by omega)) (vec_u8 hC (by omega) (by omega) (by omega))
          refine LoopVC.of (fun k : Nat => k ≤ n) (fun k => [(1, .ptr 0 [] 0 0), (3, .int .i64 i), (4, .ptr 1 [] 0 0), (5, .ptr 2 [] 0 0), (6, .int .i64 j), (7, .int .i64 (sumN k fun a => U a * vecT C i j a)), (8, .int .i64 k)])
            (fun k => [some (algV p n U C, 522), some (.ints .u8 8 (couA p (j + 1) U C i), 8), some (.ints .u8 8 (fun q => if q < j then couB p n U C i q else 0), 8)]) (fun k => n - k) 0 (by omega) ?_ ?_ ?_
          · exact (And.intro rfl (And.intro rfl (And.intro rfl (And.intro rfl (And.intro rfl (And.intro rfl (And.intro rfl (trivial))))))))
          · exact And.intro (And.intro (algR p n U C) rfl) (And.intro (And.intro (rowEq fun q hq => by show updR _ 0 8 _ q = _; simp [updR, hq]) rfl) (And.intro (And.intro (rowEq fun _ _ => rfl) rfl) trivial))
          · intro k hk
            refine ifVC_split (fun h => ?_) (fun h => ?_)
            · have hltk := of_decide_eq_true h
              have e1 := bS k hk
              have v1 := hU k (by omega)
              have v2 := vec_u8 hC (show i < 8 by omega) (show j < 8 by omega) (show k < 8 by omega)
              have m1 := mulB v1 v2
              refine Exists.intro 17 (And.intro (by kernel_rfl) ?_)
              (repeat (first | refine And.intro (by omega) ?_ | refine And.intro ⟨by omega, by omega⟩ ?_))
              have f0 : U ((k : Int).toNat * 1 + 0) = U k := by congr 1; omega
              have f1 : C ((k : Int).toNat * 1 + ((j : Int).toNat * 8 + ((i : Int).toNat * 64 + 0))) = vecT C i j k := by simp only [Int.toNat_natCast]; unfold vecT; congr 1; omega
              refine Exists.intro (k + 1) (And.intro (by omega) (And.intro (by omega) (And.intro (And.intro rfl (And.intro rfl (And.intro rfl (And.intro rfl (And.intro rfl (And.intro (slotI ?_) (And.intro (slotI (wrapS (by omega))) trivial))))))) ?_)))
              · rw [f0, f1, wrapI (x := U k) (by omega), wrapI (x := vecT C i j k) (by omega), wrapI (x := U k * vecT C i j k) (by omega), wrapI (by omega)]
                rfl
              · exact And.intro (And.intro (algR p n U C) rfl) (And.intro (And.intro (rowEq fun _ _ => rfl) rfl) (And.intro (And.intro (rowEq fun _ _ => rfl) rfl) trivial))
            · have hge := of_decide_eq_false h
              obtain rfl : k = n := by omega
              have e1 := bS k (Nat.le_refl _)
              refine And.intro trivial (Spec.mono (l01Mod_s p _ hp (by omega)) ?_)
              rintro r m ⟨rfl, rfl⟩
              (repeat (first | refine And.intro (by omega) ?_ | refine And.intro ⟨by omega, by omega⟩ ?_))
              refine Exists.intro (j + 1) (And.intro (by omega) (And.intro (by omega) (And.intro (And.intro rfl (And.intro rfl (And.intro rfl (And.intro rfl (And.intro (slotI (wrapS (by omega))) trivial))))) ?_)))
              refine And.intro (And.intro (algR p k U C) rfl) (And.intro (And.intro (rowEq fun _ _ => rfl) rfl) (And.intro (And.intro (rowEq fun q hq => ?_) rfl) trivial))
              show upd1 _ ((j : Int).toNat * 1 + 0) _ q = _
              unfold upd1
              rw [hidx]
              dsimp only
              by_cases h1 : q = j
              · subst h1
                rw [if_pos rfl, if_pos (show q < q + 1 by omega)]
                rfl
              · rw [if_neg h1]
                by_cases h2 : q < j
                · rw [if_pos h2, if_pos (by omega)]
                · rw [if_neg h2, if_neg (by omega)]
        · have hge := of_decide_eq_false h
          obtain rfl : j = n := by omega
          have basis : ∀ (Q : SV → Mem → Prop), (∀ r m, r = SV.ints .u8 8 (unitV i) → m = [] → Q r m) → Spec Tryz.prog 56 [.int .i64 i] [] Q := fun Q hQ =>
            Spec.mono (l01Basis_s i (by omega)) (by rintro r m ⟨rfl, hm⟩; exact hQ _ _ (by simp only [Int.toNat_natCast]) hm)
          refine Exists.intro 9 (And.intro (by kernel_rfl) ?_)
          (repeat (first | refine And.intro (by omega) ?_ | refine And.intro ⟨by omega, by omega⟩ ?_))
          refine Exists.intro (.ints .u8 8 (unitV i)) (And.intro (And.intro rfl (And.intro rfl (basis _ fun r m h _ => h))) ?_)
          refine ifVC_split (fun hc => ?_) (fun hc => ?_)
          · have hc : allEq 8 (couA p j U C i) (unitV i) = false := by simpa using hc
            exact boolEq (by rw [couL_no (i := i) (by omega) (by simp [couOk, hc])])
          · have hc : allEq 8 (couA p j U C i) (unitV i) = true := by simpa using hc
            (repeat (first | refine And.intro (by omega) ?_ | refine And.intro ⟨by omega, by omega⟩ ?_))
            refine Exists.intro (.ints .u8 8 (unitV i)) (And.intro (And.intro rfl (And.intro rfl (basis _ fun r m h _ => h))) ?_)
            refine ifVC_split (fun hd => ?_) (fun hd => ?_)
            · have hd : allEq 8 (fun q => if q < j then couB p j U C i q else 0) (unitV i) = false := by simpa using hd
              exact boolEq (by rw [couL_no (i := i) (by omega) (by simp [couOk, hd])])
            · have hd : allEq 8 (fun q => if q < j then couB p j U C i q else 0) (unitV i) = true := by simpa using hd
              refine Exists.intro (i + 1) (And.intro ⟨by omega, fun i' hi' => ?_⟩ (And.intro (by omega) (And.intro ?_ ?_)))
              · by_cases hii : i' = i
                · subst hii; simp [couOk, hc, hd]
                · exact hall i' (by omega)
              · exact And.intro rfl (And.intro (slotI (wrapS (by omega))) trivial)
              · exact And.intro (And.intro (algR p j U C) rfl) trivial
    · have hge := of_decide_eq_false h
      obtain rfl : i = n := by omega
      exact boolEq (by rw [couL_yes hall])

/-- whether it is a coalgebra -/
def coB (p n : Int) (U C : Nat → Int) : Bool := algB p n U (dualF C)
theorem coB_not {p n : Int} {U C : Nat → Int} (h : shapeB p n U C = false) : coB p n U C = false := by
  unfold coB algB
  rw [shape_dual, h]; rfl
theorem coB_fault {p : Int} {n : Nat} {U C g : Nat → Int} (hV : Valid p n U (dualF C)) (h : coFaultAt p n C g) : coB p n U C = false := by
  obtain ⟨i, j, k, l, hi, hj, hk, hl, hf, _⟩ := h
  cases hb : coB p n U C with
  | false => rfl
  | true =>
    unfold coB algB at hb
    simp only [Bool.and_eq_true, Int.toNat_natCast] at hb
    have := (assL_co hV).1 hb.2.1 i j k l hi hj hk hl
    rw [hf] at this; cases this
theorem coB_unit {p : Int} {n : Nat} {U C : Nat → Int} (hs : shapeB p n U C = true) (hV : Valid p n U (dualF C)) (h : coAss p n C) : coB p n U C = couL p n U C := by
  have h1 := (assL_co hV).2 h
  unfold coB algB
  rw [shape_dual, hs, Int.toNat_natCast, h1, Bool.true_and, Bool.true_and, Bool.eq_iff_iff, unit_co hV]
  constructor
  · exact couL_yes
  · exact fun hh i hi => List.all_eq_true.1 hh i (List.mem_range.2 hi)

theorem valid_co {p : Int} {n : Nat} {U C : Nat → Int} (hU : isU8 8 U) (hC : isU8 512 C) (hs : shapeB p n U C = true) : Valid p n U (dualF C) := valid_of hU (dual_u8 hC) (by rw [shape_dual]; exact hs)

theorem l02Is_s (p n : Int) (U C : Nat → Int) (hU : isU8 8 U) (hC : isU8 512 C) : Spec Tryz.prog 95 [algV p n U C] [] (Ret (.bool (coB p n U C))) := by
  refine Spec.ret rfl (Spec.of_vc tabOK tabEq Tryz.func95 rfl (by kernel_rfl) rfl rfl ?_)
  refine And.intro trivial (Spec.mono (l02Shape_s p n U C hU hC) ?_)
  rintro r m ⟨rfl, rfl⟩
  refine ifVC_split (fun hs => ?_) (fun hs => ?_)
  · exact boolEq (by rw [coB_not (by simpa using hs)])
  have hs : shapeB p n U C = true := by simpa using hs
  have hfb := field_bounds (shape_field hs)
  obtain ⟨n, rfl⟩ : ∃ k : Nat, n = k := ⟨n.toNat, by have := hfb.2; omega⟩
  have hV := valid_co hU hC hs
  have hn := hV.hn
  refine And.intro trivial (Spec.mono (l02Fault_s p n U C hV.hp hn (by have := hfb.2; omega) hC) ?_)
  rintro r m (⟨hass, rfl⟩ | ⟨id, g, hf, rfl, hb⟩)
  · refine And.intro trivial (Spec.mono (l02Counits_s p n U C hV.hp hn hU hC) ?_)
    rintro r m ⟨rfl, rfl⟩
    exact boolEq (by rw [coB_unit hs hV hass])
  · exact boolEq (by rw [coB_fault hV hf])

theorem implIsCo_s (p n : Int) (U C : Nat → Int) (hU : isU8 8 U) (hC : isU8 512 C) : Spec Tryz.prog 83 [algV p n U C] [] (Ret (.bool (coB p n U C))) := by
  refine Spec.ret rfl (Spec.of_vc tabOK tabEq Tryz.func83 rfl (by kernel_rfl) rfl rfl ?_)
  refine And.intro trivial (Spec.mono (dualAlgebra_s p n U C) ?_)
  rintro r m ⟨rfl, rfl⟩
  refine And.intro trivial (Spec.mono (isAlgebra_s p n U _ hU (dual_u8 hC)) ?_)
  rintro r m ⟨rfl, rfl⟩
  exact boolEq rfl
end Go.Proofs.YtjanlnngeklhoabGreat

/- The laws' comparisons of maps, tables and structs of these. -/
set_option linter.unusedVariables false
set_option linter.unusedSimpArgs false
set_option maxRecDepth 100000
namespace Go.Proofs.YtjanlnngeklhoabGreat
open M

end Go.Proofs.YtjanlnngeklhoabGreat

/- Left tables and their traces, on both sides, and the laws. -/
set_option linter.unusedVariables false
set_option linter.unusedSimpArgs false
set_option maxRecDepth 100000
namespace Go.Proofs.YtjanlnngeklhoabGreat
open M

def leftV (p n : Int) (U T v : Nat → Int) : SV := .tcons (.ints .u8 64 fun q => if oneOk p n U T v = true then leftT p T v q else 0) (.tcons (.int .i64 (if oneOk p n U T v = true then 0 else 1)) .tnil)

/-- the trace of a map -/
def traceN (p : Int) (k : Nat) (F : Nat → Int) : Int := sumN k (fun i => F (i * 8 + i)) % p
def traceV (p n : Int) (U T v : Nat → Int) : SV := .tcons (.int .i64 (if oneOk p n U T v = true then traceN p 8 (leftT p T v) else 0)) (.tcons (.int .i64 (if oneOk p n U T v = true then 0 else 1)) .tnil)

end Go.Proofs.YtjanlnngeklhoabGreat

/- Opposite algebras and commutativity, on both sides, and the laws. -/
set_option linter.unusedVariables false
set_option linter.unusedSimpArgs false
set_option maxRecDepth 100000
namespace Go.Proofs.YtjanlnngeklhoabGreat
open M

def oppA (p n : Int) (U T : Nat → Int) : SV := algV (if algB p n U T = true then p else 0) (if algB p n U T = true then n else 0) (fun j => if algB p n U T = true then U j else 0) (fun q => if algB p n U T = true then flipF T q else 0)
def oppV (p n : Int) (U T : Nat → Int) : SV := .tcons (oppA p n U T) (.tcons (.int .i64 (if algB p n U T = true then 0 else 1)) .tnil)

/-! ### commutativity -/
def commB (T : Nat → Int) : Bool := allEq 512 T (flipF T)
def commV (p n : Int) (U T : Nat → Int) : SV := .tcons (.bool (algB p n U T && commB T)) (.tcons (.int .i64 (if algB p n U T = true then 0 else 1)) .tnil)

end Go.Proofs.YtjanlnngeklhoabGreat

/- The first fault of a coalgebra, on both sides, and the laws on IsCoalgebra and FirstCoFault. -/
set_option linter.unusedVariables false
set_option linter.unusedSimpArgs false
set_option maxRecDepth 100000
set_option maxHeartbeats 2000000
namespace Go.Proofs.YtjanlnngeklhoabGreat
open M

/-- the first place with another number than 0 -/
def FirstAt (v : Nat → Int) (l : Nat) : Prop := l ≤ 8 ∧ (∀ j, j < l → v j = 0) ∧ (l < 8 → v l ≠ 0)
section
variable {p : Int} {n : Nat} {U C : Nat → Int}
end

def CoQ (p : Int) (n : Nat) (C : Nat → Int) (r : SV) (m : Mem) : Prop :=
  (coAss p n C ∧ r = .nilsl) ∨ ∃ id g, coFaultAt p n C g ∧ r = .sl id 0 4 4 ∧ blockOf m id = some (.ints .i64 4 g, 4)
end Go.Proofs.YtjanlnngeklhoabGreat

/- Coproducts, counits and group-like vectors, on both sides, and the laws. -/
set_option linter.unusedVariables false
set_option linter.unusedSimpArgs false
set_option maxRecDepth 100000
set_option maxHeartbeats 1000000
namespace Go.Proofs.YtjanlnngeklhoabGreat
open M

def coOne (p n : Int) (U C v : Nat → Int) : Bool := coB p n U C && entriesB p n v

/-! ### counits -/
def cntN (U v : Nat → Int) (k : Nat) : Int := sumN k fun i => v i * U i
def cnt (p : Int) (U v : Nat → Int) : Int := cntN U v 8 % p
theorem cnt_bound {U v : Nat → Int} (hU : isU8 8 U) (hv : isU8 8 v) (k : Nat) (hk : k ≤ 8) : 0 ≤ cntN U v k ∧ cntN U v k ≤ 65025 * k := sum_bound k fun i hi => mulB (hv i (by omega)) (hU i (by omega))
theorem cnt_step {U v : Nat → Int} (hU : isU8 8 U) (hv : isU8 8 v) {i a b : Nat} (hi : i < 8) (ha : a = i) (hb : b = i) :
    IntKind.i64.wrap (cntN U v i + IntKind.i64.wrap (IntKind.i64.wrap (v a) * IntKind.i64.wrap (U b))) = cntN U v (i + 1) := by
  subst ha; subst hb
  have h1 := hv b hi
  have h2 := hU b hi
  have h3 := mulB h1 h2
  have h4 := cnt_bound hU hv b (by omega)
  rw [wrapI (x := v b) (by omega), wrapI (x := U b) (by omega), wrapI (x := v b * U b) (by omega), wrapI (by omega)]
  rfl

theorem valueAt_s (p : Int) (U v : Nat → Int) (hp : 0 < p ∧ p < 256) (hU : isU8 8 U) (hv : isU8 8 v) : Spec Tryz.prog 118 [.int .i64 p, .ints .u8 8 U, .ints .u8 8 v] [] (Ret (.int .i64 (cnt p U v))) := by
  refine Spec.ret rfl (Spec.of_vc tabOK tabEq Tryz.func118 rfl (by kernel_rfl) rfl rfl ?_)
  (repeat (first | refine And.intro (by omega) ?_ | refine And.intro ⟨by omega, by omega⟩ ?_))
  refine LoopVC.of (fun i : Nat => i ≤ 8) (fun i => [(0, .int .i64 p), (4, .ptr 0 [] 0 0), (7, .int .i64 (cntN U v i)), (10, .ints .u8 8 v), (11, .int .i64 i)]) (fun _ => [some (.ints .u8 8 U, 8), none]) (fun i => 8 - i) 0 (by omega) ?_ ?_ ?_
  · exact And.intro rfl (And.intro rfl (And.intro rfl (And.intro (rowEq fun _ _ => rfl) (And.intro rfl trivial))))
  · exact And.intro (And.intro (rowEq fun _ _ => rfl) rfl) trivial
  · intro i hi
    refine ifVC_split (fun h => ?_) (fun h => ?_)
    · have hlt := of_decide_eq_true h
      (repeat (first | refine And.intro (by omega) ?_ | refine And.intro ⟨by omega, by omega⟩ ?_))
      refine Exists.intro (i + 1) (And.intro (by omega) (And.intro (by omega) (And.intro (And.intro rfl (And.intro rfl (And.intro (slotI (cnt_step hU hv (by omega) (by omega) (by omega))) (And.intro (rowEq fun _ _ => rfl) (And.intro (slotI (wrapS (by omega))) trivial))))) (And.intro (And.intro (rowEq fun _ _ => rfl) rfl) trivial))))
    · have hge := of_decide_eq_false h
      obtain rfl : i = 8 := by omega
      have h4 := cnt_bound hU hv 8 (by omega)
      (repeat (first | refine And.intro (by omega) ?_ | refine And.intro ⟨by omega, by omega⟩ ?_))
      refine slotI ?_
      rw [Int.tmod_eq_emod_of_nonneg h4.1]
      rfl

theorem counit_s (p n : Int) (U C v : Nat → Int) (hp : 0 < p ∧ p < 256) (hU : isU8 8 U) (hv : isU8 8 v) : Spec Tryz.prog 106 [algV p n U C, .ints .u8 8 v] [] (Ret (.int .i64 (cnt p U v))) := by
  refine Spec.ret rfl (Spec.of_vc tabOK tabEq Tryz.func106 rfl (by kernel_rfl) rfl rfl ?_)
  (repeat (first | refine And.intro (by omega) ?_ | refine And.intro ⟨by omega, by omega⟩ ?_))
  refine And.intro trivial (Spec.mono (valueAt_s p U v hp hU hv) ?_)
  rintro r m ⟨rfl, rfl⟩
  exact slotI rfl

/-! ### coproducts -/
theorem coproduct_s (p n : Int) (U C v : Nat → Int) (hp : 0 < p ∧ p < 256) (hC : isU8 512 C) (hv : isU8 8 v) :
    Spec Tryz.prog 104 [algV p n U C, .ints .u8 8 v] [] (Ret (.ints .u8 64 (leftT p C v))) := by
  refine Spec.ret rfl (Spec.of_vc tabOK tabEq Tryz.func104 rfl (by kernel_rfl) rfl rfl ?_)
  (repeat (first | refine And.intro (by omega) ?_ | refine And.intro ⟨by omega, by omega⟩ ?_))
  refine And.intro trivial (Spec.mono (sumOfMaps_s p _ _ hp (fun j hj => hC _ (by omega)) (fun j hj => hv _ (by omega))) ?_)
  rintro r m ⟨rfl, rfl⟩
  (repeat (first | refine And.intro (by omega) ?_ | refine And.intro ⟨by omega, by omega⟩ ?_))
  refine rowEq fun q hq => ?_
  show updR _ 0 64 _ q = leftT p C v q
  simp [updR, hq]

def cop (p : Int) (C v : Nat → Int) (i j k : Nat) : Int := sumN i (fun a => v a * vecT C a j k) % p
theorem cop_step (p : Int) (C v : Nat → Int) (i j k : Nat) : cop p C v (i + 1) j k = (cop p C v i j k + v i * vecT C i j k) % p := by
  unfold cop
  show (sumN i (fun a => v a * vecT C a j k) + v i * vecT C i j k) % p = _
  rw [Int.emod_add_emod]
theorem cop_left {p : Int} {n : Nat} {U C v : Nat → Int} (hV : Valid p n U (dualF C)) (hz : ∀ i, n ≤ i → i < 8 → v i = 0) {q : Nat} (hq : q < 64) : leftT p C v q = if q / 8 < n then cop p C v n (q / 8) (q % 8) else 0 := by
  have hn := hV.hn
  have e : leftT p C v q = cop p C v n (q / 8) (q % 8) := by
    unfold leftT rightF cop
    rw [linS_cut 8 hn hz, linS_sum]
    congr 1
    refine sumN_congr n fun a ha => ?_
    have e : rowT (flipF C) (q / 8) (a * 8 + q % 8) = vecT C a (q / 8) (q % 8) := by unfold rowT flipF vecT; congr 1; omega
    rw [e]
  rw [e]
  by_cases h : q / 8 < n
  · rw [if_pos h]
  · rw [if_neg h]
    unfold cop
    rw [sumN_none n fun a ha => by rw [co_zero hV (by omega) (by omega) (by omega) (.inr (.inl (by omega)))]; simp]
    simp

/-! ### tables of two vectors -/
def tenF (p : Int) (v w : Nat → Int) : Nat → Int := fun q => v (q / 8) * w (q % 8) % p
/-- a table and that of two vectors -/
def addTen (p : Int) (F v w : Nat → Int) : Nat → Int := fun q => (F q + v (q / 8) * w (q % 8)) % p
theorem addTensor_s (p : Int) (F v w : Nat → Int) (hp : 0 < p ∧ p < 256) (hF : ∀ q, q < 64 → 0 ≤ F q ∧ F q < p) (hv : isU8 8 v) (hw : isU8 8 w) :
    Spec Tryz.prog 117 [.int .i64 p, .ints .u8 64 F, .ints .u8 8 v, .ints .u8 8 w] [] (Ret (.ints .u8 64 (addTen p F v w))) := by
  refine Spec.ret rfl (Spec.of_vc tabOK tabEq Tryz.func117 rfl (by kernel_rfl) rfl rfl ?_)
  (repeat (first | refine And.intro (by omega) ?_ | refine And.intro ⟨by omega, by omega⟩ ?_))
  refine LoopVC.of (fun i : Nat => i ≤ 8) (fun i => [(0, .int .i64 p), (5, .ptr 0 [] 0 0), (7, .ptr 2 [] 0 0), (8, .ptr 3 [] 0 0), (11, .ints .u8 8 v), (12, .int .i64 i)])
    (fun i => [some (.ints .u8 64 fun q => if q / 8 < i then addTen p F v w q else F q, 64), none, some (.ints .u8 8 w, 8), some (.ints .u8 64 fun _ => 0, 64)]) (fun i => 8 - i) 0 (by omega) ?_ ?_ ?_
  · exact And.intro rfl (And.intro rfl (And.intro rfl (And.intro rfl (And.intro (rowEq fun _ _ => rfl) (And.intro rfl trivial)))))
  · exact And.intro (And.intro (rowEq fun q hq => by simp) rfl) (And.intro (And.intro (rowEq fun _ _ => rfl) rfl) (And.intro (And.intro (rowEq fun _ _ => rfl) rfl) trivial))
  · intro i hi
    refine ifVC_split (fun h => ?_) (fun h => ?_)
    · have hlt := of_decide_eq_true h
      have hidx : (i : Int).toNat = i := by omega
      have hvi := hv i (by omega)
      have hvw : IntKind.i64.wrap (v ((i : Int).toNat)) = v i := by rw [hidx]; exact wrapI (by omega)
      (repeat (first | refine And.intro (by omega) ?_ | refine And.intro ⟨by omega, by omega⟩ ?_))
      refine ifVC_split (fun hz => ?_) (fun hz => ?_)
      · refine Exists.intro 10 (And.intro (by kernel_rfl) ?_)
        (repeat (first | refine And.intro (by omega) ?_ | refine And.intro ⟨by omega, by omega⟩ ?_))
        refine Exists.intro (.ints .u8 8 _) (And.intro (And.intro rfl (And.intro rfl (Spec.mono (addMultiple_s p _ _ _ hp (by rw [hvw]; exact hvi) (fun q hq => ?_) (fun q hq => hw _ (by omega))) fun r m h => h.1))) ?_)
        · dsimp only
          rw [if_neg (by omega)]
          have := hF (q + ((i : Int).toNat * 8 + 0)) (by omega)
          omega
        (repeat (first | refine And.intro (by omega) ?_ | refine And.intro ⟨by omega, by omega⟩ ?_))
        refine Exists.intro (i + 1) (And.intro (by omega) (And.intro (by omega) (And.intro (And.intro rfl (And.intro rfl (And.intro rfl (And.intro rfl (And.intro (rowEq fun _ _ => rfl) (And.intro (slotI (wrapS (by omega))) trivial)))))) ?_)))
        refine And.intro (And.intro (rowEq fun q hq => ?_) rfl) (And.intro (And.intro (rowEq fun _ _ => rfl) rfl) (And.intro (And.intro (rowEq fun _ _ => rfl) rfl) trivial))
        show updR _ ((i : Int).toNat * 8 + 0) 8 _ q = _
        unfold updR
        rw [hidx]
        by_cases h1 : i * 8 + 0 ≤ q ∧ q < i * 8 + 0 + 8
        · rw [if_pos h1, if_pos (show q / 8 < i + 1 by omega)]
          unfold addM addTen
          have hvw' : IntKind.i64.wrap (v i) = v i := wrapI (by omega)
          dsimp only
          rw [show q - (i * 8 + 0) + (i * 8 + 0) = q by omega, if_neg (show ¬ q / 8 < i by omega), hvw', show q / 8 = i by omega, show q - (i * 8 + 0) + 0 = q % 8 by omega]
        · rw [if_neg h1]
          dsimp only
          by_cases h2 : q / 8 < i
          · rw [if_pos h2, if_pos (show q / 8 < i + 1 by omega)]
          · rw [if_neg h2, if_neg (show ¬ q / 8 < i + 1 by omega)]
      · have hz : v i = 0 := by
          have hz : v ((i : Int).toNat) = 0 := by simpa using hz
          rw [hidx] at hz; exact hz
        refine Exists.intro (i + 1) (And.intro (by omega) (And.intro (by omega) (And.intro (And.intro rfl (And.intro rfl (And.intro rfl (And.intro rfl (And.intro (rowEq fun _ _ => rfl) (And.intro (slotI (wrapS (by omega))) trivial)))))) ?_)))
        refine And.intro (And.intro (rowEq fun q hq => ?_) rfl) (And.intro (And.intro (rowEq fun _ _ => rfl) rfl) (And.intro (And.intro (rowEq fun _ _ => rfl) rfl) trivial))
        by_cases h2 : q / 8 < i
        · rw [if_pos h2, if_pos (show q / 8 < i + 1 by omega)]
        · rw [if_neg h2]
          by_cases h3 : q / 8 < i + 1
          · rw [if_pos h3]
            unfold addTen
            have := hF q hq
            rw [show q / 8 = i by omega, hz, Int.zero_mul, Int.add_zero, Int.emod_eq_of_lt this.1 this.2]
          · rw [if_neg h3]
    · have hge := of_decide_eq_false h
      obtain rfl : i = 8 := by omega
      (repeat (first | refine And.intro (by omega) ?_ | refine And.intro ⟨by omega, by omega⟩ ?_))
      refine rowEq fun q hq => ?_
      show updR _ 0 64 _ q = _
      simp [updR, hq]
      omega
theorem tensor_s (p : Int) (v w : Nat → Int) (hp : 0 < p ∧ p < 256) (hv : isU8 8 v) (hw : isU8 8 w) : Spec Tryz.prog 105 [.int .i64 p, .ints .u8 8 v, .ints .u8 8 w] [] (Ret (.ints .u8 64 (tenF p v w))) := by
  refine Spec.ret rfl (Spec.of_vc tabOK tabEq Tryz.func105 rfl (by kernel_rfl) rfl rfl ?_)
  (repeat (first | refine And.intro (by omega) ?_ | refine And.intro ⟨by omega, by omega⟩ ?_))
  refine And.intro trivial (Spec.mono (addTensor_s p _ _ _ hp (fun q hq => by constructor <;> omega) (fun q hq => hv _ (by omega)) (fun q hq => hw _ (by omega))) ?_)
  rintro r m ⟨rfl, rfl⟩
  (repeat (first | refine And.intro (by omega) ?_ | refine And.intro ⟨by omega, by omega⟩ ?_))
  refine rowEq fun q hq => ?_
  show updR _ 0 64 _ q = _
  simp [updR, hq, addTen, tenF]

/-! ### group-like vectors -/
def groupB (p : Int) (U C v : Nat → Int) : Bool := (cnt p U v == 1) && allEq 64 (leftT p C v) (tenF p v v)

end Go.Proofs.YtjanlnngeklhoabGreat

/- CounitIn, CoproductIn and IsGroupLike on both sides, and the laws. -/
set_option linter.unusedVariables false
set_option linter.unusedSimpArgs false
set_option maxRecDepth 100000
set_option maxHeartbeats 1000000
namespace Go.Proofs.YtjanlnngeklhoabGreat
open M

def counitV (p n : Int) (U C v : Nat → Int) : SV := .tcons (.int .i64 (if coOne p n U C v = true then cnt p U v else 0)) (.tcons (.int .i64 (if coOne p n U C v = true then 0 else 1)) .tnil)

def coprodV (p n : Int) (U C v : Nat → Int) : SV := .tcons (.ints .u8 64 fun q => if coOne p n U C v = true then leftT p C v q else 0) (.tcons (.int .i64 (if coOne p n U C v = true then 0 else 1)) .tnil)

def groupV (p n : Int) (U C v : Nat → Int) : SV := .tcons (.bool (coOne p n U C v && groupB p U C v)) (.tcons (.int .i64 (if coOne p n U C v = true then 0 else 1)) .tnil)

end Go.Proofs.YtjanlnngeklhoabGreat

/- Lists of vectors compared, marked and held. -/
set_option linter.unusedVariables false
set_option linter.unusedSimpArgs false
set_option maxRecDepth 100000
namespace Go.Proofs.YtjanlnngeklhoabGreat
open M

theorem eqVecsNil_s : Spec Tryz.prog 9 [.nilsl, .nilsl] [] (Ret (.bool true)) := by
  refine Spec.ret rfl (Spec.of_vc tabOK tabEq Tryz.func9 rfl (by kernel_rfl) rfl rfl ?_)
  refine LoopVC.of (fun i : Nat => i = 0) (fun i => [(0, .nilsl), (1, .nilsl), (5, .int .i64 0)]) (fun _ => []) (fun i => 0) 0 rfl ?_ ?_ ?_
  · exact (And.intro rfl (And.intro rfl (And.intro rfl (trivial))))
  · exact trivial
  · rintro i hi
    exact boolEq rfl
theorem eqVecs_s (n c d : Nat) (g h : Nat → Int) (hn : n ≤ 100000) (hgh : ∀ j, j < n * 8 → g j = h j) :
    Spec Tryz.prog 9 [.sl 0 0 n c, .sl 1 0 n d] [some (.ints .u8 (n * 8) g, c * 8), some (.ints .u8 (n * 8) h, d * 8)] (fun r m => r = .bool true ∧ m = [some (.ints .u8 (n * 8) g, c * 8), some (.ints .u8 (n * 8) h, d * 8)]) := by
  refine Spec.cut (Nat.le_refl _) (by simp [SV.ids]) (fun id u c hb => by rcases id with _ | _ | id <;> cases hb <;> simp [SV.ids]) (Spec.of_vc tabOK tabEq Tryz.func9 rfl (by kernel_rfl) rfl rfl ?_)
  refine ifVC_false (by simp) ?_
  refine LoopVC.of (fun i : Nat => i ≤ n) (fun i => [(0, .sl 0 0 n c), (1, .sl 1 0 n d), (5, .int .i64 i)]) (fun _ => [some (.ints .u8 (n * 8) g, c * 8), some (.ints .u8 (n * 8) h, d * 8)]) (fun i => n - i) 0 (by omega) ?_ ?_ ?_
  · exact (And.intro rfl (And.intro rfl (And.intro rfl (trivial))))
  · exact And.intro (And.intro (rowEq fun _ _ => rfl) rfl) (And.intro (And.intro (rowEq fun _ _ => rfl) rfl) trivial)
  · intro i hi
    refine ifVC_split (fun hh => ?_) (fun hh => ?_)
    · have hlt := of_decide_eq_true hh
      refine Exists.intro 8 (And.intro (by kernel_rfl) ?_)
      (repeat (first | refine And.intro (by omega) ?_ | refine And.intro ⟨by omega, by omega⟩ ?_))
      refine And.intro trivial (Spec.mono (eqVector_s _ _) ?_)
      rintro r m ⟨rfl, rfl⟩
      refine ifVC_false ?_ ?_
      · have : allEq 8 (fun j => g (j + ((i : Int).toNat * 8 + 0))) (fun j => h (j + ((i : Int).toNat * 8 + 0))) = true := List.all_eq_true.2 fun j hj => by
          have hj := List.mem_range.1 hj
          show (g (j + ((i : Int).toNat * 8 + 0)) == h (j + ((i : Int).toNat * 8 + 0))) = true
          rw [hgh (j + ((i : Int).toNat * 8 + 0)) (by omega)]
          simp
        show (!allEq 8 (fun j => g (j + ((i : Int).toNat * 8 + 0))) (fun j => h (j + ((i : Int).toNat * 8 + 0)))) = false
        rw [this]; rfl
      refine Exists.intro (i + 1) (And.intro (by omega) (And.intro (by omega) (And.intro (And.intro rfl (And.intro rfl (And.intro (slotI (wrapS (by omega))) trivial))) ?_)))
      exact And.intro (And.intro (rowEq fun _ _ => rfl) rfl) (And.intro (And.intro (rowEq fun _ _ => rfl) rfl) trivial)
    · exact And.intro (boolEq rfl) (And.intro (And.intro (rowEq fun _ _ => rfl) rfl) (And.intro (And.intro (rowEq fun _ _ => rfl) rfl) trivial))

theorem markVecsNil_s (k : Int) : Spec Tryz.prog 10 [.nilsl, .int .i64 k] [] (Ret (.int .i64 k)) := by
  refine Spec.ret rfl (Spec.of_vc tabOK tabEq Tryz.func10 rfl (by kernel_rfl) rfl rfl ?_)
  refine LoopVC.of (fun i : Nat => i = 0) (fun i => [(0, .nilsl), (1, .int .i64 k), (5, .int .i64 0)]) (fun _ => []) (fun i => 0) 0 rfl ?_ ?_ ?_
  · exact (And.intro rfl (And.intro rfl (And.intro rfl (trivial))))
  · exact trivial
  · rintro i hi
    exact slotI rfl
theorem heldVecsNil_s (k : Int) : Spec Tryz.prog 11 [.nilsl, .int .i64 k] [] (Ret (.int .i64 k)) := by
  refine Spec.ret rfl (Spec.of_vc tabOK tabEq Tryz.func11 rfl (by kernel_rfl) rfl rfl ?_)
  refine LoopVC.of (fun i : Nat => i = 0) (fun i => [(0, .nilsl), (1, .int .i64 k), (5, .int .i64 0)]) (fun _ => []) (fun i => 0) 0 rfl ?_ ?_ ?_
  · exact (And.intro rfl (And.intro rfl (And.intro rfl (trivial))))
  · exact trivial
  · rintro i hi
    exact slotI rfl

def markF (k : Int) : Nat → Int := fun q => IntKind.u8.wrap (k + q)
theorem markVecs_s (n c : Nat) (k : Int) (g : Nat → Int) (hn : n ≤ 100000) (hk : 0 ≤ k ∧ k ≤ 1000000) :
    Spec Tryz.prog 10 [.sl 0 0 n c, .int .i64 k] [some (.ints .u8 (n * 8) g, c * 8)] (fun r m => r = .int .i64 (k + ((n * 8 : Nat) : Int)) ∧ m = [some (.ints .u8 (n * 8) (markF k), c * 8)]) := by
  refine Spec.cut (Nat.le_refl _) (by simp [SV.ids]) (fun id u c hb => by cases id <;> cases hb; simp [SV.ids]) (Spec.of_vc tabOK tabEq Tryz.func10 rfl (by kernel_rfl) rfl rfl ?_)
  refine LoopVC.of (fun i : Nat => i ≤ n) (fun i => [(0, .sl 0 0 n c), (1, .int .i64 (k + ((i * 8 : Nat) : Int))), (5, .int .i64 i)]) (fun i => [some (.ints .u8 (n * 8) fun q => if q < i * 8 then markF k q else g q, c * 8)]) (fun i => n - i) 0 (by omega) ?_ ?_ ?_
  · exact And.intro rfl (And.intro (slotI (by omega)) (And.intro rfl trivial))
  · exact And.intro (And.intro (rowEq fun _ _ => by simp) rfl) trivial
  · intro i hi
    refine ifVC_split (fun hh => ?_) (fun hh => ?_)
    · have hlt := of_decide_eq_true hh
      refine LoopVC.of (fun j : Nat => j ≤ 8) (fun j => [(0, .sl 0 0 n c), (1, .int .i64 (k + ((i * 8 + j : Nat) : Int))), (5, .int .i64 i), (6, .int .i64 j)]) (fun j => [some (.ints .u8 (n * 8) fun q => if q < i * 8 + j then markF k q else g q, c * 8)]) (fun j => 8 - j) 0 (by omega) ?_ ?_ ?_
      · exact And.intro rfl (And.intro (slotI (by omega)) (And.intro rfl (And.intro rfl trivial)))
      · exact And.intro (And.intro (rowEq fun _ _ => by simp) rfl) trivial
      · intro j hj
        refine ifVC_split (fun hh2 => ?_) (fun hh2 => ?_)
        · have hlt2 := of_decide_eq_true hh2
          (repeat (first | refine And.intro (by omega) ?_ | refine And.intro ⟨by omega, by omega⟩ ?_))
          refine Exists.intro (j + 1) (And.intro (by omega) (And.intro (by omega) (And.intro (And.intro rfl (And.intro (slotI (by rw [wrapI (by omega)]; omega)) (And.intro rfl (And.intro (slotI (wrapS (by omega))) trivial)))) ?_)))
          refine And.intro (And.intro (rowEq fun q hq => ?_) rfl) trivial
          show upd1 _ _ _ q = if q < i * 8 + (j + 1) then markF k q else g q
          unfold upd1
          dsimp only
          by_cases h1 : q = i * 8 + j
          · subst h1
            rw [if_pos (by omega), if_pos (by omega)]
            rfl
          · rw [if_neg (by omega)]
            by_cases h2 : q < i * 8 + j
            · rw [if_pos h2, if_pos (by omega)]
            · rw [if_neg h2, if_neg (by omega)]
        · have hge2 := of_decide_eq_false hh2
          obtain rfl : j = 8 := by omega
          refine Exists.intro (i + 1) (And.intro (by omega) (And.intro (by omega) (And.intro (And.intro rfl (And.intro (slotI (by omega)) (And.intro (slotI (wrapS (by omega))) trivial))) ?_)))
          refine And.intro (And.intro (rowEq fun q hq => ?_) rfl) trivial
          show (if q < i * 8 + 8 then markF k q else g q) = if q < (i + 1) * 8 then markF k q else g q
          rw [show (i + 1) * 8 = i * 8 + 8 by omega]
    · have hge := of_decide_eq_false hh
      obtain rfl : i = n := by omega
      exact And.intro (slotI rfl) (And.intro (And.intro (rowEq fun q hq => by simp [hq]) rfl) trivial)

theorem heldVecs_s (n c : Nat) (k : Int) (hn : n ≤ 100000) (hk : 0 ≤ k ∧ k ≤ 1000000) :
    Spec Tryz.prog 11 [.sl 0 0 n c, .int .i64 k] [some (.ints .u8 (n * 8) (markF k), c * 8)] (fun r m => r = .int .i64 (k + ((n * 8 : Nat) : Int)) ∧ m = [some (.ints .u8 (n * 8) (markF k), c * 8)]) := by
  refine Spec.cut (Nat.le_refl _) (by simp [SV.ids]) (fun id u c hb => by cases id <;> cases hb; simp [SV.ids]) (Spec.of_vc tabOK tabEq Tryz.func11 rfl (by kernel_rfl) rfl rfl ?_)
  refine LoopVC.of (fun i : Nat => i ≤ n) (fun i => [(0, .sl 0 0 n c), (1, .int .i64 (k + ((i * 8 : Nat) : Int))), (5, .int .i64 i)]) (fun i => [some (.ints .u8 (n * 8) (markF k), c * 8)]) (fun i => n - i) 0 (by omega) ?_ ?_ ?_
  · exact And.intro rfl (And.intro (slotI (by omega)) (And.intro rfl trivial))
  · exact And.intro (And.intro (rowEq fun _ _ => rfl) rfl) trivial
  · intro i hi
    refine ifVC_split (fun hh => ?_) (fun hh => ?_)
    · have hlt := of_decide_eq_true hh
      refine LoopVC.of (fun j : Nat => j ≤ 8) (fun j => [(0, .sl 0 0 n c), (1, .int .i64 (k + ((i * 8 + j : Nat) : Int))), (5, .int .i64 i), (6, .int .i64 j)]) (fun j => [some (.ints .u8 (n * 8) (markF k), c * 8)]) (fun j => 8 - j) 0 (by omega) ?_ ?_ ?_
      · exact And.intro rfl (And.intro (slotI (by omega)) (And.intro rfl (And.intro rfl trivial)))
      · exact And.intro (And.intro (rowEq fun _ _ => rfl) rfl) trivial
      · intro j hj
        refine ifVC_split (fun hh2 => ?_) (fun hh2 => ?_)
        · have hlt2 := of_decide_eq_true hh2
          (repeat (first | refine And.intro (by omega) ?_ | refine And.intro ⟨by omega, by omega⟩ ?_))
          refine ifVC_false ?_ ?_
          · show (!(markF k ((j : Int).toNat * 1 + ((i : Int).toNat * 8 + 0)) == IntKind.u8.wrap (k + ((i * 8 + j : Nat) : Int)))) = false
            rw [show (j : Int).toNat * 1 + ((i : Int).toNat * 8 + 0) = i * 8 + j by omega]
            simp [markF]
          refine Exists.intro (j + 1) (And.intro (by omega) (And.intro (by omega) (And.intro (And.intro rfl (And.intro (slotI (by rw [wrapI (by omega)]; omega)) (And.intro rfl (And.intro (slotI (wrapS (by omega))) trivial)))) ?_)))
          exact And.intro (And.intro (rowEq fun q hq => rfl) rfl) trivial
        · have hge2 := of_decide_eq_false hh2
          obtain rfl : j = 8 := by omega
          refine Exists.intro (i + 1) (And.intro (by omega) (And.intro (by omega) (And.intro (And.intro rfl (And.intro (slotI (by omega)) (And.intro (slotI (wrapS (by omega))) trivial))) ?_)))
          exact And.intro (And.intro (rowEq fun q hq => rfl) rfl) trivial
    · have hge := of_decide_eq_false hh
      obtain rfl : i = n := by omega
      exact And.intro (slotI rfl) (And.intro (And.intro (rowEq fun q hq => rfl) rfl) trivial)
end Go.Proofs.YtjanlnngeklhoabGreat

/- Rows: their first place, inverses of numbers, division, and a search through a family of rows. -/
set_option linter.unusedVariables false
set_option linter.unusedSimpArgs false
set_option maxRecDepth 100000
set_option maxHeartbeats 1000000
namespace Go.Proofs.YtjanlnngeklhoabGreat
open M

theorem invX : ∀ p : Fin 32, primeB (p.val : Int) = true → ∀ x : Fin 32, 0 < x.val → x.val < p.val → ∃ e : Fin 32, 0 < e.val ∧ e.val < p.val ∧ (e.val * x.val) % p.val = 1 := by decide

theorem inverseNumber_s (p x : Nat) (hp : primeB (p : Int) = true) (hp2 : 2 ≤ p ∧ p ≤ 31) (hx : 0 < x ∧ x < p) :
    Spec Tryz.prog 92 [.int .i64 p, .int .i64 x] [] (fun r m => ∃ y : Nat, 0 < y ∧ y < p ∧ y * x % p = 1 ∧ r = .int .i64 y ∧ m = []) := by
  obtain ⟨e, he0, hep, he⟩ := invX ⟨p, by omega⟩ hp ⟨x, by omega⟩ hx.1 hx.2
  have hep : e.val < p := hep
  have he : e.val * x % p = 1 := he
  generalize e.val = e at *
  refine (Spec.of_vc tabOK tabEq Tryz.func92 rfl (by kernel_rfl) rfl rfl ?_)
  refine LoopVC.of (fun i : Nat => 0 < i ∧ i ≤ e) (fun i => [(0, .int .i64 p), (1, .int .i64 x), (5, .int .i64 i)]) (fun _ => []) (fun i => e - i) 1 ⟨by omega, by omega⟩ ?_ trivial ?_
  · exact (And.intro rfl (And.intro rfl (And.intro rfl (trivial))))
  · rintro i ⟨hi0, hi⟩
    have hb : i * x ≤ 31 * 31 := Nat.mul_le_mul (by omega) (by omega)
    have hval : (IntKind.i64.wrap ((i : Int) * (x : Int))).tmod (p : Int) = ((i * x % p : Nat) : Int) := by
      rw [← Int.natCast_mul, wrapI (by omega)]
      rfl
    (repeat (first | refine And.intro (by omega) ?_ | refine And.intro ⟨by omega, by omega⟩ ?_))
    refine ifVC_split (fun h => ?_) (fun h => ?_)
    · have hne : i * x % p ≠ 1 := by
        have h : (!((IntKind.i64.wrap ((i : Int) * (x : Int))).tmod (p : Int) == 1)) = true := h
        rw [hval] at h
        intro hh
        rw [hh] at h
        simp at h
      have hie : i ≠ e := by rintro rfl; exact hne he
      exact Exists.intro (i + 1) (And.intro ⟨by omega, by omega⟩ (And.intro (by omega) (And.intro (And.intro rfl (And.intro rfl (And.intro (slotI (wrapS (by omega))) trivial))) trivial)))
    · have heq : i * x % p = 1 := by
        have h : (!((IntKind.i64.wrap ((i : Int) * (x : Int))).tmod (p : Int) == 1)) = false := h
        rw [hval] at h
        have : (((i * x % p : Nat) : Int) == 1) = true := by simpa using h
        have := eq_of_beq this
        generalize i * x % p = q at *
        omega
      exact ⟨i, hi0, by omega, heq, rfl, rfl⟩

/-- r and f times o, modulo p, for rows of w numbers -/
theorem addRow_s (w c1 c2 d1 d2 : Nat) (p f : Int) (r o : Nat → Int) (hw : w ≤ 1000000) (hp : 0 < p ∧ p < 256) (hf : 0 ≤ f ∧ f < 256) (hr : ∀ j, j < w → 0 ≤ r j ∧ r j < p) (ho : isU8 w o) :
    Spec Tryz.prog 65 [.int .i64 p, .sl 0 0 w c1, .int .i64 f, .sl 1 0 w c2] [some (.ints .u8 w r, d1), some (.ints .u8 w o, d2)] (fun v m => v = .tnil ∧ m = [some (.ints .u8 w (addM p r f o), d1), some (.ints .u8 w o, d2)]) := by
  refine Spec.eqv (Spec.of_vc tabOK tabEq Tryz.func65 rfl (by kernel_rfl) rfl rfl ?_)
  refine LoopVC.of (fun i : Nat => i ≤ w) (fun i => [(0, .int .i64 p), (1, .sl 0 0 w c1), (2, .int .i64 f), (10, .sl 1 0 w c2), (11, .int .i64 w), (12, .int .i64 i)])
    (fun i => [some (.ints .u8 w fun j => if j < i then addM p r f o j else r j, d1), some (.ints .u8 w o, d2)]) (fun i => w - i) 0 (by omega) ?_ ?_ ?_
  · exact (And.intro rfl (And.intro rfl (And.intro rfl (And.intro rfl (And.intro rfl (And.intro rfl (trivial)))))))
  · exact And.intro (And.intro (rowEq fun _ _ => rfl) rfl) (And.intro (And.intro (rowEq fun _ _ => rfl) rfl) trivial)
  · intro i hi
    refine ifVC_split (fun h => ?_) (fun h => ?_)
    · have hlt := of_decide_eq_true h
      (repeat (first | refine And.intro (by omega) ?_ | refine And.intro ⟨by omega, by omega⟩ ?_))
      refine ifVC_split (fun hz => ?_) (fun hz => ?_)
      · (repeat (first | refine And.intro (by omega) ?_ | refine And.intro ⟨by omega, by omega⟩ ?_))
        refine Exists.intro (i + 1) (And.intro (by omega) (And.intro (by omega) (And.intro (And.intro rfl (And.intro rfl (And.intro rfl (And.intro rfl (And.intro rfl (And.intro (slotI (wrapS (by omega))) trivial)))))) ?_)))
        refine And.intro (And.intro (rowEq fun j hj => ?_) rfl) (And.intro (And.intro (rowEq fun _ _ => rfl) rfl) trivial)
        show upd1 _ _ _ j = if j < i + 1 then addM p r f o j else r j
        unfold upd1
        rw [show ((i : Int).toNat * 1 + 0) = i by omega]
        dsimp only
        by_cases h1 : j = i
        · subst h1
          rw [if_pos rfl, if_neg (show ¬ j < j by omega), if_pos (show j < j + 1 by omega)]
          exact addM_val hp ⟨(hr j hj).1, by have := hr j hj; omega⟩ hf (ho j hj)
        · rw [if_neg h1]
          by_cases h2 : j < i
          · rw [if_pos h2, if_pos (by omega)]
          · rw [if_neg h2, if_neg (by omega)]
      · have hz : o i = 0 := by
          have hz : o ((i : Int).toNat * 1 + 0) = 0 := by simpa using hz
          rw [show ((i : Int).toNat * 1 + 0) = i by omega] at hz; exact hz
        refine Exists.intro (i + 1) (And.intro (by omega) (And.intro (by omega) (And.intro (And.intro rfl (And.intro rfl (And.intro rfl (And.intro rfl (And.intro rfl (And.intro (slotI (wrapS (by omega))) trivial)))))) ?_)))
        refine And.intro (And.intro (rowEq fun j hj => ?_) rfl) (And.intro (And.intro (rowEq fun _ _ => rfl) rfl) trivial)
        show (if j < i then addM p r f o j else r j) = if j < i + 1 then addM p r f o j else r j
        by_cases h1 : j = i
        · subst h1
          rw [if_neg (show ¬ j < j by omega), if_pos (show j < j + 1 by omega)]
          exact addM_z r o f j (hr j hj) hz
        · by_cases h2 : j < i
          · rw [if_pos h2, if_pos (by omega)]
          · rw [if_neg h2, if_neg (by omega)]
    · have hge := of_decide_eq_false h
      obtain rfl : i = w := by omega
      exact And.intro rfl (And.intro (And.intro (rowEq fun j hj => by simp [hj]) rfl) (And.intro (And.intro (rowEq fun _ _ => rfl) rfl) trivial))

/-- y times r, modulo p -/
def mulM (p y : Int) (r : Nat → Int) : Nat → Int := fun j => y * r j % p
theorem mulM_val {p y b : Int} (hp : 0 < p ∧ p < 256) (hy : 0 ≤ y ∧ y < 256) (hb : 0 ≤ b ∧ b < 256) :
    IntKind.u8.wrap ((IntKind.i64.wrap (y * IntKind.i64.wrap b)).tmod p) = y * b % p := by
  have h := mulB hy hb
  rw [wrapI (x := b) (by omega), wrapI (x := y * b) (by omega), Int.tmod_eq_emod_of_nonneg (by omega), wrapB (modB hp)]
theorem divideRow_s (w cap d : Nat) (p x : Nat) (r : Nat → Int) (hw : w ≤ 1000000) (hp : primeB (p : Int) = true) (hp2 : 2 ≤ p ∧ p ≤ 31) (hx : 0 < x ∧ x < p) (hr : isU8 w r) :
    Spec Tryz.prog 70 [.int .i64 p, .sl 0 0 w cap, .int .u8 x] [some (.ints .u8 w r, d)] (fun v m => ∃ (y : Nat) (g : Nat → Int), 0 < y ∧ y < p ∧ y * x % p = 1 ∧ (∀ j, j < w → g j = mulM p y r j) ∧ v = .tnil ∧ m = [some (.ints .u8 w g, d)]) := by
  have hcv : Spec Tryz.prog 92 [.int .i64 p, .int .i64 (IntKind.i64.wrap (x : Int))] [] (fun r m => ∃ y : Nat, 0 < y ∧ y < p ∧ y * x % p = 1 ∧ r = .int .i64 y ∧ m = []) := by
    rw [wrapI (by omega)]; exact inverseNumber_s p x hp hp2 hx
  refine (Spec.of_vc tabOK tabEq Tryz.func70 rfl (by kernel_rfl) rfl rfl ?_)
  refine And.intro trivial (Spec.mono hcv ?_)
  rintro q m' ⟨y, hy0, hy, hxy, rfl, rfl⟩
  refine LoopVC.of (fun i : Nat => i ≤ w) (fun i => [(0, .int .i64 p), (1, .sl 0 0 w cap), (6, .int .i64 y), (13, .sl 0 0 w cap), (14, .int .i64 w), (15, .int .i64 i)])
    (fun i => [some (.ints .u8 w fun j => if j < i then mulM p y r j else r j, d)]) (fun i => w - i) 0 (by omega) ?_ ?_ ?_
  · exact (And.intro rfl (And.intro rfl (And.intro rfl (And.intro rfl (And.intro rfl (And.intro rfl (trivial)))))))
  · exact And.intro (And.intro (rowEq fun _ _ => rfl) rfl) trivial
  · intro i hi
    refine ifVC_split (fun h => ?_) (fun h => ?_)
    · have hlt := of_decide_eq_true h
      (repeat (first | refine And.intro (by omega) ?_ | refine And.intro ⟨by omega, by omega⟩ ?_))
      refine Exists.intro (i + 1) (And.intro (by omega) (And.intro (by omega) (And.intro (And.intro rfl (And.intro rfl (And.intro rfl (And.intro rfl (And.intro rfl (And.intro (slotI (wrapS (by omega))) trivial)))))) ?_)))
      refine And.intro (And.intro (rowEq fun j hj => ?_) rfl) trivial
      show upd1 _ _ _ j = if j < i + 1 then mulM p y r j else r j
      unfold upd1
      rw [show ((i : Int).toNat * 1 + 0) = i by omega]
      dsimp only
      by_cases h1 : j = i
      · subst h1
        rw [if_pos rfl, if_neg (show ¬ j < j by omega), if_pos (show j < j + 1 by omega)]
        exact mulM_val (by omega) (by omega) (hr j hj)
      · rw [if_neg h1]
        by_cases h2 : j < i
        · rw [if_pos h2, if_pos (by omega)]
        · rw [if_neg h2, if_neg (by omega)]
    · have hge := of_decide_eq_false h
      obtain rfl : i = w := by omega
      exact ⟨y, _, hy0, hy, hxy, fun j hj => if_pos hj, rfl, rfl⟩

/-! ### a family of rows, led to by a block of slices -/
/-- the slices off .. off + n of the first block lead to rows of w numbers -/
structure Family (m : Mem) (N c0 : Nat) (h : Nat → SV) (off n w : Nat) (ρ cp : Nat → Nat) (f : Nat → Nat → Int) (d : Nat → Nat) : Prop where
  hdr : blockOf m 0 = some (.vec N h, c0)
  fit : off + n ≤ N
  sl : ∀ i, i < n → h (off + i) = .sl (ρ i) 0 w (cp i)
  row : ∀ i, i < n → blockOf m (ρ i) = some (.ints .u8 w (f i), d i)
  ids : ∀ id u c, blockOf m id = some (u, c) → ∀ i ∈ u.ids, i < m.length
end Go.Proofs.YtjanlnngeklhoabGreat

/- slices.Grow and slices.Concat for rows of bytes. -/
set_option linter.unusedVariables false
set_option linter.unusedSimpArgs false
set_option maxRecDepth 100000
set_option maxHeartbeats 1000000
namespace Go.Proofs.YtjanlnngeklhoabGreat
open M

/-- two slices, told by their place -/
def two (a b : SV) : Nat → SV
  | 0 => a
  | 1 => b
  | _ => .nilsl
inductive CatI (w1 w2 o1 o2 : Nat) (g1 g2 : Nat → Int) : Nat × Nat × Nat × Nat × (Nat → Int) → Prop where
  | a (n1 cp : Nat) (G : Nat → Int) : CatI w1 w2 o1 o2 g1 g2 (0, 0, n1, cp, G)
  | b (cp : Nat) (G : Nat → Int) (h : w1 ≤ cp) (hg : ∀ j, j < w1 → G j = g1 (j + o1)) : CatI w1 w2 o1 o2 g1 g2 (1, w1, w1, cp, G)
  | c (cp : Nat) (G : Nat → Int) (h : w1 + w2 ≤ cp) (hg : ∀ j, j < w1 → G j = g1 (j + o1)) (hg2 : ∀ j, j < w2 → G (w1 + j) = g2 (j + o2)) : CatI w1 w2 o1 o2 g1 g2 (2, w1 + w2, w1 + w2, cp, G)
end Go.Proofs.YtjanlnngeklhoabGreat

/- Families of rows under a block of slices, wherever that block is: what is read and written. -/
set_option linter.unusedVariables false
set_option linter.unusedSimpArgs false
set_option maxRecDepth 100000
set_option maxHeartbeats 1000000
namespace Go.Proofs.YtjanlnngeklhoabGreat
open M

section
variable {P : Program} {T : Tab} {N : Nat} {ops : Array Oper} {o : Oper} {r : List Oper} {s : Slots} {m : Mem} {K : Slots → Mem → Prop} {t : Nat} {a x : Operand} {id off n c l : Nat} {k : IntKind} {f : Nat → Int} {h : Nat → SV} {v : SV} {y : Int} {g d : Nat} {w : Bool}
/-- an operation that is wanted -/
theorem opsVC_g (hg : o.guard = some (g, w)) (hd : (ops[g]?).bind (·.dst) = some d) (hl : lk s d = some (.bool w)) (hk : oneVC P T N o ((d, .bool w) :: s) m fun s' m' => opsVC P T N ops r s' m' K) : opsVC P T N ops (o :: r) s m K := by
  simp only [opsVC, guardVC, hg, hd, hl]
  cases w <;> exact hk
theorem opsVC_loadSg (hg : o.guard = some (g, w)) (hd : (ops[g]?).bind (·.dst) = some d) (hl : lk s d = some (.bool w)) (ho : o.op = .load t a) (ha : ev ((d, .bool w) :: s) a = some (.ptr id [] 0 off)) (ht : ((T.ti t).known && (T.ti t).agg.isNone) = true)
    (hb : blockOf m id = some (.vec n h, c)) (hlt : off < n) (hv : h off = v) (hlf : v.leaf = true) (hk : opsVC P T N ops r (sset N ((d, .bool w) :: s) o.dst v) m K) : opsVC P T N ops (o :: r) s m K := by
  refine opsVC_g hg hd hl ?_
  simp only [oneVC, ho]
  exact readVC_loadS ha ht hb hlt hv hlf hk
theorem opsVC_loadg (hg : o.guard = some (g, w)) (hd : (ops[g]?).bind (·.dst) = some d) (hl : lk s d = some (.bool w)) (ho : o.op = .load t a) (ha : ev ((d, .bool w) :: s) a = some (.ptr id [] 0 off)) (ht : ((T.ti t).known && (T.ti t).agg.isNone) = true)
    (hb : blockOf m id = some (.ints k n f, c)) (hlt : off < n) (hk : opsVC P T N ops r (sset N ((d, .bool w) :: s) o.dst (.int k (f off))) m K) : opsVC P T N ops (o :: r) s m K := by
  refine opsVC_g hg hd hl ?_
  simp only [oneVC, ho]
  exact readVC_load ha ht hb hlt hk
theorem opsVC_mv (hg : o.guard = none) (ho : o.op = .move x) (hx : ev s x = some v) (hk : opsVC P T N ops r (sset N s o.dst v) m K) : opsVC P T N ops (o :: r) s m K := by
  refine opsVC_one hg ?_
  simp only [oneVC, ho, readVC, hx]
  exact hk
theorem opsVC_nil (hk : K s m) : opsVC P T N ops [] s m K := hk
theorem thenQ_n {X : Slots → Mem → Prop} {Q : Ex → Slots → Mem → Prop} (h : X s m) : thenQ X Q .normal s m := h
theorem vc_seq {a b : Code} {Q : Ex → Slots → Mem → Prop} (h : vc P T N a s m (thenQ (fun s' m' => vc P T N b s' m' Q) Q)) : vc P T N (.seq a b) s m Q := h
theorem vc_region {q : Nat} {Q : Ex → Slots → Mem → Prop} (h : opsVC P T N ops ops.toList s m fun s' m' => Q .normal s' m') : vc P T N (.region q ops false) s m Q := h
theorem thenQ_x {X : Slots → Mem → Prop} {Q : Ex → Slots → Mem → Prop} {i : Nat} (h : Q (.exit i) s m) : thenQ X Q (.exit i) s m := h
theorem blockQ_x {Q : Ex → Slots → Mem → Prop} {i j : Nat} (hb : Nat.beq i j = true) (h : Q .normal s m) : blockQ j Q (.exit i) s m := by
  simp only [blockQ, hb]; exact h
theorem blockQ_n {Q : Ex → Slots → Mem → Prop} {j : Nat} (h : Q .normal s m) : blockQ j Q .normal s m := h
theorem vc_exit {i : Nat} {Q : Ex → Slots → Mem → Prop} (h : Q (.exit i) s m) : vc P T N (.exit i) s m Q := h
theorem vc_skip {Q : Ex → Slots → Mem → Prop} (h : Q .normal s m) : vc P T N .skip s m Q := h
theorem vc_ret {Q : Ex → Slots → Mem → Prop} (h : Q .ret s m) : vc P T N .ret s m Q := h
theorem vc_block {i : Nat} {q : Code} {Q : Ex → Slots → Mem → Prop} (h : vc P T N q s m (blockQ i Q)) : vc P T N (.block i q) s m Q := h
theorem vc_cond {a b : Code} {Q : Ex → Slots → Mem → Prop} {bb : Bool} (hx : ev s x = some (.bool bb)) (h1 : bb = true → vc P T N a s m Q) (h2 : bb = false → vc P T N b s m Q) : vc P T N (.cond x a b) s m Q := by
  simp only [vc, hx]
  cases bb
  · exact h2 rfl
  · exact h1 rfl
theorem opsVC_as (hg : o.guard = none) (ho : o.op = .assign x) (hx : ev s x = some v) (hk : opsVC P T N ops r (sset N s o.dst v) m K) : opsVC P T N ops (o :: r) s m K := by
  refine opsVC_one hg ?_
  simp only [oneVC, ho, readVC, hx]
  exact hk
theorem opsVC_storeR {u : Nat → Int} (hg : o.guard = none) (ho : o.op = .store t a x) (ha : ev s a = some (.ptr id [] 0 off)) (hx : ev s x = some (.ints k l u)) (ht : ((T.ti t).known && ((T.ti t).agg == some l)) = true)
    (hb : blockOf m id = some (.ints k n f, c)) (hlt : off + l ≤ n) (hk : opsVC P T N ops r (sset N s o.dst .undef) (setBlock m id (.ints k n (updR f off l u))) K) : opsVC P T N ops (o :: r) s m K := by
  simp only [Bool.and_eq_true, beq_iff_eq] at ht
  refine opsVC_one hg ?_
  simp only [oneVC, ho, storeVC, ha, hx, hb, SV.part, ht.1, ht.2, putAt, SV.setPart]
  exact chk_iff.2 ⟨rfl, chk_iff.2 ⟨by cases k <;> simp [ikEq, Nat.beq_refl], hlt, hk⟩⟩
theorem opsVC_len (hg : o.guard = none) {cl : Call} (ho : o.op = .call cl) (hc : cl.callee = .builtin .len) (ht : cl.argTypes[0]? = some t) (hs : (match T.ti t with | .slice _ => true | _ => false) = true) (hx : evs s cl.args.toList = some [.sl id off n l]) (hk : opsVC P T N ops r (sset N s o.dst (.int .i64 n)) m K) : opsVC P T N ops (o :: r) s m K := by
  refine opsVC_one hg ?_
  simp only [oneVC, ho, hc, readVC, ht, hx]
  revert hs
  cases T.ti t <;> intro hs <;> first | exact hk | cases hs
theorem headVC_loadS {K : Slots → Prop} (hg : o.guard = none) (ho : o.op = .load t a) (ha : ev s a = some (.ptr id [] 0 off)) (ht : ((T.ti t).known && (T.ti t).agg.isNone) = true)
    (hb : blockOf m id = some (.vec n h, c)) (hlt : off < n) (hv : h off = v) (hl : v.leaf = true) (hk : headVC P T N ops m r (sset N s o.dst v) K) : headVC P T N ops m (o :: r) s K := by
  simp only [headVC, ho, isNew, isSto, Bool.or_self, guardVC, hg]
  exact readVC_loadS ha ht hb hlt hv hl hk
theorem headVC_load {K : Slots → Prop} (hg : o.guard = none) (ho : o.op = .load t a) (ha : ev s a = some (.ptr id [] 0 off)) (ht : ((T.ti t).known && (T.ti t).agg.isNone) = true)
    (hb : blockOf m id = some (.ints k n f, c)) (hlt : off < n) (hk : headVC P T N ops m r (sset N s o.dst (.int k (f off))) K) : headVC P T N ops m (o :: r) s K := by
  simp only [headVC, ho, isNew, isSto, Bool.or_self, guardVC, hg]
  exact readVC_load ha ht hb hlt hk
end

/-- a head that makes nothing -/
theorem newsVC_none {T : Tab} {N : Nat} {s0 : Slots} {l0 : List Oper} {K : Slots → Mem → Prop} : ∀ {l : List Oper} {s : Slots} {m : Mem}, (l.all fun o => !isNew o.op) = true → K s m → newsVC T N s0 l0 l s m K
  | [], s, m, _, hk => hk
  | o :: r, s, m, h, hk => by
    simp only [List.all_cons, Bool.and_eq_true, Bool.not_eq_true'] at h
    unfold newsVC
    rw [h.1]
    exact newsVC_none h.2 hk

/-- nothing leads behind the blocks -/
abbrev Clo (m : Mem) : Prop := ∀ id u c, blockOf m id = some (u, c) → ∀ i ∈ u.ids, i < m.length
/-- the slices off .. off + n of the block hd lead to rows of w numbers -/
structure Fam (m : Mem) (hd N c0 : Nat) (h : Nat → SV) (off n w : Nat) (ρ cp : Nat → Nat) (f : Nat → Nat → Int) (d : Nat → Nat) : Prop where
  hdr : blockOf m hd = some (.vec N h, c0)
  fit : off + n ≤ N
  sl : ∀ i, i < n → h (off + i) = .sl (ρ i) 0 w (cp i)
  row : ∀ i, i < n → blockOf m (ρ i) = some (.ints .u8 w (f i), d i)
  cap : ∀ i, i < n → w ≤ cp i
theorem Fam.lt {m : Mem} {hd N c0 : Nat} {h : Nat → SV} {off n w : Nat} {ρ cp : Nat → Nat} {f : Nat → Nat → Int} {d : Nat → Nat} (hF : Fam m hd N c0 h off n w ρ cp f d) : ∀ i, i < n → ρ i < m.length := fun i hi => blockOf_lt (by rw [hF.row i hi]; rfl)
theorem Fam.hlt {m : Mem} {hd N c0 : Nat} {h : Nat → SV} {off n w : Nat} {ρ cp : Nat → Nat} {f : Nat → Nat → Int} {d : Nat → Nat} (hF : Fam m hd N c0 h off n w ρ cp f d) : hd < m.length := blockOf_lt (by rw [hF.hdr]; rfl)
theorem Fam.ne {m : Mem} {hd N c0 : Nat} {h : Nat → SV} {off n w : Nat} {ρ cp : Nat → Nat} {f : Nat → Nat → Int} {d : Nat → Nat} (hF : Fam m hd N c0 h off n w ρ cp f d) : ∀ i, i < n → ρ i ≠ hd := fun i hi e => by
  have := hF.row i hi
  rw [e, hF.hdr] at this
  cases this

theorem slots_ok {L : Nat} : ∀ (s : Slots), (∀ p ∈ s, ∀ i ∈ p.2.ids, i < L) → ∀ t v, lk s t = some v → ∀ i ∈ v.ids, i < L
  | [], _, t, v, h => by cases h
  | (k, u) :: r, hp, t, v, h => by
    rw [lk_cons] at h
    by_cases hk : k = t
    · rw [if_pos hk] at h; cases h; exact hp (k, u) (by simp)
    · rw [if_neg hk] at h; exact slots_ok r (fun p hp' => hp p (by simp [hp'])) t v h
theorem OkP.of {s : Slots} {m : Mem} (hs : ∀ p ∈ s, ∀ i ∈ p.2.ids, i < m.length) (hm : Clo m) : OkP s m := ⟨slots_ok s hs, hm⟩

theorem setBlock_lt (m : Mem) (i : Nat) (v : SV) : (setBlock m i v).length = m.length := setBlock_length m i v
theorem setBlock_clo {m : Mem} {i c : Nat} {u v : SV} (hm : Clo m) (hb : blockOf m i = some (u, c)) (hv : ∀ j ∈ v.ids, j < m.length) : Clo (setBlock m i v) := fun id x d h j hj => by
  rw [setBlock_lt]
  rw [setBlock_get m i id v u c hb] at h
  by_cases e : id = i
  · rw [if_pos e] at h; cases h; exact hv j hj
  · rw [if_neg e] at h; exact hm id x d h j hj
theorem setBlock_live {m : Mem} {i c : Nat} {u v : SV} (hb : blockOf m i = some (u, c)) : liveP m (setBlock m i v) := fun id hid h => by
  rw [setBlock_get m i id v u c hb] at h
  by_cases e : id = i
  · rw [e, hb]; rfl
  · rw [if_neg e] at h; exact h
theorem liveP.trans {m m1 m2 : Mem} (h1 : liveP m m1) (hl : m.length ≤ m1.length) (h2 : liveP m1 m2) : liveP m m2 := fun id hid h => h1 id hid (h2 id (by omega) h)

theorem rowWithEntryF_s (m : Mem) (hd N c0 off n cap w place : Nat) (h : Nat → SV) (ρ cp : Nat → Nat) (f : Nat → Nat → Int) (d : Nat → Nat) (hF : Fam m hd N c0 h off n w ρ cp f d) (hm : Clo m) (hn : n ≤ 1000000) (hpl : place < w) (hw : w ≤ 1000000) :
    Spec Tryz.prog 69 [.sl hd off n cap, .int .i64 place] m (fun r m' => m' = m ∧ ((∃ k : Nat, k < n ∧ r = .int .i64 k ∧ f k place ≠ 0 ∧ ∀ i, i < k → f i place = 0) ∨ (r = .int .i64 (-1) ∧ ∀ i, i < n → f i place = 0))) := by
  refine Spec.of_vc tabOK tabEq Tryz.func69 rfl (by kernel_rfl) rfl (by simp [idsOf, SV.ids, Nat.blt_eq, hF.hlt]) ?_
  refine LoopVC.ofR (fun i : Nat => i ≤ n ∧ ∀ j, j < i → f j place = 0) (fun i => [(1, .int .i64 place), (7, .sl hd off n cap), (8, .int .i64 n), (9, .int .i64 i)]) (fun _ => m) (fun i => n - i) 0 ⟨by omega, fun j hj => by omega⟩ (fun i => i) (RenTo.same (And.intro rfl (And.intro rfl (And.intro rfl (And.intro rfl (trivial))))) fun i u d hb => ⟨u, hb, eqv_refl u⟩) (fun _ _ => Nat.le_refl _) ?_ ?_
  · exact fun i hi => OkP.of (by simp [SV.ids, hF.hlt]) hm
  · rintro i ⟨hi, hall⟩
    refine ifVC_split (fun hh => ?_) (fun hh => ?_)
    · have hlt := of_decide_eq_true hh
      (repeat (first | refine And.intro (by omega) ?_ | refine And.intro ⟨by omega, by omega⟩ ?_))
      refine opsVC_loadS (v := .sl (ρ i) 0 w (cp i)) rfl rfl rfl rfl hF.hdr (by have := hF.fit; omega) (by rw [show (i : Int).toNat * 1 + off = off + i by omega]; exact hF.sl i (by omega)) rfl ?_
      (repeat (first | refine And.intro (by omega) ?_ | refine And.intro ⟨by omega, by omega⟩ ?_))
      refine opsVC_load rfl rfl rfl rfl (hF.row i (by omega)) (by omega) ?_
      have hidx : (place : Int).toNat * 1 + 0 = place := by omega
      refine ifVC_split (fun hc => ?_) (fun hc => ?_)
      · have hc : f i place ≠ 0 := by
          have hc : f i ((place : Int).toNat * 1 + 0) ≠ 0 := by simpa using hc
          rw [hidx] at hc; exact hc
        exact ⟨rfl, .inl ⟨i, by omega, rfl, hc, hall⟩⟩
      · have hc : f i place = 0 := by
          have hc : f i ((place : Int).toNat * 1 + 0) = 0 := by simpa using hc
          rw [hidx] at hc; exact hc
        refine Exists.intro (i + 1) (Exists.intro (fun i => i) (And.intro ⟨by omega, fun j hj => ?_⟩ (And.intro (by omega) (RenTo.same ?_ fun i u d hb => ⟨u, hb, eqv_refl u⟩))))
        · by_cases hji : j = i
          · subst hji; exact hc
          · exact hall j (by omega)
        · exact And.intro rfl (And.intro rfl (And.intro rfl (And.intro (slotI (wrapS (by omega))) trivial)))
    · have hge := of_decide_eq_false hh
      obtain rfl : i = n := by omega
      exact ⟨rfl, .inr ⟨rfl, hall⟩⟩
end Go.Proofs.YtjanlnngeklhoabGreat

/- Rows made reduced in their own memory. -/
set_option linter.unusedVariables false
set_option linter.unusedSimpArgs false
set_option maxRecDepth 100000
set_option maxHeartbeats 4000000
namespace Go.Proofs.YtjanlnngeklhoabGreat
open M

/-- a family in a memory that has come out of another one: the rows are the same blocks, in whatever order -/
structure GB (m : Mem) (hd N c0 n w : Nat) (ρ0 : Nat → Nat) (h : Nat → SV) (ρ cp : Nat → Nat) (f : Nat → Nat → Int) (d : Nat → Nat) (M : Mem) : Prop where
  fam : Fam M hd N c0 h 0 n w ρ cp f d
  clo : Clo M
  len : M.length = m.length
  live : liveP m M
  inj : ∀ i j, i < n → j < n → ρ i = ρ j → i = j
  sub : ∀ i, i < n → ∃ j, j < n ∧ ρ i = ρ0 j
  out : ∀ id, id ≠ hd → (∀ i, i < n → ρ0 i ≠ id) → blockOf M id = blockOf m id

theorem GB.setRow {m : Mem} {hd N c0 n w : Nat} {ρ0 : Nat → Nat} {h : Nat → SV} {ρ cp : Nat → Nat} {f : Nat → Nat → Int} {d : Nat → Nat} {M : Mem} (b : GB m hd N c0 n w ρ0 h ρ cp f d M) {i : Nat} (hi : i < n) (g : Nat → Int) :
    GB m hd N c0 n w ρ0 h ρ cp (fun l => if l = i then g else f l) d (setBlock M (ρ i) (.ints .u8 w g)) := by
  have hr := b.fam.row i hi
  have get := fun id => setBlock_get M (ρ i) id (.ints .u8 w g) _ _ hr
  refine ⟨⟨?_, b.fam.fit, b.fam.sl, fun l hl => ?_, b.fam.cap⟩, setBlock_clo b.clo hr (by simp [SV.ids]), by rw [setBlock_lt]; exact b.len, b.live.trans (by rw [b.len]; exact Nat.le_refl _) (setBlock_live hr), b.inj, b.sub, fun id h1 h2 => ?_⟩
  · rw [get, if_neg (fun e => b.fam.ne i hi e.symm)]; exact b.fam.hdr
  · rw [get]
    by_cases e : l = i
    · subst e; rw [if_pos rfl, if_pos rfl]
    · rw [if_neg (fun e' => e (b.inj l i hl hi e')), if_neg e]; exact b.fam.row l hl
  · obtain ⟨j, hj, e⟩ := b.sub i hi
    rw [get, if_neg (fun e' => h2 j hj (by rw [← e, e']))]
    exact b.out id h1 h2

theorem GB.swap {m : Mem} {hd N c0 n w : Nat} {ρ0 : Nat → Nat} {h : Nat → SV} {ρ cp : Nat → Nat} {f : Nat → Nat → Int} {d : Nat → Nat} {M : Mem} (b : GB m hd N c0 n w ρ0 h ρ cp f d M) {a c : Nat} (ha : a < n) (hc : c < n) {h' : Nat → SV}
    (hh : ∀ i, h' i = if i = c then h a else if i = a then h c else h i) {x : SV} :
    GB m hd N c0 n w ρ0 h' (fun i => if i = a then ρ c else if i = c then ρ a else ρ i) (fun i => if i = a then cp c else if i = c then cp a else cp i) (swapR f a c) (fun i => if i = a then d c else if i = c then d a else d i)
      (setBlock (setBlock M hd x) hd (.vec N h')) := by
  have hr := b.fam.hdr
  have hr2 : blockOf (setBlock M hd x) hd = some (x, c0) := by rw [setBlock_get M hd hd _ _ _ hr, if_pos rfl]
  have get : ∀ id, blockOf (setBlock (setBlock M hd x) hd (.vec N h')) id = if id = hd then some (.vec N h', c0) else blockOf M id := fun id => by
    rw [setBlock_get _ hd id _ _ _ hr2]
    by_cases e : id = hd
    · rw [if_pos e, if_pos e]
    · rw [if_neg e, if_neg e, setBlock_get M hd id _ _ _ hr, if_neg e]
  have hlen : (setBlock (setBlock M hd x) hd (.vec N h')).length = M.length := by rw [setBlock_lt, setBlock_lt]
  have fit := b.fam.fit
  have hsl : ∀ i, i < n → h i = .sl (ρ i) 0 w (cp i) := fun i hi => by have := b.fam.sl i hi; rwa [Nat.zero_add] at this
  refine ⟨⟨by rw [get, if_pos rfl], fit, fun i hi => ?_, fun i hi => ?_, fun i hi => ?_⟩, fun id u k hb i hi => ?_, by rw [hlen]; exact b.len, fun id hid hs => ?_, fun i j hi hj e => ?_, fun i hi => ?_, fun id h1 h2 => ?_⟩
  · rw [Nat.zero_add, hh i]
    by_cases e1 : i = c
    · by_cases e2 : i = a
      · have : a = c := by omega
        subst this; rw [if_pos e1, if_pos e2, hsl _ ha]; simp [e2]
      · rw [if_pos e1, hsl _ ha, if_neg e2, if_pos e1, if_neg e2, if_pos e1]
    · rw [if_neg e1]
      by_cases e2 : i = a
      · rw [if_pos e2, hsl _ hc]; simp [e2]
      · rw [if_neg e2, hsl _ hi]; simp [e1, e2]
  · have hne : ∀ l, l < n → ρ l ≠ hd := b.fam.ne
    by_cases e2 : i = a
    · rw [if_pos e2, get, if_neg (hne c hc), b.fam.row c hc]; simp [swapR, e2]
    · by_cases e1 : i = c
      · rw [if_neg e2, if_pos e1, get, if_neg (hne a ha), b.fam.row a ha]; unfold swapR; rw [if_neg e2, if_pos e1, if_neg e2, if_pos e1]
      · rw [if_neg e2, if_neg e1, get, if_neg (hne i hi), b.fam.row i hi]; simp [swapR, e1, e2]
  · show w ≤ if i = a then cp c else if i = c then cp a else cp i
    split
    · exact b.fam.cap c hc
    · split
      · exact b.fam.cap a ha
      · exact b.fam.cap i hi
  · rw [hlen]
    rw [get] at hb
    by_cases e : id = hd
    · rw [if_pos e] at hb
      cases hb
      obtain ⟨q, hq, hm⟩ := vec_ids.1 hi
      have key : ∀ l, l < n → i ∈ (h l).ids1 → i < M.length := fun l hl hm => by
        rw [hsl l hl] at hm
        simp [SV.ids1] at hm
        subst hm; exact b.fam.lt l hl
      rw [hh q] at hm
      split at hm
      · exact key a ha hm
      · split at hm
        · exact key c hc hm
        · exact b.clo hd _ _ hr i (vec_ids.2 ⟨q, hq, hm⟩)
    · rw [if_neg e] at hb; exact b.clo id u k hb i hi
  · rw [get] at hs
    by_cases e : id = hd
    · exact b.live id hid (by rw [e, hr]; rfl)
    · rw [if_neg e] at hs; exact b.live id hid hs
  · have key : ∀ l, l < n → (if l = a then c else if l = c then a else l) < n := fun l hl => by split; exact hc; split; exact ha; exact hl
    have val : ∀ l, (if l = a then ρ c else if l = c then ρ a else ρ l) = ρ (if l = a then c else if l = c then a else l) := fun l => by split; rfl; split; rfl; rfl
    have e : (if i = a then ρ c else if i = c then ρ a else ρ i) = (if j = a then ρ c else if j = c then ρ a else ρ j) := e
    rw [val, val] at e
    have e := b.inj _ _ (key i hi) (key j hj) e
    by_cases i1 : i = a <;> by_cases i2 : i = c <;> by_cases j1 : j = a <;> by_cases j2 : j = c <;> simp_all
  · have key : ∀ l, l < n → (if l = a then c else if l = c then a else l) < n := fun l hl => by split; exact hc; split; exact ha; exact hl
    have val : ∀ l, (if l = a then ρ c else if l = c then ρ a else ρ l) = ρ (if l = a then c else if l = c then a else l) := fun l => by split; rfl; split; rfl; rfl
    show ∃ j, j < n ∧ (if i = a then ρ c else if i = c then ρ a else ρ i) = ρ0 j
    rw [val]
    exact b.sub _ (key i hi)
  · rw [get, if_neg h1]; exact b.out id h1 h2

structure GS where
  done : Nat
  place : Nat
  h : Nat → SV
  ρ : Nat → Nat
  cp : Nat → Nat
  f : Nat → Nat → Int
  d : Nat → Nat
  P : Nat → Nat
  M : Mem
structure GI (m : Mem) (hd N c0 n w p : Nat) (ρ0 : Nat → Nat) (f0 : Nat → Nat → Int) (x : GS) : Prop where
  b : GB m hd N c0 n w ρ0 x.h x.ρ x.cp x.f x.d x.M
  g : Gauss p w n f0 x.f x.done x.place x.P
/-- the inner loop's: rows below i are through -/
structure GJ (m : Mem) (hd N c0 n w p : Nat) (ρ0 : Nat → Nat) (h : Nat → SV) (ρ cp d : Nat → Nat) (G : Nat → Nat → Int) (done place : Nat) (x : Nat × (Nat → Nat → Int) × Mem) : Prop where
  b : GB m hd N c0 n w ρ0 h ρ cp x.2.1 d x.2.2
  le : x.1 ≤ n
  val : ∀ l, l < n → ∀ j, j < w → x.2.1 l j = if l < x.1 then clearR p G done place l j else G l j

/-- what comes out of reduceRows -/
def RedQ (m : Mem) (hd N c0 n w p cap : Nat) (ρ0 : Nat → Nat) (f0 : Nat → Nat → Int) (r : SV) (m' : Mem) : Prop :=
  ∃ (k : Nat) (h : Nat → SV) (ρ cp : Nat → Nat) (f : Nat → Nat → Int) (d P : Nat → Nat), r = .sl hd 0 k cap ∧ k ≤ n ∧ GB m hd N c0 n w ρ0 h ρ cp f d m' ∧ Red p w (Sp p w n f0) k f P

theorem reduceRows_s (m : Mem) (hd N c0 n cap w p : Nat) (h : Nat → SV) (ρ cp : Nat → Nat) (f : Nat → Nat → Int) (d : Nat → Nat) (hF : Fam m hd N c0 h 0 n w ρ cp f d) (hm : Clo m) (hinj : ∀ i j, i < n → j < n → ρ i = ρ j → i = j)
    (hn : n ≤ 1000000) (hcap : n ≤ cap) (hw : w ≤ 1000000) (hp : primeB (p : Int) = true) (hp2 : 2 ≤ p ∧ p ≤ 31) (hr : ∀ i, i < n → ∀ j, j < w → 0 ≤ f i j ∧ f i j < p) :
    Spec Tryz.prog 51 [.int .i64 p, .sl hd 0 n cap] m (RedQ m hd N c0 n w p cap ρ f) := by
  have hfit := hF.fit
  refine Spec.of_vc (tabOK.dir fun g => Nat.beq g 69) (tabEq.dir _) Tryz.func51 rfl (by kernel_rfl) rfl (by simp [idsOf, SV.ids, Nat.blt_eq, hF.hlt]) ?_
  refine LoopVC.ofR (GI m hd N c0 n w p ρ f) (fun x => [(0, .int .i64 p), (1, .sl hd 0 n cap), (5, .int .i64 x.done), (6, .int .i64 x.place)]) (fun x => x.M) (fun x => w - x.place) ⟨0, 0, h, ρ, cp, f, d, fun _ => 0, m⟩
    ⟨⟨hF, hm, rfl, liveP.refl m, hinj, fun i hi => ⟨i, hi, rfl⟩, fun _ _ _ => rfl⟩, Gauss.start hr⟩ (fun i => i) (RenTo.same (And.intro rfl (And.intro rfl (And.intro rfl (And.intro rfl (trivial))))) fun i u d hb => ⟨u, hb, eqv_refl u⟩) (fun x hx => Nat.le_of_eq hx.b.len.symm) (fun x hx => OkP.of (by simp [SV.ids, hx.b.len, hF.hlt]) hx.b.clo) ?_
  intro x hx
  obtain ⟨hb, hg⟩ := hx
  have hdn := hg.dn
  have hpw := hg.pw
  have hend : (x.done = n ∨ x.place = w) → RedQ m hd N c0 n w p cap ρ f (.sl hd 0 x.done cap) x.M := fun he => ⟨x.done, x.h, x.ρ, x.cp, x.f, x.d, x.P, rfl, hdn, hb, hg.red (by omega) he⟩
  have hsl : ∀ i, i < n → x.h i = .sl (x.ρ i) 0 w (x.cp i) := fun i hi => by have := hb.fam.sl i hi; rwa [Nat.zero_add] at this
  have hdi : (x.done : Int).toNat * 1 + 0 = x.done := by omega
  have hpi : (x.place : Int).toNat * 1 + 0 = x.place := by omega
  refine ifVC_split (fun h1 => ?_) (fun h1 => ?_)
  · have h1 : x.done < n := by have := of_decide_eq_true h1; omega
    (repeat (first | refine And.intro (by omega) ?_ | refine And.intro ⟨by omega, by omega⟩ ?_))
    refine opsVC_loadSg (v := .sl (x.ρ x.done) 0 w (x.cp x.done)) rfl rfl rfl rfl rfl rfl hb.fam.hdr (by omega) (by rw [hdi]; exact hsl _ h1) rfl ?_
    refine ifVC_split (fun h2 => ?_) (fun h2 => ?_)
    · have h2 : x.place < w := by have := of_decide_eq_true h2; omega
      (repeat (first | refine And.intro (by omega) ?_ | refine And.intro ⟨by omega, by omega⟩ ?_))
      have hsub : Fam x.M hd N c0 x.h ((x.done : Int).toNat * 1 + 0) (n - (x.done : Int).toNat) w (fun i => x.ρ (x.done + i)) (fun i => x.cp (x.done + i)) (fun i => x.f (x.done + i)) (fun i => x.d (x.done + i)) :=
        ⟨hb.fam.hdr, by omega, fun i hi => by rw [hdi]; exact hsl _ (by omega), fun i hi => hb.fam.row _ (by omega), fun i hi => hb.fam.cap _ (by omega)⟩
      refine opsVC_mv rfl rfl rfl ?_
      refine opsVC_dir rfl rfl rfl rfl rfl rfl ?_
      refine Spec.mono (rowWithEntryF_s x.M hd N c0 _ _ _ w x.place x.h _ _ _ _ hsub hb.clo (by omega) h2 hw) ?_
      rintro r m' ⟨rfl, hres⟩
      refine ⟨liveP.refl _, ?_⟩
      rcases hres with ⟨k, hk, rfl, hne, hall⟩ | ⟨rfl, hall⟩
      · have hkn : x.done + k < n := by omega
        have hdk : IntKind.i64.wrap ((x.done : Int) + (k : Int)) = ((x.done + k : Nat) : Int) := by rw [wrapI (by omega)]; omega
        have hki : (IntKind.i64.wrap ((x.done : Int) + (k : Int))).toNat * 1 + 0 = x.done + k := by rw [hdk]; omega
        refine Exists.intro 1017 (And.intro (by kernel_rfl) ?_)
        refine And.intro ⟨by rw [hdk]; omega, by rw [hdk]; omega⟩ ?_
        refine opsVC_loadS (v := .sl (x.ρ (x.done + k)) 0 w (x.cp (x.done + k))) rfl rfl rfl rfl hb.fam.hdr (by rw [hki]; omega) (by rw [hki]; exact hsl _ hkn) rfl ?_
        (repeat (first | refine And.intro (by omega) ?_ | refine And.intro ⟨by omega, by omega⟩ ?_))
        refine opsVC_loadS (v := .sl (x.ρ x.done) 0 w (x.cp x.done)) rfl rfl rfl rfl hb.fam.hdr (by omega) (by rw [hdi]; exact hsl _ h1) rfl ?_
        (repeat (first | refine And.intro (by omega) ?_ | refine And.intro ⟨by omega, by omega⟩ ?_))
        refine opsVC_storeV rfl rfl rfl rfl rfl hb.fam.hdr rfl (by omega) ?_
        refine And.intro ⟨by rw [hdk]; omega, by rw [hdk]; omega⟩ ?_
        refine opsVC_storeV rfl rfl rfl rfl rfl (by rw [setBlock_get _ _ _ _ _ _ hb.fam.hdr, if_pos rfl]) rfl (by rw [hki]; omega) ?_
        have b1 := hb.swap h1 hkn (h' := updV (updV x.h ((x.done : Int).toNat * 1 + 0) (.sl (x.ρ (x.done + k)) 0 w (x.cp (x.done + k)))) ((IntKind.i64.wrap ((x.done : Int) + (k : Int))).toNat * 1 + 0) (.sl (x.ρ x.done) 0 w (x.cp x.done)))
          (fun i => by unfold updV; rw [hki, hdi, hsl _ h1, hsl _ hkn]) (x := .vec N (updV x.h ((x.done : Int).toNat * 1 + 0) (.sl (x.ρ (x.done + k)) 0 w (x.cp (x.done + k)))))
        generalize setBlock (setBlock x.M hd (SV.vec N (updV x.h ((x.done : Int).toNat * 1 + 0) (.sl (x.ρ (x.done + k)) 0 w (x.cp (x.done + k)))))) hd (SV.vec N (updV (updV x.h ((x.done : Int).toNat * 1 + 0) (.sl (x.ρ (x.done + k)) 0 w (x.cp (x.done + k)))) ((IntKind.i64.wrap ((x.done : Int) + (k : Int))).toNat * 1 + 0) (.sl (x.ρ x.done) 0 w (x.cp x.done)))) = M1 at b1 ⊢
        generalize updV (updV x.h ((x.done : Int).toNat * 1 + 0) (.sl (x.ρ (x.done + k)) 0 w (x.cp (x.done + k)))) ((IntKind.i64.wrap ((x.done : Int) + (k : Int))).toNat * 1 + 0) (.sl (x.ρ x.done) 0 w (x.cp x.done)) = h1' at b1
        generalize (fun i => if i = x.done then x.ρ (x.done + k) else if i = x.done + k then x.ρ x.done else x.ρ i) = ρ1 at b1
        generalize (fun i => if i = x.done then x.cp (x.done + k) else if i = x.done + k then x.cp x.done else x.cp i) = cp1 at b1
        generalize (fun i => if i = x.done then x.d (x.done + k) else if i = x.done + k then x.d x.done else x.d i) = d1 at b1
        have hF1 : swapR x.f x.done (x.done + k) x.done = x.f (x.done + k) := by simp [swapR]
        have rng1 : ∀ i, i < n → ∀ j, j < w → 0 ≤ swapR x.f x.done (x.done + k) i j ∧ swapR x.f x.done (x.done + k) i j < p := fun i hi j hj => by
          unfold swapR
          split
          · exact hg.rng _ hkn j hj
          · split
            · exact hg.rng _ h1 j hj
            · exact hg.rng _ hi j hj
        have hgp := fun y => hg.pivot (b := x.done + k) (y := y) (by omega) h1 h2 ⟨by omega, hkn⟩
        have hne : swapR x.f x.done (x.done + k) x.done x.place ≠ 0 := by rw [hF1]; exact hne
        rw [← hF1] at hgp
        generalize swapR x.f x.done (x.done + k) = F1 at *
        have hsl1 : ∀ i, i < n → h1' i = .sl (ρ1 i) 0 w (cp1 i) := fun i hi => by have := b1.fam.sl i hi; rwa [Nat.zero_add] at this
        obtain ⟨q, hq⟩ := Int.eq_ofNat_of_zero_le (rng1 x.done h1 x.place h2).1
        have hq1 := (rng1 x.done h1 x.place h2).2
        rw [hq] at hne hq1
        refine Exists.intro 12 (And.intro (by kernel_rfl) ?_)
        (repeat (first | refine And.intro (by omega) ?_ | refine And.intro ⟨by omega, by omega⟩ ?_))
        refine headVC_loadS (v := .sl (ρ1 x.done) 0 w (cp1 x.done)) rfl rfl rfl rfl b1.fam.hdr (by omega) (by rw [hdi]; exact hsl1 _ h1) rfl ?_
        (repeat (first | refine And.intro (by omega) ?_ | refine And.intro ⟨by omega, by omega⟩ ?_))
        refine headVC_loadS (v := .sl (ρ1 x.done) 0 w (cp1 x.done)) rfl rfl rfl rfl b1.fam.hdr (by omega) (by rw [hdi]; exact hsl1 _ h1) rfl ?_
        (repeat (first | refine And.intro (by omega) ?_ | refine And.intro ⟨by omega, by omega⟩ ?_))
        refine headVC_load rfl rfl rfl rfl (b1.fam.row _ h1) (by omega) ?_
        refine newsVC_none rfl ?_
        refine opsVC_call rfl rfl rfl rfl rfl rfl ?_
        refine callVC_row (args' := [.int .i64 p, .sl 0 0 w (cp1 x.done), .int .u8 (q : Int)]) (b1.fam.row _ h1) rfl (fun _ => rfl) rfl (by rw [hpi, hq]; simp [SV.ren, posIn, Nat.beq_refl]) ?_
        refine Spec.mono (divideRow_s w (cp1 x.done) _ p q _ hw hp hp2 ⟨by omega, by omega⟩ (fun j hj => by have := rng1 _ h1 j hj; omega)) ?_
        rintro r m' ⟨y, g, hy0, hy, hyx, hgv, rfl, rfl⟩
        refine ⟨.ints .u8 w g, fun _ => rfl, fun _ => rfl, rfl, ?_⟩
        have b2 := b1.setRow h1 g
        generalize setBlock M1 (ρ1 x.done) (.ints .u8 w g) = M2 at b2 ⊢
        have hyq : (y : Int) * F1 x.done x.place % p = 1 := by rw [hq]; exact_mod_cast hyx
        have hgp := hgp y hyq
        have rngG : ∀ i, i < n → ∀ j, j < w → 0 ≤ mulR p y F1 x.done i j ∧ mulR p y F1 x.done i j < p := fun i hi j hj => by
          unfold mulR
          split
          · exact mod_rng (by omega) _
          · exact rng1 i hi j hj
        have hG : ∀ l, l < n → ∀ j, j < w → (if l = x.done then g else F1 l) j = mulR p y F1 x.done l j := fun l hl j hj => by
          unfold mulR
          by_cases e : l = x.done
          · rw [if_pos e, if_pos e, hgv j hj]; rfl
          · rw [if_neg e, if_neg e]
        have hGd : ∀ i, clearR p (mulR p y F1 x.done) x.done x.place i = if i ≠ x.done ∧ mulR p y F1 x.done i x.place ≠ 0 then fun j => (mulR p y F1 x.done i j + (p - mulR p y F1 x.done i x.place) * mulR p y F1 x.done x.done j) % p else mulR p y F1 x.done i := fun i => rfl
        generalize mulR p y F1 x.done = G at *
        have hp0 : (0 : Int) < p ∧ (p : Int) < 256 := by omega
        refine LoopVC.ofR (GJ m hd N c0 n w p ρ h1' ρ1 cp1 d1 G x.done x.place) (fun z => [(0, .int .i64 p), (1, .sl hd 0 n cap), (5, .int .i64 x.done), (6, .int .i64 x.place), (63, .sl hd 0 n cap), (64, .int .i64 n), (65, .int .i64 z.1)]) (fun z => z.2.2) (fun z => n - z.1) (0, (fun l => if l = x.done then g else F1 l), M2)
          ⟨b2, Nat.zero_le _, fun l hl j hj => by rw [if_neg (Nat.not_lt_zero _)]; exact hG l hl j hj⟩ (fun i => i) (RenTo.same (And.intro rfl (And.intro rfl (And.intro rfl (And.intro rfl (And.intro rfl (And.intro rfl (And.intro rfl (trivial)))))))) fun i u d hb => ⟨u, hb, eqv_refl u⟩) (fun z hz => Nat.le_of_eq hz.b.len.symm) (fun z hz => OkP.of (by simp [SV.ids, hz.b.len, hF.hlt]) hz.b.clo) ?_
        intro z hz
        obtain ⟨hzb, hzl, hzv⟩ := hz
        have hzi : (z.1 : Int).toNat * 1 + 0 = z.1 := by omega
        have hrow : ∀ l, l < n → ∀ j, j < w → 0 ≤ z.2.1 l j ∧ z.2.1 l j < p := fun l hl j hj => by
          rw [hzv l hl j hj]
          split
          · rw [hGd]
            split
            · exact mod_rng (by omega) _
            · exact rngG l hl j hj
          · exact rngG l hl j hj
        have hzd : ∀ j, j < w → z.2.1 x.done j = G x.done j := fun j hj => by
          rw [hzv _ h1 j hj]
          split
          · rw [hGd, if_neg (fun hh => hh.1 rfl)]
          · rfl
        have next : ∀ (f' : Nat → Nat → Int) (M' : Mem), z.1 < n → GB m hd N c0 n w ρ h1' ρ1 cp1 f' d1 M' → (∀ l, l < n → l ≠ z.1 → f' l = z.2.1 l) → (∀ j, j < w → f' z.1 j = clearR p G x.done x.place z.1 j) → GJ m hd N c0 n w p ρ h1' ρ1 cp1 d1 G x.done x.place (z.1 + 1, f', M') := fun f' M' hlt hb' hne' heq' => by
          refine ⟨hb', hlt, fun l hl j hj => ?_⟩
          show f' l j = if l < z.1 + 1 then _ else _
          by_cases e : l = z.1
          · rw [e, if_pos (by omega)]; exact heq' j hj
          · rw [hne' l hl e, hzv l hl j hj]
            by_cases e2 : l < z.1
            · rw [if_pos e2, if_pos (by omega)]
            · rw [if_neg e2, if_neg (by omega)]
        refine ifVC_split (fun h3 => ?_) (fun h3 => ?_)
        · have h3 : z.1 < n := by have := of_decide_eq_true h3; omega
          have hz0 : ∀ j, j < w → z.2.1 z.1 j = G z.1 j := fun j hj => by rw [hzv _ h3 j hj, if_neg (Nat.lt_irrefl _)]
          (repeat (first | refine And.intro (by omega) ?_ | refine And.intro ⟨by omega, by omega⟩ ?_))
          refine opsVC_loadS (v := .sl (ρ1 z.1) 0 w (cp1 z.1)) rfl rfl rfl rfl hzb.fam.hdr (by omega) (by rw [hzi]; exact hsl1 z.1 h3) rfl ?_
          refine ifVC_split (fun h4 => ?_) (fun h4 => ?_)
          · have h4 : z.1 ≠ x.done := by
              have h4 : ((z.1 : Int) != (x.done : Int)) = true := h4
              intro e; rw [e] at h4; simp at h4
            (repeat (first | refine And.intro (by omega) ?_ | refine And.intro ⟨by omega, by omega⟩ ?_))
            refine opsVC_loadg rfl rfl rfl rfl rfl rfl (hzb.fam.row _ h3) (by omega) ?_
            refine ifVC_split (fun h5 => ?_) (fun h5 => ?_)
            · have h5 : G z.1 x.place ≠ 0 := by
                have h5 : (z.2.1 z.1 ((x.place : Int).toNat * 1 + 0) != 0) = true := h5
                rw [hpi, hz0 _ h2] at h5
                simpa using h5
              have hv := rngG z.1 h3 x.place h2
              refine Exists.intro 13 (And.intro (by kernel_rfl) ?_)
              (repeat (first | refine And.intro (by omega) ?_ | refine And.intro ⟨by omega, by omega⟩ ?_))
              refine headVC_load rfl rfl rfl rfl (hzb.fam.row _ h3) (by omega) ?_
              (repeat (first | refine And.intro (by omega) ?_ | refine And.intro ⟨by omega, by omega⟩ ?_))
              refine headVC_loadS (v := .sl (ρ1 x.done) 0 w (cp1 x.done)) rfl rfl rfl rfl hzb.fam.hdr (by omega) (by rw [hdi]; exact hsl1 _ h1) rfl ?_
              refine newsVC_none rfl ?_
              refine opsVC_call rfl rfl rfl rfl rfl rfl ?_
              have hij : ρ1 z.1 ≠ ρ1 x.done := fun e => h4 (hzb.inj _ _ h3 h1 e)
              have hbq : Nat.beq (ρ1 z.1) (ρ1 x.done) = false := by
                cases hh : Nat.beq (ρ1 z.1) (ρ1 x.done) with
                | false => rfl
                | true => exact absurd (Nat.eq_of_beq_eq_true hh) hij
              have he : IntKind.i64.wrap ((p : Int) - IntKind.i64.wrap (z.2.1 z.1 ((x.place : Int).toNat * 1 + 0))) = p - G z.1 x.place := by
                rw [hpi, hz0 _ h2, wrapI (x := G z.1 x.place) (by omega), wrapI (by omega)]
              refine callVC_row2 (args' := [.int .i64 p, .sl 0 0 w (cp1 z.1), .int .i64 (p - G z.1 x.place), .sl 1 0 w (cp1 x.done)]) hij (hzb.fam.row _ h3) (hzb.fam.row _ h1) rfl rfl (fun _ => rfl) (fun _ => rfl) rfl (by rw [he]; simp [SV.ren, posIn, Nat.beq_refl, hbq]) ?_
              refine Spec.mono (addRow_s w _ _ _ _ p (p - G z.1 x.place) _ _ hw hp0 ⟨by omega, by omega⟩ (fun j hj => hrow _ h3 j hj) (fun j hj => by have := hrow _ h1 j hj; omega)) ?_
              rintro r m' ⟨rfl, rfl⟩
              refine ⟨.ints .u8 w (addM p (z.2.1 z.1) (p - G z.1 x.place) (z.2.1 x.done)), fun _ => rfl, fun _ => rfl, rfl, ?_⟩
              refine Exists.intro (z.1 + 1, (fun l => if l = z.1 then addM p (z.2.1 z.1) (p - G z.1 x.place) (z.2.1 x.done) else z.2.1 l), setBlock z.2.2 (ρ1 z.1) (.ints .u8 w (addM p (z.2.1 z.1) (p - G z.1 x.place) (z.2.1 x.done)))) (Exists.intro (fun i => i) (And.intro (next _ _ h3 (hzb.setRow h3 _) (fun l hl e => if_neg e) fun j hj => ?_) (And.intro (show n - (z.1 + 1) < n - z.1 by omega) (RenTo.same ?_ fun i u d hb => ⟨u, hb, eqv_refl u⟩))))
              · rw [if_pos rfl, hGd, if_pos ⟨h4, h5⟩]
                show (z.2.1 z.1 j + (p - G z.1 x.place) * z.2.1 x.done j) % p = _
                rw [hz0 j hj, hzd j hj]
              · exact And.intro rfl (And.intro rfl (And.intro rfl (And.intro rfl (And.intro rfl (And.intro rfl (And.intro (slotI (wrapS (by omega))) trivial))))))
            · have h5 : G z.1 x.place = 0 := by
                have h5 : (z.2.1 z.1 ((x.place : Int).toNat * 1 + 0) != 0) = false := h5
                rw [hpi, hz0 _ h2] at h5
                simpa using h5
              refine Exists.intro (z.1 + 1, z.2.1, z.2.2) (Exists.intro (fun i => i) (And.intro (next _ _ h3 hzb (fun l hl e => rfl) fun j hj => ?_) (And.intro (show n - (z.1 + 1) < n - z.1 by omega) (RenTo.same ?_ fun i u d hb => ⟨u, hb, eqv_refl u⟩))))
              · rw [hGd, if_neg (fun hh => hh.2 h5)]; exact hz0 j hj
              · exact And.intro rfl (And.intro rfl (And.intro rfl (And.intro rfl (And.intro rfl (And.intro rfl (And.intro (slotI (wrapS (by omega))) trivial))))))
          · have h4 : z.1 = x.done := by
              have h4 : ((z.1 : Int) != (x.done : Int)) = false := h4
              simp at h4; omega
            refine Exists.intro (z.1 + 1, z.2.1, z.2.2) (Exists.intro (fun i => i) (And.intro (next _ _ h3 hzb (fun l hl e => rfl) fun j hj => ?_) (And.intro (show n - (z.1 + 1) < n - z.1 by omega) (RenTo.same ?_ fun i u d hb => ⟨u, hb, eqv_refl u⟩))))
            · rw [hGd, if_neg (fun hh => hh.1 h4)]; exact hz0 j hj
            · exact And.intro rfl (And.intro rfl (And.intro rfl (And.intro rfl (And.intro rfl (And.intro rfl (And.intro (slotI (wrapS (by omega))) trivial))))))
        · have h3 : z.1 = n := by have := of_decide_eq_false h3; omega
          refine Exists.intro ⟨x.done + 1, x.place + 1, h1', ρ1, cp1, z.2.1, d1, (fun i => if i = x.done then x.place else x.P i), z.2.2⟩ (Exists.intro (fun i => i) (And.intro ⟨hzb, hgp.ext (by omega) fun l hl j hj => ?_⟩ (And.intro (show w - (x.place + 1) < w - x.place by omega) (RenTo.same ?_ fun i u d hb => ⟨u, hb, eqv_refl u⟩))))
          · show z.2.1 l j = _
            rw [hzv l hl j hj, if_pos (by omega)]
          · exact And.intro rfl (And.intro rfl (And.intro (slotI (wrapS (by omega))) (And.intro (slotI (wrapS (by omega))) trivial)))
      · refine Exists.intro ⟨x.done, x.place + 1, x.h, x.ρ, x.cp, x.f, x.d, x.P, x.M⟩ (Exists.intro (fun i => i) (And.intro ⟨hb, hg.skip h2 fun l h3 h4 => ?_⟩ (And.intro (show w - (x.place + 1) < w - x.place by omega) (RenTo.same ?_ fun i u d hb => ⟨u, hb, eqv_refl u⟩))))
        · have := hall (l - x.done) (by omega)
          rwa [show x.done + (l - x.done) = l by omega] at this
        · exact And.intro rfl (And.intro rfl (And.intro rfl (And.intro (slotI (wrapS (by omega))) trivial)))
    · have h2 : x.place = w := by have := of_decide_eq_false h2; omega
      refine And.intro ⟨by omega, by omega⟩ ?_
      exact hend (.inr h2)
  · have h1 : x.done = n := by have := of_decide_eq_false h1; omega
    refine And.intro ⟨by omega, by omega⟩ ?_
    exact hend (.inl h1)
end Go.Proofs.YtjanlnngeklhoabGreat

/- Rows with a basis behind them, in new blocks. -/
set_option linter.unusedVariables false
set_option linter.unusedSimpArgs false
set_option maxRecDepth 100000
set_option maxHeartbeats 4000000
namespace Go.Proofs.YtjanlnngeklhoabGreat
open M

section
variable {P : Program} {T : Tab} {N : Nat} {ops : Array Oper} {o : Oper} {r : List Oper} {s : Slots} {m : Mem} {K : Slots → Mem → Prop} {t : Nat} {x : Operand} {id off len es : Nat} {ea : Bool} {z a b : SV}
theorem opsVC_alloc (hg : o.guard = none) (ho : o.op = .alloc t) (hz : T.zero t = some z) (hb : z.boxable = true) (hk : opsVC P T N ops r (sset N s o.dst (.ptr m.length [] 0 0)) (m ++ [some (z, z.size)]) K) : opsVC P T N ops (o :: r) s m K := by
  refine opsVC_one hg ?_
  simp only [oneVC, ho, newVC, hz]
  exact chk_iff.2 ⟨hb, hk⟩
theorem opsVC_box (hg : o.guard = none) (ho : o.op = .box t x) (hz : ev s x = some z) (hb : z.boxable = true) (hk : opsVC P T N ops r (sset N s o.dst (.ptr m.length [] 0 0)) (m ++ [some (z, z.size)]) K) : opsVC P T N ops (o :: r) s m K := by
  refine opsVC_one hg ?_
  simp only [oneVC, ho, newVC, hz]
  exact chk_iff.2 ⟨hb, hk⟩
theorem opsVC_slA (hg : o.guard = none) (ho : o.op = .slice t x none none none) (ht : T.ti t = .arr len es ea) (hx : ev s x = some (.ptr id [] 0 off)) (hk : opsVC P T N ops r (sset N s o.dst (.sl id off len len)) m K) : opsVC P T N ops (o :: r) s m K := by
  refine opsVC_one hg ?_
  simp only [oneVC, ho, readVC, ht, hx]
  exact hk
end
section
variable {P : Program}
theorem backMem_nilG (ρ : Nat → Nat) (m : Mem) : backMem ρ m [] [] = m := backMem_same rfl rfl (fun _ _ h => by cases h) fun _ _ _ => rfl
/-- a call by value -/
theorem callVC_valG {f : Nat} {args : List SV} {m : Mem} {K : SV → Mem → Prop} {v : SV} (hids : idsOf args = []) (ha : ∀ ρ, args.map (SV.ren ρ) = args) (hv : ∀ ρ, v.ren ρ = v) (h : Spec P f args [] (Ret v)) (hk : K v m) : callVC P f args m K := by
  refine callVC_of (ids := []) (by rw [hids]; rfl) ?_
  refine And.intro trivial ?_
  rw [ha]
  refine h.mono ?_
  rintro r m' ⟨rfl, rfl⟩
  rw [hv, backMem_nilG]
  exact hk
end

/-! ### values and numbers of blocks -/
theorem blockOf_snoc (A : Mem) (x : Option (SV × Nat)) : blockOf (A ++ [x]) A.length = x := by
  have := blockOf_append_ge A [x] 0
  rw [Nat.add_zero] at this
  rw [this]; rfl

/-! ### new rows under a new block of slices -/
/-- the first i of the slices lead to the blocks behind -/
def hdrF (L v i : Nat) (cc : Nat → Nat) : Nat → SV := fun k => if k < i then .sl (L + 1 + k) 0 v (cc k) else .nilsl
def memG (m : Mem) (n v i : Nat) (cc : Nat → Nat) (F : Nat → Nat → Int) (C : Nat → Nat) : Mem := m ++ (some (.vec n (hdrF m.length v i cc), n) :: rowsM .u8 v i F C)
section
variable (m : Mem) (n v i : Nat) (cc : Nat → Nat) (F : Nat → Nat → Int) (C : Nat → Nat)
end
/-- a row with a basis element behind it -/
def graphRow (g : Nat → Nat → Int) (w k : Nat) : Nat → Int := fun j => if j < w then g k j else unitV k (j - w)
end Go.Proofs.YtjanlnngeklhoabGreat

/- The map back of a linear map, as far as there is one. -/
set_option linter.unusedVariables false
set_option linter.unusedSimpArgs false
set_option maxRecDepth 100000
set_option maxHeartbeats 4000000
namespace Go.Proofs.YtjanlnngeklhoabGreat
open M

/-- what comes out: the reduced list of the rows f(e(i)), e(i) tells the map back, or that there is none -/
def InvQ (p n : Nat) (f : Nat → Int) (r : SV) : Prop :=
  ∃ (k : Nat) (a : Nat → Nat → Int) (P : Nat → Nat), k ≤ n ∧ Red p 16 (Sp p 16 n (graphRow (fun i j => f (j + i * 8)) 8)) k a P ∧
    (((∀ i, i < k → ∀ j, j < 8 → a i j = unitV i j) ∧ ∃ B, r = .tcons (.ints .u8 64 B) (.tcons (.bool true) .tnil) ∧ ∀ q, q < 64 → B q = if q / 8 < k then a (q / 8) (8 + q % 8) else 0) ∨
     ((∃ i, i < k ∧ ∃ j, j < 8 ∧ a i j ≠ unitV i j) ∧ ∃ B, r = .tcons (.ints .u8 64 B) (.tcons (.bool false) .tnil) ∧ ∀ q, q < 64 → B q = 0))

end Go.Proofs.YtjanlnngeklhoabGreat

/- First places, inverses, and the model's way to solve linear equations: its lists as plain recursion. -/
set_option linter.unusedVariables false
set_option linter.unusedSimpArgs false
set_option maxRecDepth 100000
set_option maxHeartbeats 4000000
namespace Go.Proofs.YtjanlnngeklhoabGreat
open M

/-- the first place with an entry, or 8 -/
def firstAt (v : Nat → Int) : Nat → Nat
  | 0 => 8
  | k + 1 => if v (7 - k) ≠ 0 then 7 - k else firstAt v k
def first8 (v : Nat → Int) : Nat := firstAt v 8
theorem firstAt_spec (v : Nat → Int) : ∀ k, k ≤ 8 → (firstAt v k = 8 ∧ ∀ j, 8 - k ≤ j → j < 8 → v j = 0) ∨ (8 - k ≤ firstAt v k ∧ firstAt v k < 8 ∧ v (firstAt v k) ≠ 0 ∧ ∀ j, 8 - k ≤ j → j < firstAt v k → v j = 0)
  | 0, _ => .inl ⟨rfl, fun j h1 h2 => by omega⟩
  | k + 1, hk => by
    unfold firstAt
    by_cases h : v (7 - k) ≠ 0
    · rw [if_pos h]
      exact .inr ⟨by omega, by omega, h, fun j h1 h2 => by omega⟩
    · have h : v (7 - k) = 0 := Classical.not_not.1 h
      rw [if_neg (fun e => e h)]
      rcases firstAt_spec v k (by omega) with ⟨h1, h2⟩ | ⟨h1, h2, h3, h4⟩
      · refine .inl ⟨h1, fun j h3 h4 => ?_⟩
        by_cases e : j = 7 - k
        · rw [e]; exact h
        · exact h2 j (by omega) h4
      · refine .inr ⟨by omega, h2, h3, fun j h5 h6 => ?_⟩
        by_cases e : j = 7 - k
        · rw [e]; exact h
        · exact h4 j (by omega) h6
theorem first8_spec (v : Nat → Int) : (first8 v = 8 ∧ ∀ j, j < 8 → v j = 0) ∨ (first8 v < 8 ∧ v (first8 v) ≠ 0 ∧ ∀ j, j < first8 v → v j = 0) := by
  rcases firstAt_spec v 8 (Nat.le_refl _) with ⟨h1, h2⟩ | ⟨h1, h2, h3, h4⟩
  · exact .inl ⟨h1, fun j hj => h2 j (by omega) hj⟩
  · exact .inr ⟨h2, h3, fun j hj => h4 j (by omega) hj⟩
theorem first8_is {v : Nat → Int} {k : Nat} (hk : k ≤ 8) (h1 : ∀ j, j < k → v j = 0) (h2 : k < 8 → v k ≠ 0) : first8 v = k := by
  rcases first8_spec v with ⟨h3, h4⟩ | ⟨h3, h4, h5⟩
  · rcases Nat.lt_or_ge k 8 with h | h
    · exact absurd (h4 k h) (h2 h)
    · omega
  · rcases Nat.lt_trichotomy (first8 v) k with h | h | h
    · exact absurd (h1 _ h) h4
    · exact h
    · exact absurd (h5 k h) (h2 (by omega))
theorem first8_congr {v u : Nat → Int} (h : ∀ j, j < 8 → v j = u j) : first8 v = first8 u := by
  rcases first8_spec u with ⟨h3, h4⟩ | ⟨h3, h4, h5⟩
  · exact (first8_is (by omega) (fun j hj => by rw [h j (by omega)]; exact h4 j (by omega)) (fun hh => by omega))
  · exact first8_is (by omega) (fun j hj => by rw [h j (by omega)]; exact h5 j hj) (fun hh => by rw [h _ hh]; exact h4)

theorem l01First_s (v : Nat → Int) : Spec Tryz.prog 46 [.ints .u8 8 v] [] (Ret (.int .i64 (first8 v))) := by
  refine Spec.ret rfl (Spec.of_vc tabOK tabEq Tryz.func46 rfl (by kernel_rfl) rfl rfl ?_)
  refine LoopVC.of (fun i : Nat => i ≤ 8 ∧ ∀ j, j < i → v j = 0) (fun i => [(1, .ptr 0 [] 0 0), (3, .int .i64 i)]) (fun _ => [some (.ints .u8 8 v, 8)]) (fun i => 8 - i) 0 ⟨by omega, fun j hj => by omega⟩ ?_ ?_ ?_
  · exact (And.intro rfl (And.intro rfl (trivial)))
  · exact And.intro (And.intro (rowEq fun _ _ => rfl) rfl) trivial
  · rintro i ⟨hi, hall⟩
    refine ifVC_split (fun h1 => ?_) (fun h1 => ?_)
    · have h1 := of_decide_eq_true h1
      (repeat (first | refine And.intro (by omega) ?_ | refine And.intro ⟨by omega, by omega⟩ ?_))
      have hidx : (i : Int).toNat * 1 + 0 = i := by omega
      refine ifVC_split (fun h2 => ?_) (fun h2 => ?_)
      · have h2 : v i = 0 := by
          have h2 : (v ((i : Int).toNat * 1 + 0) == 0) = true := h2
          rw [hidx] at h2; simpa using h2
        refine Exists.intro (i + 1) (And.intro ⟨by omega, fun j hj => ?_⟩ (And.intro (by omega) (And.intro (And.intro rfl (And.intro (slotI (wrapS (by omega))) trivial)) ?_)))
        · by_cases e : j = i
          · rw [e]; exact h2
          · exact hall j (by omega)
        · exact And.intro (And.intro (rowEq fun _ _ => rfl) rfl) trivial
      · have h2 : v i ≠ 0 := by
          have h2 : (v ((i : Int).toNat * 1 + 0) == 0) = false := h2
          rw [hidx] at h2; simpa using h2
        refine slotI ?_
        rw [first8_is (k := i) hi hall fun _ => h2]
    · have h1 := of_decide_eq_false h1
      refine slotI ?_
      rw [first8_is (k := i) hi hall fun h => by omega]

/-- the number with which x has the product 1 -/
def invN (p x : Nat) : Nat := ((List.range p).find? fun y => y * x % p == 1).getD 0
theorem invN_spec {p x : Nat} (hp : primeB (p : Int) = true) (hp2 : 2 ≤ p ∧ p ≤ 31) (hx : 0 < x ∧ x < p) : 0 < invN p x ∧ invN p x < p ∧ invN p x * x % p = 1 ∧ ∀ y, y < invN p x → y * x % p ≠ 1 := by
  obtain ⟨e, he0, hep, he⟩ := invX ⟨p, by omega⟩ hp ⟨x, by omega⟩ hx.1 hx.2
  have hep : e.val < p := hep
  have he : e.val * x % p = 1 := he
  unfold invN
  cases h : (List.range p).find? fun y => y * x % p == 1 with
  | none =>
    have := List.find?_eq_none.1 h e.val (List.mem_range.2 hep)
    simp [he] at this
  | some y =>
    have h1 := List.find?_some h
    have h2 := List.mem_range.1 (List.mem_of_find?_eq_some h)
    have h1 : y * x % p = 1 := by simpa using h1
    refine ⟨?_, h2, h1, fun z hz hzx => ?_⟩
    · rcases Nat.eq_zero_or_pos y with h0 | h0
      · rw [h0] at h1; simp at h1
      · exact h0
    · have hz : z < y := hz
      obtain ⟨l1, l2, h3, h4⟩ := (List.find?_eq_some_iff_append.1 h).2
      have hlen : l1.length = y := by
        have h5 : (List.range p)[l1.length]? = some y := by rw [h3]; simp
        rw [List.getElem?_range] at h5
        · exact Option.some.inj h5
        · have := congrArg List.length h3
          simp at this
          omega
      have : z ∈ l1 := by
        have h5 : (List.range p)[z]? = some z := by rw [List.getElem?_range (by omega)]
        rw [h3, List.getElem?_append_left (by omega)] at h5
        exact List.mem_of_getElem? h5
      have := h4 z this
      simp [hzx] at this

theorem l01Inverse_s (p x : Nat) (hp : primeB (p : Int) = true) (hp2 : 2 ≤ p ∧ p ≤ 31) (hx : 0 < x ∧ x < p) : Spec Tryz.prog 48 [.int .i64 p, .int .u8 x] [] (Ret (.int .u8 (invN p x))) := by
  obtain ⟨i0, i1, i2, i3⟩ := invN_spec hp hp2 hx
  refine Spec.ret rfl (Spec.of_vc tabOK tabEq Tryz.func48 rfl (by kernel_rfl) rfl rfl ?_)
  refine LoopVC.of (fun k : Nat => 1 ≤ k ∧ k ≤ invN p x) (fun k => [(0, .int .i64 p), (1, .int .u8 x), (5, .int .i64 k)]) (fun _ => []) (fun k => p - k) 1 ⟨by omega, by omega⟩ ?_ trivial ?_
  · exact (And.intro rfl (And.intro rfl (And.intro rfl (trivial))))
  · rintro k ⟨h0, hk⟩
    have hb : k * x ≤ 31 * 31 := Nat.mul_le_mul (by omega) (by omega)
    have hval : (IntKind.i64.wrap ((k : Int) * IntKind.i64.wrap (x : Int))).tmod (p : Int) = ((k * x % p : Nat) : Int) := by
      rw [wrapI (x := (x : Int)) (by omega), ← Int.natCast_mul, wrapI (by omega)]
      rfl
    refine ifVC_true (decide_eq_true (show (k : Int) < p by omega)) ?_
    (repeat (first | refine And.intro (by omega) ?_ | refine And.intro ⟨by omega, by omega⟩ ?_))
    refine ifVC_split (fun h => ?_) (fun h => ?_)
    · have h : ((IntKind.i64.wrap ((k : Int) * IntKind.i64.wrap (x : Int))).tmod (p : Int) == 1) = true := h
      rw [hval] at h
      have h : ((k * x % p : Nat) : Int) = 1 := by simpa using h
      have hk1 : k = invN p x := by
        rcases Nat.lt_or_ge k (invN p x) with hl | hl
        · exact absurd (by omega) (i3 k hl)
        · omega
      subst hk1
      show SV.int .u8 (IntKind.u8.wrap (invN p x : Int)) = _
      rw [wrapB (by omega)]
    · have h : ((IntKind.i64.wrap ((k : Int) * IntKind.i64.wrap (x : Int))).tmod (p : Int) == 1) = false := h
      rw [hval] at h
      have hne : k ≠ invN p x := by rintro rfl; rw [i2] at h; simp at h
      exact Exists.intro (k + 1) (And.intro ⟨by omega, by omega⟩ (And.intro (by omega) (And.intro (And.intro rfl (And.intro rfl (And.intro (slotI (wrapS (by omega))) trivial))) trivial)))
end Go.Proofs.YtjanlnngeklhoabGreat

/- The model's way to solve linear equations: its lists as plain recursion. -/
set_option linter.unusedVariables false
set_option linter.unusedSimpArgs false
set_option maxRecDepth 100000
set_option maxHeartbeats 4000000
namespace Go.Proofs.YtjanlnngeklhoabGreat
open M

theorem l01ZeroS_s (v : Nat → Int) : Spec Tryz.prog 45 [.ints .u8 8 v] [] (Ret (.bool (allEq 8 v fun _ => 0))) := by
  refine Spec.ret rfl (Spec.of_vc tabOK tabEq Tryz.func45 rfl (by kernel_rfl) rfl rfl ?_)
  (repeat (first | refine And.intro (by omega) ?_ | refine And.intro ⟨by omega, by omega⟩ ?_))
  exact boolEq rfl

/-- a vector, and what leads to it, less multiples of the rows so far -/
def redV (p : Int) (A B : Nat → Int) (x : (Nat → Int) × (Nat → Int)) : Nat → (Nat → Int) × (Nat → Int)
  | 0 => x
  | k + 1 =>
    if (redV p A B x k).1 (first8 (partF A 8 k)) ≠ 0 then
      (addM p (redV p A B x k).1 (-((redV p A B x k).1 (first8 (partF A 8 k)))) (partF A 8 k), addM p (redV p A B x k).2 (-((redV p A B x k).1 (first8 (partF A 8 k)))) (partF B 8 k))
    else redV p A B x k
def snocF (A : Nat → Int) (r : Nat) (v : Nat → Int) : Nat → Int := fun q => if q < r * 8 then A q else v (q - r * 8)
structure SolS where
  r : Nat
  q : Nat
  A : Nat → Int
  B : Nat → Int
  C : Nat → Int
def solStep (p : Nat) (s : SolS) (v w : Nat → Int) : SolS :=
  if allEq 8 v (fun _ => 0) = true then { s with q := s.q + 1, C := snocF s.C s.q w }
  else { s with r := s.r + 1, A := snocF s.A s.r (addM p (fun _ => 0) (invN p (v (first8 v)).toNat) v), B := snocF s.B s.r (addM p (fun _ => 0) (invN p (v (first8 v)).toNat) w) }
def solN (p : Nat) (f : Nat → Int) : Nat → SolS
  | 0 => ⟨0, 0, fun _ => 0, fun _ => 0, fun _ => 0⟩
  | i + 1 => solStep p (solN p f i) (redV p (solN p f i).A (solN p f i).B (partF f 8 i, unitV i) (solN p f i).r).1 (redV p (solN p f i).A (solN p f i).B (partF f 8 i, unitV i) (solN p f i).r).2

/-- rows of numbers modulo p -/
def rngR (p : Nat) (n : Nat) (A : Nat → Int) : Prop := ∀ q, q < n * 8 → 0 ≤ A q ∧ A q < p
structure SolOK (p i : Nat) (s : SolS) : Prop where
  a : rngR p s.r s.A
  b : rngR p s.r s.B
  c : rngR p s.q s.C
  sum : s.r + s.q = i
  fst : ∀ k, k < s.r → first8 (partF s.A 8 k) < 8

theorem addM_rng {p : Nat} (hp : 0 < p) (v : Nat → Int) (k : Int) (w : Nat → Int) (j : Nat) : 0 ≤ addM p v k w j ∧ addM p v k w j < p := mod_rng (by omega) _
/-- the three lists -/
def SolQ (p n : Nat) (f : Nat → Int) (r : SV) (m : Mem) : Prop :=
  ∃ c1 c2 c3, (solN p f n).r ≤ c1 ∧ (solN p f n).r ≤ c2 ∧ (solN p f n).q ≤ c3 ∧ r = .tcons (.sl 1 0 (solN p f n).r c1) (.tcons (.sl 2 0 (solN p f n).r c2) (.tcons (.sl 3 0 (solN p f n).q c3) .tnil)) ∧
    m = [some (.ints .u8 64 f, 64), some (.ints .u8 ((solN p f n).r * 8) (solN p f n).A, c1 * 8), some (.ints .u8 ((solN p f n).r * 8) (solN p f n).B, c2 * 8), some (.ints .u8 ((solN p f n).q * 8) (solN p f n).C, c3 * 8)]

end Go.Proofs.YtjanlnngeklhoabGreat

/- Linear maps modulo p: what they lead to, when they have a map back, and products of vectors. -/
set_option linter.unusedVariables false
set_option linter.unusedSimpArgs false
set_option maxRecDepth 100000
set_option maxHeartbeats 1000000
namespace Go.Proofs.YtjanlnngeklhoabGreat
open M

/-- what the map f makes of x -/
def apF (p : Int) (f x : Nat → Int) : Nat → Int := fun j => linS f x 8 j % p
/-- vectors for p and n -/
structure VecP (p : Int) (n : Nat) (x : Nat → Int) : Prop where
  rng : ∀ j, j < 8 → 0 ≤ x j ∧ x j < p
  out : ∀ j, n ≤ j → j < 8 → x j = 0
/-- maps of such -/
structure MapP (p : Int) (n : Nat) (f : Nat → Int) : Prop where
  rng : ∀ q, q < 64 → 0 ≤ f q ∧ f q < p
  out : ∀ i j, i < 8 → j < 8 → (n ≤ i ∨ n ≤ j) → f (i * 8 + j) = 0
/-! ### the rows f(e(i)), e(i) -/
abbrev grF (f : Nat → Int) : Nat → Nat → Int := graphRow (fun i j => f (j + i * 8)) 8
/-! ### more rows than places -/
end Go.Proofs.YtjanlnngeklhoabGreat

/- The model's way to find what leads to a vector. -/
set_option linter.unusedVariables false
set_option linter.unusedSimpArgs false
set_option maxRecDepth 100000
set_option maxHeartbeats 4000000
namespace Go.Proofs.YtjanlnngeklhoabGreat
open M

/-- what is left of v, and what leads to the part taken off -/
def liftV (p : Int) (A B v : Nat → Int) : Nat → (Nat → Int) × (Nat → Int)
  | 0 => (v, fun _ => 0)
  | k + 1 =>
    if (liftV p A B v k).1 (first8 (partF A 8 k)) ≠ 0 then
      (addM p (liftV p A B v k).1 (-((liftV p A B v k).1 (first8 (partF A 8 k)))) (partF A 8 k), addM p (liftV p A B v k).2 ((liftV p A B v k).1 (first8 (partF A 8 k))) (partF B 8 k))
    else liftV p A B v k
theorem liftV_rng {p : Nat} (hp : 0 < p) {A B v : Nat → Int} (h1 : ∀ j, j < 8 → 0 ≤ v j ∧ v j < p) : ∀ k, (∀ j, j < 8 → 0 ≤ (liftV p A B v k).1 j ∧ (liftV p A B v k).1 j < p) ∧ ∀ j, j < 8 → 0 ≤ (liftV p A B v k).2 j ∧ (liftV p A B v k).2 j < p
  | 0 => ⟨h1, fun j _ => ⟨Int.le_refl _, by show (0 : Int) < p; omega⟩⟩
  | k + 1 => by
    have ih := liftV_rng hp (A := A) (B := B) h1 k
    unfold liftV
    split
    · exact ⟨fun j _ => addM_rng hp _ _ _ j, fun j _ => addM_rng hp _ _ _ j⟩
    · exact ih
def liftR (p n : Nat) (f v : Nat → Int) : (Nat → Int) × (Nat → Int) := liftV p (solN p f n).A (solN p f n).B v (solN p f n).r

end Go.Proofs.YtjanlnngeklhoabGreat

/- What the model's way to solve linear equations finds. -/
set_option linter.unusedVariables false
set_option linter.unusedSimpArgs false
set_option maxRecDepth 100000
set_option maxHeartbeats 1000000
namespace Go.Proofs.YtjanlnngeklhoabGreat
open M

/-- rows that each begin where the later ones have 0 -/
structure Tri (p : Nat) (r : Nat) (A : Nat → Int) : Prop where
  rng : rngR p r A
  fst : ∀ l, l < r → first8 (partF A 8 l) < 8
  one : ∀ l, l < r → partF A 8 l (first8 (partF A 8 l)) = 1
  oth : ∀ t l, t < l → l < r → partF A 8 l (first8 (partF A 8 t)) = 0
theorem Tri.row {p r : Nat} {A : Nat → Int} (h : Tri p r A) {l : Nat} (hl : l < r) : ∀ j, j < 8 → 0 ≤ partF A 8 l j ∧ partF A 8 l j < p := fun j hj => h.rng _ (by omega)
theorem addM_at (p : Int) (v : Nat → Int) (k : Int) (w : Nat → Int) (j : Nat) : addM p v k w j = (v j + k * w j) % p := rfl

structure SolM (p n i : Nat) (f : Nat → Int) (s : SolS) : Prop where
  tri : Tri p s.r s.A
  img : ∀ l, l < s.r → VecP p n (partF s.B 8 l) ∧ ∀ j, j < 8 → apF p f (partF s.B 8 l) j = partF s.A 8 l j
  ker : ∀ l, l < s.q → VecP p n (partF s.C 8 l) ∧ ∀ j, j < 8 → apF p f (partF s.C 8 l) j = 0
  all : ∀ m, m < i → Sp p 8 s.r (partF s.A 8) (partF f 8 m)

theorem liftV_in {p : Nat} {A B v : Nat → Int} {r : Nat} (hp : 1 < p) {S : (Nat → Int) → Prop} (hS : Space p 8 S) (hA : ∀ l, l < r → S (partF A 8 l)) (hv : S v) : ∀ k, k ≤ r → S (liftV p A B v k).1
  | 0, _ => hv
  | k + 1, hk => by
    have ih := liftV_in (B := B) hp hS hA hv k (by omega)
    unfold liftV
    split
    · exact hS.addc _ _ ih (hA k (by omega)) _
    · exact ih
theorem liftV_at {p : Nat} {A B v : Nat → Int} {r : Nat} (hp : 1 < p) (h : Tri p r A) : ∀ k, k ≤ r → ∀ t, t < k → (liftV p A B v k).1 (first8 (partF A 8 t)) = 0
  | 0, _, t, ht => absurd ht (Nat.not_lt_zero _)
  | k + 1, hk, t, ht => by
    unfold liftV
    split
    · show addM p _ _ _ _ = 0
      rw [addM_at]
      by_cases e : t = k
      · subst e; rw [h.one t (by omega), Int.mul_one, Int.add_right_neg, Int.zero_emod]
      · rw [liftV_at hp h k (by omega) t (by omega), h.oth t k (by omega) (by omega)]; simp
    · rename_i hz
      by_cases e : t = k
      · subst e; exact Classical.not_not.1 hz
      · exact liftV_at hp h k (by omega) t (by omega)

end Go.Proofs.YtjanlnngeklhoabGreat

/- Products of vectors: sums go through them, they associate, the unit does nothing. -/
set_option linter.unusedVariables false
set_option linter.unusedSimpArgs false
set_option maxRecDepth 100000
set_option maxHeartbeats 1000000
namespace Go.Proofs.YtjanlnngeklhoabGreat
open M

end Go.Proofs.YtjanlnngeklhoabGreat

/- InverseOf: what both sides tell. -/
set_option linter.unusedVariables false
set_option linter.unusedSimpArgs false
set_option maxRecDepth 100000
set_option maxHeartbeats 4000000
namespace Go.Proofs.YtjanlnngeklhoabGreat
open M

/-- what the model finds: w with v w the unit; and whether w v is the unit, too -/
def invW (p n : Nat) (U T v : Nat → Int) : Nat → Int := (liftR p n (leftT p T v) U).2
def invB (p n : Nat) (U T v : Nat → Int) : Bool := allEq 8 (liftR p n (leftT p T v) U).1 (fun _ => 0) && allEq 8 (fun m => timS p n T (invW p n U T v) v n m % p) U
def invV (p n : Int) (U T v : Nat → Int) : SV :=
  .tcons (.ints .u8 8 fun j => if oneOk p n U T v = true ∧ invB p.toNat n.toNat U T v = true then invW p.toNat n.toNat U T v j else 0)
    (.tcons (.int .i64 (if oneOk p n U T v = true then (if invB p.toNat n.toNat U T v = true then 0 else 4) else 1)) .tnil)

/-- an algebra for prime p, and a vector -/
structure AlgP (p n : Nat) (U T : Nat → Int) : Prop where
  hp : primeB (p : Int) = true
  hp2 : 2 ≤ p ∧ p ≤ 31
  hn : 1 ≤ n ∧ n ≤ 8
  V : Valid p n U T
  ass : assB p n T
  unit : unitB p n U T = true
/-! ### a reduced list there is, and one alone -/
noncomputable def redOf (p w n : Nat) (f0 : Nat → Nat → Int) : Nat × (Nat → Nat → Int) × (Nat → Nat) := Classical.epsilon fun x => x.1 ≤ n ∧ Red p w (Sp p w n f0) x.1 x.2.1 x.2.2
noncomputable def mapBack (p n : Nat) (f : Nat → Int) : Nat → Int := fun q => if q / 8 < (redOf p 16 n (grF f)).1 then (redOf p 16 n (grF f)).2.1 (q / 8) (8 + q % 8) else 0

end Go.Proofs.YtjanlnngeklhoabGreat
