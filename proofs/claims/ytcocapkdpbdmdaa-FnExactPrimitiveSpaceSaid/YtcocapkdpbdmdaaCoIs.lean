/- Both checks of coalgebras, and the law on IsCoalgebra. -/
import Derived.Test.YtcocapkdpbdmdaaCoSpec
set_option linter.unusedVariables false
set_option linter.unusedSimpArgs false
set_option maxRecDepth 100000
namespace Go.Proofs.Ytcocapkdpbdmdaa
open M

def couL (p : Int) (n : Nat) (U C : Nat → Int) : Bool := (List.range n).all (couOk p n U C)
theorem couL_no {p : Int} {n i : Nat} {U C : Nat → Int} (hi : i < n) (h : couOk p n U C i = false) : couL p n U C = false := by
  cases hb : couL p n U C with
  | false => rfl
  | true => have := List.all_eq_true.1 hb i (List.mem_range.2 hi); rw [h] at this; cases this
theorem couL_yes {p : Int} {n : Nat} {U C : Nat → Int} (h : ∀ i, i < n → couOk p n U C i = true) : couL p n U C = true := List.all_eq_true.2 fun i hi => h i (List.mem_range.1 hi)

theorem couA_step (p : Int) (n : Nat) (U C : Nat → Int) (i m : Nat) : couA p (n + 1) U C i m = (couA p n U C i m + U n * rowT C i (n * 8 + m)) % p := by
  unfold couA
  show (linS (rowT C i) U n m + U n * rowT C i (n * 8 + m)) % p = _
  rw [Int.emod_add_emod]

theorem l02Counits_s (p : Int) (n : Nat) (U C : Nat → Int) (hp : 0 < p ∧ p < 256) (hn : n ≤ 8) (hU : isU8 8 U) (hC : isU8 512 C) :
    Spec Try.prog 70 [algV p n U C] [] (Ret (.bool (couL p n U C))) := by
  refine Spec.ret rfl (Spec.of_vc tabOK tabEq Try.func70 rfl (by kernel_rfl) rfl rfl ?_)
  refine LoopVC.of (fun i : Nat => i ≤ n ∧ ∀ i', i' < i → couOk p n U C i' = true) (fun i => [(1, .ptr 0 [] 0 0), (3, .int .i64 i)]) (fun _ => [some (algV p n U C, 522)]) (fun i => n - i) 0 ⟨by omega, fun i' h => by omega⟩ ?_ ?_ ?_
  · exact (And.intro rfl (And.intro rfl (trivial)))
  · exact And.intro (And.intro (algR p n U C) rfl) trivial
  · rintro i ⟨hi, hall⟩
    refine ifVC_split (fun h => ?_) (fun h => ?_)
    · have hlti := of_decide_eq_true h
      (repeat (first | refine And.intro (by omega) ?_ | refine And.intro ⟨by omega, by omega⟩ ?_))
      refine LoopVC.of (fun j : Nat => j ≤ n) (fun j => [(1, .ptr 0 [] 0 0), (3, .int .i64 i), (4, .ptr 1 [] 0 0), (5, .ptr 2 [] 0 0), (6, .int .i64 j)])
        (fun j => [some (algV p n U C, 522), some (.ints .u8 8 (couA p j U C i), 8), some (.ints .u8 8 (fun q => if q < j then couB p n U C i q else 0), 8)]) (fun j => n - j) 0 (by omega) ?_ ?_ ?_
      · exact (And.intro rfl (And.intro rfl (And.intro rfl (And.intro rfl (And.intro rfl (trivial))))))
      · exact And.intro (And.intro (algR p n U C) rfl) (And.intro (And.intro (rowEq fun q hq => by show updR _ 0 8 _ q = _; simp [updR, hq, couA, linS]) rfl) (And.intro (And.intro (rowEq fun q hq => by show updR _ 0 8 _ q = _; simp [updR, hq]) rfl) trivial))
      · intro j hj
        refine ifVC_split (fun h => ?_) (fun h => ?_)
        · have hltj := of_decide_eq_true h
          have hUj := hU j (by omega)
          have hidx : (j : Int).toNat * 1 + 0 = j := by omega
          refine Exists.intro 15 (And.intro (by kernel_rfl) ?_)
          (repeat (first | refine And.intro (by omega) ?_ | refine And.intro ⟨by omega, by omega⟩ ?_))
          refine Exists.intro (.ints .u8 8 (couA p (j + 1) U C i)) (And.intro (And.intro rfl (And.intro rfl ?_)) ?_)
          · refine Spec.mono (l01Add_s p _ _ _ hp (by rw [hidx, wrapI (by omega)]; omega) (fun q _ => modB hp) (fun q hq => hC _ (by omega))) ?_
            rintro r m ⟨rfl, _⟩
            refine congrArg (SV.ints .u8 8) (funext fun q => ?_)
            show (couA p j U C i (q + 0) + IntKind.i64.wrap (U ((j : Int).toNat * 1 + 0)) * C (q + ((j : Int).toNat * 8 + ((i : Int).toNat * 64 + 0)))) % p = _
            rw [couA_step, hidx, wrapI (by omega), Int.toNat_natCast, Int.toNat_natCast]
            have e : rowT C i (j * 8 + q) = C (q + (j * 8 + (i * 64 + 0))) := by unfold rowT; congr 1; omega
            rw [e]
            rfl
          (repeat (first | refine And.intro (by omega) ?_ | refine And.intro ⟨by omega, by omega⟩ ?_))
          have bS : ∀ a, a ≤ n → 0 ≤ sumN a (fun b => U b * vecT C i j b) ∧ sumN a (fun b => U b * vecT C i j b) ≤ 65025 * a := fun a ha => sum_bound a fun b hb => mulB (hU b (by omega)) (vec_u8 hC (by omega) (by omega) (by omega))
          refine LoopVC.of (fun k : Nat => k ≤ n) (fun k => [(1, .ptr 0 [] 0 0), (3, .int .i64 i), (4, .ptr 1 [] 0 0), (5, .ptr 2 [] 0 0), (6, .int .i64 j), (7, .int .i64 (sumN k fun a => U a * vecT C i j a)), (8, .int .i64 k)])
            (fun k => [some (algV p n U C, 522), some (.ints .u8 8 (couA p (j + 1) U C i), 8), some (.ints .u8 8 (fun q => if q < j then couB p n U C i q else 0), 8)]) (fun k => n - k) 0 (by omega) ?_ ?_ ?_
          · exact (And.intro rfl (And.intro rfl (And.intro rfl (And.intro rfl (And.intro rfl (And.intro rfl (And.intro rfl (trivial))))))))
          · exact And.intro (And.intro (algR p n U C) rfl) (And.intro (And.intro (rowEq fun q hq => by show updR _ 0 8 _ q = _; simp [updR, hq]) rfl) (And.intro (And.intro (rowEq fun _ _ => rfl) rfl) trivial))
          · intro k hk
            refine ifVC_split (fun h => ?_) (fun h => ?_)
            · have hltk := of_decide_eq_true h
              have e1 := bS k hk
              have v1 := hU k (by omega)
              have v2 := vec_u8 hC (show i < 8 by omega) (show j < 8 by omega) (show k < 8 by omega)
              have m1 := mulB v1 v2
              refine Exists.intro 17 (And.intro (by kernel_rfl) ?_)
              (repeat (first | refine And.intro (by omega) ?_ | refine And.intro ⟨by omega, by omega⟩ ?_))
              have f0 : U ((k : Int).toNat * 1 + 0) = U k := by congr 1; omega
              have f1 : C ((k : Int).toNat * 1 + ((j : Int).toNat * 8 + ((i : Int).toNat * 64 + 0))) = vecT C i j k := by simp only [Int.toNat_natCast]; unfold vecT; congr 1; omega
              refine Exists.intro (k + 1) (And.intro (by omega) (And.intro (by omega) (And.intro (And.intro rfl (And.intro rfl (And.intro rfl (And.intro rfl (And.intro rfl (And.intro (slotI ?_) (And.intro (slotI (wrapS (by omega))) trivial))))))) ?_)))
              · rw [f0, f1, wrapI (x := U k) (by omega), wrapI (x := vecT C i j k) (by omega), wrapI (x := U k * vecT C i j k) (by omega), wrapI (by omega)]
                rfl
              · exact And.intro (And.intro (algR p n U C) rfl) (And.intro (And.intro (rowEq fun _ _ => rfl) rfl) (And.intro (And.intro (rowEq fun _ _ => rfl) rfl) trivial))
            · have hge := of_decide_eq_false h
              obtain rfl : k = n := by omega
              have e1 := bS k (Nat.le_refl _)
              refine And.intro trivial (Spec.mono (l01Mod_s p _ hp (by omega)) ?_)
              rintro r m ⟨rfl, rfl⟩
              (repeat (first | refine And.intro (by omega) ?_ | refine And.intro ⟨by omega, by omega⟩ ?_))
              refine Exists.intro (j + 1) (And.intro (by omega) (And.intro (by omega) (And.intro (And.intro rfl (And.intro rfl (And.intro rfl (And.intro rfl (And.intro (slotI (wrapS (by omega))) trivial))))) ?_)))
              refine And.intro (And.intro (algR p k U C) rfl) (And.intro (And.intro (rowEq fun _ _ => rfl) rfl) (And.intro (And.intro (rowEq fun q hq => ?_) rfl) trivial))
              show upd1 _ ((j : Int).toNat * 1 + 0) _ q = _
              unfold upd1
              rw [hidx]
              dsimp only
              by_cases h1 : q = j
              · subst h1
                rw [if_pos rfl, if_pos (show q < q + 1 by omega)]
                rfl
              · rw [if_neg h1]
                by_cases h2 : q < j
                · rw [if_pos h2, if_pos (by omega)]
                · rw [if_neg h2, if_neg (by omega)]
        · have hge := of_decide_eq_false h
          obtain rfl : j = n := by omega
          have basis : ∀ (Q : SV → Mem → Prop), (∀ r m, r = SV.ints .u8 8 (unitV i) → m = [] → Q r m) → Spec Try.prog 73 [.int .i64 i] [] Q := fun Q hQ =>
            Spec.mono (l01Basis_s i (by omega)) (by rintro r m ⟨rfl, hm⟩; exact hQ _ _ (by simp only [Int.toNat_natCast]) hm)
          refine Exists.intro 9 (And.intro (by kernel_rfl) ?_)
          (repeat (first | refine And.intro (by omega) ?_ | refine And.intro ⟨by omega, by omega⟩ ?_))
          refine Exists.intro (.ints .u8 8 (unitV i)) (And.intro (And.intro rfl (And.intro rfl (basis _ fun r m h _ => h))) ?_)
          refine ifVC_split (fun hc => ?_) (fun hc => ?_)
          · have hc : allEq 8 (couA p j U C i) (unitV i) = false := by simpa using hc
            exact boolEq (by rw [couL_no (i := i) (by omega) (by simp [couOk, hc])])
          · have hc : allEq 8 (couA p j U C i) (unitV i) = true := by simpa using hc
            (repeat (first | refine And.intro (by omega) ?_ | refine And.intro ⟨by omega, by omega⟩ ?_))
            refine Exists.intro (.ints .u8 8 (unitV i)) (And.intro (And.intro rfl (And.intro rfl (basis _ fun r m h _ => h))) ?_)
            refine ifVC_split (fun hd => ?_) (fun hd => ?_)
            · have hd : allEq 8 (fun q => if q < j then couB p j U C i q else 0) (unitV i) = false := by simpa using hd
              exact boolEq (by rw [couL_no (i := i) (by omega) (by simp [couOk, hd])])
            · have hd : allEq 8 (fun q => if q < j then couB p j U C i q else 0) (unitV i) = true := by simpa using hd
              refine Exists.intro (i + 1) (And.intro ⟨by omega, fun i' hi' => ?_⟩ (And.intro (by omega) (And.intro ?_ ?_)))
              · by_cases hii : i' = i
                · subst hii; simp [couOk, hc, hd]
                · exact hall i' (by omega)
              · exact And.intro rfl (And.intro (slotI (wrapS (by omega))) trivial)
              · exact And.intro (And.intro (algR p j U C) rfl) trivial
    · have hge := of_decide_eq_false h
      obtain rfl : i = n := by omega
      exact boolEq (by rw [couL_yes hall])

/-- whether it is a coalgebra -/
def coB (p n : Int) (U C : Nat → Int) : Bool := algB p n U (dualF C)
theorem coB_not {p n : Int} {U C : Nat → Int} (h : shapeB p n U C = false) : coB p n U C = false := by
  unfold coB algB
  rw [shape_dual, h]; rfl
theorem coB_fault {p : Int} {n : Nat} {U C g : Nat → Int} (hV : Valid p n U (dualF C)) (h : coFaultAt p n C g) : coB p n U C = false := by
  obtain ⟨i, j, k, l, hi, hj, hk, hl, hf, _⟩ := h
  cases hb : coB p n U C with
  | false => rfl
  | true =>
    unfold coB algB at hb
    simp only [Bool.and_eq_true, Int.toNat_natCast] at hb
    have := (assL_co hV).1 hb.2.1 i j k l hi hj hk hl
    rw [hf] at this; cases this
theorem coB_unit {p : Int} {n : Nat} {U C : Nat → Int} (hs : shapeB p n U C = true) (hV : Valid p n U (dualF C)) (h : coAss p n C) : coB p n U C = couL p n U C := by
  have h1 := (assL_co hV).2 h
  unfold coB algB
  rw [shape_dual, hs, Int.toNat_natCast, h1, Bool.true_and, Bool.true_and, Bool.eq_iff_iff, unit_co hV]
  constructor
  · exact couL_yes
  · exact fun hh i hi => List.all_eq_true.1 hh i (List.mem_range.2 hi)

theorem valid_co {p : Int} {n : Nat} {U C : Nat → Int} (hU : isU8 8 U) (hC : isU8 512 C) (hs : shapeB p n U C = true) : Valid p n U (dualF C) := valid_of hU (dual_u8 hC) (by rw [shape_dual]; exact hs)

theorem l02Is_s (p n : Int) (U C : Nat → Int) (hU : isU8 8 U) (hC : isU8 512 C) : Spec Try.prog 45 [algV p n U C] [] (Ret (.bool (coB p n U C))) := by
  refine Spec.ret rfl (Spec.of_vc tabOK tabEq Try.func45 rfl (by kernel_rfl) rfl rfl ?_)
  refine And.intro trivial (Spec.mono (l02Shape_s p n U C hU hC) ?_)
  rintro r m ⟨rfl, rfl⟩
  refine ifVC_split (fun hs => ?_) (fun hs => ?_)
  · exact boolEq (by rw [coB_not (by simpa using hs)])
  have hs : shapeB p n U C = true := by simpa using hs
  have hfb := field_bounds (shape_field hs)
  obtain ⟨n, rfl⟩ : ∃ k : Nat, n = k := ⟨n.toNat, by have := hfb.2; omega⟩
  have hV := valid_co hU hC hs
  have hn := hV.hn
  refine And.intro trivial (Spec.mono (l02Fault_s p n U C hV.hp hn (by have := hfb.2; omega) hC) ?_)
  rintro r m (⟨hass, rfl⟩ | ⟨id, g, hf, rfl, hb⟩)
  · refine And.intro trivial (Spec.mono (l02Counits_s p n U C hV.hp hn hU hC) ?_)
    rintro r m ⟨rfl, rfl⟩
    exact boolEq (by rw [coB_unit hs hV hass])
  · exact boolEq (by rw [coB_fault hV hf])

theorem implIsCo_s (p n : Int) (U C : Nat → Int) (hU : isU8 8 U) (hC : isU8 512 C) : Spec Try.prog 53 [algV p n U C] [] (Ret (.bool (coB p n U C))) := by
  refine Spec.ret rfl (Spec.of_vc tabOK tabEq Try.func53 rfl (by kernel_rfl) rfl rfl ?_)
  refine And.intro trivial (Spec.mono (dualAlgebra_s p n U C) ?_)
  rintro r m ⟨rfl, rfl⟩
  refine And.intro trivial (Spec.mono (isAlgebra_s p n U _ hU (dual_u8 hC)) ?_)
  rintro r m ⟨rfl, rfl⟩
  exact boolEq rfl
end Go.Proofs.Ytcocapkdpbdmdaa
