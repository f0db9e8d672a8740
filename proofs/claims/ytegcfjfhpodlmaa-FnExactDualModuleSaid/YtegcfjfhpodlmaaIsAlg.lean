/- Both checks of algebras, and the law on IsAlgebra. -/
import Derived.Test.YtegcfjfhpodlmaaFault
set_option linter.unusedVariables false
set_option linter.unusedSimpArgs false
set_option maxRecDepth 100000
namespace Go.Proofs.Ytegcfjfhpodlmaa
open M

def assL (p : Int) (n : Nat) (T : Nat → Int) : Bool := (List.range n).all fun i => (List.range n).all fun j => (List.range n).all fun k => okF p T i j k
theorem assL_yes {p : Int} {n : Nat} {T : Nat → Int} (h : assB p n T) : assL p n T = true :=
  List.all_eq_true.2 fun i hi => List.all_eq_true.2 fun j hj => List.all_eq_true.2 fun k hk => h i j k (List.mem_range.1 hi) (List.mem_range.1 hj) (List.mem_range.1 hk)
theorem assL_no {p : Int} {n : Nat} {T g : Nat → Int} (h : faultAt p n T g) : assL p n T = false := by
  obtain ⟨i, j, k, hi, hj, hk, hf, _⟩ := h
  cases hb : assL p n T with
  | false => rfl
  | true =>
    have := List.all_eq_true.1 (List.all_eq_true.1 (List.all_eq_true.1 hb i (List.mem_range.2 hi)) j (List.mem_range.2 hj)) k (List.mem_range.2 hk)
    rw [hf] at this; cases this
def algB (p n : Int) (U T : Nat → Int) : Bool := shapeB p n U T && (assL p n.toNat T && unitB p n.toNat U T)

theorem shape_field {p n : Int} {U T : Nat → Int} (h : shapeB p n U T = true) : fieldB p n = true := by
  unfold shapeB vectorB at h; simp only [Bool.and_eq_true] at h; exact h.1.1

theorem isAlgebra_s (p n : Int) (U T : Nat → Int) (hU : isU8 8 U) (hT : isU8 512 T) : Spec Try.prog 77 [algV p n U T] [] (Ret (.bool (algB p n U T))) := by
  refine Spec.ret rfl (Spec.of_vc tabOK tabEq Try.func77 rfl (by kernel_rfl) rfl rfl ?_)
  refine And.intro trivial (Spec.mono (isShaped_s p n U T hU hT) ?_)
  rintro r m ⟨rfl, rfl⟩
  refine ifVC_split (fun hs => ?_) (fun hs => ?_)
  · obtain ⟨n, rfl⟩ : ∃ k : Nat, n = k := ⟨n.toNat, by have := (field_bounds (shape_field hs)).2; omega⟩
    have hV := valid_of hU hT hs
    refine And.intro trivial (Spec.mono (faultIn_s p n U T hV hU hT) ?_)
    rintro r m (⟨hass, rfl⟩ | ⟨id, g, hf, rfl, hb⟩)
    · refine And.intro trivial (Spec.mono (hasUnit_s p n U T hV hU hT) ?_)
      rintro r m ⟨rfl, rfl⟩
      exact boolEq (by simp [algB, hs, assL_yes hass])
    · exact boolEq (by simp [algB, assL_no hf])
  · exact boolEq (by simp [algB, hs])

def FaultQ2 (p : Int) (n : Nat) (T : Nat → Int) (r : SV) (m : Mem) : Prop :=
  (assB p n T ∧ r = .tcons .nilsl (.tcons (.bool false) .tnil)) ∨ ∃ id g, faultAt p n T g ∧ r = .tcons (.sl id 0 3 3) (.tcons (.bool true) .tnil) ∧ blockOf m id = some (.ints .i64 3 g, 3)
theorem FaultQ2.yes {p : Int} {n : Nat} {T : Nat → Int} {m : Mem} (h : assB p n T) : FaultQ2 p n T (.tcons .nilsl (.tcons (.bool false) .tnil)) m := .inl ⟨h, rfl⟩
theorem FaultQ2.no {p : Int} {n : Nat} {T g : Nat → Int} {m : Mem} {id : Nat} (h : faultAt p n T g) (hb : blockOf m id = some (.ints .i64 3 g, 3)) : FaultQ2 p n T (.tcons (.sl id 0 3 3) (.tcons (.bool true) .tnil)) m := .inr ⟨id, g, h, rfl, hb⟩

theorem unitV_u8 (i n : Nat) : isU8 n (unitV i) := fun j _ => by unfold unitV; split <;> omega

theorem l01Fault_s (p : Int) (n : Nat) (U T : Nat → Int) (hV : Valid p n U T) (hT : isU8 512 T) :
    Spec Try.prog 107 [algV p n U T] [] (FaultQ2 p n T) := by
  have hn := hV.hn
  refine Spec.of_vc tabOK tabEq Try.func107 rfl (by kernel_rfl) rfl rfl ?_
  refine LoopVC.of (fun i : Nat => i ≤ n ∧ ∀ i' j' k', i' < i → j' < n → k' < n → okF p T i' j' k' = true) (fun i => [(1, .ptr 0 [] 0 0), (2, .nilsl), (3, .bool false), (4, .int .i64 i)])
    (fun _ => [some (algV p n U T, 522)]) (fun i => n - i) 0 ⟨by omega, fun i' j' k' h => by omega⟩ ?_ ?_ ?_
  · exact And.intro rfl (And.intro rfl (And.intro rfl (And.intro rfl trivial)))
  · exact And.intro (And.intro (algR p n U T) rfl) trivial
  · rintro i ⟨hi, halli⟩
    refine ifVC_split (fun h => ?_) (fun h => ?_)
    · have hlti := of_decide_eq_true h
      refine LoopVC.of (fun j : Nat => j ≤ n ∧ ∀ j' k', j' < j → k' < n → okF p T i j' k' = true) (fun j => [(1, .ptr 0 [] 0 0), (2, .nilsl), (3, .bool false), (4, .int .i64 i), (5, .int .i64 j)])
        (fun _ => [some (algV p n U T, 522)]) (fun j => n - j) 0 ⟨by omega, fun j' k' h => by omega⟩ ?_ ?_ ?_
      · exact And.intro rfl (And.intro rfl (And.intro rfl (And.intro rfl (And.intro rfl trivial))))
      · exact And.intro (And.intro (algR p n U T) rfl) trivial
      · rintro j ⟨hj, hallj⟩
        refine ifVC_split (fun h => ?_) (fun h => ?_)
        · have hltj := of_decide_eq_true h
          refine LoopVC.of (fun k : Nat => k ≤ n ∧ ∀ k', k' < k → okF p T i j k' = true) (fun k => [(1, .ptr 0 [] 0 0), (2, .nilsl), (3, .bool false), (4, .int .i64 i), (5, .int .i64 j), (6, .int .i64 k)])
            (fun _ => [some (algV p n U T, 522)]) (fun k => n - k) 0 ⟨by omega, fun k' h => by omega⟩ ?_ ?_ ?_
          · exact And.intro rfl (And.intro rfl (And.intro rfl (And.intro rfl (And.intro rfl (And.intro rfl trivial)))))
          · exact And.intro (And.intro (algR p n U T) rfl) trivial
          · rintro k ⟨hk, hallk⟩
            refine ifVC_split (fun h => ?_) (fun h => ?_)
            · have hltk := of_decide_eq_true h
              refine Exists.intro 19 (And.intro (by kernel_rfl) ?_)
              refine And.intro ⟨by omega, by omega⟩ ?_
              refine And.intro ⟨by omega, by omega⟩ ?_
              refine And.intro (by omega) ?_
              refine Exists.intro (.ints .u8 8 (unitV k)) (And.intro (And.intro rfl (And.intro rfl (Spec.mono (l01Basis_s k (by omega)) ?_))) ?_)
              · rintro r m ⟨rfl, _⟩
                simp only [Int.toNat_natCast]
              refine Exists.intro (.ints .u8 8 fun m => timS p n T (vecT T i j) (unitV k) n m % p) (And.intro (And.intro rfl (And.intro rfl ?_)) ?_)
              · refine Spec.mono (l01Times_s p n U T _ _ hV.hp hn hT (fun q hq => hT _ (by omega)) (fun q hq => unitV_u8 k 8 q hq)) ?_
                rintro r m ⟨rfl, _⟩
                simp only [Int.toNat_natCast]
                rfl
              refine Exists.intro (.ints .u8 8 (unitV i)) (And.intro (And.intro rfl (And.intro rfl (Spec.mono (l01Basis_s i (by omega)) ?_))) ?_)
              · rintro r m ⟨rfl, _⟩
                simp only [Int.toNat_natCast]
              refine And.intro ⟨by omega, by omega⟩ ?_
              refine And.intro ⟨by omega, by omega⟩ ?_
              refine And.intro (by omega) ?_
              refine And.intro trivial (Spec.mono (l01Times_s p n U T _ _ hV.hp hn hT (unitV_u8 i 8) (fun q hq => hT _ (by omega))) ?_)
              rintro r m ⟨rfl, rfl⟩
              have hv1 : ∀ a, n ≤ a → a < 8 → vecT T i j a = 0 := fun a h1 h2 => hV.zero i j a (by omega) (by omega) h2 (.inr (.inr h1))
              have hv2 : ∀ a, n ≤ a → a < 8 → vecT T j k a = 0 := fun a h1 h2 => hV.zero j k a (by omega) (by omega) h2 (.inr (.inr h1))
              have hval : allEq 8 (fun m => timS p n T (vecT T i j) (unitV k) n m % p) (fun m => timS p n T (unitV i) (fun q => T (q + ((k : Int).toNat * 8 + ((j : Int).toNat * 64 + 0)))) n m % p) = okF p T i j k := by
                refine allEq_congr (fun m hm => times_unit hV hv1 (by omega) hm) fun m hm => ?_
                rw [Int.toNat_natCast, Int.toNat_natCast]
                exact unit_times hV hv2 (by omega) hm
              refine ifVC_split (fun hc => ?_) (fun hc => ?_)
              · have hc : okF p T i j k = false := by rw [← hval]; simpa using hc
                refine FaultQ2.no (g := upd1 (upd1 (upd1 (fun _ => 0) 0 i) 1 j) 2 k) ?_ ?_
                rotate_left
                · exact rfl
                refine ⟨i, j, k, by omega, by omega, by omega, hc, fun i' j' k' h1 h2 h3 h4 => ?_, rfl, rfl, rfl⟩
                rcases h4 with h4 | ⟨rfl, h4⟩ | ⟨rfl, rfl, h4⟩
                · exact halli i' j' k' h4 h2 h3
                · exact hallj j' k' h4 h3
                · exact hallk k' h4
              · have hc : okF p T i j k = true := by rw [← hval]; simpa using hc
                refine Exists.intro (k + 1) (And.intro ⟨by omega, fun k' hk' => ?_⟩ (And.intro (by omega) (And.intro ?_ ?_)))
                · by_cases hkk : k' = k
                  · subst hkk; exact hc
                  · exact hallk k' (by omega)
                · exact And.intro rfl (And.intro rfl (And.intro rfl (And.intro rfl (And.intro rfl (And.intro (slotI (wrapS (by omega))) trivial)))))
                · exact And.intro (And.intro (algR p n U T) rfl) trivial
            · have hge := of_decide_eq_false h
              refine Exists.intro (j + 1) (And.intro ⟨by omega, fun j' k' hj' hk' => ?_⟩ (And.intro (by omega) (And.intro ?_ ?_)))
              · by_cases hjj : j' = j
                · subst hjj; exact hallk k' (by omega)
                · exact hallj j' k' (by omega) hk'
              · exact And.intro rfl (And.intro rfl (And.intro rfl (And.intro rfl (And.intro (slotI (wrapS (by omega))) trivial))))
              · exact And.intro (And.intro (algR p n U T) rfl) trivial
        · have hge := of_decide_eq_false h
          refine Exists.intro (i + 1) (And.intro ⟨by omega, fun i' j' k' hi' hj' hk' => ?_⟩ (And.intro (by omega) (And.intro ?_ ?_)))
          · by_cases hii : i' = i
            · subst hii; exact hallj j' k' (by omega) hk'
            · exact halli i' j' k' (by omega) hj' hk'
          · exact And.intro rfl (And.intro rfl (And.intro rfl (And.intro (slotI (wrapS (by omega))) trivial)))
          · exact And.intro (And.intro (algR p n U T) rfl) trivial
    · have hge := of_decide_eq_false h
      exact FaultQ2.yes fun i' j' k' h1 h2 h3 => halli i' j' k' (by omega) h2 h3

theorem l01Is_s (p n : Int) (U T : Nat → Int) (hU : isU8 8 U) (hT : isU8 512 T) : Spec Try.prog 90 [algV p n U T] [] (Ret (.bool (algB p n U T))) := by
  refine Spec.ret rfl (Spec.of_vc tabOK tabEq Try.func90 rfl (by kernel_rfl) rfl rfl ?_)
  refine And.intro trivial (Spec.mono (l01Shape_s p n U T hU hT) ?_)
  rintro r m ⟨rfl, rfl⟩
  refine ifVC_split (fun hs => ?_) (fun hs => ?_)
  · exact boolEq (by simp at hs; simp [algB, hs])
  have hs : shapeB p n U T = true := by simpa using hs
  obtain ⟨n, rfl⟩ : ∃ k : Nat, n = k := ⟨n.toNat, by have := (field_bounds (shape_field hs)).2; omega⟩
  have hV := valid_of hU hT hs
  have hn := hV.hn
  refine LoopVC.of (fun i : Nat => i ≤ n ∧ ∀ i', i' < i → unitOk p U T i' = true) (fun i => [(1, .ptr 0 [] 0 0), (3, .int .i64 i)])
    (fun _ => [some (algV p n U T, 522)]) (fun i => n - i) 0 ⟨by omega, fun i' h => by omega⟩ ?_ ?_ ?_
  · exact And.intro rfl (And.intro rfl trivial)
  · exact And.intro (And.intro (algR p n U T) rfl) trivial
  · rintro i ⟨hi, hall⟩
    refine ifVC_split (fun h => ?_) (fun h => ?_)
    · have hlt := of_decide_eq_true h
      have basis : ∀ (Q : SV → Mem → Prop), (∀ r m, r = SV.ints .u8 8 (unitV i) → m = [] → Q r m) → Spec Try.prog 20 [.int .i64 i] [] Q := fun Q hQ =>
        Spec.mono (l01Basis_s i (by omega)) (by rintro r m ⟨rfl, hm⟩; exact hQ _ _ (by simp only [Int.toNat_natCast]) hm)
      have e1 : allEq 8 (fun m => timS p n T U (unitV i) n m % p) (unitV i) = allEq 8 (rightF p T U i) (unitV i) :=
        allEq_congr (fun m hm => times_unit hV (fun a h1 h2 => hV.uzero a h2 h1) (by omega) hm) fun _ _ => rfl
      have e2 : allEq 8 (fun m => timS p n T (unitV i) U n m % p) (unitV i) = allEq 8 (leftF p T i U) (unitV i) :=
        allEq_congr (fun m hm => unit_times hV (fun a h1 h2 => hV.uzero a h2 h1) (by omega) hm) fun _ _ => rfl
      refine Exists.intro 17 (And.intro (by kernel_rfl) ?_)
      refine And.intro (by omega) ?_
      refine Exists.intro (.ints .u8 8 (unitV i)) (And.intro (And.intro rfl (And.intro rfl (basis _ fun r m h _ => h))) ?_)
      refine Exists.intro (.ints .u8 8 fun m => timS p n T U (unitV i) n m % p) (And.intro (And.intro rfl (And.intro rfl ?_)) ?_)
      · refine Spec.mono (l01Times_s p n U T _ _ hV.hp hn hT (fun q hq => hU _ (by omega)) (unitV_u8 i 8)) ?_
        rintro r m ⟨rfl, _⟩
        rfl
      refine Exists.intro (.ints .u8 8 (unitV i)) (And.intro (And.intro rfl (And.intro rfl (basis _ fun r m h _ => h))) ?_)
      refine ifVC_split (fun hc => ?_) (fun hc => ?_)
      · have hc : allEq 8 (rightF p T U i) (unitV i) = false := by rw [← e1]; simpa using hc
        exact boolEq (by simp [algB, unitB_no (U := U) (T := T) (p := p) (n := n) (i := i) (by omega) (by simp [unitOk, hc])])
      · have hc : allEq 8 (rightF p T U i) (unitV i) = true := by rw [← e1]; simpa using hc
        refine Exists.intro (.ints .u8 8 (unitV i)) (And.intro (And.intro rfl (And.intro rfl (basis _ fun r m h _ => h))) ?_)
        refine And.intro (by omega) ?_
        refine Exists.intro (.ints .u8 8 fun m => timS p n T (unitV i) U n m % p) (And.intro (And.intro rfl (And.intro rfl ?_)) ?_)
        · refine Spec.mono (l01Times_s p n U T _ _ hV.hp hn hT (unitV_u8 i 8) (fun q hq => hU _ (by omega))) ?_
          rintro r m ⟨rfl, _⟩
          rfl
        refine And.intro trivial (basis _ ?_)
        rintro r m rfl rfl
        refine ifVC_split (fun hd => ?_) (fun hd => ?_)
        · have hd : allEq 8 (leftF p T i U) (unitV i) = false := by rw [← e2]; simpa using hd
          exact boolEq (by simp [algB, unitB_no (U := U) (T := T) (p := p) (n := n) (i := i) (by omega) (by simp [unitOk, hd])])
        · have hd : allEq 8 (leftF p T i U) (unitV i) = true := by rw [← e2]; simpa using hd
          refine Exists.intro (i + 1) (And.intro ⟨by omega, fun i' hi' => ?_⟩ (And.intro (by omega) (And.intro ?_ ?_)))
          · by_cases hii : i' = i
            · subst hii; simp [unitOk, hc, hd]
            · exact hall i' (by omega)
          · exact And.intro rfl (And.intro (slotI (wrapS (by omega))) trivial)
          · exact And.intro (And.intro (algR p n U T) rfl) trivial
    · have hge := of_decide_eq_false h
      obtain rfl : i = n := by omega
      have hunit := unitB_yes (p := p) (U := U) (T := T) hall
      refine And.intro trivial (Spec.mono (l01Fault_s p i U T hV hT) ?_)
      rintro r m (⟨hass, rfl⟩ | ⟨id, g, hf, rfl, hb⟩)
      · exact boolEq (by simp [algB, hs, assL_yes hass, hunit])
      · exact boolEq (by simp [algB, assL_no hf])

end Go.Proofs.Ytegcfjfhpodlmaa
