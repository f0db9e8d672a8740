/- The program's search for a fault, its check of the unit, and of algebras. -/
import Derived.Test.YtcocapkdpbdmdaaAlgMath
set_option linter.unusedVariables false
set_option linter.unusedSimpArgs false
set_option maxRecDepth 100000
namespace Go.Proofs.Ytcocapkdpbdmdaa
open M

theorem algR (p n : Int) (U T : Nat → Int) : SV.eqv (algV p n U T) (algV p n U T) := And.intro rfl (And.intro rfl (And.intro (rowEq fun _ _ => rfl) (And.intro (rowEq fun _ _ => rfl) rfl)))

/-- the triple that is told -/
def faultAt (p : Int) (n : Nat) (T : Nat → Int) (g : Nat → Int) : Prop :=
  ∃ i j k : Nat, i < n ∧ j < n ∧ k < n ∧ okF p T i j k = false ∧ (∀ i' j' k', i' < n → j' < n → k' < n → (i' < i ∨ (i' = i ∧ j' < j) ∨ (i' = i ∧ j' = j ∧ k' < k)) → okF p T i' j' k' = true) ∧ g 0 = i ∧ g 1 = j ∧ g 2 = k
def FaultQ (p : Int) (n : Nat) (T : Nat → Int) (r : SV) (m : Mem) : Prop :=
  (assB p n T ∧ r = .nilsl) ∨ ∃ id g, faultAt p n T g ∧ r = .sl id 0 3 3 ∧ blockOf m id = some (.ints .i64 3 g, 3)

theorem FaultQ.yes {p : Int} {n : Nat} {T : Nat → Int} {m : Mem} (h : assB p n T) : FaultQ p n T .nilsl m := .inl ⟨h, rfl⟩
theorem FaultQ.no {p : Int} {n : Nat} {T g : Nat → Int} {m : Mem} {id : Nat} (h : faultAt p n T g) (hb : blockOf m id = some (.ints .i64 3 g, 3)) : FaultQ p n T (.sl id 0 3 3) m := .inr ⟨id, g, h, rfl, hb⟩

theorem faultIn_s (p : Int) (n : Nat) (U T : Nat → Int) (hV : Valid p n U T) (hU : isU8 8 U) (hT : isU8 512 T) :
    Spec Try.prog 88 [algV p n U T] [] (FaultQ p n T) := by
  have hn := hV.hn
  refine Spec.of_vc tabOK tabEq Try.func88 rfl (by kernel_rfl) rfl rfl ?_
  refine And.intro (by omega) ?_
  refine And.intro trivial (Spec.mono (flipTable_s _) ?_)
  rintro r m ⟨rfl, rfl⟩
  refine And.intro (by omega) ?_
  refine LoopVC.of (fun i : Nat => i ≤ n ∧ ∀ i' j' k', i' < i → j' < n → k' < n → okF p T i' j' k' = true) (fun i => [(1, .ptr 0 [] 0 0), (3, .ptr 1 [] 0 0), (12, .int .i64 n), (13, .int .i64 i)])
    (fun _ => [some (algV p n U T, 522), some (.ints .u8 512 (flipF T), 512)]) (fun i => n - i) 0 ⟨by omega, fun i' j' k' h => by omega⟩ ?_ ?_ ?_
  · exact And.intro rfl (And.intro rfl (And.intro rfl (And.intro rfl trivial)))
  · exact And.intro (And.intro (algR p n U T) rfl) (And.intro (And.intro (rowEq fun q hq => by show updR _ 0 512 _ q = _; simp [updR, hq]) rfl) trivial)
  · rintro i ⟨hi, halli⟩
    refine ifVC_split (fun h => ?_) (fun h => ?_)
    · have hlti := of_decide_eq_true h
      refine LoopVC.of (fun j : Nat => j ≤ n ∧ ∀ j' k', j' < j → k' < n → okF p T i j' k' = true) (fun j => [(1, .ptr 0 [] 0 0), (3, .ptr 1 [] 0 0), (4, .int .i64 i), (12, .int .i64 n), (13, .int .i64 i), (17, .int .i64 n), (18, .int .i64 j)])
        (fun _ => [some (algV p n U T, 522), some (.ints .u8 512 (flipF T), 512)]) (fun j => n - j) 0 ⟨by omega, fun j' k' h => by omega⟩ ?_ ?_ ?_
      · exact And.intro rfl (And.intro rfl (And.intro rfl (And.intro rfl (And.intro rfl (And.intro rfl (And.intro rfl trivial))))))
      · exact And.intro (And.intro (algR p n U T) rfl) (And.intro (And.intro (rowEq fun _ _ => rfl) rfl) trivial)
      · rintro j ⟨hj, hallj⟩
        refine ifVC_split (fun h => ?_) (fun h => ?_)
        · have hltj := of_decide_eq_true h
          refine LoopVC.of (fun k : Nat => k ≤ n ∧ ∀ k', k' < k → okF p T i j k' = true) (fun k => [(1, .ptr 0 [] 0 0), (3, .ptr 1 [] 0 0), (4, .int .i64 i), (5, .int .i64 j), (12, .int .i64 n), (13, .int .i64 i), (17, .int .i64 n), (18, .int .i64 j), (22, .int .i64 n), (23, .int .i64 k)])
            (fun _ => [some (algV p n U T, 522), some (.ints .u8 512 (flipF T), 512)]) (fun k => n - k) 0 ⟨by omega, fun k' h => by omega⟩ ?_ ?_ ?_
          · exact And.intro rfl (And.intro rfl (And.intro rfl (And.intro rfl (And.intro rfl (And.intro rfl (And.intro rfl (And.intro rfl (And.intro rfl (And.intro rfl trivial)))))))))
          · exact And.intro (And.intro (algR p n U T) rfl) (And.intro (And.intro (rowEq fun _ _ => rfl) rfl) trivial)
          · rintro k ⟨hk, hallk⟩
            refine ifVC_split (fun h => ?_) (fun h => ?_)
            · have hltk := of_decide_eq_true h
              refine Exists.intro 13 (And.intro (by kernel_rfl) ?_)
              refine And.intro ⟨by omega, by omega⟩ ?_
              refine And.intro (by omega) ?_
              refine And.intro ⟨by omega, by omega⟩ ?_
              refine And.intro ⟨by omega, by omega⟩ ?_
              refine And.intro (by omega) ?_
              refine Exists.intro (.ints .u8 8 (rightF p T (vecT T i j) k)) (And.intro (And.intro rfl (And.intro rfl ?_)) ?_)
              · refine Spec.mono (apply_s p _ _ hV.hp (fun q hq => hT _ (by omega)) (fun q hq => hT _ (by omega))) ?_
                rintro r m ⟨rfl, _⟩
                simp only [Int.toNat_natCast]
                rfl
              refine And.intro (by omega) ?_
              refine Exists.intro 14 (And.intro (by kernel_rfl) ?_)
              refine And.intro (by omega) ?_
              refine And.intro ⟨by omega, by omega⟩ ?_
              refine And.intro (by omega) ?_
              refine And.intro ⟨by omega, by omega⟩ ?_
              refine And.intro ⟨by omega, by omega⟩ ?_
              refine And.intro (by omega) ?_
              refine Exists.intro (.ints .u8 8 (leftF p T i (vecT T j k))) (And.intro (And.intro rfl (And.intro rfl ?_)) ?_)
              · refine Spec.mono (apply_s p _ _ hV.hp (fun q hq => hT _ (by omega)) (fun q hq => hT _ (by omega))) ?_
                rintro r m ⟨rfl, _⟩
                simp only [Int.toNat_natCast]
                rfl
              have hval : allEq 8 (fun q => updR (fun _ => 0) 0 8 (rightF p T (vecT T i j) k) (q + 0)) (leftF p T i (vecT T j k)) = okF p T i j k :=
                allEq_congr (fun q hq => by simp [updR, hq]) fun _ _ => rfl
              refine ifVC_split (fun hc => ?_) (fun hc => ?_)
              · have hc : okF p T i j k = false := by rw [← hval]; simpa using hc
                refine FaultQ.no (g := upd1 (upd1 (upd1 (fun _ => 0) 0 i) 1 j) 2 k) ?_ ?_
                rotate_left
                · exact rfl
                refine ⟨i, j, k, by omega, by omega, by omega, hc, fun i' j' k' h1 h2 h3 h4 => ?_, rfl, rfl, rfl⟩
                rcases h4 with h4 | ⟨rfl, h4⟩ | ⟨rfl, rfl, h4⟩
                · exact halli i' j' k' h4 h2 h3
                · exact hallj j' k' h4 h3
                · exact hallk k' h4
              · have hc : okF p T i j k = true := by rw [← hval]; simpa using hc
                refine Exists.intro (k + 1) (And.intro ⟨by omega, fun k' hk' => ?_⟩ (And.intro (by omega) (And.intro ?_ ?_)))
                · by_cases hkk : k' = k
                  · subst hkk; exact hc
                  · exact hallk k' (by omega)
                · exact And.intro rfl (And.intro rfl (And.intro rfl (And.intro rfl (And.intro rfl (And.intro rfl (And.intro rfl (And.intro rfl (And.intro rfl (And.intro (slotI (wrapS (by omega))) trivial)))))))))
                · exact And.intro (And.intro (algR p n U T) rfl) (And.intro (And.intro (rowEq fun _ _ => rfl) rfl) trivial)
            · have hge := of_decide_eq_false h
              refine Exists.intro (j + 1) (And.intro ⟨by omega, fun j' k' hj' hk' => ?_⟩ (And.intro (by omega) (And.intro ?_ ?_)))
              · by_cases hjj : j' = j
                · subst hjj; exact hallk k' (by omega)
                · exact hallj j' k' (by omega) hk'
              · exact And.intro rfl (And.intro rfl (And.intro rfl (And.intro rfl (And.intro rfl (And.intro rfl (And.intro (slotI (wrapS (by omega))) trivial))))))
              · exact And.intro (And.intro (algR p n U T) rfl) (And.intro (And.intro (rowEq fun _ _ => rfl) rfl) trivial)
        · have hge := of_decide_eq_false h
          refine Exists.intro (i + 1) (And.intro ⟨by omega, fun i' j' k' hi' hj' hk' => ?_⟩ (And.intro (by omega) (And.intro ?_ ?_)))
          · by_cases hii : i' = i
            · subst hii; exact hallj j' k' (by omega) hk'
            · exact halli i' j' k' (by omega) hj' hk'
          · exact And.intro rfl (And.intro rfl (And.intro rfl (And.intro (slotI (wrapS (by omega))) trivial)))
          · exact And.intro (And.intro (algR p n U T) rfl) (And.intro (And.intro (rowEq fun _ _ => rfl) rfl) trivial)
    · have hge := of_decide_eq_false h
      exact FaultQ.yes fun i' j' k' h1 h2 h3 => halli i' j' k' (by omega) h2 h3

def unitB (p : Int) (n : Nat) (U T : Nat → Int) : Bool := (List.range n).all (unitOk p U T)
theorem unitB_no {p : Int} {n : Nat} {U T : Nat → Int} {i : Nat} (hi : i < n) (h : unitOk p U T i = false) : unitB p n U T = false := by
  cases hb : unitB p n U T with
  | false => rfl
  | true => have := List.all_eq_true.1 hb i (List.mem_range.2 hi); rw [h] at this; cases this
theorem unitB_yes {p : Int} {n : Nat} {U T : Nat → Int} (h : ∀ i, i < n → unitOk p U T i = true) : unitB p n U T = true := List.all_eq_true.2 fun i hi => h i (List.mem_range.1 hi)

theorem hasUnit_s (p : Int) (n : Nat) (U T : Nat → Int) (hV : Valid p n U T) (hU : isU8 8 U) (hT : isU8 512 T) :
    Spec Try.prog 89 [algV p n U T] [] (Ret (.bool (unitB p n U T))) := by
  have hn := hV.hn
  refine Spec.ret rfl (Spec.of_vc tabOK tabEq Try.func89 rfl (by kernel_rfl) rfl rfl ?_)
  refine And.intro (by omega) ?_
  refine And.intro trivial (Spec.mono (flipTable_s _) ?_)
  rintro r m ⟨rfl, rfl⟩
  refine And.intro (by omega) ?_
  refine LoopVC.of (fun i : Nat => i ≤ n ∧ ∀ i', i' < i → unitOk p U T i' = true) (fun i => [(1, .ptr 0 [] 0 0), (3, .ptr 1 [] 0 0), (10, .int .i64 n), (11, .int .i64 i)])
    (fun _ => [some (algV p n U T, 522), some (.ints .u8 512 (flipF T), 512)]) (fun i => n - i) 0 ⟨by omega, fun i' h => by omega⟩ ?_ ?_ ?_
  · exact And.intro rfl (And.intro rfl (And.intro rfl (And.intro rfl trivial)))
  · exact And.intro (And.intro (algR p n U T) rfl) (And.intro (And.intro (rowEq fun q hq => by show updR _ 0 512 _ q = _; simp [updR, hq]) rfl) trivial)
  · rintro i ⟨hi, hall⟩
    refine ifVC_split (fun h => ?_) (fun h => ?_)
    · have hlt := of_decide_eq_true h
      refine And.intro trivial (Spec.mono (basisVector_s i (by omega)) ?_)
      rintro r m ⟨rfl, rfl⟩
      refine And.intro (by omega) ?_
      refine Exists.intro 21 (And.intro (by kernel_rfl) ?_)
      refine And.intro ⟨by omega, by omega⟩ ?_
      refine And.intro (by omega) ?_
      refine And.intro (by omega) ?_
      refine Exists.intro (.ints .u8 8 (rightF p T U i)) (And.intro (And.intro rfl (And.intro rfl ?_)) ?_)
      · refine Spec.mono (apply_s p _ _ hV.hp (fun q hq => hT _ (by omega)) (fun q hq => hU _ (by omega))) ?_
        rintro r m ⟨rfl, _⟩
        simp only [Int.toNat_natCast]
        rfl
      refine And.intro (by omega) ?_
      have hval : allEq 8 (rightF p T U i) (fun q => updR (fun _ => 0) 0 8 (unitV (i : Int).toNat) (q + 0)) = allEq 8 (rightF p T U i) (unitV i) :=
        allEq_congr (fun _ _ => rfl) fun q hq => by simp [updR, hq]
      refine ifVC_split (fun hc => ?_) (fun hc => ?_)
      · have hc : allEq 8 (rightF p T U i) (unitV i) = false := by rw [← hval]; simpa using hc
        exact boolEq (by rw [unitB_no (i := i) (by omega) (by simp [unitOk, hc])])
      · have hc : allEq 8 (rightF p T U i) (unitV i) = true := by rw [← hval]; simpa using hc
        refine And.intro ⟨by omega, by omega⟩ ?_
        refine And.intro (by omega) ?_
        refine And.intro (by omega) ?_
        refine Exists.intro (.ints .u8 8 (leftF p T i U)) (And.intro (And.intro rfl (And.intro rfl ?_)) ?_)
        · refine Spec.mono (apply_s p _ _ hV.hp (fun q hq => hT _ (by omega)) (fun q hq => hU _ (by omega))) ?_
          rintro r m ⟨rfl, _⟩
          simp only [Int.toNat_natCast]
          rfl
        refine And.intro (by omega) ?_
        have hval2 : allEq 8 (leftF p T i U) (fun q => updR (fun _ => 0) 0 8 (unitV (i : Int).toNat) (q + 0)) = allEq 8 (leftF p T i U) (unitV i) :=
          allEq_congr (fun _ _ => rfl) fun q hq => by simp [updR, hq]
        refine ifVC_split (fun hd => ?_) (fun hd => ?_)
        · have hd : allEq 8 (leftF p T i U) (unitV i) = false := by rw [← hval2]; simpa using hd
          exact boolEq (by rw [unitB_no (i := i) (by omega) (by simp [unitOk, hd])])
        · have hd : allEq 8 (leftF p T i U) (unitV i) = true := by rw [← hval2]; simpa using hd
          refine Exists.intro (i + 1) (And.intro ⟨by omega, fun i' hi' => ?_⟩ (And.intro (by omega) (And.intro ?_ ?_)))
          · by_cases hii : i' = i
            · subst hii; simp [unitOk, hc, hd]
            · exact hall i' (by omega)
          · exact And.intro rfl (And.intro rfl (And.intro rfl (And.intro (slotI (wrapS (by omega))) trivial)))
          · exact And.intro (And.intro (algR p n U T) rfl) (And.intro (And.intro (rowEq fun _ _ => rfl) rfl) trivial)
    · have hge := of_decide_eq_false h
      obtain rfl : i = n := by omega
      exact boolEq (by rw [unitB_yes hall])
end Go.Proofs.Ytcocapkdpbdmdaa
