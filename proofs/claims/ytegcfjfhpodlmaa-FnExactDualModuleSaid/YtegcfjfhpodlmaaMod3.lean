/- Modules of a Hopf algebra: what the model asks of them, and lists of them on both sides. -/
import Derived.Test.YtegcfjfhpodlmaaMod2
set_option linter.unusedVariables false
set_option linter.unusedSimpArgs false
set_option maxRecDepth 100000
set_option maxHeartbeats 1000000
namespace Go.Proofs.Ytegcfjfhpodlmaa
open M

theorem tabCB_no {p c n : Int} {T : Nat → Int} {i : Nat} (hi : i < 8) (h : rowCB p c n T i = false) : tabCB p c n T = false := by
  unfold tabCB; rw [all8_no (i := i) hi h]
theorem rows_no {p : Int} {n d : Nat} {U T A : Nat → Int} (hn : n ≤ 8) (h : ModP p n d A) {k : Nat} (hk : k < d) (hb : rowKB p n U T A k = false) : keepB p n d U T A = false := by
  rw [keep_rows hn h]
  cases hc : (List.range d).all (rowKB p n U T A) with
  | false => rfl
  | true => have := List.all_eq_true.1 hc k (List.mem_range.2 hk); rw [hb] at this; cases this

theorem l06Holds_s (p : Int) (n : Nat) (d : Int) (U T Z C S A : Nat → Int) (hV : HV p n U T Z C S) (hpr : primeB p = true) (hA : isU8 512 A) :
    Spec Try.prog 36 [hopV p n U T Z C S, modV d A] [] (Ret (.bool (mdlB p n d U T A))) := by
  have hn := hV.a.hn
  have hp := hV.a.hp
  refine Spec.ret rfl (Spec.of_vc tabOK tabEq Try.func36 rfl (by kernel_rfl) rfl rfl ?_)
  refine And.intro trivial (Spec.mono (l01In_s d 1 8) ?_)
  rintro r m ⟨rfl, rfl⟩
  refine ifVC_split (fun hd => ?_) (fun hd => ?_)
  · have hd : (decide (1 ≤ d) && decide (d ≤ 8)) = false := by simpa only [Bool.not_eq_true'] using hd
    exact boolEq (by unfold mdlB fieldB; rw [hpr, hd]; rfl)
  have hd : (decide (1 ≤ d) && decide (d ≤ 8)) = true := by simpa only [Bool.not_eq_false'] using hd
  have hf : fieldB p d = true := by unfold fieldB; rw [hpr, hd]; rfl
  simp only [Bool.and_eq_true, decide_eq_true_eq] at hd
  obtain ⟨d, rfl⟩ : ∃ k : Nat, d = k := ⟨d.toNat, by omega⟩
  have hd8 : d ≤ 8 := by omega
  refine LoopVC.of (fun i : Nat => i ≤ 8 ∧ ∀ j, j < i → rowCB p n d A j = true) (fun i => [(2, .ptr 0 [] 0 0), (3, .ptr 1 [] 0 0), (5, .int .i64 i)]) (fun _ => [some (hopV p n U T Z C S, 1106), some (modV d A, 513)]) (fun i => 8 - i) 0 ⟨by omega, fun j h => by omega⟩ ?_ ?_ ?_
  · exact (And.intro rfl (And.intro rfl (And.intro rfl (trivial))))
  · exact And.intro (And.intro (hopR p n U T Z C S) rfl) (And.intro (And.intro (modR d A) rfl) trivial)
  · rintro i ⟨hi, hall⟩
    refine ifVC_split (fun h => ?_) (fun h => ?_)
    · have hlt := of_decide_eq_true h
      have hidx : (i : Int).toNat = i := by omega
      have step : rowCB p n d A i = true → ∀ (s : Slots) (m : Mem), eqvO (lk s 2) (.ptr 0 [] 0 0) → eqvO (lk s 3) (.ptr 1 [] 0 0) → eqvO (lk s 5) (.int .i64 (IntKind.i64.wrap ((i : Int) + 1))) → memCut m [some (hopV p n U T Z C S, 1106), some (modV d A, 513)] →
          ∃ x' : Nat, (x' ≤ 8 ∧ ∀ j, j < x' → rowCB p n d A j = true) ∧ 8 - x' < 8 - i ∧ subL [(2, .ptr 0 [] 0 0), (3, .ptr 1 [] 0 0), (5, .int .i64 x')] s ∧ memCut m [some (hopV p n U T Z C S, 1106), some (modV d A, 513)] := fun he s m h2 h3 h5 hm =>
        ⟨i + 1, ⟨by omega, fun j hj => by
          by_cases hji : j = i
          · subst hji; exact he
          · exact hall j (by omega)⟩, by omega, ⟨h2, h3, by rw [wrapS (by omega)] at h5; exact h5, trivial⟩, hm⟩
      refine Exists.intro 23 (And.intro (by kernel_rfl) ?_)
      (repeat (first | refine And.intro (by omega) ?_ | refine And.intro ⟨by omega, by omega⟩ ?_))
      refine Exists.intro (.bool (linB p d d (partF A 64 i))) (And.intro (And.intro rfl (And.intro rfl ?_)) ?_)
      · rw [row_is A i hidx]
        exact Spec.mono (l01Linear_s p d _ (part_u8 hA (by omega))) fun r m h => h.1
      refine ifVC_split (fun hv => ?_) (fun hv => ?_)
      · have hv : linB p d d (partF A 64 i) = false := by simpa using hv
        exact boolEq (by unfold mdlB; rw [tabCB_no (i := i) (by omega) (by unfold rowCB; rw [hv]; rfl)]; simp)
      · have hv : linB p d d (partF A 64 i) = true := by simpa using hv
        refine ifVC_split (fun hb => ?_) (fun hb => ?_)
        · have hb := of_decide_eq_true hb
          (repeat (first | refine And.intro (by omega) ?_ | refine And.intro ⟨by omega, by omega⟩ ?_))
          have hq : allEq 64 (fun q => A (q + ((i : Int).toNat * 64 + 0))) (fun _ => 0) = allEq 64 (partF A 64 i) (fun _ => 0) := by rw [row_is A i hidx]
          refine ifVC_split (fun hc => ?_) (fun hc => ?_)
          · have hc : allEq 64 (partF A 64 i) (fun _ => 0) = false := by rw [← hq]; simpa using hc
            exact boolEq (by unfold mdlB; rw [tabCB_no (i := i) (by omega) (by unfold rowCB; rw [hv, hc]; simp; omega)]; simp)
          · have hc : allEq 64 (partF A 64 i) (fun _ => 0) = true := by rw [← hq]; simpa using hc
            exact step (by unfold rowCB; rw [hv, hc]; simp) _ _ rfl rfl rfl (And.intro (And.intro (hopR p n U T Z C S) rfl) (And.intro (And.intro (modR d A) rfl) trivial))
        · have hb := of_decide_eq_false hb
          exact step (by unfold rowCB; rw [hv]; simp; left; omega) _ _ rfl rfl rfl (And.intro (And.intro (hopR p n U T Z C S) rfl) (And.intro (And.intro (modR d A) rfl) trivial))
    · have hge := of_decide_eq_false h
      obtain rfl : i = 8 := by omega
      have htab : tabCB p n d A = true := List.all_eq_true.2 fun j hj => hall j (List.mem_range.1 hj)
      have hM : ModP p n d A := mod_of hA hf htab
      have hB : mdlB p n d U T A = keepB p n d U T A := by unfold mdlB; rw [hf, htab]; simp
      have huz : ∀ i, n ≤ i → i < 8 → U i = 0 := fun i h1 h2 => hV.a.uzero i h2 h1
      have hvz : ∀ i j, i < 8 → j < 8 → ∀ k, n ≤ k → k < 8 → vecT T i j k = 0 := fun i j hi hj k h1 h2 => hV.a.zero i j k hi hj h2 (.inr (.inr h1))
      refine LoopVC.of (fun k : Nat => k ≤ d ∧ ∀ k', k' < k → rowKB p n U T A k' = true) (fun k => [(2, .ptr 0 [] 0 0), (3, .ptr 1 [] 0 0), (6, .int .i64 k)]) (fun _ => [some (hopV p n U T Z C S, 1106), some (modV d A, 513)]) (fun k => d - k) 0 ⟨by omega, fun j h => by omega⟩ ?_ ?_ ?_
      · exact (And.intro rfl (And.intro rfl (And.intro rfl (trivial))))
      · exact And.intro (And.intro (hopR p n U T Z C S) rfl) (And.intro (And.intro (modR d A) rfl) trivial)
      · rintro k ⟨hk, hrows⟩
        refine ifVC_split (fun h => ?_) (fun h => ?_)
        · have hlt := of_decide_eq_true h
          have hkdx : (k : Int).toNat = k := by omega
          refine And.intro trivial (Spec.mono (l01Basis_s k (by omega)) ?_)
          rintro r m ⟨rfl, rfl⟩
          (repeat (first | refine And.intro (by omega) ?_ | refine And.intro ⟨by omega, by omega⟩ ?_))
          refine Exists.intro 7 (And.intro (by kernel_rfl) ?_)
          (repeat (first | refine And.intro (by omega) ?_ | refine And.intro ⟨by omega, by omega⟩ ?_))
          have hunit : ∀ j, j < 8 → updR (fun _ => 0) 0 8 (unitV (k : Int).toNat) (j + 0) = unitV k j := fun j hj => by rw [hkdx]; simp [updR, hj]
          have hu8 : isU8 8 (fun j => updR (fun _ => 0) 0 8 (unitV (k : Int).toNat) (j + 0)) := fun j hj => by have := unitV_u8 k 8 j hj; rw [← hunit j hj] at this; exact this
          have hact : ∀ (v : Nat → Int), (∀ i, n ≤ i → i < 8 → v i = 0) → ∀ j, j < 8 → timS p d A v (fun j => updR (fun _ => 0) 0 8 (unitV (k : Int).toNat) (j + 0)) n j % p = partF (leftT p A v) 8 k j := fun v hz j hj => by
            rw [act_eq hn hd8 hz (fun i h1 h2 => by rw [hunit i h2]; unfold unitV; rw [if_neg (by omega)]) hj, prodF_congr (v' := v) (w' := unitV k) (fun _ _ => rfl) hunit, prodF_unit A v (by omega)]
            unfold partF
            rw [Nat.add_comm j (k * 8)]
            unfold leftT rightF
            rw [Int.emod_emod]
          refine Exists.intro (.ints .u8 8 fun j => timS p d A U (fun j => updR (fun _ => 0) 0 8 (unitV (k : Int).toNat) (j + 0)) n j % p) (And.intro (And.intro rfl (And.intro rfl (Spec.mono (l06Act_s p n d U T Z C S A _ _ hp hn hd8 hA (fun j hj => hV.hU _ (by omega)) hu8) fun r m h => h.1))) ?_)
          (repeat (first | refine And.intro (by omega) ?_ | refine And.intro ⟨by omega, by omega⟩ ?_))
          have e1 : allEq 8 (fun j => timS p d A U (fun j => updR (fun _ => 0) 0 8 (unitV (k : Int).toNat) (j + 0)) n j % p) (fun j => updR (fun _ => 0) 0 8 (unitV (k : Int).toNat) (j + 0)) = allEq 8 (partF (leftT p A U) 8 k) (unitV k) := allEq_congr (hact U huz) hunit
          refine ifVC_split (fun hc => ?_) (fun hc => ?_)
          · have hc : allEq 8 (partF (leftT p A U) 8 k) (unitV k) = false := by rw [← e1]; simpa using hc
            exact boolEq (by rw [hB, rows_no hn hM (k := k) (by omega) (by unfold rowKB; rw [hc]; rfl)])
          have hcu : allEq 8 (partF (leftT p A U) 8 k) (unitV k) = true := by rw [← e1]; simpa using hc
          refine LoopVC.of (fun i : Nat => i ≤ n ∧ ∀ i' j, i' < i → j < n → rowIJ p T A k i' j = true) (fun i => [(2, .ptr 0 [] 0 0), (3, .ptr 1 [] 0 0), (6, .int .i64 k), (7, .ptr 2 [] 0 0), (8, .int .i64 i)]) (fun _ => [some (hopV p n U T Z C S, 1106), some (modV d A, 513), some (.ints .u8 8 (unitV k), 8)]) (fun i => n - i) 0 ⟨by omega, fun i' j h => by omega⟩ ?_ ?_ ?_
          · exact (And.intro rfl (And.intro rfl (And.intro rfl (And.intro rfl (And.intro rfl (trivial))))))
          · exact And.intro (And.intro (hopR p n U T Z C S) rfl) (And.intro (And.intro (modR d A) rfl) (And.intro (And.intro (rowEq fun j hj => hunit j hj) rfl) trivial))
          · rintro i ⟨hi, hall1⟩
            refine ifVC_split (fun h => ?_) (fun h => ?_)
            · have hlt1 := of_decide_eq_true h
              have hidx : (i : Int).toNat = i := by omega
              refine LoopVC.of (fun j : Nat => j ≤ n ∧ ∀ j', j' < j → rowIJ p T A k i j' = true) (fun j => [(2, .ptr 0 [] 0 0), (3, .ptr 1 [] 0 0), (6, .int .i64 k), (7, .ptr 2 [] 0 0), (8, .int .i64 i), (9, .int .i64 j)]) (fun _ => [some (hopV p n U T Z C S, 1106), some (modV d A, 513), some (.ints .u8 8 (unitV k), 8)]) (fun j => n - j) 0 ⟨by omega, fun j' h => by omega⟩ ?_ ?_ ?_
              · exact (And.intro rfl (And.intro rfl (And.intro rfl (And.intro rfl (And.intro rfl (And.intro rfl (trivial)))))))
              · exact And.intro (And.intro (hopR p n U T Z C S) rfl) (And.intro (And.intro (modR d A) rfl) (And.intro (And.intro (rowEq fun _ _ => rfl) rfl) trivial))
              · rintro j ⟨hj, hall2⟩
                refine ifVC_split (fun h => ?_) (fun h => ?_)
                · have hlt2 := of_decide_eq_true h
                  have hjdx : (j : Int).toNat = j := by omega
                  refine Exists.intro 25 (And.intro (by kernel_rfl) ?_)
                  (repeat (first | refine And.intro (by omega) ?_ | refine And.intro ⟨by omega, by omega⟩ ?_))
                  refine Exists.intro (.ints .u8 8 fun y => timS p d A (vecT T i j) (unitV k) n y % p) (And.intro (And.intro rfl (And.intro rfl ?_)) ?_)
                  · rw [vec_is T i j hidx hjdx]
                    exact Spec.mono (l06Act_s p n d U T Z C S A _ _ hp hn hd8 hA (vecT_u8 hV.hT (by omega) (by omega)) (unitV_u8 k 8)) fun r m h => h.1
                  (repeat (first | refine And.intro (by omega) ?_ | refine And.intro ⟨by omega, by omega⟩ ?_))
                  refine Exists.intro (.ints .u8 8 fun y => linS (partF A 64 i) (vecT A j k) d y % p) (And.intro (And.intro rfl (And.intro rfl ?_)) ?_)
                  · rw [row_is A i hidx, vec_is A j k hjdx hkdx]
                    exact Spec.mono (l01Apply_s p d _ _ hp hd8 (part_u8 hA (by omega)) (vecT_u8 hA (by omega) (by omega))) fun r m h => h.1
                  have e2 : allEq 8 (fun y => timS p d A (vecT T i j) (unitV k) n y % p) (fun y => linS (partF A 64 i) (vecT A j k) d y % p) = rowIJ p T A k i j := by
                    refine allEq_congr (fun y hy => ?_) fun y hy => ?_
                    · rw [act_unit hn hd8 (hvz i j (by omega) (by omega)) (by omega) hy]
                      unfold partF
                      rw [Nat.add_comm]
                    · unfold partF thenF
                      rw [show (y + k * 8) / 8 = k by omega, show (y + k * 8) % 8 = y by omega, ← linS_cut (n := d) 8 hd8 fun a h1 h2 => hM.zero j k a (by omega) (by omega) h2 (.inr (.inr h1))]
                      refine congrArg (· % p) (linS_congr 8 fun a ha => ?_)
                      rw [show vecT A j k a = partF (fun j_1 => A (j_1 + j * 64)) 8 k a by unfold vecT partF; dsimp only; rw [Nat.add_assoc]]
                  refine ifVC_split (fun hc2 => ?_) (fun hc2 => ?_)
                  · have hc2 : rowIJ p T A k i j = false := by rw [← e2]; simpa using hc2
                    exact boolEq (by rw [hB, rows_no hn hM (k := k) (by omega) (by unfold rowKB; rw [all2_no (i := i) (j := j) (by omega) (by omega) hc2]; simp)])
                  · have hc2 : rowIJ p T A k i j = true := by rw [← e2]; simpa using hc2
                    refine Exists.intro (j + 1) (And.intro ⟨by omega, fun j' hj' => ?_⟩ (And.intro (by omega) (And.intro (And.intro rfl (And.intro rfl (And.intro rfl (And.intro rfl (And.intro rfl (And.intro (slotI (wrapS (by omega))) trivial)))))) (And.intro (And.intro (hopR p n U T Z C S) rfl) (And.intro (And.intro (modR d A) rfl) (And.intro (And.intro (rowEq fun _ _ => rfl) rfl) trivial))))))
                    by_cases hjj : j' = j
                    · subst hjj; exact hc2
                    · exact hall2 j' (by omega)
                · have hge := of_decide_eq_false h
                  obtain rfl : j = n := by omega
                  refine Exists.intro (i + 1) (And.intro ⟨by omega, fun i' j' hi' hj' => ?_⟩ (And.intro (by omega) (And.intro (And.intro rfl (And.intro rfl (And.intro rfl (And.intro rfl (And.intro (slotI (wrapS (by omega))) trivial))))) (And.intro (And.intro (hopR p j U T Z C S) rfl) (And.intro (And.intro (modR d A) rfl) (And.intro (And.intro (rowEq fun _ _ => rfl) rfl) trivial))))))
                  by_cases hii : i' = i
                  · subst hii; exact hall2 j' hj'
                  · exact hall1 i' j' (by omega) hj'
            · have hge := of_decide_eq_false h
              obtain rfl : i = n := by omega
              refine Exists.intro (k + 1) (And.intro ⟨by omega, fun k' hk' => ?_⟩ (And.intro (by omega) (And.intro (And.intro rfl (And.intro rfl (And.intro (slotI (wrapS (by omega))) trivial))) (And.intro (And.intro (hopR p i U T Z C S) rfl) (And.intro (And.intro (modR d A) rfl) trivial)))))
              by_cases hkk : k' = k
              · subst hkk
                unfold rowKB
                rw [hcu, all2_yes hall1]
                rfl
              · exact hrows k' (by omega)
        · have hge := of_decide_eq_false h
          obtain rfl : k = d := by omega
          refine boolEq ?_
          rw [hB, keep_rows hn hM]
          symm
          exact List.all_eq_true.2 fun k' hk' => hrows k' (List.mem_range.1 hk')

section
variable (p n : Int) (U T Z C S : Nat → Int) (hU : isU8 8 U) (hT : isU8 512 T) (hZ : isU8 8 Z) (hC : isU8 512 C) (hS : isU8 64 S)
include hU hT hZ hC hS

/-- a Hopf algebra and a module of it -/
def hmB (p n : Int) (U T Z C S : Nat → Int) (d : Int) (A : Nat → Int) : Bool := hopB p n U T Z C S && mdlB p n d U T A

theorem hop_valid (h : hopB p n U T Z C S = true) : ∃ k : Nat, n = k ∧ HV p k U T Z C S ∧ primeB p = true := by
  unfold hopB at h
  simp only [Bool.and_eq_true] at h
  obtain ⟨k, hk, hV⟩ := hsh_valid hU hT hZ hC hS h.1
  refine ⟨k, hk, hV, ?_⟩
  have := h.1
  unfold hshB at this
  simp only [Bool.and_eq_true] at this
  have hf := shape_field this.1
  unfold fieldB at hf
  simp only [Bool.and_eq_true] at hf
  exact hf.1

/-- one round of the program's check, at a module that lies at a place -/
theorem areModules1_s (d : Int) (A : Nat → Int) (hA : isU8 512 A) :
    Spec Try.prog 25 [hopV p n U T Z C S, .sl 0 0 1 1] [some (.pair (modV d A) .unit, 513)] (fun r m => r = .bool (hmB p n U T Z C S d A) ∧ m = [some (.pair (modV d A) .unit, 513)]) := by
  have mR : SV.eqv (.pair (modV d A) .unit) (.pair (modV d A) .unit) := And.intro (modR d A) rfl
  refine Spec.cut (Nat.le_refl _) (by simp [SV.ids]) (fun id u c hb => by cases id <;> cases hb; simp [SV.ids, modV]) (Spec.of_vc tabOK tabEq Try.func25 rfl (by kernel_rfl) rfl rfl ?_)
  refine And.intro trivial (Spec.mono (isHopf_s p n U T Z C S hU hT hZ hC hS) ?_)
  rintro r m ⟨rfl, rfl⟩
  refine ifVC_split (fun ha => ?_) (fun ha => ?_)
  · have ha : hopB p n U T Z C S = false := by simpa using ha
    exact And.intro (boolEq (by unfold hmB; rw [ha]; rfl)) (And.intro (And.intro mR rfl) trivial)
  have ha : hopB p n U T Z C S = true := by simpa using ha
  obtain ⟨n, rfl, hV, hpr⟩ := hop_valid p n U T Z C S hU hT hZ hC hS ha
  refine LoopVC.of (fun i : Nat => i ≤ 1 ∧ (i = 1 → mdlB p n d U T A = true)) (fun i => [(2, .ptr 1 [] 0 0), (10, .sl 0 0 1 1), (11, .int .i64 1), (12, .int .i64 i)]) (fun _ => [some (.pair (modV d A) .unit, 513), some (hopV p n U T Z C S, 1106)]) (fun i => 1 - i) 0 ⟨by omega, fun h => by omega⟩ ?_ ?_ ?_
  · exact (And.intro rfl (And.intro rfl (And.intro rfl (And.intro rfl (trivial)))))
  · exact And.intro (And.intro mR rfl) (And.intro (And.intro (hopR p n U T Z C S) rfl) trivial)
  · rintro i ⟨hi, hall⟩
    refine ifVC_split (fun h => ?_) (fun h => ?_)
    · have hlt := of_decide_eq_true h
      obtain rfl : i = 0 := by omega
      (repeat (first | refine And.intro (by omega) ?_ | refine And.intro ⟨by omega, by omega⟩ ?_))
      cases hf : fieldB p d with
      | false =>
        refine And.intro trivial (Spec.mono (isTableNo_s p n d _ hf (fun q hq => hA _ (by omega))) ?_)
        rintro r m ⟨rfl, rfl⟩
        exact And.intro (boolEq (by unfold hmB mdlB; rw [hf]; simp)) (And.intro (And.intro mR rfl) trivial)
      | true =>
        refine And.intro trivial (Spec.mono (isTableC_s p n d _ hf (fun q hq => hA _ (by omega))) ?_)
        rintro r m ⟨rfl, rfl⟩
        obtain ⟨d, rfl⟩ : ∃ e : Nat, d = e := ⟨d.toNat, by have := (field_bounds hf).2; omega⟩
        refine ifVC_split (fun hc => ?_) (fun hc => ?_)
        · have hc : tabCB p n d A = false := by simpa using hc
          exact And.intro (boolEq (by unfold hmB mdlB; rw [hc]; simp)) (And.intro (And.intro mR rfl) trivial)
        have hc : tabCB p n d A = true := by simpa using hc
        have hM : ModP p n d A := mod_of hA hf hc
        refine And.intro trivial (Spec.mono (keepsActions_s p n d U T Z C S _ hV (fun q hq => hA _ (by omega)) hM.d8) ?_)
        rintro r m ⟨rfl, rfl⟩
        have e : mdlB p n d U T A = keepB p n d U T A := by unfold mdlB; rw [hf, hc]; simp
        refine ifVC_split (fun hk => ?_) (fun hk => ?_)
        · have hk : keepB p n d U T A = false := by simpa using hk
          exact And.intro (boolEq (by unfold hmB; rw [e, hk]; simp)) (And.intro (And.intro mR rfl) trivial)
        have hk : keepB p n d U T A = true := by simpa using hk
        refine Exists.intro 1 (And.intro ⟨by omega, fun _ => by rw [e]; exact hk⟩ (And.intro (by omega) (And.intro (And.intro rfl (And.intro rfl (And.intro rfl (And.intro rfl trivial)))) (And.intro (And.intro mR rfl) (And.intro (And.intro (hopR p n U T Z C S) rfl) trivial)))))
    · have hge := of_decide_eq_false h
      obtain rfl : i = 1 := by omega
      exact And.intro (boolEq (by unfold hmB; rw [ha, hall rfl]; rfl)) (And.intro (And.intro mR rfl) trivial)
end
end Go.Proofs.Ytegcfjfhpodlmaa
