/- Texts in one: Mod3, Mod3b, Mod4, Mod5, OpenMod, Invo, InvoLaw. -/
import Derived.Test.YtjanlnngeklhoabGreatPg
import Derived.Test.YtjanlnngeklhoabGreatPe
import Derived.Test.YtjanlnngeklhoabGreatPd
import Derived.Test.YtjanlnngeklhoabGreatPf
set_option linter.unusedSimpArgs false
set_option linter.unusedVariables false
set_option linter.unusedSectionVars false
/- Modules of a Hopf algebra: what the model asks of them, and lists of them on both sides. -/
set_option linter.unusedVariables false
set_option linter.unusedSimpArgs false
set_option maxRecDepth 100000
set_option maxHeartbeats 1000000
namespace Go.Proofs.YtjanlnngeklhoabGreat
open M

theorem tabCB_no {p c n : Int} {T : Nat → Int} {i : Nat} (hi : i < 8) (h : rowCB p c n T i = false) : tabCB p c n T = false := by
  unfold tabCB; rw [all8_no (i := i) hi h]
theorem rows_no {p : Int} {n d : Nat} {U T A : Nat → Int} (hn : n ≤ 8) (h : ModP p n d A) {k : Nat} (hk : k < d) (hb : rowKB p n U T A k = false) : keepB p n d U T A = false := by
  rw [keep_rows hn h]
  cases hc : (List.range d).all (rowKB p n U T A) with
  | false => rfl
  | true => have := List.all_eq_true.1 hc k (List.mem_range.2 hk); rw [hb] at this; cases this

theorem l06Holds_s (p : Int) (n : Nat) (d : Int) (U T Z C S A : Nat → Int) (hV : HV p n U T Z C S) (hpr : primeB p = true) (hA : isU8 512 A) :
    Spec Tryz.prog 33 [hopV p n U T Z C S, modV d A] [] (Ret (.bool (mdlB p n d U T A))) := by
  have hn := hV.a.hn
  have hp := hV.a.hp
  refine Spec.ret rfl (Spec.of_vc tabOK tabEq Tryz.func33 rfl (by kernel_rfl) rfl rfl ?_)
  refine And.intro trivial (Spec.mono (l01In_s d 1 8) ?_)
  rintro r m ⟨rfl, rfl⟩
  refine ifVC_split (fun hd => ?_) (fun hd => ?_)
  · have hd : (decide (1 ≤ d) && decide (d ≤ 8)) = false := by simpa only [Bool.not_eq_true'] using hd
    exact boolEq (by unfold mdlB fieldB; rw [hpr, hd]; rfl)
  have hd : (decide (1 ≤ d) && decide (d ≤ 8)) = true := by simpa only [Bool.not_eq_false'] using hd
  have hf : fieldB p d = true := by unfold fieldB; rw [hpr, hd]; rfl
  simp only [Bool.and_eq_true, decide_eq_true_eq] at hd
  obtain ⟨d, rfl⟩ : ∃ k : Nat, d = k := ⟨d.toNat, by omega⟩
  have hd8 : d ≤ 8 := by omega
  refine LoopVC.of (fun i : Nat => i ≤ 8 ∧ ∀ j, j < i → rowCB p n d A j = true) (fun i => [(2, .ptr 0 [] 0 0), (3, .ptr 1 [] 0 0), (5, .int .i64 i)]) (fun _ => [some (hopV p n U T Z C S, 1106), some (modV d A, 513)]) (fun i => 8 - i) 0 ⟨by omega, fun j h => by omega⟩ ?_ ?_ ?_
  · exact (And.intro rfl (And.intro rfl (And.intro rfl (trivial))))
  · exact And.intro (And.intro (hopR p n U T Z C S) rfl) (And.intro (And.intro (modR d A) rfl) trivial)
  · rintro i ⟨hi, hall⟩
    refine ifVC_split (fun h => ?_) (fun h => ?_)
    · have hlt := of_decide_eq_true h
      have hidx : (i : Int).toNat = i := by omega
      have step : rowCB p n d A i = true → ∀ (s : Slots) (m : Mem), eqvO (lk s 2) (.ptr 0 [] 0 0) → eqvO (lk s 3) (.ptr 1 [] 0 0) → eqvO (lk s 5) (.int .i64 (IntKind.i64.wrap ((i : Int) + 1))) → memCut m [some (hopV p n U T Z C S, 1106), some (modV d A, 513)] →
          ∃ x' : Nat, (x' ≤ 8 ∧ ∀ j, j < x' → rowCB p n d A j = true) ∧ 8 - x' < 8 - i ∧ subL [(2, .ptr 0 [] 0 0), (3, .ptr 1 [] 0 0), (5, .int .i64 x')] s ∧ memCut m [some (hopV p n U T Z C S, 1106), some (modV d A, 513)] := fun he s m h2 h3 h5 hm =>
        ⟨i + 1, ⟨by omega, fun j hj => by
          by_cases hji : j = i
          · subst hji; exact he
          · exact hall j (by omega)⟩, by omega, ⟨h2, h3, by rw [wrapS (by omega)] at h5; exact h5, trivial⟩, hm⟩
      refine Exists.intro 23 (And.intro (by kernel_rfl) ?_)
      (repeat (first | refine And.intro (by omega) ?_ | refine And.intro ⟨by omega, by omega⟩ ?_))
      refine Exists.intro (.bool (linB p d d (partF A 64 i))) (And.intro (And.intro rfl (And.intro rfl ?_)) ?_)
      · rw [row_is A i hidx]
        exact Spec.mono (l01Linear_s p d _ (part_u8 hA (by omega))) fun r m h => h.1
      refine ifVC_split (fun hv => ?_) (fun hv => ?_)
      · have hv : linB p d d (partF A 64 i) = false := by simpa using hv
        exact boolEq (by unfold mdlB; rw [tabCB_no (i := i) (by omega) (by unfold rowCB; rw [hv]; rfl)]; simp)
      · have hv : linB p d d (partF A 64 i) = true := by simpa using hv
        refine ifVC_split (fun hb => ?_) (fun hb => ?_)
        · have hb := of_decide_eq_true hb
          (repeat (first | refine And.intro (by omega) ?_ | refine And.intro ⟨by omega, by omega⟩ ?_))
          have hq : allEq 64 (fun q => A (q + ((i : Int).toNat * 64 + 0))) (fun _ => 0) = allEq 64 (partF A 64 i) (fun _ => 0) := by rw [row_is A i hidx]
          refine ifVC_split (fun hc => ?_) (fun hc => ?_)
          · have hc : allEq 64 (partF A 64 i) (fun _ => 0) = false := by rw [← hq]; simpa using hc
            exact boolEq (by unfold mdlB; rw [tabCB_no (i := i) (by omega) (by unfold rowCB; rw [hv, hc]; simp; omega)]; simp)
          · have hc : allEq 64 (partF A 64 i) (fun _ => 0) = true := by rw [← hq]; simpa using hc
            exact step (by unfold rowCB; rw [hv, hc]; simp) _ _ rfl rfl rfl (And.intro (And.intro (hopR p n U T Z C S) rfl) (And.intro (And.intro (modR d A) rfl) trivial))
        · have hb := of_decide_eq_false hb
          exact step (by unfold rowCB; rw [hv]; simp; left; omega) _ _ rfl rfl rfl (And.intro (And.intro (hopR p n U T Z C S) rfl) (And.intro (And.intro (modR d A) rfl) trivial))
    · have hge := of_decide_eq_false h
      obtain rfl : i = 8 := by omega
      have htab : tabCB p n d A = true := List.all_eq_true.2 fun j hj => hall j (List.mem_range.1 hj)
      have hM : ModP p n d A := mod_of hA hf htab
      have hB : mdlB p n d U T A = keepB p n d U T A := by unfold mdlB; rw [hf, htab]; simp
      have huz : ∀ i, n ≤ i → i < 8 → U i = 0 := fun i h1 h2 => hV.a.uzero i h2 h1
      have hvz : ∀ i j, i < 8 → j < 8 → ∀ k, n ≤ k → k < 8 → vecT T i j k = 0 := fun i j hi hj k h1 h2 => hV.a.zero i j k hi hj h2 (.inr (.inr h1))
      refine LoopVC.of (fun k : Nat => k ≤ d ∧ ∀ k', k' < k → rowKB p n U T A k' = true) (fun k => [(2, .ptr 0 [] 0 0), (3, .ptr 1 [] 0 0), (6, .int .i64 k)]) (fun _ => [some (hopV p n U T Z C S, 1106), some (modV d A, 513)]) (fun k => d - k) 0 ⟨by omega, fun j h => by omega⟩ ?_ ?_ ?_
      · exact (And.intro rfl (And.intro rfl (And.intro rfl (trivial))))
      · exact And.intro (And.intro (hopR p n U T Z C S) rfl) (And.intro (And.intro (modR d A) rfl) trivial)
      · rintro k ⟨hk, hrows⟩
        refine ifVC_split (fun h => ?_) (fun h => ?_)
        · have hlt := of_decide_eq_true h
          have hkdx : (k : Int).toNat = k := by omega
          refine And.intro trivial (Spec.mono (l01Basis_s k (by omega)) ?_)
          rintro r m ⟨rfl, rfl⟩
          (repeat (first | refine And.intro (by omega) ?_ | refine And.intro ⟨by omega, by omega⟩ ?_))
          refine Exists.intro 7 (And.intro (by kernel_rfl) ?_)
          (repeat (first | refine And.intro (by omega) ?_ | refine And.intro ⟨by omega, by omega⟩ ?_))
          have hunit : ∀ j, j < 8 → updR (fun _ => 0) 0 8 (unitV (k : Int).toNat) (j + 0) = unitV k j := fun j hj => by rw [hkdx]; simp [updR, hj]
          have hu8 : isU8 8 (fun j => updR (fun _ => 0) 0 8 (unitV (k : Int).toNat) (j + 0)) := fun j hj => by have := unitV_u8 k 8 j hj; rw [← hunit j hj] at this; exact this
          have hact : ∀ (v : Nat → Int), (∀ i, n ≤ i → i < 8 → v i = 0) → ∀ j, j < 8 → timS p d A v (fun j => updR (fun _ => 0) 0 8 (unitV (k : Int).toNat) (j + 0)) n j % p = partF (leftT p A v) 8 k j := fun v hz j hj => by
            rw [act_eq hn hd8 hz (fun i h1 h2 => by rw [hunit i h2]; unfold unitV; rw [if_neg (by omega)]) hj, prodF_congr (v' := v) (w' := unitV k) (fun _ _ => rfl) hunit, prodF_unit A v (by omega)]
            unfold partF
            rw [Nat.add_comm j (k * 8)]
            unfold leftT rightF
            rw [Int.emod_emod]
          refine Exists.intro (.ints .u8 8 fun j => timS p d A U (fun j => updR (fun _ => 0) 0 8 (unitV (k : Int).toNat) (j + 0)) n j % p) (And.intro (And.intro rfl (And.intro rfl (Spec.mono (l06Act_s p n d U T Z C S A _ _ hp hn hd8 hA (fun j hj => hV.hU _ (by omega)) hu8) fun r m h => h.1))) ?_)
          (repeat (first | refine And.intro (by omega) ?_ | refine And.intro ⟨by omega, by omega⟩ ?_))
          have e1 : allEq 8 (fun j => timS p d A U (fun j => updR (fun _ => 0) 0 8 (unitV (k : Int).toNat) (j + 0)) n j % p) (fun j => updR (fun _ => 0) 0 8 (unitV (k : Int).toNat) (j + 0)) = allEq 8 (partF (leftT p A U) 8 k) (unitV k) := allEq_congr (hact U huz) hunit
          refine ifVC_split (fun hc => ?_) (fun hc => ?_)
          · have hc : allEq 8 (partF (leftT p A U) 8 k) (unitV k) = false := by rw [← e1]; simpa using hc
            exact boolEq (by rw [hB, rows_no hn hM (k := k) (by omega) (by unfold rowKB; rw [hc]; rfl)])
          have hcu : allEq 8 (partF (leftT p A U) 8 k) (unitV k) = true := by rw [← e1]; simpa using hc
          refine LoopVC.of (fun i : Nat => i ≤ n ∧ ∀ i' j, i' < i → j < n → rowIJ p T A k i' j = true) (fun i => [(2, .ptr 0 [] 0 0), (3, .ptr 1 [] 0 0), (6, .int .i64 k), (7, .ptr 2 [] 0 0), (8, .int .i64 i)]) (fun _ => [some (hopV p n U T Z C S, 1106), some (modV d A, 513), some (.ints .u8 8 (unitV k), 8)]) (fun i => n - i) 0 ⟨by omega, fun i' j h => by omega⟩ ?_ ?_ ?_
          · exact (And.intro rfl (And.intro rfl (And.intro rfl (And.intro rfl (And.intro rfl (trivial))))))
          · exact And.intro (And.intro (hopR p n U T Z C S) rfl) (And.intro (And.intro (modR d A) rfl) (And.intro (And.intro (rowEq fun j hj => hunit j hj) rfl) trivial))
          · rintro i ⟨hi, hall1⟩
            refine ifVC_split (fun h => ?_) (fun h => ?_)
            · have hlt1 := of_decide_eq_true h
              have hidx : (i : Int).toNat = i := by omega
              refine LoopVC.of (fun j : Nat => j ≤ n ∧ ∀ j', j' < j → rowIJ p T A k i j' = true) (fun j => [(2, .ptr 0 [] 0 0), (3, .ptr 1 [] 0 0), (6, .int .i64 k), (7, .ptr 2 [] 0 0), (8, .int .i64 i), (9, .int .i64 j)]) (fun _ => [some (hopV p n U T Z C S, 1106), some (modV d A, 513), some (.ints .u8 8 (unitV k), 8)]) (fun j => n - j) 0 ⟨by omega, fun j' h => by omega⟩ ?_ ?_ ?_
              · exact (And.intro rfl (And.intro rfl (And.intro rfl (And.intro rfl (And.intro rfl (And.intro rfl (trivial)))))))
              · exact And.intro (And.intro (hopR p n U T Z C S) rfl) (And.intro (And.intro (modR d A) rfl) (And.intro (And.intro (rowEq fun _ _ => rfl) rfl) trivial))
              · rintro j ⟨hj, hall2⟩
                refine ifVC_split (fun h => ?_) (fun h => ?_)
                · have hlt2 := of_decide_eq_true h
                  have hjdx : (j : Int).toNat = j := by omega
                  refine Exists.intro 25 (And.intro (by kernel_rfl) ?_)
                  (repeat (first | refine And.intro (by omega) ?_ | refine And.intro ⟨by omega, by omega⟩ ?_))
                  refine Exists.intro (.ints .u8 8 fun y => timS p d A (vecT T i j) (unitV k) n y % p) (And.intro (And.intro rfl (And.intro rfl ?_)) ?_)
                  · rw [vec_is T i j hidx hjdx]
                    exact Spec.mono (l06Act_s p n d U T Z C S A _ _ hp hn hd8 hA (vecT_u8 hV.hT (by omega) (by omega)) (unitV_u8 k 8)) fun r m h => h.1
                  (repeat (first | refine And.intro (by omega) ?_ | refine And.intro ⟨by omega, by omega⟩ ?_))
                  refine Exists.intro (.ints .u8 8 fun y => linS (partF A 64 i) (vecT A j k) d y % p) (And.intro (And.intro rfl (And.intro rfl ?_)) ?_)
                  · rw [row_is A i hidx, vec_is A j k hjdx hkdx]
                    exact Spec.mono (l01Apply_s p d _ _ hp hd8 (part_u8 hA (by omega)) (vecT_u8 hA (by omega) (by omega))) fun r m h => h.1
                  have e2 : allEq 8 (fun y => timS p d A (vecT T i j) (unitV k) n y % p) (fun y => linS (partF A 64 i) (vecT A j k) d y % p) = rowIJ p T A k i j := by
                    refine allEq_congr (fun y hy => ?_) fun y hy => ?_
                    · rw [act_unit hn hd8 (hvz i j (by omega) (by omega)) (by omega) hy]
                      unfold partF
                      rw [Nat.add_comm]
                    · unfold partF thenF
                      rw [show (y + k * 8) / 8 = k by omega, show (y + k * 8) % 8 = y by omega, ← linS_cut (n := d) 8 hd8 fun a h1 h2 => hM.zero j k a (by omega) (by omega) h2 (.inr (.inr h1))]
                      refine congrArg (· % p) (linS_congr 8 fun a ha => ?_)
                      rw [show vecT A j k a = partF (fun j_1 => A (j_1 + j * 64)) 8 k a by unfold vecT partF; dsimp only; rw [Nat.add_assoc]]
                  refine ifVC_split (fun hc2 => ?_) (fun hc2 => ?_)
                  · have hc2 : rowIJ p T A k i j = false := by rw [← e2]; simpa using hc2
                    exact boolEq (by rw [hB, rows_no hn hM (k := k) (by omega) (by unfold rowKB; rw [all2_no (i := i) (j := j) (by omega) (by omega) hc2]; simp)])
                  · have hc2 : rowIJ p T A k i j = true := by rw [← e2]; simpa using hc2
                    refine Exists.intro (j + 1) (And.intro ⟨by omega, fun j' hj' => ?_⟩ (And.intro (by omega) (And.intro (And.intro rfl (And.intro rfl (And.intro rfl (And.intro rfl (And.intro rfl (And.intro (slotI (wrapS (by omega))) trivial)))))) (And.intro (And.intro (hopR p n U T Z C S) rfl) (And.intro (And.intro (modR d A) rfl) (And.intro (And.intro (rowEq fun _ _ => rfl) rfl) trivial))))))
                    by_cases hjj : j' = j
                    · subst hjj; exact hc2
                    · exact hall2 j' (by omega)
                · have hge := of_decide_eq_false h
                  obtain rfl : j = n := by omega
                  refine Exists.intro (i + 1) (And.intro ⟨by omega, fun i' j' hi' hj' => ?_⟩ (And.intro (by omega) (And.intro (And.intro rfl (And.intro rfl (And.intro rfl (And.intro rfl (And.intro (slotI (wrapS (by omega))) trivial))))) (And.intro (And.intro (hopR p j U T Z C S) rfl) (And.intro (And.intro (modR d A) rfl) (And.intro (And.intro (rowEq fun _ _ => rfl) rfl) trivial))))))
                  by_cases hii : i' = i
                  · subst hii; exact hall2 j' hj'
                  · exact hall1 i' j' (by omega) hj'
            · have hge := of_decide_eq_false h
              obtain rfl : i = n := by omega
              refine Exists.intro (k + 1) (And.intro ⟨by omega, fun k' hk' => ?_⟩ (And.intro (by omega) (And.intro (And.intro rfl (And.intro rfl (And.intro (slotI (wrapS (by omega))) trivial))) (And.intro (And.intro (hopR p i U T Z C S) rfl) (And.intro (And.intro (modR d A) rfl) trivial)))))
              by_cases hkk : k' = k
              · subst hkk
                unfold rowKB
                rw [hcu, all2_yes hall1]
                rfl
              · exact hrows k' (by omega)
        · have hge := of_decide_eq_false h
          obtain rfl : k = d := by omega
          refine boolEq ?_
          rw [hB, keep_rows hn hM]
          symm
          exact List.all_eq_true.2 fun k' hk' => hrows k' (List.mem_range.1 hk')

section
variable (p n : Int) (U T Z C S : Nat → Int) (hU : isU8 8 U) (hT : isU8 512 T) (hZ : isU8 8 Z) (hC : isU8 512 C) (hS : isU8 64 S)
include hU hT hZ hC hS

/-- a Hopf algebra and a module of it -/
def hmB (p n : Int) (U T Z C S : Nat → Int) (d : Int) (A : Nat → Int) : Bool := hopB p n U T Z C S && mdlB p n d U T A

theorem hop_valid (h : hopB p n U T Z C S = true) : ∃ k : Nat, n = k ∧ HV p k U T Z C S ∧ primeB p = true := by
  unfold hopB at h
  simp only [Bool.and_eq_true] at h
  obtain ⟨k, hk, hV⟩ := hsh_valid hU hT hZ hC hS h.1
  refine ⟨k, hk, hV, ?_⟩
  have := h.1
  unfold hshB at this
  simp only [Bool.and_eq_true] at this
  have hf := shape_field this.1
  unfold fieldB at hf
  simp only [Bool.and_eq_true] at hf
  exact hf.1

/-- one round of the program's check, at a module that lies at a place -/
theorem areModules1_s (d : Int) (A : Nat → Int) (hA : isU8 512 A) :
    Spec Tryz.prog 20 [hopV p n U T Z C S, .sl 0 0 1 1] [some (.pair (modV d A) .unit, 513)] (fun r m => r = .bool (hmB p n U T Z C S d A) ∧ m = [some (.pair (modV d A) .unit, 513)]) := by
  have mR : SV.eqv (.pair (modV d A) .unit) (.pair (modV d A) .unit) := And.intro (modR d A) rfl
  refine Spec.cut (Nat.le_refl _) (by simp [SV.ids]) (fun id u c hb => by cases id <;> cases hb; simp [SV.ids, modV]) (Spec.of_vc tabOK tabEq Tryz.func20 rfl (by kernel_rfl) rfl rfl ?_)
  refine And.intro trivial (Spec.mono (isHopf_s p n U T Z C S hU hT hZ hC hS) ?_)
  rintro r m ⟨rfl, rfl⟩
  refine ifVC_split (fun ha => ?_) (fun ha => ?_)
  · have ha : hopB p n U T Z C S = false := by simpa using ha
    exact And.intro (boolEq (by unfold hmB; rw [ha]; rfl)) (And.intro (And.intro mR rfl) trivial)
  have ha : hopB p n U T Z C S = true := by simpa using ha
  obtain ⟨n, rfl, hV, hpr⟩ := hop_valid p n U T Z C S hU hT hZ hC hS ha
  refine LoopVC.of (fun i : Nat => i ≤ 1 ∧ (i = 1 → mdlB p n d U T A = true)) (fun i => [(2, .ptr 1 [] 0 0), (10, .sl 0 0 1 1), (11, .int .i64 1), (12, .int .i64 i)]) (fun _ => [some (.pair (modV d A) .unit, 513), some (hopV p n U T Z C S, 1106)]) (fun i => 1 - i) 0 ⟨by omega, fun h => by omega⟩ ?_ ?_ ?_
  · exact (And.intro rfl (And.intro rfl (And.intro rfl (And.intro rfl (trivial)))))
  · exact And.intro (And.intro mR rfl) (And.intro (And.intro (hopR p n U T Z C S) rfl) trivial)
  · rintro i ⟨hi, hall⟩
    refine ifVC_split (fun h => ?_) (fun h => ?_)
    · have hlt := of_decide_eq_true h
      obtain rfl : i = 0 := by omega
      (repeat (first | refine And.intro (by omega) ?_ | refine And.intro ⟨by omega, by omega⟩ ?_))
      cases hf : fieldB p d with
      | false =>
        refine And.intro trivial (Spec.mono (isTableNo_s p n d _ hf (fun q hq => hA _ (by omega))) ?_)
        rintro r m ⟨rfl, rfl⟩
        exact And.intro (boolEq (by unfold hmB mdlB; rw [hf]; simp)) (And.intro (And.intro mR rfl) trivial)
      | true =>
        refine And.intro trivial (Spec.mono (isTableC_s p n d _ hf (fun q hq => hA _ (by omega))) ?_)
        rintro r m ⟨rfl, rfl⟩
        obtain ⟨d, rfl⟩ : ∃ e : Nat, d = e := ⟨d.toNat, by have := (field_bounds hf).2; omega⟩
        refine ifVC_split (fun hc => ?_) (fun hc => ?_)
        · have hc : tabCB p n d A = false := by simpa using hc
          exact And.intro (boolEq (by unfold hmB mdlB; rw [hc]; simp)) (And.intro (And.intro mR rfl) trivial)
        have hc : tabCB p n d A = true := by simpa using hc
        have hM : ModP p n d A := mod_of hA hf hc
        refine And.intro trivial (Spec.mono (keepsActions_s p n d U T Z C S _ hV (fun q hq => hA _ (by omega)) hM.d8) ?_)
        rintro r m ⟨rfl, rfl⟩
        have e : mdlB p n d U T A = keepB p n d U T A := by unfold mdlB; rw [hf, hc]; simp
        refine ifVC_split (fun hk => ?_) (fun hk => ?_)
        · have hk : keepB p n d U T A = false := by simpa using hk
          exact And.intro (boolEq (by unfold hmB; rw [e, hk]; simp)) (And.intro (And.intro mR rfl) trivial)
        have hk : keepB p n d U T A = true := by simpa using hk
        refine Exists.intro 1 (And.intro ⟨by omega, fun _ => by rw [e]; exact hk⟩ (And.intro (by omega) (And.intro (And.intro rfl (And.intro rfl (And.intro rfl (And.intro rfl trivial)))) (And.intro (And.intro mR rfl) (And.intro (And.intro (hopR p n U T Z C S) rfl) trivial)))))
    · have hge := of_decide_eq_false h
      obtain rfl : i = 1 := by omega
      exact And.intro (boolEq (by unfold hmB; rw [ha, hall rfl]; rfl)) (And.intro (And.intro mR rfl) trivial)
end
end Go.Proofs.YtjanlnngeklhoabGreat

/- Lists of one module and of two, on both sides. -/
set_option linter.unusedVariables false
set_option linter.unusedSimpArgs false
set_option maxRecDepth 100000
set_option maxHeartbeats 1000000
namespace Go.Proofs.YtjanlnngeklhoabGreat
open M

section
variable (p n : Int) (U T Z C S : Nat → Int) (hU : isU8 8 U) (hT : isU8 512 T) (hZ : isU8 8 Z) (hC : isU8 512 C) (hS : isU8 64 S)
include hU hT hZ hC hS

theorem l06Code1_s (d : Int) (A : Nat → Int) (hA : isU8 512 A) :
    Spec Tryz.prog 15 [hopV p n U T Z C S, .sl 0 0 1 1] [some (.pair (modV d A) .unit, 513)] (fun r m => r = .int .i64 (if hmB p n U T Z C S d A = true then 0 else 1) ∧ m = [some (.pair (modV d A) .unit, 513)]) := by
  have mR : SV.eqv (.pair (modV d A) .unit) (.pair (modV d A) .unit) := And.intro (modR d A) rfl
  refine Spec.cut (Nat.le_refl _) (by simp [SV.ids]) (fun id u c hb => by cases id <;> cases hb; simp [SV.ids, modV]) (Spec.of_vc tabOK tabEq Tryz.func15 rfl (by kernel_rfl) rfl rfl ?_)
  refine And.intro trivial (Spec.mono (l03Is_s p n U T Z C S hU hT hZ hC hS) ?_)
  rintro r m ⟨rfl, rfl⟩
  refine ifVC_split (fun ha => ?_) (fun ha => ?_)
  · have ha : hopB p n U T Z C S = false := by simpa using ha
    exact And.intro (slotI (by unfold hmB; rw [ha]; rfl)) (And.intro (And.intro mR rfl) trivial)
  have ha : hopB p n U T Z C S = true := by simpa using ha
  obtain ⟨n, rfl, hV, hpr⟩ := hop_valid p n U T Z C S hU hT hZ hC hS ha
  refine LoopVC.of (fun i : Nat => i ≤ 1 ∧ (1 ≤ i → mdlB p n d U T A = true)) (fun i => [(1, .sl 0 0 1 1), (2, .ptr 1 [] 0 0), (5, .int .i64 i)]) (fun _ => [some (.pair (modV d A) .unit, 513), some (hopV p n U T Z C S, 1106)]) (fun i => 1 - i) 0 ⟨by omega, fun h => by omega⟩ ?_ ?_ ?_
  · exact (And.intro rfl (And.intro rfl (And.intro rfl (trivial))))
  · exact And.intro (And.intro mR rfl) (And.intro (And.intro (hopR p n U T Z C S) rfl) trivial)
  · rintro i ⟨hi, hall⟩
    refine ifVC_split (fun h => ?_) (fun h => ?_)
    · have hlt := of_decide_eq_true h
      obtain rfl : i = 0 := by omega
      refine Exists.intro 6 (And.intro (by kernel_rfl) ?_)
      (repeat (first | refine And.intro (by omega) ?_ | refine And.intro ⟨by omega, by omega⟩ ?_))
      refine Exists.intro (.bool (mdlB p n d U T A)) (And.intro (And.intro rfl (And.intro rfl (Spec.mono (l06Holds_s p n d U T Z C S _ hV hpr hA) fun r m h => h.1))) ?_)
      refine ifVC_split (fun hk => ?_) (fun hk => ?_)
      · have hk : mdlB p n d U T A = false := by simpa using hk
        exact And.intro (slotI (by unfold hmB; rw [hk]; simp)) (And.intro (And.intro mR rfl) trivial)
      have hk : mdlB p n d U T A = true := by simpa using hk
      refine Exists.intro 1 (And.intro ⟨by omega, fun _ => hk⟩ (And.intro (by omega) (And.intro (And.intro rfl (And.intro rfl (And.intro rfl trivial))) (And.intro (And.intro mR rfl) (And.intro (And.intro (hopR p n U T Z C S) rfl) trivial)))))
    · have hge := of_decide_eq_false h
      exact And.intro (slotI (by unfold hmB; rw [ha, hall (by omega)]; rfl)) (And.intro (And.intro mR rfl) trivial)

/-- a Hopf algebra and two modules of it -/
def hm2B (p n : Int) (U T Z C S : Nat → Int) (d : Int) (A : Nat → Int) (e : Int) (B : Nat → Int) : Bool := hopB p n U T Z C S && (mdlB p n d U T A && mdlB p n e U T B)

end
end Go.Proofs.YtjanlnngeklhoabGreat

/- IsModule, ActOn, CharacterOf, on both sides, and the laws. -/
set_option linter.unusedVariables false
set_option linter.unusedSimpArgs false
set_option maxRecDepth 100000
set_option maxHeartbeats 1000000
namespace Go.Proofs.YtjanlnngeklhoabGreat
open M

theorem code_bad {b : Bool} (h : ((if b = true then (0 : Int) else 1) != 0) = true) : b = false := by cases b <;> simp_all
theorem code_ok {b : Bool} (h : ((if b = true then (0 : Int) else 1) != 0) = false) : b = true := by cases b <;> simp_all
theorem mdl_field {p n d : Int} {U T A : Nat → Int} (h : mdlB p n d U T A = true) : fieldB p d = true := by
  unfold mdlB at h
  simp only [Bool.and_eq_true] at h
  exact h.1

section
variable (p n : Int) (U T Z C S : Nat → Int) (hU : isU8 8 U) (hT : isU8 512 T) (hZ : isU8 8 Z) (hC : isU8 512 C) (hS : isU8 64 S)
include hU hT hZ hC hS
variable (d : Int) (A : Nat → Int) (hA : isU8 512 A)
include hA

theorem hm_spec (h : hmB p n U T Z C S d A = true) : ∃ k e : Nat, n = k ∧ d = e ∧ HV p k U T Z C S ∧ primeB p = true ∧ ModP p k e A ∧ mdlB p n d U T A = true := by
  unfold hmB at h
  simp only [Bool.and_eq_true] at h
  obtain ⟨k, rfl, hV, hpr⟩ := hop_valid p n U T Z C S hU hT hZ hC hS h.1
  have hf := mdl_field h.2
  obtain ⟨e, rfl⟩ : ∃ e : Nat, d = e := ⟨d.toNat, by have := (field_bounds hf).2; omega⟩
  have h2 := h.2
  unfold mdlB at h2
  simp only [Bool.and_eq_true] at h2
  exact ⟨k, e, rfl, rfl, hV, hpr, mod_of hA hf h2.2.1, h.2⟩

/-! ### IsModule -/
/-! ### ActOn -/
variable (a v : Nat → Int) (ha : isU8 8 a) (hv : isU8 8 v)
include ha hv
def actOk (p n : Int) (U T Z C S : Nat → Int) (d : Int) (A a v : Nat → Int) : Bool := hmB p n U T Z C S d A && (entriesB p d v && entriesB p n a)
def actOut (p n : Int) (U T Z C S : Nat → Int) (d : Int) (A a v : Nat → Int) : SV := .tcons (.ints .u8 8 fun j => if actOk p n U T Z C S d A a v = true then prodF p A a v j else 0) (.tcons (.int .i64 (if actOk p n U T Z C S d A a v = true then 0 else 1)) .tnil)

end
end Go.Proofs.YtjanlnngeklhoabGreat

/- CharacterOf, on both sides, and the law. -/
set_option linter.unusedVariables false
set_option linter.unusedSimpArgs false
set_option maxRecDepth 100000
set_option maxHeartbeats 1000000
namespace Go.Proofs.YtjanlnngeklhoabGreat
open M

section
variable (p n : Int) (U T Z C S : Nat → Int) (hU : isU8 8 U) (hT : isU8 512 T) (hZ : isU8 8 Z) (hC : isU8 512 C) (hS : isU8 64 S)
include hU hT hZ hC hS
variable (d : Int) (A : Nat → Int) (hA : isU8 512 A)
include hA

def charOut (p n : Int) (U T Z C S : Nat → Int) (d : Int) (A : Nat → Int) : SV := .tcons (.ints .u8 8 fun j => if hmB p n U T Z C S d A = true then traceN p 8 (partF A 64 j) else 0) (.tcons (.int .i64 (if hmB p n U T Z C S d A = true then 0 else 1)) .tnil)

end
end Go.Proofs.YtjanlnngeklhoabGreat

/- An argument that is a module: its numbers. -/
set_option linter.unusedVariables false
set_option linter.unusedSimpArgs false
namespace Go.Proofs.YtjanlnngeklhoabGreat
variable {P : Program} {H : Type} {enc : TypeId × Value → H}

theorem open_modG {w : World} {r : Reach} {b0 b : Nat} {sp : Nat → Bool} {hd : Bool} {t : TypeId} {f0 f1 : Field} {d1 : Nat} (hs : P.underlying t = some (.struct #[f0, f1])) (hsz : (P.info? t).map (·.size) = some 513)
    (h0 : P.underlying f0.type = some (.int .i64)) (z0 : (P.info? f0.type).map (·.size) = some 1) (o0 : f0.offset = 0)
    (h1 : RowT P f1.type .u8 512 d1) (z1 : (P.info? f1.type).map (·.size) = some 512) (o1 : f1.offset = 1)
    {v : Value} {x : DataW H} {ps : List MemPlace} (hval : Value.okWide P w r b0 t v) (ht : DataW.Trod enc P w b sp hd t v x ps) :
    ∃ (d : Int) (A : Nat → Int), (∀ μ, v = toVal μ (modV d A)) ∧ isU8 512 A ∧ ps = [] := by
  unfold Value.okWide at hval
  rw [hs] at hval
  obtain ⟨cs, rfl, _⟩ := hval
  obtain ⟨fuel, hf⟩ := ht
  obtain ⟨xs, n, _, hx, hl, hlen, hfs⟩ := DataW.trod_struct hs hf
  have hl' : cs.toList.length = 513 := by rw [cellsOf_of hsz] at hl; exact hl
  match xs, hlen with
  | [y0, y1], _ =>
    have g0 := hfs 0 f0 rfl
    have g1 := hfs 1 f1 rfl
    rw [cellsOf_of z0, o0] at g0
    rw [cellsOf_of z1, o1] at g1
    obtain ⟨p, e0, w0, q0⟩ := trod_int_cell h0 g0
    obtain ⟨l1, c1, q1⟩ := open_row h1 _ _ _ z1 g1
    obtain ⟨e1, w1⟩ := row_cells (μ := fun _ => 0) l1 c1
    refine ⟨p, _, fun μ => ?_, fun j hj => u8_bounds (w1 j hj), ?_⟩
    · have hcs : cs.toList = (cs.toList.drop 0).take 1 ++ (cs.toList.drop 1).take 512 := by
        have a1 : (cs.toList.drop 1).take 512 = cs.toList.drop 1 := List.take_of_length_le (by simp [hl'])
        rw [a1]
        exact (List.take_append_drop 1 cs.toList).symm
      show Value.agg cs = Value.agg _
      congr 1
      apply Array.ext'
      have e0' : (cs.toList.drop 0).take 1 = [.int .i64 p] := e0
      have e1' : (cs.toList.drop 1).take 512 = _ := e1
      rw [hcs, e0', e1']
      simp [modV, flat, scal]
    · have : ps = [y0, y1].flatMap (·.2) := congrArg Prod.snd hx
      rw [this]
      simp [q0, q1]
end Go.Proofs.YtjanlnngeklhoabGreat

/- Invariants of modules, the program's and the model's. -/
set_option linter.unusedVariables false
set_option linter.unusedSimpArgs false
set_option maxRecDepth 100000
set_option maxHeartbeats 4000000
namespace Go.Proofs.YtjanlnngeklhoabGreat
open M

/-! ### what one basis element fails -/
theorem faultF_lin (p : Int) (B Z v : Nat → Int) {i m : Nat} (hi : i < 8) (hm : m < 8) : faultF p B Z v (i * 8 + m) = (linS (partF B 64 i) v 8 m % p + (p - Z i) * v m) % p := by
  unfold faultF etF
  rw [show (i * 8 + m) / 8 = i by omega, show (i * 8 + m) % 8 = m by omega, linS_sum]
  refine congrArg (fun z => (z % p + _) % p) (sumN_congr 8 fun k hk => ?_)
  refine congrArg (v k * ·) ?_
  unfold vecT partF
  congr 1; omega
theorem invariantFault_s (p : Int) (n : Int) (U T Z C S : Nat → Int) (d : Int) (B v : Nat → Int) (hp : 0 < p ∧ p < 256) (hB : isU8 512 B) (hZ : ∀ j, j < 8 → 0 ≤ Z j ∧ Z j < p) (hv : isU8 8 v) :
    Spec Tryz.prog 22 [hopV p n U T Z C S, modV d B, .ints .u8 8 v] [] (Ret (.ints .u8 64 (faultF p B Z v))) := by
  refine Spec.ret rfl (Spec.of_vc tabOK tabEq Tryz.func22 rfl (by kernel_rfl) rfl rfl ?_)
  (repeat (first | refine And.intro (by omega) ?_ | refine And.intro ⟨by omega, by omega⟩ ?_))
  refine LoopVC.of (fun i : Nat => i ≤ 8) (fun i => [(3, .ptr 0 [] 0 0), (5, .ptr 2 [] 0 0), (6, .ptr 3 [] 0 0), (7, .ptr 4 [] 0 0), (11, .ints .u8 512 B), (12, .int .i64 i)])
    (fun i => [some (hopV p n U T Z C S, 1106), none, some (.ints .u8 8 v, 8), some (.ints .u8 64 fun _ => 0, 64), some (.ints .u8 64 fun q => if q < i * 8 then faultF p B Z v q else 0, 64)]) (fun i => 8 - i) 0 (by omega) ?_ ?_ ?_
  · exact And.intro rfl (And.intro rfl (And.intro rfl (And.intro rfl (And.intro (rowEq fun _ _ => rfl) (And.intro rfl trivial)))))
  · exact And.intro (And.intro (hopR p n U T Z C S) rfl) (And.intro (And.intro (rowEq fun _ _ => rfl) rfl) (And.intro (And.intro (rowEq fun _ _ => rfl) rfl) (And.intro (And.intro (rowEq fun q _ => by simp) rfl) trivial)))
  · intro i hi
    refine ifVC_split (fun h => ?_) (fun h => ?_)
    · have hlt := of_decide_eq_true h
      have hidx : (i : Int).toNat = i := by omega
      have hZi := hZ i (by omega)
      (repeat (first | refine And.intro (by omega) ?_ | refine And.intro ⟨by omega, by omega⟩ ?_))
      have hrow : ∀ q, q < 64 → updR (fun _ => 0) 0 64 (fun j => B (j + (i : Int).toNat * 64)) (q + 0) = partF B 64 i q := fun q hq => by rw [hidx]; simp [updR, hq, partF]
      refine Exists.intro 19 (And.intro (by kernel_rfl) ?_)
      (repeat (first | refine And.intro (by omega) ?_ | refine And.intro ⟨by omega, by omega⟩ ?_))
      refine Exists.intro _ (And.intro (And.intro rfl (And.intro rfl (Spec.mono (apply_s p _ _ hp (fun q hq => by rw [hrow q hq]; exact hB _ (by omega)) (fun q hq => hv _ (by omega))) fun r m h => h.1))) ?_)
      have hw : IntKind.i64.wrap (p - IntKind.i64.wrap (Z ((i : Int).toNat * 1 + 0))) = p - Z i := by rw [show (i : Int).toNat * 1 + 0 = i by omega, wrapI (x := Z i) (by omega), wrapI (by omega)]
      (repeat (first | refine And.intro (by omega) ?_ | refine And.intro ⟨by omega, by omega⟩ ?_))
      refine Exists.intro _ (And.intro (And.intro rfl (And.intro rfl (Spec.mono (addMultiple_s p (IntKind.i64.wrap (p - IntKind.i64.wrap (Z ((i : Int).toNat * 1 + 0)))) _ _ hp (by rw [hw]; omega) (fun m hm => modP hp) (fun j hj => hv _ (by omega))) fun r m h => h.1))) ?_)
      (repeat (first | refine And.intro (by omega) ?_ | refine And.intro ⟨by omega, by omega⟩ ?_))
      refine Exists.intro (i + 1) (And.intro (by omega) (And.intro (by omega) (And.intro (And.intro rfl (And.intro rfl (And.intro rfl (And.intro rfl (And.intro (rowEq fun _ _ => rfl) (And.intro (slotI (wrapS (by omega))) trivial)))))) ?_)))
      refine And.intro (And.intro (hopR p n U T Z C S) rfl) (And.intro (And.intro (rowEq fun _ _ => rfl) rfl) (And.intro (And.intro (rowEq fun _ _ => rfl) rfl) (And.intro (And.intro (rowEq fun q hq => ?_) rfl) trivial)))
      show updR _ ((i : Int).toNat * 8 + 0) 8 _ q = if q < (i + 1) * 8 then faultF p B Z v q else 0
      unfold updR
      rw [hidx]
      dsimp only
      by_cases e : i * 8 + 0 ≤ q ∧ q < i * 8 + 0 + 8
      · rw [if_pos e, if_pos (by omega)]
        obtain ⟨m, rfl⟩ : ∃ m, q = i * 8 + m := ⟨q - i * 8, by omega⟩
        rw [faultF_lin p B Z v (by omega) (by omega)]
        unfold addM
        rw [show i * 8 + m - (i * 8 + 0) = m by omega]
        have hl : linS (fun j => updR (fun _ => 0) 0 64 (fun j => B (j + (i : Int).toNat * 64)) (j + 0)) (fun j => v (j + 0)) 8 m = linS (partF B 64 i) v 8 m := linS_congr 8 fun a ha => by
          show v a * _ = v a * _
          rw [hrow (a * 8 + m) (by omega)]
        rw [hidx] at hw hl
        rw [hw]
        show (linS _ _ 8 m % p + (p - Z i) * v m) % p = _
        rw [← hl]
        rfl
      · rw [if_neg e]
        by_cases e2 : q < i * 8
        · rw [if_pos e2, if_pos (by omega)]
        · rw [if_neg e2, if_neg (by omega)]
    · have hge : i = 8 := by have := of_decide_eq_false h; omega
      subst hge
      (repeat (first | refine And.intro (by omega) ?_ | refine And.intro ⟨by omega, by omega⟩ ?_))
      refine rowEq fun q hq => ?_
      show updR _ 0 64 _ q = _
      simp [updR, hq]

theorem primeB_rngI {p : Int} (h : primeB p = true) : 2 ≤ p ∧ p ≤ 31 := by
  by_cases e : p < 2 ∨ 31 < p
  · rw [primeB_out e] at h; cases h
  · omega

/-! ### the program -/
theorem memHd4n {m : Mem} {a b d : SV × Nat} (h0 : blockOf m 0 = some a) (h1 : blockOf m 1 = some b) (h2 : blockOf m 2 = none) (h3 : blockOf m 3 = some d) : ∃ R, m = some a :: some b :: none :: some d :: R := by
  match m, h0, h1, h2, h3 with
  | [], h, _, _, _ => cases h
  | [_], _, h, _, _ => cases h
  | [_, _], _, _, _, h => cases h
  | [_, _, _], _, _, _, h => cases h
  | x :: y :: z :: w :: R, h0, h1, h2, h3 => exact ⟨R, by rw [show x = some a from h0, show y = some b from h1, show z = none from h2, show w = some d from h3]⟩
abbrev nmem (p n : Nat) (U T Z C S : Nat → Int) (d : Nat) (B : Nat → Int) (v : SV) (R : Mem) : Mem := some (hopV p n U T Z C S, 1106) :: some (modV d B, 513) :: none :: some (spV p v, 3) :: R
structure NI (p n : Nat) (U T Z C S : Nat → Int) (d : Nat) (B : Nat → Int) (x : Nat × SV × (Nat → Int) × Nat × Nat × Mem) : Prop where
  i : x.1 ≤ d
  v : x.2.1 = listV (x.2.2.2.1 + 4) x.1 x.2.2.2.2.1
  val : ∀ k, k < x.1 → ∀ q, q < 64 → x.2.2.1 (k * 64 + q) = faultF p B Z (unitV k) q
  b : x.1 ≠ 0 → blockOf x.2.2.2.2.2 x.2.2.2.1 = some (.ints .u8 (x.1 * 64) x.2.2.1, x.2.2.2.2.1 * 64) ∧ x.1 ≤ x.2.2.2.2.1
  clo : Clo (nmem p n U T Z C S d B x.2.1 x.2.2.2.2.2)
def hmCode (p n : Int) (U T Z C S : Nat → Int) (d : Int) (B : Nat → Int) : Int := if hmB p n U T Z C S d B = true then 0 else 1
section
variable (p n : Int) (U T Z C S : Nat → Int) (hU : isU8 8 U) (hT : isU8 512 T) (hZ : isU8 8 Z) (hC : isU8 512 C) (hS : isU8 64 S) (d : Int) (B : Nat → Int) (hB : isU8 512 B)
include hU hT hZ hC hS hB
theorem implInv0_s : Spec Tryz.prog 8 [hopV p n U T Z C S, modV d B] [] (ListQ true (hmCode p n U T Z C S d B) p.toNat (IntS p.toNat d.toNat B Z)) := by
  refine Spec.of_vc (tabOK.dir fun g => Nat.beq g 24) (tabEq.dir _) Tryz.func8 rfl (by kernel_rfl) rfl rfl ?_
  refine And.intro (And.intro rfl trivial) (Spec.mono (areModules1_s p n U T Z C S hU hT hZ hC hS d B hB) ?_)
  rintro r m ⟨rfl, rfl⟩
  refine ifVC_split (fun h => ?_) (fun h => ?_)
  · have h : hmB p n U T Z C S d B = false := by simpa using h
    exact .inl ⟨by unfold hmCode; rw [h]; simp, by unfold hmCode; rw [h]; rfl⟩
  have h : hmB p n U T Z C S d B = true := by simpa using h
  have hcode : hmCode p n U T Z C S d B = 0 := by unfold hmCode; rw [if_pos h]
  rw [hcode]
  obtain ⟨n, d, rfl, rfl, hV, hpr, hM, hmd⟩ := hm_spec p n U T Z C S hU hT hZ hC hS d B hB h
  obtain ⟨p, rfl⟩ := Int.eq_ofNat_of_zero_le (show 0 ≤ p by have := hV.a.hp; omega)
  have hp : primeB (p : Int) = true := hpr
  have hp2 : 2 ≤ p ∧ p ≤ 31 := by have := primeB_rngI hp; omega
  have hB8 := hB
  have hZ : ∀ j, j < 8 → 0 ≤ Z j ∧ Z j < (p : Int) := fun j hj => hV.c.ult j hj
  have hd : 1 ≤ d ∧ d ≤ 8 := ⟨hM.d1, hM.d8⟩
  simp only [Int.toNat_natCast]
  refine LoopVC.ofR (NI p n U T Z C S d B) (fun x => [(2, .ptr 0 [] 0 0), (3, .ptr 1 [] 0 0), (6, .ptr 3 [] 0 0), (17, .int .i64 d), (18, .int .i64 x.1)]) (fun x => nmem p n U T Z C S d B x.2.1 x.2.2.2.2.2) (fun x => d - x.1) (0, .nilsl, (fun _ => 0), 0, 0, [])
    ⟨Nat.zero_le _, rfl, fun l hl => absurd hl (Nat.not_lt_zero _), fun h => absurd rfl h, ?_⟩ (fun i => i) (RenTo.same ?_ ?_) (fun _ _ => Nat.zero_le _) ?_ ?_
  · intro id u c hb q hq
    match id with
    | 0 => cases hb; simp [hopV, SV.ids] at hq
    | 1 => cases hb; simp [modV, SV.ids] at hq
    | 2 => cases hb
    | 3 => cases hb; simp [spV, SV.ids] at hq
    | id + 4 => cases hb
  · exact (And.intro rfl (And.intro rfl (And.intro rfl (And.intro rfl (And.intro rfl (trivial))))))
  · intro id u d hb
    match id with
    | 0 => cases hb; exact ⟨_, rfl, hopR _ _ _ _ _ _ _⟩
    | 1 => cases hb; exact ⟨_, rfl, modR _ _⟩
    | 2 => cases hb
    | 3 => cases hb; exact ⟨_, rfl, rfl, rfl, rfl, rfl⟩
    | id + 4 => cases hb
  · intro x hx
    refine OkP.of ?_ hx.clo
    simp [SV.ids]
  · rintro ⟨i, v, A, id, c, R⟩ ⟨hi, hv, hA, hB, hC⟩
    dsimp only at hi hv hA hB hC
    refine ifVC_split (fun h1 => ?_) (fun h1 => ?_)
    · have hin : i < d := by have := of_decide_eq_true h1; omega
      have hidx : (i : Int).toNat = i := by omega
      have hvl : v.leaf = true := by rw [hv]; exact listV_leaf _ _ _
      refine vc_gen (q := 0) 10 [0, 1, 2, 3, 4, 9] [5, 6, 7, 8] (by kernel_rfl) (by kernel_rfl) (by kernel_rfl) ?_
      refine readsAt_step rfl (by rfl) ?_
      refine readVC_fa rfl rfl rfl ?_
      refine readsAt_step rfl (by rfl) ?_
      refine readVC_loadF (v := v) (z := v) rfl rfl rfl rfl (fun _ h => getAt_leaf hvl h) ?_
      refine readsAt_step rfl (by rfl) ?_
      refine readVC_loadF (v := hopV p n U T Z C S) (z := hopV p n U T Z C S) rfl rfl rfl rfl (fun _ h => h) ?_
      refine readsAt_step rfl (by rfl) ?_
      refine readVC_loadF (v := modV d B) (z := modV d B) rfl rfl rfl rfl (fun _ h => h) ?_
      refine readsAt_step rfl (by rfl) ?_
      refine readVC_mv rfl ?_
      refine readsAt_step rfl (by rfl) ?_
      refine readVC_fa rfl rfl rfl ?_
      refine readsAt_nil ?_
      refine restVC_val (i := 5) rfl (by rfl) rfl rfl rfl rfl rfl rfl (fun _ => rfl) (fun _ => rfl) (basisVector_s i ⟨by omega, by omega⟩) ?_
      refine restVC_val (i := 6) rfl (by rfl) rfl rfl rfl rfl rfl rfl (fun _ => rfl) (fun _ => rfl) (invariantFault_s p n U T Z C S d B (unitV (i : Int).toNat) (by omega) hB8 hZ (unitV_u8 _ 8)) ?_
      rw [hidx]
      refine restVC_row1 (i := 7) rfl (by rfl) rfl rfl rfl rfl rfl fun G M1 hG p1 => ?_
      by_cases hz : i = 0
      · have e6 : v = .nilsl := by rw [hv, hz]; rfl
        subst e6
        refine restVC_appE (i := 8) rfl (by rfl) (by kernel_rfl) rfl rfl rfl rfl rfl rfl p1.new (by omega) (by omega) fun cap' F' M2 hcap hF p2 => ?_
        have hl1 : M1.length = R.length + 5 := p1.len
        have hl2 : M2.length = R.length + 6 := by rw [p2.len, hl1]
        have o4 : ∀ q, q < 4 → blockOf M2 q = blockOf (nmem p n U T Z C S d B (.nilsl) R) q := fun q hq => (p2.old q (by omega) (by omega)).trans (p1.old q (show q < R.length + 4 by omega) (show q ≠ R.length + 4 by omega))
        obtain ⟨R2, rfl⟩ := memHd4n ((o4 0 (by omega)).trans rfl) ((o4 1 (by omega)).trans rfl) ((o4 2 (by omega)).trans rfl) ((o4 3 (by omega)).trans rfl)
        have hR2 : R2.length = R.length + 2 := by simpa using hl2
        refine restVC_nil ?_
        have hcl := p2.clo (p1.clo hC (by simp [SV.ids])) (by simp [SV.ids])
        refine Exists.intro (i + 1, .sl M1.length 0 1 cap', F', R.length + 1, cap', R2) (Exists.intro (fun i => i) (And.intro ⟨hin, ?_, fun k hk q hq => ?_, fun _ => ⟨?_, ?_⟩, ?_⟩ (And.intro (show d - (i + 1) < d - i by omega) (RenTo.same ?_ ?_))))
        · show _ = listV (R.length + 1 + 4) (i + 1) cap'
          unfold listV
          rw [if_neg (by omega), hl1, hz]
        · have hk : k < i + 1 := hk
          obtain rfl : k = 0 := by omega
          show F' (0 * 64 + q) = _
          rw [hF, hG _ (by omega)]
          show faultF p B Z (unitV i) (0 * 64 + q + 0) = _
          rw [hz, show 0 * 64 + q + 0 = q by omega]
        · have := p2.new
          rw [hl1] at this
          show blockOf R2 (R.length + 1) = some (.ints .u8 ((i + 1) * 64) F', cap' * 64)
          rw [show (i + 1) * 64 = 1 * 64 by omega]
          exact this
        · show i + 1 ≤ cap'; omega
        · intro id' u d hb' q hq
          match id' with
          | 0 => exact hcl 0 u d hb' q hq
          | 1 => exact hcl 1 u d hb' q hq
          | 2 => exact hcl 2 u d hb' q hq
          | 3 =>
            cases hb'
            simp [spV, SV.ids] at hq
            show q < R2.length + 4
            omega
          | id' + 4 => exact hcl (id' + 4) u d hb' q hq
        · exact And.intro rfl (And.intro rfl (And.intro rfl (And.intro rfl (And.intro (slotI (wrapS (by omega))) trivial))))
        · intro id' u d hb'
          match id' with
          | 0 => cases hb'; exact ⟨_, rfl, hopR _ _ _ _ _ _ _⟩
          | 1 => cases hb'; exact ⟨_, rfl, modR _ _⟩
          | 2 => cases hb'
          | 3 => cases hb'; exact ⟨_, rfl, rfl, rfl, rfl, rfl⟩
          | id' + 4 => exact ⟨u, hb', eqv_refl u⟩
      · have e6 : v = .sl (id + 4) 0 i c := by rw [hv]; unfold listV; rw [if_neg hz]
        obtain ⟨b1, b2⟩ := hB hz
        have hidl : id < R.length := blockOf_lt (by rw [b1]; rfl)
        subst e6
        refine restVC_appN (i := 8) (b := id + 4) rfl (by rfl) (by kernel_rfl) rfl rfl rfl rfl rfl rfl ((p1.old (id + 4) (show id + 4 < R.length + 4 by omega) (show id + 4 ≠ R.length + 4 by omega)).trans b1) p1.new (by omega) (Nat.zero_le _) ⟨Nat.le_refl _, rfl, b2, by omega, by omega⟩ fun cap' F' M2 hcap hF1 hF2 p2 => ?_
        have hl1 : M1.length = R.length + 5 := p1.len
        have hl2 : M2.length = R.length + 6 := by rw [p2.len, hl1]
        have o4 : ∀ q, q < 4 → blockOf M2 q = blockOf (nmem p n U T Z C S d B (.sl (id + 4) 0 i c) R) q := fun q hq => (p2.old q (by omega) (by omega)).trans (p1.old q (show q < R.length + 4 by omega) (show q ≠ R.length + 4 by omega))
        obtain ⟨R2, rfl⟩ := memHd4n ((o4 0 (by omega)).trans rfl) ((o4 1 (by omega)).trans rfl) ((o4 2 (by omega)).trans rfl) ((o4 3 (by omega)).trans rfl)
        have hR2 : R2.length = R.length + 2 := by simpa using hl2
        refine restVC_nil ?_
        have hcl := p2.clo (p1.clo hC (by simp [SV.ids])) (by simp [SV.ids])
        refine Exists.intro (i + 1, .sl M1.length 0 (i + 1) cap', F', R.length + 1, cap', R2) (Exists.intro (fun i => i) (And.intro ⟨hin, ?_, fun k hk q hq => ?_, fun _ => ⟨?_, ?_⟩, ?_⟩ (And.intro (show d - (i + 1) < d - i by omega) (RenTo.same ?_ ?_))))
        · show _ = listV (R.length + 1 + 4) (i + 1) cap'
          unfold listV
          rw [if_neg (by omega), hl1]
        · have hk : k < i + 1 := hk
          show F' (k * 64 + q) = _
          by_cases e : k = i
          · have := hF2 q
            rw [hG _ (by omega)] at this
            rw [e]
            exact this
          · rw [hF1 _ (by omega)]; exact hA k (by omega) q hq
        · have := p2.new
          rw [hl1] at this
          show blockOf R2 (R.length + 1) = some (.ints .u8 ((i + 1) * 64) F', cap' * 64)
          rw [show (i + 1) * 64 = (i + 1) * 64 by omega]
          exact this
        · show i + 1 ≤ cap'; omega
        · intro id' u d hb' q hq
          match id' with
          | 0 => exact hcl 0 u d hb' q hq
          | 1 => exact hcl 1 u d hb' q hq
          | 2 => exact hcl 2 u d hb' q hq
          | 3 =>
            cases hb'
            simp [spV, SV.ids] at hq
            show q < R2.length + 4
            omega
          | id' + 4 => exact hcl (id' + 4) u d hb' q hq
        · exact And.intro rfl (And.intro rfl (And.intro rfl (And.intro rfl (And.intro (slotI (wrapS (by omega))) trivial))))
        · intro id' u d hb'
          match id' with
          | 0 => cases hb'; exact ⟨_, rfl, hopR _ _ _ _ _ _ _⟩
          | 1 => cases hb'; exact ⟨_, rfl, modR _ _⟩
          | 2 => cases hb'
          | 3 => cases hb'; exact ⟨_, rfl, rfl, rfl, rfl, rfl⟩
          | id' + 4 => exact ⟨u, hb', eqv_refl u⟩
    · have hin : i = d := by have := of_decide_eq_false h1; omega
      subst hin
      obtain ⟨b1, b2⟩ := hB (by omega)
      have e6 : v = .sl (id + 4) 0 i c := by rw [hv]; unfold listV; rw [if_neg (by omega)]
      subst e6
      (repeat (first | (with_reducible refine vc_exit ?_) | (with_reducible refine vc_ret ?_) | (with_reducible refine vc_skip ?_) | (with_reducible refine thenQ_x ?_) | (with_reducible refine thenQ_r ?_) | (with_reducible refine thenQ_n ?_) | (with_reducible refine blockQ_x rfl ?_) | (with_reducible refine blockQ_y rfl ?_) | (with_reducible refine blockQ_n ?_) | (with_reducible refine blockQ_r ?_) | (with_reducible refine vc_seq ?_) | (with_reducible refine vc_region ?_) | (with_reducible refine vc_block ?_) | (with_reducible refine vc_scope ?_) | (with_reducible refine opsVC_nil ?_)))
      refine opsVC_loadF (v := spV p (.sl (id + 4) 0 i c)) rfl rfl rfl rfl rfl rfl (fun _ h => h) ?_
      refine opsVC_dir rfl rfl rfl rfl rfl rfl ?_
      refine Spec.mono (relations_s (nmem p n U T Z C S i B (.sl (id + 4) 0 i c) R) i p (id + 4) c (c * 64) A b1 hC hd hp hp2 (fun q hq => by
        have := hA (q / 64) (by omega) (q % 64) (by omega)
        rw [show q / 64 * 64 + q % 64 = q by omega] at this
        rw [this]
        exact mod_rng (by omega) _)) ?_
      rintro r m' ⟨id2, k, c', A', hrv, hR, hbk, hl, hold⟩
      refine ⟨fun q hq h => by rw [hold q hq] at h; exact h, ?_⟩
      refine opsVC_as rfl rfl rfl ?_
      refine opsVC_as rfl rfl rfl ?_
      (repeat (first | (with_reducible refine vc_exit ?_) | (with_reducible refine vc_ret ?_) | (with_reducible refine vc_skip ?_) | (with_reducible refine thenQ_x ?_) | (with_reducible refine thenQ_r ?_) | (with_reducible refine thenQ_n ?_) | (with_reducible refine blockQ_x rfl ?_) | (with_reducible refine blockQ_y rfl ?_) | (with_reducible refine blockQ_n ?_) | (with_reducible refine blockQ_r ?_) | (with_reducible refine vc_seq ?_) | (with_reducible refine vc_region ?_) | (with_reducible refine vc_block ?_) | (with_reducible refine vc_scope ?_) | (with_reducible refine opsVC_nil ?_)))
      have hR : RedL p (IntS p i B Z) k A' := hR.of_iff fun x => by
        refine Iff.trans (and_congr_right fun hx => forall_congr' fun q => forall_congr' fun hq => ?_) (int_ker x)
        have : apW p (fun k q => A (k * 64 + q)) x q = apW p (fun k q => faultF p B Z (unitV k) q) x q := by
          unfold apW
          refine congrArg (· % (p : Int)) (sumN_congr 8 fun l hl => ?_)
          by_cases e : l < i
          · show x l * A (l * 64 + q) = _; rw [hA l e q hq]
          · rw [hx.out l (by omega) hl, Int.zero_mul, Int.zero_mul]
        rw [this]
      by_cases hk : k = 0
      · subst hk
        have hrv : r = .nilsl := hrv
        subst hrv
        exact .inr (.inr ⟨rfl, rfl, A', rfl, hR⟩)
      · have hrv : r = .sl id2 0 k c' := by rw [hrv]; unfold listV; rw [if_neg hk]
        subst hrv
        exact .inr (.inl ⟨rfl, id2, k, c', A', fun _ => hk, rfl, hR, (hbk hk).2, (hbk hk).1⟩)

theorem implInv_s : Spec Tryz.prog 8 [hopV p n U T Z C S, modV d B] [] (ListR true (hmCode p n U T Z C S d B) p.toNat (IntS p.toNat d.toNat B Z)) := ListQ.one (implInv0_s p n U T Z C S hU hT hZ hC hS d B hB)
end

/-! ### the model -/
/-- the row of the model for the basis element i and the place j -/
def irow (p : Int) (d : Nat) (B Z : Nat → Int) (i j : Nat) : Nat → Int := fun k => if k < d then (B (i * 64 + k * 8 + j) - (if k = j then Z i else 0)) % p else 0
theorem irow_sum {p d : Nat} {B Z x : Nat → Int} (hx : VecP p d x) (i : Nat) {j : Nat} (hj : j < 8) : sumN 8 (fun k => irow p d B Z i j k * x k) % p = fltS p B Z x i j % p := by
  have e1 : sumN 8 (fun k => irow p d B Z i j k * x k) = sumN 8 (fun k => x k * ((vecT B i k j + -(Z i) * unitV j k) % p)) := sumN_congr 8 fun k hk => by
    by_cases e : k < d
    · unfold irow
      rw [if_pos e, Int.mul_comm]
      have e3 : B (i * 64 + k * 8 + j) = vecT B i k j := by unfold vecT; congr 1; omega
      rw [e3]
      unfold unitV
      by_cases e2 : k = j
      · rw [if_pos e2, if_pos e2, Int.mul_one, Int.sub_eq_add_neg]
      · rw [if_neg e2, if_neg e2, Int.mul_zero, Int.sub_zero, Int.add_zero]
    · rw [hx.out k (by omega) hk, Int.mul_zero, Int.zero_mul]
  rw [e1, sumN_modp]
  unfold fltS
  have e2 : sumN 8 (fun k => x k * (vecT B i k j + -(Z i) * unitV j k)) = sumN 8 (fun k => x k * vecT B i k j) + -(Z i) * x j := by
    have e4 : ∀ k, x k * (vecT B i k j + -(Z i) * unitV j k) = x k * vecT B i k j + -(Z i) * (unitV j k * x k) := fun k => by grind
    rw [sumN_congr 8 fun k _ => e4 k, sumN_add, ← sumN_mul, sumN_unit, if_pos hj]
  rw [e2]
  have e5 : sumN 8 (fun k => x k * vecT B i k j) + ((p : Int) - Z i) * x j = (sumN 8 (fun k => x k * vecT B i k j) + -(Z i) * x j) + p * x j := by grind
  rw [e5, Int.add_mul_emod_self_left]
theorem orth_inv {p n d : Nat} {U T C S B Z x : Nat → Int} (hV : HV p n U T Z C S) (hM : ModP p n d B) : OrthS p d (n * d) (fun r => irow p d B Z (r / d) (r % d)) x ↔ IntS p d B Z x := by
  have hd := hM.d8
  have hd1 := hM.d1
  have hn := hV.a.hn
  refine and_congr_right fun hx => ⟨fun h q hq => ?_, fun h r hr => ?_⟩
  · rw [faultF_at]
    by_cases e : q / 8 < n ∧ q % 8 < d
    · have hlt : q / 8 * d + q % 8 < n * d := by
        have := Nat.mul_le_mul_right d (show q / 8 + 1 ≤ n by omega)
        rw [Nat.add_mul, Nat.one_mul] at this
        omega
      have := h (q / 8 * d + q % 8) hlt
      have e1 : (q / 8 * d + q % 8) / d = q / 8 := by
        rw [Nat.mul_comm, Nat.mul_add_div (by omega), Nat.div_eq_of_lt e.2, Nat.add_zero]
      have e2 : (q / 8 * d + q % 8) % d = q % 8 := by
        rw [Nat.mul_comm, Nat.mul_add_mod, Nat.mod_eq_of_lt e.2]
      dsimp only at this
      rw [e1, e2, irow_sum hx _ (by omega)] at this
      exact this
    · unfold fltS
      rw [sumN_none 8 fun k hk => by rw [hM.zero (q / 8) k (q % 8) (by omega) hk (by omega) (by omega), Int.mul_zero]]
      by_cases e3 : n ≤ q / 8
      · rw [hV.c.uzero (q / 8) (by omega) e3]; simp
      · rw [hx.out (q % 8) (by omega) (by omega)]; simp
  · have h1 : r / d < n := Nat.div_lt_of_lt_mul (by rw [Nat.mul_comm]; exact hr)
    have h2 : r % d < d := Nat.mod_lt r (by omega)
    dsimp only
    rw [irow_sum hx _ (by omega)]
    have := h (r / d * 8 + r % d) (by omega)
    rw [faultF_at, show (r / d * 8 + r % d) / 8 = r / d by omega, show (r / d * 8 + r % d) % 8 = r % d by omega] at this
    exact this
/-- the rows that the model has written when it is at place k of row j -/
def InvF (p : Int) (d : Nat) (B Z : Nat → Int) (j k : Nat) (F : Nat → Int) : Prop := ∀ a b, b < d → a * d + b < j * d + k → ∀ i, i < 8 → partF F 8 (a * d + b) i = irow p d B Z a b i
theorem orth_congrI {p n m : Nat} {f f' : Nat → Nat → Int} (e : ∀ r, r < m → ∀ i, i < 8 → f r i = f' r i) (x : Nat → Int) : OrthS p n m f x ↔ OrthS p n m f' x := by
  refine and_congr_right fun _ => forall_congr' fun r => forall_congr' fun hr => ?_
  rw [sumN_congr 8 fun j hj => by rw [e r hr j hj]]
theorem back_oneI (m m' : Mem) {k : IntKind} {a n c id : Nat} {g : Nat → Int} (ha : a < m.length) (hb : blockOf m' id = some (.ints k n g, c)) : blockOf (backMem (nth [a] m.length) m [a] m') (nth [a] m.length id) = some (.ints k n g, c) := by
  cases id with
  | zero =>
    show blockOf (backGo _ [a] m' 0 m ++ _) a = _
    rw [blockOf_append_lt _ _ a (by rw [backGo_length]; exact ha), backGo_get _ _ _ m 0 a ha, Nat.zero_add]
    simp [memN, posIn, Nat.beq_refl, hb, renBlk, SV.ren]
  | succ j => exact back_ge _ m m' [a] (j := j) (by rw [show [a].length + j = j + 1 by rw [Nat.add_comm]; rfl]; exact hb)
theorem invF_add {p : Int} {d j k : Nat} {B Z F G N : Nat → Int} (hk : k < d) (hF : InvF p d B Z j k F) (h1 : ∀ q, q < (j * d + k) * 8 → G q = F q) (h2 : ∀ q, q < 8 → G ((j * d + k) * 8 + q) = N q) (hN : ∀ i, i < 8 → N i = irow p d B Z j k i) : InvF p d B Z j (k + 1) G := fun a b hb hlt i hi => by
  unfold partF
  by_cases e : a * d + b < j * d + k
  · rw [h1 _ (by omega)]
    exact hF a b hb e i hi
  · have e1 : a * d + b = j * d + k := by omega
    have e2 : a = j := by
      rcases Nat.lt_trichotomy a j with g | g | g
      · have := Nat.mul_le_mul_right d (show a + 1 ≤ j by omega)
        rw [Nat.add_mul, Nat.one_mul] at this
        omega
      · exact g
      · have := Nat.mul_le_mul_right d (show j + 1 ≤ a by omega)
        rw [Nat.add_mul, Nat.one_mul] at this
        omega
    subst e2
    obtain rfl : b = k := by omega
    rw [Nat.add_comm, h2 i hi]
    exact hN i hi
theorem l06Invariants_s (p n d : Nat) (U T Z C S B : Nat → Int) (hp : primeB (p : Int) = true) (hp2 : 2 ≤ p ∧ p ≤ 31) (hV : HV p n U T Z C S) (hM : ModP p n d B) (hB : isU8 512 B) :
    Spec Tryz.prog 16 [hopV p n U T Z C S, modV d B] [] (fun r m => ∃ id k c A, RedL p (IntS p d B Z) k A ∧ k ≤ c ∧ r = .sl id 0 k c ∧ blockOf m id = some (.ints .u8 (k * 8) A, c * 8)) := by
  have hn := hV.a.hn
  have hd := hM.d8
  have hZ := fun j (hj : j < 8) => hV.c.ult j hj
  refine (Spec.of_vc tabOK tabEq Tryz.func16 rfl (by kernel_rfl) rfl rfl ?_)
  refine LoopVC.of (fun x : Nat × Nat × (Nat → Int) => x.1 ≤ n ∧ x.1 * d ≤ x.2.1 ∧ InvF p d B Z x.1 0 x.2.2) (fun x => [(2, .ptr 0 [] 0 0), (3, .ptr 1 [] 0 0), (5, .sl 2 0 (x.1 * d) x.2.1), (6, .int .i64 x.1)])
    (fun x => [some (hopV p n U T Z C S, 1106), some (modV d B, 513), some (.ints .u8 (x.1 * d * 8) x.2.2, x.2.1 * 8)]) (fun x => n - x.1) (0, 0, fun _ => 0) ⟨Nat.zero_le _, by simp, fun a b hb hlt => by omega⟩ ?_ ?_ ?_
  · exact And.intro rfl (And.intro rfl (And.intro (by show SV.sl 2 0 0 0 = SV.sl 2 0 (0 * d) 0; rw [Nat.zero_mul]) (And.intro rfl trivial)))
  · exact And.intro (And.intro (hopR p n U T Z C S) rfl) (And.intro (And.intro (modR d B) rfl) (And.intro (And.intro ⟨⟨rfl, by simp⟩, fun q hq => by omega⟩ (by simp [SV.size])) trivial))
  rintro ⟨j, c', F⟩ ⟨hj, hc, hF⟩
  dsimp only at hj hc hF
  refine ifVC_split (fun hh1 => ?_) (fun hh1 => ?_)
  · have hjn : j < n := by have := of_decide_eq_true hh1; omega
    have hjn8 : j * d ≤ 64 := Nat.le_trans (Nat.mul_le_mul (show j ≤ 8 by omega) hd) (Nat.le_refl 64)
    refine LoopVC.of (fun y : Nat × Nat × (Nat → Int) => y.1 ≤ d ∧ j * d + y.1 ≤ y.2.1 ∧ InvF p d B Z j y.1 y.2.2) (fun y => [(2, .ptr 0 [] 0 0), (3, .ptr 1 [] 0 0), (5, .sl 2 0 (j * d + y.1) y.2.1), (6, .int .i64 j), (7, .int .i64 y.1)])
      (fun y => [some (hopV p n U T Z C S, 1106), some (modV d B, 513), some (.ints .u8 ((j * d + y.1) * 8) y.2.2, y.2.1 * 8)]) (fun y => d - y.1) (0, c', F) ⟨Nat.zero_le _, hc, hF⟩ ?_ ?_ ?_
    · exact (And.intro rfl (And.intro rfl (And.intro rfl (And.intro rfl (And.intro rfl (trivial))))))
    · exact And.intro (And.intro (hopR p n U T Z C S) rfl) (And.intro (And.intro (modR d B) rfl) (And.intro (And.intro (rowEq fun _ _ => rfl) rfl) trivial))
    rintro ⟨k, c', F⟩ ⟨hk, hc, hF⟩
    dsimp only at hk hc hF
    refine ifVC_split (fun hh2 => ?_) (fun hh2 => ?_)
    · have hkn : k < d := by have := of_decide_eq_true hh2; omega
      (repeat (first | refine And.intro (by omega) ?_ | refine And.intro ⟨by omega, by omega⟩ ?_))
      refine LoopVC.of (fun i : Nat => i ≤ d) (fun i => [(2, .ptr 0 [] 0 0), (3, .ptr 1 [] 0 0), (5, .sl 2 0 (j * d + k) c'), (6, .int .i64 j), (7, .int .i64 k), (8, .ptr 3 [] 0 0), (9, .int .i64 i)])
        (fun i => [some (hopV p n U T Z C S, 1106), some (modV d B, 513), some (.ints .u8 ((j * d + k) * 8) F, c' * 8), some (.ints .u8 8 fun q => if q < i then irow p d B Z j k q else 0, 8)]) (fun i => d - i) 0 (Nat.zero_le _) ?_ ?_ ?_
      · exact (And.intro rfl (And.intro rfl (And.intro rfl (And.intro rfl (And.intro rfl (And.intro rfl (And.intro rfl (trivial))))))))
      · refine And.intro (And.intro (hopR p n U T Z C S) rfl) (And.intro (And.intro (modR d B) rfl) (And.intro (And.intro (rowEq fun _ _ => rfl) rfl) (And.intro (And.intro (rowEq fun q hq => ?_) rfl) trivial)))
        show updR _ 0 8 _ q = _
        simp [updR, hq]
      intro i hi
      refine ifVC_split (fun hh3 => ?_) (fun hh3 => ?_)
      · have hin : i < d := by have := of_decide_eq_true hh3; omega
        have hidx : (i : Int).toNat = i := by omega
        have hCb := hB (j * 64 + i * 8 + k) (by omega)
        have hZj := hZ j (by omega)
        have hCi : IntKind.i64.wrap (B ((k : Int).toNat * 1 + ((i : Int).toNat * 8 + ((j : Int).toNat * 64 + 0)))) = B (j * 64 + i * 8 + k) := by
          rw [show (k : Int).toNat * 1 + ((i : Int).toNat * 8 + ((j : Int).toNat * 64 + 0)) = j * 64 + i * 8 + k by omega]; exact wrapI (by omega)
        have hgi : IntKind.i64.wrap (Z ((j : Int).toNat * 1 + 0)) = Z j := by
          rw [show (j : Int).toNat * 1 + 0 = j by omega]; exact wrapI (by omega)
        have fin : ∀ v : Int, v = irow p d B Z j k i → ∀ q, q < 8 → upd1 (fun q => if q < i then irow p d B Z j k q else 0) ((i : Int).toNat * 1 + 0) v q = if q < i + 1 then irow p d B Z j k q else 0 := fun v hv q hq => by
          rw [hidx]
          unfold upd1
          dsimp only
          by_cases e : q = i * 1 + 0
          · rw [if_pos e, if_pos (by omega), hv, show q = i by omega]
          · rw [if_neg e]
            by_cases e9 : q < i
            · rw [if_pos e9, if_pos (by omega)]
            · rw [if_neg e9, if_neg (by omega)]
        (repeat (first | refine And.intro (by omega) ?_ | refine And.intro ⟨by omega, by omega⟩ ?_))
        refine ifVC_split (fun e1 => ?_) (fun e1 => ?_)
        · have e1 : i = k := by have e1 : ((i : Int) == (k : Int)) = true := e1; have := eq_of_beq e1; omega
          (repeat (first | refine And.intro (by omega) ?_ | refine And.intro ⟨by omega, by omega⟩ ?_))
          have hx : IntKind.i64.wrap (IntKind.i64.wrap (B ((k : Int).toNat * 1 + ((i : Int).toNat * 8 + ((j : Int).toNat * 64 + 0)))) - IntKind.i64.wrap (Z ((j : Int).toNat * 1 + 0))) = B (j * 64 + i * 8 + k) - Z j := by
            rw [hCi, hgi]; exact wrapI (by omega)
          refine And.intro trivial (Spec.mono (l01Mod_s p _ (by omega) (by rw [hx]; omega)) ?_)
          rintro _ _ ⟨rfl, rfl⟩
          rw [hx]
          (repeat (first | refine And.intro (by omega) ?_ | refine And.intro ⟨by omega, by omega⟩ ?_))
          refine Exists.intro (i + 1) (And.intro (by omega) (And.intro (by omega) (And.intro (And.intro rfl (And.intro rfl (And.intro rfl (And.intro rfl (And.intro rfl (And.intro rfl (And.intro (slotI (wrapS (by omega))) trivial))))))) ?_)))
          refine And.intro (And.intro (hopR p n U T Z C S) rfl) (And.intro (And.intro (modR d B) rfl) (And.intro (And.intro (rowEq fun _ _ => rfl) rfl) (And.intro (And.intro (rowEq fun q hq => fin _ ?_ q hq) rfl) trivial)))
          unfold irow
          rw [if_pos hin, if_pos e1]
        · have e1 : ¬ i = k := fun e => by have e1 : ((i : Int) == (k : Int)) = false := e1; rw [e] at e1; simp at e1
          refine And.intro trivial (Spec.mono (l01Mod_s p _ (by omega) (by rw [hCi]; omega)) ?_)
          rintro _ _ ⟨rfl, rfl⟩
          rw [hCi]
          (repeat (first | refine And.intro (by omega) ?_ | refine And.intro ⟨by omega, by omega⟩ ?_))
          refine Exists.intro (i + 1) (And.intro (by omega) (And.intro (by omega) (And.intro (And.intro rfl (And.intro rfl (And.intro rfl (And.intro rfl (And.intro rfl (And.intro rfl (And.intro (slotI (wrapS (by omega))) trivial))))))) ?_)))
          refine And.intro (And.intro (hopR p n U T Z C S) rfl) (And.intro (And.intro (modR d B) rfl) (And.intro (And.intro (rowEq fun _ _ => rfl) rfl) (And.intro (And.intro (rowEq fun q hq => fin _ ?_ q hq) rfl) trivial)))
          unfold irow
          rw [if_pos hin, if_neg e1, Int.sub_zero]
      · have hin : i = d := by have := of_decide_eq_false hh3; omega
        subst hin
        have hN : ∀ q, q < 8 → (fun q => if q < i then irow p i B Z j k q else 0) q = irow p i B Z j k q := fun q hq => by
          dsimp only
          by_cases e : q < i
          · rw [if_pos e]
          · rw [if_neg e]; unfold irow; rw [if_neg (by omega)]
        (repeat (first | refine And.intro (by omega) ?_ | refine And.intro ⟨by omega, by omega⟩ ?_))
        refine Or.inl ?_
        refine And.intro ⟨by omega, rfl, by omega, by omega, by omega⟩ fun cap' hcap => ?_
        refine Exists.intro (k + 1, cap', snocF F (j * i + k) (fun q => if q < i then irow p i B Z j k q else 0)) (And.intro ⟨hkn, hcap, invF_add hkn hF (fun q hq => if_pos hq) (fun q hq => by show (if (j * i + k) * 8 + q < (j * i + k) * 8 then _ else (fun q => if q < i then irow p i B Z j k q else 0) ((j * i + k) * 8 + q - (j * i + k) * 8)) = _; rw [if_neg (by omega), show (j * i + k) * 8 + q - (j * i + k) * 8 = q by omega]) hN⟩ (And.intro (show i - (k + 1) < i - k by omega) (And.intro (And.intro rfl (And.intro rfl (And.intro rfl (And.intro rfl (And.intro (slotI (wrapS (by omega))) trivial))))) ?_)))
        refine And.intro (And.intro (hopR p n U T Z C S) rfl) (And.intro (And.intro (modR i B) rfl) (And.intro (And.intro (rowEq fun q hq => ?_) rfl) trivial))
        show appF F ((j * i + k) * 8) 0 (updR _ 0 8 fun q => (fun q => if q < i then irow p i B Z j k q else 0) (q + 0)) q = snocF F (j * i + k) (fun q => if q < i then irow p i B Z j k q else 0) q
        unfold appF snocF
        by_cases e : q < (j * i + k) * 8
        · rw [if_pos e, if_pos e]
        · rw [if_neg e, if_neg e]
          unfold updR
          rw [if_pos (by omega)]
          rfl
    · have hkn : k = d := by have := of_decide_eq_false hh2; omega
      subst hkn
      have e1 : (j + 1) * k = j * k + k := by rw [Nat.add_mul, Nat.one_mul]
      refine Exists.intro (j + 1, c', F) (And.intro ⟨hjn, show (j + 1) * k ≤ c' by omega, fun a b hb hlt => hF a b hb (by have hlt : a * k + b < (j + 1) * k + 0 := hlt; omega)⟩ (And.intro (show n - (j + 1) < n - j by omega) (And.intro (And.intro rfl (And.intro rfl (And.intro (by show SV.sl 2 0 (j * k + k) c' = SV.sl 2 0 ((j + 1) * k) c'; rw [e1]) (And.intro (slotI (wrapS (by omega))) trivial)))) ?_)))
      exact And.intro (And.intro (hopR p n U T Z C S) rfl) (And.intro (And.intro (modR k B) rfl) (And.intro (And.intro ⟨⟨rfl, by show (j * k + k) * 8 = (j + 1) * k * 8; rw [e1]⟩, fun q hq => rfl⟩ rfl) trivial))
  · have hjn : j = n := by have := of_decide_eq_false hh1; omega
    subst hjn
    have hd1 := hM.d1
    have hR : ∀ r, r < j * d → ∀ i, i < 8 → partF F 8 r i = irow p d B Z (r / d) (r % d) i := fun r hr i hi => by
      have := hF (r / d) (r % d) (Nat.mod_lt r (by omega)) (by have := Nat.div_add_mod r d; rw [Nat.mul_comm] at this; omega) i hi
      rwa [show r / d * d + r % d = r by rw [Nat.mul_comm]; exact Nat.div_add_mod r d] at this
    have hjj : j * d ≤ 64 := Nat.le_trans (Nat.mul_le_mul (show j ≤ 8 by omega) hd) (Nat.le_refl 64)
    have hVr : ∀ r, r < j * d → VecP p d (partF F 8 r) := fun r hr => ⟨fun i hi => by
      rw [hR r hr i hi]; unfold irow
      split
      · exact mod_rng (by omega) _
      · omega, fun i h1 h2 => by rw [hR r hr i h2]; unfold irow; rw [if_neg (by omega)]⟩
    refine And.intro (And.intro rfl trivial) (Spec.mono (l02Null_s p d (j * d) c' F hp hp2 hd (by omega) hVr) ?_)
    rintro _ _ ⟨id, k2, c2, A2, hR2, hk2, rfl, hb⟩
    exact ⟨_, k2, c2, A2, hR2.of_iff fun x => (orth_congrI (fun r hr i hi => hR r hr i hi) x).trans (orth_inv hV hM), hk2, rfl, back_oneI _ _ (Nat.lt_succ_self 2) hb⟩
section
variable (p n : Int) (U T Z C S : Nat → Int) (hU : isU8 8 U) (hT : isU8 512 T) (hZ : isU8 8 Z) (hC : isU8 512 C) (hS : isU8 64 S) (d : Int) (B : Nat → Int) (hB : isU8 512 B)
include hU hT hZ hC hS hB
theorem specInv_s : Spec Tryz.prog 5 [hopV p n U T Z C S, modV d B] [] (ListR false (hmCode p n U T Z C S d B) p.toNat (IntS p.toNat d.toNat B Z)) := by
  refine ListQ.one (Spec.of_vc tabOK tabEq Tryz.func5 rfl (by kernel_rfl) rfl rfl ?_)
  refine And.intro (And.intro rfl trivial) (Spec.mono (l06Code1_s p n U T Z C S hU hT hZ hC hS d B hB) ?_)
  rintro r m ⟨rfl, rfl⟩
  refine ifVC_split (fun h => ?_) (fun h => ?_)
  · have h : hmB p n U T Z C S d B = false := code_bad h
    exact .inl ⟨by unfold hmCode; rw [h]; simp, by unfold hmCode; rw [h]; rfl⟩
  have h : hmB p n U T Z C S d B = true := code_ok h
  have hcode : hmCode p n U T Z C S d B = 0 := by unfold hmCode; rw [if_pos h]
  rw [hcode]
  obtain ⟨n, d, rfl, rfl, hV, hpr, hM, hmd⟩ := hm_spec p n U T Z C S hU hT hZ hC hS d B hB h
  obtain ⟨p, rfl⟩ := Int.eq_ofNat_of_zero_le (show 0 ≤ p by have := hV.a.hp; omega)
  have hp : primeB (p : Int) = true := hpr
  have hp2 : 2 ≤ p ∧ p ≤ 31 := by have := primeB_rngI hp; omega
  simp only [Int.toNat_natCast]
  refine And.intro trivial (Spec.mono (l06Invariants_s p n d U T Z C S B hp hp2 hV hM hB) ?_)
  rintro _ _ ⟨id, k2, c2, A2, hR2, hk2, rfl, hb⟩
  exact .inr (.inl ⟨rfl, _, k2, c2, A2, fun h => Bool.noConfusion h, rfl, hR2, hk2, back_new _ _ hb⟩)
end
end Go.Proofs.YtjanlnngeklhoabGreat

/- InvariantsOf: the law. -/
set_option linter.unusedVariables false
set_option linter.unusedSimpArgs false
set_option linter.unusedSectionVars false
set_option maxRecDepth 100000
set_option maxHeartbeats 8000000
namespace Go.Proofs.YtjanlnngeklhoabGreat
open M

theorem readVC_ex {T : Tab} {s : Slots} {m : Mem} {x : Operand} {i : Nat} {v w : SV} {Kv : SV → Prop} (hx : ev s x = some v) (hw : tupleAt v i = some w) (hk : Kv w) : readVC T (.extract x i) s m Kv := by
  simp only [readVC, hx, hw]
  exact hk
theorem lawInv_c (p n : Int) (U T Z C S : Nat → Int) (hU : isU8 8 U) (hT : isU8 512 T) (hZ : isU8 8 Z) (hC : isU8 512 C) (hS : isU8 64 S) (d : Int) (B : Nat → Int) (hB : isU8 512 B) : Spec Tryz.prog 3 [hopV p n U T Z C S, modV d B] [] (Ret (.bool true)) := by
  refine Spec.ret rfl (Spec.of_vc tabOK tabEq Tryz.func3 rfl (by kernel_rfl) rfl rfl ?_)
  have hp1 : hmCode p n U T Z C S d B = 0 → 1 < (p.toNat : Int) := fun h0 => by
    by_cases hc : hmB p n U T Z C S d B = true
    · obtain ⟨_, _, _, _, _, hpr, _, _⟩ := hm_spec p n U T Z C S hU hT hZ hC hS d B hB hc
      have := primeB_rngI hpr
      omega
    · unfold hmCode at h0; rw [if_neg hc] at h0; omega
  refine Exists.intro 10509 (And.intro (by kernel_rfl) ?_)
  refine readsAt_step rfl (by rfl) ?_
  refine readVC_loadF (v := hopV p n U T Z C S) (z := hopV p n U T Z C S) rfl rfl rfl rfl (fun _ h => h) ?_
  refine readsAt_step rfl (by rfl) ?_
  refine readVC_loadF (v := modV d B) (z := modV d B) rfl rfl rfl rfl (fun _ h => h) ?_
  refine readsAt_nil ?_
  refine restVC_val (i := 1) rfl (by rfl) rfl rfl rfl rfl rfl rfl (fun _ => rfl) (fun _ => rfl) (toHopf_s p n U T Z C S) ?_
  refine restVC_val (i := 3) rfl (by rfl) rfl rfl rfl rfl rfl rfl (fun _ => rfl) (fun _ => rfl) (toModule_s d B) ?_
  refine restVC_call (i := 4) rfl (by rfl) rfl rfl rfl rfl rfl ?_
  refine And.intro trivial (Spec.mono (specInv_s p n U T Z C S hU hT hZ hC hS d B hB) ?_)
  rintro r m (⟨he, rfl, rfl⟩ | ⟨he, k0, c0, A0, _, rfl, hR0, rfl⟩ | ⟨_, hf, _⟩) <;> first | (refine And.intro (by repeat (first | exact trivial | refine And.intro rfl ?_)) ?_; refine restVC_nil ?_; refine readsAt_step rfl (by rfl) ?_; refine readVC_mv rfl ?_; refine readsAt_step rfl (by rfl) ?_; refine readVC_ex rfl rfl ?_; refine readsAt_step rfl (by rfl) ?_; refine readVC_ex rfl rfl ?_; refine readsAt_step rfl (by rfl) ?_; refine readVC_as rfl ?_; refine readsAt_nil ?_) | skip
  · -- an error on both sides
    change opsVC _ _ _ _ _ _ [some (hopV p n U T Z C S, 1106), some (modV d B, 513)] _
    refine Exists.intro 10509 (And.intro (by kernel_rfl) ?_)
    refine readsAt_step rfl (by rfl) ?_
    refine readVC_loadF (v := hopV p n U T Z C S) (z := hopV p n U T Z C S) rfl rfl rfl rfl (fun _ h => h) ?_
    refine readsAt_step rfl (by rfl) ?_
    refine readVC_loadF (v := modV d B) (z := modV d B) rfl rfl rfl rfl (fun _ h => h) ?_
    refine readsAt_nil ?_
    refine restVC_val (i := 1) rfl (by rfl) rfl rfl rfl rfl rfl rfl (fun _ => rfl) (fun _ => rfl) (toHopf_s p n U T Z C S) ?_
    refine restVC_val (i := 3) rfl (by rfl) rfl rfl rfl rfl rfl rfl (fun _ => rfl) (fun _ => rfl) (toModule_s d B) ?_
    refine restVC_call (i := 4) rfl (by rfl) rfl rfl rfl rfl rfl ?_
    refine And.intro trivial (Spec.mono (implInv_s p n U T Z C S hU hT hZ hC hS d B hB) ?_)
    rintro r m (⟨_, rfl, rfl⟩ | ⟨he', _⟩ | ⟨he', _⟩) <;> first | (refine And.intro (by repeat (first | exact trivial | refine And.intro rfl ?_)) ?_; refine restVC_nil ?_; refine readsAt_step rfl (by rfl) ?_; refine readVC_mv rfl ?_; refine readsAt_step rfl (by rfl) ?_; refine readVC_ex rfl rfl ?_; refine readsAt_step rfl (by rfl) ?_; refine readVC_ex rfl rfl ?_; refine readsAt_step rfl (by rfl) ?_; refine readVC_as rfl ?_; refine readsAt_nil ?_) | skip
    rotate_left
    · exact absurd he' he
    · exact absurd he' he
    refine And.intro trivial (Spec.mono (eqVecsNil_s) ?_)
    rintro r m ⟨rfl, rfl⟩
    refine ifVC_false (by simp) ?_
    refine And.intro trivial (Spec.mono (markVecsNil_s 101) ?_)
    rintro r m ⟨rfl, rfl⟩
    refine And.intro trivial (Spec.mono (heldVecsNil_s 101) ?_)
    rintro r m ⟨rfl, rfl⟩
    change opsVC _ _ _ _ _ _ [some (hopV p n U T Z C S, 1106), some (modV d B, 513)] _
    refine Exists.intro 10509 (And.intro (by kernel_rfl) ?_)
    refine readsAt_step rfl (by rfl) ?_
    refine readVC_loadF (v := hopV p n U T Z C S) (z := hopV p n U T Z C S) rfl rfl rfl rfl (fun _ h => h) ?_
    refine readsAt_step rfl (by rfl) ?_
    refine readVC_loadF (v := modV d B) (z := modV d B) rfl rfl rfl rfl (fun _ h => h) ?_
    refine readsAt_nil ?_
    refine restVC_val (i := 1) rfl (by rfl) rfl rfl rfl rfl rfl rfl (fun _ => rfl) (fun _ => rfl) (toHopf_s p n U T Z C S) ?_
    refine restVC_val (i := 3) rfl (by rfl) rfl rfl rfl rfl rfl rfl (fun _ => rfl) (fun _ => rfl) (toModule_s d B) ?_
    refine restVC_call (i := 4) rfl (by rfl) rfl rfl rfl rfl rfl ?_
    refine And.intro trivial (Spec.mono (implInv_s p n U T Z C S hU hT hZ hC hS d B hB) ?_)
    rintro r m (⟨_, rfl, rfl⟩ | ⟨he', _⟩ | ⟨he', _⟩) <;> first | (refine And.intro (by repeat (first | exact trivial | refine And.intro rfl ?_)) ?_; refine restVC_nil ?_; refine readsAt_step rfl (by rfl) ?_; refine readVC_mv rfl ?_; refine readsAt_step rfl (by rfl) ?_; refine readVC_ex rfl rfl ?_; refine readsAt_step rfl (by rfl) ?_; refine readVC_ex rfl rfl ?_; refine readsAt_step rfl (by rfl) ?_; refine readVC_as rfl ?_; refine readsAt_nil ?_) | skip
    rotate_left
    · exact absurd he' he
    · exact absurd he' he
    refine And.intro trivial (Spec.mono (eqVecsNil_s) ?_)
    rintro r m ⟨rfl, rfl⟩
    refine ifVC_false (by simp) ?_
    refine And.intro trivial (Spec.mono (heldVecsNil_s 101) ?_)
    rintro r m ⟨rfl, rfl⟩
    exact boolEq rfl
  · -- a list
    have hk0 : k0 ≤ 8 := red_k hR0
    have uniq := fun k A (h : RedL _ _ k A) => redL_uniq (hp1 he) (int_space (by have := hp1 he; omega)) hR0 h
    change opsVC _ _ _ _ _ _ [some (hopV p n U T Z C S, 1106), some (modV d B, 513), some (.ints .u8 (k0 * 8) A0, c0 * 8)] _
    refine Exists.intro 10509 (And.intro (by kernel_rfl) ?_)
    refine readsAt_step rfl (by rfl) ?_
    refine readVC_loadF (v := hopV p n U T Z C S) (z := hopV p n U T Z C S) rfl rfl rfl rfl (fun _ h => h) ?_
    refine readsAt_step rfl (by rfl) ?_
    refine readVC_loadF (v := modV d B) (z := modV d B) rfl rfl rfl rfl (fun _ h => h) ?_
    refine readsAt_nil ?_
    refine restVC_val (i := 1) rfl (by rfl) rfl rfl rfl rfl rfl rfl (fun _ => rfl) (fun _ => rfl) (toHopf_s p n U T Z C S) ?_
    refine restVC_val (i := 3) rfl (by rfl) rfl rfl rfl rfl rfl rfl (fun _ => rfl) (fun _ => rfl) (toModule_s d B) ?_
    refine restVC_call (i := 4) rfl (by rfl) rfl rfl rfl rfl rfl ?_
    refine And.intro trivial (Spec.mono (implInv_s p n U T Z C S hU hT hZ hC hS d B hB) ?_)
    rintro r m (⟨he', _⟩ | ⟨_, k1, c1, A1, hk1, rfl, hR1, rfl⟩ | ⟨_, _, A1, rfl, hR1, rfl⟩) <;> first | (refine And.intro (by repeat (first | exact trivial | refine And.intro rfl ?_)) ?_; refine restVC_nil ?_; refine readsAt_step rfl (by rfl) ?_; refine readVC_mv rfl ?_; refine readsAt_step rfl (by rfl) ?_; refine readVC_ex rfl rfl ?_; refine readsAt_step rfl (by rfl) ?_; refine readVC_ex rfl rfl ?_; refine readsAt_step rfl (by rfl) ?_; refine readVC_as rfl ?_; refine readsAt_nil ?_) | skip
    · exact absurd he he'
    rotate_left
    · obtain ⟨hz, _⟩ := uniq _ _ hR1
      subst hz
      change opsVC _ _ _ _ _ _ [some (hopV p n U T Z C S, 1106), some (modV d B, 513), some (.ints .u8 (0 * 8) A0, c0 * 8)] _
      refine And.intro (And.intro rfl trivial) (Spec.mono (eqVecsEmpty_s c0 (c0 * 8) A0) ?_)
      rintro r m ⟨rfl, rfl⟩
      change opsVC _ _ _ _ _ _ [some (hopV p n U T Z C S, 1106), some (modV d B, 513), some (.ints .u8 (0 * 8) A0, c0 * 8)] _
      refine And.intro trivial (Spec.mono (markVecsNil_s 101) ?_)
      rintro r m ⟨rfl, rfl⟩
      refine And.intro trivial (Spec.mono (heldVecsNil_s 101) ?_)
      rintro r m ⟨rfl, rfl⟩
      change opsVC _ _ _ _ _ _ [some (hopV p n U T Z C S, 1106), some (modV d B, 513), some (.ints .u8 (0 * 8) A0, c0 * 8)] _
      refine Exists.intro 10509 (And.intro (by kernel_rfl) ?_)
      refine readsAt_step rfl (by rfl) ?_
      refine readVC_loadF (v := hopV p n U T Z C S) (z := hopV p n U T Z C S) rfl rfl rfl rfl (fun _ h => h) ?_
      refine readsAt_step rfl (by rfl) ?_
      refine readVC_loadF (v := modV d B) (z := modV d B) rfl rfl rfl rfl (fun _ h => h) ?_
      refine readsAt_nil ?_
      refine restVC_val (i := 1) rfl (by rfl) rfl rfl rfl rfl rfl rfl (fun _ => rfl) (fun _ => rfl) (toHopf_s p n U T Z C S) ?_
      refine restVC_val (i := 3) rfl (by rfl) rfl rfl rfl rfl rfl rfl (fun _ => rfl) (fun _ => rfl) (toModule_s d B) ?_
      refine restVC_call (i := 4) rfl (by rfl) rfl rfl rfl rfl rfl ?_
      refine And.intro trivial (Spec.mono (implInv_s p n U T Z C S hU hT hZ hC hS d B hB) ?_)
      rintro r m (⟨he', _⟩ | ⟨_, k2, c2, A2, hk2, rfl, hR2, rfl⟩ | ⟨_, _, A2, rfl, hR2, rfl⟩) <;> first | (refine And.intro (by repeat (first | exact trivial | refine And.intro rfl ?_)) ?_; refine restVC_nil ?_; refine readsAt_step rfl (by rfl) ?_; refine readVC_mv rfl ?_; refine readsAt_step rfl (by rfl) ?_; refine readVC_ex rfl rfl ?_; refine readsAt_step rfl (by rfl) ?_; refine readVC_ex rfl rfl ?_; refine readsAt_step rfl (by rfl) ?_; refine readVC_as rfl ?_; refine readsAt_nil ?_) | skip
      · exact absurd he he'
      · obtain ⟨hz, _⟩ := uniq _ _ hR2; exact absurd hz.symm (hk2 rfl)
      change opsVC _ _ _ _ _ _ [some (hopV p n U T Z C S, 1106), some (modV d B, 513), some (.ints .u8 (0 * 8) A0, c0 * 8)] _
      refine And.intro (And.intro rfl trivial) (Spec.mono (eqVecsEmpty_s c0 (c0 * 8) A0) ?_)
      rintro r m ⟨rfl, rfl⟩
      change opsVC _ _ _ _ _ _ [some (hopV p n U T Z C S, 1106), some (modV d B, 513), some (.ints .u8 (0 * 8) A0, c0 * 8)] _
      refine And.intro trivial (Spec.mono (heldVecsNil_s 101) ?_)
      rintro r m ⟨rfl, rfl⟩
      exact boolEq rfl
    obtain ⟨hz, hA⟩ := uniq _ _ hR1
    subst hz
    change opsVC _ _ _ _ _ _ [some (hopV p n U T Z C S, 1106), some (modV d B, 513), some (.ints .u8 (k0 * 8) A0, c0 * 8), some (.ints .u8 (k0 * 8) A1, c1 * 8)] _
    refine And.intro (And.intro rfl (And.intro rfl trivial)) (Spec.mono (eqVecs_s k0 c1 c0 A1 A0 (by omega) (fun j hj => (hA j hj).symm)) ?_)
    rintro r m ⟨rfl, rfl⟩
    change opsVC _ _ _ _ _ _ [some (hopV p n U T Z C S, 1106), some (modV d B, 513), some (.ints .u8 (k0 * 8) A0, c0 * 8), some (.ints .u8 (k0 * 8) A1, c1 * 8)] _
    refine And.intro (And.intro rfl trivial) (Spec.mono (markVecs_s k0 c1 101 A1 (by omega) (by omega)) ?_)
    rintro r m ⟨rfl, rfl⟩
    change opsVC _ _ _ _ _ _ [some (hopV p n U T Z C S, 1106), some (modV d B, 513), some (.ints .u8 (k0 * 8) A0, c0 * 8), some (.ints .u8 (k0 * 8) (markF 101), c1 * 8)] _
    refine And.intro (And.intro rfl trivial) (Spec.mono (heldVecs_s k0 c1 101 (by omega) (by omega)) ?_)
    rintro r m ⟨rfl, rfl⟩
    change opsVC _ _ _ _ _ _ [some (hopV p n U T Z C S, 1106), some (modV d B, 513), some (.ints .u8 (k0 * 8) A0, c0 * 8), some (.ints .u8 (k0 * 8) (markF 101), c1 * 8)] _
    refine ifVC_false (by simp) ?_
    refine Exists.intro 10509 (And.intro (by kernel_rfl) ?_)
    refine readsAt_step rfl (by rfl) ?_
    refine readVC_loadF (v := hopV p n U T Z C S) (z := hopV p n U T Z C S) rfl rfl rfl rfl (fun _ h => h) ?_
    refine readsAt_step rfl (by rfl) ?_
    refine readVC_loadF (v := modV d B) (z := modV d B) rfl rfl rfl rfl (fun _ h => h) ?_
    refine readsAt_nil ?_
    refine restVC_val (i := 1) rfl (by rfl) rfl rfl rfl rfl rfl rfl (fun _ => rfl) (fun _ => rfl) (toHopf_s p n U T Z C S) ?_
    refine restVC_val (i := 3) rfl (by rfl) rfl rfl rfl rfl rfl rfl (fun _ => rfl) (fun _ => rfl) (toModule_s d B) ?_
    refine restVC_call (i := 4) rfl (by rfl) rfl rfl rfl rfl rfl ?_
    refine And.intro trivial (Spec.mono (implInv_s p n U T Z C S hU hT hZ hC hS d B hB) ?_)
    rintro r m (⟨he', _⟩ | ⟨_, k2, c2, A2, hk2, rfl, hR2, rfl⟩ | ⟨_, _, A2, rfl, hR2, rfl⟩) <;> first | (refine And.intro (by repeat (first | exact trivial | refine And.intro rfl ?_)) ?_; refine restVC_nil ?_; refine readsAt_step rfl (by rfl) ?_; refine readVC_mv rfl ?_; refine readsAt_step rfl (by rfl) ?_; refine readVC_ex rfl rfl ?_; refine readsAt_step rfl (by rfl) ?_; refine readVC_ex rfl rfl ?_; refine readsAt_step rfl (by rfl) ?_; refine readVC_as rfl ?_; refine readsAt_nil ?_) | skip
    · exact absurd he he'
    rotate_left
    · obtain ⟨hz, _⟩ := uniq _ _ hR2; exact absurd hz (hk1 rfl)
    obtain ⟨hz, hA2⟩ := uniq _ _ hR2
    subst hz
    change opsVC _ _ _ _ _ _ [some (hopV p n U T Z C S, 1106), some (modV d B, 513), some (.ints .u8 (k0 * 8) A0, c0 * 8), some (.ints .u8 (k0 * 8) (markF 101), c1 * 8), some (.ints .u8 (k0 * 8) A2, c2 * 8)] _
    refine And.intro (And.intro rfl (And.intro rfl trivial)) (Spec.mono (eqVecs_s k0 c2 c0 A2 A0 (by omega) (fun j hj => (hA2 j hj).symm)) ?_)
    rintro r m ⟨rfl, rfl⟩
    change opsVC _ _ _ _ _ _ [some (hopV p n U T Z C S, 1106), some (modV d B, 513), some (.ints .u8 (k0 * 8) A0, c0 * 8), some (.ints .u8 (k0 * 8) (markF 101), c1 * 8), some (.ints .u8 (k0 * 8) A2, c2 * 8)] _
    refine And.intro (And.intro rfl trivial) (Spec.mono (heldVecs_s k0 c1 101 (by omega) (by omega)) ?_)
    rintro r m ⟨rfl, rfl⟩
    change opsVC _ _ _ _ _ _ [some (hopV p n U T Z C S, 1106), some (modV d B, 513), some (.ints .u8 (k0 * 8) A0, c0 * 8), some (.ints .u8 (k0 * 8) (markF 101), c1 * 8), some (.ints .u8 (k0 * 8) A2, c2 * 8)] _
    refine ifVC_false (by simp) ?_
    exact boolEq rfl
  · cases hf
end Go.Proofs.YtjanlnngeklhoabGreat
