/- Lists of one module and of two, on both sides. -/
import Derived.Test.YtegcfjfhpodlmaaMod3
set_option linter.unusedVariables false
set_option linter.unusedSimpArgs false
set_option maxRecDepth 100000
set_option maxHeartbeats 1000000
namespace Go.Proofs.Ytegcfjfhpodlmaa
open M

section
variable (p n : Int) (U T Z C S : Nat → Int) (hU : isU8 8 U) (hT : isU8 512 T) (hZ : isU8 8 Z) (hC : isU8 512 C) (hS : isU8 64 S)
include hU hT hZ hC hS

theorem l06Code1_s (d : Int) (A : Nat → Int) (hA : isU8 512 A) :
    Spec Try.prog 18 [hopV p n U T Z C S, .sl 0 0 1 1] [some (.pair (modV d A) .unit, 513)] (fun r m => r = .int .i64 (if hmB p n U T Z C S d A = true then 0 else 1) ∧ m = [some (.pair (modV d A) .unit, 513)]) := by
  have mR : SV.eqv (.pair (modV d A) .unit) (.pair (modV d A) .unit) := And.intro (modR d A) rfl
  refine Spec.cut (Nat.le_refl _) (by simp [SV.ids]) (fun id u c hb => by cases id <;> cases hb; simp [SV.ids, modV]) (Spec.of_vc tabOK tabEq Try.func18 rfl (by kernel_rfl) rfl rfl ?_)
  refine And.intro trivial (Spec.mono (l03Is_s p n U T Z C S hU hT hZ hC hS) ?_)
  rintro r m ⟨rfl, rfl⟩
  refine ifVC_split (fun ha => ?_) (fun ha => ?_)
  · have ha : hopB p n U T Z C S = false := by simpa using ha
    exact And.intro (slotI (by unfold hmB; rw [ha]; rfl)) (And.intro (And.intro mR rfl) trivial)
  have ha : hopB p n U T Z C S = true := by simpa using ha
  obtain ⟨n, rfl, hV, hpr⟩ := hop_valid p n U T Z C S hU hT hZ hC hS ha
  refine LoopVC.of (fun i : Nat => i ≤ 1 ∧ (1 ≤ i → mdlB p n d U T A = true)) (fun i => [(1, .sl 0 0 1 1), (2, .ptr 1 [] 0 0), (5, .int .i64 i)]) (fun _ => [some (.pair (modV d A) .unit, 513), some (hopV p n U T Z C S, 1106)]) (fun i => 1 - i) 0 ⟨by omega, fun h => by omega⟩ ?_ ?_ ?_
  · exact (And.intro rfl (And.intro rfl (And.intro rfl (trivial))))
  · exact And.intro (And.intro mR rfl) (And.intro (And.intro (hopR p n U T Z C S) rfl) trivial)
  · rintro i ⟨hi, hall⟩
    refine ifVC_split (fun h => ?_) (fun h => ?_)
    · have hlt := of_decide_eq_true h
      obtain rfl : i = 0 := by omega
      refine Exists.intro 6 (And.intro (by kernel_rfl) ?_)
      (repeat (first | refine And.intro (by omega) ?_ | refine And.intro ⟨by omega, by omega⟩ ?_))
      refine Exists.intro (.bool (mdlB p n d U T A)) (And.intro (And.intro rfl (And.intro rfl (Spec.mono (l06Holds_s p n d U T Z C S _ hV hpr hA) fun r m h => h.1))) ?_)
      refine ifVC_split (fun hk => ?_) (fun hk => ?_)
      · have hk : mdlB p n d U T A = false := by simpa using hk
        exact And.intro (slotI (by unfold hmB; rw [hk]; simp)) (And.intro (And.intro mR rfl) trivial)
      have hk : mdlB p n d U T A = true := by simpa using hk
      refine Exists.intro 1 (And.intro ⟨by omega, fun _ => hk⟩ (And.intro (by omega) (And.intro (And.intro rfl (And.intro rfl (And.intro rfl trivial))) (And.intro (And.intro mR rfl) (And.intro (And.intro (hopR p n U T Z C S) rfl) trivial)))))
    · have hge := of_decide_eq_false h
      exact And.intro (slotI (by unfold hmB; rw [ha, hall (by omega)]; rfl)) (And.intro (And.intro mR rfl) trivial)

/-- a Hopf algebra and two modules of it -/
def hm2B (p n : Int) (U T Z C S : Nat → Int) (d : Int) (A : Nat → Int) (e : Int) (B : Nat → Int) : Bool := hopB p n U T Z C S && (mdlB p n d U T A && mdlB p n e U T B)

theorem areModules2_s (d : Int) (A : Nat → Int) (hA : isU8 512 A) (e1 : Int) (B : Nat → Int) (hB : isU8 512 B) :
    Spec Try.prog 25 [hopV p n U T Z C S, .sl 0 0 2 2] [some (.pair (modV d A) (.pair (modV e1 B) .unit), 1026)] (fun r m => r = .bool (hm2B p n U T Z C S d A e1 B) ∧ m = [some (.pair (modV d A) (.pair (modV e1 B) .unit), 1026)]) := by
  have mR : SV.eqv (.pair (modV d A) (.pair (modV e1 B) .unit)) (.pair (modV d A) (.pair (modV e1 B) .unit)) := And.intro (modR d A) (And.intro (modR e1 B) rfl)
  refine Spec.cut (Nat.le_refl _) (by simp [SV.ids]) (fun id u c hb => by cases id <;> cases hb; simp [SV.ids, modV]) (Spec.of_vc tabOK tabEq Try.func25 rfl (by kernel_rfl) rfl rfl ?_)
  refine And.intro trivial (Spec.mono (isHopf_s p n U T Z C S hU hT hZ hC hS) ?_)
  rintro r m ⟨rfl, rfl⟩
  refine ifVC_split (fun ha => ?_) (fun ha => ?_)
  · have ha : hopB p n U T Z C S = false := by simpa using ha
    exact And.intro (boolEq (by unfold hm2B; rw [ha]; rfl)) (And.intro (And.intro mR rfl) trivial)
  have ha : hopB p n U T Z C S = true := by simpa using ha
  obtain ⟨n, rfl, hV, hpr⟩ := hop_valid p n U T Z C S hU hT hZ hC hS ha
  refine LoopVC.of (fun i : Nat => i ≤ 2 ∧ (1 ≤ i → mdlB p n d U T A = true) ∧ (2 ≤ i → mdlB p n e1 U T B = true)) (fun i => [(2, .ptr 1 [] 0 0), (10, .sl 0 0 2 2), (11, .int .i64 2), (12, .int .i64 i)]) (fun _ => [some (.pair (modV d A) (.pair (modV e1 B) .unit), 1026), some (hopV p n U T Z C S, 1106)]) (fun i => 2 - i) 0 ⟨by omega, fun h => by omega, fun h => by omega⟩ ?_ ?_ ?_
  · exact (And.intro rfl (And.intro rfl (And.intro rfl (And.intro rfl (trivial)))))
  · exact And.intro (And.intro mR rfl) (And.intro (And.intro (hopR p n U T Z C S) rfl) trivial)
  · rintro i ⟨hi, hall1, hall2⟩
    refine ifVC_split (fun h => ?_) (fun h => ?_)
    · have hlt := of_decide_eq_true h
      rcases (by omega : i = 0 ∨ i = 1) with rfl | rfl
      · (repeat (first | refine And.intro (by omega) ?_ | refine And.intro ⟨by omega, by omega⟩ ?_))
        cases hf : fieldB p d with
        | false =>
          refine And.intro trivial (Spec.mono (isTableNo_s p n d _ hf (fun q hq => hA _ (by omega))) ?_)
          rintro r m ⟨rfl, rfl⟩
          have hb : mdlB p n d U T A = false := by unfold mdlB; rw [hf]; rfl
          exact And.intro (boolEq (by unfold hm2B; rw [hb]; simp)) (And.intro (And.intro mR rfl) trivial)
        | true =>
          refine And.intro trivial (Spec.mono (isTableC_s p n d _ hf (fun q hq => hA _ (by omega))) ?_)
          rintro r m ⟨rfl, rfl⟩
          obtain ⟨k, hk0⟩ : ∃ e : Nat, d = e := ⟨(d).toNat, by have := (field_bounds hf).2; omega⟩
          refine ifVC_split (fun hc => ?_) (fun hc => ?_)
          · have hc : tabCB p n d A = false := by simpa using hc
            have hb : mdlB p n d U T A = false := by unfold mdlB; rw [hc]; simp
            exact And.intro (boolEq (by unfold hm2B; rw [hb]; simp)) (And.intro (And.intro mR rfl) trivial)
          have hc : tabCB p n d A = true := by simpa using hc
          have hM : ModP p n k A := mod_of hA (by rw [← hk0]; exact hf) (by rw [← hk0]; exact hc)
          have hks : Spec Try.prog 41 [hopV p n U T Z C S, modV d A] [] (Ret (.bool (keepB p n k U T A))) := by rw [hk0]; exact keepsActions_s p n k U T Z C S _ hV hA hM.d8
          refine And.intro trivial (Spec.mono hks ?_)
          rintro r m ⟨rfl, rfl⟩
          have e : mdlB p n d U T A = keepB p n k U T A := by unfold mdlB; rw [hf, hc, hk0]; simp
          refine ifVC_split (fun hk => ?_) (fun hk => ?_)
          · have hk : keepB p n k U T A = false := by simpa using hk
            exact And.intro (boolEq (by unfold hm2B; rw [e, hk]; simp)) (And.intro (And.intro mR rfl) trivial)
          have hk : keepB p n k U T A = true := by simpa using hk
          refine Exists.intro 1 (And.intro ⟨by omega, fun _ => by rw [e]; exact hk, fun h => by omega⟩ (And.intro (by omega) (And.intro (And.intro rfl (And.intro rfl (And.intro rfl (And.intro rfl trivial)))) (And.intro (And.intro mR rfl) (And.intro (And.intro (hopR p n U T Z C S) rfl) trivial)))))
      · (repeat (first | refine And.intro (by omega) ?_ | refine And.intro ⟨by omega, by omega⟩ ?_))
        cases hf : fieldB p e1 with
        | false =>
          refine And.intro trivial (Spec.mono (isTableNo_s p n e1 _ hf (fun q hq => hB _ (by omega))) ?_)
          rintro r m ⟨rfl, rfl⟩
          have hb : mdlB p n e1 U T B = false := by unfold mdlB; rw [hf]; rfl
          exact And.intro (boolEq (by unfold hm2B; rw [hb]; simp)) (And.intro (And.intro mR rfl) trivial)
        | true =>
          refine And.intro trivial (Spec.mono (isTableC_s p n e1 _ hf (fun q hq => hB _ (by omega))) ?_)
          rintro r m ⟨rfl, rfl⟩
          obtain ⟨k, hk0⟩ : ∃ e : Nat, e1 = e := ⟨(e1).toNat, by have := (field_bounds hf).2; omega⟩
          refine ifVC_split (fun hc => ?_) (fun hc => ?_)
          · have hc : tabCB p n e1 B = false := by simpa using hc
            have hb : mdlB p n e1 U T B = false := by unfold mdlB; rw [hc]; simp
            exact And.intro (boolEq (by unfold hm2B; rw [hb]; simp)) (And.intro (And.intro mR rfl) trivial)
          have hc : tabCB p n e1 B = true := by simpa using hc
          have hM : ModP p n k B := mod_of hB (by rw [← hk0]; exact hf) (by rw [← hk0]; exact hc)
          have hks : Spec Try.prog 41 [hopV p n U T Z C S, modV e1 B] [] (Ret (.bool (keepB p n k U T B))) := by rw [hk0]; exact keepsActions_s p n k U T Z C S _ hV hB hM.d8
          refine And.intro trivial (Spec.mono hks ?_)
          rintro r m ⟨rfl, rfl⟩
          have e : mdlB p n e1 U T B = keepB p n k U T B := by unfold mdlB; rw [hf, hc, hk0]; simp
          refine ifVC_split (fun hk => ?_) (fun hk => ?_)
          · have hk : keepB p n k U T B = false := by simpa using hk
            exact And.intro (boolEq (by unfold hm2B; rw [e, hk]; simp)) (And.intro (And.intro mR rfl) trivial)
          have hk : keepB p n k U T B = true := by simpa using hk
          refine Exists.intro 2 (And.intro ⟨by omega, fun _ => hall1 (by omega), fun _ => by rw [e]; exact hk⟩ (And.intro (by omega) (And.intro (And.intro rfl (And.intro rfl (And.intro rfl (And.intro rfl trivial)))) (And.intro (And.intro mR rfl) (And.intro (And.intro (hopR p n U T Z C S) rfl) trivial)))))
    · have hge := of_decide_eq_false h
      exact And.intro (boolEq (by unfold hm2B; rw [ha, hall1 (by omega), hall2 (by omega)]; rfl)) (And.intro (And.intro mR rfl) trivial)

theorem l06Code2_s (d : Int) (A : Nat → Int) (hA : isU8 512 A) (e1 : Int) (B : Nat → Int) (hB : isU8 512 B) :
    Spec Try.prog 18 [hopV p n U T Z C S, .sl 0 0 2 2] [some (.pair (modV d A) (.pair (modV e1 B) .unit), 1026)] (fun r m => r = .int .i64 (if hm2B p n U T Z C S d A e1 B = true then 0 else 1) ∧ m = [some (.pair (modV d A) (.pair (modV e1 B) .unit), 1026)]) := by
  have mR : SV.eqv (.pair (modV d A) (.pair (modV e1 B) .unit)) (.pair (modV d A) (.pair (modV e1 B) .unit)) := And.intro (modR d A) (And.intro (modR e1 B) rfl)
  refine Spec.cut (Nat.le_refl _) (by simp [SV.ids]) (fun id u c hb => by cases id <;> cases hb; simp [SV.ids, modV]) (Spec.of_vc tabOK tabEq Try.func18 rfl (by kernel_rfl) rfl rfl ?_)
  refine And.intro trivial (Spec.mono (l03Is_s p n U T Z C S hU hT hZ hC hS) ?_)
  rintro r m ⟨rfl, rfl⟩
  refine ifVC_split (fun ha => ?_) (fun ha => ?_)
  · have ha : hopB p n U T Z C S = false := by simpa using ha
    exact And.intro (slotI (by unfold hm2B; rw [ha]; rfl)) (And.intro (And.intro mR rfl) trivial)
  have ha : hopB p n U T Z C S = true := by simpa using ha
  obtain ⟨n, rfl, hV, hpr⟩ := hop_valid p n U T Z C S hU hT hZ hC hS ha
  refine LoopVC.of (fun i : Nat => i ≤ 2 ∧ (1 ≤ i → mdlB p n d U T A = true) ∧ (2 ≤ i → mdlB p n e1 U T B = true)) (fun i => [(1, .sl 0 0 2 2), (2, .ptr 1 [] 0 0), (5, .int .i64 i)]) (fun _ => [some (.pair (modV d A) (.pair (modV e1 B) .unit), 1026), some (hopV p n U T Z C S, 1106)]) (fun i => 2 - i) 0 ⟨by omega, fun h => by omega, fun h => by omega⟩ ?_ ?_ ?_
  · exact (And.intro rfl (And.intro rfl (And.intro rfl (trivial))))
  · exact And.intro (And.intro mR rfl) (And.intro (And.intro (hopR p n U T Z C S) rfl) trivial)
  · rintro i ⟨hi, hall1, hall2⟩
    refine ifVC_split (fun h => ?_) (fun h => ?_)
    · have hlt := of_decide_eq_true h
      rcases (by omega : i = 0 ∨ i = 1) with rfl | rfl
      · refine Exists.intro 6 (And.intro (by kernel_rfl) ?_)
        (repeat (first | refine And.intro (by omega) ?_ | refine And.intro ⟨by omega, by omega⟩ ?_))
        refine Exists.intro (.bool (mdlB p n d U T A)) (And.intro (And.intro rfl (And.intro rfl (Spec.mono (l06Holds_s p n d U T Z C S _ hV hpr hA) fun r m h => h.1))) ?_)
        refine ifVC_split (fun hk => ?_) (fun hk => ?_)
        · have hk : mdlB p n d U T A = false := by simpa using hk
          exact And.intro (slotI (by unfold hm2B; rw [hk]; simp)) (And.intro (And.intro mR rfl) trivial)
        have hk : mdlB p n d U T A = true := by simpa using hk
        refine Exists.intro 1 (And.intro ⟨by omega, fun _ => hk, fun h => by omega⟩ (And.intro (by omega) (And.intro (And.intro rfl (And.intro rfl (And.intro rfl trivial))) (And.intro (And.intro mR rfl) (And.intro (And.intro (hopR p n U T Z C S) rfl) trivial)))))
      · refine Exists.intro 6 (And.intro (by kernel_rfl) ?_)
        (repeat (first | refine And.intro (by omega) ?_ | refine And.intro ⟨by omega, by omega⟩ ?_))
        refine Exists.intro (.bool (mdlB p n e1 U T B)) (And.intro (And.intro rfl (And.intro rfl (Spec.mono (l06Holds_s p n e1 U T Z C S _ hV hpr hB) fun r m h => h.1))) ?_)
        refine ifVC_split (fun hk => ?_) (fun hk => ?_)
        · have hk : mdlB p n e1 U T B = false := by simpa using hk
          exact And.intro (slotI (by unfold hm2B; rw [hk]; simp)) (And.intro (And.intro mR rfl) trivial)
        have hk : mdlB p n e1 U T B = true := by simpa using hk
        refine Exists.intro 2 (And.intro ⟨by omega, fun _ => hall1 (by omega), fun _ => hk⟩ (And.intro (by omega) (And.intro (And.intro rfl (And.intro rfl (And.intro rfl trivial))) (And.intro (And.intro mR rfl) (And.intro (And.intro (hopR p n U T Z C S) rfl) trivial)))))
    · have hge := of_decide_eq_false h
      exact And.intro (slotI (by unfold hm2B; rw [ha, hall1 (by omega), hall2 (by omega)]; rfl)) (And.intro (And.intro mR rfl) trivial)
end
end Go.Proofs.Ytegcfjfhpodlmaa
