/- CentreOf: the model's side. -/
import Derived.Test.YtmnbeinomodggaaMeet2
set_option linter.unusedVariables false
set_option maxRecDepth 100000
set_option maxHeartbeats 4000000
namespace Go.Proofs.Ytmnbeinomodggaa
open M

/-- e(k) e(i) less e(i) e(k) -/
def commF (p : Int) (n : Nat) (T : Nat → Int) (i : Nat) : Nat → Int := fun q => if q / 8 < n then addM p (vecT T (q / 8) i) (-1) (vecT T i (q / 8)) (q % 8) else 0
theorem commF_rng {p n : Nat} (hp : 1 < p) (T : Nat → Int) (i : Nat) : ∀ q, q < 64 → 0 ≤ commF p n T i q ∧ commF p n T i q < p := fun q _ => by
  unfold commF
  split
  · exact addM_rng (by omega) _ _ _ _
  · omega
/-- what commutes with e(0) to e(i - 1) -/
def CenS (p n : Nat) (T : Nat → Int) (i : Nat) (x : Nat → Int) : Prop := VecP p n x ∧ ∀ l, l < i → ∀ j, j < 8 → apF p (commF p n T l) x j = 0
theorem cen_space {p n : Nat} {T : Nat → Int} {i : Nat} (hp : 1 < p) : Space p 8 (CenS p n T i) := by
  refine ⟨fun v h => h.1.rng, fun v u h e => ⟨⟨fun j hj => by rw [e j hj]; exact h.1.rng j hj, fun j h1 h2 => by rw [e j h2]; exact h.1.out j h1 h2⟩, fun l hl j hj => by rw [apF_congr (fun _ _ => rfl) e]; exact h.2 l hl j hj⟩, fun v h => ⟨⟨fun j hj => by rw [h j hj]; omega, fun j _ hj => h j hj⟩, fun l hl j hj => apF_zero _ _ _ _ h⟩, fun v u h1 h2 c => ⟨h1.1.add (by omega) h2.1 c, fun l hl j hj => ?_⟩⟩
  rw [apF_add, h1.2 l hl j hj, h2.2 l hl j hj]; simp

def CentreQ (p n : Int) (U T : Nat → Int) (r : SV) (m : Mem) : Prop :=
  (algB p n U T = false ∧ r = .tcons .nilsl (.tcons (.int .i64 1) .tnil)) ∨
  (algB p n U T = true ∧ ∃ k c A id, RedL p (CenS p.toNat n.toNat T n.toNat) k A ∧ k ≤ c ∧ r = .tcons (.sl id 0 k c) (.tcons (.int .i64 0) .tnil) ∧ blockOf m id = some (.ints .u8 (k * 8) A, c * 8))
theorem specCentre0_s (p n : Int) (U T : Nat → Int) (hU : isU8 8 U) (hT : isU8 512 T) : Spec Try.prog 6 [algV p n U T] [] (CentreQ p n U T) := by
  refine (Spec.of_vc tabOK tabEq Try.func6 rfl (by kernel_rfl) rfl rfl ?_)
  refine And.intro trivial (Spec.mono (l01Is_s p n U T hU hT) ?_)
  rintro r m ⟨rfl, rfl⟩
  refine ifVC_split (fun hc => ?_) (fun hc => ?_)
  · have hc : algB p n U T = false := by simpa using hc
    exact Or.inl ⟨hc, rfl⟩
  have hc : algB p n U T = true := by simpa using hc
  obtain ⟨p, n, rfl, rfl, hA⟩ := algP_of hU hT hc
  obtain ⟨hp, hp2, hn, hV, ha, hu⟩ := id hA
  refine And.intro trivial (Spec.mono (l01Whole_s p n (by omega) hn.2) ?_)
  rintro _ _ ⟨c0, A0, hA0, hc0, rfl, rfl⟩
  have h00 : RedL p (CenS p n T 0) n A0 := hA0.of_iff fun v => ⟨fun h => ⟨h, fun l hl => absurd hl (Nat.not_lt_zero _)⟩, fun h => h.1⟩
  refine LoopVC.ofR (fun x : Nat × Nat × Nat × (Nat → Int) => x.1 ≤ n ∧ x.2.1 ≤ x.2.2.1 ∧ RedL p (CenS p n T x.1) x.2.1 x.2.2.2)
    (fun x => [(1, .ptr 0 [] 0 0), (4, .sl 1 0 x.2.1 x.2.2.1), (5, .int .i64 x.1)])
    (fun x => [some (algV p n U T, 522), some (.ints .u8 (x.2.1 * 8) x.2.2.2, x.2.2.1 * 8)]) (fun x => n - x.1) (0, n, c0, A0) ⟨Nat.zero_le _, hc0, h00⟩ (fun i => i) (RenTo.same ?_ ?_) ?_ ?_ ?_
  · exact (And.intro rfl (And.intro rfl (And.intro rfl (trivial))))
  · intro id u d hb
    match id with
    | 0 => cases hb; exact ⟨_, rfl, algR _ _ _ _⟩
    | 1 => exact ⟨u, hb, eqv_refl u⟩
    | id + 2 => cases hb
  · intro x hx; exact Nat.zero_le _
  · intro x hx
    refine OkP.of (by simp [SV.ids]) fun id u c hb q hq => ?_
    match id with
    | 0 => cases hb; simp [algV, SV.ids] at hq
    | 1 => cases hb; cases hq
    | id + 2 => cases hb
  · rintro ⟨i, k, c, A⟩ ⟨hi, hkc, hR⟩
    dsimp only at hi hkc hR
    refine ifVC_split (fun hh => ?_) (fun hh => ?_)
    · have hin : i < n := by have := of_decide_eq_true hh; omega
      have hf := commF_rng (p := p) (n := n) (show 1 < p by omega) T i
      (repeat (first | refine And.intro (by omega) ?_ | refine And.intro ⟨by omega, by omega⟩ ?_))
      refine LoopVC.of (fun l : Nat => l ≤ n) (fun l => [(1, .ptr 0 [] 0 0), (4, .sl 1 0 k c), (5, .int .i64 i), (6, .ptr 2 [] 0 0), (7, .int .i64 l)])
        (fun l => [some (algV p n U T, 522), some (.ints .u8 (k * 8) A, c * 8), some (.ints .u8 64 fun q => if q < l * 8 then commF p n T i q else 0, 64)]) (fun l => n - l) 0 (Nat.zero_le _) ?_ ?_ ?_
      · exact (And.intro rfl (And.intro rfl (And.intro rfl (And.intro rfl (And.intro rfl (trivial))))))
      · refine And.intro (And.intro (algR p n U T) rfl) (And.intro (And.intro (rowEq fun _ _ => rfl) rfl) (And.intro (And.intro (rowEq fun q hq => ?_) rfl) trivial))
        show updR _ 0 64 _ q = _
        simp [updR, hq]
      · intro l hl
        refine ifVC_split (fun h3 => ?_) (fun h3 => ?_)
        · have hln : l < n := by have := of_decide_eq_true h3; omega
          have hv1 := fun j (hj : j < 8) => hV.lt l i j (by omega) (by omega) hj
          have hv2 := fun j (hj : j < 8) => hV.lt i l j (by omega) (by omega) hj
          refine Exists.intro 16 (And.intro (by kernel_rfl) ?_)
          (repeat (first | refine And.intro (by omega) ?_ | refine And.intro ⟨by omega, by omega⟩ ?_))
          refine Exists.intro (.ints .u8 8 (addM p (vecT T l i) (-1) (vecT T i l))) (And.intro (And.intro rfl (And.intro rfl (Spec.mono (l01Add_s p (-1) _ _ hV.hp (by omega) (fun j hj => by have h := hv1 j hj; exact ⟨h.1, Int.lt_trans h.2 hV.hp.2⟩) (fun j hj => by have h := hv2 j hj; exact ⟨h.1, Int.lt_trans h.2 hV.hp.2⟩)) ?_))) ?_)
          · rintro r m ⟨rfl, _⟩
            rfl
          (repeat (first | refine And.intro (by omega) ?_ | refine And.intro ⟨by omega, by omega⟩ ?_))
          refine Exists.intro (l + 1) (And.intro (by omega) (And.intro (by omega) (And.intro (And.intro rfl (And.intro rfl (And.intro rfl (And.intro rfl (And.intro (slotI (wrapS (by omega))) trivial))))) ?_)))
          refine And.intro (And.intro (algR p n U T) rfl) (And.intro (And.intro (rowEq fun _ _ => rfl) rfl) (And.intro (And.intro (rowEq fun q hq => ?_) rfl) trivial))
          show updR _ (l * 8 + 0) 8 (addM p (vecT T l i) (-1) (vecT T i l)) q = if q < (l + 1) * 8 then commF p n T i q else 0
          unfold updR
          by_cases e : l * 8 + 0 ≤ q ∧ q < l * 8 + 0 + 8
          · rw [if_pos e, if_pos (by omega)]
            unfold commF
            rw [show q / 8 = l by omega, if_pos hln, show q - (l * 8 + 0) = q % 8 by omega]
          · rw [if_neg e]
            show (if q < l * 8 then _ else _) = _
            by_cases e2 : q < l * 8
            · rw [if_pos e2, if_pos (by omega)]
            · rw [if_neg e2, if_neg (by omega)]
        · have hln : l = n := by have := of_decide_eq_false h3; omega
          subst hln
          have hfe : (fun q => if q < l * 8 then commF p l T i q else 0) = commF p l T i := funext fun q => by
            by_cases e : q < l * 8
            · rw [if_pos e]
            · rw [if_neg e]; unfold commF; rw [if_neg (by omega)]
          rw [hfe]
          refine Exists.intro 2008 (And.intro (by kernel_rfl) ?_)
          (repeat (first | refine And.intro (by omega) ?_ | refine And.intro ⟨by omega, by omega⟩ ?_))
          refine And.intro rfl (And.intro trivial (Spec.mono (l01KernelR_s p l (commF p l T i) hp hp2 hn.2 hf) ?_))
          rintro _ _ ⟨k2, c2, A2, hR2, hc2, rfl, rfl⟩
          (repeat (first | refine And.intro (by omega) ?_ | refine And.intro ⟨by omega, by omega⟩ ?_))
          refine And.intro (And.intro rfl (And.intro rfl trivial)) (Spec.mono (l01Meet_s p k k2 c c2 _ _ A A2 hp hp2 (cen_space (by omega)) (ker_space (by omega)) hR hR2) ?_)
          rintro _ _ ⟨k3, c3, A3, hR3, hc3, rfl, rfl⟩
          have hR3 : RedL p (CenS p l T (i + 1)) k3 A3 := hR3.of_iff fun x => ⟨fun ⟨g1, g2⟩ => ⟨g1.1, fun q hq => by
            by_cases e : q = i
            · subst e; exact g2.2
            · exact g1.2 q (by omega)⟩, fun g => ⟨⟨g.1, fun q hq => g.2 q (by omega)⟩, g.1, g.2 i (Nat.lt_succ_self _)⟩⟩
          refine Exists.intro (i + 1, k3, c3, A3) (Exists.intro (fun i => if i = 1 then 4 else i) (And.intro ⟨hin, hc3, hR3⟩ (And.intro (show l - (i + 1) < l - i by omega) (renTo_mk ?_ (fun i hi => absurd hi (Nat.not_lt_zero _)) (fun id u d hb => ?_) fun x y hx hy e => ?_))))
          · exact And.intro rfl (And.intro rfl (And.intro (slotI (wrapS (by omega))) trivial))
          · match id with
            | 0 => cases hb; exact ⟨fun _ => Nat.zero_le _, _, rfl, algR _ _ _ _⟩
            | 1 => cases hb; exact ⟨fun _ => Nat.zero_le _, _, rfl, eqv_refl _⟩
            | id + 2 => cases hb
          · have hx : x < 2 := hx
            have hy : y < 2 := hy
            have e : (if x = 1 then 4 else x) = if y = 1 then 4 else y := e
            split at e <;> split at e <;> omega
    · have hin : i = n := by have := of_decide_eq_false hh; omega
      subst hin
      exact Or.inr ⟨hc, k, c, A, 1, hR, hkc, rfl, rfl⟩
end Go.Proofs.Ytmnbeinomodggaa
