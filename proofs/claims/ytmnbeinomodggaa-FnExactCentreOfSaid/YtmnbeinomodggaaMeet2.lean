/- The model's way to meet two spaces: its contract. -/
import Derived.Test.YtmnbeinomodggaaMeet
set_option linter.unusedVariables false
set_option maxRecDepth 100000
set_option maxHeartbeats 4000000
namespace Go.Proofs.Ytmnbeinomodggaa
open M

def MeetQ (p : Nat) (S : (Nat → Int) → Prop) (b1 b2 : Option (SV × Nat)) (r : SV) (m : Mem) : Prop :=
  ∃ k c A, RedL p S k A ∧ k ≤ c ∧ r = .sl 2 0 k c ∧ m = [b1, b2, some (.ints .u8 (k * 8) A, c * 8)]
theorem l01Meet_s (p k1 k2 c1 c2 : Nat) (S1 S2 : (Nat → Int) → Prop) (A1 A2 : Nat → Int) (hp : primeB (p : Int) = true) (hp2 : 2 ≤ p ∧ p ≤ 31) (hS1 : Space p 8 S1) (hS2 : Space p 8 S2) (h1 : RedL p S1 k1 A1) (h2 : RedL p S2 k2 A2) :
    Spec Try.prog 22 [.int .i64 p, .sl 0 0 k1 c1, .sl 1 0 k2 c2] [some (.ints .u8 (k1 * 8) A1, c1 * 8), some (.ints .u8 (k2 * 8) A2, c2 * 8)]
      (MeetQ p (fun x => S1 x ∧ S2 x) (some (.ints .u8 (k1 * 8) A1, c1 * 8)) (some (.ints .u8 (k2 * 8) A2, c2 * 8))) := by
  have hp0 : (0 : Int) < p ∧ (p : Int) < 256 := by omega
  have hk1 := red_k h1
  have hk2 := red_k h2
  have ht1 := redL_tri hS1 h1
  have ht2 := redL_tri hS2 h2
  have hF := meetF_rng (k2 := k2) (A2 := A2) (show 1 < p by omega) hS1 h1
  have main : Spec Try.prog 22 [.int .i64 p, .sl 0 0 k1 c1, .sl 1 0 k2 c2] [some (.ints .u8 (k1 * 8) A1, c1 * 8), some (.ints .u8 (k2 * 8) A2, c2 * 8)]
      (fun r m => ∃ k c A, RedL p (fun x => S1 x ∧ S2 x) k A ∧ k ≤ c ∧ r = .sl 2 0 k c ∧ blockOf m 0 = some (.ints .u8 (k1 * 8) A1, c1 * 8) ∧ blockOf m 1 = some (.ints .u8 (k2 * 8) A2, c2 * 8) ∧ blockOf m 2 = some (.ints .u8 (k * 8) A, c * 8)) := by
   refine (Spec.of_vc tabOK tabEq Try.func22 rfl (by kernel_rfl) rfl rfl ?_)
   (repeat (first | refine And.intro (by omega) ?_ | refine And.intro ⟨by omega, by omega⟩ ?_))
   refine LoopVC.of (fun i : Nat => i ≤ k1) (fun i => [(0, .int .i64 p), (1, .sl 0 0 k1 c1), (2, .sl 1 0 k2 c2), (7, .sl 2 0 0 0), (8, .ptr 3 [] 0 0), (9, .int .i64 i)])
     (fun i => [some (.ints .u8 (k1 * 8) A1, c1 * 8), some (.ints .u8 (k2 * 8) A2, c2 * 8), some (.ints .u8 0 fun _ => 0, 0), some (.ints .u8 64 fun q => if q < i * 8 then meetF p A1 k1 A2 k2 q else 0, 64)]) (fun i => k1 - i) 0 (Nat.zero_le _) ?_ ?_ ?_
   · exact (And.intro rfl (And.intro rfl (And.intro rfl (And.intro rfl (And.intro rfl (And.intro rfl (trivial)))))))
   · refine And.intro (And.intro (rowEq fun _ _ => rfl) rfl) (And.intro (And.intro (rowEq fun _ _ => rfl) rfl) (And.intro (And.intro ⟨⟨rfl, rfl⟩, fun j hj => by omega⟩ rfl) (And.intro (And.intro (rowEq fun q hq => ?_) rfl) trivial)))
     show updR _ 0 64 _ q = _
     simp [updR, hq]
   · intro i hi
     refine ifVC_split (fun hh => ?_) (fun hh => ?_)
     · have hik : i < k1 := by have := of_decide_eq_true hh; omega
       have hix : (i : Int).toNat * 8 + 0 = i * 8 := by omega
       (repeat (first | refine And.intro (by omega) ?_ | refine And.intro ⟨by omega, by omega⟩ ?_))
       refine And.intro (And.intro rfl trivial) (Spec.mono (l01By_s p k2 c2 A2 (fun j => A1 (j + ((i : Int).toNat * 8 + 0))) hp2 hk2 ht2.rng ht2.fst (fun j hj => by rw [hix]; exact ht1.row hik j hj)) ?_)
       rintro _ _ ⟨rfl, rfl⟩
       (repeat (first | refine And.intro (by omega) ?_ | refine And.intro ⟨by omega, by omega⟩ ?_))
       refine Exists.intro (i + 1) (And.intro (by omega) (And.intro (by omega) (And.intro (And.intro rfl (And.intro rfl (And.intro rfl (And.intro rfl (And.intro rfl (And.intro (slotI (wrapS (by omega))) trivial)))))) ?_)))
       refine And.intro (And.intro (rowEq fun _ _ => rfl) rfl) (And.intro (And.intro (rowEq fun _ _ => rfl) rfl) (And.intro (And.intro (rowEq fun _ _ => rfl) rfl) (And.intro (And.intro (rowEq fun q hq => ?_) rfl) trivial)))
       show updR _ ((i : Int).toNat * 8 + 0) 8 (byV p A2 (fun j => A1 (j + ((i : Int).toNat * 8 + 0))) k2) q = if q < (i + 1) * 8 then meetF p A1 k1 A2 k2 q else 0
       rw [hix]
       unfold updR
       by_cases e : i * 8 ≤ q ∧ q < i * 8 + 8
       · rw [if_pos e, if_pos (by omega)]
         have := meetF_at (p := p) (A1 := A1) (A2 := A2) (k2 := k2) hik (show q - i * 8 < 8 by omega)
         rw [show i * 8 + (q - i * 8) = q by omega] at this
         exact this.symm
       · rw [if_neg e]
         show (if q < i * 8 then _ else _) = _
         by_cases e2 : q < i * 8
         · rw [if_pos e2, if_pos (by omega)]
         · rw [if_neg e2, if_neg (by omega)]
     · have hik : i = k1 := by have := of_decide_eq_false hh; omega
       subst hik
       have hfe : ∀ q, q < 64 → (fun q => if q < i * 8 then meetF p A1 i A2 k2 q else 0) q = meetF p A1 i A2 k2 q := fun q hq => by
         show (if q < i * 8 then _ else _) = _
         by_cases e : q < i * 8
         · rw [if_pos e]
         · rw [if_neg e]; unfold meetF; rw [if_neg (by omega)]
       have hfe : (fun q => if q < i * 8 then meetF p A1 i A2 k2 q else 0) = meetF p A1 i A2 k2 := funext fun q => by
         by_cases e : q < i * 8
         · rw [if_pos e]
         · rw [if_neg e]; unfold meetF; rw [if_neg (by omega)]
       rw [hfe]
       (repeat (first | refine And.intro (by omega) ?_ | refine And.intro ⟨by omega, by omega⟩ ?_))
       refine And.intro trivial (Spec.mono (l01KernelR_s p i (meetF p A1 i A2 k2) hp hp2 hk1 hF) ?_)
       rintro _ _ ⟨kk, ck, K, hK, hck, rfl, rfl⟩
       have hkk := red_k hK
       have hKr := (redL_tri (ker_space (by omega)) hK).rng
       (repeat (first | refine And.intro (by omega) ?_ | refine And.intro ⟨by omega, by omega⟩ ?_))
       refine LoopVC.ofR (fun x : Nat × Nat × Nat × (Nat → Int) => x.1 ≤ kk ∧ x.2.1 ≤ x.2.2.1 ∧ RedL p (Sp p 8 x.1 fun l => combV p A1 i (partF K 8 l)) x.2.1 x.2.2.2)
         (fun x => [(0, .int .i64 p), (1, .sl 0 0 i c1), (7, .sl 2 0 x.2.1 x.2.2.1), (10, .sl 4 0 kk ck), (11, .int .i64 x.1)])
         (fun x => [some (.ints .u8 (i * 8) A1, c1 * 8), some (.ints .u8 (k2 * 8) A2, c2 * 8), some (.ints .u8 (x.2.1 * 8) x.2.2.2, x.2.2.1 * 8), none, some (.ints .u8 (kk * 8) K, ck * 8)]) (fun x => kk - x.1) (0, 0, 0, fun _ => 0) ⟨Nat.zero_le _, Nat.le_refl _, redL_zero⟩ (fun i => i) (RenTo.same ?_ ?_) ?_ ?_ ?_
       · exact (And.intro rfl (And.intro rfl (And.intro rfl (And.intro rfl (And.intro rfl (trivial))))))
       · intro id u d hb
         match id with
         | 0 => exact ⟨u, hb, eqv_refl u⟩
         | 1 => exact ⟨u, hb, eqv_refl u⟩
         | 2 => cases hb; exact ⟨_, rfl, ⟨⟨rfl, rfl⟩, fun j hj => by omega⟩⟩
         | 3 => cases hb
         | 4 => exact ⟨u, hb, eqv_refl u⟩
         | id + 5 => cases hb
       · intro x hx; exact (by decide : 2 ≤ 5)
       · intro x hx
         refine OkP.of (by simp [SV.ids]) fun id u c hb q hq => ?_
         match id with
         | 0 => cases hb; cases hq
         | 1 => cases hb; cases hq
         | 2 => cases hb; cases hq
         | 3 => cases hb
         | 4 => cases hb; cases hq
         | id + 5 => cases hb
       · rintro ⟨a, k, c, F⟩ ⟨ha, hc, hR⟩
         dsimp only at ha hc hR
         refine ifVC_split (fun h3 => ?_) (fun h3 => ?_)
         · have hak : a < kk := by have := of_decide_eq_true h3; omega
           have hax : (a : Int).toNat * 8 + 0 = a * 8 := by omega
           have hcr : ∀ q, 0 ≤ combV p A1 i (partF K 8 a) q ∧ combV p A1 i (partF K 8 a) q < p := fun q => mod_rng (by omega) _
           (repeat (first | refine And.intro (by omega) ?_ | refine And.intro ⟨by omega, by omega⟩ ?_))
           refine LoopVC.of (fun l : Nat => l ≤ i) (fun l => [(0, .int .i64 p), (1, .sl 0 0 i c1), (7, .sl 2 0 k c), (10, .sl 4 0 kk ck), (11, .int .i64 a), (12, .ptr 5 [] 0 0), (13, .int .i64 l)])
             (fun l => [some (.ints .u8 (i * 8) A1, c1 * 8), some (.ints .u8 (k2 * 8) A2, c2 * 8), some (.ints .u8 (k * 8) F, c * 8), none, some (.ints .u8 (kk * 8) K, ck * 8), some (.ints .u8 8 (combV p A1 l (partF K 8 a)), 8)]) (fun l => i - l) 0 (Nat.zero_le _) ?_ ?_ ?_
           · exact (And.intro rfl (And.intro rfl (And.intro rfl (And.intro rfl (And.intro rfl (And.intro rfl (And.intro rfl (trivial))))))))
           · refine And.intro (And.intro (rowEq fun _ _ => rfl) rfl) (And.intro (And.intro (rowEq fun _ _ => rfl) rfl) (And.intro (And.intro (rowEq fun _ _ => rfl) rfl) (And.intro (And.intro (rowEq fun _ _ => rfl) rfl) (And.intro (And.intro (rowEq fun j hj => ?_) rfl) trivial))))
             show updR _ 0 8 _ j = 0 % (p : Int)
             simp [updR, hj]
           · intro l hl
             refine ifVC_split (fun h4 => ?_) (fun h4 => ?_)
             · have hli : l < i := by have := of_decide_eq_true h4; omega
               have hlx : (l : Int).toNat * 8 + 0 = l * 8 := by omega
               have hix : (l : Int).toNat * 1 + ((a : Int).toNat * 8 + 0) = l + a * 8 := by omega
               have hKe := hKr (l + a * 8) (by omega)
               have hw : IntKind.i64.wrap (K ((l : Int).toNat * 1 + ((a : Int).toNat * 8 + 0))) = partF K 8 a l := by rw [hix]; exact wrapI (x := K (l + a * 8)) (by omega)
               have hKe : 0 ≤ partF K 8 a l ∧ partF K 8 a l < p := hKe
               have hcl : ∀ q, 0 ≤ combV p A1 l (partF K 8 a) q ∧ combV p A1 l (partF K 8 a) q < p := fun q => mod_rng (by omega) _
               refine Exists.intro 13 (And.intro (by kernel_rfl) ?_)
               (repeat (first | refine And.intro (by omega) ?_ | refine And.intro ⟨by omega, by omega⟩ ?_))
               refine And.intro trivial (Spec.mono (l01Add_s p (IntKind.i64.wrap (K ((l : Int).toNat * 1 + ((a : Int).toNat * 8 + 0)))) (fun j => combV p A1 l (partF K 8 a) (j + 0)) (fun j => A1 (j + ((l : Int).toNat * 8 + 0))) hp0 (by rw [hw]; omega) (fun j hj => ⟨(hcl (j + 0)).1, Int.lt_trans (hcl (j + 0)).2 hp0.2⟩) (fun j hj => by have h := ht1.rng (j + l * 8) (by omega); exact ⟨h.1, Int.lt_trans h.2 hp0.2⟩)) ?_)
               rintro _ _ ⟨rfl, rfl⟩
               (repeat (first | refine And.intro (by omega) ?_ | refine And.intro ⟨by omega, by omega⟩ ?_))
               refine Exists.intro (l + 1) (And.intro (by omega) (And.intro (by omega) (And.intro (And.intro rfl (And.intro rfl (And.intro rfl (And.intro rfl (And.intro rfl (And.intro rfl (And.intro (slotI (wrapS (by omega))) trivial))))))) ?_)))
               refine And.intro (And.intro (rowEq fun _ _ => rfl) rfl) (And.intro (And.intro (rowEq fun _ _ => rfl) rfl) (And.intro (And.intro (rowEq fun _ _ => rfl) rfl) (And.intro (And.intro (rowEq fun _ _ => rfl) rfl) (And.intro (And.intro (rowEq fun j hj => ?_) rfl) trivial))))
               show updR _ 0 8 (addM p _ _ _) j = combV p A1 (l + 1) (partF K 8 a) j
               unfold updR
               rw [if_pos (by omega), hw, addM_at, hlx]
               show (sumN l _ % (p : Int) + partF K 8 a l * partF A1 8 l j) % p = (sumN l _ + _) % p
               rw [mod_l]
               rfl
             · have hli : l = i := by have := of_decide_eq_false h4; omega
               subst hli
               (repeat (first | refine And.intro (by omega) ?_ | refine And.intro ⟨by omega, by omega⟩ ?_))
               refine And.intro (And.intro rfl trivial) (Spec.mono (show Spec Try.prog 50 [.int .i64 p, .sl 0 0 k c, .ints .u8 8 fun j => combV p A1 l (partF K 8 a) (j + 0)] [some (.ints .u8 (k * 8) F, c * 8)] (PutR p k c (Sp p 8 (a + 1) fun q => combV p A1 l (partF K 8 q)) F) from
                 l01PutR_s p k c _ _ F (combV p A1 l (partF K 8 a)) hp hp2 (Sp.space (by omega)) (Sp.space (by omega)) hR (addTo_sp (V := fun q => combV p A1 l (partF K 8 q)) (by omega) fun j _ => hcr j) fun j _ => hcr j) ?_)
               rintro r m (⟨hR', rfl, rfl⟩ | ⟨cap', F', hR', hc', rfl, rfl⟩)
               · refine Exists.intro (a + 1, k, c, F) (Exists.intro (fun i => i) (And.intro ⟨hak, hc, hR'⟩ (And.intro (show kk - (a + 1) < kk - a by omega) (RenTo.same ?_ ?_))))
                 · exact And.intro rfl (And.intro rfl (And.intro rfl (And.intro rfl (And.intro (slotI (wrapS (by omega))) trivial))))
                 · intro id u d hb
                   match id with
                   | 0 => exact ⟨u, hb, eqv_refl u⟩
                   | 1 => exact ⟨u, hb, eqv_refl u⟩
                   | 2 => exact ⟨u, hb, eqv_refl u⟩
                   | 3 => cases hb
                   | 4 => exact ⟨u, hb, eqv_refl u⟩
                   | id + 5 => cases hb
               · refine Exists.intro (a + 1, k + 1, cap', F') (Exists.intro (fun i => if i = 2 then 6 else i) (And.intro ⟨hak, hc', hR'⟩ (And.intro (show kk - (a + 1) < kk - a by omega) (renTo_mk ?_ (fun i hi => if_neg (show i ≠ 2 by have hi : i < 2 := hi; omega)) (fun id u d hb => ?_) fun x y hx hy e => ?_))))
                 · exact And.intro rfl (And.intro rfl (And.intro rfl (And.intro rfl (And.intro (slotI (wrapS (by omega))) trivial))))
                 · match id with
                   | 0 => cases hb; exact ⟨fun h => absurd (show 2 ≤ 0 from h) (by decide), _, rfl, eqv_refl _⟩
                   | 1 => cases hb; exact ⟨fun h => absurd (show 2 ≤ 1 from h) (by decide), _, rfl, eqv_refl _⟩
                   | 2 => cases hb; exact ⟨fun _ => (by decide : 2 ≤ 6), _, rfl, eqv_refl _⟩
                   | 3 => cases hb
                   | 4 => cases hb; exact ⟨fun _ => (by decide : 2 ≤ 4), _, rfl, eqv_refl _⟩
                   | id + 5 => cases hb
                 · have hx : x < 5 := hx
                   have hy : y < 5 := hy
                   have e : (if x = 2 then 6 else x) = if y = 2 then 6 else y := e
                   split at e <;> split at e <;> omega
         · have hak : a = kk := by have := of_decide_eq_false h3; omega
           subst hak
           exact ⟨k, c, F, hR.of_iff (meet_iff (by omega) hS1 hS2 h1 h2 hK), hc, rfl, rfl, rfl, rfl⟩
  refine Spec.tidy main fun r m hq => ?_
  obtain ⟨k, c, A, hR, hc, rfl, b0, b1, b2⟩ := hq
  refine ⟨fun i => i, .sl 2 0 k c, [some (.ints .u8 (k1 * 8) A1, c1 * 8), some (.ints .u8 (k2 * 8) A2, c2 * 8), some (.ints .u8 (k * 8) A, c * 8)], ⟨k, c, A, hR, hc, rfl, rfl⟩, rfl, by simp [SV.ids], fun _ _ => rfl, fun _ h => h, (by decide : 2 ≤ 3), fun id u d hb => ?_, fun _ _ _ _ e => e⟩
  match id with
  | 0 => cases hb; exact ⟨rfl, b0⟩
  | 1 => cases hb; exact ⟨rfl, b1⟩
  | 2 => cases hb; exact ⟨rfl, b2⟩
  | id + 3 => cases hb
end Go.Proofs.Ytmnbeinomodggaa
