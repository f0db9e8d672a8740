/- The model's whole space, and its way to meet two spaces. -/
import Derived.Test.YtcocapkdpbdmdaaKer
import Derived.Test.YtcocapkdpbdmdaaInverse
set_option linter.unusedVariables false
set_option linter.unusedSimpArgs false
set_option maxRecDepth 100000
set_option maxHeartbeats 4000000
namespace Go.Proofs.Ytcocapkdpbdmdaa
open M

/-- what is in the space is a sum of the list's rows -/
theorem red_span {p : Int} {w : Nat} {S : (Nat → Int) → Prop} {k : Nat} {a : Nat → Nat → Int} {P : Nat → Nat} (hp : 0 < p) (hS : Space p w S) (h : Red p w S k a P) {v : Nat → Int} (hv : S v) : Sp p w k a v := by
  have hr : ∀ i, i < k → ∀ j, j < w → 0 ≤ a i j ∧ a i j < p := fun i hi => hS.range _ (h.mem i hi)
  have key : ∀ t, t ≤ k → ∃ u, Sp p w k a u ∧ S u ∧ (∀ l, l < t → u (P l) = v (P l)) ∧ ∀ l, t ≤ l → l < k → u (P l) = 0 := fun t => by
    induction t with
    | zero => intro _; exact ⟨fun _ => 0, .zero _ fun _ _ => rfl, hS.zero _ fun _ _ => rfl, fun l hl => absurd hl (Nat.not_lt_zero _), fun _ _ _ => rfl⟩
    | succ t ih =>
      intro ht
      obtain ⟨u, h1, h2, h3, h4⟩ := ih (by omega)
      refine ⟨fun j => (u j + v (P t) * a t j) % p, h1.addc hp (Sp.row (show t < k by omega) (hr t (by omega))) _, hS.addc _ _ h2 (h.mem t (by omega)) _, fun l hl => ?_, fun l h5 h6 => ?_⟩
      · show (u (P l) + v (P t) * a t (P l)) % p = v (P l)
        by_cases e : l = t
        · subst e
          rw [h4 l (Nat.le_refl _) (by omega), h.one l (by omega), Int.zero_add, Int.mul_one, mod_id (hS.range _ hv _ (h.lt l (by omega)))]
        · rw [h.oth t l (by omega) (by omega) (fun x => e x.symm), Int.mul_zero, Int.add_zero, h3 l (by omega), mod_id (hS.range _ hv _ (h.lt l (by omega)))]
      · show (u (P l) + v (P t) * a t (P l)) % p = 0
        rw [h.oth t l (by omega) h6 (by omega), Int.mul_zero, Int.add_zero, h4 l (by omega) h6, Int.zero_emod]
  obtain ⟨u, h1, h2, h3, _⟩ := key k (Nat.le_refl _)
  refine h1.ext fun j hj => ?_
  have := h.all _ (hS.addc _ _ hv h2 (-1)) (fun i hi => by show (v (P i) + -1 * u (P i)) % p = 0; rw [h3 i hi, show v (P i) + -1 * v (P i) = 0 by omega, Int.zero_emod]) j hj
  exact eq_of_sub (hS.range _ hv j hj) (hS.range _ h2 j hj) this

/-- the sum of multiples of rows -/
def combV (p : Int) (A : Nat → Int) (k : Nat) (c : Nat → Int) : Nat → Int := fun j => sumN k (fun l => c l * partF A 8 l j) % p
theorem comb_add (p d : Int) (A : Nat → Int) (k : Nat) (x y : Nat → Int) (j : Nat) : combV p A k (fun i => (x i + d * y i) % p) j = (combV p A k x j + d * combV p A k y j) % p := by
  unfold combV; rw [sumN_lin, mod_l, mod_in]
theorem comb_zero (p : Int) (A : Nat → Int) (k : Nat) (x : Nat → Int) (j : Nat) (h : ∀ l, l < k → x l = 0) : combV p A k x j = 0 := by
  unfold combV; rw [sumN_none k fun l hl => by rw [h l hl, Int.zero_mul], Int.zero_emod]
theorem comb_congr {p : Int} {A : Nat → Int} {k : Nat} {x y : Nat → Int} {j : Nat} (h : ∀ l, l < k → x l = y l) : combV p A k x j = combV p A k y j := by
  unfold combV; rw [sumN_congr k fun l hl => by rw [h l hl]]
theorem comb_unit {p : Int} {A : Nat → Int} {k l j : Nat} (hl : l < k) (hr : 0 ≤ partF A 8 l j ∧ partF A 8 l j < p) : combV p A k (unitV l) j = partF A 8 l j := by
  unfold combV
  rw [sumN_pick _ k hl, sumN_none k fun q hq => by unfold unitV; by_cases e : q = l <;> simp [e]]
  show (unitV l l * _ + 0) % p = _
  unfold unitV
  rw [if_pos rfl, Int.one_mul, Int.add_zero, mod_id hr]
/-- what is left of one's rows by two -/
def meetF (p : Int) (A1 : Nat → Int) (k1 : Nat) (A2 : Nat → Int) (k2 : Nat) : Nat → Int := fun q => if q / 8 < k1 then byV p A2 (partF A1 8 (q / 8)) k2 (q % 8) else 0
theorem meetF_at {p : Int} {A1 A2 : Nat → Int} {k1 k2 l j : Nat} (hl : l < k1) (hj : j < 8) : meetF p A1 k1 A2 k2 (l * 8 + j) = byV p A2 (partF A1 8 l) k2 j := by
  unfold meetF; rw [show (l * 8 + j) / 8 = l by omega, show (l * 8 + j) % 8 = j by omega, if_pos hl]

section
variable {p k1 k2 : Nat} {S1 S2 : (Nat → Int) → Prop} {A1 A2 : Nat → Int}
theorem meetF_rng (hp : 1 < p) (hS1 : Space p 8 S1) (h1 : RedL p S1 k1 A1) : ∀ q, q < 64 → 0 ≤ meetF p A1 k1 A2 k2 q ∧ meetF p A1 k1 A2 k2 q < p := fun q hq => by
  unfold meetF
  split
  · rename_i hl; exact (liftV_rng (p := p) (by omega) (hS1.range _ (h1.mem _ hl)) k2).1 _ (by omega)
  · omega
theorem comb_in (hp : 1 < p) (hS1 : Space p 8 S1) (h1 : RedL p S1 k1 A1) {c : Nat → Int} (hc : VecP p k1 c) : S1 (combV p A1 k1 c) := by
  refine VecP.ind (R := fun c => S1 (combV p A1 k1 c)) (p := p) (by omega) (red_k h1) (hS1.zero _ fun j _ => comb_zero _ _ _ _ _ fun _ _ => rfl) (fun x y h e => hS1.ext _ _ h fun j _ => comb_congr fun l hl => e l (by have := red_k h1; omega)) (fun l hl => hS1.ext _ _ (h1.mem l hl) fun j hj => comb_unit hl (hS1.range _ (h1.mem l hl) j hj)) (fun x y d g1 g2 => hS1.ext _ _ (hS1.addc _ _ g1 g2 d) fun j _ => comb_add _ d _ _ x y j) hc
theorem comb_dec (hp : 1 < p) (hS1 : Space p 8 S1) (hS2 : Space p 8 S2) (h1 : RedL p S1 k1 A1) (h2 : RedL p S2 k2 A2) {c : Nat → Int} (hc : VecP p k1 c) :
    (∃ s, S2 s ∧ ∀ j, j < 8 → combV p A1 k1 c j = (s j + apF p (meetF p A1 k1 A2 k2) c j) % p) ∧ ∀ t, t < k2 → apF p (meetF p A1 k1 A2 k2) c (first8 (partF A2 8 t)) = 0 := by
  have hk := red_k h1
  refine VecP.ind (R := fun c => (∃ s, S2 s ∧ ∀ j, j < 8 → combV p A1 k1 c j = (s j + apF p (meetF p A1 k1 A2 k2) c j) % p) ∧ ∀ t, t < k2 → apF p (meetF p A1 k1 A2 k2) c (first8 (partF A2 8 t)) = 0) (p := p) (by omega) hk ⟨⟨fun _ => 0, hS2.zero _ fun _ _ => rfl, fun j _ => by rw [comb_zero _ _ _ _ _ fun _ _ => rfl, apF_zero _ _ _ _ fun _ _ => rfl]; simp⟩, fun t _ => apF_zero _ _ _ _ fun _ _ => rfl⟩ (fun x y h e => ?_) (fun l hl => ?_) (fun x y d g1 g2 => ?_) hc
  · obtain ⟨⟨s, hs, e1⟩, e2⟩ := h
    exact ⟨⟨s, hs, fun j hj => by rw [comb_congr fun l hl => e l (by omega), apF_congr (fun _ _ => rfl) e]; exact e1 j hj⟩, fun t ht => by rw [apF_congr (fun _ _ => rfl) e]; exact e2 t ht⟩
  · have hr := hS1.range _ (h1.mem l hl)
    have hb := (liftV_rng (p := p) (A := A2) (B := A2) (by omega) hr k2).1
    have ha : ∀ j, j < 8 → apF p (meetF p A1 k1 A2 k2) (unitV l) j = byV p A2 (partF A1 8 l) k2 j := fun j hj => by rw [apF_unit _ _ j (by omega), meetF_at hl hj]; exact mod_id (hb j hj)
    obtain ⟨s, hs, e⟩ := by_dec (B := A2) hp hS2 (fun q hq => h2.mem q hq) hr k2 (Nat.le_refl _)
    exact ⟨⟨s, hs, fun j hj => by rw [comb_unit hl (hr j hj), ha j hj]; exact e j hj⟩, fun t ht => by rw [ha _ (h2.lt t ht)]; exact liftV_at hp (redL_tri hS2 h2) k2 (Nat.le_refl _) t ht⟩
  · obtain ⟨⟨s, hs, e1⟩, e2⟩ := g1
    obtain ⟨⟨s', hs', e1'⟩, e2'⟩ := g2
    refine ⟨⟨_, hS2.addc _ _ hs hs' d, fun j hj => ?_⟩, fun t ht => by rw [apF_add, e2 t ht, e2' t ht]; simp⟩
    rw [comb_add, apF_add, e1 j hj, e1' j hj, mod_in, mod_l, mod_l, Int.add_comm _ ((_ + _) % (p : Int)), mod_l]
    congr 1; grind
/-- the sums that the kernel tells span what is in both spaces -/
theorem meet_iff {kk : Nat} {K : Nat → Int} (hp : 1 < p) (hS1 : Space p 8 S1) (hS2 : Space p 8 S2) (h1 : RedL p S1 k1 A1) (h2 : RedL p S2 k2 A2) (hK : RedL p (Ker p k1 (meetF p A1 k1 A2 k2)) kk K) (x : Nat → Int) :
    Sp p 8 kk (fun i => combV p A1 k1 (partF K 8 i)) x ↔ S1 x ∧ S2 x := by
  have hk := red_k h1
  have hS : Space p 8 fun x => S1 x ∧ S2 x := ⟨fun v h => hS1.range v h.1, fun v u h e => ⟨hS1.ext v u h.1 e, hS2.ext v u h.2 e⟩, fun v h => ⟨hS1.zero v h, hS2.zero v h⟩, fun v u g1 g2 c => ⟨hS1.addc v u g1.1 g2.1 c, hS2.addc v u g1.2 g2.2 c⟩⟩
  have inS2 : ∀ c, Ker p k1 (meetF p A1 k1 A2 k2) c → S2 (combV p A1 k1 c) := fun c hc => by
    obtain ⟨⟨s, hs, e⟩, _⟩ := comb_dec hp hS1 hS2 h1 h2 hc.1
    exact hS2.ext _ _ hs fun j hj => by rw [e j hj, hc.2 j hj, Int.add_zero, mod_id (hS2.range _ hs j hj)]
  refine ⟨fun h => Sp.in hS (fun i hi => ⟨comb_in hp hS1 h1 (hK.mem i hi).1, inS2 _ (hK.mem i hi)⟩) h, fun ⟨hx1, hx2⟩ => ?_⟩
  -- x is a sum of one's rows
  have hr1 := hS1.range _ hx1
  have hcv : VecP p k1 fun l => if l < k1 then x (first8 (partF A1 8 l)) else 0 := ⟨fun j hj => by
      show 0 ≤ (if j < k1 then _ else _ : Int) ∧ _ < _
      split
      · rename_i h; exact hr1 _ (h1.lt j h)
      · omega, fun j hj _ => if_neg (by omega)⟩
  have hxc : ∀ j, j < 8 → x j = combV p A1 k1 (fun l => if l < k1 then x (first8 (partF A1 8 l)) else 0) j := fun j hj => by
    have hcS := comb_in hp hS1 h1 hcv
    refine eq_of_sub (hr1 j hj) (hS1.range _ hcS j hj) (h1.all _ (hS1.addc _ _ hx1 hcS (-1)) (fun i hi => ?_) j hj)
    have : combV p A1 k1 (fun l => if l < k1 then x (first8 (partF A1 8 l)) else 0) (first8 (partF A1 8 i)) = x (first8 (partF A1 8 i)) := by
      unfold combV
      rw [sumN_pick _ k1 hi, sumN_none k1 fun q hq => by
        by_cases e : q = i
        · rw [if_pos e]
        · rw [if_neg e, h1.oth q i hq hi e, Int.mul_zero], h1.one i hi, Int.mul_one, Int.add_zero]
      dsimp only
      rw [if_pos hi, mod_id (hr1 _ (h1.lt i hi))]
    show (x (first8 (partF A1 8 i)) + -1 * combV p A1 k1 _ (first8 (partF A1 8 i))) % p = 0
    rw [this, show x (first8 (partF A1 8 i)) + -1 * x (first8 (partF A1 8 i)) = 0 by omega, Int.zero_emod]
  generalize (fun l => if l < k1 then x (first8 (partF A1 8 l)) else 0) = c at hcv hxc
  have hker : Ker p k1 (meetF p A1 k1 A2 k2) c := by
    refine ⟨hcv, ?_⟩
    obtain ⟨⟨s, hs, e⟩, ez⟩ := comb_dec hp hS1 hS2 h1 h2 hcv
    have ha : S2 (apF p (meetF p A1 k1 A2 k2) c) := hS2.ext _ _ (hS2.addc _ _ hx2 hs (-1)) fun j hj => by
      rw [hxc j hj, e j hj, mod_l, show s j + apF p (meetF p A1 k1 A2 k2) c j + -1 * s j = apF p (meetF p A1 k1 A2 k2) c j by omega, mod_id (apF_rng (by omega) _ _ _)]
    exact h2.all _ ha ez
  have hsp := red_span (by omega) (ker_space (by omega)) hK hker
  have lift : ∀ c, Sp p 8 kk (partF K 8) c → Sp p 8 kk (fun i => combV p A1 k1 (partF K 8 i)) (combV p A1 k1 c) := fun c hc => by
    induction hc with
    | zero v h => exact .zero _ fun j _ => comb_zero _ _ _ _ _ fun l hl => h l (by omega)
    | add v u d i hi hv hu ih => exact .add _ _ d i hi ih fun j hj => by rw [comb_congr fun l hl => hu l (by omega), comb_add]
  exact (lift c hsp).ext hxc
end

end Go.Proofs.Ytcocapkdpbdmdaa
