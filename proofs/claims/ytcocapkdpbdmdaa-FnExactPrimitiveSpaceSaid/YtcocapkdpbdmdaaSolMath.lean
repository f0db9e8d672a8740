/- What the model's way to solve linear equations finds. -/
import Derived.Test.YtcocapkdpbdmdaaLin
import Derived.Test.YtcocapkdpbdmdaaLift
set_option linter.unusedVariables false
set_option linter.unusedSimpArgs false
set_option maxRecDepth 100000
set_option maxHeartbeats 1000000
namespace Go.Proofs.Ytcocapkdpbdmdaa
open M

theorem sumN_pick (g : Nat → Int) {t : Nat} : ∀ r, t < r → sumN r g = g t + sumN r (fun l => if l = t then 0 else g l)
  | 0, h => absurd h (Nat.not_lt_zero _)
  | r + 1, h => by
    show sumN r g + g r = g t + (sumN r (fun l => if l = t then 0 else g l) + if r = t then 0 else g r)
    by_cases e : r = t
    · subst e
      have e : sumN r (fun l => if l = r then 0 else g l) = sumN r g := sumN_congr r fun i hi => if_neg (by omega)
      rw [if_pos rfl, e]
      omega
    · rw [if_neg e, sumN_pick g (t := t) r (by omega)]; omega
theorem sp_coef {p : Int} {w n : Nat} {f : Nat → Nat → Int} {v : Nat → Int} (h : Sp p w n f v) : ∃ c : Nat → Int, ∀ j, j < w → v j = sumN n (fun l => c l * f l j) % p := by
  induction h with
  | zero v h => exact ⟨fun _ => 0, fun j hj => by rw [h j hj, sumN_none n fun i _ => Int.zero_mul _, Int.zero_emod]⟩
  | add v u c i hi hv hu ih =>
    obtain ⟨d, hd⟩ := ih
    refine ⟨fun l => if l = i then d l + c else d l, fun j hj => ?_⟩
    rw [hu j hj, hd j hj, mod_l, sumN_pick (fun l => d l * f l j) n hi, sumN_pick (fun l => (if l = i then d l + c else d l) * f l j) n hi]
    rw [if_pos rfl, sumN_congr (f := fun l => if l = i then 0 else (if l = i then d l + c else d l) * f l j) (g := fun l => if l = i then 0 else d l * f l j) n fun l _ => by by_cases e : l = i <;> simp [e]]
    congr 1
    grind

/-- rows that each begin where the later ones have 0 -/
structure Tri (p : Nat) (r : Nat) (A : Nat → Int) : Prop where
  rng : rngR p r A
  fst : ∀ l, l < r → first8 (partF A 8 l) < 8
  one : ∀ l, l < r → partF A 8 l (first8 (partF A 8 l)) = 1
  oth : ∀ t l, t < l → l < r → partF A 8 l (first8 (partF A 8 t)) = 0
theorem Tri.row {p r : Nat} {A : Nat → Int} (h : Tri p r A) {l : Nat} (hl : l < r) : ∀ j, j < 8 → 0 ≤ partF A 8 l j ∧ partF A 8 l j < p := fun j hj => h.rng _ (by omega)
theorem Tri.none {p r : Nat} {A : Nat → Int} (hp : 1 < p) (h : Tri p r A) {v : Nat → Int} (hv : Sp p 8 r (partF A 8) v) (h0 : ∀ t, t < r → v (first8 (partF A 8 t)) = 0) : ∀ j, j < 8 → v j = 0 := by
  obtain ⟨c, hc⟩ := sp_coef hv
  have key : ∀ t, t ≤ r → ∀ j, j < 8 → v j = sumN r (fun l => if l < t then 0 else c l * partF A 8 l j) % p := fun t => by
    induction t with
    | zero => intro _ j hj; rw [hc j hj, sumN_congr (f := fun l => if l < 0 then 0 else c l * partF A 8 l j) (g := fun l => c l * partF A 8 l j) r fun i _ => if_neg (Nat.not_lt_zero _)]
    | succ t ih =>
      intro ht j hj
      have ih := ih (by omega)
      have sp : ∀ j, sumN r (fun l => if l < t then 0 else c l * partF A 8 l j) = c t * partF A 8 t j + sumN r (fun l => if l < t + 1 then 0 else c l * partF A 8 l j) := fun j => by
        rw [sumN_pick _ r (show t < r by omega), if_neg (Nat.lt_irrefl t)]
        congr 1
        refine sumN_congr r fun l _ => ?_
        by_cases e : l = t
        · rw [if_pos e, if_pos (by omega)]
        · rw [if_neg e]
          by_cases e2 : l < t
          · rw [if_pos e2, if_pos (by omega)]
          · rw [if_neg e2, if_neg (by omega)]
      have hat := ih _ (h.fst t (by omega))
      rw [h0 t (by omega), sp, h.one t (by omega), sumN_none r fun l hl => ?_] at hat
      · rw [ih j hj, sp]
        obtain ⟨d, hd⟩ := Int.dvd_of_emod_eq_zero hat.symm
        rw [show c t = p * d by omega, show (p : Int) * d * partF A 8 t j + sumN r (fun l => if l < t + 1 then 0 else c l * partF A 8 l j) = sumN r (fun l => if l < t + 1 then 0 else c l * partF A 8 l j) + p * (d * partF A 8 t j) by grind, Int.add_mul_emod_self_left]
      · by_cases e : l < t + 1
        · rw [if_pos e]
        · rw [if_neg e, h.oth t l (by omega) hl, Int.mul_zero]
  intro j hj
  rw [key r (Nat.le_refl _) j hj, sumN_none r fun l hl => if_pos hl, Int.zero_emod]

theorem addM_at (p : Int) (v : Nat → Int) (k : Int) (w : Nat → Int) (j : Nat) : addM p v k w j = (v j + k * w j) % p := rfl

/-- what is left after all rows has 0 where they begin; the rest is a sum of rows; what leads to it is told -/
theorem redV_at {p : Nat} {A B : Nat → Int} {r : Nat} (hp : 1 < p) (h : Tri p r A) {x : (Nat → Int) × (Nat → Int)} : ∀ k, k ≤ r → ∀ t, t < k → (redV p A B x k).1 (first8 (partF A 8 t)) = 0
  | 0, _, t, ht => absurd ht (Nat.not_lt_zero _)
  | k + 1, hk, t, ht => by
    unfold redV
    split
    · show addM p _ _ _ _ = 0
      rw [addM_at]
      by_cases e : t = k
      · subst e; rw [h.one t (by omega), Int.mul_one, Int.add_right_neg, Int.zero_emod]
      · rw [redV_at hp h k (by omega) t (by omega), h.oth t k (by omega) (by omega)]; simp
    · rename_i hz
      by_cases e : t = k
      · subst e; exact Classical.not_not.1 hz
      · exact redV_at hp h k (by omega) t (by omega)
theorem redV_back {p : Nat} {A B : Nat → Int} {r : Nat} (hp : 1 < p) {S : (Nat → Int) → Prop} (hS : Space p 8 S) (hA : ∀ l, l < r → S (partF A 8 l)) {x : (Nat → Int) × (Nat → Int)} (hx : ∀ j, j < 8 → 0 ≤ x.1 j ∧ x.1 j < p) (hx2 : ∀ j, j < 8 → 0 ≤ x.2 j ∧ x.2 j < p) : ∀ k, k ≤ r → S (redV p A B x k).1 → S x.1
  | 0, _, h => h
  | k + 1, hk, h => by
    refine redV_back (B := B) hp hS hA hx hx2 k (by omega) ?_
    unfold redV at h
    split at h
    · refine hS.ext _ _ (hS.addc _ _ h (hA k (by omega)) ((redV p A B x k).1 (first8 (partF A 8 k)))) fun j hj => ?_
      dsimp only
      rw [addM_at, mod_l, show (redV p A B x k).1 j + -((redV p A B x k).1 (first8 (partF A 8 k))) * partF A 8 k j + (redV p A B x k).1 (first8 (partF A 8 k)) * partF A 8 k j = (redV p A B x k).1 j by grind, mod_id ((redV_rng (by omega) hx hx2 k).1 j hj)]
    · exact h
theorem redV_map {p n : Nat} {A B f : Nat → Int} {r : Nat} (hp : 1 < p) (hAB : ∀ l, l < r → VecP p n (partF B 8 l) ∧ ∀ j, j < 8 → apF p f (partF B 8 l) j = partF A 8 l j) {x : (Nat → Int) × (Nat → Int)} (hx2 : VecP p n x.2) (hx : ∀ j, j < 8 → apF p f x.2 j = x.1 j) : ∀ k, k ≤ r → VecP p n (redV p A B x k).2 ∧ ∀ j, j < 8 → apF p f (redV p A B x k).2 j = (redV p A B x k).1 j
  | 0, _ => ⟨hx2, hx⟩
  | k + 1, hk => by
    have ih := redV_map hp hAB hx2 hx k (by omega)
    unfold redV
    split
    · refine ⟨ih.1.add (by omega) (hAB k (by omega)).1 _, fun j hj => ?_⟩
      show apF p f (fun j => (_ + _ * _) % (p : Int)) j = addM p _ _ _ j
      rw [apF_add, ih.2 j hj, (hAB k (by omega)).2 j hj]
      rfl
    · exact ih

structure SolM (p n i : Nat) (f : Nat → Int) (s : SolS) : Prop where
  tri : Tri p s.r s.A
  img : ∀ l, l < s.r → VecP p n (partF s.B 8 l) ∧ ∀ j, j < 8 → apF p f (partF s.B 8 l) j = partF s.A 8 l j
  ker : ∀ l, l < s.q → VecP p n (partF s.C 8 l) ∧ ∀ j, j < 8 → apF p f (partF s.C 8 l) j = 0
  all : ∀ m, m < i → Sp p 8 s.r (partF s.A 8) (partF f 8 m)

theorem solN_math {p n : Nat} {f : Nat → Int} (hp : primeB (p : Int) = true) (hp2 : 2 ≤ p ∧ p ≤ 31) (hn : n ≤ 8) (hf : ∀ q, q < 64 → 0 ≤ f q ∧ f q < p) : ∀ i, i ≤ n → SolM p n i f (solN p f i)
  | 0, _ => ⟨⟨fun q (hq : q < 0 * 8) => by omega, fun l hl => absurd hl (Nat.not_lt_zero _), fun l hl => absurd hl (Nat.not_lt_zero _), fun t l h1 hl => absurd hl (Nat.not_lt_zero _)⟩, fun l hl => absurd hl (Nat.not_lt_zero _), fun l hl => absurd hl (Nat.not_lt_zero _), fun l hl => absurd hl (Nat.not_lt_zero _)⟩
  | i + 1, hi => by
    have ih := solN_math hp hp2 hn hf i (by omega)
    have hx1 : ∀ j, j < 8 → 0 ≤ partF f 8 i j ∧ partF f 8 i j < p := fun j hj => hf _ (by omega)
    have hx2 : VecP p n (unitV i) := VecP.unit (by omega) (by omega)
    have hr := redV_rng (p := p) (A := (solN p f i).A) (B := (solN p f i).B) (x := (partF f 8 i, unitV i)) (by omega) hx1 hx2.rng (solN p f i).r
    have hat := redV_at (p := p) (A := (solN p f i).A) (B := (solN p f i).B) (x := (partF f 8 i, unitV i)) (by omega) ih.tri (solN p f i).r (Nat.le_refl _)
    have hback := fun (S : (Nat → Int) → Prop) (hS : Space p 8 S) hA => redV_back (p := p) (A := (solN p f i).A) (B := (solN p f i).B) (x := (partF f 8 i, unitV i)) (r := (solN p f i).r) (by omega) hS hA hx1 hx2.rng (solN p f i).r (Nat.le_refl _)
    have hmap := redV_map (p := p) (n := n) (A := (solN p f i).A) (B := (solN p f i).B) (f := f) (x := (partF f 8 i, unitV i)) (r := (solN p f i).r) (by omega) ih.img hx2 (fun j hj => by rw [apF_unit p f j (by omega)]; rw [show f (i * 8 + j) = partF f 8 i j by unfold partF; congr 1; omega]; exact mod_id (hx1 j hj)) (solN p f i).r (Nat.le_refl _)
    show SolM p n (i + 1) f (solStep p (solN p f i) _ _)
    generalize redV p (solN p f i).A (solN p f i).B (partF f 8 i, unitV i) (solN p f i).r = vw at hr hat hback hmap ⊢
    generalize solN p f i = s at *
    unfold solStep
    split
    · rename_i hz
      have h0 : ∀ j, j < 8 → vw.1 j = 0 := fun j hj => allEq_get hz hj
      refine ⟨ih.tri, ih.img, fun l hl => ?_, fun m hm => ?_⟩
      · by_cases e : l = s.q
        · subst e
          exact ⟨⟨fun j hj => by rw [snoc_new hj]; exact hmap.1.rng j hj, fun j h1 h2 => by rw [snoc_new h2]; exact hmap.1.out j h1 h2⟩, fun j hj => by rw [apF_congr (fun _ _ => rfl) fun i hi => snoc_new hi, hmap.2 j hj, h0 j hj]⟩
        · have hl : l < s.q := by have hl : l < s.q + 1 := hl; omega
          have h := ih.ker l hl
          exact ⟨⟨fun j hj => by rw [snoc_old hl hj]; exact h.1.rng j hj, fun j h1 h2 => by rw [snoc_old hl h2]; exact h.1.out j h1 h2⟩, fun j hj => by rw [apF_congr (fun _ _ => rfl) fun i hi => snoc_old hl hi, h.2 j hj]⟩
      · by_cases e : m = i
        · subst e
          exact hback _ (Sp.space (by omega)) (fun l hl => Sp.row hl (ih.tri.row hl)) (.zero _ h0)
        · exact ih.all m (by omega)
    · rename_i hz
      have h8 : first8 vw.1 < 8 ∧ vw.1 (first8 vw.1) ≠ 0 ∧ ∀ j, j < first8 vw.1 → vw.1 j = 0 := by
        rcases first8_spec vw.1 with ⟨h1, h2⟩ | h
        · exact absurd (List.all_eq_true.2 fun j hj => beq_iff_eq.2 (h2 j (List.mem_range.1 hj))) hz
        · exact h
      have hx := hr.1 _ h8.1
      obtain ⟨i0, i1, i2, _⟩ := invN_spec hp hp2 (x := (vw.1 (first8 vw.1)).toNat) ⟨by omega, by omega⟩
      have i2 : (invN p (vw.1 (first8 vw.1)).toNat : Int) * vw.1 (first8 vw.1) % p = 1 := by
        have e1 : vw.1 (first8 vw.1) = ((vw.1 (first8 vw.1)).toNat : Int) := by omega
        generalize (vw.1 (first8 vw.1)).toNat = x at *
        rw [e1]
        exact_mod_cast i2
      generalize hy : (invN p (vw.1 (first8 vw.1)).toNat : Int) = y at *
      have row_old : ∀ l, l < s.r → ∀ j, j < 8 → partF (snocF s.A s.r (addM p (fun _ => 0) y vw.1)) 8 l j = partF s.A 8 l j := fun l hl j hj => snoc_old hl hj
      have row_new : ∀ j, j < 8 → partF (snocF s.A s.r (addM p (fun _ => 0) y vw.1)) 8 s.r j = y * vw.1 j % p := fun j hj => by rw [snoc_new hj, addM_at, Int.zero_add]
      have brow_old : ∀ l, l < s.r → ∀ j, j < 8 → partF (snocF s.B s.r (addM p (fun _ => 0) y vw.2)) 8 l j = partF s.B 8 l j := fun l hl j hj => snoc_old hl hj
      have brow_new : ∀ j, j < 8 → partF (snocF s.B s.r (addM p (fun _ => 0) y vw.2)) 8 s.r j = y * vw.2 j % p := fun j hj => by rw [snoc_new hj, addM_at, Int.zero_add]
      have arng : rngR p (s.r + 1) (snocF s.A s.r (addM p (fun _ => 0) y vw.1)) := snoc_rng ih.tri.rng fun j _ => addM_rng (by omega) _ _ _ j
      show SolM p n (i + 1) f ⟨s.r + 1, s.q, snocF s.A s.r (addM p (fun _ => 0) y vw.1), snocF s.B s.r (addM p (fun _ => 0) y vw.2), s.C⟩
      generalize snocF s.A s.r (addM p (fun _ => 0) y vw.1) = A at *
      generalize snocF s.B s.r (addM p (fun _ => 0) y vw.2) = B at *
      have f_old : ∀ l, l < s.r → first8 (partF A 8 l) = first8 (partF s.A 8 l) := fun l hl => first8_congr (row_old l hl)
      have f_new : first8 (partF A 8 s.r) = first8 vw.1 := first8_is (by omega) (fun j hj => by rw [row_new j (by omega), h8.2.2 j hj]; simp) fun h => by rw [row_new _ h, i2]; decide
      have rw_ : ∀ l, l < s.r + 1 → ∀ j, j < 8 → 0 ≤ partF A 8 l j ∧ partF A 8 l j < p := fun l hl j hj => arng _ (by omega)
      refine ⟨⟨arng, fun l hl => ?_, fun l hl => ?_, fun t l h1 hl => ?_⟩, fun l hl => ?_, ih.ker, fun m hm => ?_⟩
      · by_cases e : l = s.r
        · subst e; show first8 (partF A 8 s.r) < 8; rw [f_new]; exact h8.1
        · have hl : l < s.r := by have hl : l < s.r + 1 := hl; omega
          show first8 (partF A 8 l) < 8; rw [f_old l hl]; exact ih.tri.fst l hl
      · by_cases e : l = s.r
        · subst e; show partF A 8 s.r (first8 (partF A 8 s.r)) = 1; rw [f_new, row_new _ h8.1]; exact i2
        · have hl : l < s.r := by have hl : l < s.r + 1 := hl; omega
          show partF A 8 l (first8 (partF A 8 l)) = 1; rw [f_old l hl, row_old l hl _ (ih.tri.fst l hl)]; exact ih.tri.one l hl
      · have ht : t < s.r := by have hl : l < s.r + 1 := hl; omega
        show partF A 8 l (first8 (partF A 8 t)) = 0
        rw [f_old t ht]
        by_cases e : l = s.r
        · subst e; rw [row_new _ (ih.tri.fst t ht), hat t ht]; simp
        · have hl : l < s.r := by have hl : l < s.r + 1 := hl; omega
          rw [row_old l hl _ (ih.tri.fst t ht)]; exact ih.tri.oth t l h1 hl
      · by_cases e : l = s.r
        · subst e
          have hv := (VecP.add (p := p) (n := n) (x := fun _ => 0) (by omega) ⟨fun _ _ => ⟨Int.le_refl _, by omega⟩, fun _ _ _ => rfl⟩ hmap.1 y)
          refine ⟨⟨fun j hj => ?_, fun j h1 h2 => ?_⟩, fun j hj => ?_⟩
          · show 0 ≤ partF B 8 s.r j ∧ partF B 8 s.r j < p
            rw [brow_new j hj]; exact mod_rng (by omega) _
          · show partF B 8 s.r j = 0
            rw [brow_new j h2, hmap.1.out j h1 h2]; simp
          · show apF p f (partF B 8 s.r) j = partF A 8 s.r j
            rw [apF_congr (y := fun i => ((fun _ => 0 : Nat → Int) i + y * vw.2 i) % p) (fun _ _ => rfl) fun i hi => by rw [brow_new i hi]; show _ = (0 + _) % (p : Int); rw [Int.zero_add], apF_add, apF_zero p f _ j fun _ _ => rfl, hmap.2 j hj, row_new j hj, Int.zero_add]
        · have hl : l < s.r := by have hl : l < s.r + 1 := hl; omega
          have h := ih.img l hl
          refine ⟨⟨fun j hj => ?_, fun j h1 h2 => ?_⟩, fun j hj => ?_⟩
          · show 0 ≤ partF B 8 l j ∧ partF B 8 l j < p
            rw [brow_old l hl j hj]; exact h.1.rng j hj
          · show partF B 8 l j = 0
            rw [brow_old l hl j h2]; exact h.1.out j h1 h2
          · show apF p f (partF B 8 l) j = partF A 8 l j
            rw [apF_congr (fun _ _ => rfl) (brow_old l hl), h.2 j hj, row_old l hl j hj]
      · have hS : Space p 8 (Sp p 8 (s.r + 1) (partF A 8)) := Sp.space (by omega)
        have hold : ∀ l, l < s.r → Sp p 8 (s.r + 1) (partF A 8) (partF s.A 8 l) := fun l hl => (Sp.row (show l < s.r + 1 by omega) (rw_ l (by omega))).ext fun j hj => (row_old l hl j hj).symm
        show Sp p 8 (s.r + 1) (partF A 8) (partF f 8 m)
        by_cases e : m = i
        · subst e
          refine hback _ hS hold ((hS.addc _ _ (hS.zero (fun _ => 0) fun _ _ => rfl) (Sp.row (show s.r < s.r + 1 by omega) (rw_ s.r (by omega))) (vw.1 (first8 vw.1))).ext fun j hj => ?_)
          rw [row_new j hj, mod_in, Int.zero_add, show vw.1 (first8 vw.1) * (y * vw.1 j) = vw.1 j * (y * vw.1 (first8 vw.1)) by grind]
          have := mod_in p 0 (y * vw.1 (first8 vw.1)) (vw.1 j)
          rw [i2, Int.zero_add, Int.zero_add, Int.mul_one] at this
          rw [← this, mod_id (hr.1 j hj)]
        · exact (ih.all m (by omega)).sub (by omega) hold

/-- what is found leads to v; and something is found if something leads to v -/
theorem liftV_yes {p n : Nat} {A B f v : Nat → Int} {r : Nat} (hp : 1 < p) (hAB : ∀ l, l < r → VecP p n (partF B 8 l) ∧ ∀ j, j < 8 → apF p f (partF B 8 l) j = partF A 8 l j) (hv : ∀ j, j < 8 → 0 ≤ v j ∧ v j < p) : ∀ k, k ≤ r → VecP p n (liftV p A B v k).2 ∧ ∀ j, j < 8 → ((liftV p A B v k).1 j + apF p f (liftV p A B v k).2 j) % p = v j
  | 0, _ => ⟨⟨fun _ _ => ⟨Int.le_refl _, by show (0 : Int) < p; omega⟩, fun _ _ _ => rfl⟩, fun j hj => by show (v j + apF p f (fun _ => 0) j) % p = v j; rw [apF_zero p f _ j fun _ _ => rfl, Int.add_zero, mod_id (hv j hj)]⟩
  | k + 1, hk => by
    have ih := liftV_yes hp hAB hv k (by omega)
    unfold liftV
    split
    · refine ⟨ih.1.add (by omega) (hAB k (by omega)).1 _, fun j hj => ?_⟩
      show (addM p _ _ _ j + apF p f (fun j => (_ + _ * _) % (p : Int)) j) % p = v j
      rw [apF_add, addM_at, (hAB k (by omega)).2 j hj, ← ih.2 j hj, mod_l, Int.add_comm _ ((_ + _) % (p : Int)), mod_l]
      congr 1
      grind
    · exact ih
theorem liftV_in {p : Nat} {A B v : Nat → Int} {r : Nat} (hp : 1 < p) {S : (Nat → Int) → Prop} (hS : Space p 8 S) (hA : ∀ l, l < r → S (partF A 8 l)) (hv : S v) : ∀ k, k ≤ r → S (liftV p A B v k).1
  | 0, _ => hv
  | k + 1, hk => by
    have ih := liftV_in (B := B) hp hS hA hv k (by omega)
    unfold liftV
    split
    · exact hS.addc _ _ ih (hA k (by omega)) _
    · exact ih
theorem liftV_at {p : Nat} {A B v : Nat → Int} {r : Nat} (hp : 1 < p) (h : Tri p r A) : ∀ k, k ≤ r → ∀ t, t < k → (liftV p A B v k).1 (first8 (partF A 8 t)) = 0
  | 0, _, t, ht => absurd ht (Nat.not_lt_zero _)
  | k + 1, hk, t, ht => by
    unfold liftV
    split
    · show addM p _ _ _ _ = 0
      rw [addM_at]
      by_cases e : t = k
      · subst e; rw [h.one t (by omega), Int.mul_one, Int.add_right_neg, Int.zero_emod]
      · rw [liftV_at hp h k (by omega) t (by omega), h.oth t k (by omega) (by omega)]; simp
    · rename_i hz
      by_cases e : t = k
      · subst e; exact Classical.not_not.1 hz
      · exact liftV_at hp h k (by omega) t (by omega)

theorem lift_vec {p n : Nat} {f v : Nat → Int} (hp : primeB (p : Int) = true) (hp2 : 2 ≤ p ∧ p ≤ 31) (hn : n ≤ 8) (hf : MapP p n f) (hv : ∀ j, j < 8 → 0 ≤ v j ∧ v j < p) : VecP p n (liftR p n f v).2 :=
  (liftV_yes (by omega) (solN_math hp hp2 hn hf.rng n (Nat.le_refl _)).img hv _ (Nat.le_refl _)).1
theorem lift_yes {p n : Nat} {f v : Nat → Int} (hp : primeB (p : Int) = true) (hp2 : 2 ≤ p ∧ p ≤ 31) (hn : n ≤ 8) (hf : MapP p n f) (hv : ∀ j, j < 8 → 0 ≤ v j ∧ v j < p) (h : allEq 8 (liftR p n f v).1 (fun _ => 0) = true) : ∀ j, j < 8 → apF p f (liftR p n f v).2 j = v j := fun j hj => by
  have := (liftV_yes (by omega) (solN_math hp hp2 hn hf.rng n (Nat.le_refl _)).img hv _ (Nat.le_refl _)).2 j hj
  rw [← this, show (liftV p (solN p f n).A (solN p f n).B v (solN p f n).r).1 j = 0 from allEq_get h hj, Int.zero_add]
  exact (Int.emod_emod _ _).symm
theorem lift_no {p n : Nat} {f v x : Nat → Int} (hp : primeB (p : Int) = true) (hp2 : 2 ≤ p ∧ p ≤ 31) (hn : n ≤ 8) (hf : MapP p n f) (hx : VecP p n x) (hv : ∀ j, j < 8 → apF p f x j = v j) : allEq 8 (liftR p n f v).1 (fun _ => 0) = true := by
  have hm := solN_math hp hp2 hn hf.rng n (Nat.le_refl _)
  have hS : Space p 8 (Sp p 8 (solN p f n).r (partF (solN p f n).A 8)) := Sp.space (by omega)
  have hin : Sp p 8 (solN p f n).r (partF (solN p f n).A 8) (apF p f x) := by
    refine VecP.ind (R := fun x => Sp p 8 (solN p f n).r (partF (solN p f n).A 8) (apF p f x)) (p := p) (by omega) hn (.zero _ fun j _ => apF_zero p f _ j fun _ _ => rfl) (fun x y h e => h.ext fun j _ => apF_congr (fun _ _ => rfl) e) (fun k hk => (hm.all k hk).ext fun j hj => ?_) (fun x y c h1 h2 => (hS.addc _ _ h1 h2 c).ext fun j _ => apF_add p c f x y j) hx
    rw [apF_unit p f j (by omega), show f (k * 8 + j) = partF f 8 k j by unfold partF; congr 1; omega]
    exact mod_id (hf.rng _ (by omega))
  have hz := hm.tri.none (by omega) (liftV_in (B := (solN p f n).B) (by omega) hS (fun l hl => Sp.row hl (hm.tri.row hl)) (hin.ext fun j hj => (hv j hj).symm) _ (Nat.le_refl _)) (liftV_at (by omega) hm.tri _ (Nat.le_refl _))
  exact List.all_eq_true.2 fun j hj => beq_iff_eq.2 (hz j (List.mem_range.1 hj))
end Go.Proofs.Ytcocapkdpbdmdaa
