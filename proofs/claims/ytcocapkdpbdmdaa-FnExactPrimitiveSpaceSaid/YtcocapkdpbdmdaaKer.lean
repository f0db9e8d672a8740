/- The kernel of a linear map: what the model lists spans it. -/
import Derived.Test.YtcocapkdpbdmdaaReduce
set_option linter.unusedVariables false
set_option linter.unusedSimpArgs false
set_option maxRecDepth 100000
set_option maxHeartbeats 1000000
namespace Go.Proofs.Ytcocapkdpbdmdaa
open M

def Ker (p n : Nat) (f x : Nat → Int) : Prop := VecP p n x ∧ ∀ j, j < 8 → apF p f x j = 0
theorem ker_space {p n : Nat} {f : Nat → Int} (hp : 1 < p) : Space p 8 (Ker p n f) := by
  refine ⟨fun v h => h.1.rng, fun v u h e => ⟨⟨fun j hj => by rw [e j hj]; exact h.1.rng j hj, fun j h1 h2 => by rw [e j h2]; exact h.1.out j h1 h2⟩, fun j hj => by rw [apF_congr (fun _ _ => rfl) e]; exact h.2 j hj⟩, fun v h => ⟨⟨fun j hj => by rw [h j hj]; omega, fun j _ hj => h j hj⟩, fun j hj => apF_zero _ _ _ _ h⟩, fun v u h1 h2 c => ⟨h1.1.add (by omega) h2.1 c, fun j hj => ?_⟩⟩
  rw [apF_add, h1.2 j hj, h2.2 j hj]; simp

/-- sums of rows that are nothing have no numbers but multiples of p -/
theorem tri_zero {p r : Nat} {A : Nat → Int} (h : Tri p r A) {c : Nat → Int} (hz : ∀ j, j < 8 → sumN r (fun l => c l * partF A 8 l j) % (p : Int) = 0) : ∀ l, l < r → c l % (p : Int) = 0 := by
  have key : ∀ t, t ≤ r → ∀ l, l < t → c l % (p : Int) = 0 := fun t => by
    induction t with
    | zero => intro _ l hl; exact absurd hl (Nat.not_lt_zero _)
    | succ t ih =>
      intro ht l hl
      by_cases e : l = t
      · subst e
        have ih := ih (by omega)
        have e1 := hz _ (h.fst l (by omega))
        rw [sumN_pick _ r (show l < r by omega), h.one l (by omega), Int.mul_one] at e1
        have e2 : sumN r (fun q => if q = l then 0 else c q * partF A 8 q (first8 (partF A 8 l))) % (p : Int) = 0 := by
          have : sumN r (fun q => if q = l then 0 else c q * partF A 8 q (first8 (partF A 8 l))) = p * sumN r (fun q => if q < l then c q / p * partF A 8 q (first8 (partF A 8 l)) else 0) := by
            rw [sumN_mul]
            refine sumN_congr r fun q hq => ?_
            by_cases g : q = l
            · rw [if_pos g, if_neg (by omega)]; simp
            · rw [if_neg g]
              by_cases g2 : q < l
              · rw [if_pos g2]
                have := Int.mul_ediv_cancel' (Int.dvd_of_emod_eq_zero (ih q g2))
                rw [← Int.mul_assoc, this]
              · rw [if_neg g2, h.oth l q (by omega) hq]; simp
          rw [this]; exact Int.mul_emod_right _ _
        rw [Int.add_emod, e2, Int.add_zero, Int.emod_emod] at e1
        exact e1
      · exact ih (by omega) l (by omega)
  exact fun l hl => key r (Nat.le_refl _) l hl

/-- a row and what leads to it -/
def pairR (A B : Nat → Int) : Nat → Nat → Int := fun l j => if j < 8 then partF A 8 l j else partF B 8 l (j - 8)
theorem pair_lo {A B : Nat → Int} {l j : Nat} (h : j < 8) : pairR A B l j = partF A 8 l j := if_pos h
theorem pair_hi {A B : Nat → Int} {l j : Nat} : pairR A B l (8 + j) = partF B 8 l j := by unfold pairR; rw [if_neg (by omega)]; congr 1; omega
theorem redV_src {p r : Nat} {A B : Nat → Int} (hp : 1 < p) {S : (Nat → Int) → Prop} (hS : Space p 16 S) (hAB : ∀ l, l < r → S (pairR A B l)) {x : (Nat → Int) × (Nat → Int)} (hx : ∀ j, j < 8 → 0 ≤ x.1 j ∧ x.1 j < p) (hx2 : ∀ j, j < 8 → 0 ≤ x.2 j ∧ x.2 j < p) : ∀ k, k ≤ r →
    ∃ z, S z ∧ (∀ j, j < 8 → x.1 j = (z j + (redV p A B x k).1 j) % p) ∧ ∀ j, j < 8 → x.2 j = (z (8 + j) + (redV p A B x k).2 j) % p
  | 0, _ => ⟨fun _ => 0, hS.zero _ fun _ _ => rfl, fun j hj => by show x.1 j = (0 + x.1 j) % p; rw [Int.zero_add, mod_id (hx j hj)], fun j hj => by show x.2 j = (0 + x.2 j) % p; rw [Int.zero_add, mod_id (hx2 j hj)]⟩
  | k + 1, hk => by
    obtain ⟨z, hz, e1, e2⟩ := redV_src hp hS hAB hx hx2 k (by omega)
    unfold redV
    split
    · refine ⟨fun j => (z j + (redV p A B x k).1 (first8 (partF A 8 k)) * pairR A B k j) % p, hS.addc _ _ hz (hAB k (by omega)) _, fun j hj => ?_, fun j hj => ?_⟩
      · show x.1 j = ((z j + _ * pairR A B k j) % p + addM p _ _ _ j) % p
        rw [addM_at, mod_l, Int.add_comm _ ((_ + _) % (p : Int)), mod_l, e1 j hj, pair_lo hj]
        congr 1; grind
      · show x.2 j = ((z (8 + j) + _ * pairR A B k (8 + j)) % p + addM p _ _ _ j) % p
        rw [addM_at, mod_l, Int.add_comm _ ((_ + _) % (p : Int)), mod_l, e2 j hj, pair_hi]
        congr 1; grind
    · exact ⟨z, hz, e1, e2⟩

/-- a vector told by the second halves, and the list C -/
def Told (p : Nat) (s : SolS) (x : Nat → Int) : Prop := ∃ z c, Sp p 16 s.r (pairR s.A s.B) z ∧ Sp p 8 s.q (partF s.C 8) c ∧ ∀ j, j < 8 → x j = (z (8 + j) + c j) % p
theorem solN_told {p n : Nat} {f : Nat → Int} (hp : primeB (p : Int) = true) (hp2 : 2 ≤ p ∧ p ≤ 31) (hn : n ≤ 8) (hf : ∀ q, q < 64 → 0 ≤ f q ∧ f q < p) : ∀ i, i ≤ n → ∀ m, m < i → Told p (solN p f i) (unitV m)
  | 0, _ => fun m hm => absurd hm (Nat.not_lt_zero _)
  | i + 1, hi => by
    have ih := solN_told hp hp2 hn hf i (by omega)
    have hok := solN_ok hp hp2 hf i (by omega)
    have hx1 : ∀ j, j < 8 → 0 ≤ partF f 8 i j ∧ partF f 8 i j < p := fun j hj => hf _ (by omega)
    have hx2 : VecP p n (unitV i) := VecP.unit (by omega) (by omega)
    have hr := redV_rng (p := p) (A := (solN p f i).A) (B := (solN p f i).B) (x := (partF f 8 i, unitV i)) (by omega) hx1 hx2.rng (solN p f i).r
    have prow : ∀ (s : SolS) r, rngR p r s.A → rngR p r s.B → ∀ l, l < r → ∀ j, j < 16 → 0 ≤ pairR s.A s.B l j ∧ pairR s.A s.B l j < p := fun s r h1 h2 l hl j hj => by
      unfold pairR
      split
      · exact h1 _ (by omega)
      · exact h2 _ (by omega)
    have hsrc := redV_src (p := p) (A := (solN p f i).A) (B := (solN p f i).B) (x := (partF f 8 i, unitV i)) (r := (solN p f i).r) (by omega) (Sp.space (f := pairR (solN p f i).A (solN p f i).B) (n := (solN p f i).r) (by omega)) (fun l hl => Sp.row hl (prow _ _ hok.a hok.b l hl)) hx1 hx2.rng (solN p f i).r (Nat.le_refl _)
    show ∀ m, m < i + 1 → Told p (solStep p (solN p f i) _ _) (unitV m)
    generalize redV p (solN p f i).A (solN p f i).B (partF f 8 i, unitV i) (solN p f i).r = vw at hr hsrc ⊢
    generalize solN p f i = s at *
    obtain ⟨z0, hz0, _, e0⟩ := hsrc
    dsimp only at e0
    intro m hm
    unfold solStep
    split
    · rename_i hzero
      have cold : ∀ x, Sp p 8 s.q (partF s.C 8) x → Sp p 8 (s.q + 1) (partF (snocF s.C s.q vw.2) 8) x := fun x hx => hx.sub (by omega) fun l hl => (Sp.row (show l < s.q + 1 by omega) fun j hj => by rw [snoc_old hl hj]; exact hok.c _ (by omega)).ext fun j hj => (snoc_old hl hj).symm
      by_cases e : m = i
      · subst e
        exact ⟨z0, vw.2, hz0, (Sp.row (show s.q < s.q + 1 by omega) fun j hj => by rw [snoc_new hj]; exact hr.2 j hj).ext fun j hj => (snoc_new hj).symm, e0⟩
      · obtain ⟨z, c, h1, h2, h3⟩ := ih m (by omega)
        exact ⟨z, c, h1, cold c h2, h3⟩
    · rename_i hz
      have h8 : first8 vw.1 < 8 ∧ vw.1 (first8 vw.1) ≠ 0 ∧ ∀ j, j < first8 vw.1 → vw.1 j = 0 := by
        rcases first8_spec vw.1 with ⟨h1, h2⟩ | h
        · exact absurd (List.all_eq_true.2 fun j hj => beq_iff_eq.2 (h2 j (List.mem_range.1 hj))) hz
        · exact h
      have hx := hr.1 _ h8.1
      obtain ⟨i0, i1, i2, _⟩ := invN_spec hp hp2 (x := (vw.1 (first8 vw.1)).toNat) ⟨by omega, by omega⟩
      have i2 : (invN p (vw.1 (first8 vw.1)).toNat : Int) * vw.1 (first8 vw.1) % p = 1 := by
        have e1 : vw.1 (first8 vw.1) = ((vw.1 (first8 vw.1)).toNat : Int) := by omega
        generalize (vw.1 (first8 vw.1)).toNat = x at *
        rw [e1]
        exact_mod_cast i2
      generalize (invN p (vw.1 (first8 vw.1)).toNat : Int) = y at *
      have ra : rngR p (s.r + 1) (snocF s.A s.r (addM p (fun _ => 0) y vw.1)) := snoc_rng hok.a fun j _ => addM_rng (by omega) _ _ _ j
      have rb : rngR p (s.r + 1) (snocF s.B s.r (addM p (fun _ => 0) y vw.2)) := snoc_rng hok.b fun j _ => addM_rng (by omega) _ _ _ j
      have pold : ∀ l, l < s.r → ∀ j, j < 16 → pairR (snocF s.A s.r (addM p (fun _ => 0) y vw.1)) (snocF s.B s.r (addM p (fun _ => 0) y vw.2)) l j = pairR s.A s.B l j := fun l hl j hj => by
        unfold pairR
        split
        · exact snoc_old hl (by omega)
        · exact snoc_old hl (by omega)
      have phi : ∀ j, j < 8 → pairR (snocF s.A s.r (addM p (fun _ => 0) y vw.1)) (snocF s.B s.r (addM p (fun _ => 0) y vw.2)) s.r (8 + j) = y * vw.2 j % p := fun j hj => by rw [pair_hi, snoc_new hj, addM_at, Int.zero_add]
      have prow' := prow ⟨s.r + 1, s.q, snocF s.A s.r (addM p (fun _ => 0) y vw.1), snocF s.B s.r (addM p (fun _ => 0) y vw.2), s.C⟩ (s.r + 1) ra rb
      show Told p ⟨s.r + 1, s.q, snocF s.A s.r (addM p (fun _ => 0) y vw.1), snocF s.B s.r (addM p (fun _ => 0) y vw.2), s.C⟩ (unitV m)
      unfold Told
      dsimp only at prow' ⊢
      generalize pairR (snocF s.A s.r (addM p (fun _ => 0) y vw.1)) (snocF s.B s.r (addM p (fun _ => 0) y vw.2)) = R at *
      have up : ∀ x, Sp p 16 s.r (pairR s.A s.B) x → Sp p 16 (s.r + 1) R x := fun x hx => hx.sub (by omega) fun l hl => (Sp.row (show l < s.r + 1 by omega) (prow' l (by omega))).ext fun j hj => (pold l hl j hj).symm
      by_cases e : m = i
      · subst e
        refine ⟨fun j => (z0 j + vw.1 (first8 vw.1) * R s.r j) % p, fun _ => 0, (up _ hz0).addc (by omega) (Sp.row (show s.r < s.r + 1 by omega) (prow' s.r (by omega))) _, .zero _ fun _ _ => rfl, fun j hj => ?_⟩
        show _ = ((z0 (8 + j) + vw.1 (first8 vw.1) * R s.r (8 + j)) % p + 0) % p
        rw [Int.add_zero, Int.emod_emod, phi j hj, mod_in, e0 j hj, show vw.1 (first8 vw.1) * (y * vw.2 j) = vw.2 j * (y * vw.1 (first8 vw.1)) by grind]
        have := mod_in p (z0 (8 + j)) (y * vw.1 (first8 vw.1)) (vw.2 j)
        rw [i2, Int.mul_one] at this
        exact this
      · obtain ⟨z, c, h1, h2, h3⟩ := ih m (by omega)
        exact ⟨z, c, up z h1, h2, h3⟩
theorem ker_iff {p n : Nat} {f : Nat → Int} (hp : primeB (p : Int) = true) (hp2 : 2 ≤ p ∧ p ≤ 31) (hn : n ≤ 8) (hf : ∀ q, q < 64 → 0 ≤ f q ∧ f q < p) (x : Nat → Int) : Sp p 8 (solN p f n).q (partF (solN p f n).C 8) x ↔ Ker p n f x := by
  have hm := solN_math hp hp2 hn hf n (Nat.le_refl _)
  have ht := solN_told hp hp2 hn hf n (Nat.le_refl _)
  have hK : Space p 8 (Ker p n f) := ker_space (by omega)
  refine ⟨fun h => Sp.in hK (fun l hl => hm.ker l hl) h, fun ⟨hx, h0⟩ => ?_⟩
  have hold : Told p (solN p f n) x := by
    refine VecP.ind (R := Told p (solN p f n)) (p := p) (by omega) hn ⟨fun _ => 0, fun _ => 0, .zero _ fun _ _ => rfl, .zero _ fun _ _ => rfl, fun j hj => by simp⟩ (fun x y h e => ?_) ht (fun x y c h1 h2 => ?_) hx
    · obtain ⟨z, c, g1, g2, g3⟩ := h
      exact ⟨z, c, g1, g2, fun j hj => by rw [e j hj]; exact g3 j hj⟩
    · obtain ⟨z, d, g1, g2, g3⟩ := h1
      obtain ⟨z', d', g1', g2', g3'⟩ := h2
      refine ⟨_, _, g1.addc (by omega) g1' c, g2.addc (by omega) g2' c, fun j hj => ?_⟩
      dsimp only
      rw [g3 j hj, g3' j hj, mod_in, mod_l, mod_l, Int.add_comm _ ((_ + _) % (p : Int)), mod_l]
      congr 1; grind
  obtain ⟨z, c, hz, hc, e⟩ := hold
  obtain ⟨d, hd⟩ := sp_coef hz
  -- what z's second half leads to is its first half
  have himg : ∀ z, Sp p 16 (solN p f n).r (pairR (solN p f n).A (solN p f n).B) z → ∀ j, j < 8 → apF p f (fun j => z (8 + j)) j = z j := fun z hz => by
    induction hz with
    | zero v h => intro j hj; rw [h j (by omega)]; exact apF_zero _ _ _ _ fun i hi => h _ (by omega)
    | add v u c l hl hv hu ih =>
      intro j hj
      rw [apF_congr (y := fun i => (v (8 + i) + c * partF (solN p f n).B 8 l i) % p) (fun _ _ => rfl) fun i hi => by rw [hu _ (by omega), pair_hi], apF_add, ih j hj, (hm.img l hl).2 j hj, hu j (by omega), pair_lo hj]
  have hck : ∀ j, j < 8 → apF p f c j = 0 := (Sp.in hK (fun l hl => hm.ker l hl) hc).2
  have hz1 : ∀ j, j < 8 → z j = 0 := fun j hj => by
    have h1 := h0 j hj
    rw [apF_congr (y := fun i => (z (8 + i) + 1 * c i) % p) (fun _ _ => rfl) fun i hi => by rw [e i hi, Int.one_mul], apF_add, himg z hz j hj, hck j hj, Int.mul_zero, Int.add_zero] at h1
    rw [← h1, mod_id (hz.range (by omega) j (by omega))]
  have hdz : ∀ l, l < (solN p f n).r → d l % (p : Int) = 0 := tri_zero hm.tri fun j hj => by
    have := hd j (by omega)
    rw [hz1 j hj, sumN_congr (g := fun l => d l * partF (solN p f n).A 8 l j) _ fun l _ => by rw [pair_lo hj]] at this
    exact this.symm
  have hz2 : ∀ j, j < 8 → z (8 + j) = 0 := fun j hj => by
    rw [hd _ (by omega)]
    have : sumN (solN p f n).r (fun l => d l * pairR (solN p f n).A (solN p f n).B l (8 + j)) = p * sumN (solN p f n).r (fun l => d l / p * pairR (solN p f n).A (solN p f n).B l (8 + j)) := by
      rw [sumN_mul]
      refine sumN_congr _ fun l hl => ?_
      have := Int.mul_ediv_cancel' (Int.dvd_of_emod_eq_zero (hdz l hl))
      rw [← Int.mul_assoc, this]
    rw [this]; exact Int.mul_emod_right _ _
  exact hc.ext fun j hj => by rw [e j hj, hz2 j hj, Int.zero_add, mod_id (hc.range (by omega) j hj)]

end Go.Proofs.Ytcocapkdpbdmdaa
