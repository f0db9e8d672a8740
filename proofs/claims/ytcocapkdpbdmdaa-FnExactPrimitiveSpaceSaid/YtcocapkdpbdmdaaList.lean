/- Reduced lists of vectors: what is left of a vector, and how a vector is put in. -/
import Derived.Test.YtcocapkdpbdmdaaSolMath
set_option linter.unusedVariables false
set_option linter.unusedSimpArgs false
set_option maxRecDepth 100000
set_option maxHeartbeats 1000000
namespace Go.Proofs.Ytcocapkdpbdmdaa
open M

abbrev RedL (p : Int) (S : (Nat → Int) → Prop) (k : Nat) (A : Nat → Int) : Prop := Red p 8 S k (partF A 8) (fun i => first8 (partF A 8 i))
theorem red_first {p : Int} {S : (Nat → Int) → Prop} {k : Nat} {a : Nat → Nat → Int} {P : Nat → Nat} (h : Red p 8 S k a P) {i : Nat} (hi : i < k) : first8 (a i) = P i :=
  first8_is (by have := h.lt i hi; omega) (h.bef i hi) fun _ => by rw [h.one i hi]; decide
theorem redL_of {p : Int} {S : (Nat → Int) → Prop} {k : Nat} {a : Nat → Nat → Int} {P : Nat → Nat} {A : Nat → Int} (hS : Space p 8 S) (h : Red p 8 S k a P) (e : ∀ i, i < k → ∀ j, j < 8 → partF A 8 i j = a i j) : RedL p S k A := by
  have f : ∀ i, i < k → first8 (partF A 8 i) = P i := fun i hi => (first8_congr (e i hi)).trans (red_first h hi)
  refine ⟨fun i hi => hS.ext _ _ (h.mem i hi) (e i hi), fun i hi => by rw [f i hi]; exact h.lt i hi, fun i j hij hj => by rw [f i (by omega), f j hj]; exact h.inc i j hij hj, fun i hi => by rw [f i hi, e i hi _ (h.lt i hi)]; exact h.one i hi, fun i hi j hj => ?_, fun i j hi hj hij => by rw [f j hj, e i hi _ (h.lt j hj)]; exact h.oth i j hi hj hij, fun v hv h0 => h.all v hv fun i hi => by rw [← f i hi]; exact h0 i hi⟩
  rw [f i hi] at hj
  rw [e i hi j (by have := h.lt i hi; omega)]; exact h.bef i hi j hj
theorem red_k {p : Int} {S : (Nat → Int) → Prop} {k : Nat} {a : Nat → Nat → Int} {P : Nat → Nat} {w : Nat} (h : Red p w S k a P) : k ≤ w := by
  have ge : ∀ i, i < k → i ≤ P i := fun i => by
    induction i with
    | zero => intro _; exact Nat.zero_le _
    | succ i ih => intro hi; have := ih (by omega); have := h.inc i (i + 1) (by omega) hi; omega
  rcases Nat.lt_or_ge w k with hh | hh
  · have := ge w hh; have := h.lt w hh; omega
  · exact hh
theorem redL_tri {p k : Nat} {S : (Nat → Int) → Prop} {A : Nat → Int} (hS : Space p 8 S) (h : RedL p S k A) : Tri p k A :=
  ⟨fun q hq => by
    have := hS.range _ (h.mem (q / 8) (by omega)) (q % 8) (by omega)
    unfold partF at this
    rwa [show q % 8 + q / 8 * 8 = q by omega] at this, h.lt, h.one, fun t l h1 h2 => h.oth l t h2 (by omega) (by omega)⟩

/-- what is left of v -/
abbrev byV (p : Int) (A v : Nat → Int) (k : Nat) : Nat → Int := (liftV p A A v k).1
theorem by_dec {p : Nat} {A B v : Nat → Int} {r : Nat} (hp : 1 < p) {S : (Nat → Int) → Prop} (hS : Space p 8 S) (hA : ∀ l, l < r → S (partF A 8 l)) (hv : ∀ j, j < 8 → 0 ≤ v j ∧ v j < p) : ∀ k, k ≤ r → ∃ s, S s ∧ ∀ j, j < 8 → v j = (s j + (liftV p A B v k).1 j) % p
  | 0, _ => ⟨fun _ => 0, hS.zero _ fun _ _ => rfl, fun j hj => by show v j = (0 + v j) % p; rw [Int.zero_add, mod_id (hv j hj)]⟩
  | k + 1, hk => by
    obtain ⟨s, hs, e⟩ := by_dec (B := B) hp hS hA hv k (by omega)
    unfold liftV
    split
    · refine ⟨fun j => (s j + (liftV p A B v k).1 (first8 (partF A 8 k)) * partF A 8 k j) % p, hS.addc _ _ hs (hA k (by omega)) _, fun j hj => ?_⟩
      show v j = ((s j + (liftV p A B v k).1 (first8 (partF A 8 k)) * partF A 8 k j) % p + addM p _ _ _ j) % p
      rw [addM_at, mod_l, Int.add_comm _ ((_ + _) % (p : Int)), mod_l, e j hj]
      congr 1
      grind
    · exact ⟨s, hs, e⟩
/-- S and one more vector -/
structure AddTo (p : Int) (S : (Nat → Int) → Prop) (v : Nat → Int) (S' : (Nat → Int) → Prop) : Prop where
  sub : ∀ x, S x → S' x
  mem : S' v
  all : ∀ x, S' x → ∃ s c, S s ∧ ∀ j, j < 8 → x j = (s j + c * v j) % p
theorem addTo_sp {p : Int} {i : Nat} {V : Nat → Nat → Int} (hp : 0 < p) (hV : ∀ j, j < 8 → 0 ≤ V i j ∧ V i j < p) : AddTo p (Sp p 8 i V) (V i) (Sp p 8 (i + 1) V) := by
  have up : ∀ x, Sp p 8 i V x → Sp p 8 (i + 1) V x := fun x hx => by
    induction hx with
    | zero v h => exact .zero v h
    | add v u c l hl _ hu ih => exact .add v u c l (by omega) ih hu
  refine ⟨up, Sp.row (by omega) hV, fun x hx => ?_⟩
  induction hx with
  | zero v h => exact ⟨fun _ => 0, 0, .zero _ fun _ _ => rfl, fun j hj => by rw [h j hj]; simp⟩
  | add v u c l hl hv hu ih =>
    obtain ⟨s, d, hs, e⟩ := ih
    by_cases h : l = i
    · subst h
      exact ⟨s, d + c, hs, fun j hj => by rw [hu j hj, e j hj, mod_l]; congr 1; grind⟩
    · refine ⟨fun j => (s j + c * V l j) % p, d, .add s _ c l (by omega) hs fun _ _ => rfl, fun j hj => ?_⟩
      show u j = ((s j + c * V l j) % p + d * V i j) % p
      rw [hu j hj, e j hj, mod_l, mod_l]; congr 1; grind
/-- nothing is left: the list stays -/
theorem put_same {p k : Nat} {S S' : (Nat → Int) → Prop} {A v : Nat → Int} (hp : 1 < p) (hS : Space p 8 S) (h : RedL p S k A) (ha : AddTo p S v S') (hv : ∀ j, j < 8 → 0 ≤ v j ∧ v j < p) (hz : ∀ j, j < 8 → byV p A v k j = 0) : RedL p S' k A := by
  have hvS : S v := by
    obtain ⟨s, hs, e⟩ := by_dec (B := A) hp hS (fun l hl => h.mem l hl) hv k (Nat.le_refl _)
    refine hS.ext _ _ hs fun j hj => ?_
    rw [e j hj, show (liftV p A A v k).1 j = 0 from hz j hj, Int.add_zero, mod_id (hS.range _ hs j hj)]
  refine h.of_iff fun x => ⟨ha.sub x, fun hx => ?_⟩
  obtain ⟨s, c, hs, e⟩ := ha.all x hx
  exact hS.ext _ _ (hS.addc _ _ hs hvS c) e

/-- where a place comes among those of the rows -/
theorem place_in {k a : Nat} {P : Nat → Nat} (inc : ∀ i j, i < j → j < k → P i < P j) (ne : ∀ i, i < k → P i ≠ a) : ∃ t, t ≤ k ∧ (∀ i, i < t → P i < a) ∧ ∀ i, t ≤ i → i < k → a < P i := by
  induction k with
  | zero => exact ⟨0, Nat.le_refl _, fun i hi => absurd hi (Nat.not_lt_zero _), fun i _ hi => absurd hi (Nat.not_lt_zero _)⟩
  | succ k ih =>
    obtain ⟨t, ht, h1, h2⟩ := ih (fun i j hij hj => inc i j hij (by omega)) fun i hi => ne i (by omega)
    by_cases e : t = k
    · subst e
      have := ne t (by omega)
      by_cases g : P t < a
      · exact ⟨t + 1, Nat.le_refl _, fun i hi => by
          by_cases e : i = t
          · subst e; exact g
          · exact h1 i (by omega), fun i h3 h4 => by omega⟩
      · exact ⟨t, by omega, h1, fun i h3 h4 => by
          obtain rfl : i = t := by omega
          omega⟩
    · refine ⟨t, by omega, h1, fun i h3 h4 => ?_⟩
      by_cases e : i = k
      · subst e; have := h2 t (Nat.le_refl _) (by omega); have := inc t i (by omega) h4; omega
      · exact h2 i h3 (by omega)
/-- the new rows -/
def putR (p : Int) (A w : Nat → Int) (a t : Nat) : Nat → Nat → Int := fun j => if j < t then addM p (partF A 8 j) (-(partF A 8 j a)) w else if j = t then w else addM p (partF A 8 (j - 1)) (-(partF A 8 (j - 1) a)) w
theorem put_red {p k : Nat} {S S' : (Nat → Int) → Prop} {A v : Nat → Int} {y : Int} {t : Nat} (hp : 1 < p) (hS : Space p 8 S) (hS' : Space p 8 S') (h : RedL p S k A) (ha : AddTo p S v S') (hv : ∀ j, j < 8 → 0 ≤ v j ∧ v j < p)
    (h8 : first8 (byV p A v k) < 8) (hy : y * byV p A v k (first8 (byV p A v k)) % p = 1) (htk : t ≤ k) (ht1 : ∀ i, i < t → first8 (partF A 8 i) < first8 (byV p A v k)) (ht2 : ∀ i, t ≤ i → i < k → first8 (byV p A v k) < first8 (partF A 8 i)) :
    Red p 8 S' (k + 1) (putR p A (addM p (fun _ => 0) y (byV p A v k)) (first8 (byV p A v k)) t) (fun j => if j < t then first8 (partF A 8 j) else if j = t then first8 (byV p A v k) else first8 (partF A 8 (j - 1))) := by
  have htri := redL_tri hS h
  obtain ⟨s0, hs0, hdec⟩ := by_dec (B := A) hp hS (fun l hl => h.mem l hl) hv k (Nat.le_refl _)
  have hat := liftV_at (B := A) (v := v) hp htri k (Nat.le_refl _)
  have huS' : S' (byV p A v k) := by
    have := liftV_in (B := A) (v := v) hp hS' (fun l hl => ha.sub _ (h.mem l hl)) ha.mem k (Nat.le_refl _)
    exact this
  have hur := hS'.range _ huS'
  have hu0 : ∀ j, j < first8 (byV p A v k) → byV p A v k j = 0 := by
    rcases first8_spec (byV p A v k) with ⟨g, _⟩ | ⟨_, _, g⟩
    · omega
    · exact g
  change ∀ t, t < k → byV p A v k (first8 (partF A 8 t)) = 0 at hat
  change ∀ j, j < 8 → v j = (s0 j + byV p A v k j) % p at hdec
  generalize byV p A v k = u at *
  generalize first8 u = a at *
  have hw : ∀ j, addM p (fun _ => 0) y u j = y * u j % p := fun j => by rw [addM_at, Int.zero_add]
  have hwS : S' (addM p (fun _ => 0) y u) := hS'.addc _ _ (hS'.zero (fun _ => 0) fun _ _ => rfl) huS' y
  have hwa : addM p (fun _ => 0) y u a = 1 := by rw [hw]; exact hy
  have hwP : ∀ i, i < k → addM p (fun _ => 0) y u (first8 (partF A 8 i)) = 0 := fun i hi => by rw [hw, hat i hi]; simp
  have hw0 : ∀ j, j < a → addM p (fun _ => 0) y u j = 0 := fun j hj => by rw [hw, hu0 j hj]; simp
  generalize addM p (fun _ => 0) y u = w at *
  have row : ∀ i, i < k → ∀ j, j < 8 → 0 ≤ partF A 8 i j ∧ partF A 8 i j < p := fun i hi => htri.row hi
  -- a row less its multiple
  have lessP : ∀ i, i < k → ∀ j, j < k → addM p (partF A 8 i) (-(partF A 8 i a)) w (first8 (partF A 8 j)) = partF A 8 i (first8 (partF A 8 j)) := fun i hi j hj => by
    rw [addM_at, hwP j hj, Int.mul_zero, Int.add_zero, mod_id (row i hi _ (h.lt j hj))]
  have lessa : ∀ i, addM p (partF A 8 i) (-(partF A 8 i a)) w a = 0 := fun i => by rw [addM_at, hwa, Int.mul_one, Int.add_right_neg, Int.zero_emod]
  have less0 : ∀ i, i < k → ∀ j, j < first8 (partF A 8 i) → addM p (partF A 8 i) (-(partF A 8 i a)) w j = 0 := fun i hi j hj => by
    rw [addM_at, h.bef i hi j hj]
    by_cases g : j < a
    · rw [hw0 j g]; simp
    · rw [h.bef i hi a (by omega)]; simp
  have hpr : ∀ j, j < k + 1 → (j < t ∧ j < k) ∨ j = t ∨ (t < j ∧ j - 1 < k ∧ t ≤ j - 1) := fun j hj => by omega
  have eR1 : ∀ j, j < t → putR p A w a t j = addM p (partF A 8 j) (-(partF A 8 j a)) w := fun j hj => by unfold putR; rw [if_pos hj]
  have eR2 : putR p A w a t t = w := by unfold putR; rw [if_neg (Nat.lt_irrefl _), if_pos rfl]
  have eR3 : ∀ j, t < j → putR p A w a t j = addM p (partF A 8 (j - 1)) (-(partF A 8 (j - 1) a)) w := fun j hj => by unfold putR; rw [if_neg (by omega), if_neg (by omega)]
  let P : Nat → Nat := fun j => if j < t then first8 (partF A 8 j) else if j = t then a else first8 (partF A 8 (j - 1))
  have eP1 : ∀ j, j < t → P j = first8 (partF A 8 j) := fun j hj => by show (if j < t then _ else _) = _; rw [if_pos hj]
  have eP2 : P t = a := by show (if t < t then _ else if t = t then _ else _) = _; rw [if_neg (Nat.lt_irrefl _), if_pos rfl]
  have eP3 : ∀ j, t < j → P j = first8 (partF A 8 (j - 1)) := fun j hj => by show (if j < t then _ else if j = t then _ else _) = _; rw [if_neg (by omega), if_neg (by omega)]
  show Red p 8 S' (k + 1) _ P
  have memA : ∀ i, i < k → S' (addM p (partF A 8 i) (-(partF A 8 i a)) w) := fun i hi => hS'.addc _ _ (ha.sub _ (h.mem i hi)) hwS _
  refine ⟨fun j hj => ?_, fun j hj => ?_, fun i j hij hj => ?_, fun j hj => ?_, fun j hj q hq => ?_, fun i j hi hj hij => ?_, fun x hx h0 => ?_⟩
  · rcases hpr j hj with ⟨g, _⟩ | rfl | ⟨g, g2, _⟩
    · rw [eR1 j g]; exact memA j (by omega)
    · rw [eR2]; exact hwS
    · rw [eR3 j g]; exact memA _ g2
  · rcases hpr j hj with ⟨g, _⟩ | rfl | ⟨g, g2, _⟩
    · rw [eP1 j g]; exact h.lt j (by omega)
    · rw [eP2]; exact h8
    · rw [eP3 j g]; exact h.lt _ g2
  · rcases hpr i (by omega) with ⟨g, _⟩ | g | ⟨g, g2, g3⟩
    · rw [eP1 i g]
      rcases hpr j hj with ⟨f, _⟩ | f | ⟨f, f2, f3⟩
      · rw [eP1 j f]; exact h.inc i j hij (by omega)
      · rw [f, eP2]; exact ht1 i g
      · rw [eP3 j f]; have := ht1 i g; have := ht2 (j - 1) f3 f2; omega
    · rw [g, eP2, eP3 j (by omega)]
      exact ht2 (j - 1) (by omega) (by omega)
    · rw [eP3 i g, eP3 j (by omega)]; exact h.inc _ _ (by omega) (by omega)
  · rcases hpr j hj with ⟨g, _⟩ | g | ⟨g, g2, g3⟩
    · rw [eP1 j g, eR1 j g, lessP j (by omega) j (by omega)]; exact h.one j (by omega)
    · rw [g, eP2, eR2]; exact hwa
    · rw [eP3 j g, eR3 j g, lessP _ g2 _ g2]; exact h.one _ g2
  · rcases hpr j hj with ⟨g, _⟩ | g | ⟨g, g2, g3⟩
    · rw [eP1 j g] at hq; rw [eR1 j g]; exact less0 j (by omega) q hq
    · rw [g, eP2] at hq; rw [g, eR2]; exact hw0 q hq
    · rw [eP3 j g] at hq; rw [eR3 j g]; exact less0 _ g2 q hq
  · rcases hpr i hi with ⟨g, _⟩ | g | ⟨g, g2, g3⟩
    · rw [eR1 i g]
      rcases hpr j hj with ⟨f, _⟩ | f | ⟨f, f2, f3⟩
      · rw [eP1 j f, lessP i (by omega) j (by omega)]; exact h.oth i j (by omega) (by omega) hij
      · rw [f, eP2]; exact lessa i
      · rw [eP3 j f, lessP i (by omega) _ f2]; exact h.oth i _ (by omega) f2 (by omega)
    · rw [g, eR2]
      rcases hpr j hj with ⟨f, _⟩ | f | ⟨f, f2, f3⟩
      · rw [eP1 j f]; exact hwP j (by omega)
      · omega
      · rw [eP3 j f]; exact hwP _ f2
    · rw [eR3 i g]
      rcases hpr j hj with ⟨f, _⟩ | f | ⟨f, f2, f3⟩
      · rw [eP1 j f, lessP _ g2 j (by omega)]; exact h.oth _ j g2 (by omega) (by omega)
      · rw [f, eP2]; exact lessa _
      · rw [eP3 j f, lessP _ g2 _ f2]; exact h.oth _ _ g2 f2 (by omega)
  · have hxP : ∀ i, i < k → x (first8 (partF A 8 i)) = 0 := fun i hi => by
      by_cases g : i < t
      · have := h0 i (by omega); rwa [eP1 i g] at this
      · have := h0 (i + 1) (by omega); rwa [eP3 (i + 1) (by omega), Nat.add_sub_cancel] at this
    have hxa : x a = 0 := by have := h0 t (by omega); rwa [eP2] at this
    obtain ⟨s, c, hs, e⟩ := ha.all x hx
    have hs' : S fun j => (s j + c * s0 j) % p := hS.addc _ _ hs hs0 c
    have e' : ∀ j, j < 8 → x j = ((s j + c * s0 j) % p + c * u j) % p := fun j hj => by
      rw [e j hj, hdec j hj, mod_in, mod_l]; congr 1; grind
    have hz : ∀ j, j < 8 → (s j + c * s0 j) % p = 0 := h.all _ hs' fun i hi => by
      have := e' _ (h.lt i hi)
      rw [hxP i hi, hat i hi, Int.mul_zero, Int.add_zero, mod_id (hS.range _ hs' _ (h.lt i hi))] at this
      exact this.symm
    have hca : c * u a % p = 0 := by have := e' a h8; rw [hxa, hz a h8, Int.zero_add] at this; exact this.symm
    have hc : c % p = 0 := by
      have g := mod_in p 0 (y * u a) c
      rw [hy, Int.mul_one, Int.zero_add, Int.zero_add] at g
      rw [g, show c * (y * u a) = y * (c * u a) by grind]
      have g2 := mod_in p 0 (c * u a) y
      rw [hca, Int.mul_zero, Int.zero_add, Int.zero_emod, Int.zero_add] at g2
      exact g2.symm
    intro j hj
    obtain ⟨d, hd⟩ := Int.dvd_of_emod_eq_zero hc
    rw [e' j hj, hz j hj, Int.zero_add, hd, Int.mul_assoc, Int.mul_emod_right]
end Go.Proofs.Ytcocapkdpbdmdaa
