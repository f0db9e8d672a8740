/- Texts in one: List, Put, Reduce, Ker, Meet, Meet2, Centre, Kern, Cen2, Cen3, Flat, Space, Redu, Roz, Dual2, Hop1. -/
import Derived.Test.YtjanlnngeklhoabGreatPe
set_option linter.unusedSimpArgs false
set_option linter.unusedVariables false
set_option linter.unusedSectionVars false
/- Reduced lists of vectors: what is left of a vector, and how a vector is put in. -/
set_option linter.unusedVariables false
set_option linter.unusedSimpArgs false
set_option maxRecDepth 100000
set_option maxHeartbeats 1000000
namespace Go.Proofs.YtjanlnngeklhoabGreat
open M

abbrev RedL (p : Int) (S : (Nat → Int) → Prop) (k : Nat) (A : Nat → Int) : Prop := Red p 8 S k (partF A 8) (fun i => first8 (partF A 8 i))
theorem red_first {p : Int} {S : (Nat → Int) → Prop} {k : Nat} {a : Nat → Nat → Int} {P : Nat → Nat} (h : Red p 8 S k a P) {i : Nat} (hi : i < k) : first8 (a i) = P i :=
  first8_is (by have := h.lt i hi; omega) (h.bef i hi) fun _ => by rw [h.one i hi]; decide
theorem redL_of {p : Int} {S : (Nat → Int) → Prop} {k : Nat} {a : Nat → Nat → Int} {P : Nat → Nat} {A : Nat → Int} (hS : Space p 8 S) (h : Red p 8 S k a P) (e : ∀ i, i < k → ∀ j, j < 8 → partF A 8 i j = a i j) : RedL p S k A := by
  have f : ∀ i, i < k → first8 (partF A 8 i) = P i := fun i hi => (first8_congr (e i hi)).trans (red_first h hi)
  refine ⟨fun i hi => hS.ext _ _ (h.mem i hi) (e i hi), fun i hi => by rw [f i hi]; exact h.lt i hi, fun i j hij hj => by rw [f i (by omega), f j hj]; exact h.inc i j hij hj, fun i hi => by rw [f i hi, e i hi _ (h.lt i hi)]; exact h.one i hi, fun i hi j hj => ?_, fun i j hi hj hij => by rw [f j hj, e i hi _ (h.lt j hj)]; exact h.oth i j hi hj hij, fun v hv h0 => h.all v hv fun i hi => by rw [← f i hi]; exact h0 i hi⟩
  rw [f i hi] at hj
  rw [e i hi j (by have := h.lt i hi; omega)]; exact h.bef i hi j hj
theorem red_k {p : Int} {S : (Nat → Int) → Prop} {k : Nat} {a : Nat → Nat → Int} {P : Nat → Nat} {w : Nat} (h : Red p w S k a P) : k ≤ w := by
  have ge : ∀ i, i < k → i ≤ P i := fun i => by
    induction i with
    | zero => intro _; exact Nat.zero_le _
    | succ i ih => intro hi; have := ih (by omega); have := h.inc i (i + 1) (by omega) hi; omega
  rcases Nat.lt_or_ge w k with hh | hh
  · have := ge w hh; have := h.lt w hh; omega
  · exact hh
theorem redL_tri {p k : Nat} {S : (Nat → Int) → Prop} {A : Nat → Int} (hS : Space p 8 S) (h : RedL p S k A) : Tri p k A :=
  ⟨fun q hq => by
    have := hS.range _ (h.mem (q / 8) (by omega)) (q % 8) (by omega)
    unfold partF at this
    rwa [show q % 8 + q / 8 * 8 = q by omega] at this, h.lt, h.one, fun t l h1 h2 => h.oth l t h2 (by omega) (by omega)⟩

/-- what is left of v -/
abbrev byV (p : Int) (A v : Nat → Int) (k : Nat) : Nat → Int := (liftV p A A v k).1
theorem by_dec {p : Nat} {A B v : Nat → Int} {r : Nat} (hp : 1 < p) {S : (Nat → Int) → Prop} (hS : Space p 8 S) (hA : ∀ l, l < r → S (partF A 8 l)) (hv : ∀ j, j < 8 → 0 ≤ v j ∧ v j < p) : ∀ k, k ≤ r → ∃ s, S s ∧ ∀ j, j < 8 → v j = (s j + (liftV p A B v k).1 j) % p
  | 0, _ => ⟨fun _ => 0, hS.zero _ fun _ _ => rfl, fun j hj => by show v j = (0 + v j) % p; rw [Int.zero_add, mod_id (hv j hj)]⟩
  | k + 1, hk => by
    obtain ⟨s, hs, e⟩ := by_dec (B := B) hp hS hA hv k (by omega)
    unfold liftV
    split
    · refine ⟨fun j => (s j + (liftV p A B v k).1 (first8 (partF A 8 k)) * partF A 8 k j) % p, hS.addc _ _ hs (hA k (by omega)) _, fun j hj => ?_⟩
      show v j = ((s j + (liftV p A B v k).1 (first8 (partF A 8 k)) * partF A 8 k j) % p + addM p _ _ _ j) % p
      rw [addM_at, mod_l, Int.add_comm _ ((_ + _) % (p : Int)), mod_l, e j hj]
      congr 1
      grind
    · exact ⟨s, hs, e⟩
/-- S and one more vector -/
structure AddTo (p : Int) (S : (Nat → Int) → Prop) (v : Nat → Int) (S' : (Nat → Int) → Prop) : Prop where
  sub : ∀ x, S x → S' x
  mem : S' v
  all : ∀ x, S' x → ∃ s c, S s ∧ ∀ j, j < 8 → x j = (s j + c * v j) % p
theorem addTo_sp {p : Int} {i : Nat} {V : Nat → Nat → Int} (hp : 0 < p) (hV : ∀ j, j < 8 → 0 ≤ V i j ∧ V i j < p) : AddTo p (Sp p 8 i V) (V i) (Sp p 8 (i + 1) V) := by
  have up : ∀ x, Sp p 8 i V x → Sp p 8 (i + 1) V x := fun x hx => by
    induction hx with
    | zero v h => exact .zero v h
    | add v u c l hl _ hu ih => exact .add v u c l (by omega) ih hu
  refine ⟨up, Sp.row (by omega) hV, fun x hx => ?_⟩
  induction hx with
  | zero v h => exact ⟨fun _ => 0, 0, .zero _ fun _ _ => rfl, fun j hj => by rw [h j hj]; simp⟩
  | add v u c l hl hv hu ih =>
    obtain ⟨s, d, hs, e⟩ := ih
    by_cases h : l = i
    · subst h
      exact ⟨s, d + c, hs, fun j hj => by rw [hu j hj, e j hj, mod_l]; congr 1; grind⟩
    · refine ⟨fun j => (s j + c * V l j) % p, d, .add s _ c l (by omega) hs fun _ _ => rfl, fun j hj => ?_⟩
      show u j = ((s j + c * V l j) % p + d * V i j) % p
      rw [hu j hj, e j hj, mod_l, mod_l]; congr 1; grind
/-- nothing is left: the list stays -/
theorem put_same {p k : Nat} {S S' : (Nat → Int) → Prop} {A v : Nat → Int} (hp : 1 < p) (hS : Space p 8 S) (h : RedL p S k A) (ha : AddTo p S v S') (hv : ∀ j, j < 8 → 0 ≤ v j ∧ v j < p) (hz : ∀ j, j < 8 → byV p A v k j = 0) : RedL p S' k A := by
  have hvS : S v := by
    obtain ⟨s, hs, e⟩ := by_dec (B := A) hp hS (fun l hl => h.mem l hl) hv k (Nat.le_refl _)
    refine hS.ext _ _ hs fun j hj => ?_
    rw [e j hj, show (liftV p A A v k).1 j = 0 from hz j hj, Int.add_zero, mod_id (hS.range _ hs j hj)]
  refine h.of_iff fun x => ⟨ha.sub x, fun hx => ?_⟩
  obtain ⟨s, c, hs, e⟩ := ha.all x hx
  exact hS.ext _ _ (hS.addc _ _ hs hvS c) e

/-- where a place comes among those of the rows -/
theorem place_in {k a : Nat} {P : Nat → Nat} (inc : ∀ i j, i < j → j < k → P i < P j) (ne : ∀ i, i < k → P i ≠ a) : ∃ t, t ≤ k ∧ (∀ i, i < t → P i < a) ∧ ∀ i, t ≤ i → i < k → a < P i := by
  induction k with
  | zero => exact ⟨0, Nat.le_refl _, fun i hi => absurd hi (Nat.not_lt_zero _), fun i _ hi => absurd hi (Nat.not_lt_zero _)⟩
  | succ k ih =>
    obtain ⟨t, ht, h1, h2⟩ := ih (fun i j hij hj => inc i j hij (by omega)) fun i hi => ne i (by omega)
    by_cases e : t = k
    · subst e
      have := ne t (by omega)
      by_cases g : P t < a
      · exact ⟨t + 1, Nat.le_refl _, fun i hi => by
          by_cases e : i = t
          · subst e; exact g
          · exact h1 i (by omega), fun i h3 h4 => by omega⟩
      · exact ⟨t, by omega, h1, fun i h3 h4 => by
          obtain rfl : i = t := by omega
          omega⟩
    · refine ⟨t, by omega, h1, fun i h3 h4 => ?_⟩
      by_cases e : i = k
      · subst e; have := h2 t (Nat.le_refl _) (by omega); have := inc t i (by omega) h4; omega
      · exact h2 i h3 (by omega)
/-- the new rows -/
def putR (p : Int) (A w : Nat → Int) (a t : Nat) : Nat → Nat → Int := fun j => if j < t then addM p (partF A 8 j) (-(partF A 8 j a)) w else if j = t then w else addM p (partF A 8 (j - 1)) (-(partF A 8 (j - 1) a)) w
theorem put_red {p k : Nat} {S S' : (Nat → Int) → Prop} {A v : Nat → Int} {y : Int} {t : Nat} (hp : 1 < p) (hS : Space p 8 S) (hS' : Space p 8 S') (h : RedL p S k A) (ha : AddTo p S v S') (hv : ∀ j, j < 8 → 0 ≤ v j ∧ v j < p)
    (h8 : first8 (byV p A v k) < 8) (hy : y * byV p A v k (first8 (byV p A v k)) % p = 1) (htk : t ≤ k) (ht1 : ∀ i, i < t → first8 (partF A 8 i) < first8 (byV p A v k)) (ht2 : ∀ i, t ≤ i → i < k → first8 (byV p A v k) < first8 (partF A 8 i)) :
    Red p 8 S' (k + 1) (putR p A (addM p (fun _ => 0) y (byV p A v k)) (first8 (byV p A v k)) t) (fun j => if j < t then first8 (partF A 8 j) else if j = t then first8 (byV p A v k) else first8 (partF A 8 (j - 1))) := by
  have htri := redL_tri hS h
  obtain ⟨s0, hs0, hdec⟩ := by_dec (B := A) hp hS (fun l hl => h.mem l hl) hv k (Nat.le_refl _)
  have hat := liftV_at (B := A) (v := v) hp htri k (Nat.le_refl _)
  have huS' : S' (byV p A v k) := by
    have := liftV_in (B := A) (v := v) hp hS' (fun l hl => ha.sub _ (h.mem l hl)) ha.mem k (Nat.le_refl _)
    exact this
  have hur := hS'.range _ huS'
  have hu0 : ∀ j, j < first8 (byV p A v k) → byV p A v k j = 0 := by
    rcases first8_spec (byV p A v k) with ⟨g, _⟩ | ⟨_, _, g⟩
    · omega
    · exact g
  change ∀ t, t < k → byV p A v k (first8 (partF A 8 t)) = 0 at hat
  change ∀ j, j < 8 → v j = (s0 j + byV p A v k j) % p at hdec
  generalize byV p A v k = u at *
  generalize first8 u = a at *
  have hw : ∀ j, addM p (fun _ => 0) y u j = y * u j % p := fun j => by rw [addM_at, Int.zero_add]
  have hwS : S' (addM p (fun _ => 0) y u) := hS'.addc _ _ (hS'.zero (fun _ => 0) fun _ _ => rfl) huS' y
  have hwa : addM p (fun _ => 0) y u a = 1 := by rw [hw]; exact hy
  have hwP : ∀ i, i < k → addM p (fun _ => 0) y u (first8 (partF A 8 i)) = 0 := fun i hi => by rw [hw, hat i hi]; simp
  have hw0 : ∀ j, j < a → addM p (fun _ => 0) y u j = 0 := fun j hj => by rw [hw, hu0 j hj]; simp
  generalize addM p (fun _ => 0) y u = w at *
  have row : ∀ i, i < k → ∀ j, j < 8 → 0 ≤ partF A 8 i j ∧ partF A 8 i j < p := fun i hi => htri.row hi
  -- a row less its multiple
  have lessP : ∀ i, i < k → ∀ j, j < k → addM p (partF A 8 i) (-(partF A 8 i a)) w (first8 (partF A 8 j)) = partF A 8 i (first8 (partF A 8 j)) := fun i hi j hj => by
    rw [addM_at, hwP j hj, Int.mul_zero, Int.add_zero, mod_id (row i hi _ (h.lt j hj))]
  have lessa : ∀ i, addM p (partF A 8 i) (-(partF A 8 i a)) w a = 0 := fun i => by rw [addM_at, hwa, Int.mul_one, Int.add_right_neg, Int.zero_emod]
  have less0 : ∀ i, i < k → ∀ j, j < first8 (partF A 8 i) → addM p (partF A 8 i) (-(partF A 8 i a)) w j = 0 := fun i hi j hj => by
    rw [addM_at, h.bef i hi j hj]
    by_cases g : j < a
    · rw [hw0 j g]; simp
    · rw [h.bef i hi a (by omega)]; simp
  have hpr : ∀ j, j < k + 1 → (j < t ∧ j < k) ∨ j = t ∨ (t < j ∧ j - 1 < k ∧ t ≤ j - 1) := fun j hj => by omega
  have eR1 : ∀ j, j < t → putR p A w a t j = addM p (partF A 8 j) (-(partF A 8 j a)) w := fun j hj => by unfold putR; rw [if_pos hj]
  have eR2 : putR p A w a t t = w := by unfold putR; rw [if_neg (Nat.lt_irrefl _), if_pos rfl]
  have eR3 : ∀ j, t < j → putR p A w a t j = addM p (partF A 8 (j - 1)) (-(partF A 8 (j - 1) a)) w := fun j hj => by unfold putR; rw [if_neg (by omega), if_neg (by omega)]
  let P : Nat → Nat := fun j => if j < t then first8 (partF A 8 j) else if j = t then a else first8 (partF A 8 (j - 1))
  have eP1 : ∀ j, j < t → P j = first8 (partF A 8 j) := fun j hj => by show (if j < t then _ else _) = _; rw [if_pos hj]
  have eP2 : P t = a := by show (if t < t then _ else if t = t then _ else _) = _; rw [if_neg (Nat.lt_irrefl _), if_pos rfl]
  have eP3 : ∀ j, t < j → P j = first8 (partF A 8 (j - 1)) := fun j hj => by show (if j < t then _ else if j = t then _ else _) = _; rw [if_neg (by omega), if_neg (by omega)]
  show Red p 8 S' (k + 1) _ P
  have memA : ∀ i, i < k → S' (addM p (partF A 8 i) (-(partF A 8 i a)) w) := fun i hi => hS'.addc _ _ (ha.sub _ (h.mem i hi)) hwS _
  refine ⟨fun j hj => ?_, fun j hj => ?_, fun i j hij hj => ?_, fun j hj => ?_, fun j hj q hq => ?_, fun i j hi hj hij => ?_, fun x hx h0 => ?_⟩
  · rcases hpr j hj with ⟨g, _⟩ | rfl | ⟨g, g2, _⟩
    · rw [eR1 j g]; exact memA j (by omega)
    · rw [eR2]; exact hwS
    · rw [eR3 j g]; exact memA _ g2
  · rcases hpr j hj with ⟨g, _⟩ | rfl | ⟨g, g2, _⟩
    · rw [eP1 j g]; exact h.lt j (by omega)
    · rw [eP2]; exact h8
    · rw [eP3 j g]; exact h.lt _ g2
  · rcases hpr i (by omega) with ⟨g, _⟩ | g | ⟨g, g2, g3⟩
    · rw [eP1 i g]
      rcases hpr j hj with ⟨f, _⟩ | f | ⟨f, f2, f3⟩
      · rw [eP1 j f]; exact h.inc i j hij (by omega)
      · rw [f, eP2]; exact ht1 i g
      · rw [eP3 j f]; have := ht1 i g; have := ht2 (j - 1) f3 f2; omega
    · rw [g, eP2, eP3 j (by omega)]
      exact ht2 (j - 1) (by omega) (by omega)
    · rw [eP3 i g, eP3 j (by omega)]; exact h.inc _ _ (by omega) (by omega)
  · rcases hpr j hj with ⟨g, _⟩ | g | ⟨g, g2, g3⟩
    · rw [eP1 j g, eR1 j g, lessP j (by omega) j (by omega)]; exact h.one j (by omega)
    · rw [g, eP2, eR2]; exact hwa
    · rw [eP3 j g, eR3 j g, lessP _ g2 _ g2]; exact h.one _ g2
  · rcases hpr j hj with ⟨g, _⟩ | g | ⟨g, g2, g3⟩
    · rw [eP1 j g] at hq; rw [eR1 j g]; exact less0 j (by omega) q hq
    · rw [g, eP2] at hq; rw [g, eR2]; exact hw0 q hq
    · rw [eP3 j g] at hq; rw [eR3 j g]; exact less0 _ g2 q hq
  · rcases hpr i hi with ⟨g, _⟩ | g | ⟨g, g2, g3⟩
    · rw [eR1 i g]
      rcases hpr j hj with ⟨f, _⟩ | f | ⟨f, f2, f3⟩
      · rw [eP1 j f, lessP i (by omega) j (by omega)]; exact h.oth i j (by omega) (by omega) hij
      · rw [f, eP2]; exact lessa i
      · rw [eP3 j f, lessP i (by omega) _ f2]; exact h.oth i _ (by omega) f2 (by omega)
    · rw [g, eR2]
      rcases hpr j hj with ⟨f, _⟩ | f | ⟨f, f2, f3⟩
      · rw [eP1 j f]; exact hwP j (by omega)
      · omega
      · rw [eP3 j f]; exact hwP _ f2
    · rw [eR3 i g]
      rcases hpr j hj with ⟨f, _⟩ | f | ⟨f, f2, f3⟩
      · rw [eP1 j f, lessP _ g2 j (by omega)]; exact h.oth _ j g2 (by omega) (by omega)
      · rw [f, eP2]; exact lessa _
      · rw [eP3 j f, lessP _ g2 _ f2]; exact h.oth _ _ g2 f2 (by omega)
  · have hxP : ∀ i, i < k → x (first8 (partF A 8 i)) = 0 := fun i hi => by
      by_cases g : i < t
      · have := h0 i (by omega); rwa [eP1 i g] at this
      · have := h0 (i + 1) (by omega); rwa [eP3 (i + 1) (by omega), Nat.add_sub_cancel] at this
    have hxa : x a = 0 := by have := h0 t (by omega); rwa [eP2] at this
    obtain ⟨s, c, hs, e⟩ := ha.all x hx
    have hs' : S fun j => (s j + c * s0 j) % p := hS.addc _ _ hs hs0 c
    have e' : ∀ j, j < 8 → x j = ((s j + c * s0 j) % p + c * u j) % p := fun j hj => by
      rw [e j hj, hdec j hj, mod_in, mod_l]; congr 1; grind
    have hz : ∀ j, j < 8 → (s j + c * s0 j) % p = 0 := h.all _ hs' fun i hi => by
      have := e' _ (h.lt i hi)
      rw [hxP i hi, hat i hi, Int.mul_zero, Int.add_zero, mod_id (hS.range _ hs' _ (h.lt i hi))] at this
      exact this.symm
    have hca : c * u a % p = 0 := by have := e' a h8; rw [hxa, hz a h8, Int.zero_add] at this; exact this.symm
    have hc : c % p = 0 := by
      have g := mod_in p 0 (y * u a) c
      rw [hy, Int.mul_one, Int.zero_add, Int.zero_add] at g
      rw [g, show c * (y * u a) = y * (c * u a) by grind]
      have g2 := mod_in p 0 (c * u a) y
      rw [hca, Int.mul_zero, Int.zero_add, Int.zero_emod, Int.zero_add] at g2
      exact g2.symm
    intro j hj
    obtain ⟨d, hd⟩ := Int.dvd_of_emod_eq_zero hc
    rw [e' j hj, hz j hj, Int.zero_add, hd, Int.mul_assoc, Int.mul_emod_right]
end Go.Proofs.YtjanlnngeklhoabGreat

/- The model's reduced lists: what is left of a vector, and how it is put in. -/
set_option linter.unusedVariables false
set_option linter.unusedSimpArgs false
set_option maxRecDepth 100000
set_option maxHeartbeats 4000000
namespace Go.Proofs.YtjanlnngeklhoabGreat
open M

theorem l01By_s (p k cap : Nat) (A v : Nat → Int) (hp2 : 2 ≤ p ∧ p ≤ 31) (hk : k ≤ 8) (hA : rngR p k A) (hf : ∀ l, l < k → first8 (partF A 8 l) < 8) (hv : ∀ j, j < 8 → 0 ≤ v j ∧ v j < p) :
    Spec Tryz.prog 44 [.int .i64 p, .ints .u8 8 v, .sl 0 0 k cap] [some (.ints .u8 (k * 8) A, cap * 8)] (fun r m => r = .ints .u8 8 (byV p A v k) ∧ m = [some (.ints .u8 (k * 8) A, cap * 8)]) := by
  have hp0 : (0 : Int) < p ∧ (p : Int) < 256 := by omega
  refine Spec.cut (Nat.le_refl _) (by simp [SV.ids]) (fun id u c hb => by cases id <;> cases hb; simp [SV.ids]) (Spec.of_vc tabOK tabEq Tryz.func44 rfl (by kernel_rfl) rfl rfl ?_)
  have hr := liftV_rng (p := p) (A := A) (B := A) (by omega) hv
  have hrd : ∀ k, (liftV p A A v (k + 1)).1 = if (liftV p A A v k).1 (first8 (partF A 8 k)) ≠ 0 then addM p (liftV p A A v k).1 (-((liftV p A A v k).1 (first8 (partF A 8 k)))) (partF A 8 k) else (liftV p A A v k).1 := fun k => by
    show (if _ then (_, _) else liftV p A A v k : (Nat → Int) × (Nat → Int)).1 = _
    split <;> rfl
  have hr0 : (liftV p A A v 0).1 = v := rfl
  have hbd : byV p A v k = (liftV p A A v k).1 := rfl
  rw [hbd]
  generalize liftV p A A v = V at *
  refine LoopVC.of (fun i : Nat => i ≤ k) (fun i => [(0, .int .i64 p), (2, .sl 0 0 k cap), (4, .ptr 1 [] 0 0), (6, .ptr 2 [] 0 0), (7, .int .i64 i)])
    (fun i => [some (.ints .u8 (k * 8) A, cap * 8), some (.ints .u8 8 (V i).1, 8), some (.ints .u8 8 fun _ => 0, 8)]) (fun i => k - i) 0 (Nat.zero_le _) ?_ ?_ ?_
  · exact (And.intro rfl (And.intro rfl (And.intro rfl (And.intro rfl (And.intro rfl (trivial))))))
  · exact And.intro (And.intro (rowEq fun _ _ => rfl) rfl) (And.intro (And.intro (rowEq fun j hj => by rw [hr0]) rfl) (And.intro (And.intro (rowEq fun _ _ => rfl) rfl) trivial))
  · intro i hi
    refine ifVC_split (fun hh => ?_) (fun hh => ?_)
    · have hik : i < k := by have := of_decide_eq_true hh; omega
      have hkx : (i : Int).toNat * 8 + 0 = i * 8 := by omega
      (repeat (first | refine And.intro (by omega) ?_ | refine And.intro ⟨by omega, by omega⟩ ?_))
      have hat : first8 (fun j => A (j + ((i : Int).toNat * 8 + 0))) = first8 (partF A 8 i) := by rw [hkx]; rfl
      refine And.intro trivial (Spec.mono (l01First_s _) ?_)
      rintro _ _ ⟨rfl, rfl⟩
      rw [hat]
      have h8 := hf i hik
      have hrdk := hrd i
      generalize first8 (partF A 8 i) = a0 at *
      (repeat (first | refine And.intro (by omega) ?_ | refine And.intro ⟨by omega, by omega⟩ ?_))
      have hax : (a0 : Int).toNat * 1 + 0 = a0 := by omega
      have hv0 := (hr i).1 a0 h8
      refine ifVC_split (fun hz => ?_) (fun hz => ?_)
      · have hz : (V i).1 a0 ≠ 0 := by
          have hz : ((V i).1 ((a0 : Int).toNat * 1 + 0) != 0) = true := hz
          rw [hax] at hz; simpa using hz
        rw [if_pos hz] at hrdk
        have hpos : IntKind.i64.wrap ((V i).1 ((a0 : Int).toNat * 1 + 0)) = (V i).1 a0 := by rw [hax]; exact wrapI (x := (V i).1 a0) (by omega)
        have hneg : IntKind.i64.wrap (0 - IntKind.i64.wrap ((V i).1 ((a0 : Int).toNat * 1 + 0))) = -((V i).1 a0) := by
          rw [hpos, wrapI (by omega)]; omega
        refine Exists.intro 11 (And.intro (by kernel_rfl) ?_)
        (repeat (first | refine And.intro (by omega) ?_ | refine And.intro ⟨by omega, by omega⟩ ?_))
        refine And.intro trivial (Spec.mono (l01Add_s p _ _ _ hp0 (by rw [hneg]; omega) (fun j hj => by have := (hr i).1 (j + 0) (by omega); omega) (fun j hj => by have := hA (j + ((i : Int).toNat * 8 + 0)) (by omega); omega)) ?_)
        rintro _ _ ⟨rfl, rfl⟩
        (repeat (first | refine And.intro (by omega) ?_ | refine And.intro ⟨by omega, by omega⟩ ?_))
        refine Exists.intro (i + 1) (And.intro (by omega) (And.intro (by omega) (And.intro (And.intro rfl (And.intro rfl (And.intro rfl (And.intro rfl (And.intro (slotI (wrapS (by omega))) trivial))))) ?_)))
        refine And.intro (And.intro (rowEq fun _ _ => rfl) rfl) (And.intro (And.intro (rowEq fun j hj => ?_) rfl) (And.intro (And.intro (rowEq fun _ _ => rfl) rfl) trivial))
        rw [hrdk]
        show updR _ 0 8 (addM p _ _ _) j = addM p _ _ _ j
        unfold updR
        rw [if_pos (by omega)]
        unfold addM
        rw [hneg, hkx]
        rfl
      · have hz : (V i).1 a0 = 0 := by
          have hz : ((V i).1 ((a0 : Int).toNat * 1 + 0) != 0) = false := hz
          rw [hax] at hz; simpa using hz
        rw [if_neg (fun e => e hz)] at hrdk
        refine Exists.intro (i + 1) (And.intro (by omega) (And.intro (by omega) (And.intro (And.intro rfl (And.intro rfl (And.intro rfl (And.intro rfl (And.intro (slotI (wrapS (by omega))) trivial))))) ?_)))
        exact And.intro (And.intro (rowEq fun _ _ => rfl) rfl) (And.intro (And.intro (rowEq fun j hj => by rw [hrdk]) rfl) (And.intro (And.intro (rowEq fun _ _ => rfl) rfl) trivial))
    · have hik : i = k := by have := of_decide_eq_false hh; omega
      subst hik
      (repeat (first | refine And.intro (by omega) ?_ | refine And.intro ⟨by omega, by omega⟩ ?_))
      refine And.intro (rowEq fun j hj => ?_) (And.intro (And.intro (rowEq fun _ _ => rfl) rfl) trivial)
      show updR _ 0 8 _ j = _
      simp [updR, hj]

/-- what comes out of l01Put: the list itself, or the new one -/
def PutU (p k cap : Nat) (A u : Nat → Int) (a : Nat) (r : SV) (m : Mem) : Prop :=
  ((∀ j, j < 8 → u j = 0) ∧ r = .sl 0 0 k cap ∧ ∃ g, m = [some (.ints .u8 (k * 8) A, cap * 8), g]) ∨
  (∃ t y cap' F, t ≤ k ∧ (∀ i, i < t → first8 (partF A 8 i) < a) ∧ (∀ i, t ≤ i → i < k → a < first8 (partF A 8 i)) ∧ a < 8 ∧ y * u a % p = 1 ∧
    (∀ q, q < (k + 1) * 8 → F q = putR p A (addM p (fun _ => 0) y u) a t (q / 8) (q % 8)) ∧ k + 1 ≤ cap' ∧
    r = .sl 2 0 (k + 1) cap' ∧ ∃ g rest, m = some (.ints .u8 (k * 8) A, cap * 8) :: g :: some (.ints .u8 ((k + 1) * 8) F, cap' * 8) :: rest)
def PutQ (p k cap : Nat) (A v : Nat → Int) (r : SV) (m : Mem) : Prop := PutU p k cap A (byV p A v k) (first8 (byV p A v k)) r m

theorem slotB {x y : Bool} (h : x = y) : SV.eqv (.bool x) (.bool y) := congrArg SV.bool h
def lenP (t i : Nat) : Nat := if i ≤ t then i else i + 1
theorem lenP_le {t i : Nat} (h : i ≤ t) : lenP t i = i := if_pos h
theorem lenP_gt {t i : Nat} (h : t < i) : lenP t i = i + 1 := if_neg (by omega)

theorem l01Put_s (p k cap : Nat) (S : (Nat → Int) → Prop) (A v : Nat → Int) (hp : primeB (p : Int) = true) (hp2 : 2 ≤ p ∧ p ≤ 31) (hS : Space p 8 S) (h : RedL p S k A) (hv : ∀ j, j < 8 → 0 ≤ v j ∧ v j < p) :
    Spec Tryz.prog 27 [.int .i64 p, .sl 0 0 k cap, .ints .u8 8 v] [some (.ints .u8 (k * 8) A, cap * 8)] (PutQ p k cap A v) := by
  have hp0 : (0 : Int) < p ∧ (p : Int) < 256 := by omega
  have hk := red_k h
  have htri := redL_tri hS h
  have hA := htri.rng
  refine (Spec.of_vc tabOK tabEq Tryz.func27 rfl (by kernel_rfl) rfl rfl ?_)
  (repeat (first | refine And.intro (by omega) ?_ | refine And.intro ⟨by omega, by omega⟩ ?_))
  refine And.intro (And.intro rfl trivial) (Spec.mono (l01By_s p k cap A v hp2 hk hA htri.fst hv) ?_)
  rintro _ _ ⟨rfl, rfl⟩
  have hur := (liftV_rng (p := p) (A := A) (B := A) (by omega) hv k).1
  have hat := liftV_at (B := A) (v := v) (show 1 < p by omega) htri k (Nat.le_refl _)
  change ∀ j, j < 8 → 0 ≤ byV p A v k j ∧ byV p A v k j < p at hur
  change ∀ t, t < k → byV p A v k (first8 (partF A 8 t)) = 0 at hat
  unfold PutQ
  generalize byV p A v k = u at *
  have hup : ∀ j, j < 8 → updR v 0 (8 * 1) u (j + 0) = u j := fun j hj => by simp [updR, hj]
  have hfu : first8 (fun j => updR v 0 (8 * 1) u (j + 0)) = first8 u := first8_congr hup
  (repeat (first | refine And.intro (by omega) ?_ | refine And.intro ⟨by omega, by omega⟩ ?_))
  refine And.intro trivial (Spec.mono (l01ZeroS_s _) ?_)
  rintro _ _ ⟨rfl, rfl⟩
  refine ifVC_split (fun hz => ?_) (fun hz => ?_)
  · exact Or.inl ⟨fun j hj => by rw [← hup j hj]; exact allEq_get hz hj, rfl, _, rfl⟩
  have h8 : first8 u < 8 ∧ u (first8 u) ≠ 0 := by
    rcases first8_spec u with ⟨h1, h2⟩ | h
    · have : allEq 8 (fun j => updR v 0 (8 * 1) u (j + 0)) (fun _ => 0) = true := List.all_eq_true.2 fun j hj => beq_iff_eq.2 (by have hj := List.mem_range.1 hj; exact (hup j hj).trans (h2 j hj))
      rw [this] at hz; cases hz
    · exact ⟨h.1, h.2.1⟩
  obtain ⟨t, htk, ht1, ht2⟩ := place_in (a := first8 u) h.inc (fun i hi e => h8.2 (by have := hat i hi; rwa [show first8 (partF A 8 i) = first8 u from e] at this))
  have hx := hur _ h8.1
  have hx0 : 0 < (u (first8 u)).toNat ∧ (u (first8 u)).toNat < p := by omega
  obtain ⟨i0, i1, i2, _⟩ := invN_spec hp hp2 hx0
  have i2 : (invN p (u (first8 u)).toNat : Int) * u (first8 u) % p = 1 := by
    have e1 : u (first8 u) = ((u (first8 u)).toNat : Int) := by omega
    generalize (u (first8 u)).toNat = x at *
    rw [e1]
    exact_mod_cast i2
  (repeat (first | refine And.intro (by omega) ?_ | refine And.intro ⟨by omega, by omega⟩ ?_))
  refine And.intro trivial (Spec.mono (l01First_s _) ?_)
  rintro _ _ ⟨rfl, rfl⟩
  rw [hfu]
  have h81 := h8.1
  have hxe : (u (first8 u)) = ((u (first8 u)).toNat : Int) := by omega
  generalize hx0d : (u (first8 u)).toNat = x0 at *
  have hua : updR v 0 (8 * 1) u ((first8 u : Int).toNat * 1 + 0) = x0 := by rw [show (first8 u : Int).toNat * 1 + 0 = first8 u + 0 by omega, hup _ h81]; exact hxe
  refine Exists.intro 9 (And.intro (by kernel_rfl) ?_)
  (repeat (first | refine And.intro (by omega) ?_ | refine And.intro ⟨by omega, by omega⟩ ?_))
  refine Exists.intro (.int .u8 (invN p x0)) (And.intro (And.intro rfl (And.intro rfl (Spec.mono (show Spec Tryz.prog 48 [.int .i64 p, .int .u8 (updR v 0 (8 * 1) u ((first8 u : Int).toNat * 1 + 0))] [] (Ret (.int .u8 (invN p x0))) by rw [hua]; exact l01Inverse_s p x0 hp hp2 hx0) fun r m h => h.1))) ?_)
  (repeat (first | refine And.intro (by omega) ?_ | refine And.intro ⟨by omega, by omega⟩ ?_))
  have hw1 : IntKind.i64.wrap (invN p x0 : Int) = invN p x0 := wrapI (by omega)
  refine And.intro trivial (Spec.mono (l01Add_s p _ _ _ hp0 (by rw [hw1]; omega) (fun j _ => by show (0 : Int) ≤ 0 ∧ (0 : Int) < 256; decide) (fun j hj => by rw [hup j hj]; have := hur j hj; omega)) ?_)
  rintro _ _ ⟨rfl, rfl⟩
  rw [hw1]
  have hWv : ∀ j, j < 8 → updR (updR v 0 (8 * 1) u) 0 (8 * 1) (addM p (fun _ => 0) (invN p x0) fun j => updR v 0 (8 * 1) u (j + 0)) j = addM p (fun _ => 0) (invN p x0) u j := fun j hj => by
    unfold updR
    rw [if_pos (by omega), addM_at, addM_at, if_pos (by omega)]
    rfl
  have hNW : ∀ t j q, q < 8 → putR p A (updR (updR v 0 (8 * 1) u) 0 (8 * 1) (addM p (fun _ => 0) (invN p x0) fun j => updR v 0 (8 * 1) u (j + 0))) (first8 u) t j q = putR p A (addM p (fun _ => 0) (invN p x0) u) (first8 u) t j q := fun t j q hq => by
    unfold putR
    split
    · rw [addM_at, addM_at, hWv q hq]
    · split
      · exact hWv q hq
      · rw [addM_at, addM_at, hWv q hq]
  have hWr : ∀ j, j < 8 → 0 ≤ updR (updR v 0 (8 * 1) u) 0 (8 * 1) (addM p (fun _ => 0) (invN p x0) fun j => updR v 0 (8 * 1) u (j + 0)) j ∧ updR (updR v 0 (8 * 1) u) 0 (8 * 1) (addM p (fun _ => 0) (invN p x0) fun j => updR v 0 (8 * 1) u (j + 0)) j < p := fun j hj => by rw [hWv j hj]; exact addM_rng (by omega) _ _ _ _
  (repeat (first | refine And.intro (by omega) ?_ | refine And.intro ⟨by omega, by omega⟩ ?_))
  have goal : ∀ F c', k + 1 ≤ c' → (∀ q, q < (k + 1) * 8 → F q = putR p A (updR (updR v 0 (8 * 1) u) 0 (8 * 1) (addM p (fun _ => 0) (invN p x0) fun j => updR v 0 (8 * 1) u (j + 0))) (first8 u) t (q / 8) (q % 8)) → ∀ g rest,
      PutU p k cap A u (first8 u) (.sl 2 0 (k + 1) c') (some (SV.ints .u8 (k * 8) A, cap * 8) :: g :: some (.ints .u8 ((k + 1) * 8) F, c' * 8) :: rest) :=
    fun F c' hc hF g rest => .inr ⟨t, invN p x0, c', F, htk, ht1, ht2, h81, i2, fun q hq => (hF q hq).trans (hNW t _ _ (by omega)), hc, rfl, g, rest, rfl⟩
  generalize hWd : updR (updR v 0 (8 * 1) u) 0 (8 * 1) (addM p (fun _ => 0) (invN p x0) fun j => updR v 0 (8 * 1) u (j + 0)) = W at *
  have ha1 := h81
  generalize first8 u = a at *
  refine LoopVC.of (fun x : Nat × Nat × (Nat → Int) => x.1 ≤ k ∧ (lenP t x.1) ≤ x.2.1 ∧ ∀ q, q < (lenP t x.1) * 8 → x.2.2 q = putR p A W a t (q / 8) (q % 8))
    (fun x => [(0, .int .i64 p), (1, .sl 0 0 k cap), (5, .ptr 1 [] 0 0), (7, .int .i64 a), (8, .sl 2 0 (lenP t x.1) x.2.1), (9, .bool (decide (t < x.1))), (10, .int .i64 x.1)])
    (fun x => [some (.ints .u8 (k * 8) A, cap * 8), some (.ints .u8 8 W, 8), some (.ints .u8 ((lenP t x.1) * 8) x.2.2, x.2.1 * 8)]) (fun x => k - x.1) (0, 0, fun _ => 0) ⟨Nat.zero_le _, by show lenP t 0 ≤ 0; rw [lenP_le (Nat.zero_le _)]; omega, fun q hq => by have hq : q < lenP t 0 * 8 := hq; rw [lenP_le (Nat.zero_le _)] at hq; omega⟩ ?_ ?_ ?_
  · refine And.intro rfl (And.intro rfl (And.intro rfl (And.intro rfl (And.intro ?_ (And.intro ?_ (And.intro rfl trivial))))))
    · show SV.sl 2 0 0 0 = .sl 2 0 (lenP t 0) 0
      rw [lenP_le (Nat.zero_le _)]
    · show SV.bool false = .bool (decide (t < 0))
      rw [decide_eq_false (Nat.not_lt_zero _)]
  · refine And.intro (And.intro (rowEq fun _ _ => rfl) rfl) (And.intro (And.intro (rowEq fun j hj => ?_) rfl) (And.intro (And.intro ?_ rfl) trivial))
    · rw [← hWd]
    · show (SV.ints .u8 0 _).eqv (.ints .u8 (lenP t 0 * 8) fun _ => 0)
      rw [lenP_le (Nat.zero_le _)]
      exact ⟨⟨rfl, rfl⟩, fun j hj => by omega⟩
  · rintro ⟨i, c, F⟩ ⟨hi, hc, hF⟩
    dsimp only at hi hc hF
    refine ifVC_split (fun hh => ?_) (fun hh => ?_)
    · have hik : i < k := by have := of_decide_eq_true hh; omega
      have hix : (i : Int).toNat * 8 + 0 = i * 8 := by omega
      have hax : (a : Int).toNat * 1 + 0 = a := by omega
      have hneg : IntKind.i64.wrap (0 - IntKind.i64.wrap (A ((a : Int).toNat * 1 + ((i : Int).toNat * 8 + 0)))) = -(partF A 8 i a) := by
        have := hA (a + i * 8) (by omega)
        rw [show (a : Int).toNat * 1 + ((i : Int).toNat * 8 + 0) = a + i * 8 by omega, wrapI (x := A (a + i * 8)) (by omega), wrapI (by omega)]
        show _ = -(A (a + i * 8)); omega
      have hra := hA (a + i * 8) (by omega)
      have hra : 0 ≤ partF A 8 i a ∧ partF A 8 i a < p := hra
      have hAi : ∀ j, A (j + ((i : Int).toNat * 8 + 0)) = partF A 8 i j := fun j => by show _ = A (j + i * 8); congr 1
      have fin : ∀ (len' c' : Nat) (F' : Nat → Int), len' = lenP t (i + 1) → len' ≤ c' → (∀ q, q < len' * 8 → F' q = putR p A W a t (q / 8) (q % 8)) → ∀ sl mm, subL [(0, .int .i64 p), (1, .sl 0 0 k cap), (5, .ptr 1 [] 0 0), (7, .int .i64 a), (8, .sl 2 0 len' c'), (9, .bool (decide (t < i + 1))), (10, .int .i64 ((i + 1 : Nat) : Int))] sl →
          memCut mm [some (.ints .u8 (k * 8) A, cap * 8), some (.ints .u8 8 W, 8), some (.ints .u8 (len' * 8) F', c' * 8)] →
          ∃ x : Nat × Nat × (Nat → Int), (x.1 ≤ k ∧ (lenP t x.1) ≤ x.2.1 ∧ ∀ q, q < (lenP t x.1) * 8 → x.2.2 q = putR p A W a t (q / 8) (q % 8)) ∧ k - x.1 < k - i ∧
            subL [(0, .int .i64 p), (1, .sl 0 0 k cap), (5, .ptr 1 [] 0 0), (7, .int .i64 a), (8, .sl 2 0 (lenP t x.1) x.2.1), (9, .bool (decide (t < x.1))), (10, .int .i64 x.1)] sl ∧
            memCut mm [some (.ints .u8 (k * 8) A, cap * 8), some (.ints .u8 8 W, 8), some (.ints .u8 ((lenP t x.1) * 8) x.2.2, x.2.1 * 8)] := by
        rintro len' c' F' rfl g1 g2 sl mm g3 g4
        exact ⟨(i + 1, c', F'), ⟨hik, g1, g2⟩, by show k - (i + 1) < k - i; omega, g3, g4⟩
      refine ifVC_split (fun hp => ?_) (fun hp => ?_)
      · have hp : i ≤ t := by have hp : (!decide (t < i)) = true := hp; simp at hp; omega
        have hl := lenP_le hp
        (repeat (first | refine And.intro (by omega) ?_ | refine And.intro ⟨by omega, by omega⟩ ?_))
        have hfi : first8 (fun j => A (j + ((i : Int).toNat * 8 + 0))) = first8 (partF A 8 i) := by rw [hix]; rfl
        refine And.intro trivial (Spec.mono (l01First_s _) ?_)
        rintro _ _ ⟨rfl, rfl⟩
        rw [hfi]
        have q1 := ht1 i
        have q2 := ht2 i
        generalize first8 (partF A 8 i) = b0 at q1 q2 ⊢
        refine opsVC_g (w := true) rfl rfl rfl ?_
        change opsVC _ _ _ _ _ _ _ _
        refine opsVC_g (w := true) rfl rfl rfl ?_
        change opsVC _ _ _ _ _ _ _ _
        refine ifVC_split (fun hg => ?_) (fun hg => ?_)
        · have hg : a < b0 := by have := of_decide_eq_true hg; omega
          have hit : i = t := by
            rcases Nat.lt_or_ge i t with g | g
            · have := q1 g; omega
            · omega
          (repeat (first | refine And.intro (by omega) ?_ | refine And.intro ⟨by omega, by omega⟩ ?_))
          refine Or.inl (And.intro ⟨Nat.le_refl _, rfl, hc, show (lenP t i + 1) * 8 ≤ 140737488355328 by omega, show lenP t i + 1 ≤ 4611686018427387904 by omega⟩ (fun cap1 hcap1 => ?_))
          (repeat (first | refine And.intro (by omega) ?_ | refine And.intro ⟨by omega, by omega⟩ ?_))
          refine Exists.intro 17 (And.intro (by kernel_rfl) ?_)
          (repeat (first | refine And.intro (by omega) ?_ | refine And.intro ⟨by omega, by omega⟩ ?_))
          refine Exists.intro (.ints .u8 8 (addM p (partF A 8 i) (-(partF A 8 i a)) W)) (And.intro (And.intro rfl (And.intro rfl (Spec.mono (l01Add_s p _ _ _ hp0 (by rw [hneg]; omega) (fun j hj => by have := hA (j + i * 8) (by omega); show 0 ≤ A (j + (i * 8 + 0)) ∧ A (j + (i * 8 + 0)) < 256; rw [Nat.add_zero]; omega) (fun j hj => by have := hWr j hj; show 0 ≤ W (j + 0) ∧ W (j + 0) < 256; rw [Nat.add_zero]; omega)) ?_))) ?_)
          · rintro r m ⟨rfl, _⟩
            rw [hneg]
            rfl
          (repeat (first | refine And.intro (by omega) ?_ | refine And.intro ⟨by omega, by omega⟩ ?_))
          refine Or.inl (And.intro ⟨Nat.le_refl _, rfl, hcap1, show ((lenP t i + 1) + 1) * 8 ≤ 140737488355328 by omega, show (lenP t i + 1) + 1 ≤ 4611686018427387904 by omega⟩ (fun cap2 hcap2 => ?_))
          refine fin ((lenP t i + 1) + 1) cap2 _ (by rw [hl, lenP_gt (show t < i + 1 by omega)]) hcap2 ?_ _ _ ?_ (And.intro (And.intro (rowEq fun _ _ => rfl) rfl) (And.intro (And.intro (rowEq fun _ _ => rfl) rfl) (And.intro (And.intro (rowEq fun _ _ => rfl) rfl) trivial)))
          · intro q hq
            show appF (appF F (lenP t i * 8) 0 (updR (fun _ => 0) 0 8 fun j => W (j + 0))) ((lenP t i + 1) * 8) 0 (updR _ 0 8 (addM p (partF A 8 i) (-(partF A 8 i a)) W)) q = _
            unfold appF
            by_cases e : q < (lenP t i + 1) * 8
            · rw [if_pos e]
              show appF F (lenP t i * 8) 0 (updR _ 0 8 _) q = _
              unfold appF
              by_cases e2 : q < lenP t i * 8
              · rw [if_pos e2]; exact hF q e2
              · rw [if_neg e2]
                unfold updR putR
                rw [if_pos (by omega), if_neg (by omega), if_pos (by omega)]
                show W _ = W _
                congr 1; omega
            · rw [if_neg e]
              unfold updR
              rw [if_pos (by omega)]
              unfold putR
              rw [if_neg (by omega), if_neg (by omega), show q / 8 - 1 = i by omega, show q - (lenP t i + 1) * 8 + 0 - 0 = q % 8 by omega]
          · exact And.intro rfl (And.intro rfl (And.intro rfl (And.intro rfl (And.intro rfl (And.intro (slotB (by simp; omega)) (And.intro (slotI (wrapS (by omega))) trivial))))))
        · have hg : i < t := by
            have hg : ¬ (a < b0) := by have := of_decide_eq_false hg; omega
            rcases Nat.lt_or_ge i t with g | g
            · exact g
            · exact absurd (q2 g hik) hg
          (repeat (first | refine And.intro (by omega) ?_ | refine And.intro ⟨by omega, by omega⟩ ?_))
          refine Exists.intro 17 (And.intro (by kernel_rfl) ?_)
          (repeat (first | refine And.intro (by omega) ?_ | refine And.intro ⟨by omega, by omega⟩ ?_))
          refine Exists.intro (.ints .u8 8 (addM p (partF A 8 i) (-(partF A 8 i a)) W)) (And.intro (And.intro rfl (And.intro rfl (Spec.mono (l01Add_s p _ _ _ hp0 (by rw [hneg]; omega) (fun j hj => by have := hA (j + i * 8) (by omega); show 0 ≤ A (j + (i * 8 + 0)) ∧ A (j + (i * 8 + 0)) < 256; rw [Nat.add_zero]; omega) (fun j hj => by have := hWr j hj; show 0 ≤ W (j + 0) ∧ W (j + 0) < 256; rw [Nat.add_zero]; omega)) ?_))) ?_)
          · rintro r m ⟨rfl, _⟩
            rw [hneg]
            rfl
          (repeat (first | refine And.intro (by omega) ?_ | refine And.intro ⟨by omega, by omega⟩ ?_))
          refine Or.inl (And.intro ⟨Nat.le_refl _, rfl, hc, show (lenP t i + 1) * 8 ≤ 140737488355328 by omega, show lenP t i + 1 ≤ 4611686018427387904 by omega⟩ (fun cap2 hcap2 => ?_))
          refine fin (lenP t i + 1) cap2 _ (by rw [hl, lenP_le (show i + 1 ≤ t by omega)]) hcap2 ?_ _ _ ?_ (And.intro (And.intro (rowEq fun _ _ => rfl) rfl) (And.intro (And.intro (rowEq fun _ _ => rfl) rfl) (And.intro (And.intro (rowEq fun _ _ => rfl) rfl) trivial)))
          · intro q hq
            show appF F (lenP t i * 8) 0 (updR _ 0 8 (addM p (partF A 8 i) (-(partF A 8 i a)) W)) q = _
            unfold appF
            by_cases e : q < lenP t i * 8
            · rw [if_pos e]; exact hF q e
            · rw [if_neg e]
              unfold updR
              rw [if_pos (by omega)]
              unfold putR
              rw [if_pos (by omega), show q / 8 = i by omega, show q - lenP t i * 8 + 0 - 0 = q % 8 by omega]
          · exact And.intro rfl (And.intro rfl (And.intro rfl (And.intro rfl (And.intro rfl (And.intro (slotB (by simp; omega)) (And.intro (slotI (wrapS (by omega))) trivial))))))
      · have hp : t < i := by have hp : (!decide (t < i)) = false := hp; simpa using hp
        have hl := lenP_gt hp
        (repeat (first | refine And.intro (by omega) ?_ | refine And.intro ⟨by omega, by omega⟩ ?_))
        refine Exists.intro 17 (And.intro (by kernel_rfl) ?_)
        (repeat (first | refine And.intro (by omega) ?_ | refine And.intro ⟨by omega, by omega⟩ ?_))
        refine Exists.intro (.ints .u8 8 (addM p (partF A 8 i) (-(partF A 8 i a)) W)) (And.intro (And.intro rfl (And.intro rfl (Spec.mono (l01Add_s p _ _ _ hp0 (by rw [hneg]; omega) (fun j hj => by have := hA (j + i * 8) (by omega); show 0 ≤ A (j + (i * 8 + 0)) ∧ A (j + (i * 8 + 0)) < 256; rw [Nat.add_zero]; omega) (fun j hj => by have := hWr j hj; show 0 ≤ W (j + 0) ∧ W (j + 0) < 256; rw [Nat.add_zero]; omega)) ?_))) ?_)
        · rintro r m ⟨rfl, _⟩
          rw [hneg]
          rfl
        (repeat (first | refine And.intro (by omega) ?_ | refine And.intro ⟨by omega, by omega⟩ ?_))
        refine Or.inl (And.intro ⟨Nat.le_refl _, rfl, hc, show (lenP t i + 1) * 8 ≤ 140737488355328 by omega, show lenP t i + 1 ≤ 4611686018427387904 by omega⟩ (fun cap2 hcap2 => ?_))
        refine fin (lenP t i + 1) cap2 _ (by rw [hl, lenP_gt (show t < i + 1 by omega)]) hcap2 ?_ _ _ ?_ (And.intro (And.intro (rowEq fun _ _ => rfl) rfl) (And.intro (And.intro (rowEq fun _ _ => rfl) rfl) (And.intro (And.intro (rowEq fun _ _ => rfl) rfl) trivial)))
        · intro q hq
          show appF F (lenP t i * 8) 0 (updR _ 0 8 (addM p (partF A 8 i) (-(partF A 8 i a)) W)) q = _
          unfold appF
          by_cases e : q < lenP t i * 8
          · rw [if_pos e]; exact hF q e
          · rw [if_neg e]
            unfold updR
            rw [if_pos (by omega)]
            unfold putR
            rw [if_neg (by omega), if_neg (by omega), show q / 8 - 1 = i by omega, show q - lenP t i * 8 + 0 - 0 = q % 8 by omega]
        · exact And.intro rfl (And.intro rfl (And.intro rfl (And.intro rfl (And.intro rfl (And.intro (slotB (by simp; omega)) (And.intro (slotI (wrapS (by omega))) trivial))))))
    · have hik : i = k := by have := of_decide_eq_false hh; omega
      subst hik
      refine ifVC_split (fun hp => ?_) (fun hp => ?_)
      · have hp : i ≤ t := by have hp : (!decide (t < i)) = true := hp; simp at hp; omega
        have hl : lenP t i = i := lenP_le hp
        have hit : i = t := by omega
        (repeat (first | refine And.intro (by omega) ?_ | refine And.intro ⟨by omega, by omega⟩ ?_))
        refine Or.inl (And.intro ⟨Nat.le_refl _, rfl, hc, show (lenP t i + 1) * 8 ≤ 140737488355328 by omega, show lenP t i + 1 ≤ 4611686018427387904 by omega⟩ (fun cap1 hcap1 => ?_))
        have hfin : ∀ q, q < (i + 1) * 8 → appF F (lenP t i * 8) 0 (updR (fun _ => 0) 0 8 fun j => W (j + 0)) q = putR p A W a t (q / 8) (q % 8) := fun q hq => by
          unfold appF
          by_cases e : q < lenP t i * 8
          · rw [if_pos e]; exact hF q e
          · rw [if_neg e]
            unfold updR putR
            rw [if_pos (by omega), if_neg (by omega), if_pos (by omega)]
            show W _ = W _
            congr 1; omega
        have key : ∀ l, l = i + 1 → ∀ G, (∀ q, q < (i + 1) * 8 → G q = putR p A W a t (q / 8) (q % 8)) → ∀ c', l ≤ c' → ∀ g rest (Q : SV → Mem → Prop), (∀ F' c'', i + 1 ≤ c'' → (∀ q, q < (i + 1) * 8 → F' q = putR p A W a t (q / 8) (q % 8)) → ∀ g' rest', Q (.sl 2 0 (i + 1) c'') (some (.ints .u8 (i * 8) A, cap * 8) :: g' :: some (.ints .u8 ((i + 1) * 8) F', c'' * 8) :: rest')) → Q (.sl 2 0 l c') (some (.ints .u8 (i * 8) A, cap * 8) :: g :: some (.ints .u8 (l * 8) G, c' * 8) :: rest) := by
          rintro l rfl G hG c' hc' g rest Q hQ
          exact hQ G c' hc' hG g rest
        exact key (lenP t i + 1) (by omega) _ hfin cap1 hcap1 _ _ (PutU p i cap A u a) goal
      · have hp : t < i := by have hp : (!decide (t < i)) = false := hp; simpa using hp
        have hl : lenP t i = i + 1 := lenP_gt hp
        have key : ∀ l, l = i + 1 → ∀ G, (∀ q, q < (i + 1) * 8 → G q = putR p A W a t (q / 8) (q % 8)) → ∀ c', l ≤ c' → ∀ g rest (Q : SV → Mem → Prop), (∀ F' c'', i + 1 ≤ c'' → (∀ q, q < (i + 1) * 8 → F' q = putR p A W a t (q / 8) (q % 8)) → ∀ g' rest', Q (.sl 2 0 (i + 1) c'') (some (.ints .u8 (i * 8) A, cap * 8) :: g' :: some (.ints .u8 ((i + 1) * 8) F', c'' * 8) :: rest')) → Q (.sl 2 0 l c') (some (.ints .u8 (i * 8) A, cap * 8) :: g :: some (.ints .u8 (l * 8) G, c' * 8) :: rest) := by
          rintro l rfl G hG c' hc' g rest Q hQ
          exact hQ G c' hc' hG g rest
        exact key (lenP t i) hl _ (fun q hq => hF q (by omega)) c hc _ _ (PutU p i cap A u a) goal
end Go.Proofs.YtjanlnngeklhoabGreat

/- The model's reduced lists of lists of vectors. -/
set_option linter.unusedVariables false
set_option linter.unusedSimpArgs false
set_option maxRecDepth 100000
set_option maxHeartbeats 4000000
namespace Go.Proofs.YtjanlnngeklhoabGreat
open M

/-- blocks of numbers in other places, those that nobody needs left out -/
theorem Spec.tidy {P : Program} {f : Nat} {args : List SV} {m : Mem} {Q R : SV → Mem → Prop} (h : Spec P f args m Q)
    (hq : ∀ r m', Q r m' → ∃ (σ : Nat → Nat) (r0 : SV) (M0 : Mem), R r0 M0 ∧ r = r0.ren σ ∧ (∀ i ∈ r0.ids, i < M0.length) ∧ (∀ i, i < m.length → σ i = i) ∧ (∀ i, m.length ≤ i → m.length ≤ σ i) ∧ m.length ≤ M0.length ∧
      (∀ id u c, blockOf M0 id = some (u, c) → u.ids = [] ∧ blockOf m' (σ id) = some (u, c)) ∧ (∀ i j, i < M0.length → j < M0.length → σ i = σ j → i = j)) : Spec P f args m R := by
  refine ⟨h.enters, fun μ w hm => (h.run μ w hm).mono ?_⟩
  rintro e w' ⟨μ', r, m', rfl, hQ, hi, ha, hl', hf, hmr, hk⟩
  obtain ⟨σ, r0, M0, hR, rfl, h1, h2, h3, h4, h5, h6⟩ := hq r m' hQ
  have lift : ∀ i, (blockOf M0 i).isSome = true → (blockOf m' (σ i)).isSome = true := fun i hi => by
    cases hb : blockOf M0 i with
    | none => rw [hb] at hi; cases hi
    | some p => obtain ⟨u, c⟩ := p; rw [(h5 i u c hb).2]; rfl
  refine ⟨fun i => μ' (σ i), r0, M0, by rw [toVal_ren], hR, h1, fun id hid => by show μ' (σ id) = μ id; rw [h2 id hid]; exact ha id hid, h4, fun id hid hs => hf (σ id) (h3 id hid) (lift id hs), ⟨fun id u c hb => ?_, fun i j hi hj e => h6 i j (blockOf_lt hi) (blockOf_lt hj) (hmr.inj _ _ (lift i hi) (lift j hj) e), fun id u c hb i hi => ?_⟩, hk⟩
  · obtain ⟨t, ex, g1, g2⟩ := hmr.blk (σ id) u c (h5 id u c hb).2
    have e : flat (fun i => μ' (σ i)) u = flat μ' u := flat_ids u (by rw [(h5 id u c hb).1]; intro i hi; cases hi)
    exact ⟨t, ex, by rw [e]; exact g1, by rw [e]; exact g2⟩
  · rw [(h5 id u c hb).1] at hi; cases hi
theorem lk_map (σ : Nat → Nat) (S : Slots) (t : Nat) : lk (S.map fun p => (p.1, p.2.ren σ)) t = (lk S t).map (SV.ren σ) := by
  induction S with
  | nil => rfl
  | cons p r ih =>
    obtain ⟨k, u⟩ := p
    show lk ((k, u.ren σ) :: r.map _) t = _
    rw [lk_cons, lk_cons]
    by_cases h : k = t
    · rw [if_pos h, if_pos h]; rfl
    · rw [if_neg h, if_neg h]; exact ih
/-- a round's end, where blocks have got other numbers -/
theorem renTo_mk {own : Nat} {σ : Nat → Nat} {S : Slots} {M : Mem} {s : Slots} {m : Mem} (hs : subL (S.map fun p => (p.1, p.2.ren σ)) s) (fix : ∀ i, i < own → σ i = i) (hb : ∀ i u d, blockOf M i = some (u, d) → (own ≤ i → own ≤ σ i) ∧ ∃ v, blockOf m (σ i) = some (v, d) ∧ v.eqv (u.ren σ))
    (inj : ∀ i j, i < M.length → j < M.length → σ i = σ j → i = j) : RenTo own σ S M s m :=
  ⟨fix, hb, fun i j hi hj e => inj i j (blockOf_lt hi) (blockOf_lt hj) e, fun t v hv => subL_get _ s hs t _ (by rw [lk_map, hv]; rfl)⟩

theorem redL_zero {p : Nat} {V : Nat → Nat → Int} {A : Nat → Int} : RedL p (Sp p 8 0 V) 0 A := by
  refine ⟨fun i hi => absurd hi (Nat.not_lt_zero _), fun i hi => absurd hi (Nat.not_lt_zero _), fun i j _ hj => absurd hj (Nat.not_lt_zero _), fun i hi => absurd hi (Nat.not_lt_zero _), fun i hi => absurd hi (Nat.not_lt_zero _), fun i j hi => absurd hi (Nat.not_lt_zero _), fun v hv _ => ?_⟩
  cases hv with
  | zero v h => exact h
  | add v u c i hi h hu => exact absurd hi (Nat.not_lt_zero _)
/-- what l01Put makes is a reduced list of one more -/
theorem putU_red {p k cap : Nat} {S S' : (Nat → Int) → Prop} {A v : Nat → Int} {r : SV} {m : Mem} (hp : 1 < p) (hS : Space p 8 S) (hS' : Space p 8 S') (h : RedL p S k A) (ha : AddTo p S v S') (hv : ∀ j, j < 8 → 0 ≤ v j ∧ v j < p) (hq : PutQ p k cap A v r m) :
    (RedL p S' k A ∧ r = .sl 0 0 k cap ∧ ∃ g, m = [some (.ints .u8 (k * 8) A, cap * 8), g]) ∨
    (∃ cap' F, RedL p S' (k + 1) F ∧ k + 1 ≤ cap' ∧ r = .sl 2 0 (k + 1) cap' ∧ ∃ g rest, m = some (.ints .u8 (k * 8) A, cap * 8) :: g :: some (.ints .u8 ((k + 1) * 8) F, cap' * 8) :: rest) := by
  rcases hq with ⟨hz, hr, hm⟩ | ⟨t, y, cap', F, htk, h1, h2, h8, hy, hF, hc, hr, hm⟩
  · exact .inl ⟨put_same hp hS h ha hv hz, hr, hm⟩
  · refine .inr ⟨cap', F, redL_of hS' (put_red hp hS hS' h ha hv h8 hy htk h1 h2) fun i hi j hj => ?_, hc, hr, hm⟩
    have := hF (j + i * 8) (by omega)
    rw [show (j + i * 8) / 8 = i by omega, show (j + i * 8) % 8 = j by omega] at this
    exact this

/-- a reduced list of the space S' comes out: in the old block, or in a new one -/
def PutR (p k cap : Nat) (S' : (Nat → Int) → Prop) (A : Nat → Int) (r : SV) (m : Mem) : Prop :=
  (RedL p S' k A ∧ r = .sl 0 0 k cap ∧ m = [some (.ints .u8 (k * 8) A, cap * 8)]) ∨
  (∃ cap' F, RedL p S' (k + 1) F ∧ k + 1 ≤ cap' ∧ r = .sl 1 0 (k + 1) cap' ∧ m = [some (.ints .u8 (k * 8) A, cap * 8), some (.ints .u8 ((k + 1) * 8) F, cap' * 8)])
theorem l01PutR_s (p k cap : Nat) (S S' : (Nat → Int) → Prop) (A v : Nat → Int) (hp : primeB (p : Int) = true) (hp2 : 2 ≤ p ∧ p ≤ 31) (hS : Space p 8 S) (hS' : Space p 8 S') (h : RedL p S k A) (ha : AddTo p S v S') (hv : ∀ j, j < 8 → 0 ≤ v j ∧ v j < p) :
    Spec Tryz.prog 27 [.int .i64 p, .sl 0 0 k cap, .ints .u8 8 v] [some (.ints .u8 (k * 8) A, cap * 8)] (PutR p k cap S' A) := by
  refine Spec.tidy (l01Put_s p k cap S A v hp hp2 hS h hv) fun r m hq => ?_
  rcases putU_red (by omega) hS hS' h ha hv hq with ⟨hR, rfl, g, rfl⟩ | ⟨cap', F, hR, hc', rfl, g, rest, rfl⟩
  · refine ⟨fun i => i, .sl 0 0 k cap, [some (.ints .u8 (k * 8) A, cap * 8)], .inl ⟨hR, rfl, rfl⟩, rfl, by simp [SV.ids], fun _ _ => rfl, fun _ h => h, Nat.le_refl _, fun id u c hb => ?_, fun _ _ _ _ e => e⟩
    match id with
    | 0 => cases hb; exact ⟨rfl, rfl⟩
    | id + 1 => cases hb
  · refine ⟨fun i => if i = 1 then 2 else i, .sl 1 0 (k + 1) cap', [some (.ints .u8 (k * 8) A, cap * 8), some (.ints .u8 ((k + 1) * 8) F, cap' * 8)], .inr ⟨cap', F, hR, hc', rfl, rfl⟩, rfl, by simp [SV.ids], fun i hi => if_neg (show i ≠ 1 by have hi : i < 1 := hi; omega), fun i hi => ?_, Nat.le_succ _, fun id u c hb => ?_, fun a b ha hb e => ?_⟩
    · show 1 ≤ if i = 1 then 2 else i
      have hi : 1 ≤ i := hi
      split <;> omega
    · match id with
      | 0 => cases hb; exact ⟨rfl, rfl⟩
      | 1 => cases hb; exact ⟨rfl, rfl⟩
      | id + 2 => cases hb
    · have ha : a < 2 := ha
      have hb : b < 2 := hb
      have e : (if a = 1 then 2 else a) = if b = 1 then 2 else b := e
      split at e <;> split at e <;> omega

/-- a reduced list of what is listed, in a new block -/
def ReduceQ (p len cap : Nat) (V : Nat → Int) (r : SV) (m : Mem) : Prop :=
  ∃ k c A, RedL p (Sp p 8 len (partF V 8)) k A ∧ k ≤ c ∧ r = .sl 1 0 k c ∧ m = [some (.ints .u8 (len * 8) V, cap * 8), some (.ints .u8 (k * 8) A, c * 8)]
/-- the reduced list of the kernel of f, in a new block -/
def KernelQ (p n : Nat) (f : Nat → Int) (r : SV) (m : Mem) : Prop :=
  ∃ k c A, RedL p (Sp p 8 (solN p f n).q (partF (solN p f n).C 8)) k A ∧ k ≤ c ∧ r = .sl 0 0 k c ∧ m = [some (.ints .u8 (k * 8) A, c * 8)]
end Go.Proofs.YtjanlnngeklhoabGreat

/- The kernel of a linear map: what the model lists spans it. -/
set_option linter.unusedVariables false
set_option linter.unusedSimpArgs false
set_option maxRecDepth 100000
set_option maxHeartbeats 1000000
namespace Go.Proofs.YtjanlnngeklhoabGreat
open M

def Ker (p n : Nat) (f x : Nat → Int) : Prop := VecP p n x ∧ ∀ j, j < 8 → apF p f x j = 0
/-- a row and what leads to it -/
def pairR (A B : Nat → Int) : Nat → Nat → Int := fun l j => if j < 8 then partF A 8 l j else partF B 8 l (j - 8)
/-- a vector told by the second halves, and the list C -/
def Told (p : Nat) (s : SolS) (x : Nat → Int) : Prop := ∃ z c, Sp p 16 s.r (pairR s.A s.B) z ∧ Sp p 8 s.q (partF s.C 8) c ∧ ∀ j, j < 8 → x j = (z (8 + j) + c j) % p
end Go.Proofs.YtjanlnngeklhoabGreat

/- The model's whole space, and its way to meet two spaces. -/
set_option linter.unusedVariables false
set_option linter.unusedSimpArgs false
set_option maxRecDepth 100000
set_option maxHeartbeats 4000000
namespace Go.Proofs.YtjanlnngeklhoabGreat
open M

/-- the sum of multiples of rows -/
def combV (p : Int) (A : Nat → Int) (k : Nat) (c : Nat → Int) : Nat → Int := fun j => sumN k (fun l => c l * partF A 8 l j) % p
/-- what is left of one's rows by two -/
def meetF (p : Int) (A1 : Nat → Int) (k1 : Nat) (A2 : Nat → Int) (k2 : Nat) : Nat → Int := fun q => if q / 8 < k1 then byV p A2 (partF A1 8 (q / 8)) k2 (q % 8) else 0
section
variable {p k1 k2 : Nat} {S1 S2 : (Nat → Int) → Prop} {A1 A2 : Nat → Int}
end

end Go.Proofs.YtjanlnngeklhoabGreat

/- The model's way to meet two spaces: its contract. -/
set_option linter.unusedVariables false
set_option linter.unusedSimpArgs false
set_option maxRecDepth 100000
set_option maxHeartbeats 4000000
namespace Go.Proofs.YtjanlnngeklhoabGreat
open M

def MeetQ (p : Nat) (S : (Nat → Int) → Prop) (b1 b2 : Option (SV × Nat)) (r : SV) (m : Mem) : Prop :=
  ∃ k c A, RedL p S k A ∧ k ≤ c ∧ r = .sl 2 0 k c ∧ m = [b1, b2, some (.ints .u8 (k * 8) A, c * 8)]
end Go.Proofs.YtjanlnngeklhoabGreat

/- CentreOf: the model's side. -/
set_option linter.unusedVariables false
set_option linter.unusedSimpArgs false
set_option maxRecDepth 100000
set_option maxHeartbeats 4000000
namespace Go.Proofs.YtjanlnngeklhoabGreat
open M

/-- e(k) e(i) less e(i) e(k) -/
def commF (p : Int) (n : Nat) (T : Nat → Int) (i : Nat) : Nat → Int := fun q => if q / 8 < n then addM p (vecT T (q / 8) i) (-1) (vecT T i (q / 8)) (q % 8) else 0
/-- what commutes with e(0) to e(i - 1) -/
def CenS (p n : Nat) (T : Nat → Int) (i : Nat) (x : Nat → Int) : Prop := VecP p n x ∧ ∀ l, l < i → ∀ j, j < 8 → apF p (commF p n T l) x j = 0
def CentreQ (p n : Int) (U T : Nat → Int) (r : SV) (m : Mem) : Prop :=
  (algB p n U T = false ∧ r = .tcons .nilsl (.tcons (.int .i64 1) .tnil)) ∨
  (algB p n U T = true ∧ ∃ k c A id, RedL p (CenS p.toNat n.toNat T n.toNat) k A ∧ k ≤ c ∧ r = .tcons (.sl id 0 k c) (.tcons (.int .i64 0) .tnil) ∧ blockOf m id = some (.ints .u8 (k * 8) A, c * 8))
end Go.Proofs.YtjanlnngeklhoabGreat

/- Kernels by rows: what leads to zeros alone, as a reduced list. -/
set_option linter.unusedVariables false
set_option linter.unusedSimpArgs false
set_option maxRecDepth 100000
set_option maxHeartbeats 4000000
namespace Go.Proofs.YtjanlnngeklhoabGreat
open M

/-! ### rows of any width with a basis behind them -/
/-- the sum of the multiples of images, at a place -/
def apW (p : Int) (g : Nat → Nat → Int) (x : Nat → Int) (j : Nat) : Int := sumN 8 (fun i => x i * g i j) % p
section
variable {p : Int} {n w : Nat} {g : Nat → Nat → Int}
end

/-- what leads to zeros alone -/
def KerG (p : Int) (n w : Nat) (g : Nat → Nat → Int) (x : Nat → Int) : Prop := VecP p n x ∧ ∀ j, j < w → apW p g x j = 0
/-! ### steps -/
theorem forget_len : ∀ (m : Mem) (b : Nat), (forget m b).length = m.length
  | [], _ => rfl
  | _ :: r, 0 => rfl
  | x :: r, k + 1 => by show (forget r k).length + 1 = _; rw [forget_len r k]; rfl
theorem forget_get : ∀ (m : Mem) (b i : Nat), i ≠ b → blockOf (forget m b) i = blockOf m i
  | [], _, _, _ => rfl
  | _ :: r, 0, 0, h => absurd rfl h
  | _ :: r, 0, i + 1, _ => rfl
  | x :: r, k + 1, 0, _ => rfl
  | x :: r, k + 1, i + 1, h => forget_get r k i (by omega)
theorem forget_none : ∀ (m : Mem) (b : Nat), blockOf (forget m b) b = none
  | [], _ => rfl
  | _ :: r, 0 => rfl
  | x :: r, k + 1 => forget_none r k
theorem forget_clo {m : Mem} (h : Clo m) (b : Nat) : Clo (forget m b) := fun id u c hb i hi => by
  rw [forget_len]
  by_cases e : id = b
  · subst e; rw [forget_none] at hb; cases hb
  · rw [forget_get m b id e] at hb; exact h id u c hb i hi
theorem snoc_clo {m : Mem} {v : SV} {c : Nat} (h : Clo m) (hv : ∀ i ∈ v.ids, i < m.length + 1) : Clo (m ++ [some (v, c)]) := fun id u d hb i hi => by
  simp only [List.length_append, List.length_singleton]
  by_cases e : id < m.length
  · rw [blockOf_append_lt _ _ id e] at hb; have := h id u d hb i hi; omega
  · have hl := blockOf_lt (m := m ++ [some (v, c)]) (id := id) (by rw [hb]; rfl)
    simp only [List.length_append, List.length_singleton] at hl
    obtain rfl : id = m.length := by omega
    rw [blockOf_snoc] at hb; cases hb; exact hv i hi
/-- a memory with a new row behind; all blocks but b are as they were -/
structure Plus (m : Mem) (b : Nat) (v : SV) (c : Nat) (M : Mem) : Prop where
  len : M.length = m.length + 1
  new : blockOf M m.length = some (v, c)
  old : ∀ q, q < m.length → q ≠ b → blockOf M q = blockOf m q
  live : liveP m M
  clo : Clo m → (∀ i ∈ v.ids, i < m.length + 1) → Clo M
theorem Plus.snoc (m : Mem) (v : SV) (c b : Nat) : Plus m b v c (m ++ [some (v, c)]) :=
  ⟨by simp, blockOf_snoc _ _, fun q hq _ => blockOf_append_lt _ _ q hq, fun q hq h => by rw [blockOf_append_lt _ _ q hq] at h; exact h, fun h hv => snoc_clo h hv⟩
theorem Plus.forget (m : Mem) (v : SV) (c b : Nat) : Plus m b v c (forget m b ++ [some (v, c)]) := by
  have hl := forget_len m b
  refine ⟨by simp [hl], by have := blockOf_snoc (Go.Proofs.YtjanlnngeklhoabGreat.forget m b) (some (v, c)); rwa [hl] at this, fun q hq hne => by rw [blockOf_append_lt _ _ q (by rw [hl]; exact hq), forget_get m b q hne], fun q hq h => ?_, fun h hv => snoc_clo (forget_clo h b) (by rw [hl]; exact hv)⟩
  rw [blockOf_append_lt _ _ q (by rw [hl]; exact hq)] at h
  by_cases e : q = b
  · subst e; rw [forget_none] at h; cases h
  · rwa [forget_get m b q e] at h
section
variable {P : Program} {T : Tab} {N : Nat} {ops : Array Oper} {o : Oper} {r : List Oper} {s : Slots} {m : Mem} {K : Slots → Mem → Prop} {t b b2 n cap o2 m2 c2 es by_ n1 n2 c d2 : Nat} {k : IntKind} {f g : Nat → Int} {cl : Call}
/-- rows behind a slice that is the function's own: they lie in a new block from now on -/
theorem opsVC_appN (hg : o.guard = none) (ho : o.op = .call cl) (hc : cl.callee = .builtin .append) (hts : cl.argTypes.toList = [t, t]) (hx : evs s cl.args.toList = some [.sl b 0 n cap, .sl b2 o2 m2 c2]) (ht : T.ti t = .slice es) (hap : T.app t = some by_)
    (hb : blockOf m b = some (.ints k n1 f, c)) (hb2 : blockOf m b2 = some (.ints k n2 g, d2)) (hin : o2 + m2 * es ≤ n2) (hown : T.own ≤ b) (hsz : n * es ≤ n1 ∧ c = cap * es ∧ n ≤ cap ∧ (n + m2) * by_ ≤ 140737488355328 ∧ n + m2 ≤ 4611686018427387904)
    (hk : ∀ cap' F M', n + m2 ≤ cap' → (∀ j, j < n * es → F j = f j) → (∀ j, F (n * es + j) = g (j + o2)) → Plus m b (.ints k ((n + m2) * es) F) (cap' * es) M' → opsVC P T N ops r (sset N s o.dst (.sl m.length 0 (n + m2) cap')) M' K) : opsVC P T N ops (o :: r) s m K := by
  refine opsVC_one hg ?_
  simp only [oneVC, ho, hc, hts, hx, appAny, Nat.beq_refl, appVC, ht, hap, hb2]
  refine ⟨hin, .inr (.inl ?_)⟩
  simp only [appNew, hb]
  exact chk_iff.2 ⟨by
    have e1 : ikEq k k = true := by cases k <;> rfl
    have e2 : Nat.ble T.own b = true := Nat.ble_eq_true_of_le hown
    rw [e1, e2]; rfl, hsz, fun cap' hcap => hk cap' _ _ hcap (fun j hj => if_pos hj) (fun j => by show (if n * es + j < n * es then _ else g (n * es + j - n * es + o2)) = _; rw [if_neg (by omega), show n * es + j - n * es + o2 = j + o2 by omega]) (Plus.forget m _ _ b)⟩
theorem opsVC_row1 {ps : Array (Nat × Operand)} (hg : o.guard = none) (ho : o.op = .buildSlice t 1 ps) (ht : T.ti t = .slice es) (he : (T.elem0 t).bind elemRow = some (k, es, f)) (hes : (Nat.blt 0 es && Nat.ble (1 * es) 16777216) = true) (hp : evParts s ps.toList = some [(0, .ints k es g)])
    (hk : ∀ G M', (∀ j, j < es → G j = g j) → Plus m m.length (.ints k (1 * es) G) (1 * es) M' → opsVC P T N ops r (sset N s o.dst (.sl m.length 0 1 1)) M' K) : opsVC P T N ops (o :: r) s m K := by
  refine opsVC_one hg ?_
  simp only [oneVC, ho, newVC, ht, he, hp, Nat.beq_refl, Bool.true_and]
  refine chk_iff.2 ⟨hes, ?_⟩
  have e1 : ikEq k k = true := by cases k <;> rfl
  have e2 : Nat.ble (0 * es + es) (1 * es) = true := Nat.ble_eq_true_of_le (by omega)
  simp only [fillA, Nat.beq_refl, e1, e2]
  exact chk_iff.2 ⟨rfl, hk _ _ (fun j hj => by unfold updR; rw [if_pos (by omega)]; congr 1; omega) (Plus.snoc _ _ _ _)⟩
theorem opsVC_appE (hg : o.guard = none) (ho : o.op = .call cl) (hc : cl.callee = .builtin .append) (hts : cl.argTypes.toList = [t, t]) (hx : evs s cl.args.toList = some [.nilsl, .sl b2 o2 m2 c2]) (ht : T.ti t = .slice es) (hap : T.app t = some by_)
    (hb2 : blockOf m b2 = some (.ints k n2 g, d2)) (hin : o2 + m2 * es ≤ n2) (hsz : 0 < m2 ∧ m2 * by_ ≤ 140737488355328 ∧ m2 ≤ 4611686018427387904)
    (hk : ∀ cap' F M', m2 ≤ cap' → (∀ j, F j = g (j + o2)) → Plus m m.length (.ints k (m2 * es) F) (cap' * es) M' → opsVC P T N ops r (sset N s o.dst (.sl m.length 0 m2 cap')) M' K) : opsVC P T N ops (o :: r) s m K := by
  refine opsVC_one hg ?_
  simp only [oneVC, ho, hc, hts, hx, appAny, Nat.beq_refl, appVC, ht, hap, hb2]
  exact ⟨hin, .inr (.inr (.inl (chk_iff.2 ⟨rfl, hsz, fun cap' hcap => hk cap' _ _ hcap (fun _ => rfl) (Plus.snoc _ _ _ _)⟩)))⟩
end

/-- a list of vectors that may be nil where it is empty -/
def listV (id k c : Nat) : SV := if k = 0 then .nilsl else .sl id 0 k c
abbrev KS := Nat × (Nat → Int) × Nat × Nat × SV × Mem
structure KI (M : Mem) (k t w : Nat) (a : Nat → Nat → Int) (x : KS) : Prop where
  l : x.1 ≤ k
  v : x.2.2.2.2.1 = listV x.2.2.1 (x.1 - t) x.2.2.2.1
  A : ∀ i, i < x.1 - t → ∀ j, j < 8 → x.2.1 (i * 8 + j) = a (t + i) (w + j)
  b : x.1 - t ≠ 0 → M.length ≤ x.2.2.1 ∧ blockOf x.2.2.2.2.2 x.2.2.1 = some (.ints .u8 ((x.1 - t) * 8) x.2.1, x.2.2.2.1 * 8) ∧ x.1 - t ≤ x.2.2.2.1
  old : ∀ q, q < M.length → blockOf x.2.2.2.2.2 q = blockOf M q
  len : M.length ≤ x.2.2.2.2.2.length
  clo : Clo x.2.2.2.2.2

end Go.Proofs.YtjanlnngeklhoabGreat

/- Lists of vectors as results, told by the space alone; CentreOf, the program's side and the law. -/
set_option linter.unusedVariables false
set_option linter.unusedSimpArgs false
set_option maxRecDepth 100000
set_option maxHeartbeats 4000000
namespace Go.Proofs.YtjanlnngeklhoabGreat
open M

/-- a list of vectors, the reduced one of S, or an error e; b: an empty list is nil -/
def ListQ (b : Bool) (e : Int) (p : Int) (S : (Nat → Int) → Prop) (r : SV) (m : Mem) : Prop :=
  (e ≠ 0 ∧ r = .tcons .nilsl (.tcons (.int .i64 e) .tnil)) ∨
  (e = 0 ∧ ∃ id k c A, (b = true → k ≠ 0) ∧ r = .tcons (.sl id 0 k c) (.tcons (.int .i64 0) .tnil) ∧ RedL p S k A ∧ k ≤ c ∧ blockOf m id = some (.ints .u8 (k * 8) A, c * 8)) ∨
  (e = 0 ∧ b = true ∧ ∃ A, r = .tcons .nilsl (.tcons (.int .i64 0) .tnil) ∧ RedL p S 0 A)
/-- the same, with that list as the one block -/
def ListR (b : Bool) (e : Int) (p : Int) (S : (Nat → Int) → Prop) (r : SV) (m : Mem) : Prop :=
  (e ≠ 0 ∧ r = .tcons .nilsl (.tcons (.int .i64 e) .tnil) ∧ m = []) ∨
  (e = 0 ∧ ∃ k c A, (b = true → k ≠ 0) ∧ r = .tcons (.sl 0 0 k c) (.tcons (.int .i64 0) .tnil) ∧ RedL p S k A ∧ m = [some (.ints .u8 (k * 8) A, c * 8)]) ∨
  (e = 0 ∧ b = true ∧ ∃ A, r = .tcons .nilsl (.tcons (.int .i64 0) .tnil) ∧ RedL p S 0 A ∧ m = [])
theorem ListQ.one {P : Program} {f : Nat} {args : List SV} {b : Bool} {e p : Int} {S : (Nat → Int) → Prop} (h : Spec P f args [] (ListQ b e p S)) : Spec P f args [] (ListR b e p S) := by
  refine Spec.single h ?_
  rintro r m' (⟨h1, rfl⟩ | ⟨h1, id, k, c, A, h0, rfl, h2, h3, hb⟩ | ⟨h1, h0, A, rfl, h2⟩)
  · exact .inl ⟨.inl ⟨h1, rfl, rfl⟩, rfl⟩
  · exact .inr ⟨id, _, _, hb, rfl, by simp [SV.ids], .inr (.inl ⟨h1, k, c, A, h0, rfl, h2, rfl⟩)⟩
  · exact .inl ⟨.inr (.inr ⟨h1, h0, A, rfl, h2, rfl⟩), rfl⟩
theorem redL_uniq {p : Int} {S : (Nat → Int) → Prop} {k k' : Nat} {A A' : Nat → Int} (hp : 1 < p) (hS : Space p 8 S) (h : RedL p S k A) (h' : RedL p S k' A') : k = k' ∧ ∀ j, j < k * 8 → A j = A' j := by
  obtain ⟨h1, h2, h3⟩ := Red.uniq hp hS h h'
  refine ⟨h1, fun j hj => ?_⟩
  have := h3 (j / 8) (by omega) (j % 8) (by omega)
  unfold partF at this
  rw [show j % 8 + j / 8 * 8 = j by omega] at this
  exact this
/-! ### steps -/
section
variable {P : Program} {T : Tab} {N : Nat} {ops : Array Oper} {o : Oper} {r : List Oper} {s : Slots} {m : Mem} {K : Slots → Mem → Prop} {t b b2 n cap o2 m2 c2 es by_ n1 n2 c d2 l : Nat} {k : IntKind} {f g u : Nat → Int} {cl : Call} {a x : Operand} {v : SV} {Kd : Option Tmp → SV → Slots → Mem → Prop}
/-- what is stored over the whole of a block that has just been made -/
theorem opsVC_putNew (hg : o.guard = none) (ho : o.op = .store t a x) (ha : ev s a = some (.ptr m.length [] 0 0)) (hx : ev s x = some (.ints k l u)) (ht : ((T.ti t).known && ((T.ti t).agg == some l)) = true)
    (hk : ∀ F M', (∀ j, j < l → F j = u j) → Plus m m.length (.ints k l F) c M' → opsVC P T N ops r (sset N s o.dst .undef) M' K) : opsVC P T N ops (o :: r) s (m ++ [some (.ints k l f, c)]) K := by
  refine opsVC_storeR hg ho ha hx ht (blockOf_snoc _ _) (by omega) ?_
  have e := setBlock_pre m [some (SV.ints k l f, c)] 0 (.ints k l (updR f 0 l u))
  rw [Nat.add_zero] at e
  rw [e]
  exact hk _ _ (fun j hj => by unfold updR; rw [if_pos (by omega)]; rfl) (Plus.snoc _ _ _ _)
theorem readsAt_nil {Kr : Slots → Prop} (h : Kr s) : readsAt T N m ops [] s Kr := h
end

/-! ### CentreOf -/
/-- e(i) e(j) less e(j) e(i), for all j in a row -/
def cimg (p : Int) (T : Nat → Int) (i q : Nat) : Int := addM p (vecT T i (q / 8)) (p - 1) (vecT T (q / 8) i) (q % 8)
/-- the memory of the outer loop: the algebra, the slices, and what came behind -/
abbrev cmem (p n : Nat) (U T : Nat → Int) (H : Nat → SV) (R : Mem) : Mem := some (algV p n U T, 522) :: some (.vec n H, n) :: R
def rowV (id k c : Nat) : SV := if k = 0 then .nilsl else .sl id 0 k c
structure CO (p n : Nat) (U T : Nat → Int) (x : Nat × (Nat → SV) × (Nat → Nat) × (Nat → Nat) × (Nat → Nat → Int) × Mem) : Prop where
  i : x.1 ≤ n
  nil : ∀ l, x.1 ≤ l → x.2.1 l = .nilsl
  sl : ∀ l, l < x.1 → x.2.1 l = .sl (x.2.2.1 l + 2) 0 (n * 8) (x.2.2.2.1 l)
  row : ∀ l, l < x.1 → blockOf x.2.2.2.2.2 (x.2.2.1 l) = some (.ints .u8 (n * 8) (x.2.2.2.2.1 l), x.2.2.2.1 l * 1)
  val : ∀ l, l < x.1 → ∀ q, q < n * 8 → x.2.2.2.2.1 l q = cimg p T l q
  clo : Clo (cmem p n U T x.2.1 x.2.2.2.2.2)
structure CJ (p n : Nat) (U T : Nat → Int) (H : Nat → SV) (R : Mem) (i : Nat) (y : Nat × (Nat → Int) × Nat × Nat × Mem) : Prop where
  j : y.1 ≤ n
  val : ∀ q, q < y.1 * 8 → y.2.1 q = cimg p T i q
  b : y.1 ≠ 0 → R.length ≤ y.2.2.1 ∧ blockOf y.2.2.2.2 y.2.2.1 = some (.ints .u8 (y.1 * 8) y.2.1, y.2.2.2.1 * 1) ∧ y.1 * 8 ≤ y.2.2.2.1
  old : ∀ q, q < R.length → blockOf y.2.2.2.2 q = blockOf R q
  len : R.length ≤ y.2.2.2.2.length
  clo : Clo (cmem p n U T (updV H i (rowV (y.2.2.1 + 2) (y.1 * 8) y.2.2.2.1)) y.2.2.2.2)
end Go.Proofs.YtjanlnngeklhoabGreat

/- CentreOf: the law. -/
set_option linter.unusedVariables false
set_option linter.unusedSimpArgs false
set_option maxRecDepth 100000
set_option maxHeartbeats 4000000
namespace Go.Proofs.YtjanlnngeklhoabGreat
open M

end Go.Proofs.YtjanlnngeklhoabGreat

/- Maps laid flat into rows of bytes. -/
set_option linter.unusedVariables false
set_option linter.unusedSimpArgs false
set_option maxRecDepth 100000
set_option maxHeartbeats 4000000
namespace Go.Proofs.YtjanlnngeklhoabGreat
open M

structure FI (F : Nat → Int) (x : Nat × (Nat → Int) × Nat × Nat × SV × Mem) : Prop where
  i : x.1 ≤ 8
  v : x.2.2.2.2.1 = rowV x.2.2.1 (x.1 * 8) x.2.2.2.1
  val : ∀ q, q < x.1 * 8 → x.2.1 q = F q
  b : x.1 ≠ 0 → blockOf x.2.2.2.2.2 x.2.2.1 = some (.ints .u8 (x.1 * 8) x.2.1, x.2.2.2.1 * 1) ∧ x.1 * 8 ≤ x.2.2.2.1
  clo : Clo x.2.2.2.2.2
end Go.Proofs.YtjanlnngeklhoabGreat

/- Spaces that maps span, and their relations: the program's generic type. -/
set_option linter.unusedVariables false
set_option linter.unusedSimpArgs false
set_option maxRecDepth 100000
set_option maxHeartbeats 4000000
namespace Go.Proofs.YtjanlnngeklhoabGreat
open M

/-! ### steps -/
theorem preM_of : ∀ (m m' : Mem), m.length ≤ m'.length → (∀ q, q < m.length → blockOf m' q = blockOf m q) → preM m m'
  | [], _, _, _ => trivial
  | x :: r, [], h, _ => absurd h (Nat.not_succ_le_zero _)
  | x :: r, y :: r', h, hq => ⟨(hq 0 (Nat.zero_lt_succ _)).symm, preM_of r r' (Nat.le_of_succ_le_succ h) fun q hl => hq (q + 1) (Nat.succ_lt_succ hl)⟩
theorem preM_refl (m : Mem) : preM m m := preM_of m m (Nat.le_refl _) fun _ _ => rfl
theorem Plus.preM {m M : Mem} {v : SV} {c : Nat} (h : Plus m m.length v c M) : preM m M := preM_of m M (by have := h.len; omega) fun q hq => h.old q hq (by omega)
section
variable {P : Program} {T : Tab} {N : Nat} {ops : Array Oper} {o : Oper} {r : List Oper} {s : Slots} {m : Mem} {K : Slots → Mem → Prop} {fd base tot ofs t id off n c es by_ n1 n2 b b2 o2 m2 c2 d2 cap p i g : Nat} {path : List Nat} {a x ix : Operand} {v z blk : SV} {offs : List Nat} {k : IntKind} {y : Int} {f u : Nat → Int} {cl : Call} {args : List SV} {ri : List Nat}
theorem opsVC_boxP (hg : o.guard = none) (ho : o.op = .box t x) (hz : ev s x = some z) (hb : z.boxable = true) (hk : ∀ M', Plus m m.length z z.size M' → opsVC P T N ops r (sset N s o.dst (.ptr m.length [] 0 0)) M' K) : opsVC P T N ops (o :: r) s m K :=
  opsVC_box hg ho hz hb (hk _ (Plus.snoc _ _ _ _))
theorem opsVC_fa (hg : o.guard = none) (ho : o.op = .fieldAddr t x fd) (ht : T.ti t = .struct offs tot) (hx : ev s x = some (.ptr id path base 0)) (hf : offs[fd]? = some ofs) (hk : opsVC P T N ops r (sset N s o.dst (.ptr id (path ++ [fd]) (base + ofs) 0)) m K) : opsVC P T N ops (o :: r) s m K := by
  refine opsVC_one hg ?_
  simp only [oneVC, ho, readVC, ht, hx, hf]
  exact hk
/-- what stands in a part of a block -/
theorem opsVC_loadF (hg : o.guard = none) (ho : o.op = .load t a) (ha : ev s a = some (.ptr id path base off)) (hb : blockOf m id = some (blk, c)) (hp : blk.part path = some (z, ofs)) (ht : (Nat.beq ofs base && (T.ti t).known) = true) (hget : ∀ K' : SV → Prop, K' v → getAt (T.ti t).agg z off K')
    (hk : opsVC P T N ops r (sset N s o.dst v) m K) : opsVC P T N ops (o :: r) s m K := by
  refine opsVC_one hg ?_
  simp only [oneVC, ho, readVC, ha, hb, hp]
  exact chk_iff.2 ⟨ht, hget _ hk⟩
theorem opsVC_ia (hg : o.guard = none) (ho : o.op = .indexAddr t x ix) (ht : T.ti t = .slice es) (hx : ev s x = some (.sl id off n c)) (hi : ev s ix = some (.int k y)) (hb : 0 ≤ y ∧ y < n) (hk : opsVC P T N ops r (sset N s o.dst (.ptr id [] 0 (y.toNat * es + off))) m K) : opsVC P T N ops (o :: r) s m K := by
  refine opsVC_one hg ?_
  simp only [oneVC, ho, readVC, ht, hx, hi]
  exact ⟨hb, hk⟩
/-- so many slices that are nil -/
theorem opsVC_mkV (hg : o.guard = none) (ho : o.op = .makeSlice t a x) (ht : T.ti t = .slice es) (hap : T.app t = some by_) (he : T.elem0 t = some .nilsl) (ha : ev s a = some (.int k n)) (hx : ev s x = some (.int k n)) (hsz : by_ * n ≤ 140737488355328 ∧ n ≤ 4611686018427387904)
    (hk : ∀ M', Plus m m.length (.vec n fun _ => .nilsl) n M' → opsVC P T N ops r (sset N s o.dst (.sl m.length 0 n n)) M' K) : opsVC P T N ops (o :: r) s m K := by
  refine opsVC_one hg ?_
  simp only [oneVC, ho, newVC, ht, hap, he, ha, hx, zeros, Int.toNat_natCast]
  exact ⟨⟨by omega, by omega, by omega, by omega⟩, hk _ (Plus.snoc _ _ _ _)⟩
theorem readVC_fa {Kv : SV → Prop} (ht : T.ti t = .struct offs tot) (hx : ev s x = some (.ptr id path base 0)) (hf : offs[fd]? = some ofs) (hk : Kv (.ptr id (path ++ [fd]) (base + ofs) 0)) : readVC T (.fieldAddr t x fd) s m Kv := by
  simp only [readVC, ht, hx, hf]
  exact hk
theorem readVC_loadF {Kv : SV → Prop} (ha : ev s a = some (.ptr id path base off)) (hb : blockOf m id = some (blk, c)) (hp : blk.part path = some (z, ofs)) (ht : (Nat.beq ofs base && (T.ti t).known) = true) (hget : ∀ K' : SV → Prop, K' v → getAt (T.ti t).agg z off K') (hk : Kv v) : readVC T (.load t a) s m Kv := by
  simp only [readVC, ha, hb, hp]
  exact chk_iff.2 ⟨ht, hget _ hk⟩
theorem readVC_mv {Kv : SV → Prop} (hx : ev s x = some v) (hk : Kv v) : readVC T (.move x) s m Kv := by
  simp only [readVC, hx]
  exact hk
theorem readVC_as {Kv : SV → Prop} (hx : ev s x = some v) (hk : Kv v) : readVC T (.assign x) s m Kv := by
  simp only [readVC, hx]
  exact hk
theorem readsAt_step {Kr : Slots → Prop} {oo : Option Oper} (hi : ops[i]? = oo) (h0 : oo = some o) (h : readVC T o.op s m fun v => readsAt T N m ops ri (sset N s o.dst v) Kr) : readsAt T N m ops (i :: ri) s Kr := by
  unfold readsAt
  rw [hi, h0]
  exact h
/-- a region by the general rule: which operations are read first, and which are the others -/
theorem vc_gen {q : Nat} {Q : Ex → Slots → Mem → Prop} (p : Nat) (L R : List Nat) (hB : lateG N ops p = true) (hL : gList ops p = L) (hR : gRest ops p = R)
    (h : readsAt T N m ops L s fun s' => restVC P T N none ops p R s' m fun s'' m'' => opsVC P T N ops (ops.toList.drop p) s'' m'' fun s' m' => Q .normal s' m') (hpl : Nat.blt (20000 + p) 1000000 = true := by rfl) : vc P T N (.region q ops true) s m Q := by
  have e : ∀ b, b ≤ 20000 → Nat.blt (20000 + p) b = false := fun b hb => by
    cases h : Nat.blt (20000 + p) b with
    | false => rfl
    | true => have := Nat.le_of_ble_eq_true h; omega
  refine ⟨20000 + p, ?_⟩
  rw [e 1000 (by omega)]
  dsimp only
  rw [e 2000 (by omega)]
  dsimp only
  rw [e 3000 (by omega)]
  dsimp only
  rw [e 20000 (by omega), hpl]
  dsimp only
  rw [show 20000 + p - 20000 = p by omega, hL, hR]
  exact ⟨hB, h⟩
theorem restVC_call {oo : Option Oper} (hi : ops[i]? = oo) (h0 : oo = some o) (ho : o.op = .call cl) (hc : cl.callee = .value x) (hx : ev s x = some (.fn g)) (ha : evs s cl.args.toList = some args) (hd : T.direct g = false)
    (hk : callVC P g args m fun r' m' => preM m m' ∧ restVC P T N none ops p ri (sset N s o.dst r') m' K) : restVC P T N none ops p (i :: ri) s m K := by
  unfold restVC
  rw [hi, h0]
  refine .inl ⟨by rw [ho]; simp [ndOp, hc], ?_⟩
  simp only [oneVC, ho, hc, hx, ha, hd]
  exact hk
/-- operations that wait for one another, one by one -/
theorem restVC_nil (h : K s m) : restVC P T N none ops p [] s m K := h
theorem restVC_val {oo : Option Oper} (hi : ops[i]? = oo) (h0 : oo = some o) (ho : o.op = .call cl) (hc : cl.callee = .value x) (hx : ev s x = some (.fn g)) (ha : evs s cl.args.toList = some args) (hd : T.direct g = false)
    (hids : idsOf args = []) (hren : ∀ ρ, args.map (SV.ren ρ) = args) (hv : ∀ ρ, v.ren ρ = v) (h : Spec P g args [] (Ret v)) (hk : restVC P T N none ops p ri (sset N s o.dst v) m K) : restVC P T N none ops p (i :: ri) s m K := by
  unfold restVC
  rw [hi, h0]
  refine .inl ⟨by rw [ho]; simp [ndOp, hc], ?_⟩
  simp only [oneVC, ho, hc, hx, ha, hd]
  exact callVC_valG hids hren hv h ⟨preM_refl m, hk⟩
theorem restVC_row1 {ps : Array (Nat × Operand)} {oo : Option Oper} (hi : ops[i]? = oo) (h0 : oo = some o) (ho : o.op = .buildSlice t 1 ps) (ht : T.ti t = .slice es) (he : (T.elem0 t).bind elemRow = some (k, es, f)) (hes : (Nat.blt 0 es && Nat.ble (1 * es) 16777216) = true) (hp : evParts s ps.toList = some [(0, .ints k es u)])
    (hk : ∀ G M', (∀ j, j < es → G j = u j) → Plus m m.length (.ints k (1 * es) G) (1 * es) M' → restVC P T N none ops p ri (sset N s o.dst (.sl m.length 0 1 1)) M' K) : restVC P T N none ops p (i :: ri) s m K := by
  unfold restVC
  rw [hi, h0]
  refine .inl ⟨by rw [ho]; rfl, ?_⟩
  simp only [oneVC, ho, newVC, ht, he, hp, Nat.beq_refl, Bool.true_and]
  refine chk_iff.2 ⟨hes, ?_⟩
  have e1 : ikEq k k = true := by cases k <;> rfl
  have e2 : Nat.ble (0 * es + es) (1 * es) = true := Nat.ble_eq_true_of_le (by omega)
  simp only [fillA, Nat.beq_refl, e1, e2]
  refine chk_iff.2 ⟨rfl, ?_, hk _ _ (fun j hj => by unfold updR; rw [if_pos (by omega)]; congr 1; omega) (Plus.snoc _ _ _ _)⟩
  exact (Plus.snoc m _ _ _).preM
end

/-! ### rows of a space -/
/-- the space as a value: the prime, the slice, and what lays an element flat -/
def spV (p : Int) (v : SV) : SV := .pair (.int .i64 p) (.pair v (.pair (.fn 21) .unit))
structure RI (m : Mem) (n : Nat) (A : Nat → Int) (p : Int) (sid c : Nat) (x : Nat × (Nat → SV) × (Nat → Nat) × (Nat → Nat) × (Nat → Nat → Int) × Mem) : Prop where
  i : x.1 ≤ n
  sp : blockOf x.2.2.2.2.2 m.length = some (spV p (.sl sid 0 n c), 3)
  hdr : blockOf x.2.2.2.2.2 (m.length + 1) = some (.vec n x.2.1, n)
  sl : ∀ l, l < x.1 → x.2.1 l = .sl (x.2.2.1 l) 0 64 (x.2.2.2.1 l)
  nil : ∀ l, x.1 ≤ l → x.2.1 l = .nilsl
  row : ∀ l, l < x.1 → m.length + 1 < x.2.2.1 l ∧ blockOf x.2.2.2.2.2 (x.2.2.1 l) = some (.ints .u8 64 (x.2.2.2.2.1 l), x.2.2.2.1 l * 1) ∧ 64 ≤ x.2.2.2.1 l
  val : ∀ l, l < x.1 → ∀ j, j < 64 → x.2.2.2.2.1 l j = A (l * 64 + j)
  old : ∀ q, q < m.length → blockOf x.2.2.2.2.2 q = blockOf m q
  len : m.length + 2 ≤ x.2.2.2.2.2.length
  clo : Clo x.2.2.2.2.2

end Go.Proofs.YtjanlnngeklhoabGreat

/- The program's reduced lists: copies of the rows, reduced, and made an array each. -/
set_option linter.unusedVariables false
set_option linter.unusedSimpArgs false
set_option maxRecDepth 100000
set_option maxHeartbeats 4000000
namespace Go.Proofs.YtjanlnngeklhoabGreat
open M

/-! ### steps -/
section
variable {P : Program} {T : Tab} {N : Nat} {ops : Array Oper} {o : Oper} {r : List Oper} {s : Slots} {m : Mem} {K : Slots → Mem → Prop} {t id off n c es by_ ln : Nat} {k : IntKind} {f : Nat → Int} {a x : Operand} {ea : Bool} {v : SV}
theorem opsVC_row0 {ps : Array (Nat × Operand)} (hg : o.guard = none) (ho : o.op = .buildSlice t 0 ps) (ht : T.ti t = .slice es) (he : (T.elem0 t).bind elemRow = some (k, es, f)) (hes : (Nat.blt 0 es && Nat.ble (0 * es) 16777216) = true) (hp : evParts s ps.toList = some [])
    (hk : ∀ G M', Plus m m.length (.ints k (0 * es) G) (0 * es) M' → opsVC P T N ops r (sset N s o.dst (.sl m.length 0 0 0)) M' K) : opsVC P T N ops (o :: r) s m K := by
  refine opsVC_one hg ?_
  simp only [oneVC, ho, newVC, ht, he, hp, Nat.beq_refl, Bool.true_and]
  refine chk_iff.2 ⟨hes, ?_⟩
  simp only [fillA]
  exact hk _ _ (Plus.snoc _ _ _ _)
theorem opsVC_mkI (hg : o.guard = none) (ho : o.op = .makeSlice t a x) (ht : T.ti t = .slice es) (hap : T.app t = some by_) (he : T.elem0 t = some (.ints k ln f)) (ha : ev s a = some (.int .i64 n)) (hx : ev s x = some (.int .i64 n)) (hsz : by_ * n ≤ 140737488355328 ∧ n ≤ 4611686018427387904)
    (hk : ∀ G M', Plus m m.length (.ints k (n * ln) G) (n * ln) M' → opsVC P T N ops r (sset N s o.dst (.sl m.length 0 n n)) M' K) : opsVC P T N ops (o :: r) s m K := by
  refine opsVC_one hg ?_
  simp only [oneVC, ho, newVC, ht, hap, he, ha, hx, zeros, Int.toNat_natCast]
  exact ⟨⟨by omega, by omega, by omega, by omega⟩, hk _ _ (Plus.snoc _ _ _ _)⟩
theorem opsVC_eqN {t2 : Nat} {y : Operand} (hg : o.guard = none) (ho : o.op = .binOp .eql t x y t2) (hx : ev s x = some (.sl id off n c)) (hy : ev s y = some .nilsl) (ht : T.ti t = .slice es) (he : T.eqs t = true) (hk : opsVC P T N ops r (sset N s o.dst (.bool false)) m K) : opsVC P T N ops (o :: r) s m K := by
  refine opsVC_one hg ?_
  simp only [oneVC, ho, readVC, hx, hy, binVC, eqnVC, eqVC, ht]
  exact chk_iff.2 ⟨he, hk⟩
theorem opsVC_arr (hg : o.guard = none) (ho : o.op = .sliceToArrayPointer t x) (ht : T.ti t = .arr ln es ea) (hx : ev s x = some (.sl id off n c)) (hn : ln ≤ n) (hk : opsVC P T N ops r (sset N s o.dst (.ptr id [] 0 off)) m K) : opsVC P T N ops (o :: r) s m K := by
  refine opsVC_one hg ?_
  simp only [oneVC, ho, readVC, ht, hx]
  exact ⟨hn, hk⟩
end

/-! ### copies -/
theorem cloneM_s (m : Mem) (id n d w cap : Nat) (g : Nat → Int) (hb : blockOf m id = some (.ints .u8 n g, d)) (hm : Clo m) (hw : w ≤ n ∧ w ≤ 1000) :
    Spec Tryz.prog 50 [.sl id 0 w cap] m (fun r m' => ∃ cap' F, w ≤ cap' ∧ r = .sl (m.length + 1) 0 w cap' ∧ (∀ j, j < w → F j = g j) ∧ blockOf m' (m.length + 1) = some (.ints .u8 w F, cap' * 1) ∧ m'.length = m.length + 2 ∧ (∀ q, q < m.length → blockOf m' q = blockOf m q) ∧ Clo m') := by
  have hlt : id < m.length := blockOf_lt (by rw [hb]; rfl)
  refine Spec.of_vc tabOK tabEq Tryz.func50 rfl (by kernel_rfl) rfl (by simp [idsOf, SV.ids, Nat.blt_eq, hlt]) ?_
  (repeat (first | (with_reducible refine vc_exit ?_) | (with_reducible refine vc_ret ?_) | (with_reducible refine vc_skip ?_) | (with_reducible refine thenQ_x ?_) | (with_reducible refine thenQ_r ?_) | (with_reducible refine thenQ_n ?_) | (with_reducible refine blockQ_x rfl ?_) | (with_reducible refine blockQ_y rfl ?_) | (with_reducible refine blockQ_n ?_) | (with_reducible refine blockQ_r ?_) | (with_reducible refine vc_seq ?_) | (with_reducible refine vc_region ?_) | (with_reducible refine vc_block ?_) | (with_reducible refine vc_scope ?_) | (with_reducible refine opsVC_nil ?_)))
  refine opsVC_as rfl rfl rfl ?_
  (repeat (first | (with_reducible refine vc_exit ?_) | (with_reducible refine vc_ret ?_) | (with_reducible refine vc_skip ?_) | (with_reducible refine thenQ_x ?_) | (with_reducible refine thenQ_r ?_) | (with_reducible refine thenQ_n ?_) | (with_reducible refine blockQ_x rfl ?_) | (with_reducible refine blockQ_y rfl ?_) | (with_reducible refine blockQ_n ?_) | (with_reducible refine blockQ_r ?_) | (with_reducible refine vc_seq ?_) | (with_reducible refine vc_region ?_) | (with_reducible refine vc_block ?_) | (with_reducible refine vc_scope ?_) | (with_reducible refine opsVC_nil ?_)))
  refine opsVC_mv rfl rfl rfl ?_
  refine opsVC_eqN rfl rfl rfl rfl rfl rfl ?_
  (repeat (first | (with_reducible refine vc_exit ?_) | (with_reducible refine vc_ret ?_) | (with_reducible refine vc_skip ?_) | (with_reducible refine thenQ_x ?_) | (with_reducible refine thenQ_r ?_) | (with_reducible refine thenQ_n ?_) | (with_reducible refine blockQ_x rfl ?_) | (with_reducible refine blockQ_y rfl ?_) | (with_reducible refine blockQ_n ?_) | (with_reducible refine blockQ_r ?_) | (with_reducible refine vc_seq ?_) | (with_reducible refine vc_region ?_) | (with_reducible refine vc_block ?_) | (with_reducible refine vc_scope ?_) | (with_reducible refine opsVC_nil ?_)))
  refine vc_cond (bb := false) rfl (fun h => Bool.noConfusion h) fun _ => ?_
  (repeat (first | (with_reducible refine vc_exit ?_) | (with_reducible refine vc_ret ?_) | (with_reducible refine vc_skip ?_) | (with_reducible refine thenQ_x ?_) | (with_reducible refine thenQ_r ?_) | (with_reducible refine thenQ_n ?_) | (with_reducible refine blockQ_x rfl ?_) | (with_reducible refine blockQ_y rfl ?_) | (with_reducible refine blockQ_n ?_) | (with_reducible refine blockQ_r ?_) | (with_reducible refine vc_seq ?_) | (with_reducible refine vc_region ?_) | (with_reducible refine vc_block ?_) | (with_reducible refine vc_scope ?_) | (with_reducible refine opsVC_nil ?_)))
  refine opsVC_row0 rfl rfl rfl rfl rfl rfl fun G M1 p1 => ?_
  refine opsVC_mv rfl rfl rfl ?_
  have l1 := p1.len
  refine opsVC_appN rfl rfl rfl rfl rfl rfl rfl p1.new ((p1.old id hlt (by omega)).trans hb) (by omega) (Nat.le_refl _) ⟨Nat.le_refl _, rfl, Nat.le_refl _, by omega, by omega⟩ fun cap' F M2 hcap _ hF p2 => ?_
  refine opsVC_as rfl rfl rfl ?_
  (repeat (first | (with_reducible refine vc_exit ?_) | (with_reducible refine vc_ret ?_) | (with_reducible refine vc_skip ?_) | (with_reducible refine thenQ_x ?_) | (with_reducible refine thenQ_r ?_) | (with_reducible refine thenQ_n ?_) | (with_reducible refine blockQ_x rfl ?_) | (with_reducible refine blockQ_y rfl ?_) | (with_reducible refine blockQ_n ?_) | (with_reducible refine blockQ_r ?_) | (with_reducible refine vc_seq ?_) | (with_reducible refine vc_region ?_) | (with_reducible refine vc_block ?_) | (with_reducible refine vc_scope ?_) | (with_reducible refine opsVC_nil ?_)))
  have l2 := p2.len
  refine ⟨cap', F, by omega, ?_, fun j hj => ?_, ?_, by omega, fun q hq => ?_, ?_⟩
  · show SV.sl M1.length 0 (0 + w) cap' = _
    rw [l1, Nat.zero_add]
  · have := hF j
    rw [show 0 * 1 + j = j by omega] at this
    exact this
  · have := p2.new
    rw [l1, show (0 + w) * 1 = w by omega] at this
    exact this
  · rw [p2.old q (by omega) (by omega), p1.old q hq (by omega)]
  · exact p2.clo (p1.clo hm (by simp [SV.ids])) (by simp [SV.ids])

/-! ### the list -/
structure DI (m : Mem) (n : Nat) (A : Nat → Int) (x : Nat × (Nat → SV) × (Nat → Nat) × (Nat → Nat) × (Nat → Nat → Int) × Mem) : Prop where
  i : x.1 ≤ n
  hdr : blockOf x.2.2.2.2.2 m.length = some (.vec n x.2.1, n)
  sl : ∀ l, l < x.1 → x.2.1 l = .sl (x.2.2.1 l) 0 8 (x.2.2.2.1 l)
  nil : ∀ l, x.1 ≤ l → x.2.1 l = .nilsl
  row : ∀ l, l < x.1 → m.length < x.2.2.1 l ∧ blockOf x.2.2.2.2.2 (x.2.2.1 l) = some (.ints .u8 8 (x.2.2.2.2.1 l), x.2.2.2.1 l * 1) ∧ 8 ≤ x.2.2.2.1 l
  inj : ∀ l l', l < x.1 → l' < x.1 → x.2.2.1 l = x.2.2.1 l' → l = l'
  val : ∀ l, l < x.1 → ∀ j, j < 8 → x.2.2.2.2.1 l j = A (l * 8 + j)
  old : ∀ q, q < m.length → blockOf x.2.2.2.2.2 q = blockOf m q
  len : m.length + 1 ≤ x.2.2.2.2.2.length
  clo : Clo x.2.2.2.2.2
structure DJ (M : Mem) (b k : Nat) (a : Nat → Nat → Int) (x : Nat × (Nat → Int) × Mem) : Prop where
  i : x.1 ≤ k
  blk : blockOf x.2.2 b = some (.ints .u8 (k * 8) x.2.1, k * 8)
  val : ∀ l, l < x.1 → ∀ j, j < 8 → x.2.1 (l * 8 + j) = a l j
  old : ∀ q, q < b → blockOf x.2.2 q = blockOf M q
  len : b < x.2.2.length
  clo : Clo x.2.2

/-- the rows of a list of vectors -/
def rowsA (A : Nat → Int) (i j : Nat) : Int := A (i * 8 + j)
theorem reduced_s (m : Mem) (n N p sid c d : Nat) (A : Nat → Int) (hb : blockOf m sid = some (.ints .u8 N A, d)) (hN : n * 8 ≤ N) (hm : Clo m) (hn : n ≤ 1000) (hp : primeB (p : Int) = true) (hp2 : 2 ≤ p ∧ p ≤ 31) (hr : ∀ q, q < n * 8 → 0 ≤ A q ∧ A q < p) :
    Spec Tryz.prog 30 [.int .i64 p, .sl sid 0 n c] m (fun r m' => ∃ id k G, r = .sl id 0 k k ∧ k ≤ n ∧ RedL p (Sp p 8 n (rowsA A)) k G ∧ blockOf m' id = some (.ints .u8 (k * 8) G, k * 8) ∧ m.length ≤ id ∧ m.length ≤ m'.length ∧ (∀ q, q < m.length → blockOf m' q = blockOf m q) ∧ Clo m') := by
  have hlt : sid < m.length := blockOf_lt (by rw [hb]; rfl)
  refine Spec.of_vc (tabOK.dir fun g => Nat.beq g 50 || Nat.beq g 51) (tabEq.dir _) Tryz.func30 rfl (by kernel_rfl) rfl (by simp [idsOf, SV.ids, Nat.blt_eq, hlt]) ?_
  (repeat (first | (with_reducible refine vc_exit ?_) | (with_reducible refine vc_ret ?_) | (with_reducible refine vc_skip ?_) | (with_reducible refine thenQ_x ?_) | (with_reducible refine thenQ_r ?_) | (with_reducible refine thenQ_n ?_) | (with_reducible refine blockQ_x rfl ?_) | (with_reducible refine blockQ_y rfl ?_) | (with_reducible refine blockQ_n ?_) | (with_reducible refine blockQ_r ?_) | (with_reducible refine vc_seq ?_) | (with_reducible refine vc_region ?_) | (with_reducible refine vc_block ?_) | (with_reducible refine vc_scope ?_) | (with_reducible refine opsVC_nil ?_)))
  refine opsVC_as rfl rfl rfl ?_
  (repeat (first | (with_reducible refine vc_exit ?_) | (with_reducible refine vc_ret ?_) | (with_reducible refine vc_skip ?_) | (with_reducible refine thenQ_x ?_) | (with_reducible refine thenQ_r ?_) | (with_reducible refine thenQ_n ?_) | (with_reducible refine blockQ_x rfl ?_) | (with_reducible refine blockQ_y rfl ?_) | (with_reducible refine blockQ_n ?_) | (with_reducible refine blockQ_r ?_) | (with_reducible refine vc_seq ?_) | (with_reducible refine vc_region ?_) | (with_reducible refine vc_block ?_) | (with_reducible refine vc_scope ?_) | (with_reducible refine opsVC_nil ?_)))
  refine opsVC_mv rfl rfl rfl ?_
  refine opsVC_len rfl rfl rfl rfl rfl rfl ?_
  refine opsVC_mkV rfl rfl rfl rfl rfl rfl rfl (by omega) fun M2 p2 => ?_
  refine opsVC_as rfl rfl rfl ?_
  (repeat (first | (with_reducible refine vc_exit ?_) | (with_reducible refine vc_ret ?_) | (with_reducible refine vc_skip ?_) | (with_reducible refine thenQ_x ?_) | (with_reducible refine thenQ_r ?_) | (with_reducible refine thenQ_n ?_) | (with_reducible refine blockQ_x rfl ?_) | (with_reducible refine blockQ_y rfl ?_) | (with_reducible refine blockQ_n ?_) | (with_reducible refine blockQ_r ?_) | (with_reducible refine vc_seq ?_) | (with_reducible refine vc_region ?_) | (with_reducible refine vc_block ?_) | (with_reducible refine vc_scope ?_) | (with_reducible refine opsVC_nil ?_)))
  have l2 := p2.len
  have c2 := p2.clo hm (fun i hi => by obtain ⟨k, hk, hq⟩ := vec_ids.1 hi; cases hq)
  refine opsVC_mv rfl rfl rfl ?_
  refine opsVC_len rfl rfl rfl rfl rfl rfl ?_
  refine opsVC_mv rfl rfl rfl ?_
  (repeat (first | (with_reducible refine vc_exit ?_) | (with_reducible refine vc_ret ?_) | (with_reducible refine vc_skip ?_) | (with_reducible refine thenQ_x ?_) | (with_reducible refine thenQ_r ?_) | (with_reducible refine thenQ_n ?_) | (with_reducible refine blockQ_x rfl ?_) | (with_reducible refine blockQ_y rfl ?_) | (with_reducible refine blockQ_n ?_) | (with_reducible refine blockQ_r ?_) | (with_reducible refine vc_seq ?_) | (with_reducible refine vc_region ?_) | (with_reducible refine vc_block ?_) | (with_reducible refine vc_scope ?_) | (with_reducible refine opsVC_nil ?_)))
  refine LoopVC.ofR (DI m n A) (fun x => [(0, .int .i64 p), (5, .sl m.length 0 n n), (14, .sl sid 0 n c), (15, .int .i64 n), (16, .int .i64 x.1)]) (fun x => x.2.2.2.2.2) (fun x => n - x.1) (0, (fun _ => .nilsl), (fun _ => 0), (fun _ => 0), (fun _ _ => 0), M2)
    ⟨Nat.zero_le _, p2.new, fun l hl => absurd hl (Nat.not_lt_zero _), fun _ _ => rfl, fun l hl => absurd hl (Nat.not_lt_zero _), fun l _ hl => absurd hl (Nat.not_lt_zero _), fun l hl => absurd hl (Nat.not_lt_zero _), fun q hq => p2.old q hq (by omega), by show m.length + 1 ≤ M2.length; omega, c2⟩ (fun i => i) (RenTo.same ?_ fun i u d hb => ⟨u, hb, eqv_refl u⟩) ?_ ?_ ?_
  · exact (And.intro rfl (And.intro rfl (And.intro rfl (And.intro rfl (And.intro rfl (trivial))))))
  · intro x hx; have := hx.len; show m.length ≤ _; omega
  · intro x hx
    refine OkP.of ?_ hx.clo
    have := hx.len
    simp [SV.ids]; omega
  · rintro ⟨i, H, ρ, cp, F, M⟩ ⟨hi, hhdr, hsl, hnil, hrow, hinj, hval, hO, hL, hC⟩
    dsimp only at hi hhdr hsl hnil hrow hinj hval hO hL hC
    have hix : (i : Int).toNat * 1 + 0 = i := by omega
    refine ifVC_split (fun h1 => ?_) (fun h1 => ?_)
    · have hin : i < n := by have := of_decide_eq_true h1; omega
      (repeat (first | (with_reducible refine vc_exit ?_) | (with_reducible refine vc_ret ?_) | (with_reducible refine vc_skip ?_) | (with_reducible refine thenQ_x ?_) | (with_reducible refine thenQ_r ?_) | (with_reducible refine thenQ_n ?_) | (with_reducible refine blockQ_x rfl ?_) | (with_reducible refine blockQ_y rfl ?_) | (with_reducible refine blockQ_n ?_) | (with_reducible refine blockQ_r ?_) | (with_reducible refine vc_seq ?_) | (with_reducible refine vc_region ?_) | (with_reducible refine vc_block ?_) | (with_reducible refine vc_scope ?_) | (with_reducible refine opsVC_nil ?_)))
      refine opsVC_mv rfl rfl rfl ?_
      refine opsVC_ia rfl rfl rfl rfl rfl ⟨by omega, by omega⟩ ?_
      refine opsVC_loadR (l := 8) rfl rfl rfl rfl ((hO sid hlt).trans hb) (by omega) ?_
      refine opsVC_alloc rfl rfl rfl rfl ?_
      refine opsVC_as rfl rfl rfl ?_
      change opsVC _ _ _ _ _ _ (M ++ [some (SV.ints .u8 8 fun _ => 0, 8)]) _
      refine opsVC_putNew rfl rfl rfl rfl rfl fun D M3 hD p3 => ?_
      (repeat (first | (with_reducible refine vc_exit ?_) | (with_reducible refine vc_ret ?_) | (with_reducible refine vc_skip ?_) | (with_reducible refine thenQ_x ?_) | (with_reducible refine thenQ_r ?_) | (with_reducible refine thenQ_n ?_) | (with_reducible refine blockQ_x rfl ?_) | (with_reducible refine blockQ_y rfl ?_) | (with_reducible refine blockQ_n ?_) | (with_reducible refine blockQ_r ?_) | (with_reducible refine vc_seq ?_) | (with_reducible refine vc_region ?_) | (with_reducible refine vc_block ?_) | (with_reducible refine vc_scope ?_) | (with_reducible refine opsVC_nil ?_)))
      have l3 := p3.len
      have c3 := p3.clo hC (by simp [SV.ids])
      refine opsVC_mv rfl rfl rfl ?_
      refine opsVC_mv rfl rfl rfl ?_
      refine opsVC_slA rfl rfl rfl rfl ?_
      refine opsVC_dir rfl rfl rfl rfl rfl rfl ?_
      refine Spec.mono (cloneM_s M3 M.length 8 8 8 8 D p3.new c3 (by omega)) ?_
      rintro _ M4 ⟨c4, G, hc4, rfl, hG, n4, l4, o4, cl4⟩
      refine ⟨fun q hq h => by rw [o4 q hq] at h; exact h, ?_⟩
      refine opsVC_ia rfl rfl rfl rfl rfl ⟨by omega, by omega⟩ ?_
      have h4 : blockOf M4 m.length = some (.vec n H, n) := (o4 _ (by omega)).trans ((p3.old _ (by omega) (by omega)).trans hhdr)
      refine opsVC_storeV rfl rfl rfl rfl rfl h4 rfl (by omega) ?_
      (repeat (first | (with_reducible refine vc_exit ?_) | (with_reducible refine vc_ret ?_) | (with_reducible refine vc_skip ?_) | (with_reducible refine thenQ_x ?_) | (with_reducible refine thenQ_r ?_) | (with_reducible refine thenQ_n ?_) | (with_reducible refine blockQ_x rfl ?_) | (with_reducible refine blockQ_y rfl ?_) | (with_reducible refine blockQ_n ?_) | (with_reducible refine blockQ_r ?_) | (with_reducible refine vc_seq ?_) | (with_reducible refine vc_region ?_) | (with_reducible refine vc_block ?_) | (with_reducible refine vc_scope ?_) | (with_reducible refine opsVC_nil ?_)))
      have sg := fun id => setBlock_get M4 m.length id (.vec n (updV H ((i : Int).toNat * 1 + 0) (.sl (M3.length + 1) 0 8 c4))) _ _ h4
      have hne : ∀ id, id ≠ m.length → id < M.length → blockOf (setBlock M4 m.length (.vec n (updV H ((i : Int).toNat * 1 + 0) (.sl (M3.length + 1) 0 8 c4)))) id = blockOf M id := fun id h1 h2 => by
        rw [sg, if_neg h1, o4 id (by omega), p3.old id (by omega) (by omega)]
      have hlo : ∀ l, l < i → ρ l < M.length := fun l hl => blockOf_lt (by rw [(hrow l hl).2.1]; rfl)
      refine Exists.intro (i + 1, updV H ((i : Int).toNat * 1 + 0) (.sl (M3.length + 1) 0 8 c4), (fun l => if l = i then M3.length + 1 else ρ l), (fun l => if l = i then c4 else cp l), (fun l => if l = i then G else F l), _) (Exists.intro (fun i => i) (And.intro ⟨hin, ?_, fun l hl => ?_, fun l hl => ?_, fun l hl => ?_, fun l l' hl hl' e => ?_, fun l hl j hj => ?_, fun q hq => ?_, ?_, ?_⟩ (And.intro (show n - (i + 1) < n - i by omega) (RenTo.same ?_ fun i u d hb => ⟨u, hb, eqv_refl u⟩))))
      rotate_right
      · exact And.intro rfl (And.intro rfl (And.intro rfl (And.intro rfl (And.intro (slotI (wrapS (by omega))) trivial))))
      · show blockOf (setBlock M4 _ _) m.length = _
        rw [sg, if_pos rfl]
      · have hl : l < i + 1 := hl
        show updV H _ _ l = .sl (if l = i then M3.length + 1 else ρ l) 0 8 (if l = i then c4 else cp l)
        unfold updV
        rw [hix]
        by_cases e : l = i
        · rw [if_pos e, if_pos e, if_pos e]
        · rw [if_neg e, if_neg e, if_neg e]; exact hsl l (by omega)
      · have hl : i + 1 ≤ l := hl
        show updV H _ _ l = _
        unfold updV
        rw [hix, if_neg (by omega)]; exact hnil l (by omega)
      · have hl : l < i + 1 := hl
        show m.length < (if l = i then M3.length + 1 else ρ l) ∧ blockOf (setBlock M4 _ _) (if l = i then M3.length + 1 else ρ l) = some (.ints .u8 8 (if l = i then G else F l), (if l = i then c4 else cp l) * 1) ∧ 8 ≤ if l = i then c4 else cp l
        by_cases e : l = i
        · rw [if_pos e, if_pos e, if_pos e]
          exact ⟨by omega, by rw [sg, if_neg (by omega)]; exact n4, hc4⟩
        · rw [if_neg e, if_neg e, if_neg e]
          obtain ⟨r1, r2, r3⟩ := hrow l (by omega)
          exact ⟨r1, (hne _ (by omega) (hlo l (by omega))).trans r2, r3⟩
      · have hl : l < i + 1 := hl
        have hl' : l' < i + 1 := hl'
        have e : (if l = i then M3.length + 1 else ρ l) = if l' = i then M3.length + 1 else ρ l' := e
        by_cases e1 : l = i
        · by_cases e2 : l' = i
          · omega
          · rw [if_pos e1, if_neg e2] at e
            have := hlo l' (by omega); omega
        · by_cases e2 : l' = i
          · rw [if_neg e1, if_pos e2] at e
            have := hlo l (by omega); omega
          · rw [if_neg e1, if_neg e2] at e
            exact hinj l l' (by omega) (by omega) e
      · have hl : l < i + 1 := hl
        show (if l = i then G else F l) j = _
        by_cases e : l = i
        · rw [if_pos e, e, hG j hj]
          rw [hD _ (by omega)]
          show A (j + ((i : Int).toNat * 8 + 0)) = A (i * 8 + j)
          congr 1; omega
        · rw [if_neg e]; exact hval l (by omega) j hj
      · exact (hne q (by omega) (by omega)).trans (hO q hq)
      · show m.length + 1 ≤ (setBlock M4 _ _).length
        rw [setBlock_lt]; omega
      · refine setBlock_clo cl4 h4 fun q hq => ?_
        obtain ⟨k, hk, hqk⟩ := vec_ids.1 hq
        unfold updV at hqk
        split at hqk
        · simp [SV.ids1] at hqk; omega
        · have := hC m.length _ _ hhdr q (vec_ids.2 ⟨k, hk, hqk⟩); omega
    · have hin : i = n := by have := of_decide_eq_false h1; omega
      subst hin
      (repeat (first | (with_reducible refine vc_exit ?_) | (with_reducible refine vc_ret ?_) | (with_reducible refine vc_skip ?_) | (with_reducible refine thenQ_x ?_) | (with_reducible refine thenQ_r ?_) | (with_reducible refine thenQ_n ?_) | (with_reducible refine blockQ_x rfl ?_) | (with_reducible refine blockQ_y rfl ?_) | (with_reducible refine blockQ_n ?_) | (with_reducible refine blockQ_r ?_) | (with_reducible refine vc_seq ?_) | (with_reducible refine vc_region ?_) | (with_reducible refine vc_block ?_) | (with_reducible refine vc_scope ?_) | (with_reducible refine opsVC_nil ?_)))
      refine opsVC_mv rfl rfl rfl ?_
      refine opsVC_mv rfl rfl rfl ?_
      refine opsVC_dir rfl rfl rfl rfl rfl rfl ?_
      refine Spec.mono (reduceRows_s M m.length i i i i 8 p H ρ cp F (fun l => cp l * 1) ⟨hhdr, by omega, fun l hl => by rw [Nat.zero_add]; exact hsl l hl, fun l hl => (hrow l hl).2.1, fun l hl => (hrow l hl).2.2⟩ hC hinj (by omega) (Nat.le_refl _) (by omega) hp hp2 (fun l hl j hj => by rw [hval l hl j hj]; exact hr _ (by omega))) ?_
      rintro r M5 ⟨k, h', ρ', cp', a, d', P, rfl, hk, hb5, hred⟩
      refine ⟨hb5.live, ?_⟩
      have hlen : M5.length = M.length := hb5.len
      have o5 : ∀ q, q < m.length → blockOf M5 q = blockOf m q := fun q hq => (hb5.out q (by omega) (fun l hl => by have := (hrow l hl).1; omega)).trans (hO q hq)
      have hsp : ∀ v, Sp p 8 i F v ↔ Sp p 8 i (rowsA A) v := fun v => Sp.congr (by omega) (fun l hl j hj => hval l hl j hj) (fun l hl j hj => by rw [hval l hl j hj]; exact hr _ (by omega))
      have hred := hred.of_iff hsp
      have hsl' : ∀ l, l < i → h' l = .sl (ρ' l) 0 8 (cp' l) := fun l hl => by have := hb5.fam.sl l hl; rwa [Nat.zero_add] at this
      have hρ : ∀ l, l < i → ρ' l < M5.length := hb5.fam.lt
      refine opsVC_as rfl rfl rfl ?_
      (repeat (first | (with_reducible refine vc_exit ?_) | (with_reducible refine vc_ret ?_) | (with_reducible refine vc_skip ?_) | (with_reducible refine thenQ_x ?_) | (with_reducible refine thenQ_r ?_) | (with_reducible refine thenQ_n ?_) | (with_reducible refine blockQ_x rfl ?_) | (with_reducible refine blockQ_y rfl ?_) | (with_reducible refine blockQ_n ?_) | (with_reducible refine blockQ_r ?_) | (with_reducible refine vc_seq ?_) | (with_reducible refine vc_region ?_) | (with_reducible refine vc_block ?_) | (with_reducible refine vc_scope ?_) | (with_reducible refine opsVC_nil ?_)))
      refine opsVC_mv rfl rfl rfl ?_
      refine opsVC_len rfl rfl rfl rfl rfl rfl ?_
      refine opsVC_mkI rfl rfl rfl rfl rfl rfl rfl (by omega) fun G0 M6 p6 => ?_
      refine opsVC_as rfl rfl rfl ?_
      (repeat (first | (with_reducible refine vc_exit ?_) | (with_reducible refine vc_ret ?_) | (with_reducible refine vc_skip ?_) | (with_reducible refine thenQ_x ?_) | (with_reducible refine thenQ_r ?_) | (with_reducible refine thenQ_n ?_) | (with_reducible refine blockQ_x rfl ?_) | (with_reducible refine blockQ_y rfl ?_) | (with_reducible refine blockQ_n ?_) | (with_reducible refine blockQ_r ?_) | (with_reducible refine vc_seq ?_) | (with_reducible refine vc_region ?_) | (with_reducible refine vc_block ?_) | (with_reducible refine vc_scope ?_) | (with_reducible refine opsVC_nil ?_)))
      have l6 := p6.len
      have c6 := p6.clo hb5.clo (by simp [SV.ids])
      refine opsVC_mv rfl rfl rfl ?_
      refine opsVC_len rfl rfl rfl rfl rfl rfl ?_
      refine opsVC_mv rfl rfl rfl ?_
      (repeat (first | (with_reducible refine vc_exit ?_) | (with_reducible refine vc_ret ?_) | (with_reducible refine vc_skip ?_) | (with_reducible refine thenQ_x ?_) | (with_reducible refine thenQ_r ?_) | (with_reducible refine thenQ_n ?_) | (with_reducible refine blockQ_x rfl ?_) | (with_reducible refine blockQ_y rfl ?_) | (with_reducible refine blockQ_n ?_) | (with_reducible refine blockQ_r ?_) | (with_reducible refine vc_seq ?_) | (with_reducible refine vc_region ?_) | (with_reducible refine vc_block ?_) | (with_reducible refine vc_scope ?_) | (with_reducible refine opsVC_nil ?_)))
      refine LoopVC.ofR (DJ M5 M5.length k a) (fun x => [(8, .sl M5.length 0 k k), (33, .sl m.length 0 k i), (34, .int .i64 k), (35, .int .i64 x.1)]) (fun x => x.2.2) (fun x => k - x.1) (0, G0, M6)
        ⟨Nat.zero_le _, p6.new, fun l hl => absurd hl (Nat.not_lt_zero _), fun q hq => p6.old q hq (by omega), by show M5.length < M6.length; omega, c6⟩ (fun i => i) (RenTo.same ?_ fun i u d hb => ⟨u, hb, eqv_refl u⟩) ?_ ?_ ?_
      · exact (And.intro rfl (And.intro rfl (And.intro rfl (And.intro rfl (trivial)))))
      · intro x hx; have := hx.len; show m.length ≤ _; omega
      · intro x hx
        refine OkP.of ?_ hx.clo
        have := hx.len
        simp [SV.ids]; omega
      · rintro ⟨l, G, M7⟩ ⟨hl, hblk, hval2, hO2, hL2, hC2⟩
        dsimp only at hl hblk hval2 hO2 hL2 hC2
        have hlx : (l : Int).toNat * 1 + 0 = l := by omega
        refine ifVC_split (fun h2 => ?_) (fun h2 => ?_)
        · have hlk : l < k := by have := of_decide_eq_true h2; omega
          have hrowl := (hO2 _ (hρ l (by omega))).trans (hb5.fam.row l (by omega))
          (repeat (first | (with_reducible refine vc_exit ?_) | (with_reducible refine vc_ret ?_) | (with_reducible refine vc_skip ?_) | (with_reducible refine thenQ_x ?_) | (with_reducible refine thenQ_r ?_) | (with_reducible refine thenQ_n ?_) | (with_reducible refine blockQ_x rfl ?_) | (with_reducible refine blockQ_y rfl ?_) | (with_reducible refine blockQ_n ?_) | (with_reducible refine blockQ_r ?_) | (with_reducible refine vc_seq ?_) | (with_reducible refine vc_region ?_) | (with_reducible refine vc_block ?_) | (with_reducible refine vc_scope ?_) | (with_reducible refine opsVC_nil ?_)))
          refine opsVC_mv rfl rfl rfl ?_
          refine opsVC_ia rfl rfl rfl rfl rfl ⟨by omega, by omega⟩ ?_
          refine opsVC_loadS (v := .sl (ρ' l) 0 8 (cp' l)) rfl rfl rfl rfl ((hO2 _ (by omega)).trans hb5.fam.hdr) (by omega) (by rw [hlx]; exact hsl' l (by omega)) rfl ?_
          refine opsVC_as rfl rfl rfl ?_
          refine opsVC_as rfl rfl rfl ?_
          (repeat (first | (with_reducible refine vc_exit ?_) | (with_reducible refine vc_ret ?_) | (with_reducible refine vc_skip ?_) | (with_reducible refine thenQ_x ?_) | (with_reducible refine thenQ_r ?_) | (with_reducible refine thenQ_n ?_) | (with_reducible refine blockQ_x rfl ?_) | (with_reducible refine blockQ_y rfl ?_) | (with_reducible refine blockQ_n ?_) | (with_reducible refine blockQ_r ?_) | (with_reducible refine vc_seq ?_) | (with_reducible refine vc_region ?_) | (with_reducible refine vc_block ?_) | (with_reducible refine vc_scope ?_) | (with_reducible refine opsVC_nil ?_)))
          refine opsVC_mv rfl rfl rfl ?_
          refine opsVC_mv rfl rfl rfl ?_
          refine opsVC_mv rfl rfl rfl ?_
          refine opsVC_arr rfl rfl rfl rfl (Nat.le_refl _) ?_
          refine opsVC_loadR (l := 8) rfl rfl rfl rfl hrowl (by omega) ?_
          refine opsVC_ia rfl rfl rfl rfl rfl ⟨by omega, by omega⟩ ?_
          refine opsVC_storeR rfl rfl rfl rfl rfl hblk (by omega) ?_
          (repeat (first | (with_reducible refine vc_exit ?_) | (with_reducible refine vc_ret ?_) | (with_reducible refine vc_skip ?_) | (with_reducible refine thenQ_x ?_) | (with_reducible refine thenQ_r ?_) | (with_reducible refine thenQ_n ?_) | (with_reducible refine blockQ_x rfl ?_) | (with_reducible refine blockQ_y rfl ?_) | (with_reducible refine blockQ_n ?_) | (with_reducible refine blockQ_r ?_) | (with_reducible refine vc_seq ?_) | (with_reducible refine vc_region ?_) | (with_reducible refine vc_block ?_) | (with_reducible refine vc_scope ?_) | (with_reducible refine opsVC_nil ?_)))
          have sg := fun id v => setBlock_get M7 M5.length id v _ _ hblk
          refine Exists.intro (l + 1, updR G ((l : Int).toNat * 8 + 0) 8 (fun j => a l (j + 0)), setBlock M7 M5.length (.ints .u8 (k * 8) (updR G ((l : Int).toNat * 8 + 0) 8 (fun j => a l (j + 0))))) (Exists.intro (fun i => i) (And.intro ⟨hlk, ?_, fun l2 hl2 j hj => ?_, fun q hq => ?_, ?_, ?_⟩ (And.intro (show k - (l + 1) < k - l by omega) (RenTo.same ?_ fun i u d hb => ⟨u, hb, eqv_refl u⟩))))
          rotate_right
          · exact And.intro rfl (And.intro rfl (And.intro rfl (And.intro (slotI (wrapS (by omega))) trivial)))
          · show blockOf (setBlock M7 _ _) M5.length = _
            rw [sg, if_pos rfl]
          · have hl2 : l2 < l + 1 := hl2
            show updR G ((l : Int).toNat * 8 + 0) 8 _ (l2 * 8 + j) = a l2 j
            unfold updR
            rw [show (l : Int).toNat * 8 + 0 = l * 8 by omega]
            by_cases e : l2 = l
            · subst e
              rw [if_pos (by omega), show l2 * 8 + j - l2 * 8 = j by omega]
            · rw [if_neg (by omega)]; exact hval2 l2 (by omega) j hj
          · show blockOf (setBlock M7 _ _) q = _
            rw [sg, if_neg (by omega)]; exact hO2 q hq
          · show M5.length < (setBlock M7 _ _).length
            rw [setBlock_lt]; exact hL2
          · exact setBlock_clo hC2 hblk (by simp [SV.ids])
        · have hlk : l = k := by have := of_decide_eq_false h2; omega
          subst hlk
          (repeat (first | (with_reducible refine vc_exit ?_) | (with_reducible refine vc_ret ?_) | (with_reducible refine vc_skip ?_) | (with_reducible refine thenQ_x ?_) | (with_reducible refine thenQ_r ?_) | (with_reducible refine thenQ_n ?_) | (with_reducible refine blockQ_x rfl ?_) | (with_reducible refine blockQ_y rfl ?_) | (with_reducible refine blockQ_n ?_) | (with_reducible refine blockQ_r ?_) | (with_reducible refine vc_seq ?_) | (with_reducible refine vc_region ?_) | (with_reducible refine vc_block ?_) | (with_reducible refine vc_scope ?_) | (with_reducible refine opsVC_nil ?_)))
          refine opsVC_mv rfl rfl rfl ?_
          refine opsVC_as rfl rfl rfl ?_
          (repeat (first | (with_reducible refine vc_exit ?_) | (with_reducible refine vc_ret ?_) | (with_reducible refine vc_skip ?_) | (with_reducible refine thenQ_x ?_) | (with_reducible refine thenQ_r ?_) | (with_reducible refine thenQ_n ?_) | (with_reducible refine blockQ_x rfl ?_) | (with_reducible refine blockQ_y rfl ?_) | (with_reducible refine blockQ_n ?_) | (with_reducible refine blockQ_r ?_) | (with_reducible refine vc_seq ?_) | (with_reducible refine vc_region ?_) | (with_reducible refine vc_block ?_) | (with_reducible refine vc_scope ?_) | (with_reducible refine opsVC_nil ?_)))
          exact ⟨M5.length, l, G, rfl, hk, redL_of (Sp.space (by omega)) hred fun q hq j hj => by show G (j + q * 8) = _; rw [Nat.add_comm]; exact hval2 q hq j hj, hblk, by omega, by show m.length ≤ M7.length; omega, fun q hq => (hO2 q (by omega)).trans (o5 q hq), hC2⟩
end Go.Proofs.YtjanlnngeklhoabGreat

/- Steps of regions that draw their order: stores, lengths, appends that grow; rows of tables cut as slices. -/
set_option linter.unusedVariables false
set_option linter.unusedSimpArgs false
set_option maxRecDepth 100000
set_option maxHeartbeats 4000000
namespace Go.Proofs.YtjanlnngeklhoabGreat
open M

/-! ### steps -/
section
variable {P : Program} {T : Tab} {N : Nat} {ops : Array Oper} {o : Oper} {s : Slots} {m : Mem} {K : Slots → Mem → Prop} {p n l t c off b i : Nat} {ri : List Nat} {k : IntKind} {f u : Nat → Int} {a x : Operand}
theorem readVC_iaA {es len id base : Nat} {path : List Nat} {ea : Bool} {ix : Operand} {z : Int} {Kv : SV → Prop} (ht : T.ti t = .arr len es ea) (hx : ev s x = some (.ptr id path base off)) (hi : ev s ix = some (.int k z)) (hb : 0 ≤ z ∧ z < len) (hk : Kv (.ptr id path base (z.toNat * es + off))) : readVC T (.indexAddr t x ix) s m Kv := by
  simp only [readVC, ht, hx, hi]
  exact ⟨hb, hk⟩
theorem restVC_dirR {g : Nat} {args : List SV} {cl : Call} {oo : Option Oper} (hi : ops[i]? = oo) (h0 : oo = some o) (ho : o.op = .call cl) (hc : cl.callee = .value x) (hx : ev s x = some (.fn g)) (ha : evs s cl.args.toList = some args) (hd : T.direct g = true)
    (hk : Spec P g args m fun r' m' => liveP m m' ∧ preM m m' ∧ restVC P T N none ops p ri (sset N s o.dst r') m' K) : restVC P T N none ops p (i :: ri) s m K := by
  unfold restVC
  rw [hi, h0]
  refine .inl ⟨by rw [ho]; simp [ndOp, hc], ?_⟩
  simp only [oneVC, ho, hc, hx, ha, hd]
  exact hk
end

end Go.Proofs.YtjanlnngeklhoabGreat

/- Dual algebras and coalgebras and cocommutativity, on both sides, and the laws. -/
set_option linter.unusedVariables false
set_option linter.unusedSimpArgs false
set_option maxRecDepth 100000
set_option maxHeartbeats 1000000
namespace Go.Proofs.YtjanlnngeklhoabGreat
open M

/-- a struct, or zeros -/
def orZero (b : Bool) (p n : Int) (U T : Nat → Int) : SV := algV (if b = true then p else 0) (if b = true then n else 0) (fun j => if b = true then U j else 0) (fun q => if b = true then T q else 0)
def orV (b : Bool) (p n : Int) (U T : Nat → Int) : SV := .tcons (orZero b p n U T) (.tcons (.int .i64 (if b = true then 0 else 1)) .tnil)
/-! ### cocommutativity -/
def cocoV (p n : Int) (U C : Nat → Int) : SV := .tcons (.bool (coB p n U C && commB (dualF C))) (.tcons (.int .i64 (if coB p n U C = true then 0 else 1)) .tnil)

end Go.Proofs.YtjanlnngeklhoabGreat

/- Hopf tables: their parts, their form, and sums over pairs, on both sides. -/
set_option linter.unusedVariables false
set_option linter.unusedSimpArgs false
set_option maxRecDepth 100000
set_option maxHeartbeats 1000000
namespace Go.Proofs.YtjanlnngeklhoabGreat
open M

/-- a Hopf table as plain data -/
def hopV (p n : Int) (U T Z C S : Nat → Int) : SV :=
  .pair (.int .i64 p) (.pair (.int .i64 n) (.pair (.ints .u8 8 U) (.pair (.ints .u8 512 T) (.pair (.ints .u8 8 Z) (.pair (.ints .u8 512 C) (.pair (.ints .u8 64 S) .unit))))))
theorem hopE (p n : Int) {U U' T T' Z Z' C C' S S' : Nat → Int} (hU : ∀ j, j < 8 → U j = U' j) (hT : ∀ j, j < 512 → T j = T' j) (hZ : ∀ j, j < 8 → Z j = Z' j) (hC : ∀ j, j < 512 → C j = C' j) (hS : ∀ j, j < 64 → S j = S' j) :
    SV.eqv (hopV p n U T Z C S) (hopV p n U' T' Z' C' S') :=
  And.intro rfl (And.intro rfl (And.intro (rowEq hU) (And.intro (rowEq hT) (And.intro (rowEq hZ) (And.intro (rowEq hC) (And.intro (rowEq hS) rfl))))))
theorem hopR (p n : Int) (U T Z C S : Nat → Int) : SV.eqv (hopV p n U T Z C S) (hopV p n U T Z C S) :=
  hopE p n (fun _ _ => rfl) (fun _ _ => rfl) (fun _ _ => rfl) (fun _ _ => rfl) (fun _ _ => rfl)

theorem algebraOf_s (p n : Int) (U T Z C S : Nat → Int) : Spec Tryz.prog 77 [hopV p n U T Z C S] [] (Ret (algV p n U T)) := by
  refine Spec.ret rfl (Spec.of_vc tabOK tabEq Tryz.func77 rfl (by kernel_rfl) rfl rfl ?_)
  (repeat (first | refine And.intro (by omega) ?_ | refine And.intro ⟨by omega, by omega⟩ ?_))
  exact And.intro rfl (And.intro rfl (And.intro (rowEq fun _ _ => rfl) (And.intro (rowEq fun _ _ => rfl) rfl)))
theorem coalgebraOf_s (p n : Int) (U T Z C S : Nat → Int) : Spec Tryz.prog 79 [hopV p n U T Z C S] [] (Ret (algV p n Z C)) := by
  refine Spec.ret rfl (Spec.of_vc tabOK tabEq Tryz.func79 rfl (by kernel_rfl) rfl rfl ?_)
  (repeat (first | refine And.intro (by omega) ?_ | refine And.intro ⟨by omega, by omega⟩ ?_))
  exact And.intro rfl (And.intro rfl (And.intro (rowEq fun _ _ => rfl) (And.intro (rowEq fun _ _ => rfl) rfl)))
theorem l03Algebra_s (p n : Int) (U T Z C S : Nat → Int) : Spec Tryz.prog 72 [hopV p n U T Z C S] [] (Ret (algV p n U T)) := by
  refine Spec.ret rfl (Spec.of_vc tabOK tabEq Tryz.func72 rfl (by kernel_rfl) rfl rfl ?_)
  (repeat (first | refine And.intro (by omega) ?_ | refine And.intro ⟨by omega, by omega⟩ ?_))
  exact And.intro rfl (And.intro rfl (And.intro (rowEq fun _ _ => rfl) (And.intro (rowEq fun _ _ => rfl) rfl)))
theorem l03Coalgebra_s (p n : Int) (U T Z C S : Nat → Int) : Spec Tryz.prog 96 [hopV p n U T Z C S] [] (Ret (algV p n Z C)) := by
  refine Spec.ret rfl (Spec.of_vc tabOK tabEq Tryz.func96 rfl (by kernel_rfl) rfl rfl ?_)
  (repeat (first | refine And.intro (by omega) ?_ | refine And.intro ⟨by omega, by omega⟩ ?_))
  exact And.intro rfl (And.intro rfl (And.intro (rowEq fun _ _ => rfl) (And.intro (rowEq fun _ _ => rfl) rfl)))

/-- the form of a Hopf table -/
def hshB (p n : Int) (U T Z C S : Nat → Int) : Bool := shapeB p n U T && (shapeB p n Z C && linB p n n S)

theorem isShapedHopf_s (p n : Int) (U T Z C S : Nat → Int) (hU : isU8 8 U) (hT : isU8 512 T) (hZ : isU8 8 Z) (hC : isU8 512 C) (hS : isU8 64 S) :
    Spec Tryz.prog 59 [hopV p n U T Z C S] [] (Ret (.bool (hshB p n U T Z C S))) := by
  refine Spec.ret rfl (Spec.of_vc tabOK tabEq Tryz.func59 rfl (by kernel_rfl) rfl rfl ?_)
  refine And.intro trivial (Spec.mono (algebraOf_s p n U T Z C S) ?_)
  rintro r m ⟨rfl, rfl⟩
  refine And.intro trivial (Spec.mono (isShaped_s p n U T hU hT) ?_)
  rintro r m ⟨rfl, rfl⟩
  refine ifVC_split (fun h1 => ?_) (fun h1 => ?_)
  · refine And.intro trivial (Spec.mono (coalgebraOf_s p n U T Z C S) ?_)
    rintro r m ⟨rfl, rfl⟩
    refine And.intro trivial (Spec.mono (dualAlgebra_s p n Z C) ?_)
    rintro r m ⟨rfl, rfl⟩
    refine And.intro trivial (Spec.mono (isShaped_s p n Z (dualF C) hZ (dual_u8 hC)) ?_)
    rintro r m ⟨rfl, rfl⟩
    refine ifVC_split (fun h2 => ?_) (fun h2 => ?_)
    · have hfn := shape_field h1
      (repeat (first | refine And.intro (by omega) ?_ | refine And.intro ⟨by omega, by omega⟩ ?_))
      refine And.intro trivial (Spec.mono (isLinear_s p n n _ hfn (fun j hj => hS _ (by omega))) ?_)
      rintro r m ⟨rfl, rfl⟩
      rw [shape_dual] at h2
      exact boolEq (by unfold hshB; rw [h1, h2]; rfl)
    · rw [shape_dual] at h2
      exact boolEq (by unfold hshB; rw [h1, h2]; rfl)
  · exact boolEq (by unfold hshB; rw [h1]; rfl)

theorem l03Shape_s (p n : Int) (U T Z C S : Nat → Int) (hU : isU8 8 U) (hT : isU8 512 T) (hZ : isU8 8 Z) (hC : isU8 512 C) (hS : isU8 64 S) :
    Spec Tryz.prog 52 [hopV p n U T Z C S] [] (Ret (.bool (hshB p n U T Z C S))) := by
  refine Spec.ret rfl (Spec.of_vc tabOK tabEq Tryz.func52 rfl (by kernel_rfl) rfl rfl ?_)
  refine Exists.intro 5 (And.intro (by kernel_rfl) ?_)
  refine And.intro trivial (Spec.mono (l03Algebra_s p n U T Z C S) ?_)
  rintro r m ⟨rfl, rfl⟩
  refine And.intro trivial (Spec.mono (l01Shape_s p n U T hU hT) ?_)
  rintro r m ⟨rfl, rfl⟩
  refine ifVC_split (fun h1 => ?_) (fun h1 => ?_)
  · have hfn := shape_field h1
    have hsh : shapeB p n Z C = (entriesB p n Z && tabB p n C) := by unfold shapeB vectorB; rw [hfn, Bool.true_and]
    (repeat (first | refine And.intro (by omega) ?_ | refine And.intro ⟨by omega, by omega⟩ ?_))
    refine And.intro trivial (Spec.mono (l01Vector_s p n _ (fun j hj => hZ _ (by omega))) ?_)
    rintro r m ⟨rfl, rfl⟩
    refine ifVC_split (fun h2 => ?_) (fun h2 => ?_)
    · have h2 : entriesB p n Z = true := h2
      (repeat (first | refine And.intro (by omega) ?_ | refine And.intro ⟨by omega, by omega⟩ ?_))
      refine And.intro trivial (Spec.mono (l01Table_s p n _ (fun j hj => hC _ (by omega))) ?_)
      rintro r m ⟨rfl, rfl⟩
      refine ifVC_split (fun h3 => ?_) (fun h3 => ?_)
      · have h3 : tabB p n C = true := h3
        (repeat (first | refine And.intro (by omega) ?_ | refine And.intro ⟨by omega, by omega⟩ ?_))
        refine And.intro trivial (Spec.mono (l01Linear_s p n _ (fun j hj => hS _ (by omega))) ?_)
        rintro r m ⟨rfl, rfl⟩
        exact boolEq (by unfold hshB; rw [h1, hsh, h2, h3]; rfl)
      · have h3 : tabB p n C = false := h3
        exact boolEq (by unfold hshB; rw [h1, hsh, h2, h3]; rfl)
    · have h2 : entriesB p n Z = false := h2
      exact boolEq (by unfold hshB; rw [h1, hsh, h2]; rfl)
  · exact boolEq (by unfold hshB; rw [h1]; rfl)

/-- what holds of shaped Hopf tables -/
structure HV (p : Int) (n : Nat) (U T Z C S : Nat → Int) : Prop where
  a : Valid p n U T
  c : Valid p n Z (dualF C)
  n1 : 1 ≤ n
  hU : isU8 8 U
  hT : isU8 512 T
  hZ : isU8 8 Z
  hC : isU8 512 C
  hS : isU8 64 S
  slt : ∀ i m, i < 8 → m < 8 → S (m + i * 8) < p
  szero : ∀ i m, i < 8 → m < 8 → (n ≤ i ∨ n ≤ m) → S (m + i * 8) = 0

theorem lin_get {p n : Int} {S : Nat → Int} (h : linB p n n S = true) {i m : Nat} (hi : i < 8) (hm : m < 8) : S (m + i * 8) < p ∧ ((n ≤ i ∨ n ≤ m) → S (m + i * 8) = 0) := by
  have := List.all_eq_true.1 h i (List.mem_range.2 hi)
  simp only [imageB, Bool.and_eq_true, Bool.or_eq_true, decide_eq_true_eq] at this
  have e := entries_get this.1 hm
  refine ⟨e.1, fun hz => ?_⟩
  rcases hz with hz | hz
  · rcases this.2 with h' | h'
    · omega
    · exact allEq_get h' hm
  · exact e.2 hz
theorem hsh_valid {p n : Int} {U T Z C S : Nat → Int} (hU : isU8 8 U) (hT : isU8 512 T) (hZ : isU8 8 Z) (hC : isU8 512 C) (hS : isU8 64 S) (h : hshB p n U T Z C S = true) : ∃ k : Nat, n = k ∧ HV p k U T Z C S := by
  unfold hshB at h
  simp only [Bool.and_eq_true] at h
  obtain ⟨h1, h2, h3⟩ := h
  have hfb := field_bounds (shape_field h1)
  obtain ⟨n, rfl⟩ : ∃ k : Nat, n = k := ⟨n.toNat, by have := hfb.2; omega⟩
  refine ⟨n, rfl, valid_of hU hT h1, valid_co hZ hC h2, by have := hfb.2.1; omega, hU, hT, hZ, hC, hS, fun i m hi hm => (lin_get h3 hi hm).1, fun i m hi hm hz => (lin_get h3 hi hm).2 (by omega)⟩

theorem upd0 {f g : Nat → Int} {m q : Nat} (h : q < m) : updR f 0 m g q = g q := by simp [updR, h]

/-! ### the map that leads each vector to itself -/
def idF (n : Nat) : Nat → Int := fun q => if q / 8 < n then unitV (q / 8) (q % 8) else 0
theorem idF_u8 (n m : Nat) : isU8 m (idF n) := fun q _ => by
  unfold idF
  split
  · exact unitV_u8 _ (q % 8 + 1) _ (by omega)
  · omega

theorem identity_s (n : Nat) (hn : n ≤ 8) : Spec Tryz.prog 64 [.int .i64 n] [] (Ret (.ints .u8 64 (idF n))) := by
  refine Spec.ret rfl (Spec.of_vc tabOK tabEq Tryz.func64 rfl (by kernel_rfl) rfl rfl ?_)
  refine LoopVC.of (fun i : Nat => i ≤ n) (fun i => [(2, .ptr 0 [] 0 0), (3, .ptr 1 [] 0 0), (5, .int .i64 n), (6, .int .i64 i)]) (fun i => [some (.ints .u8 64 fun _ => 0, 64), some (.ints .u8 64 fun q => if q / 8 < i then unitV (q / 8) (q % 8) else 0, 64)]) (fun i => n - i) 0 (by omega) ?_ ?_ ?_
  · exact (And.intro rfl (And.intro rfl (And.intro rfl (And.intro rfl (trivial)))))
  · exact And.intro (And.intro (rowEq fun _ _ => rfl) rfl) (And.intro (And.intro (rowEq fun q _ => by simp) rfl) trivial)
  · intro i hi
    refine ifVC_split (fun h => ?_) (fun h => ?_)
    · have hlt := of_decide_eq_true h
      have hidx : (i : Int).toNat = i := by omega
      refine And.intro trivial (Spec.mono (basisVector_s i (by omega)) ?_)
      rintro r m ⟨rfl, rfl⟩
      (repeat (first | refine And.intro (by omega) ?_ | refine And.intro ⟨by omega, by omega⟩ ?_))
      refine Exists.intro (i + 1) (And.intro (by omega) (And.intro (by omega) (And.intro (And.intro rfl (And.intro rfl (And.intro rfl (And.intro (slotI (wrapS (by omega))) trivial)))) ?_)))
      refine And.intro (And.intro (rowEq fun _ _ => rfl) rfl) (And.intro (And.intro (rowEq fun q hq => ?_) rfl) trivial)
      show updR _ ((i : Int).toNat * 8 + 0) 8 (unitV (i : Int).toNat) q = _
      unfold updR
      rw [hidx]
      dsimp only
      by_cases h1 : i * 8 + 0 ≤ q ∧ q < i * 8 + 0 + 8
      · rw [if_pos h1, if_pos (by omega), show q / 8 = i by omega, show q - (i * 8 + 0) = q % 8 by omega]
      · rw [if_neg h1]
        by_cases h2 : q / 8 < i
        · rw [if_pos h2, if_pos (by omega)]
        · rw [if_neg h2, if_neg (by omega)]
    · have hge := of_decide_eq_false h
      obtain rfl : i = n := by omega
      (repeat (first | refine And.intro (by omega) ?_ | refine And.intro ⟨by omega, by omega⟩ ?_))
      refine rowEq fun q hq => ?_
      show updR _ 0 64 _ q = _
      simp [updR, hq, idF]

/-! ### sums over pairs -/
theorem prodF_sum {p : Int} (T v w : Nat → Int) (m : Nat) : prodF p T v w m = sumN 8 (fun a => w a * leftT p T v (a * 8 + m)) % p := by
  unfold prodF; rw [linS_sum]
theorem prodF_congr {p : Int} {T v v' w w' : Nat → Int} (hv : ∀ i, i < 8 → v i = v' i) (hw : ∀ i, i < 8 → w i = w' i) (m : Nat) : prodF p T v w m = prodF p T v' w' m := by
  rw [prodF_sum, prodF_sum]
  congr 1
  refine sumN_congr 8 fun a ha => ?_
  rw [hw a ha]
  congr 1
  unfold leftT rightF
  rw [linS_congr 8 fun i hi => by rw [hv i hi]]
theorem prodF_none {p : Int} {T v : Nat → Int} (hv : ∀ i, i < 8 → v i = 0) (w : Nat → Int) (m : Nat) : prodF p T v w m = 0 := by
  rw [prodF_sum, sumN_none 8 fun a ha => by
    have : leftT p T v (a * 8 + m) = 0 := by
      unfold leftT rightF
      rw [linS_sum, sumN_none 8 fun i hi => by rw [hv i hi]; simp]
      simp
    rw [this]; simp]
  simp
theorem sumN_unit (g : Nat → Int) (k : Nat) : ∀ n : Nat, sumN n (fun a => unitV k a * g a) = if k < n then g k else 0
  | 0 => by simp [sumN]
  | n + 1 => by
    show sumN n (fun a => unitV k a * g a) + unitV k n * g n = _
    rw [sumN_unit g k n]
    by_cases h1 : k < n
    · rw [if_pos h1, if_pos (by omega), show unitV k n = 0 by unfold unitV; rw [if_neg (by omega)]]; simp
    · rw [if_neg h1]
      by_cases h2 : k = n
      · subst h2; rw [if_pos (by omega), show unitV k k = 1 by unfold unitV; rw [if_pos rfl]]; simp
      · rw [if_neg (by omega), show unitV k n = 0 by unfold unitV; rw [if_neg (fun e => h2 e.symm)]]; simp
theorem prodF_unit {p : Int} (T v : Nat → Int) {k m : Nat} (hk : k < 8) : prodF p T v (unitV k) m = leftT p T v (k * 8 + m) % p := by
  rw [prodF_sum, sumN_unit, if_pos hk]
theorem sumN_modl (p : Int) (g : Nat → Int) (k : Nat) : sumN k (fun i => g i % p) % p = sumN k g % p := by
  have := sumN_mod p (fun _ => 1) g k
  simpa using this
theorem prodF_apply {p : Int} (T v F w : Nat → Int) (m : Nat) : prodF p T v (fun y => linS F w 8 y % p) m = sumN 8 (fun k => w k * prodF p T v (fun y => F (y + k * 8)) m) % p := by
  rw [prodF_sum]
  have e : sumN 8 (fun a => (linS F w 8 a % p) * leftT p T v (a * 8 + m)) % p = sumN 8 (fun a => linS F w 8 a * leftT p T v (a * 8 + m)) % p := by
    have := sumN_mod p (fun a => leftT p T v (a * 8 + m)) (fun a => linS F w 8 a) 8
    rw [sumN_congr (g := fun a => leftT p T v (a * 8 + m) * (linS F w 8 a % p)) 8 fun a _ => Int.mul_comm _ _, this]
    exact congrArg (· % p) (sumN_congr 8 fun a _ => Int.mul_comm _ _)
  rw [e, sumN_congr (g := fun a => sumN 8 fun k => w k * (F (a + k * 8) * leftT p T v (a * 8 + m))) 8 fun a _ => by
    rw [linS_sum, Int.mul_comm, sumN_mul]
    refine sumN_congr 8 fun k _ => ?_
    rw [show k * 8 + a = a + k * 8 by omega, Int.mul_comm, Int.mul_assoc]]
  have r : sumN 8 (fun k => w k * prodF p T v (fun y => F (y + k * 8)) m) % p = sumN 8 (fun k => w k * sumN 8 fun a => F (a + k * 8) * leftT p T v (a * 8 + m)) % p := by
    rw [← sumN_mod p w fun k => sumN 8 fun a => F (a + k * 8) * leftT p T v (a * 8 + m)]
    exact congrArg (· % p) (sumN_congr 8 fun k _ => by rw [prodF_sum])
  rw [r, sumN_swap]
  exact congrArg (· % p) (sumN_congr 8 fun k _ => (sumN_mul _ _ _).symm)
end Go.Proofs.YtjanlnngeklhoabGreat
