/- Texts in one: List, Put, Reduce, Ker, Meet, Meet2, Centre, Kern, Cen2, Cen3, Flat, Space, Dual2, Hop1, Null, Null2, Hop2. -/
import Derived.Test.YtjanlnngeklhoabGreatPe
set_option linter.unusedSimpArgs false
set_option linter.unusedVariables false
set_option linter.unusedSectionVars false
/- Reduced lists of vectors: what is left of a vector, and how a vector is put in. -/
set_option linter.unusedVariables false
set_option linter.unusedSimpArgs false
set_option maxRecDepth 100000
set_option maxHeartbeats 1000000
namespace Go.Proofs.YtjanlnngeklhoabGreat
open M

abbrev RedL (p : Int) (S : (Nat → Int) → Prop) (k : Nat) (A : Nat → Int) : Prop := Red p 8 S k (partF A 8) (fun i => first8 (partF A 8 i))
theorem red_first {p : Int} {S : (Nat → Int) → Prop} {k : Nat} {a : Nat → Nat → Int} {P : Nat → Nat} (h : Red p 8 S k a P) {i : Nat} (hi : i < k) : first8 (a i) = P i :=
  first8_is (by have := h.lt i hi; omega) (h.bef i hi) fun _ => by rw [h.one i hi]; decide
theorem redL_of {p : Int} {S : (Nat → Int) → Prop} {k : Nat} {a : Nat → Nat → Int} {P : Nat → Nat} {A : Nat → Int} (hS : Space p 8 S) (h : Red p 8 S k a P) (e : ∀ i, i < k → ∀ j, j < 8 → partF A 8 i j = a i j) : RedL p S k A := by
  have f : ∀ i, i < k → first8 (partF A 8 i) = P i := fun i hi => (first8_congr (e i hi)).trans (red_first h hi)
  refine ⟨fun i hi => hS.ext _ _ (h.mem i hi) (e i hi), fun i hi => by rw [f i hi]; exact h.lt i hi, fun i j hij hj => by rw [f i (by omega), f j hj]; exact h.inc i j hij hj, fun i hi => by rw [f i hi, e i hi _ (h.lt i hi)]; exact h.one i hi, fun i hi j hj => ?_, fun i j hi hj hij => by rw [f j hj, e i hi _ (h.lt j hj)]; exact h.oth i j hi hj hij, fun v hv h0 => h.all v hv fun i hi => by rw [← f i hi]; exact h0 i hi⟩
  rw [f i hi] at hj
  rw [e i hi j (by have := h.lt i hi; omega)]; exact h.bef i hi j hj
theorem red_k {p : Int} {S : (Nat → Int) → Prop} {k : Nat} {a : Nat → Nat → Int} {P : Nat → Nat} {w : Nat} (h : Red p w S k a P) : k ≤ w := by
  have ge : ∀ i, i < k → i ≤ P i := fun i => by
    induction i with
    | zero => intro _; exact Nat.zero_le _
    | succ i ih => intro hi; have := ih (by omega); have := h.inc i (i + 1) (by omega) hi; omega
  rcases Nat.lt_or_ge w k with hh | hh
  · have := ge w hh; have := h.lt w hh; omega
  · exact hh
theorem redL_tri {p k : Nat} {S : (Nat → Int) → Prop} {A : Nat → Int} (hS : Space p 8 S) (h : RedL p S k A) : Tri p k A :=
  ⟨fun q hq => by
    have := hS.range _ (h.mem (q / 8) (by omega)) (q % 8) (by omega)
    unfold partF at this
    rwa [show q % 8 + q / 8 * 8 = q by omega] at this, h.lt, h.one, fun t l h1 h2 => h.oth l t h2 (by omega) (by omega)⟩

/-- what is left of v -/
abbrev byV (p : Int) (A v : Nat → Int) (k : Nat) : Nat → Int := (liftV p A A v k).1
theorem by_dec {p : Nat} {A B v : Nat → Int} {r : Nat} (hp : 1 < p) {S : (Nat → Int) → Prop} (hS : Space p 8 S) (hA : ∀ l, l < r → S (partF A 8 l)) (hv : ∀ j, j < 8 → 0 ≤ v j ∧ v j < p) : ∀ k, k ≤ r → ∃ s, S s ∧ ∀ j, j < 8 → v j = (s j + (liftV p A B v k).1 j) % p
  | 0, _ => ⟨fun _ => 0, hS.zero _ fun _ _ => rfl, fun j hj => by show v j = (0 + v j) % p; rw [Int.zero_add, mod_id (hv j hj)]⟩
  | k + 1, hk => by
    obtain ⟨s, hs, e⟩ := by_dec (B := B) hp hS hA hv k (by omega)
    unfold liftV
    split
    · refine ⟨fun j => (s j + (liftV p A B v k).1 (first8 (partF A 8 k)) * partF A 8 k j) % p, hS.addc _ _ hs (hA k (by omega)) _, fun j hj => ?_⟩
      show v j = ((s j + (liftV p A B v k).1 (first8 (partF A 8 k)) * partF A 8 k j) % p + addM p _ _ _ j) % p
      rw [addM_at, mod_l, Int.add_comm _ ((_ + _) % (p : Int)), mod_l, e j hj]
      congr 1
      grind
    · exact ⟨s, hs, e⟩
/-- S and one more vector -/
structure AddTo (p : Int) (S : (Nat → Int) → Prop) (v : Nat → Int) (S' : (Nat → Int) → Prop) : Prop where
  sub : ∀ x, S x → S' x
  mem : S' v
  all : ∀ x, S' x → ∃ s c, S s ∧ ∀ j, j < 8 → x j = (s j + c * v j) % p
theorem addTo_sp {p : Int} {i : Nat} {V : Nat → Nat → Int} (hp : 0 < p) (hV : ∀ j, j < 8 → 0 ≤ V i j ∧ V i j < p) : AddTo p (Sp p 8 i V) (V i) (Sp p 8 (i + 1) V) := by
  have up : ∀ x, Sp p 8 i V x → Sp p 8 (i + 1) V x := fun x hx => by
    induction hx with
    | zero v h => exact .zero v h
    | add v u c l hl _ hu ih => exact .add v u c l (by omega) ih hu
  refine ⟨up, Sp.row (by omega) hV, fun x hx => ?_⟩
  induction hx with
  | zero v h => exact ⟨fun _ => 0, 0, .zero _ fun _ _ => rfl, fun j hj => by rw [h j hj]; simp⟩
  | add v u c l hl hv hu ih =>
    obtain ⟨s, d, hs, e⟩ := ih
    by_cases h : l = i
    · subst h
      exact ⟨s, d + c, hs, fun j hj => by rw [hu j hj, e j hj, mod_l]; congr 1; grind⟩
    · refine ⟨fun j => (s j + c * V l j) % p, d, .add s _ c l (by omega) hs fun _ _ => rfl, fun j hj => ?_⟩
      show u j = ((s j + c * V l j) % p + d * V i j) % p
      rw [hu j hj, e j hj, mod_l, mod_l]; congr 1; grind
/-- nothing is left: the list stays -/
theorem put_same {p k : Nat} {S S' : (Nat → Int) → Prop} {A v : Nat → Int} (hp : 1 < p) (hS : Space p 8 S) (h : RedL p S k A) (ha : AddTo p S v S') (hv : ∀ j, j < 8 → 0 ≤ v j ∧ v j < p) (hz : ∀ j, j < 8 → byV p A v k j = 0) : RedL p S' k A := by
  have hvS : S v := by
    obtain ⟨s, hs, e⟩ := by_dec (B := A) hp hS (fun l hl => h.mem l hl) hv k (Nat.le_refl _)
    refine hS.ext _ _ hs fun j hj => ?_
    rw [e j hj, show (liftV p A A v k).1 j = 0 from hz j hj, Int.add_zero, mod_id (hS.range _ hs j hj)]
  refine h.of_iff fun x => ⟨ha.sub x, fun hx => ?_⟩
  obtain ⟨s, c, hs, e⟩ := ha.all x hx
  exact hS.ext _ _ (hS.addc _ _ hs hvS c) e

/-- where a place comes among those of the rows -/
theorem place_in {k a : Nat} {P : Nat → Nat} (inc : ∀ i j, i < j → j < k → P i < P j) (ne : ∀ i, i < k → P i ≠ a) : ∃ t, t ≤ k ∧ (∀ i, i < t → P i < a) ∧ ∀ i, t ≤ i → i < k → a < P i := by
  induction k with
  | zero => exact ⟨0, Nat.le_refl _, fun i hi => absurd hi (Nat.not_lt_zero _), fun i _ hi => absurd hi (Nat.not_lt_zero _)⟩
  | succ k ih =>
    obtain ⟨t, ht, h1, h2⟩ := ih (fun i j hij hj => inc i j hij (by omega)) fun i hi => ne i (by omega)
    by_cases e : t = k
    · subst e
      have := ne t (by omega)
      by_cases g : P t < a
      · exact ⟨t + 1, Nat.le_refl _, fun i hi => by
          by_cases e : i = t
          · subst e; exact g
          · exact h1 i (by omega), fun i h3 h4 => by omega⟩
      · exact ⟨t, by omega, h1, fun i h3 h4 => by
          obtain rfl : i = t := by omega
          omega⟩
    · refine ⟨t, by omega, h1, fun i h3 h4 => ?_⟩
      by_cases e : i = k
      · subst e; have := h2 t (Nat.le_refl _) (by omega); have := inc t i (by omega) h4; omega
      · exact h2 i h3 (by omega)
/-- the new rows -/
def putR (p : Int) (A w : Nat → Int) (a t : Nat) : Nat → Nat → Int := fun j => if j < t then addM p (partF A 8 j) (-(partF A 8 j a)) w else if j = t then w else addM p (partF A 8 (j - 1)) (-(partF A 8 (j - 1) a)) w
theorem put_red {p k : Nat} {S S' : (Nat → Int) → Prop} {A v : Nat → Int} {y : Int} {t : Nat} (hp : 1 < p) (hS : Space p 8 S) (hS' : Space p 8 S') (h : RedL p S k A) (ha : AddTo p S v S') (hv : ∀ j, j < 8 → 0 ≤ v j ∧ v j < p)
    (h8 : first8 (byV p A v k) < 8) (hy : y * byV p A v k (first8 (byV p A v k)) % p = 1) (htk : t ≤ k) (ht1 : ∀ i, i < t → first8 (partF A 8 i) < first8 (byV p A v k)) (ht2 : ∀ i, t ≤ i → i < k → first8 (byV p A v k) < first8 (partF A 8 i)) :
    Red p 8 S' (k + 1) (putR p A (addM p (fun _ => 0) y (byV p A v k)) (first8 (byV p A v k)) t) (fun j => if j < t then first8 (partF A 8 j) else if j = t then first8 (byV p A v k) else first8 (partF A 8 (j - 1))) := by
  have htri := redL_tri hS h
  obtain ⟨s0, hs0, hdec⟩ := by_dec (B := A) hp hS (fun l hl => h.mem l hl) hv k (Nat.le_refl _)
  have hat := liftV_at (B := A) (v := v) hp htri k (Nat.le_refl _)
  have huS' : S' (byV p A v k) := by
    have := liftV_in (B := A) (v := v) hp hS' (fun l hl => ha.sub _ (h.mem l hl)) ha.mem k (Nat.le_refl _)
    exact this
  have hur := hS'.range _ huS'
  have hu0 : ∀ j, j < first8 (byV p A v k) → byV p A v k j = 0 := by
    rcases first8_spec (byV p A v k) with ⟨g, _⟩ | ⟨_, _, g⟩
    · omega
    · exact g
  change ∀ t, t < k → byV p A v k (first8 (partF A 8 t)) = 0 at hat
  change ∀ j, j < 8 → v j = (s0 j + byV p A v k j) % p at hdec
  generalize byV p A v k = u at *
  generalize first8 u = a at *
  have hw : ∀ j, addM p (fun _ => 0) y u j = y * u j % p := fun j => by rw [addM_at, Int.zero_add]
  have hwS : S' (addM p (fun _ => 0) y u) := hS'.addc _ _ (hS'.zero (fun _ => 0) fun _ _ => rfl) huS' y
  have hwa : addM p (fun _ => 0) y u a = 1 := by rw [hw]; exact hy
  have hwP : ∀ i, i < k → addM p (fun _ => 0) y u (first8 (partF A 8 i)) = 0 := fun i hi => by rw [hw, hat i hi]; simp
  have hw0 : ∀ j, j < a → addM p (fun _ => 0) y u j = 0 := fun j hj => by rw [hw, hu0 j hj]; simp
  generalize addM p (fun _ => 0) y u = w at *
  have row : ∀ i, i < k → ∀ j, j < 8 → 0 ≤ partF A 8 i j ∧ partF A 8 i j < p := fun i hi => htri.row hi
  -- a row less its multiple
  have lessP : ∀ i, i < k → ∀ j, j < k → addM p (partF A 8 i) (-(partF A 8 i a)) w (first8 (partF A 8 j)) = partF A 8 i (first8 (partF A 8 j)) := fun i hi j hj => by
    rw [addM_at, hwP j hj, Int.mul_zero, Int.add_zero, mod_id (row i hi _ (h.lt j hj))]
  have lessa : ∀ i, addM p (partF A 8 i) (-(partF A 8 i a)) w a = 0 := fun i => by rw [addM_at, hwa, Int.mul_one, Int.add_right_neg, Int.zero_emod]
  have less0 : ∀ i, i < k → ∀ j, j < first8 (partF A 8 i) → addM p (partF A 8 i) (-(partF A 8 i a)) w j = 0 := fun i hi j hj => by
    rw [addM_at, h.bef i hi j hj]
    by_cases g : j < a
    · rw [hw0 j g]; simp
    · rw [h.bef i hi a (by omega)]; simp
  have hpr : ∀ j, j < k + 1 → (j < t ∧ j < k) ∨ j = t ∨ (t < j ∧ j - 1 < k ∧ t ≤ j - 1) := fun j hj => by omega
  have eR1 : ∀ j, j < t → putR p A w a t j = addM p (partF A 8 j) (-(partF A 8 j a)) w := fun j hj => by unfold putR; rw [if_pos hj]
  have eR2 : putR p A w a t t = w := by unfold putR; rw [if_neg (Nat.lt_irrefl _), if_pos rfl]
  have eR3 : ∀ j, t < j → putR p A w a t j = addM p (partF A 8 (j - 1)) (-(partF A 8 (j - 1) a)) w := fun j hj => by unfold putR; rw [if_neg (by omega), if_neg (by omega)]
  let P : Nat → Nat := fun j => if j < t then first8 (partF A 8 j) else if j = t then a else first8 (partF A 8 (j - 1))
  have eP1 : ∀ j, j < t → P j = first8 (partF A 8 j) := fun j hj => by show (if j < t then _ else _) = _; rw [if_pos hj]
  have eP2 : P t = a := by show (if t < t then _ else if t = t then _ else _) = _; rw [if_neg (Nat.lt_irrefl _), if_pos rfl]
  have eP3 : ∀ j, t < j → P j = first8 (partF A 8 (j - 1)) := fun j hj => by show (if j < t then _ else if j = t then _ else _) = _; rw [if_neg (by omega), if_neg (by omega)]
  show Red p 8 S' (k + 1) _ P
  have memA : ∀ i, i < k → S' (addM p (partF A 8 i) (-(partF A 8 i a)) w) := fun i hi => hS'.addc _ _ (ha.sub _ (h.mem i hi)) hwS _
  refine ⟨fun j hj => ?_, fun j hj => ?_, fun i j hij hj => ?_, fun j hj => ?_, fun j hj q hq => ?_, fun i j hi hj hij => ?_, fun x hx h0 => ?_⟩
  · rcases hpr j hj with ⟨g, _⟩ | rfl | ⟨g, g2, _⟩
    · rw [eR1 j g]; exact memA j (by omega)
    · rw [eR2]; exact hwS
    · rw [eR3 j g]; exact memA _ g2
  · rcases hpr j hj with ⟨g, _⟩ | rfl | ⟨g, g2, _⟩
    · rw [eP1 j g]; exact h.lt j (by omega)
    · rw [eP2]; exact h8
    · rw [eP3 j g]; exact h.lt _ g2
  · rcases hpr i (by omega) with ⟨g, _⟩ | g | ⟨g, g2, g3⟩
    · rw [eP1 i g]
      rcases hpr j hj with ⟨f, _⟩ | f | ⟨f, f2, f3⟩
      · rw [eP1 j f]; exact h.inc i j hij (by omega)
      · rw [f, eP2]; exact ht1 i g
      · rw [eP3 j f]; have := ht1 i g; have := ht2 (j - 1) f3 f2; omega
    · rw [g, eP2, eP3 j (by omega)]
      exact ht2 (j - 1) (by omega) (by omega)
    · rw [eP3 i g, eP3 j (by omega)]; exact h.inc _ _ (by omega) (by omega)
  · rcases hpr j hj with ⟨g, _⟩ | g | ⟨g, g2, g3⟩
    · rw [eP1 j g, eR1 j g, lessP j (by omega) j (by omega)]; exact h.one j (by omega)
    · rw [g, eP2, eR2]; exact hwa
    · rw [eP3 j g, eR3 j g, lessP _ g2 _ g2]; exact h.one _ g2
  · rcases hpr j hj with ⟨g, _⟩ | g | ⟨g, g2, g3⟩
    · rw [eP1 j g] at hq; rw [eR1 j g]; exact less0 j (by omega) q hq
    · rw [g, eP2] at hq; rw [g, eR2]; exact hw0 q hq
    · rw [eP3 j g] at hq; rw [eR3 j g]; exact less0 _ g2 q hq
  · rcases hpr i hi with ⟨g, _⟩ | g | ⟨g, g2, g3⟩
    · rw [eR1 i g]
      rcases hpr j hj with ⟨f, _⟩ | f | ⟨f, f2, f3⟩
      · rw [eP1 j f, lessP i (by omega) j (by omega)]; exact h.oth i j (by omega) (by omega) hij
      · rw [f, eP2]; exact lessa i
      · rw [eP3 j f, lessP i (by omega) _ f2]; exact h.oth i _ (by omega) f2 (by omega)
    · rw [g, eR2]
      rcases hpr j hj with ⟨f, _⟩ | f | ⟨f, f2, f3⟩
      · rw [eP1 j f]; exact hwP j (by omega)
      · omega
      · rw [eP3 j f]; exact hwP _ f2
    · rw [eR3 i g]
      rcases hpr j hj with ⟨f, _⟩ | f | ⟨f, f2, f3⟩
      · rw [eP1 j f, lessP _ g2 j (by omega)]; exact h.oth _ j g2 (by omega) (by omega)
      · rw [f, eP2]; exact lessa _
      · rw [eP3 j f, lessP _ g2 _ f2]; exact h.oth _ _ g2 f2 (by omega)
  · have hxP : ∀ i, i < k → x (first8 (partF A 8 i)) = 0 := fun i hi => by
      by_cases g : i < t
      · have := h0 i (by omega); rwa [eP1 i g] at this
      · have := h0 (i + 1) (by omega); rwa [eP3 (i + 1) (by omega), Nat.add_sub_cancel] at this
    have hxa : x a = 0 := by have := h0 t (by omega); rwa [eP2] at this
    obtain ⟨s, c, hs, e⟩ := ha.all x hx
    have hs' : S fun j => (s j + c * s0 j) % p := hS.addc _ _ hs hs0 c
    have e' : ∀ j, j < 8 → x j = ((s j + c * s0 j) % p + c * u j) % p := fun j hj => by
      rw [e j hj, hdec j hj, mod_in, mod_l]; congr 1; grind
    have hz : ∀ j, j < 8 → (s j + c * s0 j) % p = 0 := h.all _ hs' fun i hi => by
      have := e' _ (h.lt i hi)
      rw [hxP i hi, hat i hi, Int.mul_zero, Int.add_zero, mod_id (hS.range _ hs' _ (h.lt i hi))] at this
      exact this.symm
    have hca : c * u a % p = 0 := by have := e' a h8; rw [hxa, hz a h8, Int.zero_add] at this; exact this.symm
    have hc : c % p = 0 := by
      have g := mod_in p 0 (y * u a) c
      rw [hy, Int.mul_one, Int.zero_add, Int.zero_add] at g
      rw [g, show c * (y * u a) = y * (c * u a) by grind]
      have g2 := mod_in p 0 (c * u a) y
      rw [hca, Int.mul_zero, Int.zero_add, Int.zero_emod, Int.zero_add] at g2
      exact g2.symm
    intro j hj
    obtain ⟨d, hd⟩ := Int.dvd_of_emod_eq_zero hc
    rw [e' j hj, hz j hj, Int.zero_add, hd, Int.mul_assoc, Int.mul_emod_right]
end Go.Proofs.YtjanlnngeklhoabGreat

/- The model's reduced lists: what is left of a vector, and how it is put in. -/
set_option linter.unusedVariables false
set_option linter.unusedSimpArgs false
set_option maxRecDepth 100000
set_option maxHeartbeats 4000000
namespace Go.Proofs.YtjanlnngeklhoabGreat
open M

theorem l01By_s (p k cap : Nat) (A v : Nat → Int) (hp2 : 2 ≤ p ∧ p ≤ 31) (hk : k ≤ 8) (hA : rngR p k A) (hf : ∀ l, l < k → first8 (partF A 8 l) < 8) (hv : ∀ j, j < 8 → 0 ≤ v j ∧ v j < p) :
    Spec Tryz.prog 44 [.int .i64 p, .ints .u8 8 v, .sl 0 0 k cap] [some (.ints .u8 (k * 8) A, cap * 8)] (fun r m => r = .ints .u8 8 (byV p A v k) ∧ m = [some (.ints .u8 (k * 8) A, cap * 8)]) := by
  have hp0 : (0 : Int) < p ∧ (p : Int) < 256 := by omega
  refine Spec.cut (Nat.le_refl _) (by simp [SV.ids]) (fun id u c hb => by cases id <;> cases hb; simp [SV.ids]) (Spec.of_vc tabOK tabEq Tryz.func44 rfl (by kernel_rfl) rfl rfl ?_)
  have hr := liftV_rng (p := p) (A := A) (B := A) (by omega) hv
  have hrd : ∀ k, (liftV p A A v (k + 1)).1 = if (liftV p A A v k).1 (first8 (partF A 8 k)) ≠ 0 then addM p (liftV p A A v k).1 (-((liftV p A A v k).1 (first8 (partF A 8 k)))) (partF A 8 k) else (liftV p A A v k).1 := fun k => by
    show (if _ then (_, _) else liftV p A A v k : (Nat → Int) × (Nat → Int)).1 = _
    split <;> rfl
  have hr0 : (liftV p A A v 0).1 = v := rfl
  have hbd : byV p A v k = (liftV p A A v k).1 := rfl
  rw [hbd]
  generalize liftV p A A v = V at *
  refine LoopVC.of (fun i : Nat => i ≤ k) (fun i => [(0, .int .i64 p), (2, .sl 0 0 k cap), (4, .ptr 1 [] 0 0), (6, .ptr 2 [] 0 0), (7, .int .i64 i)])
    (fun i => [some (.ints .u8 (k * 8) A, cap * 8), some (.ints .u8 8 (V i).1, 8), some (.ints .u8 8 fun _ => 0, 8)]) (fun i => k - i) 0 (Nat.zero_le _) ?_ ?_ ?_
  · exact (And.intro rfl (And.intro rfl (And.intro rfl (And.intro rfl (And.intro rfl (trivial))))))
  · exact And.intro (And.intro (rowEq fun _ _ => rfl) rfl) (And.intro (And.intro (rowEq fun j hj => by rw [hr0]) rfl) (And.intro (And.intro (rowEq fun _ _ => rfl) rfl) trivial))
  · intro i hi
    refine ifVC_split (fun hh => ?_) (fun hh => ?_)
    · have hik : i < k := by have := of_decide_eq_true hh; omega
      have hkx : (i : Int).toNat * 8 + 0 = i * 8 := by omega
      (repeat (first | refine And.intro (by omega) ?_ | refine And.intro ⟨by omega, by omega⟩ ?_))
      have hat : first8 (fun j => A (j + ((i : Int).toNat * 8 + 0))) = first8 (partF A 8 i) := by rw [hkx]; rfl
      refine And.intro trivial (Spec.mono (l01First_s _) ?_)
      rintro _ _ ⟨rfl, rfl⟩
      rw [hat]
      have h8 := hf i hik
      have hrdk := hrd i
      generalize first8 (partF A 8 i) = a0 at *
      (repeat (first | refine And.intro (by omega) ?_ | refine And.intro ⟨by omega, by omega⟩ ?_))
      have hax : (a0 : Int).toNat * 1 + 0 = a0 := by omega
      have hv0 := (hr i).1 a0 h8
      refine ifVC_split (fun hz => ?_) (fun hz => ?_)
      · have hz : (V i).1 a0 ≠ 0 := by
          have hz : ((V i).1 ((a0 : Int).toNat * 1 + 0) != 0) = true := hz
          rw [hax] at hz; simpa using hz
        rw [if_pos hz] at hrdk
        have hpos : IntKind.i64.wrap ((V i).1 ((a0 : Int).toNat * 1 + 0)) = (V i).1 a0 := by rw [hax]; exact wrapI (x := (V i).1 a0) (by omega)
        have hneg : IntKind.i64.wrap (0 - IntKind.i64.wrap ((V i).1 ((a0 : Int).toNat * 1 + 0))) = -((V i).1 a0) := by
          rw [hpos, wrapI (by omega)]; omega
        refine Exists.intro 11 (And.intro (by kernel_rfl) ?_)
        (repeat (first | refine And.intro (by omega) ?_ | refine And.intro ⟨by omega, by omega⟩ ?_))
        refine And.intro trivial (Spec.mono (l01Add_s p _ _ _ hp0 (by rw [hneg]; omega) (fun j hj => by have := (hr i).1 (j + 0) (by omega); omega) (fun j hj => by have := hA (j + ((i : Int).toNat * 8 + 0)) (by omega); omega)) ?_)
        rintro _ _ ⟨rfl, rfl⟩
        (repeat (first | refine And.intro (by omega) ?_ | refine And.intro ⟨by omega, by omega⟩ ?_))
        refine Exists.intro (i + 1) (And.intro (by omega) (And.intro (by omega) (And.intro (And.intro rfl (And.intro rfl (And.intro rfl (And.intro rfl (And.intro (slotI (wrapS (by omega))) trivial))))) ?_)))
        refine And.intro (And.intro (rowEq fun _ _ => rfl) rfl) (And.intro (And.intro (rowEq fun j hj => ?_) rfl) (And.intro (And.intro (rowEq fun _ _ => rfl) rfl) trivial))
        rw [hrdk]
        show updR _ 0 8 (addM p _ _ _) j = addM p _ _ _ j
        unfold updR
        rw [if_pos (by omega)]
        unfold addM
        rw [hneg, hkx]
        rfl
      · have hz : (V i).1 a0 = 0 := by
          have hz : ((V i).1 ((a0 : Int).toNat * 1 + 0) != 0) = false := hz
          rw [hax] at hz; simpa using hz
        rw [if_neg (fun e => e hz)] at hrdk
        refine Exists.intro (i + 1) (And.intro (by omega) (And.intro (by omega) (And.intro (And.intro rfl (And.intro rfl (And.intro rfl (And.intro rfl (And.intro (slotI (wrapS (by omega))) trivial))))) ?_)))
        exact And.intro (And.intro (rowEq fun _ _ => rfl) rfl) (And.intro (And.intro (rowEq fun j hj => by rw [hrdk]) rfl) (And.intro (And.intro (rowEq fun _ _ => rfl) rfl) trivial))
    · have hik : i = k := by have := of_decide_eq_false hh; omega
      subst hik
      (repeat (first | refine And.intro (by omega) ?_ | refine And.intro ⟨by omega, by omega⟩ ?_))
      refine And.intro (rowEq fun j hj => ?_) (And.intro (And.intro (rowEq fun _ _ => rfl) rfl) trivial)
      show updR _ 0 8 _ j = _
      simp [updR, hj]

/-- what comes out of l01Put: the list itself, or the new one -/
def PutU (p k cap : Nat) (A u : Nat → Int) (a : Nat) (r : SV) (m : Mem) : Prop :=
  ((∀ j, j < 8 → u j = 0) ∧ r = .sl 0 0 k cap ∧ ∃ g, m = [some (.ints .u8 (k * 8) A, cap * 8), g]) ∨
  (∃ t y cap' F, t ≤ k ∧ (∀ i, i < t → first8 (partF A 8 i) < a) ∧ (∀ i, t ≤ i → i < k → a < first8 (partF A 8 i)) ∧ a < 8 ∧ y * u a % p = 1 ∧
    (∀ q, q < (k + 1) * 8 → F q = putR p A (addM p (fun _ => 0) y u) a t (q / 8) (q % 8)) ∧ k + 1 ≤ cap' ∧
    r = .sl 2 0 (k + 1) cap' ∧ ∃ g rest, m = some (.ints .u8 (k * 8) A, cap * 8) :: g :: some (.ints .u8 ((k + 1) * 8) F, cap' * 8) :: rest)
def PutQ (p k cap : Nat) (A v : Nat → Int) (r : SV) (m : Mem) : Prop := PutU p k cap A (byV p A v k) (first8 (byV p A v k)) r m

theorem slotB {x y : Bool} (h : x = y) : SV.eqv (.bool x) (.bool y) := congrArg SV.bool h
def lenP (t i : Nat) : Nat := if i ≤ t then i else i + 1
theorem lenP_le {t i : Nat} (h : i ≤ t) : lenP t i = i := if_pos h
theorem lenP_gt {t i : Nat} (h : t < i) : lenP t i = i + 1 := if_neg (by omega)

theorem l01Put_s (p k cap : Nat) (S : (Nat → Int) → Prop) (A v : Nat → Int) (hp : primeB (p : Int) = true) (hp2 : 2 ≤ p ∧ p ≤ 31) (hS : Space p 8 S) (h : RedL p S k A) (hv : ∀ j, j < 8 → 0 ≤ v j ∧ v j < p) :
    Spec Tryz.prog 27 [.int .i64 p, .sl 0 0 k cap, .ints .u8 8 v] [some (.ints .u8 (k * 8) A, cap * 8)] (PutQ p k cap A v) := by
  have hp0 : (0 : Int) < p ∧ (p : Int) < 256 := by omega
  have hk := red_k h
  have htri := redL_tri hS h
  have hA := htri.rng
  refine (Spec.of_vc tabOK tabEq Tryz.func27 rfl (by kernel_rfl) rfl rfl ?_)
  (repeat (first | refine And.intro (by omega) ?_ | refine And.intro ⟨by omega, by omega⟩ ?_))
  refine And.intro (And.intro rfl trivial) (Spec.mono (l01By_s p k cap A v hp2 hk hA htri.fst hv) ?_)
  rintro _ _ ⟨rfl, rfl⟩
  have hur := (liftV_rng (p := p) (A := A) (B := A) (by omega) hv k).1
  have hat := liftV_at (B := A) (v := v) (show 1 < p by omega) htri k (Nat.le_refl _)
  change ∀ j, j < 8 → 0 ≤ byV p A v k j ∧ byV p A v k j < p at hur
  change ∀ t, t < k → byV p A v k (first8 (partF A 8 t)) = 0 at hat
  unfold PutQ
  generalize byV p A v k = u at *
  have hup : ∀ j, j < 8 → updR v 0 (8 * 1) u (j + 0) = u j := fun j hj => by simp [updR, hj]
  have hfu : first8 (fun j => updR v 0 (8 * 1) u (j + 0)) = first8 u := first8_congr hup
  (repeat (first | refine And.intro (by omega) ?_ | refine And.intro ⟨by omega, by omega⟩ ?_))
  refine And.intro trivial (Spec.mono (l01ZeroS_s _) ?_)
  rintro _ _ ⟨rfl, rfl⟩
  refine ifVC_split (fun hz => ?_) (fun hz => ?_)
  · exact Or.inl ⟨fun j hj => by rw [← hup j hj]; exact allEq_get hz hj, rfl, _, rfl⟩
  have h8 : first8 u < 8 ∧ u (first8 u) ≠ 0 := by
    rcases first8_spec u with ⟨h1, h2⟩ | h
    · have : allEq 8 (fun j => updR v 0 (8 * 1) u (j + 0)) (fun _ => 0) = true := List.all_eq_true.2 fun j hj => beq_iff_eq.2 (by have hj := List.mem_range.1 hj; exact (hup j hj).trans (h2 j hj))
      rw [this] at hz; cases hz
    · exact ⟨h.1, h.2.1⟩
  obtain ⟨t, htk, ht1, ht2⟩ := place_in (a := first8 u) h.inc (fun i hi e => h8.2 (by have := hat i hi; rwa [show first8 (partF A 8 i) = first8 u from e] at this))
  have hx := hur _ h8.1
  have hx0 : 0 < (u (first8 u)).toNat ∧ (u (first8 u)).toNat < p := by omega
  obtain ⟨i0, i1, i2, _⟩ := invN_spec hp hp2 hx0
  have i2 : (invN p (u (first8 u)).toNat : Int) * u (first8 u) % p = 1 := by
    have e1 : u (first8 u) = ((u (first8 u)).toNat : Int) := by omega
    generalize (u (first8 u)).toNat = x at *
    rw [e1]
    exact_mod_cast i2
  (repeat (first | refine And.intro (by omega) ?_ | refine And.intro ⟨by omega, by omega⟩ ?_))
  refine And.intro trivial (Spec.mono (l01First_s _) ?_)
  rintro _ _ ⟨rfl, rfl⟩
  rw [hfu]
  have h81 := h8.1
  have hxe : (u (first8 u)) = ((u (first8 u)).toNat : Int) := by omega
  generalize hx0d : (u (first8 u)).toNat = x0 at *
  have hua : updR v 0 (8 * 1) u ((first8 u : Int).toNat * 1 + 0) = x0 := by rw [show (first8 u : Int).toNat * 1 + 0 = first8 u + 0 by omega, hup _ h81]; exact hxe
  refine Exists.intro 9 (And.intro (by kernel_rfl) ?_)
  (repeat (first | refine And.intro (by omega) ?_ | refine And.intro ⟨by omega, by omega⟩ ?_))
  refine Exists.intro (.int .u8 (invN p x0)) (And.intro (And.intro rfl (And.intro rfl (Spec.mono (show Spec Tryz.prog 48 [.int .i64 p, .int .u8 (updR v 0 (8 * 1) u ((first8 u : Int).toNat * 1 + 0))] [] (Ret (.int .u8 (invN p x0))) by rw [hua]; exact l01Inverse_s p x0 hp hp2 hx0) fun r m h => h.1))) ?_)
  (repeat (first | refine And.intro (by omega) ?_ | refine And.intro ⟨by omega, by omega⟩ ?_))
  have hw1 : IntKind.i64.wrap (invN p x0 : Int) = invN p x0 := wrapI (by omega)
  refine And.intro trivial (Spec.mono (l01Add_s p _ _ _ hp0 (by rw [hw1]; omega) (fun j _ => by show (0 : Int) ≤ 0 ∧ (0 : Int) < 256; decide) (fun j hj => by rw [hup j hj]; have := hur j hj; omega)) ?_)
  rintro _ _ ⟨rfl, rfl⟩
  rw [hw1]
  have hWv : ∀ j, j < 8 → updR (updR v 0 (8 * 1) u) 0 (8 * 1) (addM p (fun _ => 0) (invN p x0) fun j => updR v 0 (8 * 1) u (j + 0)) j = addM p (fun _ => 0) (invN p x0) u j := fun j hj => by
    unfold updR
    rw [if_pos (by omega), addM_at, addM_at, if_pos (by omega)]
    rfl
  have hNW : ∀ t j q, q < 8 → putR p A (updR (updR v 0 (8 * 1) u) 0 (8 * 1) (addM p (fun _ => 0) (invN p x0) fun j => updR v 0 (8 * 1) u (j + 0))) (first8 u) t j q = putR p A (addM p (fun _ => 0) (invN p x0) u) (first8 u) t j q := fun t j q hq => by
    unfold putR
    split
    · rw [addM_at, addM_at, hWv q hq]
    · split
      · exact hWv q hq
      · rw [addM_at, addM_at, hWv q hq]
  have hWr : ∀ j, j < 8 → 0 ≤ updR (updR v 0 (8 * 1) u) 0 (8 * 1) (addM p (fun _ => 0) (invN p x0) fun j => updR v 0 (8 * 1) u (j + 0)) j ∧ updR (updR v 0 (8 * 1) u) 0 (8 * 1) (addM p (fun _ => 0) (invN p x0) fun j => updR v 0 (8 * 1) u (j + 0)) j < p := fun j hj => by rw [hWv j hj]; exact addM_rng (by omega) _ _ _ _
  (repeat (first | refine And.intro (by omega) ?_ | refine And.intro ⟨by omega, by omega⟩ ?_))
  have goal : ∀ F c', k + 1 ≤ c' → (∀ q, q < (k + 1) * 8 → F q = putR p A (updR (updR v 0 (8 * 1) u) 0 (8 * 1) (addM p (fun _ => 0) (invN p x0) fun j => updR v 0 (8 * 1) u (j + 0))) (first8 u) t (q / 8) (q % 8)) → ∀ g rest,
      PutU p k cap A u (first8 u) (.sl 2 0 (k + 1) c') (some (SV.ints .u8 (k * 8) A, cap * 8) :: g :: some (.ints .u8 ((k + 1) * 8) F, c' * 8) :: rest) :=
    fun F c' hc hF g rest => .inr ⟨t, invN p x0, c', F, htk, ht1, ht2, h81, i2, fun q hq => (hF q hq).trans (hNW t _ _ (by omega)), hc, rfl, g, rest, rfl⟩
  generalize hWd : updR (updR v 0 (8 * 1) u) 0 (8 * 1) (addM p (fun _ => 0) (invN p x0) fun j => updR v 0 (8 * 1) u (j + 0)) = W at *
  have ha1 := h81
  generalize first8 u = a at *
  refine LoopVC.of (fun x : Nat × Nat × (Nat → Int) => x.1 ≤ k ∧ (lenP t x.1) ≤ x.2.1 ∧ ∀ q, q < (lenP t x.1) * 8 → x.2.2 q = putR p A W a t (q / 8) (q % 8))
    (fun x => [(0, .int .i64 p), (1, .sl 0 0 k cap), (5, .ptr 1 [] 0 0), (7, .int .i64 a), (8, .sl 2 0 (lenP t x.1) x.2.1), (9, .bool (decide (t < x.1))), (10, .int .i64 x.1)])
    (fun x => [some (.ints .u8 (k * 8) A, cap * 8), some (.ints .u8 8 W, 8), some (.ints .u8 ((lenP t x.1) * 8) x.2.2, x.2.1 * 8)]) (fun x => k - x.1) (0, 0, fun _ => 0) ⟨Nat.zero_le _, by show lenP t 0 ≤ 0; rw [lenP_le (Nat.zero_le _)]; omega, fun q hq => by have hq : q < lenP t 0 * 8 := hq; rw [lenP_le (Nat.zero_le _)] at hq; omega⟩ ?_ ?_ ?_
  · refine And.intro rfl (And.intro rfl (And.intro rfl (And.intro rfl (And.intro ?_ (And.intro ?_ (And.intro rfl trivial))))))
    · show SV.sl 2 0 0 0 = .sl 2 0 (lenP t 0) 0
      rw [lenP_le (Nat.zero_le _)]
    · show SV.bool false = .bool (decide (t < 0))
      rw [decide_eq_false (Nat.not_lt_zero _)]
  · refine And.intro (And.intro (rowEq fun _ _ => rfl) rfl) (And.intro (And.intro (rowEq fun j hj => ?_) rfl) (And.intro (And.intro ?_ rfl) trivial))
    · rw [← hWd]
    · show (SV.ints .u8 0 _).eqv (.ints .u8 (lenP t 0 * 8) fun _ => 0)
      rw [lenP_le (Nat.zero_le _)]
      exact ⟨⟨rfl, rfl⟩, fun j hj => by omega⟩
  · rintro ⟨i, c, F⟩ ⟨hi, hc, hF⟩
    dsimp only at hi hc hF
    refine ifVC_split (fun hh => ?_) (fun hh => ?_)
    · have hik : i < k := by have := of_decide_eq_true hh; omega
      have hix : (i : Int).toNat * 8 + 0 = i * 8 := by omega
      have hax : (a : Int).toNat * 1 + 0 = a := by omega
      have hneg : IntKind.i64.wrap (0 - IntKind.i64.wrap (A ((a : Int).toNat * 1 + ((i : Int).toNat * 8 + 0)))) = -(partF A 8 i a) := by
        have := hA (a + i * 8) (by omega)
        rw [show (a : Int).toNat * 1 + ((i : Int).toNat * 8 + 0) = a + i * 8 by omega, wrapI (x := A (a + i * 8)) (by omega), wrapI (by omega)]
        show _ = -(A (a + i * 8)); omega
      have hra := hA (a + i * 8) (by omega)
      have hra : 0 ≤ partF A 8 i a ∧ partF A 8 i a < p := hra
      have hAi : ∀ j, A (j + ((i : Int).toNat * 8 + 0)) = partF A 8 i j := fun j => by show _ = A (j + i * 8); congr 1
      have fin : ∀ (len' c' : Nat) (F' : Nat → Int), len' = lenP t (i + 1) → len' ≤ c' → (∀ q, q < len' * 8 → F' q = putR p A W a t (q / 8) (q % 8)) → ∀ sl mm, subL [(0, .int .i64 p), (1, .sl 0 0 k cap), (5, .ptr 1 [] 0 0), (7, .int .i64 a), (8, .sl 2 0 len' c'), (9, .bool (decide (t < i + 1))), (10, .int .i64 ((i + 1 : Nat) : Int))] sl →
          memCut mm [some (.ints .u8 (k * 8) A, cap * 8), some (.ints .u8 8 W, 8), some (.ints .u8 (len' * 8) F', c' * 8)] →
          ∃ x : Nat × Nat × (Nat → Int), (x.1 ≤ k ∧ (lenP t x.1) ≤ x.2.1 ∧ ∀ q, q < (lenP t x.1) * 8 → x.2.2 q = putR p A W a t (q / 8) (q % 8)) ∧ k - x.1 < k - i ∧
            subL [(0, .int .i64 p), (1, .sl 0 0 k cap), (5, .ptr 1 [] 0 0), (7, .int .i64 a), (8, .sl 2 0 (lenP t x.1) x.2.1), (9, .bool (decide (t < x.1))), (10, .int .i64 x.1)] sl ∧
            memCut mm [some (.ints .u8 (k * 8) A, cap * 8), some (.ints .u8 8 W, 8), some (.ints .u8 ((lenP t x.1) * 8) x.2.2, x.2.1 * 8)] := by
        rintro len' c' F' rfl g1 g2 sl mm g3 g4
        exact ⟨(i + 1, c', F'), ⟨hik, g1, g2⟩, by show k - (i + 1) < k - i; omega, g3, g4⟩
      refine ifVC_split (fun hp => ?_) (fun hp => ?_)
      · have hp : i ≤ t := by have hp : (!decide (t < i)) = true := hp; simp at hp; omega
        have hl := lenP_le hp
        (repeat (first | refine And.intro (by omega) ?_ | refine And.intro ⟨by omega, by omega⟩ ?_))
        have hfi : first8 (fun j => A (j + ((i : Int).toNat * 8 + 0))) = first8 (partF A 8 i) := by rw [hix]; rfl
        refine And.intro trivial (Spec.mono (l01First_s _) ?_)
        rintro _ _ ⟨rfl, rfl⟩
        rw [hfi]
        have q1 := ht1 i
        have q2 := ht2 i
        generalize first8 (partF A 8 i) = b0 at q1 q2 ⊢
        refine opsVC_g (w := true) rfl rfl rfl ?_
        change opsVC _ _ _ _ _ _ _ _
        refine opsVC_g (w := true) rfl rfl rfl ?_
        change opsVC _ _ _ _ _ _ _ _
        refine ifVC_split (fun hg => ?_) (fun hg => ?_)
        · have hg : a < b0 := by have := of_decide_eq_true hg; omega
          have hit : i = t := by
            rcases Nat.lt_or_ge i t with g | g
            · have := q1 g; omega
            · omega
          (repeat (first | refine And.intro (by omega) ?_ | refine And.intro ⟨by omega, by omega⟩ ?_))
          refine Or.inl (And.intro ⟨Nat.le_refl _, rfl, hc, show (lenP t i + 1) * 8 ≤ 140737488355328 by omega, show lenP t i + 1 ≤ 4611686018427387904 by omega⟩ (fun cap1 hcap1 => ?_))
          (repeat (first | refine And.intro (by omega) ?_ | refine And.intro ⟨by omega, by omega⟩ ?_))
          refine Exists.intro 17 (And.intro (by kernel_rfl) ?_)
          (repeat (first | refine And.intro (by omega) ?_ | refine And.intro ⟨by omega, by omega⟩ ?_))
          refine Exists.intro (.ints .u8 8 (addM p (partF A 8 i) (-(partF A 8 i a)) W)) (And.intro (And.intro rfl (And.intro rfl (Spec.mono (l01Add_s p _ _ _ hp0 (by rw [hneg]; omega) (fun j hj => by have := hA (j + i * 8) (by omega); show 0 ≤ A (j + (i * 8 + 0)) ∧ A (j + (i * 8 + 0)) < 256; rw [Nat.add_zero]; omega) (fun j hj => by have := hWr j hj; show 0 ≤ W (j + 0) ∧ W (j + 0) < 256; rw [Nat.add_zero]; omega)) ?_))) ?_)
          · rintro r m ⟨rfl, _⟩
            rw [hneg]
            rfl
          (repeat (first | refine And.intro (by omega) ?_ | refine And.intro ⟨by omega, by omega⟩ ?_))
          refine Or.inl (And.intro ⟨Nat.le_refl _, rfl, hcap1, show ((lenP t i + 1) + 1) * 8 ≤ 140737488355328 by omega, show (lenP t i + 1) + 1 ≤ 4611686018427387904 by omega⟩ (fun cap2 hcap2 => ?_))
          refine fin ((lenP t i + 1) + 1) cap2 _ (by rw [hl, lenP_gt (show t < i + 1 by omega)]) hcap2 ?_ _ _ ?_ (And.intro (And.intro (rowEq fun _ _ => rfl) rfl) (And.intro (And.intro (rowEq fun _ _ => rfl) rfl) (And.intro (And.intro (rowEq fun _ _ => rfl) rfl) trivial)))
          · intro q hq
            show appF (appF F (lenP t i * 8) 0 (updR (fun _ => 0) 0 8 fun j => W (j + 0))) ((lenP t i + 1) * 8) 0 (updR _ 0 8 (addM p (partF A 8 i) (-(partF A 8 i a)) W)) q = _
            unfold appF
            by_cases e : q < (lenP t i + 1) * 8
            · rw [if_pos e]
              show appF F (lenP t i * 8) 0 (updR _ 0 8 _) q = _
              unfold appF
              by_cases e2 : q < lenP t i * 8
              · rw [if_pos e2]; exact hF q e2
              · rw [if_neg e2]
                unfold updR putR
                rw [if_pos (by omega), if_neg (by omega), if_pos (by omega)]
                show W _ = W _
                congr 1; omega
            · rw [if_neg e]
              unfold updR
              rw [if_pos (by omega)]
              unfold putR
              rw [if_neg (by omega), if_neg (by omega), show q / 8 - 1 = i by omega, show q - (lenP t i + 1) * 8 + 0 - 0 = q % 8 by omega]
          · exact And.intro rfl (And.intro rfl (And.intro rfl (And.intro rfl (And.intro rfl (And.intro (slotB (by simp; omega)) (And.intro (slotI (wrapS (by omega))) trivial))))))
        · have hg : i < t := by
            have hg : ¬ (a < b0) := by have := of_decide_eq_false hg; omega
            rcases Nat.lt_or_ge i t with g | g
            · exact g
            · exact absurd (q2 g hik) hg
          (repeat (first | refine And.intro (by omega) ?_ | refine And.intro ⟨by omega, by omega⟩ ?_))
          refine Exists.intro 17 (And.intro (by kernel_rfl) ?_)
          (repeat (first | refine And.intro (by omega) ?_ | refine And.intro ⟨by omega, by omega⟩ ?_))
          refine Exists.intro (.ints .u8 8 (addM p (partF A 8 i) (-(partF A 8 i a)) W)) (And.intro (And.intro rfl (And.intro rfl (Spec.mono (l01Add_s p _ _ _ hp0 (by rw [hneg]; omega) (fun j hj => by have := hA (j + i * 8) (by omega); show 0 ≤ A (j + (i * 8 + 0)) ∧ A (j + (i * 8 + 0)) < 256; rw [Nat.add_zero]; omega) (fun j hj => by have := hWr j hj; show 0 ≤ W (j + 0) ∧ W (j + 0) < 256; rw [Nat.add_zero]; omega)) ?_))) ?_)
          · rintro r m ⟨rfl, _⟩
            rw [hneg]
            rfl
          (repeat (first | refine And.intro (by omega) ?_ | refine And.intro ⟨by omega, by omega⟩ ?_))
          refine Or.inl (And.intro ⟨Nat.le_refl _, rfl, hc, show (lenP t i + 1) * 8 ≤ 140737488355328 by omega, show lenP t i + 1 ≤ 4611686018427387904 by omega⟩ (fun cap2 hcap2 => ?_))
          refine fin (lenP t i + 1) cap2 _ (by rw [hl, lenP_le (show i + 1 ≤ t by omega)]) hcap2 ?_ _ _ ?_ (And.intro (And.intro (rowEq fun _ _ => rfl) rfl) (And.intro (And.intro (rowEq fun _ _ => rfl) rfl) (And.intro (And.intro (rowEq fun _ _ => rfl) rfl) trivial)))
          · intro q hq
            show appF F (lenP t i * 8) 0 (updR _ 0 8 (addM p (partF A 8 i) (-(partF A 8 i a)) W)) q = _
            unfold appF
            by_cases e : q < lenP t i * 8
            · rw [if_pos e]; exact hF q e
            · rw [if_neg e]
              unfold updR
              rw [if_pos (by omega)]
              unfold putR
              rw [if_pos (by omega), show q / 8 = i by omega, show q - lenP t i * 8 + 0 - 0 = q % 8 by omega]
          · exact And.intro rfl (And.intro rfl (And.intro rfl (And.intro rfl (And.intro rfl (And.intro (slotB (by simp; omega)) (And.intro (slotI (wrapS (by omega))) trivial))))))
      · have hp : t < i := by have hp : (!decide (t < i)) = false := hp; simpa using hp
        have hl := lenP_gt hp
        (repeat (first | refine And.intro (by omega) ?_ | refine And.intro ⟨by omega, by omega⟩ ?_))
        refine Exists.intro 17 (And.intro (by kernel_rfl) ?_)
        (repeat (first | refine And.intro (by omega) ?_ | refine And.intro ⟨by omega, by omega⟩ ?_))
        refine Exists.intro (.ints .u8 8 (addM p (partF A 8 i) (-(partF A 8 i a)) W)) (And.intro (And.intro rfl (And.intro rfl (Spec.mono (l01Add_s p _ _ _ hp0 (by rw [hneg]; omega) (fun j hj => by have := hA (j + i * 8) (by omega); show 0 ≤ A (j + (i * 8 + 0)) ∧ A (j + (i * 8 + 0)) < 256; rw [Nat.add_zero]; omega) (fun j hj => by have := hWr j hj; show 0 ≤ W (j + 0) ∧ W (j + 0) < 256; rw [Nat.add_zero]; omega)) ?_))) ?_)
        · rintro r m ⟨rfl, _⟩
          rw [hneg]
          rfl
        (repeat (first | refine And.intro (by omega) ?_ | refine And.intro ⟨by omega, by omega⟩ ?_))
        refine Or.inl (And.intro ⟨Nat.le_refl _, rfl, hc, show (lenP t i + 1) * 8 ≤ 140737488355328 by omega, show lenP t i + 1 ≤ 4611686018427387904 by omega⟩ (fun cap2 hcap2 => ?_))
        refine fin (lenP t i + 1) cap2 _ (by rw [hl, lenP_gt (show t < i + 1 by omega)]) hcap2 ?_ _ _ ?_ (And.intro (And.intro (rowEq fun _ _ => rfl) rfl) (And.intro (And.intro (rowEq fun _ _ => rfl) rfl) (And.intro (And.intro (rowEq fun _ _ => rfl) rfl) trivial)))
        · intro q hq
          show appF F (lenP t i * 8) 0 (updR _ 0 8 (addM p (partF A 8 i) (-(partF A 8 i a)) W)) q = _
          unfold appF
          by_cases e : q < lenP t i * 8
          · rw [if_pos e]; exact hF q e
          · rw [if_neg e]
            unfold updR
            rw [if_pos (by omega)]
            unfold putR
            rw [if_neg (by omega), if_neg (by omega), show q / 8 - 1 = i by omega, show q - lenP t i * 8 + 0 - 0 = q % 8 by omega]
        · exact And.intro rfl (And.intro rfl (And.intro rfl (And.intro rfl (And.intro rfl (And.intro (slotB (by simp; omega)) (And.intro (slotI (wrapS (by omega))) trivial))))))
    · have hik : i = k := by have := of_decide_eq_false hh; omega
      subst hik
      refine ifVC_split (fun hp => ?_) (fun hp => ?_)
      · have hp : i ≤ t := by have hp : (!decide (t < i)) = true := hp; simp at hp; omega
        have hl : lenP t i = i := lenP_le hp
        have hit : i = t := by omega
        (repeat (first | refine And.intro (by omega) ?_ | refine And.intro ⟨by omega, by omega⟩ ?_))
        refine Or.inl (And.intro ⟨Nat.le_refl _, rfl, hc, show (lenP t i + 1) * 8 ≤ 140737488355328 by omega, show lenP t i + 1 ≤ 4611686018427387904 by omega⟩ (fun cap1 hcap1 => ?_))
        have hfin : ∀ q, q < (i + 1) * 8 → appF F (lenP t i * 8) 0 (updR (fun _ => 0) 0 8 fun j => W (j + 0)) q = putR p A W a t (q / 8) (q % 8) := fun q hq => by
          unfold appF
          by_cases e : q < lenP t i * 8
          · rw [if_pos e]; exact hF q e
          · rw [if_neg e]
            unfold updR putR
            rw [if_pos (by omega), if_neg (by omega), if_pos (by omega)]
            show W _ = W _
            congr 1; omega
        have key : ∀ l, l = i + 1 → ∀ G, (∀ q, q < (i + 1) * 8 → G q = putR p A W a t (q / 8) (q % 8)) → ∀ c', l ≤ c' → ∀ g rest (Q : SV → Mem → Prop), (∀ F' c'', i + 1 ≤ c'' → (∀ q, q < (i + 1) * 8 → F' q = putR p A W a t (q / 8) (q % 8)) → ∀ g' rest', Q (.sl 2 0 (i + 1) c'') (some (.ints .u8 (i * 8) A, cap * 8) :: g' :: some (.ints .u8 ((i + 1) * 8) F', c'' * 8) :: rest')) → Q (.sl 2 0 l c') (some (.ints .u8 (i * 8) A, cap * 8) :: g :: some (.ints .u8 (l * 8) G, c' * 8) :: rest) := by
          rintro l rfl G hG c' hc' g rest Q hQ
          exact hQ G c' hc' hG g rest
        exact key (lenP t i + 1) (by omega) _ hfin cap1 hcap1 _ _ (PutU p i cap A u a) goal
      · have hp : t < i := by have hp : (!decide (t < i)) = false := hp; simpa using hp
        have hl : lenP t i = i + 1 := lenP_gt hp
        have key : ∀ l, l = i + 1 → ∀ G, (∀ q, q < (i + 1) * 8 → G q = putR p A W a t (q / 8) (q % 8)) → ∀ c', l ≤ c' → ∀ g rest (Q : SV → Mem → Prop), (∀ F' c'', i + 1 ≤ c'' → (∀ q, q < (i + 1) * 8 → F' q = putR p A W a t (q / 8) (q % 8)) → ∀ g' rest', Q (.sl 2 0 (i + 1) c'') (some (.ints .u8 (i * 8) A, cap * 8) :: g' :: some (.ints .u8 ((i + 1) * 8) F', c'' * 8) :: rest')) → Q (.sl 2 0 l c') (some (.ints .u8 (i * 8) A, cap * 8) :: g :: some (.ints .u8 (l * 8) G, c' * 8) :: rest) := by
          rintro l rfl G hG c' hc' g rest Q hQ
          exact hQ G c' hc' hG g rest
        exact key (lenP t i) hl _ (fun q hq => hF q (by omega)) c hc _ _ (PutU p i cap A u a) goal
end Go.Proofs.YtjanlnngeklhoabGreat

/- The model's reduced lists of lists of vectors. -/
set_option linter.unusedVariables false
set_option linter.unusedSimpArgs false
set_option maxRecDepth 100000
set_option maxHeartbeats 4000000
namespace Go.Proofs.YtjanlnngeklhoabGreat
open M

/-- blocks of numbers in other places, those that nobody needs left out -/
theorem Spec.tidy {P : Program} {f : Nat} {args : List SV} {m : Mem} {Q R : SV → Mem → Prop} (h : Spec P f args m Q)
    (hq : ∀ r m', Q r m' → ∃ (σ : Nat → Nat) (r0 : SV) (M0 : Mem), R r0 M0 ∧ r = r0.ren σ ∧ (∀ i ∈ r0.ids, i < M0.length) ∧ (∀ i, i < m.length → σ i = i) ∧ (∀ i, m.length ≤ i → m.length ≤ σ i) ∧ m.length ≤ M0.length ∧
      (∀ id u c, blockOf M0 id = some (u, c) → u.ids = [] ∧ blockOf m' (σ id) = some (u, c)) ∧ (∀ i j, i < M0.length → j < M0.length → σ i = σ j → i = j)) : Spec P f args m R := by
  refine ⟨h.enters, fun μ w hm => (h.run μ w hm).mono ?_⟩
  rintro e w' ⟨μ', r, m', rfl, hQ, hi, ha, hl', hf, hmr, hk⟩
  obtain ⟨σ, r0, M0, hR, rfl, h1, h2, h3, h4, h5, h6⟩ := hq r m' hQ
  have lift : ∀ i, (blockOf M0 i).isSome = true → (blockOf m' (σ i)).isSome = true := fun i hi => by
    cases hb : blockOf M0 i with
    | none => rw [hb] at hi; cases hi
    | some p => obtain ⟨u, c⟩ := p; rw [(h5 i u c hb).2]; rfl
  refine ⟨fun i => μ' (σ i), r0, M0, by rw [toVal_ren], hR, h1, fun id hid => by show μ' (σ id) = μ id; rw [h2 id hid]; exact ha id hid, h4, fun id hid hs => hf (σ id) (h3 id hid) (lift id hs), ⟨fun id u c hb => ?_, fun i j hi hj e => h6 i j (blockOf_lt hi) (blockOf_lt hj) (hmr.inj _ _ (lift i hi) (lift j hj) e), fun id u c hb i hi => ?_⟩, hk⟩
  · obtain ⟨t, ex, g1, g2⟩ := hmr.blk (σ id) u c (h5 id u c hb).2
    have e : flat (fun i => μ' (σ i)) u = flat μ' u := flat_ids u (by rw [(h5 id u c hb).1]; intro i hi; cases hi)
    exact ⟨t, ex, by rw [e]; exact g1, by rw [e]; exact g2⟩
  · rw [(h5 id u c hb).1] at hi; cases hi
theorem back_ge (ρ : Nat → Nat) (m m' : Mem) (ids : List Nat) {k : IntKind} {n c j : Nat} {g : Nat → Int} (hb : blockOf m' (ids.length + j) = some (.ints k n g, c)) : blockOf (backMem ρ m ids m') (m.length + j) = some (.ints k n g, c) := by
  have := blockOf_append_ge (backGo ρ ids m' 0 m) ((m'.drop ids.length).map (renBlk ρ)) j
  rw [backGo_length] at this
  show blockOf (backGo ρ ids m' 0 m ++ (m'.drop ids.length).map (renBlk ρ)) (m.length + j) = _
  rw [this, blockOf_map, blockOf_drop, hb]
  rfl

theorem lk_map (σ : Nat → Nat) (S : Slots) (t : Nat) : lk (S.map fun p => (p.1, p.2.ren σ)) t = (lk S t).map (SV.ren σ) := by
  induction S with
  | nil => rfl
  | cons p r ih =>
    obtain ⟨k, u⟩ := p
    show lk ((k, u.ren σ) :: r.map _) t = _
    rw [lk_cons, lk_cons]
    by_cases h : k = t
    · rw [if_pos h, if_pos h]; rfl
    · rw [if_neg h, if_neg h]; exact ih
/-- a round's end, where blocks have got other numbers -/
theorem renTo_mk {own : Nat} {σ : Nat → Nat} {S : Slots} {M : Mem} {s : Slots} {m : Mem} (hs : subL (S.map fun p => (p.1, p.2.ren σ)) s) (fix : ∀ i, i < own → σ i = i) (hb : ∀ i u d, blockOf M i = some (u, d) → (own ≤ i → own ≤ σ i) ∧ ∃ v, blockOf m (σ i) = some (v, d) ∧ v.eqv (u.ren σ))
    (inj : ∀ i j, i < M.length → j < M.length → σ i = σ j → i = j) : RenTo own σ S M s m :=
  ⟨fix, hb, fun i j hi hj e => inj i j (blockOf_lt hi) (blockOf_lt hj) e, fun t v hv => subL_get _ s hs t _ (by rw [lk_map, hv]; rfl)⟩

theorem redL_zero {p : Nat} {V : Nat → Nat → Int} {A : Nat → Int} : RedL p (Sp p 8 0 V) 0 A := by
  refine ⟨fun i hi => absurd hi (Nat.not_lt_zero _), fun i hi => absurd hi (Nat.not_lt_zero _), fun i j _ hj => absurd hj (Nat.not_lt_zero _), fun i hi => absurd hi (Nat.not_lt_zero _), fun i hi => absurd hi (Nat.not_lt_zero _), fun i j hi => absurd hi (Nat.not_lt_zero _), fun v hv _ => ?_⟩
  cases hv with
  | zero v h => exact h
  | add v u c i hi h hu => exact absurd hi (Nat.not_lt_zero _)
/-- what l01Put makes is a reduced list of one more -/
theorem putU_red {p k cap : Nat} {S S' : (Nat → Int) → Prop} {A v : Nat → Int} {r : SV} {m : Mem} (hp : 1 < p) (hS : Space p 8 S) (hS' : Space p 8 S') (h : RedL p S k A) (ha : AddTo p S v S') (hv : ∀ j, j < 8 → 0 ≤ v j ∧ v j < p) (hq : PutQ p k cap A v r m) :
    (RedL p S' k A ∧ r = .sl 0 0 k cap ∧ ∃ g, m = [some (.ints .u8 (k * 8) A, cap * 8), g]) ∨
    (∃ cap' F, RedL p S' (k + 1) F ∧ k + 1 ≤ cap' ∧ r = .sl 2 0 (k + 1) cap' ∧ ∃ g rest, m = some (.ints .u8 (k * 8) A, cap * 8) :: g :: some (.ints .u8 ((k + 1) * 8) F, cap' * 8) :: rest) := by
  rcases hq with ⟨hz, hr, hm⟩ | ⟨t, y, cap', F, htk, h1, h2, h8, hy, hF, hc, hr, hm⟩
  · exact .inl ⟨put_same hp hS h ha hv hz, hr, hm⟩
  · refine .inr ⟨cap', F, redL_of hS' (put_red hp hS hS' h ha hv h8 hy htk h1 h2) fun i hi j hj => ?_, hc, hr, hm⟩
    have := hF (j + i * 8) (by omega)
    rw [show (j + i * 8) / 8 = i by omega, show (j + i * 8) % 8 = j by omega] at this
    exact this

/-- a reduced list of the space S' comes out: in the old block, or in a new one -/
def PutR (p k cap : Nat) (S' : (Nat → Int) → Prop) (A : Nat → Int) (r : SV) (m : Mem) : Prop :=
  (RedL p S' k A ∧ r = .sl 0 0 k cap ∧ m = [some (.ints .u8 (k * 8) A, cap * 8)]) ∨
  (∃ cap' F, RedL p S' (k + 1) F ∧ k + 1 ≤ cap' ∧ r = .sl 1 0 (k + 1) cap' ∧ m = [some (.ints .u8 (k * 8) A, cap * 8), some (.ints .u8 ((k + 1) * 8) F, cap' * 8)])
theorem l01PutR_s (p k cap : Nat) (S S' : (Nat → Int) → Prop) (A v : Nat → Int) (hp : primeB (p : Int) = true) (hp2 : 2 ≤ p ∧ p ≤ 31) (hS : Space p 8 S) (hS' : Space p 8 S') (h : RedL p S k A) (ha : AddTo p S v S') (hv : ∀ j, j < 8 → 0 ≤ v j ∧ v j < p) :
    Spec Tryz.prog 27 [.int .i64 p, .sl 0 0 k cap, .ints .u8 8 v] [some (.ints .u8 (k * 8) A, cap * 8)] (PutR p k cap S' A) := by
  refine Spec.tidy (l01Put_s p k cap S A v hp hp2 hS h hv) fun r m hq => ?_
  rcases putU_red (by omega) hS hS' h ha hv hq with ⟨hR, rfl, g, rfl⟩ | ⟨cap', F, hR, hc', rfl, g, rest, rfl⟩
  · refine ⟨fun i => i, .sl 0 0 k cap, [some (.ints .u8 (k * 8) A, cap * 8)], .inl ⟨hR, rfl, rfl⟩, rfl, by simp [SV.ids], fun _ _ => rfl, fun _ h => h, Nat.le_refl _, fun id u c hb => ?_, fun _ _ _ _ e => e⟩
    match id with
    | 0 => cases hb; exact ⟨rfl, rfl⟩
    | id + 1 => cases hb
  · refine ⟨fun i => if i = 1 then 2 else i, .sl 1 0 (k + 1) cap', [some (.ints .u8 (k * 8) A, cap * 8), some (.ints .u8 ((k + 1) * 8) F, cap' * 8)], .inr ⟨cap', F, hR, hc', rfl, rfl⟩, rfl, by simp [SV.ids], fun i hi => if_neg (show i ≠ 1 by have hi : i < 1 := hi; omega), fun i hi => ?_, Nat.le_succ _, fun id u c hb => ?_, fun a b ha hb e => ?_⟩
    · show 1 ≤ if i = 1 then 2 else i
      have hi : 1 ≤ i := hi
      split <;> omega
    · match id with
      | 0 => cases hb; exact ⟨rfl, rfl⟩
      | 1 => cases hb; exact ⟨rfl, rfl⟩
      | id + 2 => cases hb
    · have ha : a < 2 := ha
      have hb : b < 2 := hb
      have e : (if a = 1 then 2 else a) = if b = 1 then 2 else b := e
      split at e <;> split at e <;> omega

/-- a reduced list of what is listed, in a new block -/
def ReduceQ (p len cap : Nat) (V : Nat → Int) (r : SV) (m : Mem) : Prop :=
  ∃ k c A, RedL p (Sp p 8 len (partF V 8)) k A ∧ k ≤ c ∧ r = .sl 1 0 k c ∧ m = [some (.ints .u8 (len * 8) V, cap * 8), some (.ints .u8 (k * 8) A, c * 8)]
theorem l01Reduce_s (p len cap : Nat) (V : Nat → Int) (hp : primeB (p : Int) = true) (hp2 : 2 ≤ p ∧ p ≤ 31) (hlen : len ≤ 1000) (hV : rngR p len V) :
    Spec Tryz.prog 58 [.int .i64 p, .sl 0 0 len cap] [some (.ints .u8 (len * 8) V, cap * 8)] (ReduceQ p len cap V) := by
  refine (Spec.of_vc tabOK tabEq Tryz.func58 rfl (by kernel_rfl) rfl rfl ?_)
  refine LoopVC.ofR (fun x : Nat × Nat × Nat × (Nat → Int) => x.1 ≤ len ∧ x.2.1 ≤ x.2.2.1 ∧ RedL p (Sp p 8 x.1 (partF V 8)) x.2.1 x.2.2.2)
    (fun x => [(0, .int .i64 p), (1, .sl 0 0 len cap), (5, .sl 1 0 x.2.1 x.2.2.1), (6, .int .i64 x.1)])
    (fun x => [some (.ints .u8 (len * 8) V, cap * 8), some (.ints .u8 (x.2.1 * 8) x.2.2.2, x.2.2.1 * 8)]) (fun x => len - x.1) (0, 0, 0, fun _ => 0) ⟨Nat.zero_le _, Nat.le_refl _, redL_zero⟩ (fun i => i) (RenTo.same ?_ ?_) ?_ ?_ ?_
  · exact (And.intro rfl (And.intro rfl (And.intro rfl (And.intro rfl (trivial)))))
  · intro i u d hb
    match i with
    | 0 => exact ⟨u, hb, eqv_refl u⟩
    | 1 => cases hb; exact ⟨_, rfl, ⟨⟨rfl, rfl⟩, fun j hj => by omega⟩⟩
    | i + 2 => cases hb
  · intro x hx; exact Nat.le_succ 1
  · intro x hx
    refine OkP.of (by simp [SV.ids]) fun id u c hb q hq => ?_
    match id with
    | 0 => cases hb; cases hq
    | 1 => cases hb; cases hq
    | id + 2 => cases hb
  · rintro ⟨i, k, c, A⟩ ⟨hi, hc, hA⟩
    dsimp only at hi hc hA
    refine ifVC_split (fun hh => ?_) (fun hh => ?_)
    · have hil : i < len := by have := of_decide_eq_true hh; omega
      have hS : Space p 8 (Sp p 8 i (partF V 8)) := Sp.space (by omega)
      have hS' : Space p 8 (Sp p 8 (i + 1) (partF V 8)) := Sp.space (by omega)
      have hvr : ∀ j, j < 8 → 0 ≤ partF V 8 i j ∧ partF V 8 i j < p := fun j hj => hV _ (by omega)
      have hk := red_k hA
      (repeat (first | refine And.intro (by omega) ?_ | refine And.intro ⟨by omega, by omega⟩ ?_))
      have hvE : (fun j => V (j + (i * 8 + 0))) = partF V 8 i := rfl
      refine And.intro (And.intro rfl trivial) (Spec.mono (show Spec Tryz.prog 27 [.int .i64 p, .sl 0 0 k c, .ints .u8 8 fun j => V (j + (i * 8 + 0))] [some (.ints .u8 (k * 8) A, c * 8)] (PutR p k c (Sp p 8 (i + 1) (partF V 8)) A) from l01PutR_s p k c _ _ A (partF V 8 i) hp hp2 hS hS' hA (addTo_sp (by omega) hvr) hvr) ?_)
      rintro r m (⟨hR, rfl, rfl⟩ | ⟨cap', F, hR, hc', rfl, rfl⟩)
      · refine Exists.intro (i + 1, k, c, A) (Exists.intro (fun i => i) (And.intro ⟨hil, hc, hR⟩ (And.intro (show len - (i + 1) < len - i by omega) (RenTo.same ?_ ?_))))
        · exact And.intro rfl (And.intro rfl (And.intro rfl (And.intro (slotI (wrapS (by omega))) trivial)))
        · intro id u d hb
          match id with
          | 0 => exact ⟨u, hb, eqv_refl u⟩
          | 1 => exact ⟨u, hb, eqv_refl u⟩
          | id + 2 => cases hb
      · refine Exists.intro (i + 1, k + 1, cap', F) (Exists.intro (fun i => if i = 1 then 2 else i) (And.intro ⟨hil, hc', hR⟩ (And.intro (show len - (i + 1) < len - i by omega) (renTo_mk ?_ (fun i hi => if_neg (show i ≠ 1 by have hi : i < 1 := hi; omega)) (fun id u d hb => ?_) fun a b ha hb e => ?_))))
        · exact And.intro rfl (And.intro rfl (And.intro rfl (And.intro (slotI (wrapS (by omega))) trivial)))
        · match id with
          | 0 => cases hb; exact ⟨fun h => absurd (show 1 ≤ 0 from h) (by decide), _, rfl, eqv_refl _⟩
          | 1 => cases hb; exact ⟨fun _ => (by decide : 1 ≤ 2), _, rfl, eqv_refl _⟩
          | id + 2 => cases hb
        · have ha : a < 2 := ha
          have hb : b < 2 := hb
          have e : (if a = 1 then 2 else a) = if b = 1 then 2 else b := e
          split at e <;> split at e <;> omega
    · have hil : i = len := by have := of_decide_eq_false hh; omega
      subst hil
      exact ⟨k, c, A, hA, hc, rfl, rfl⟩

/-- the reduced list of the kernel of f, in a new block -/
def KernelQ (p n : Nat) (f : Nat → Int) (r : SV) (m : Mem) : Prop :=
  ∃ k c A, RedL p (Sp p 8 (solN p f n).q (partF (solN p f n).C 8)) k A ∧ k ≤ c ∧ r = .sl 0 0 k c ∧ m = [some (.ints .u8 (k * 8) A, c * 8)]
end Go.Proofs.YtjanlnngeklhoabGreat

/- The kernel of a linear map: what the model lists spans it. -/
set_option linter.unusedVariables false
set_option linter.unusedSimpArgs false
set_option maxRecDepth 100000
set_option maxHeartbeats 1000000
namespace Go.Proofs.YtjanlnngeklhoabGreat
open M

def Ker (p n : Nat) (f x : Nat → Int) : Prop := VecP p n x ∧ ∀ j, j < 8 → apF p f x j = 0
/-- a row and what leads to it -/
def pairR (A B : Nat → Int) : Nat → Nat → Int := fun l j => if j < 8 then partF A 8 l j else partF B 8 l (j - 8)
/-- a vector told by the second halves, and the list C -/
def Told (p : Nat) (s : SolS) (x : Nat → Int) : Prop := ∃ z c, Sp p 16 s.r (pairR s.A s.B) z ∧ Sp p 8 s.q (partF s.C 8) c ∧ ∀ j, j < 8 → x j = (z (8 + j) + c j) % p
end Go.Proofs.YtjanlnngeklhoabGreat

/- The model's whole space, and its way to meet two spaces. -/
set_option linter.unusedVariables false
set_option linter.unusedSimpArgs false
set_option maxRecDepth 100000
set_option maxHeartbeats 4000000
namespace Go.Proofs.YtjanlnngeklhoabGreat
open M

/-- what is in the space is a sum of the list's rows -/
theorem red_span {p : Int} {w : Nat} {S : (Nat → Int) → Prop} {k : Nat} {a : Nat → Nat → Int} {P : Nat → Nat} (hp : 0 < p) (hS : Space p w S) (h : Red p w S k a P) {v : Nat → Int} (hv : S v) : Sp p w k a v := by
  have hr : ∀ i, i < k → ∀ j, j < w → 0 ≤ a i j ∧ a i j < p := fun i hi => hS.range _ (h.mem i hi)
  have key : ∀ t, t ≤ k → ∃ u, Sp p w k a u ∧ S u ∧ (∀ l, l < t → u (P l) = v (P l)) ∧ ∀ l, t ≤ l → l < k → u (P l) = 0 := fun t => by
    induction t with
    | zero => intro _; exact ⟨fun _ => 0, .zero _ fun _ _ => rfl, hS.zero _ fun _ _ => rfl, fun l hl => absurd hl (Nat.not_lt_zero _), fun _ _ _ => rfl⟩
    | succ t ih =>
      intro ht
      obtain ⟨u, h1, h2, h3, h4⟩ := ih (by omega)
      refine ⟨fun j => (u j + v (P t) * a t j) % p, h1.addc hp (Sp.row (show t < k by omega) (hr t (by omega))) _, hS.addc _ _ h2 (h.mem t (by omega)) _, fun l hl => ?_, fun l h5 h6 => ?_⟩
      · show (u (P l) + v (P t) * a t (P l)) % p = v (P l)
        by_cases e : l = t
        · subst e
          rw [h4 l (Nat.le_refl _) (by omega), h.one l (by omega), Int.zero_add, Int.mul_one, mod_id (hS.range _ hv _ (h.lt l (by omega)))]
        · rw [h.oth t l (by omega) (by omega) (fun x => e x.symm), Int.mul_zero, Int.add_zero, h3 l (by omega), mod_id (hS.range _ hv _ (h.lt l (by omega)))]
      · show (u (P l) + v (P t) * a t (P l)) % p = 0
        rw [h.oth t l (by omega) h6 (by omega), Int.mul_zero, Int.add_zero, h4 l (by omega) h6, Int.zero_emod]
  obtain ⟨u, h1, h2, h3, _⟩ := key k (Nat.le_refl _)
  refine h1.ext fun j hj => ?_
  have := h.all _ (hS.addc _ _ hv h2 (-1)) (fun i hi => by show (v (P i) + -1 * u (P i)) % p = 0; rw [h3 i hi, show v (P i) + -1 * v (P i) = 0 by omega, Int.zero_emod]) j hj
  exact eq_of_sub (hS.range _ hv j hj) (hS.range _ h2 j hj) this

/-- the sum of multiples of rows -/
def combV (p : Int) (A : Nat → Int) (k : Nat) (c : Nat → Int) : Nat → Int := fun j => sumN k (fun l => c l * partF A 8 l j) % p
/-- what is left of one's rows by two -/
def meetF (p : Int) (A1 : Nat → Int) (k1 : Nat) (A2 : Nat → Int) (k2 : Nat) : Nat → Int := fun q => if q / 8 < k1 then byV p A2 (partF A1 8 (q / 8)) k2 (q % 8) else 0
section
variable {p k1 k2 : Nat} {S1 S2 : (Nat → Int) → Prop} {A1 A2 : Nat → Int}
end

end Go.Proofs.YtjanlnngeklhoabGreat

/- The model's way to meet two spaces: its contract. -/
set_option linter.unusedVariables false
set_option linter.unusedSimpArgs false
set_option maxRecDepth 100000
set_option maxHeartbeats 4000000
namespace Go.Proofs.YtjanlnngeklhoabGreat
open M

def MeetQ (p : Nat) (S : (Nat → Int) → Prop) (b1 b2 : Option (SV × Nat)) (r : SV) (m : Mem) : Prop :=
  ∃ k c A, RedL p S k A ∧ k ≤ c ∧ r = .sl 2 0 k c ∧ m = [b1, b2, some (.ints .u8 (k * 8) A, c * 8)]
end Go.Proofs.YtjanlnngeklhoabGreat

/- CentreOf: the model's side. -/
set_option linter.unusedVariables false
set_option linter.unusedSimpArgs false
set_option maxRecDepth 100000
set_option maxHeartbeats 4000000
namespace Go.Proofs.YtjanlnngeklhoabGreat
open M

/-- e(k) e(i) less e(i) e(k) -/
def commF (p : Int) (n : Nat) (T : Nat → Int) (i : Nat) : Nat → Int := fun q => if q / 8 < n then addM p (vecT T (q / 8) i) (-1) (vecT T i (q / 8)) (q % 8) else 0
/-- what commutes with e(0) to e(i - 1) -/
def CenS (p n : Nat) (T : Nat → Int) (i : Nat) (x : Nat → Int) : Prop := VecP p n x ∧ ∀ l, l < i → ∀ j, j < 8 → apF p (commF p n T l) x j = 0
def CentreQ (p n : Int) (U T : Nat → Int) (r : SV) (m : Mem) : Prop :=
  (algB p n U T = false ∧ r = .tcons .nilsl (.tcons (.int .i64 1) .tnil)) ∨
  (algB p n U T = true ∧ ∃ k c A id, RedL p (CenS p.toNat n.toNat T n.toNat) k A ∧ k ≤ c ∧ r = .tcons (.sl id 0 k c) (.tcons (.int .i64 0) .tnil) ∧ blockOf m id = some (.ints .u8 (k * 8) A, c * 8))
end Go.Proofs.YtjanlnngeklhoabGreat

/- Kernels by rows: what leads to zeros alone, as a reduced list. -/
set_option linter.unusedVariables false
set_option linter.unusedSimpArgs false
set_option maxRecDepth 100000
set_option maxHeartbeats 4000000
namespace Go.Proofs.YtjanlnngeklhoabGreat
open M

/-! ### rows of any width with a basis behind them -/
/-- the sum of the multiples of images, at a place -/
def apW (p : Int) (g : Nat → Nat → Int) (x : Nat → Int) (j : Nat) : Int := sumN 8 (fun i => x i * g i j) % p
theorem apW_congr {p : Int} {g : Nat → Nat → Int} {x y : Nat → Int} {j : Nat} (h : ∀ i, i < 8 → x i = y i) : apW p g x j = apW p g y j := by
  unfold apW; rw [sumN_congr 8 fun i hi => by rw [h i hi]]
theorem apW_add (p c : Int) (g : Nat → Nat → Int) (x y : Nat → Int) (j : Nat) : apW p g (fun i => (x i + c * y i) % p) j = (apW p g x j + c * apW p g y j) % p := by
  unfold apW; rw [sumN_lin, mod_l, mod_in]
theorem apW_zero (p : Int) (g : Nat → Nat → Int) (x : Nat → Int) (j : Nat) (h : ∀ i, i < 8 → x i = 0) : apW p g x j = 0 := by
  unfold apW; rw [sumN_none 8 fun i hi => by rw [h i hi, Int.zero_mul], Int.zero_emod]
theorem apW_unit (p : Int) (g : Nat → Nat → Int) {k : Nat} (j : Nat) (hk : k < 8) : apW p g (unitV k) j = g k j % p := by
  unfold apW
  rw [sumN_pick _ 8 hk, sumN_none 8 fun i hi => by
    by_cases e : i = k
    · rw [if_pos e]
    · rw [if_neg e]; unfold unitV; rw [if_neg e, Int.zero_mul]]
  unfold unitV; rw [if_pos rfl]; simp

section
variable {p : Int} {n w : Nat} {g : Nat → Nat → Int}
theorem gw_lo {i j : Nat} (hj : j < w) : graphRow g w i j = g i j := by unfold graphRow; rw [if_pos hj]
theorem gw_hi {i j : Nat} : graphRow g w i (w + j) = unitV i j := by unfold graphRow; rw [if_neg (by omega)]; congr 1; omega
theorem gw_rng (hp : 1 < p) (hn : n ≤ 8) (hg : ∀ i, i < n → ∀ j, j < w → 0 ≤ g i j ∧ g i j < p) : ∀ i, i < n → ∀ j, j < w + 8 → 0 ≤ graphRow g w i j ∧ graphRow g w i j < p := fun i hi j hj => by
  by_cases h : j < w
  · rw [gw_lo h]; exact hg i hi j h
  · rw [show j = w + (j - w) by omega, gw_hi]; unfold unitV; split <;> omega
theorem gw_fwd (hp : 1 < p) (hn : n ≤ 8) (hg : ∀ i, i < n → ∀ j, j < w → 0 ≤ g i j ∧ g i j < p) {v : Nat → Int} (h : Sp p (w + 8) n (graphRow g w) v) : VecP p n (fun j => v (w + j)) ∧ ∀ j, j < w → v j = apW p g (fun j => v (w + j)) j := by
  refine Sp.in (S := fun v => (∀ j, j < w + 8 → 0 ≤ v j ∧ v j < p) ∧ VecP p n (fun j => v (w + j)) ∧ ∀ j, j < w → v j = apW p g (fun j => v (w + j)) j) ⟨fun v h => h.1, fun v u h e => ?_, fun v h => ?_, fun v u h1 h2 c => ?_⟩ (fun i hi => ?_) h |>.2
  · obtain ⟨h1, ⟨h2, h3⟩, h4⟩ := h
    refine ⟨fun j hj => by rw [e j hj]; exact h1 j hj, ⟨fun j hj => by rw [e _ (by omega)]; exact h2 j hj, fun j g1 g2 => by rw [e _ (by omega)]; exact h3 j g1 g2⟩, fun j hj => ?_⟩
    rw [e j (by omega), h4 j hj]
    exact apW_congr fun i hi => (e _ (by omega)).symm
  · refine ⟨fun j hj => by rw [h j hj]; omega, ⟨fun j hj => by rw [h _ (by omega)]; omega, fun j _ g => h _ (by omega)⟩, fun j hj => ?_⟩
    rw [h j (by omega), apW_zero p g _ j fun i hi => h _ (by omega)]
  · refine ⟨fun j _ => mod_rng (by omega) _, h1.2.1.add hp h2.2.1 c, fun j hj => ?_⟩
    show (v j + c * u j) % p = apW p g (fun j => (v (w + j) + c * u (w + j)) % p) j
    rw [apW_add, h1.2.2 j hj, h2.2.2 j hj]
  · refine ⟨gw_rng hp hn hg i hi, ⟨fun j hj => by rw [gw_hi]; unfold unitV; split <;> omega, fun j h1 h2 => by rw [gw_hi]; unfold unitV; rw [if_neg (by omega)]⟩, fun j hj => ?_⟩
    rw [gw_lo hj]
    have e : apW p g (fun j => graphRow g w i (w + j)) j = apW p g (unitV i) j := apW_congr fun k hk => gw_hi
    rw [e, apW_unit p g j (by omega), mod_id (hg i hi j hj)]
theorem gw_bwd (hp : 1 < p) (hn : n ≤ 8) (hg : ∀ i, i < n → ∀ j, j < w → 0 ≤ g i j ∧ g i j < p) {x : Nat → Int} (hx : VecP p n x) : Sp p (w + 8) n (graphRow g w) fun j => if j < w then apW p g x j else x (j - w) := by
  refine VecP.ind hp hn (R := fun x => Sp p (w + 8) n (graphRow g w) fun j => if j < w then apW p g x j else x (j - w)) ?_ (fun x y h e => ?_) (fun k hk => ?_) (fun x y c h1 h2 => ?_) hx
  · refine .zero _ fun j hj => ?_
    split
    · exact apW_zero p g _ j fun _ _ => rfl
    · rfl
  · refine h.ext fun j hj => ?_
    by_cases h8 : j < w
    · rw [if_pos h8, if_pos h8]; exact apW_congr fun i hi => e i hi
    · rw [if_neg h8, if_neg h8]; exact e _ (by omega)
  · refine (Sp.row hk (gw_rng hp hn hg k hk)).ext fun j hj => ?_
    by_cases h8 : j < w
    · rw [if_pos h8, gw_lo h8, apW_unit p g j (by omega), mod_id (hg k hk j h8)]
    · rw [if_neg h8, show j = w + (j - w) by omega, gw_hi]; congr 1; omega
  · refine (h1.addc (by omega) h2 c).ext fun j hj => ?_
    by_cases h8 : j < w
    · rw [if_pos h8, if_pos h8, if_pos h8, apW_add]
    · rw [if_neg h8, if_neg h8, if_neg h8]
end

/-- what leads to zeros alone -/
def KerG (p : Int) (n w : Nat) (g : Nat → Nat → Int) (x : Nat → Int) : Prop := VecP p n x ∧ ∀ j, j < w → apW p g x j = 0
theorem kerG_space {p : Int} {n w : Nat} {g : Nat → Nat → Int} (hp : 1 < p) : Space p 8 (KerG p n w g) := by
  refine ⟨fun v h => h.1.rng, fun v u h e => ⟨⟨fun j hj => by rw [e j hj]; exact h.1.rng j hj, fun j h1 h2 => by rw [e j h2]; exact h.1.out j h1 h2⟩, fun j hj => by rw [apW_congr e]; exact h.2 j hj⟩, fun v h => ⟨⟨fun j hj => by rw [h j hj]; omega, fun j _ hj => h j hj⟩, fun j hj => apW_zero _ _ _ _ h⟩, fun v u h1 h2 c => ⟨h1.1.add (by omega) h2.1 c, fun j hj => ?_⟩⟩
  rw [apW_add, h1.2 j hj, h2.2 j hj]; simp
/-- the rows that begin at w or later are the last ones -/
theorem kerG_red {p : Int} {n w k t : Nat} {g : Nat → Nat → Int} {a : Nat → Nat → Int} {P : Nat → Nat} (hp : 1 < p) (hn : n ≤ 8) (hg : ∀ i, i < n → ∀ j, j < w → 0 ≤ g i j ∧ g i j < p) (h : Red p (w + 8) (Sp p (w + 8) n (graphRow g w)) k a P)
    (ht : t ≤ k) (h1 : ∀ i, i < t → P i < w) (h2 : ∀ i, t ≤ i → i < k → w ≤ P i) : Red p 8 (KerG p n w g) (k - t) (fun i j => a (t + i) (w + j)) fun i => P (t + i) - w := by
  have z : ∀ i, i < k - t → w ≤ P (t + i) := fun i hi => h2 _ (by omega) (by omega)
  refine ⟨fun i hi => ?_, fun i hi => ?_, fun i j hij hj => ?_, fun i hi => ?_, fun i hi j hj => ?_, fun i j hi hj hij => ?_, fun v hv h0 j hj => ?_⟩
  · obtain ⟨f1, f2⟩ := gw_fwd hp hn hg (h.mem (t + i) (by omega))
    exact ⟨f1, fun j hj => by rw [← f2 j hj]; exact h.bef _ (by omega) j (by have := z i hi; omega)⟩
  · have := h.lt (t + i) (by omega); have := z i hi; omega
  · have := h.inc (t + i) (t + j) (by omega) (by omega); have := z i (by omega); omega
  · have := z i hi
    show a (t + i) (w + (P (t + i) - w)) = 1
    rw [show w + (P (t + i) - w) = P (t + i) by omega]; exact h.one _ (by omega)
  · have := z i hi
    exact h.bef _ (by omega) _ (by omega)
  · have := z j hj
    show a (t + i) (w + (P (t + j) - w)) = 0
    rw [show w + (P (t + j) - w) = P (t + j) by omega]; exact h.oth _ _ (by omega) (by omega) (by omega)
  · have hb := gw_bwd hp hn hg hv.1
    have := h.all _ hb (fun i hi => ?_) (w + j) (by omega)
    · rw [if_neg (by omega), show w + j - w = j by omega] at this; exact this
    · by_cases e : P i < w
      · rw [if_pos e]; exact hv.2 _ e
      · rw [if_neg e]
        have hti : t ≤ i := by
          by_cases g : i < t
          · exact absurd (h1 i g) e
          · omega
        have := h0 (i - t) (by omega)
        rw [show t + (i - t) = i by omega] at this
        exact this
theorem split_at {k w : Nat} {P : Nat → Nat} (h : ∀ i j, i < j → j < k → P i < P j) : ∃ t, t ≤ k ∧ (∀ i, i < t → P i < w) ∧ ∀ i, t ≤ i → i < k → w ≤ P i := by
  have key : ∀ m, m ≤ k → ∃ t, t ≤ m ∧ (∀ i, i < t → P i < w) ∧ ∀ i, t ≤ i → i < m → w ≤ P i := fun m => by
    induction m with
    | zero => intro _; exact ⟨0, Nat.le_refl _, fun i hi => absurd hi (Nat.not_lt_zero _), fun i _ hi => absurd hi (Nat.not_lt_zero _)⟩
    | succ m ih =>
      intro hm
      obtain ⟨t, h1, h2, h3⟩ := ih (by omega)
      by_cases e : t = m
      · by_cases e2 : P m < w
        · exact ⟨m + 1, Nat.le_refl _, fun i hi => by
            by_cases g : i = m
            · rw [g]; exact e2
            · exact h2 i (by omega), fun i g1 g2 => by omega⟩
        · exact ⟨t, by omega, h2, fun i g1 g2 => by
            have : i = m := by omega
            rw [this]; omega⟩
      · refine ⟨t, by omega, h2, fun i g1 g2 => ?_⟩
        by_cases g : i = m
        · have a1 := h3 t (Nat.le_refl _) (by omega)
          have a2 := h t m (by omega) (by omega)
          rw [g]; omega
        · exact h3 i g1 (by omega)
  exact key k (Nat.le_refl _)

/-! ### steps -/
theorem forget_len : ∀ (m : Mem) (b : Nat), (forget m b).length = m.length
  | [], _ => rfl
  | _ :: r, 0 => rfl
  | x :: r, k + 1 => by show (forget r k).length + 1 = _; rw [forget_len r k]; rfl
theorem forget_get : ∀ (m : Mem) (b i : Nat), i ≠ b → blockOf (forget m b) i = blockOf m i
  | [], _, _, _ => rfl
  | _ :: r, 0, 0, h => absurd rfl h
  | _ :: r, 0, i + 1, _ => rfl
  | x :: r, k + 1, 0, _ => rfl
  | x :: r, k + 1, i + 1, h => forget_get r k i (by omega)
theorem forget_none : ∀ (m : Mem) (b : Nat), blockOf (forget m b) b = none
  | [], _ => rfl
  | _ :: r, 0 => rfl
  | x :: r, k + 1 => forget_none r k
theorem forget_clo {m : Mem} (h : Clo m) (b : Nat) : Clo (forget m b) := fun id u c hb i hi => by
  rw [forget_len]
  by_cases e : id = b
  · subst e; rw [forget_none] at hb; cases hb
  · rw [forget_get m b id e] at hb; exact h id u c hb i hi
theorem snoc_clo {m : Mem} {v : SV} {c : Nat} (h : Clo m) (hv : ∀ i ∈ v.ids, i < m.length + 1) : Clo (m ++ [some (v, c)]) := fun id u d hb i hi => by
  simp only [List.length_append, List.length_singleton]
  by_cases e : id < m.length
  · rw [blockOf_append_lt _ _ id e] at hb; have := h id u d hb i hi; omega
  · have hl := blockOf_lt (m := m ++ [some (v, c)]) (id := id) (by rw [hb]; rfl)
    simp only [List.length_append, List.length_singleton] at hl
    obtain rfl : id = m.length := by omega
    rw [blockOf_snoc] at hb; cases hb; exact hv i hi
/-- a memory with a new row behind; all blocks but b are as they were -/
structure Plus (m : Mem) (b : Nat) (v : SV) (c : Nat) (M : Mem) : Prop where
  len : M.length = m.length + 1
  new : blockOf M m.length = some (v, c)
  old : ∀ q, q < m.length → q ≠ b → blockOf M q = blockOf m q
  live : liveP m M
  clo : Clo m → (∀ i ∈ v.ids, i < m.length + 1) → Clo M
theorem Plus.snoc (m : Mem) (v : SV) (c b : Nat) : Plus m b v c (m ++ [some (v, c)]) :=
  ⟨by simp, blockOf_snoc _ _, fun q hq _ => blockOf_append_lt _ _ q hq, fun q hq h => by rw [blockOf_append_lt _ _ q hq] at h; exact h, fun h hv => snoc_clo h hv⟩
theorem Plus.forget (m : Mem) (v : SV) (c b : Nat) : Plus m b v c (forget m b ++ [some (v, c)]) := by
  have hl := forget_len m b
  refine ⟨by simp [hl], by have := blockOf_snoc (Go.Proofs.YtjanlnngeklhoabGreat.forget m b) (some (v, c)); rwa [hl] at this, fun q hq hne => by rw [blockOf_append_lt _ _ q (by rw [hl]; exact hq), forget_get m b q hne], fun q hq h => ?_, fun h hv => snoc_clo (forget_clo h b) (by rw [hl]; exact hv)⟩
  rw [blockOf_append_lt _ _ q (by rw [hl]; exact hq)] at h
  by_cases e : q = b
  · subst e; rw [forget_none] at h; cases h
  · rwa [forget_get m b q e] at h
section
variable {P : Program} {T : Tab} {N : Nat} {ops : Array Oper} {o : Oper} {r : List Oper} {s : Slots} {m : Mem} {K : Slots → Mem → Prop} {t b b2 n cap o2 m2 c2 es by_ n1 n2 c d2 : Nat} {k : IntKind} {f g : Nat → Int} {cl : Call}
/-- rows behind a slice that is the function's own: they lie in a new block from now on -/
theorem opsVC_appN (hg : o.guard = none) (ho : o.op = .call cl) (hc : cl.callee = .builtin .append) (hts : cl.argTypes.toList = [t, t]) (hx : evs s cl.args.toList = some [.sl b 0 n cap, .sl b2 o2 m2 c2]) (ht : T.ti t = .slice es) (hap : T.app t = some by_)
    (hb : blockOf m b = some (.ints k n1 f, c)) (hb2 : blockOf m b2 = some (.ints k n2 g, d2)) (hin : o2 + m2 * es ≤ n2) (hown : T.own ≤ b) (hsz : n * es ≤ n1 ∧ c = cap * es ∧ n ≤ cap ∧ (n + m2) * by_ ≤ 140737488355328 ∧ n + m2 ≤ 4611686018427387904)
    (hk : ∀ cap' F M', n + m2 ≤ cap' → (∀ j, j < n * es → F j = f j) → (∀ j, F (n * es + j) = g (j + o2)) → Plus m b (.ints k ((n + m2) * es) F) (cap' * es) M' → opsVC P T N ops r (sset N s o.dst (.sl m.length 0 (n + m2) cap')) M' K) : opsVC P T N ops (o :: r) s m K := by
  refine opsVC_one hg ?_
  simp only [oneVC, ho, hc, hts, hx, appAny, Nat.beq_refl, appVC, ht, hap, hb2]
  refine ⟨hin, .inr (.inl ?_)⟩
  simp only [appNew, hb]
  exact chk_iff.2 ⟨by
    have e1 : ikEq k k = true := by cases k <;> rfl
    have e2 : Nat.ble T.own b = true := Nat.ble_eq_true_of_le hown
    rw [e1, e2]; rfl, hsz, fun cap' hcap => hk cap' _ _ hcap (fun j hj => if_pos hj) (fun j => by show (if n * es + j < n * es then _ else g (n * es + j - n * es + o2)) = _; rw [if_neg (by omega), show n * es + j - n * es + o2 = j + o2 by omega]) (Plus.forget m _ _ b)⟩
theorem opsVC_row1 {ps : Array (Nat × Operand)} (hg : o.guard = none) (ho : o.op = .buildSlice t 1 ps) (ht : T.ti t = .slice es) (he : (T.elem0 t).bind elemRow = some (k, es, f)) (hes : (Nat.blt 0 es && Nat.ble (1 * es) 16777216) = true) (hp : evParts s ps.toList = some [(0, .ints k es g)])
    (hk : ∀ G M', (∀ j, j < es → G j = g j) → Plus m m.length (.ints k (1 * es) G) (1 * es) M' → opsVC P T N ops r (sset N s o.dst (.sl m.length 0 1 1)) M' K) : opsVC P T N ops (o :: r) s m K := by
  refine opsVC_one hg ?_
  simp only [oneVC, ho, newVC, ht, he, hp, Nat.beq_refl, Bool.true_and]
  refine chk_iff.2 ⟨hes, ?_⟩
  have e1 : ikEq k k = true := by cases k <;> rfl
  have e2 : Nat.ble (0 * es + es) (1 * es) = true := Nat.ble_eq_true_of_le (by omega)
  simp only [fillA, Nat.beq_refl, e1, e2]
  exact chk_iff.2 ⟨rfl, hk _ _ (fun j hj => by unfold updR; rw [if_pos (by omega)]; congr 1; omega) (Plus.snoc _ _ _ _)⟩
theorem opsVC_appE (hg : o.guard = none) (ho : o.op = .call cl) (hc : cl.callee = .builtin .append) (hts : cl.argTypes.toList = [t, t]) (hx : evs s cl.args.toList = some [.nilsl, .sl b2 o2 m2 c2]) (ht : T.ti t = .slice es) (hap : T.app t = some by_)
    (hb2 : blockOf m b2 = some (.ints k n2 g, d2)) (hin : o2 + m2 * es ≤ n2) (hsz : 0 < m2 ∧ m2 * by_ ≤ 140737488355328 ∧ m2 ≤ 4611686018427387904)
    (hk : ∀ cap' F M', m2 ≤ cap' → (∀ j, F j = g (j + o2)) → Plus m m.length (.ints k (m2 * es) F) (cap' * es) M' → opsVC P T N ops r (sset N s o.dst (.sl m.length 0 m2 cap')) M' K) : opsVC P T N ops (o :: r) s m K := by
  refine opsVC_one hg ?_
  simp only [oneVC, ho, hc, hts, hx, appAny, Nat.beq_refl, appVC, ht, hap, hb2]
  exact ⟨hin, .inr (.inr (.inl (chk_iff.2 ⟨rfl, hsz, fun cap' hcap => hk cap' _ _ hcap (fun _ => rfl) (Plus.snoc _ _ _ _)⟩)))⟩
end

theorem firstPlaceM_s (m : Mem) (id w cap c : Nat) (g : Nat → Int) (hb : blockOf m id = some (.ints .u8 w g, c)) (hm : Clo m) (hw : w ≤ 1000000) :
    Spec Tryz.prog 67 [.sl id 0 w cap] m (fun r m' => m' = m ∧ ∃ k : Nat, k ≤ w ∧ (∀ i, i < k → g i = 0) ∧ (k < w → g k ≠ 0) ∧ r = .int .i64 k) := by
  have hlt : id < m.length := blockOf_lt (by rw [hb]; rfl)
  refine Spec.of_vc tabOK tabEq Tryz.func67 rfl (by kernel_rfl) rfl (by simp [idsOf, SV.ids, Nat.blt_eq, hlt]) ?_
  refine LoopVC.ofR (fun i : Nat => i ≤ w ∧ ∀ j, j < i → g j = 0) (fun i => [(0, .sl id 0 w cap), (5, .sl id 0 w cap), (6, .int .i64 w), (7, .int .i64 i)]) (fun _ => m) (fun i => w - i) 0 ⟨by omega, fun j hj => by omega⟩ (fun i => i) (RenTo.same (And.intro rfl (And.intro rfl (And.intro rfl (And.intro rfl (trivial))))) fun i u d hb => ⟨u, hb, eqv_refl u⟩) (fun _ _ => Nat.le_refl _) ?_ ?_
  · exact fun i hi => OkP.of (by simp [SV.ids, hlt]) hm
  · rintro i ⟨hi, hall⟩
    refine ifVC_split (fun hh => ?_) (fun hh => ?_)
    · have hlt := of_decide_eq_true hh
      (repeat (first | refine And.intro (by omega) ?_ | refine And.intro ⟨by omega, by omega⟩ ?_))
      refine opsVC_load rfl rfl rfl rfl hb (by omega) ?_
      have hidx : (i : Int).toNat * 1 + 0 = i := by omega
      refine ifVC_split (fun hc => ?_) (fun hc => ?_)
      · have hc : g i ≠ 0 := by
          have hc : g ((i : Int).toNat * 1 + 0) ≠ 0 := by simpa using hc
          rw [hidx] at hc; exact hc
        exact ⟨rfl, i, by omega, hall, fun _ => hc, rfl⟩
      · have hc : g i = 0 := by
          have hc : g ((i : Int).toNat * 1 + 0) = 0 := by simpa using hc
          rw [hidx] at hc; exact hc
        refine Exists.intro (i + 1) (Exists.intro (fun i => i) (And.intro ⟨by omega, fun j hj => ?_⟩ (And.intro (by omega) (RenTo.same ?_ fun i u d hb => ⟨u, hb, eqv_refl u⟩))))
        · by_cases hji : j = i
          · subst hji; exact hc
          · exact hall j (by omega)
        · exact And.intro rfl (And.intro rfl (And.intro rfl (And.intro (slotI (wrapS (by omega))) trivial)))
    · have hge := of_decide_eq_false hh
      obtain rfl : i = w := by omega
      exact ⟨rfl, i, by omega, hall, fun h => absurd h (Nat.lt_irrefl _), rfl⟩

/-- a list of vectors that may be nil where it is empty -/
def listV (id k c : Nat) : SV := if k = 0 then .nilsl else .sl id 0 k c
abbrev KS := Nat × (Nat → Int) × Nat × Nat × SV × Mem
structure KI (M : Mem) (k t w : Nat) (a : Nat → Nat → Int) (x : KS) : Prop where
  l : x.1 ≤ k
  v : x.2.2.2.2.1 = listV x.2.2.1 (x.1 - t) x.2.2.2.1
  A : ∀ i, i < x.1 - t → ∀ j, j < 8 → x.2.1 (i * 8 + j) = a (t + i) (w + j)
  b : x.1 - t ≠ 0 → M.length ≤ x.2.2.1 ∧ blockOf x.2.2.2.2.2 x.2.2.1 = some (.ints .u8 ((x.1 - t) * 8) x.2.1, x.2.2.2.1 * 8) ∧ x.1 - t ≤ x.2.2.2.1
  old : ∀ q, q < M.length → blockOf x.2.2.2.2.2 q = blockOf M q
  len : M.length ≤ x.2.2.2.2.2.length
  clo : Clo x.2.2.2.2.2

theorem kernelOf_s (m : Mem) (hd N c0 n cap w p : Nat) (h : Nat → SV) (ρ o cp Ni d : Nat → Nat) (g : Nat → Nat → Int) (hhdr : blockOf m hd = some (.vec N h, c0)) (hfit : n ≤ N) (hsl : ∀ i, i < n → h i = .sl (ρ i) (o i) w (cp i))
    (hrow : ∀ i, i < n → blockOf m (ρ i) = some (.ints .u8 (Ni i) (g i), d i)) (hin : ∀ i, i < n → o i + w ≤ Ni i) (hm : Clo m) (hn : 1 ≤ n ∧ n ≤ 8) (hw : w ≤ 1000) (hp : primeB (p : Int) = true) (hp2 : 2 ≤ p ∧ p ≤ 31) (hr : ∀ i, i < n → ∀ j, j < w → 0 ≤ g i (j + o i) ∧ g i (j + o i) < p) :
    Spec Tryz.prog 41 [.int .i64 p, .sl hd 0 n cap] m (fun r m' => ∃ id k c A, r = listV id k c ∧ RedL p (KerG p n w fun i j => g i (j + o i)) k A ∧ (k ≠ 0 → m.length ≤ id ∧ blockOf m' id = some (.ints .u8 (k * 8) A, c * 8) ∧ k ≤ c) ∧ m.length ≤ m'.length ∧ ∀ q, q < m.length → blockOf m' q = blockOf m q) := by
  have hlt : hd < m.length := blockOf_lt (by rw [hhdr]; rfl)
  refine Spec.of_vc (tabOK.dir fun g => Nat.beq g 66 || Nat.beq g 51 || Nat.beq g 67) (tabEq.dir _) Tryz.func41 rfl (by kernel_rfl) rfl (by simp [idsOf, SV.ids, Nat.blt_eq, hlt]) ?_
  (repeat (first | refine And.intro (by omega) ?_ | refine And.intro ⟨by omega, by omega⟩ ?_))
  refine opsVC_loadS (v := .sl (ρ 0) (o 0) w (cp 0)) rfl rfl rfl rfl hhdr (by omega) (hsl 0 (by omega)) rfl ?_
  refine opsVC_len rfl rfl rfl rfl rfl rfl ?_
  (repeat (first | (with_reducible refine vc_exit ?_) | (with_reducible refine vc_ret ?_) | (with_reducible refine vc_skip ?_) | (with_reducible refine thenQ_x ?_) | (with_reducible refine thenQ_r ?_) | (with_reducible refine thenQ_n ?_) | (with_reducible refine blockQ_x rfl ?_) | (with_reducible refine blockQ_y rfl ?_) | (with_reducible refine blockQ_n ?_) | (with_reducible refine blockQ_r ?_) | (with_reducible refine vc_seq ?_) | (with_reducible refine vc_region ?_) | (with_reducible refine vc_block ?_) | (with_reducible refine vc_scope ?_) | (with_reducible refine opsVC_nil ?_)))
  refine opsVC_as rfl rfl rfl ?_
  (repeat (first | (with_reducible refine vc_exit ?_) | (with_reducible refine vc_ret ?_) | (with_reducible refine vc_skip ?_) | (with_reducible refine thenQ_x ?_) | (with_reducible refine thenQ_r ?_) | (with_reducible refine thenQ_n ?_) | (with_reducible refine blockQ_x rfl ?_) | (with_reducible refine blockQ_y rfl ?_) | (with_reducible refine blockQ_n ?_) | (with_reducible refine blockQ_r ?_) | (with_reducible refine vc_seq ?_) | (with_reducible refine vc_region ?_) | (with_reducible refine vc_block ?_) | (with_reducible refine vc_scope ?_) | (with_reducible refine opsVC_nil ?_)))
  refine opsVC_as rfl rfl rfl ?_
  (repeat (first | (with_reducible refine vc_exit ?_) | (with_reducible refine vc_ret ?_) | (with_reducible refine vc_skip ?_) | (with_reducible refine thenQ_x ?_) | (with_reducible refine thenQ_r ?_) | (with_reducible refine thenQ_n ?_) | (with_reducible refine blockQ_x rfl ?_) | (with_reducible refine blockQ_y rfl ?_) | (with_reducible refine blockQ_n ?_) | (with_reducible refine blockQ_r ?_) | (with_reducible refine vc_seq ?_) | (with_reducible refine vc_region ?_) | (with_reducible refine vc_block ?_) | (with_reducible refine vc_scope ?_) | (with_reducible refine opsVC_nil ?_)))
  refine opsVC_mv rfl rfl rfl ?_
  refine opsVC_mv rfl rfl rfl ?_
  refine opsVC_dir rfl rfl rfl rfl rfl rfl ?_
  refine Spec.mono (graphOf_s m hd N c0 n cap w h ρ o cp Ni d g hhdr hfit hsl hrow hin hm hn.2 hw) ?_
  rintro r m' ⟨cc, F, C, rfl, rfl, hcc, hF⟩
  refine ⟨memG_live _ _ _ _ _ _ _, ?_⟩
  have hgr := gw_rng (p := (p : Int)) (n := n) (w := w) (g := fun i j => g i (j + o i)) (by omega) hn.2 hr
  refine opsVC_dir rfl rfl rfl rfl rfl rfl ?_
  refine Spec.mono (reduceRows_s (memG m n (w + 8) n cc F C) m.length n n n n (w + 8) p (hdrF m.length (w + 8) n cc) (fun k => m.length + 1 + k) cc F C (memG_fam _ _ _ _ _ _ hcc) (memG_clo _ _ _ _ _ _ _ hm) (fun a b _ _ e => by have e : m.length + 1 + a = m.length + 1 + b := e; omega) (by omega) (Nat.le_refl _) (by omega) hp hp2 (fun k hk j hj => by rw [hF k hk j hj]; exact hgr k hk j hj)) ?_
  rintro r M ⟨k, h', ρ', cp', a, d', P, rfl, hk, hb, hred⟩
  refine ⟨hb.live, ?_⟩
  have hsp : ∀ v, Sp p (w + 8) n F v ↔ Sp p (w + 8) n (graphRow (fun i j => g i (j + o i)) w) v := fun v => Sp.congr (by omega) (fun l hl j hj => hF l hl j hj) (fun l hl j hj => by rw [hF l hl j hj]; exact hgr l hl j hj)
  have hred := hred.of_iff hsp
  obtain ⟨t, ht, ht1, ht2⟩ := split_at (w := w) hred.inc
  have hker := kerG_red (by omega) hn.2 hr hred ht ht1 ht2
  have hlen : M.length = m.length + 1 + n := by rw [hb.len, memG_len]
  have hMm : ∀ q, q < m.length → blockOf M q = blockOf m q := fun q hq => (hb.out q (by omega) (fun i hi => by omega)).trans (memG_old _ _ _ _ _ _ _ hq)
  have hsl' : ∀ l, l < n → h' l = .sl (ρ' l) 0 (w + 8) (cp' l) := fun l hl => by have := hb.fam.sl l hl; rwa [Nat.zero_add] at this
  have hρ : ∀ l, l < n → ρ' l < M.length := hb.fam.lt
  have hhd : m.length < M.length := by omega
  refine opsVC_len rfl rfl rfl rfl rfl rfl ?_
  refine opsVC_mv rfl rfl rfl ?_
  (repeat (first | (with_reducible refine vc_exit ?_) | (with_reducible refine vc_ret ?_) | (with_reducible refine vc_skip ?_) | (with_reducible refine thenQ_x ?_) | (with_reducible refine thenQ_r ?_) | (with_reducible refine thenQ_n ?_) | (with_reducible refine blockQ_x rfl ?_) | (with_reducible refine blockQ_y rfl ?_) | (with_reducible refine blockQ_n ?_) | (with_reducible refine blockQ_r ?_) | (with_reducible refine vc_seq ?_) | (with_reducible refine vc_region ?_) | (with_reducible refine vc_block ?_) | (with_reducible refine vc_scope ?_) | (with_reducible refine opsVC_nil ?_)))
  refine LoopVC.ofR (KI M k t w a) (fun x => [(5, .int .i64 w), (6, x.2.2.2.2.1), (16, .sl m.length 0 k n), (17, .int .i64 k), (18, .int .i64 x.1)]) (fun x => x.2.2.2.2.2) (fun x => k - x.1) (0, (fun _ => 0), 0, 0, .nilsl, M)
    ⟨Nat.zero_le _, by show SV.nilsl = listV 0 (0 - t) 0; unfold listV; rw [if_pos (Nat.zero_sub t)], fun i hi => by have hi : i < 0 - t := hi; omega, fun hne => absurd (Nat.zero_sub t) hne, fun _ _ => rfl, Nat.le_refl _, hb.clo⟩ (fun i => i) (RenTo.same (And.intro rfl (And.intro rfl (And.intro rfl (And.intro rfl (And.intro rfl (trivial)))))) fun i u d hb => ⟨u, hb, eqv_refl u⟩) ?_ ?_ ?_
  · intro x hx; have := hx.len; show m.length ≤ _; omega
  · intro x hx
    refine OkP.of ?_ hx.clo
    have h1 := hx.len
    have h2 : ∀ i ∈ x.2.2.2.2.1.ids, i < x.2.2.2.2.2.length := fun i hi => by
      rw [hx.v] at hi
      unfold listV at hi
      by_cases e : x.1 - t = 0
      · rw [if_pos e] at hi; cases hi
      · rw [if_neg e] at hi
        simp [SV.ids] at hi
        subst hi
        exact blockOf_lt (by rw [(hx.b e).2.1]; rfl)
    intro q hq i hi
    simp only [List.mem_cons, List.not_mem_nil, or_false] at hq
    rcases hq with rfl | rfl | rfl | rfl | rfl
    · cases hi
    · exact h2 i hi
    · simp [SV.ids] at hi; omega
    · cases hi
    · cases hi
  · rintro ⟨l, A, id, c, v6, M'⟩ ⟨hl, hv, hA, hB, hO, hL, hC⟩
    dsimp only at hl hv hA hB hO hL hC
    have hlx : (l : Int).toNat * 1 + 0 = l := by omega
    refine ifVC_split (fun h1 => ?_) (fun h1 => ?_)
    · have hlk : l < k := by have := of_decide_eq_true h1; omega
      have hrowl := (hO _ (hρ l (by omega))).trans (hb.fam.row l (by omega))
      have hcp := hb.fam.cap l (by omega)
      (repeat (first | refine And.intro (by omega) ?_ | refine And.intro ⟨by omega, by omega⟩ ?_))
      refine opsVC_loadS (v := .sl (ρ' l) 0 (w + 8) (cp' l)) rfl rfl rfl rfl ((hO _ hhd).trans hb.fam.hdr) (by omega) (by rw [hlx]; exact hsl' l (by omega)) rfl ?_
      refine opsVC_as rfl rfl rfl ?_
      (repeat (first | (with_reducible refine vc_exit ?_) | (with_reducible refine vc_ret ?_) | (with_reducible refine vc_skip ?_) | (with_reducible refine thenQ_x ?_) | (with_reducible refine thenQ_r ?_) | (with_reducible refine thenQ_n ?_) | (with_reducible refine blockQ_x rfl ?_) | (with_reducible refine blockQ_y rfl ?_) | (with_reducible refine blockQ_n ?_) | (with_reducible refine blockQ_r ?_) | (with_reducible refine vc_seq ?_) | (with_reducible refine vc_region ?_) | (with_reducible refine vc_block ?_) | (with_reducible refine vc_scope ?_) | (with_reducible refine opsVC_nil ?_)))
      refine opsVC_mv rfl rfl rfl ?_
      refine opsVC_dir rfl rfl rfl rfl rfl rfl ?_
      refine Spec.mono (firstPlaceM_s M' (ρ' l) (w + 8) (cp' l) _ _ hrowl hC (by omega)) ?_
      rintro r m' ⟨rfl, f, hf, hf1, hf2, rfl⟩
      refine ⟨liveP.refl _, ?_⟩
      have hfP : f = P l := by
        have g1 := hred.one l hlk
        have g2 := hred.bef l hlk
        have g3 := hred.lt l hlk
        rcases Nat.lt_trichotomy f (P l) with e | e | e
        · exact absurd (g2 f e) (hf2 (by omega))
        · exact e
        · have := hf1 _ e; omega
      subst hfP
      refine ifVC_split (fun h3 => ?_) (fun h3 => ?_)
      · have h3 : w ≤ P l := by have := of_decide_eq_true h3; omega
        have htl : t ≤ l := by
          by_cases e : l < t
          · have := ht1 l e; omega
          · omega
        have hwx : (w : Int).toNat * 1 + 0 + 8 ≤ w + 8 := by omega
        by_cases hz : l - t = 0
        · have e6 : v6 = .nilsl := by rw [hv]; unfold listV; rw [if_pos hz]
          subst e6
          (repeat (first | (with_reducible refine vc_exit ?_) | (with_reducible refine vc_ret ?_) | (with_reducible refine vc_skip ?_) | (with_reducible refine thenQ_x ?_) | (with_reducible refine thenQ_r ?_) | (with_reducible refine thenQ_n ?_) | (with_reducible refine blockQ_x rfl ?_) | (with_reducible refine blockQ_y rfl ?_) | (with_reducible refine blockQ_n ?_) | (with_reducible refine blockQ_r ?_) | (with_reducible refine vc_seq ?_) | (with_reducible refine vc_region ?_) | (with_reducible refine vc_block ?_) | (with_reducible refine vc_scope ?_) | (with_reducible refine opsVC_nil ?_)))
          refine opsVC_mv rfl rfl rfl ?_
          refine opsVC_mv rfl rfl rfl ?_
          refine opsVC_mv rfl rfl rfl ?_
          (repeat (first | refine And.intro (by omega) ?_ | refine And.intro ⟨by omega, by omega⟩ ?_))
          refine opsVC_loadR (l := 8) rfl rfl rfl rfl hrowl hwx ?_
          refine opsVC_row1 rfl rfl rfl rfl rfl rfl fun G M1 hG p1 => ?_
          refine opsVC_appE rfl rfl rfl rfl rfl rfl rfl p1.new (Nat.le_refl _) (by omega) fun cap' F M2 hcap hF p2 => ?_
          refine opsVC_as rfl rfl rfl ?_
          (repeat (first | (with_reducible refine vc_exit ?_) | (with_reducible refine vc_ret ?_) | (with_reducible refine vc_skip ?_) | (with_reducible refine thenQ_x ?_) | (with_reducible refine thenQ_r ?_) | (with_reducible refine thenQ_n ?_) | (with_reducible refine blockQ_x rfl ?_) | (with_reducible refine blockQ_y rfl ?_) | (with_reducible refine blockQ_n ?_) | (with_reducible refine blockQ_r ?_) | (with_reducible refine vc_seq ?_) | (with_reducible refine vc_region ?_) | (with_reducible refine vc_block ?_) | (with_reducible refine vc_scope ?_) | (with_reducible refine opsVC_nil ?_)))
          have q1 := p1.len
          have q2 := p2.len
          have e1 : l + 1 - t = 1 := by omega
          refine Exists.intro ⟨l + 1, F, M1.length, cap', .sl M1.length 0 1 cap', M2⟩ (Exists.intro (fun i => i) (And.intro ⟨hlk, ?_, fun i hi j hj => ?_, fun hne => ⟨?_, ?_, ?_⟩, fun q hq => ?_, ?_, ?_⟩ (And.intro (show k - (l + 1) < k - l by omega) (RenTo.same ?_ fun i u d hb => ⟨u, hb, eqv_refl u⟩))))
          · show _ = listV M1.length (l + 1 - t) cap'
            rw [e1]; rfl
          · have hi : i < l + 1 - t := hi
            obtain rfl : i = 0 := by omega
            show F (0 * 8 + j) = a (t + 0) (w + j)
            rw [hF, hG _ (by omega)]
            show a l (0 * 8 + j + 0 + ((w : Int).toNat * 1 + 0)) = _
            congr 1 <;> omega
          · show M.length ≤ M1.length; omega
          · show blockOf M2 M1.length = some (.ints .u8 ((l + 1 - t) * 8) F, cap' * 8)
            rw [e1]; exact p2.new
          · show l + 1 - t ≤ cap'; omega
          · show blockOf M2 q = _
            rw [p2.old q (by omega) (by omega), p1.old q (by omega) (by omega)]; exact hO q hq
          · show M.length ≤ M2.length; omega
          · exact p2.clo (p1.clo hC (by simp [SV.ids])) (by simp [SV.ids])
          · exact And.intro rfl (And.intro rfl (And.intro rfl (And.intro rfl (And.intro (slotI (wrapS (by omega))) trivial))))
        · have e6 : v6 = .sl id 0 (l - t) c := by rw [hv]; unfold listV; rw [if_neg hz]
          obtain ⟨b1, b2, b3⟩ := hB hz
          have hidl := blockOf_lt (m := m') (id := id) (by rw [b2]; rfl)
          subst e6
          (repeat (first | (with_reducible refine vc_exit ?_) | (with_reducible refine vc_ret ?_) | (with_reducible refine vc_skip ?_) | (with_reducible refine thenQ_x ?_) | (with_reducible refine thenQ_r ?_) | (with_reducible refine thenQ_n ?_) | (with_reducible refine blockQ_x rfl ?_) | (with_reducible refine blockQ_y rfl ?_) | (with_reducible refine blockQ_n ?_) | (with_reducible refine blockQ_r ?_) | (with_reducible refine vc_seq ?_) | (with_reducible refine vc_region ?_) | (with_reducible refine vc_block ?_) | (with_reducible refine vc_scope ?_) | (with_reducible refine opsVC_nil ?_)))
          refine opsVC_mv rfl rfl rfl ?_
          refine opsVC_mv rfl rfl rfl ?_
          refine opsVC_mv rfl rfl rfl ?_
          (repeat (first | refine And.intro (by omega) ?_ | refine And.intro ⟨by omega, by omega⟩ ?_))
          refine opsVC_loadR (l := 8) rfl rfl rfl rfl hrowl hwx ?_
          refine opsVC_row1 rfl rfl rfl rfl rfl rfl fun G M1 hG p1 => ?_
          have hk8 : k ≤ n := hk
          refine opsVC_appN rfl rfl rfl rfl rfl rfl rfl ((p1.old id hidl (by omega)).trans b2) p1.new (Nat.le_refl _) (show m.length ≤ id by omega) ⟨Nat.le_refl _, rfl, b3, by omega, by omega⟩ fun cap' F M2 hcap hF1 hF2 p2 => ?_
          refine opsVC_as rfl rfl rfl ?_
          (repeat (first | (with_reducible refine vc_exit ?_) | (with_reducible refine vc_ret ?_) | (with_reducible refine vc_skip ?_) | (with_reducible refine thenQ_x ?_) | (with_reducible refine thenQ_r ?_) | (with_reducible refine thenQ_n ?_) | (with_reducible refine blockQ_x rfl ?_) | (with_reducible refine blockQ_y rfl ?_) | (with_reducible refine blockQ_n ?_) | (with_reducible refine blockQ_r ?_) | (with_reducible refine vc_seq ?_) | (with_reducible refine vc_region ?_) | (with_reducible refine vc_block ?_) | (with_reducible refine vc_scope ?_) | (with_reducible refine opsVC_nil ?_)))
          have q1 := p1.len
          have q2 := p2.len
          have e1 : l + 1 - t = l - t + 1 := by omega
          refine Exists.intro ⟨l + 1, F, M1.length, cap', .sl M1.length 0 (l - t + 1) cap', M2⟩ (Exists.intro (fun i => i) (And.intro ⟨hlk, ?_, fun i hi j hj => ?_, fun hne => ⟨?_, ?_, ?_⟩, fun q hq => ?_, ?_, ?_⟩ (And.intro (show k - (l + 1) < k - l by omega) (RenTo.same ?_ fun i u d hb => ⟨u, hb, eqv_refl u⟩))))
          · show _ = listV M1.length (l + 1 - t) cap'
            rw [e1]; rfl
          · have hi : i < l + 1 - t := hi
            show F (i * 8 + j) = a (t + i) (w + j)
            by_cases e : i = l - t
            · rw [show i * 8 + j = (l - t) * 8 + j by omega, hF2, hG _ (by omega)]
              show a l (j + 0 + ((w : Int).toNat * 1 + 0)) = _
              congr 1 <;> omega
            · rw [hF1 _ (by omega)]; exact hA i (by omega) j hj
          · show M.length ≤ M1.length; omega
          · show blockOf M2 M1.length = some (.ints .u8 ((l + 1 - t) * 8) F, cap' * 8)
            rw [e1]; exact p2.new
          · show l + 1 - t ≤ cap'; omega
          · show blockOf M2 q = _
            rw [p2.old q (by omega) (by omega), p1.old q (by omega) (by omega)]; exact hO q hq
          · show M.length ≤ M2.length; omega
          · exact p2.clo (p1.clo hC (by simp [SV.ids])) (by simp [SV.ids])
          · exact And.intro rfl (And.intro rfl (And.intro rfl (And.intro rfl (And.intro (slotI (wrapS (by omega))) trivial))))
      · have h3 : P l < w := by have := of_decide_eq_false h3; omega
        have hlt' : l < t := by
          by_cases e : l < t
          · exact e
          · have := ht2 l (by omega) hlk; omega
        have e1 : l + 1 - t = l - t := by omega
        refine Exists.intro ⟨l + 1, A, id, c, v6, m'⟩ (Exists.intro (fun i => i) (And.intro ⟨hlk, ?_, fun i hi => ?_, fun hne => ?_, hO, hL, hC⟩ (And.intro (show k - (l + 1) < k - l by omega) (RenTo.same ?_ fun i u d hb => ⟨u, hb, eqv_refl u⟩))))
        · show v6 = listV id (l + 1 - t) c
          rw [e1]; exact hv
        · have hi : i < l + 1 - t := hi
          omega
        · have hne : l + 1 - t ≠ 0 := hne
          omega
        · exact And.intro rfl (And.intro (eqv_refl v6) (And.intro rfl (And.intro rfl (And.intro (slotI (wrapS (by omega))) trivial))))
    · have hlk : l = k := by have := of_decide_eq_false h1; omega
      subst hlk
      (repeat (first | (with_reducible refine vc_exit ?_) | (with_reducible refine vc_ret ?_) | (with_reducible refine vc_skip ?_) | (with_reducible refine thenQ_x ?_) | (with_reducible refine thenQ_r ?_) | (with_reducible refine thenQ_n ?_) | (with_reducible refine blockQ_x rfl ?_) | (with_reducible refine blockQ_y rfl ?_) | (with_reducible refine blockQ_n ?_) | (with_reducible refine blockQ_r ?_) | (with_reducible refine vc_seq ?_) | (with_reducible refine vc_region ?_) | (with_reducible refine vc_block ?_) | (with_reducible refine vc_scope ?_) | (with_reducible refine opsVC_nil ?_)))
      refine opsVC_mv rfl rfl rfl ?_
      refine opsVC_as rfl rfl rfl ?_
      (repeat (first | (with_reducible refine vc_exit ?_) | (with_reducible refine vc_ret ?_) | (with_reducible refine vc_skip ?_) | (with_reducible refine thenQ_x ?_) | (with_reducible refine thenQ_r ?_) | (with_reducible refine thenQ_n ?_) | (with_reducible refine blockQ_x rfl ?_) | (with_reducible refine blockQ_y rfl ?_) | (with_reducible refine blockQ_n ?_) | (with_reducible refine blockQ_r ?_) | (with_reducible refine vc_seq ?_) | (with_reducible refine vc_region ?_) | (with_reducible refine vc_block ?_) | (with_reducible refine vc_scope ?_) | (with_reducible refine opsVC_nil ?_)))
      refine ⟨id, l - t, c, A, hv, redL_of (kerG_space (by omega)) hker fun i hi j hj => by show A (j + i * 8) = _; rw [Nat.add_comm]; exact hA i hi j hj, fun hne => ?_, by show m.length ≤ M'.length; omega, fun q hq => (hO q (by omega)).trans (hMm q hq)⟩
      obtain ⟨b1, b2, b3⟩ := hB hne
      exact ⟨by omega, b2, b3⟩
end Go.Proofs.YtjanlnngeklhoabGreat

/- Lists of vectors as results, told by the space alone; CentreOf, the program's side and the law. -/
set_option linter.unusedVariables false
set_option linter.unusedSimpArgs false
set_option maxRecDepth 100000
set_option maxHeartbeats 4000000
namespace Go.Proofs.YtjanlnngeklhoabGreat
open M

/-- a list of vectors, the reduced one of S, or an error e; b: an empty list is nil -/
def ListQ (b : Bool) (e : Int) (p : Int) (S : (Nat → Int) → Prop) (r : SV) (m : Mem) : Prop :=
  (e ≠ 0 ∧ r = .tcons .nilsl (.tcons (.int .i64 e) .tnil)) ∨
  (e = 0 ∧ ∃ id k c A, (b = true → k ≠ 0) ∧ r = .tcons (.sl id 0 k c) (.tcons (.int .i64 0) .tnil) ∧ RedL p S k A ∧ k ≤ c ∧ blockOf m id = some (.ints .u8 (k * 8) A, c * 8)) ∨
  (e = 0 ∧ b = true ∧ ∃ A, r = .tcons .nilsl (.tcons (.int .i64 0) .tnil) ∧ RedL p S 0 A)
/-- the same, with that list as the one block -/
def ListR (b : Bool) (e : Int) (p : Int) (S : (Nat → Int) → Prop) (r : SV) (m : Mem) : Prop :=
  (e ≠ 0 ∧ r = .tcons .nilsl (.tcons (.int .i64 e) .tnil) ∧ m = []) ∨
  (e = 0 ∧ ∃ k c A, (b = true → k ≠ 0) ∧ r = .tcons (.sl 0 0 k c) (.tcons (.int .i64 0) .tnil) ∧ RedL p S k A ∧ m = [some (.ints .u8 (k * 8) A, c * 8)]) ∨
  (e = 0 ∧ b = true ∧ ∃ A, r = .tcons .nilsl (.tcons (.int .i64 0) .tnil) ∧ RedL p S 0 A ∧ m = [])
theorem ListQ.one {P : Program} {f : Nat} {args : List SV} {b : Bool} {e p : Int} {S : (Nat → Int) → Prop} (h : Spec P f args [] (ListQ b e p S)) : Spec P f args [] (ListR b e p S) := by
  refine Spec.single h ?_
  rintro r m' (⟨h1, rfl⟩ | ⟨h1, id, k, c, A, h0, rfl, h2, h3, hb⟩ | ⟨h1, h0, A, rfl, h2⟩)
  · exact .inl ⟨.inl ⟨h1, rfl, rfl⟩, rfl⟩
  · exact .inr ⟨id, _, _, hb, rfl, by simp [SV.ids], .inr (.inl ⟨h1, k, c, A, h0, rfl, h2, rfl⟩)⟩
  · exact .inl ⟨.inr (.inr ⟨h1, h0, A, rfl, h2, rfl⟩), rfl⟩
theorem redL_uniq {p : Int} {S : (Nat → Int) → Prop} {k k' : Nat} {A A' : Nat → Int} (hp : 1 < p) (hS : Space p 8 S) (h : RedL p S k A) (h' : RedL p S k' A') : k = k' ∧ ∀ j, j < k * 8 → A j = A' j := by
  obtain ⟨h1, h2, h3⟩ := Red.uniq hp hS h h'
  refine ⟨h1, fun j hj => ?_⟩
  have := h3 (j / 8) (by omega) (j % 8) (by omega)
  unfold partF at this
  rw [show j % 8 + j / 8 * 8 = j by omega] at this
  exact this
/-! ### steps -/
section
variable {P : Program} {T : Tab} {N : Nat} {ops : Array Oper} {o : Oper} {r : List Oper} {s : Slots} {m : Mem} {K : Slots → Mem → Prop} {t b b2 n cap o2 m2 c2 es by_ n1 n2 c d2 l : Nat} {k : IntKind} {f g u : Nat → Int} {cl : Call} {a x : Operand} {v : SV} {Kd : Option Tmp → SV → Slots → Mem → Prop}
/-- what is stored over the whole of a block that has just been made -/
theorem opsVC_putNew (hg : o.guard = none) (ho : o.op = .store t a x) (ha : ev s a = some (.ptr m.length [] 0 0)) (hx : ev s x = some (.ints k l u)) (ht : ((T.ti t).known && ((T.ti t).agg == some l)) = true)
    (hk : ∀ F M', (∀ j, j < l → F j = u j) → Plus m m.length (.ints k l F) c M' → opsVC P T N ops r (sset N s o.dst .undef) M' K) : opsVC P T N ops (o :: r) s (m ++ [some (.ints k l f, c)]) K := by
  refine opsVC_storeR hg ho ha hx ht (blockOf_snoc _ _) (by omega) ?_
  have e := setBlock_pre m [some (SV.ints k l f, c)] 0 (.ints k l (updR f 0 l u))
  rw [Nat.add_zero] at e
  rw [e]
  exact hk _ _ (fun j hj => by unfold updR; rw [if_pos (by omega)]; rfl) (Plus.snoc _ _ _ _)
theorem readsAt_nil {Kr : Slots → Prop} (h : Kr s) : readsAt T N m ops [] s Kr := h
end

/-! ### CentreOf -/
/-- e(i) e(j) less e(j) e(i), for all j in a row -/
def cimg (p : Int) (T : Nat → Int) (i q : Nat) : Int := addM p (vecT T i (q / 8)) (p - 1) (vecT T (q / 8) i) (q % 8)
/-- the memory of the outer loop: the algebra, the slices, and what came behind -/
abbrev cmem (p n : Nat) (U T : Nat → Int) (H : Nat → SV) (R : Mem) : Mem := some (algV p n U T, 522) :: some (.vec n H, n) :: R
def rowV (id k c : Nat) : SV := if k = 0 then .nilsl else .sl id 0 k c
theorem rowV_ids {id k c : Nat} {i : Nat} (h : i ∈ (rowV id k c).ids) : k ≠ 0 ∧ i = id := by
  unfold rowV at h
  by_cases e : k = 0
  · rw [if_pos e] at h; cases h
  · rw [if_neg e] at h; simp [SV.ids] at h; exact ⟨e, h⟩
structure CO (p n : Nat) (U T : Nat → Int) (x : Nat × (Nat → SV) × (Nat → Nat) × (Nat → Nat) × (Nat → Nat → Int) × Mem) : Prop where
  i : x.1 ≤ n
  nil : ∀ l, x.1 ≤ l → x.2.1 l = .nilsl
  sl : ∀ l, l < x.1 → x.2.1 l = .sl (x.2.2.1 l + 2) 0 (n * 8) (x.2.2.2.1 l)
  row : ∀ l, l < x.1 → blockOf x.2.2.2.2.2 (x.2.2.1 l) = some (.ints .u8 (n * 8) (x.2.2.2.2.1 l), x.2.2.2.1 l * 1)
  val : ∀ l, l < x.1 → ∀ q, q < n * 8 → x.2.2.2.2.1 l q = cimg p T l q
  clo : Clo (cmem p n U T x.2.1 x.2.2.2.2.2)
structure CJ (p n : Nat) (U T : Nat → Int) (H : Nat → SV) (R : Mem) (i : Nat) (y : Nat × (Nat → Int) × Nat × Nat × Mem) : Prop where
  j : y.1 ≤ n
  val : ∀ q, q < y.1 * 8 → y.2.1 q = cimg p T i q
  b : y.1 ≠ 0 → R.length ≤ y.2.2.1 ∧ blockOf y.2.2.2.2 y.2.2.1 = some (.ints .u8 (y.1 * 8) y.2.1, y.2.2.2.1 * 1) ∧ y.1 * 8 ≤ y.2.2.2.1
  old : ∀ q, q < R.length → blockOf y.2.2.2.2 q = blockOf R q
  len : R.length ≤ y.2.2.2.2.length
  clo : Clo (cmem p n U T (updV H i (rowV (y.2.2.1 + 2) (y.1 * 8) y.2.2.2.1)) y.2.2.2.2)
end Go.Proofs.YtjanlnngeklhoabGreat

/- CentreOf: the law. -/
set_option linter.unusedVariables false
set_option linter.unusedSimpArgs false
set_option maxRecDepth 100000
set_option maxHeartbeats 4000000
namespace Go.Proofs.YtjanlnngeklhoabGreat
open M

end Go.Proofs.YtjanlnngeklhoabGreat

/- Maps laid flat into rows of bytes. -/
set_option linter.unusedVariables false
set_option linter.unusedSimpArgs false
set_option maxRecDepth 100000
set_option maxHeartbeats 4000000
namespace Go.Proofs.YtjanlnngeklhoabGreat
open M

/-- a call by value that yields a slice of a new block -/
theorem callVC_new {P : Program} {f : Nat} {args : List SV} {m : Mem} {K : SV → Mem → Prop} (hids : idsOf args = []) (ha : ∀ ρ, args.map (SV.ren ρ) = args)
    (h : Spec P f args [] fun r m' => ∃ l c x d, r = .sl 0 0 l c ∧ m' = [some (x, d)] ∧ (∀ ρ, x.ren ρ = x) ∧ K (.sl m.length 0 l c) (m ++ [some (x, d)])) : callVC P f args m K := by
  refine callVC_of (ids := []) (by rw [hids]; rfl) ?_
  refine And.intro trivial ?_
  rw [ha]
  refine h.mono ?_
  rintro r m' ⟨l, c, x, d, rfl, rfl, hx, hk⟩
  have hback : backMem (nth [] m.length) m [] [some (x, d)] = m ++ [some (x, d)] := by
    refine mem_ext (by simp [backMem, backGo_length]) fun q hq => ?_
    rw [backMem]
    simp only [backMem, List.length_append, backGo_length, List.length_map, List.length_drop, List.length_cons, List.length_nil] at hq
    by_cases h1 : q < m.length
    · rw [blockOf_append_lt _ _ q (by rw [backGo_length]; exact h1), backGo_get _ _ _ m 0 q h1, Nat.zero_add, blockOf_append_lt _ _ q h1, if_neg (by simp)]
    · obtain rfl : q = m.length := by omega
      have e1 := blockOf_append_ge (backGo (nth [] m.length) [] [some (x, d)] 0 m) [some (x.ren (nth [] m.length), d)] 0
      rw [backGo_length, Nat.add_zero, hx] at e1
      have e2 := blockOf_append_ge m [some (x, d)] 0
      rw [Nat.add_zero] at e2
      rw [e2]
      show blockOf (_ ++ [some (x.ren (nth [] m.length), d)]) m.length = _
      rw [hx, e1]
  rw [hback]
  exact hk

structure FI (F : Nat → Int) (x : Nat × (Nat → Int) × Nat × Nat × SV × Mem) : Prop where
  i : x.1 ≤ 8
  v : x.2.2.2.2.1 = rowV x.2.2.1 (x.1 * 8) x.2.2.2.1
  val : ∀ q, q < x.1 * 8 → x.2.1 q = F q
  b : x.1 ≠ 0 → blockOf x.2.2.2.2.2 x.2.2.1 = some (.ints .u8 (x.1 * 8) x.2.1, x.2.2.2.1 * 1) ∧ x.1 * 8 ≤ x.2.2.2.1
  clo : Clo x.2.2.2.2.2
theorem flatTable0_s (F : Nat → Int) : Spec Tryz.prog 21 [.ints .u8 64 F] [] (fun r m => ∃ id c G, r = .sl id 0 64 c ∧ 64 ≤ c ∧ (∀ j, j < 64 → G j = F j) ∧ blockOf m id = some (.ints .u8 64 G, c * 1)) := by
  refine (Spec.of_vc tabOK tabEq Tryz.func21 rfl (by kernel_rfl) rfl rfl ?_)
  (repeat (first | refine And.intro (by omega) ?_ | refine And.intro ⟨by omega, by omega⟩ ?_))
  refine LoopVC.ofR (FI F) (fun x => [(3, x.2.2.2.2.1), (6, .ints .u8 64 F), (7, .int .i64 x.1)]) (fun x => x.2.2.2.2.2) (fun x => 8 - x.1) (0, (fun _ => 0), 0, 0, .nilsl, [])
    ⟨Nat.zero_le _, rfl, fun q hq => ?_, fun h => absurd rfl h, fun id u c hb => ?_⟩ (fun i => i) (RenTo.same ?_ fun i u d hb => ?_) (fun _ _ => Nat.zero_le _) ?_ ?_
  · have hq : q < 0 * 8 := hq
    omega
  · cases hb
  · exact And.intro rfl (And.intro (rowEq fun _ _ => rfl) (And.intro rfl trivial))
  · cases hb
  · intro x hx
    refine OkP.of ?_ hx.clo
    intro q hq i hi
    simp only [List.mem_cons, List.not_mem_nil, or_false] at hq
    rcases hq with rfl | rfl | rfl
    · have hi : i ∈ x.2.2.2.2.1.ids := hi
      rw [hx.v] at hi
      obtain ⟨h1, rfl⟩ := rowV_ids hi
      exact blockOf_lt (by rw [(hx.b (by omega)).1]; rfl)
    · cases hi
    · cases hi
  · rintro ⟨i, G, id, c, v, M⟩ ⟨hi, hv, hG, hB, hC⟩
    dsimp only at hi hv hG hB hC
    refine ifVC_split (fun h1 => ?_) (fun h1 => ?_)
    · have hlt : i < 8 := by have := of_decide_eq_true h1; omega
      have hix : (i : Int).toNat * 8 = i * 8 := by omega
      (repeat (first | refine And.intro (by omega) ?_ | refine And.intro ⟨by omega, by omega⟩ ?_))
      refine opsVC_alloc rfl rfl rfl rfl ?_
      change opsVC _ _ _ _ _ _ (M ++ [some (SV.ints .u8 8 fun _ => 0, 8)]) _
      refine opsVC_putNew rfl rfl rfl rfl rfl fun D M1 hD p1 => ?_
      (repeat (first | (with_reducible refine vc_exit ?_) | (with_reducible refine vc_ret ?_) | (with_reducible refine vc_skip ?_) | (with_reducible refine thenQ_x ?_) | (with_reducible refine thenQ_r ?_) | (with_reducible refine thenQ_n ?_) | (with_reducible refine blockQ_x rfl ?_) | (with_reducible refine blockQ_y rfl ?_) | (with_reducible refine blockQ_n ?_) | (with_reducible refine blockQ_r ?_) | (with_reducible refine vc_seq ?_) | (with_reducible refine vc_region ?_) | (with_reducible refine vc_block ?_) | (with_reducible refine vc_scope ?_) | (with_reducible refine opsVC_nil ?_)))
      have l1 := p1.len
      by_cases hz : i = 0
      · have e6 : v = .nilsl := by rw [hv, hz]; rfl
        subst e6
        refine opsVC_mv rfl rfl rfl ?_
        refine opsVC_slA rfl rfl rfl rfl ?_
        refine opsVC_appE rfl rfl rfl rfl rfl rfl rfl p1.new (by omega) (by omega) fun cap' F' M2 hcap hF p2 => ?_
        refine opsVC_as rfl rfl rfl ?_
        (repeat (first | (with_reducible refine vc_exit ?_) | (with_reducible refine vc_ret ?_) | (with_reducible refine vc_skip ?_) | (with_reducible refine thenQ_x ?_) | (with_reducible refine thenQ_r ?_) | (with_reducible refine thenQ_n ?_) | (with_reducible refine blockQ_x rfl ?_) | (with_reducible refine blockQ_y rfl ?_) | (with_reducible refine blockQ_n ?_) | (with_reducible refine blockQ_r ?_) | (with_reducible refine vc_seq ?_) | (with_reducible refine vc_region ?_) | (with_reducible refine vc_block ?_) | (with_reducible refine vc_scope ?_) | (with_reducible refine opsVC_nil ?_)))
        have l2 := p2.len
        refine Exists.intro (i + 1, F', M1.length, cap', .sl M1.length 0 8 cap', M2) (Exists.intro (fun i => i) (And.intro ⟨hlt, ?_, fun q hq => ?_, fun _ => ⟨?_, ?_⟩, ?_⟩ (And.intro (show 8 - (i + 1) < 8 - i by omega) (RenTo.same ?_ fun i u d hb => ⟨u, hb, eqv_refl u⟩))))
        · show _ = rowV M1.length ((i + 1) * 8) cap'
          rw [hz]; rfl
        · have hq : q < (i + 1) * 8 := hq
          show F' q = F q
          rw [hF, hD _ (by omega)]
          show F (q + 0 + (i : Int).toNat * 8) = F q
          congr 1; omega
        · have := p2.new
          rw [hz]; exact this
        · show (i + 1) * 8 ≤ cap'; omega
        · exact p2.clo (p1.clo hC (by simp [SV.ids])) (by simp [SV.ids])
        · exact And.intro rfl (And.intro (rowEq fun _ _ => rfl) (And.intro (slotI (wrapS (by omega))) trivial))
      · have e6 : v = .sl id 0 (i * 8) c := by rw [hv]; unfold rowV; rw [if_neg (by omega)]
        obtain ⟨b1, b2⟩ := hB hz
        have hidl := blockOf_lt (m := M) (id := id) (by rw [b1]; rfl)
        subst e6
        refine opsVC_mv rfl rfl rfl ?_
        refine opsVC_slA rfl rfl rfl rfl ?_
        refine opsVC_appN rfl rfl rfl rfl rfl rfl rfl ((p1.old id hidl (by omega)).trans b1) p1.new (by omega) (Nat.zero_le _) ⟨by omega, rfl, b2, by omega, by omega⟩ fun cap' F' M2 hcap hF1 hF2 p2 => ?_
        refine opsVC_as rfl rfl rfl ?_
        (repeat (first | (with_reducible refine vc_exit ?_) | (with_reducible refine vc_ret ?_) | (with_reducible refine vc_skip ?_) | (with_reducible refine thenQ_x ?_) | (with_reducible refine thenQ_r ?_) | (with_reducible refine thenQ_n ?_) | (with_reducible refine blockQ_x rfl ?_) | (with_reducible refine blockQ_y rfl ?_) | (with_reducible refine blockQ_n ?_) | (with_reducible refine blockQ_r ?_) | (with_reducible refine vc_seq ?_) | (with_reducible refine vc_region ?_) | (with_reducible refine vc_block ?_) | (with_reducible refine vc_scope ?_) | (with_reducible refine opsVC_nil ?_)))
        have l2 := p2.len
        have e8 : i * 8 + 8 = (i + 1) * 8 := by omega
        refine Exists.intro (i + 1, F', M1.length, cap', .sl M1.length 0 (i * 8 + 8) cap', M2) (Exists.intro (fun i => i) (And.intro ⟨hlt, ?_, fun q hq => ?_, fun _ => ⟨?_, ?_⟩, ?_⟩ (And.intro (show 8 - (i + 1) < 8 - i by omega) (RenTo.same ?_ fun i u d hb => ⟨u, hb, eqv_refl u⟩))))
        · show _ = rowV M1.length ((i + 1) * 8) cap'
          unfold rowV; rw [if_neg (by omega), e8]
        · have hq : q < (i + 1) * 8 := hq
          show F' q = F q
          by_cases e : q < i * 8
          · rw [hF1 q (by omega)]; exact hG q e
          · have := hF2 (q - i * 8)
            rw [show i * 8 * 1 + (q - i * 8) = q by omega, hD _ (by omega)] at this
            rw [this]
            show F (q - i * 8 + 0 + (i : Int).toNat * 8) = F q
            congr 1; omega
        · have := p2.new
          rw [Nat.mul_one, e8] at this
          exact this
        · show (i + 1) * 8 ≤ cap'; omega
        · exact p2.clo (p1.clo hC (by simp [SV.ids])) (by simp [SV.ids])
        · exact And.intro rfl (And.intro (rowEq fun _ _ => rfl) (And.intro (slotI (wrapS (by omega))) trivial))
    · have hge : i = 8 := by have := of_decide_eq_false h1; omega
      subst hge
      obtain ⟨b1, b2⟩ := hB (by omega)
      have e6 : v = .sl id 0 64 c := hv
      subst e6
      exact ⟨id, c, G, rfl, b2, hG, b1⟩
theorem flatTable_s (F : Nat → Int) : Spec Tryz.prog 21 [.ints .u8 64 F] [] (fun r m => ∃ c G, r = .sl 0 0 64 c ∧ 64 ≤ c ∧ (∀ j, j < 64 → G j = F j) ∧ m = [some (.ints .u8 64 G, c * 1)]) := by
  refine Spec.single (flatTable0_s F) ?_
  rintro r m' ⟨id, c, G, rfl, h1, h2, hb⟩
  exact .inr ⟨id, _, _, hb, rfl, by simp [SV.ids], c, G, rfl, h1, h2, rfl⟩
end Go.Proofs.YtjanlnngeklhoabGreat

/- Spaces that maps span, and their relations: the program's generic type. -/
set_option linter.unusedVariables false
set_option linter.unusedSimpArgs false
set_option maxRecDepth 100000
set_option maxHeartbeats 4000000
namespace Go.Proofs.YtjanlnngeklhoabGreat
open M

/-! ### steps -/
theorem preM_of : ∀ (m m' : Mem), m.length ≤ m'.length → (∀ q, q < m.length → blockOf m' q = blockOf m q) → preM m m'
  | [], _, _, _ => trivial
  | x :: r, [], h, _ => absurd h (Nat.not_succ_le_zero _)
  | x :: r, y :: r', h, hq => ⟨(hq 0 (Nat.zero_lt_succ _)).symm, preM_of r r' (Nat.le_of_succ_le_succ h) fun q hl => hq (q + 1) (Nat.succ_lt_succ hl)⟩
theorem preM_refl (m : Mem) : preM m m := preM_of m m (Nat.le_refl _) fun _ _ => rfl
theorem Plus.preM {m M : Mem} {v : SV} {c : Nat} (h : Plus m m.length v c M) : preM m M := preM_of m M (by have := h.len; omega) fun q hq => h.old q hq (by omega)
section
variable {P : Program} {T : Tab} {N : Nat} {ops : Array Oper} {o : Oper} {r : List Oper} {s : Slots} {m : Mem} {K : Slots → Mem → Prop} {fd base tot ofs t id off n c es by_ n1 n2 b b2 o2 m2 c2 d2 cap p i g : Nat} {path : List Nat} {a x ix : Operand} {v z blk : SV} {offs : List Nat} {k : IntKind} {y : Int} {f u : Nat → Int} {cl : Call} {args : List SV} {ri : List Nat}
theorem opsVC_boxP (hg : o.guard = none) (ho : o.op = .box t x) (hz : ev s x = some z) (hb : z.boxable = true) (hk : ∀ M', Plus m m.length z z.size M' → opsVC P T N ops r (sset N s o.dst (.ptr m.length [] 0 0)) M' K) : opsVC P T N ops (o :: r) s m K :=
  opsVC_box hg ho hz hb (hk _ (Plus.snoc _ _ _ _))
theorem opsVC_fa (hg : o.guard = none) (ho : o.op = .fieldAddr t x fd) (ht : T.ti t = .struct offs tot) (hx : ev s x = some (.ptr id path base 0)) (hf : offs[fd]? = some ofs) (hk : opsVC P T N ops r (sset N s o.dst (.ptr id (path ++ [fd]) (base + ofs) 0)) m K) : opsVC P T N ops (o :: r) s m K := by
  refine opsVC_one hg ?_
  simp only [oneVC, ho, readVC, ht, hx, hf]
  exact hk
/-- what stands in a part of a block -/
theorem opsVC_loadF (hg : o.guard = none) (ho : o.op = .load t a) (ha : ev s a = some (.ptr id path base off)) (hb : blockOf m id = some (blk, c)) (hp : blk.part path = some (z, ofs)) (ht : (Nat.beq ofs base && (T.ti t).known) = true) (hget : ∀ K' : SV → Prop, K' v → getAt (T.ti t).agg z off K')
    (hk : opsVC P T N ops r (sset N s o.dst v) m K) : opsVC P T N ops (o :: r) s m K := by
  refine opsVC_one hg ?_
  simp only [oneVC, ho, readVC, ha, hb, hp]
  exact chk_iff.2 ⟨ht, hget _ hk⟩
theorem opsVC_ia (hg : o.guard = none) (ho : o.op = .indexAddr t x ix) (ht : T.ti t = .slice es) (hx : ev s x = some (.sl id off n c)) (hi : ev s ix = some (.int k y)) (hb : 0 ≤ y ∧ y < n) (hk : opsVC P T N ops r (sset N s o.dst (.ptr id [] 0 (y.toNat * es + off))) m K) : opsVC P T N ops (o :: r) s m K := by
  refine opsVC_one hg ?_
  simp only [oneVC, ho, readVC, ht, hx, hi]
  exact ⟨hb, hk⟩
/-- so many slices that are nil -/
theorem opsVC_mkV (hg : o.guard = none) (ho : o.op = .makeSlice t a x) (ht : T.ti t = .slice es) (hap : T.app t = some by_) (he : T.elem0 t = some .nilsl) (ha : ev s a = some (.int k n)) (hx : ev s x = some (.int k n)) (hsz : by_ * n ≤ 140737488355328 ∧ n ≤ 4611686018427387904)
    (hk : ∀ M', Plus m m.length (.vec n fun _ => .nilsl) n M' → opsVC P T N ops r (sset N s o.dst (.sl m.length 0 n n)) M' K) : opsVC P T N ops (o :: r) s m K := by
  refine opsVC_one hg ?_
  simp only [oneVC, ho, newVC, ht, hap, he, ha, hx, zeros, Int.toNat_natCast]
  exact ⟨⟨by omega, by omega, by omega, by omega⟩, hk _ (Plus.snoc _ _ _ _)⟩
theorem readVC_fa {Kv : SV → Prop} (ht : T.ti t = .struct offs tot) (hx : ev s x = some (.ptr id path base 0)) (hf : offs[fd]? = some ofs) (hk : Kv (.ptr id (path ++ [fd]) (base + ofs) 0)) : readVC T (.fieldAddr t x fd) s m Kv := by
  simp only [readVC, ht, hx, hf]
  exact hk
theorem readVC_loadF {Kv : SV → Prop} (ha : ev s a = some (.ptr id path base off)) (hb : blockOf m id = some (blk, c)) (hp : blk.part path = some (z, ofs)) (ht : (Nat.beq ofs base && (T.ti t).known) = true) (hget : ∀ K' : SV → Prop, K' v → getAt (T.ti t).agg z off K') (hk : Kv v) : readVC T (.load t a) s m Kv := by
  simp only [readVC, ha, hb, hp]
  exact chk_iff.2 ⟨ht, hget _ hk⟩
theorem readVC_mv {Kv : SV → Prop} (hx : ev s x = some v) (hk : Kv v) : readVC T (.move x) s m Kv := by
  simp only [readVC, hx]
  exact hk
theorem getAt_leaf {Kv : SV → Prop} {v : SV} (h : v.leaf = true) (hk : Kv v) : getAt none v 0 Kv := by
  cases v <;> first | (cases h; done) | exact hk
theorem readVC_as {Kv : SV → Prop} (hx : ev s x = some v) (hk : Kv v) : readVC T (.assign x) s m Kv := by
  simp only [readVC, hx]
  exact hk
theorem readsAt_step {Kr : Slots → Prop} {oo : Option Oper} (hi : ops[i]? = oo) (h0 : oo = some o) (h : readVC T o.op s m fun v => readsAt T N m ops ri (sset N s o.dst v) Kr) : readsAt T N m ops (i :: ri) s Kr := by
  unfold readsAt
  rw [hi, h0]
  exact h
/-- a region by the general rule: which operations are read first, and which are the others -/
theorem vc_gen {q : Nat} {Q : Ex → Slots → Mem → Prop} (p : Nat) (L R : List Nat) (hB : lateG N ops p = true) (hL : gList ops p = L) (hR : gRest ops p = R)
    (h : readsAt T N m ops L s fun s' => restVC P T N none ops p R s' m fun s'' m'' => opsVC P T N ops (ops.toList.drop p) s'' m'' fun s' m' => Q .normal s' m') (hpl : Nat.blt (20000 + p) 1000000 = true := by rfl) : vc P T N (.region q ops true) s m Q := by
  have e : ∀ b, b ≤ 20000 → Nat.blt (20000 + p) b = false := fun b hb => by
    cases h : Nat.blt (20000 + p) b with
    | false => rfl
    | true => have := Nat.le_of_ble_eq_true h; omega
  refine ⟨20000 + p, ?_⟩
  rw [e 1000 (by omega)]
  dsimp only
  rw [e 2000 (by omega)]
  dsimp only
  rw [e 3000 (by omega)]
  dsimp only
  rw [e 20000 (by omega), hpl]
  dsimp only
  rw [show 20000 + p - 20000 = p by omega, hL, hR]
  exact ⟨hB, h⟩
theorem restVC_call {oo : Option Oper} (hi : ops[i]? = oo) (h0 : oo = some o) (ho : o.op = .call cl) (hc : cl.callee = .value x) (hx : ev s x = some (.fn g)) (ha : evs s cl.args.toList = some args) (hd : T.direct g = false)
    (hk : callVC P g args m fun r' m' => preM m m' ∧ restVC P T N none ops p ri (sset N s o.dst r') m' K) : restVC P T N none ops p (i :: ri) s m K := by
  unfold restVC
  rw [hi, h0]
  refine .inl ⟨by rw [ho]; simp [ndOp, hc], ?_⟩
  simp only [oneVC, ho, hc, hx, ha, hd]
  exact hk
/-- operations that wait for one another, one by one -/
theorem restVC_nil (h : K s m) : restVC P T N none ops p [] s m K := h
theorem restVC_val {oo : Option Oper} (hi : ops[i]? = oo) (h0 : oo = some o) (ho : o.op = .call cl) (hc : cl.callee = .value x) (hx : ev s x = some (.fn g)) (ha : evs s cl.args.toList = some args) (hd : T.direct g = false)
    (hids : idsOf args = []) (hren : ∀ ρ, args.map (SV.ren ρ) = args) (hv : ∀ ρ, v.ren ρ = v) (h : Spec P g args [] (Ret v)) (hk : restVC P T N none ops p ri (sset N s o.dst v) m K) : restVC P T N none ops p (i :: ri) s m K := by
  unfold restVC
  rw [hi, h0]
  refine .inl ⟨by rw [ho]; simp [ndOp, hc], ?_⟩
  simp only [oneVC, ho, hc, hx, ha, hd]
  exact callVC_valG hids hren hv h ⟨preM_refl m, hk⟩
theorem restVC_row1 {ps : Array (Nat × Operand)} {oo : Option Oper} (hi : ops[i]? = oo) (h0 : oo = some o) (ho : o.op = .buildSlice t 1 ps) (ht : T.ti t = .slice es) (he : (T.elem0 t).bind elemRow = some (k, es, f)) (hes : (Nat.blt 0 es && Nat.ble (1 * es) 16777216) = true) (hp : evParts s ps.toList = some [(0, .ints k es u)])
    (hk : ∀ G M', (∀ j, j < es → G j = u j) → Plus m m.length (.ints k (1 * es) G) (1 * es) M' → restVC P T N none ops p ri (sset N s o.dst (.sl m.length 0 1 1)) M' K) : restVC P T N none ops p (i :: ri) s m K := by
  unfold restVC
  rw [hi, h0]
  refine .inl ⟨by rw [ho]; rfl, ?_⟩
  simp only [oneVC, ho, newVC, ht, he, hp, Nat.beq_refl, Bool.true_and]
  refine chk_iff.2 ⟨hes, ?_⟩
  have e1 : ikEq k k = true := by cases k <;> rfl
  have e2 : Nat.ble (0 * es + es) (1 * es) = true := Nat.ble_eq_true_of_le (by omega)
  simp only [fillA, Nat.beq_refl, e1, e2]
  refine chk_iff.2 ⟨rfl, ?_, hk _ _ (fun j hj => by unfold updR; rw [if_pos (by omega)]; congr 1; omega) (Plus.snoc _ _ _ _)⟩
  exact (Plus.snoc m _ _ _).preM
theorem restVC_appN {oo : Option Oper} (hi : ops[i]? = oo) (h0 : oo = some o) (hf : freeB ops p i = true) (ho : o.op = .call cl) (hc : cl.callee = .builtin .append) (hts : cl.argTypes.toList = [t, t]) (hx : evs s cl.args.toList = some [.sl b 0 n cap, .sl b2 o2 m2 c2]) (ht : T.ti t = .slice es) (hap : T.app t = some by_)
    (hb : blockOf m b = some (.ints k n1 f, c)) (hb2 : blockOf m b2 = some (.ints k n2 u, d2)) (hin : o2 + m2 * es ≤ n2) (hown : T.own ≤ b) (hsz : n * es ≤ n1 ∧ c = cap * es ∧ n ≤ cap ∧ (n + m2) * by_ ≤ 140737488355328 ∧ n + m2 ≤ 4611686018427387904)
    (hk : ∀ cap' F M', n + m2 ≤ cap' → (∀ j, j < n * es → F j = f j) → (∀ j, F (n * es + j) = u (j + o2)) → Plus m b (.ints k ((n + m2) * es) F) (cap' * es) M' → restVC P T N none ops p ri (sset N s o.dst (.sl m.length 0 (n + m2) cap')) M' K) : restVC P T N none ops p (i :: ri) s m K := by
  unfold restVC
  rw [hi, h0]
  refine .inr ⟨by rw [hf]; rfl, ?_⟩
  simp only [oneVC, ho, hc, hts, hx, appAny, Nat.beq_refl, appVC, ht, hap, hb2]
  refine ⟨hin, .inr (.inl ?_)⟩
  simp only [appNew, hb]
  exact chk_iff.2 ⟨by
    have e1 : ikEq k k = true := by cases k <;> rfl
    have e2 : Nat.ble T.own b = true := Nat.ble_eq_true_of_le hown
    rw [e1, e2]; rfl, hsz, fun cap' hcap => hk cap' _ _ hcap (fun j hj => if_pos hj) (fun j => by show (if n * es + j < n * es then _ else u (n * es + j - n * es + o2)) = _; rw [if_neg (by omega), show n * es + j - n * es + o2 = j + o2 by omega]) (Plus.forget m _ _ b)⟩
theorem restVC_appE {oo : Option Oper} (hi : ops[i]? = oo) (h0 : oo = some o) (hf : freeB ops p i = true) (ho : o.op = .call cl) (hc : cl.callee = .builtin .append) (hts : cl.argTypes.toList = [t, t]) (hx : evs s cl.args.toList = some [.nilsl, .sl b2 o2 m2 c2]) (ht : T.ti t = .slice es) (hap : T.app t = some by_)
    (hb2 : blockOf m b2 = some (.ints k n2 u, d2)) (hin : o2 + m2 * es ≤ n2) (hsz : 0 < m2 ∧ m2 * by_ ≤ 140737488355328 ∧ m2 ≤ 4611686018427387904)
    (hk : ∀ cap' F M', m2 ≤ cap' → (∀ j, F j = u (j + o2)) → Plus m m.length (.ints k (m2 * es) F) (cap' * es) M' → restVC P T N none ops p ri (sset N s o.dst (.sl m.length 0 m2 cap')) M' K) : restVC P T N none ops p (i :: ri) s m K := by
  unfold restVC
  rw [hi, h0]
  refine .inr ⟨by rw [hf]; rfl, ?_⟩
  simp only [oneVC, ho, hc, hts, hx, appAny, Nat.beq_refl, appVC, ht, hap, hb2]
  exact ⟨hin, .inr (.inr (.inl (chk_iff.2 ⟨rfl, hsz, fun cap' hcap => hk cap' _ _ hcap (fun _ => rfl) (Plus.snoc _ _ _ _)⟩)))⟩
end

/-! ### rows of a space -/
/-- the space as a value: the prime, the slice, and what lays an element flat -/
def spV (p : Int) (v : SV) : SV := .pair (.int .i64 p) (.pair v (.pair (.fn 21) .unit))
structure RI (m : Mem) (n : Nat) (A : Nat → Int) (p : Int) (sid c : Nat) (x : Nat × (Nat → SV) × (Nat → Nat) × (Nat → Nat) × (Nat → Nat → Int) × Mem) : Prop where
  i : x.1 ≤ n
  sp : blockOf x.2.2.2.2.2 m.length = some (spV p (.sl sid 0 n c), 3)
  hdr : blockOf x.2.2.2.2.2 (m.length + 1) = some (.vec n x.2.1, n)
  sl : ∀ l, l < x.1 → x.2.1 l = .sl (x.2.2.1 l) 0 64 (x.2.2.2.1 l)
  nil : ∀ l, x.1 ≤ l → x.2.1 l = .nilsl
  row : ∀ l, l < x.1 → m.length + 1 < x.2.2.1 l ∧ blockOf x.2.2.2.2.2 (x.2.2.1 l) = some (.ints .u8 64 (x.2.2.2.2.1 l), x.2.2.2.1 l * 1) ∧ 64 ≤ x.2.2.2.1 l
  val : ∀ l, l < x.1 → ∀ j, j < 64 → x.2.2.2.2.1 l j = A (l * 64 + j)
  old : ∀ q, q < m.length → blockOf x.2.2.2.2.2 q = blockOf m q
  len : m.length + 2 ≤ x.2.2.2.2.2.length
  clo : Clo x.2.2.2.2.2

theorem spaceRows_s (m : Mem) (n p sid c d : Nat) (A : Nat → Int) (hb : blockOf m sid = some (.ints .u8 (n * 64) A, d)) (hm : Clo m) (hn : n ≤ 8) :
    Spec Tryz.prog 42 [spV p (.sl sid 0 n c)] m (fun r m' => ∃ x, RI m n A p sid c x ∧ x.1 = n ∧ r = .sl (m.length + 1) 0 n n ∧ m' = x.2.2.2.2.2) := by
  have hlt : sid < m.length := blockOf_lt (by rw [hb]; rfl)
  refine Spec.of_vc tabOK tabEq Tryz.func42 rfl (by kernel_rfl) rfl (by simp [idsOf, spV, SV.ids, Nat.blt_eq, hlt]) ?_
  (repeat (first | (with_reducible refine vc_exit ?_) | (with_reducible refine vc_ret ?_) | (with_reducible refine vc_skip ?_) | (with_reducible refine thenQ_x ?_) | (with_reducible refine thenQ_r ?_) | (with_reducible refine thenQ_n ?_) | (with_reducible refine blockQ_x rfl ?_) | (with_reducible refine blockQ_y rfl ?_) | (with_reducible refine blockQ_n ?_) | (with_reducible refine blockQ_r ?_) | (with_reducible refine vc_seq ?_) | (with_reducible refine vc_region ?_) | (with_reducible refine vc_block ?_) | (with_reducible refine vc_scope ?_) | (with_reducible refine opsVC_nil ?_)))
  refine opsVC_boxP rfl rfl rfl rfl fun M1 p1 => ?_
  refine opsVC_as rfl rfl rfl ?_
  (repeat (first | (with_reducible refine vc_exit ?_) | (with_reducible refine vc_ret ?_) | (with_reducible refine vc_skip ?_) | (with_reducible refine thenQ_x ?_) | (with_reducible refine thenQ_r ?_) | (with_reducible refine thenQ_n ?_) | (with_reducible refine blockQ_x rfl ?_) | (with_reducible refine blockQ_y rfl ?_) | (with_reducible refine blockQ_n ?_) | (with_reducible refine blockQ_r ?_) | (with_reducible refine vc_seq ?_) | (with_reducible refine vc_region ?_) | (with_reducible refine vc_block ?_) | (with_reducible refine vc_scope ?_) | (with_reducible refine opsVC_nil ?_)))
  refine opsVC_fa rfl rfl rfl rfl rfl ?_
  refine opsVC_loadF (v := .sl sid 0 n c) rfl rfl rfl p1.new rfl rfl (fun _ h => h) ?_
  refine opsVC_len rfl rfl rfl rfl rfl rfl ?_
  refine opsVC_mkV rfl rfl rfl rfl rfl rfl rfl (by omega) fun M2 p2 => ?_
  refine opsVC_as rfl rfl rfl ?_
  (repeat (first | (with_reducible refine vc_exit ?_) | (with_reducible refine vc_ret ?_) | (with_reducible refine vc_skip ?_) | (with_reducible refine thenQ_x ?_) | (with_reducible refine thenQ_r ?_) | (with_reducible refine thenQ_n ?_) | (with_reducible refine blockQ_x rfl ?_) | (with_reducible refine blockQ_y rfl ?_) | (with_reducible refine blockQ_n ?_) | (with_reducible refine blockQ_r ?_) | (with_reducible refine vc_seq ?_) | (with_reducible refine vc_region ?_) | (with_reducible refine vc_block ?_) | (with_reducible refine vc_scope ?_) | (with_reducible refine opsVC_nil ?_)))
  have l1 := p1.len
  have l2 := p2.len
  have hsp2 : blockOf M2 m.length = some (spV p (.sl sid 0 n c), 3) := (p2.old _ (by omega) (by omega)).trans p1.new
  refine opsVC_fa rfl rfl rfl rfl rfl ?_
  refine opsVC_loadF (v := .sl sid 0 n c) rfl rfl rfl hsp2 rfl rfl (fun _ h => h) ?_
  refine opsVC_len rfl rfl rfl rfl rfl rfl ?_
  refine opsVC_mv rfl rfl rfl ?_
  (repeat (first | (with_reducible refine vc_exit ?_) | (with_reducible refine vc_ret ?_) | (with_reducible refine vc_skip ?_) | (with_reducible refine thenQ_x ?_) | (with_reducible refine thenQ_r ?_) | (with_reducible refine thenQ_n ?_) | (with_reducible refine blockQ_x rfl ?_) | (with_reducible refine blockQ_y rfl ?_) | (with_reducible refine blockQ_n ?_) | (with_reducible refine blockQ_r ?_) | (with_reducible refine vc_seq ?_) | (with_reducible refine vc_region ?_) | (with_reducible refine vc_block ?_) | (with_reducible refine vc_scope ?_) | (with_reducible refine opsVC_nil ?_)))
  have c1 := p1.clo hm (fun i hi => by have hi : i ∈ (spV p (.sl sid 0 n c)).ids := hi; simp [spV, SV.ids] at hi; omega)
  have c2 := p2.clo c1 (fun i hi => by obtain ⟨k, hk, hq⟩ := vec_ids.1 hi; cases hq)
  refine LoopVC.ofR (RI m n A p sid c) (fun x => [(1, .ptr m.length [] 0 0), (3, .sl (m.length + 1) 0 n n), (11, .sl sid 0 n c), (12, .int .i64 n), (13, .int .i64 x.1)]) (fun x => x.2.2.2.2.2) (fun x => n - x.1) (0, (fun _ => .nilsl), (fun _ => 0), (fun _ => 0), (fun _ _ => 0), M2)
    ⟨Nat.zero_le _, hsp2, by have := p2.new; rw [l1] at this; exact this, fun l hl => absurd hl (Nat.not_lt_zero _), fun _ _ => rfl, fun l hl => absurd hl (Nat.not_lt_zero _), fun l hl => absurd hl (Nat.not_lt_zero _), fun q hq => (p2.old q (by omega) (by omega)).trans (p1.old q hq (by omega)), by show m.length + 2 ≤ M2.length; omega, c2⟩ (fun i => i) (RenTo.same ?_ fun i u d hb => ⟨u, hb, eqv_refl u⟩) ?_ ?_ ?_
  · refine And.intro rfl (And.intro ?_ (And.intro rfl (And.intro rfl (And.intro rfl trivial))))
    show SV.sl M1.length 0 n n = .sl (m.length + 1) 0 n n
    rw [l1]
  · intro x hx; have := hx.len; show m.length ≤ _; omega
  · intro x hx
    refine OkP.of ?_ hx.clo
    have := hx.len
    simp [SV.ids]; omega
  · rintro ⟨i, H, ρ, cp, F, M⟩ ⟨hi, hsp, hhdr, hsl, hnil, hrow, hval, hO, hL, hC⟩
    dsimp only at hi hsp hhdr hsl hnil hrow hval hO hL hC
    have hix : (i : Int).toNat * 1 + 0 = i := by omega
    refine ifVC_split (fun h1 => ?_) (fun h1 => ?_)
    · have hin : i < n := by have := of_decide_eq_true h1; omega
      (repeat (first | (with_reducible refine vc_exit ?_) | (with_reducible refine vc_ret ?_) | (with_reducible refine vc_skip ?_) | (with_reducible refine thenQ_x ?_) | (with_reducible refine thenQ_r ?_) | (with_reducible refine thenQ_n ?_) | (with_reducible refine blockQ_x rfl ?_) | (with_reducible refine blockQ_y rfl ?_) | (with_reducible refine blockQ_n ?_) | (with_reducible refine blockQ_r ?_) | (with_reducible refine vc_seq ?_) | (with_reducible refine vc_region ?_) | (with_reducible refine vc_block ?_) | (with_reducible refine vc_scope ?_) | (with_reducible refine opsVC_nil ?_)))
      refine opsVC_mv rfl rfl rfl ?_
      refine opsVC_ia rfl rfl rfl rfl rfl ⟨by omega, by omega⟩ ?_
      refine opsVC_loadR (l := 64) rfl rfl rfl rfl ((hO sid hlt).trans hb) (by omega) ?_
      refine opsVC_alloc rfl rfl rfl rfl ?_
      refine opsVC_as rfl rfl rfl ?_
      change opsVC _ _ _ _ _ _ (M ++ [some (SV.ints .u8 64 fun _ => 0, 64)]) _
      refine opsVC_putNew rfl rfl rfl rfl rfl fun D M3 hD p3 => ?_
      (repeat (first | (with_reducible refine vc_exit ?_) | (with_reducible refine vc_ret ?_) | (with_reducible refine vc_skip ?_) | (with_reducible refine thenQ_x ?_) | (with_reducible refine thenQ_r ?_) | (with_reducible refine thenQ_n ?_) | (with_reducible refine blockQ_x rfl ?_) | (with_reducible refine blockQ_y rfl ?_) | (with_reducible refine blockQ_n ?_) | (with_reducible refine blockQ_r ?_) | (with_reducible refine vc_seq ?_) | (with_reducible refine vc_region ?_) | (with_reducible refine vc_block ?_) | (with_reducible refine vc_scope ?_) | (with_reducible refine opsVC_nil ?_)))
      have l3 := p3.len
      refine opsVC_mv rfl rfl rfl ?_
      refine opsVC_mv rfl rfl rfl ?_
      refine opsVC_fa rfl rfl rfl rfl rfl ?_
      refine opsVC_loadF (v := .fn 21) rfl rfl rfl ((p3.old _ (by omega) (by omega)).trans hsp) rfl rfl (fun _ h => h) ?_
      refine opsVC_loadR (l := 64) rfl rfl rfl rfl p3.new (by omega) ?_
      refine opsVC_call rfl rfl rfl rfl rfl rfl ?_
      refine callVC_new rfl (fun _ => rfl) ?_
      refine Spec.mono (flatTable_s _) ?_
      rintro r m' ⟨c4, G, rfl, hc4, hG, rfl⟩
      refine ⟨64, c4, _, _, rfl, rfl, fun _ => rfl, ?_⟩
      have p4 := Plus.snoc M3 (.ints .u8 64 G) (c4 * 1) M3.length
      generalize M3 ++ [some (SV.ints .u8 64 G, c4 * 1)] = M4 at *
      have l4 := p4.len
      refine opsVC_ia rfl rfl rfl rfl rfl ⟨by omega, by omega⟩ ?_
      have h4 : blockOf M4 (m.length + 1) = some (.vec n H, n) := (p4.old _ (by omega) (by omega)).trans ((p3.old _ (by omega) (by omega)).trans hhdr)
      refine opsVC_storeV rfl rfl rfl rfl rfl h4 rfl (by omega) ?_
      (repeat (first | (with_reducible refine vc_exit ?_) | (with_reducible refine vc_ret ?_) | (with_reducible refine vc_skip ?_) | (with_reducible refine thenQ_x ?_) | (with_reducible refine thenQ_r ?_) | (with_reducible refine thenQ_n ?_) | (with_reducible refine blockQ_x rfl ?_) | (with_reducible refine blockQ_y rfl ?_) | (with_reducible refine blockQ_n ?_) | (with_reducible refine blockQ_r ?_) | (with_reducible refine vc_seq ?_) | (with_reducible refine vc_region ?_) | (with_reducible refine vc_block ?_) | (with_reducible refine vc_scope ?_) | (with_reducible refine opsVC_nil ?_)))
      have sg := fun id => setBlock_get M4 (m.length + 1) id (.vec n (updV H ((i : Int).toNat * 1 + 0) (.sl M3.length 0 64 c4))) _ _ h4
      have hne : ∀ id, id ≠ m.length + 1 → id < M.length → blockOf (setBlock M4 (m.length + 1) (.vec n (updV H ((i : Int).toNat * 1 + 0) (.sl M3.length 0 64 c4)))) id = blockOf M id := fun id h1 h2 => by
        rw [sg, if_neg h1, p4.old id (by omega) (by omega), p3.old id (by omega) (by omega)]
      refine Exists.intro (i + 1, updV H ((i : Int).toNat * 1 + 0) (.sl M3.length 0 64 c4), (fun l => if l = i then M3.length else ρ l), (fun l => if l = i then c4 else cp l), (fun l => if l = i then G else F l), _) (Exists.intro (fun i => i) (And.intro ⟨hin, ?_, ?_, fun l hl => ?_, fun l hl => ?_, fun l hl => ?_, fun l hl j hj => ?_, fun q hq => ?_, ?_, ?_⟩ (And.intro (show n - (i + 1) < n - i by omega) (RenTo.same ?_ fun i u d hb => ⟨u, hb, eqv_refl u⟩))))
      rotate_right
      · exact And.intro rfl (And.intro rfl (And.intro rfl (And.intro rfl (And.intro (slotI (wrapS (by omega))) trivial))))
      · exact (hne _ (by omega) (by omega)).trans hsp
      · show blockOf (setBlock M4 _ _) (m.length + 1) = _
        rw [sg, if_pos rfl]
      · have hl : l < i + 1 := hl
        show updV H _ _ l = .sl (if l = i then M3.length else ρ l) 0 64 (if l = i then c4 else cp l)
        unfold updV
        rw [hix]
        by_cases e : l = i
        · rw [if_pos e, if_pos e, if_pos e]
        · rw [if_neg e, if_neg e, if_neg e]; exact hsl l (by omega)
      · have hl : i + 1 ≤ l := hl
        show updV H _ _ l = _
        unfold updV
        rw [hix, if_neg (by omega)]; exact hnil l (by omega)
      · have hl : l < i + 1 := hl
        show m.length + 1 < (if l = i then M3.length else ρ l) ∧ blockOf (setBlock M4 _ _) (if l = i then M3.length else ρ l) = some (.ints .u8 64 (if l = i then G else F l), (if l = i then c4 else cp l) * 1) ∧ 64 ≤ if l = i then c4 else cp l
        by_cases e : l = i
        · rw [if_pos e, if_pos e, if_pos e]
          exact ⟨by omega, by rw [sg, if_neg (by omega)]; exact p4.new, hc4⟩
        · rw [if_neg e, if_neg e, if_neg e]
          obtain ⟨r1, r2, r3⟩ := hrow l (by omega)
          exact ⟨r1, (hne _ (by omega) (blockOf_lt (by rw [r2]; rfl))).trans r2, r3⟩
      · have hl : l < i + 1 := hl
        show (if l = i then G else F l) j = _
        by_cases e : l = i
        · rw [if_pos e, e, hG j hj]
          show D (j + 0) = _
          rw [hD _ (by omega)]
          show A (j + 0 + ((i : Int).toNat * 64 + 0)) = A (i * 64 + j)
          congr 1; omega
        · rw [if_neg e]; exact hval l (by omega) j hj
      · exact (hne q (by omega) (by omega)).trans (hO q hq)
      · show m.length + 2 ≤ (setBlock M4 _ _).length
        rw [setBlock_lt]; omega
      · refine setBlock_clo (p4.clo (p3.clo hC (by simp [SV.ids])) (by simp [SV.ids])) h4 fun q hq => ?_
        obtain ⟨k, hk, hqk⟩ := vec_ids.1 hq
        unfold updV at hqk
        split at hqk
        · simp [SV.ids1] at hqk; omega
        · have := hC (m.length + 1) _ _ hhdr q (vec_ids.2 ⟨k, hk, hqk⟩); omega
    · have hin : i = n := by have := of_decide_eq_false h1; omega
      subst hin
      (repeat (first | (with_reducible refine vc_exit ?_) | (with_reducible refine vc_ret ?_) | (with_reducible refine vc_skip ?_) | (with_reducible refine thenQ_x ?_) | (with_reducible refine thenQ_r ?_) | (with_reducible refine thenQ_n ?_) | (with_reducible refine blockQ_x rfl ?_) | (with_reducible refine blockQ_y rfl ?_) | (with_reducible refine blockQ_n ?_) | (with_reducible refine blockQ_r ?_) | (with_reducible refine vc_seq ?_) | (with_reducible refine vc_region ?_) | (with_reducible refine vc_block ?_) | (with_reducible refine vc_scope ?_) | (with_reducible refine opsVC_nil ?_)))
      refine opsVC_mv rfl rfl rfl ?_
      refine opsVC_as rfl rfl rfl ?_
      (repeat (first | (with_reducible refine vc_exit ?_) | (with_reducible refine vc_ret ?_) | (with_reducible refine vc_skip ?_) | (with_reducible refine thenQ_x ?_) | (with_reducible refine thenQ_r ?_) | (with_reducible refine thenQ_n ?_) | (with_reducible refine blockQ_x rfl ?_) | (with_reducible refine blockQ_y rfl ?_) | (with_reducible refine blockQ_n ?_) | (with_reducible refine blockQ_r ?_) | (with_reducible refine vc_seq ?_) | (with_reducible refine vc_region ?_) | (with_reducible refine vc_block ?_) | (with_reducible refine vc_scope ?_) | (with_reducible refine opsVC_nil ?_)))
      exact ⟨(i, H, ρ, cp, F, M), ⟨hi, hsp, hhdr, hsl, hnil, hrow, hval, hO, hL, hC⟩, rfl, rfl, rfl⟩
end Go.Proofs.YtjanlnngeklhoabGreat

/- Dual algebras and coalgebras and cocommutativity, on both sides, and the laws. -/
set_option linter.unusedVariables false
set_option linter.unusedSimpArgs false
set_option maxRecDepth 100000
set_option maxHeartbeats 1000000
namespace Go.Proofs.YtjanlnngeklhoabGreat
open M

/-- a struct, or zeros -/
def orZero (b : Bool) (p n : Int) (U T : Nat → Int) : SV := algV (if b = true then p else 0) (if b = true then n else 0) (fun j => if b = true then U j else 0) (fun q => if b = true then T q else 0)
def orV (b : Bool) (p n : Int) (U T : Nat → Int) : SV := .tcons (orZero b p n U T) (.tcons (.int .i64 (if b = true then 0 else 1)) .tnil)
/-! ### cocommutativity -/
def cocoV (p n : Int) (U C : Nat → Int) : SV := .tcons (.bool (coB p n U C && commB (dualF C))) (.tcons (.int .i64 (if coB p n U C = true then 0 else 1)) .tnil)

end Go.Proofs.YtjanlnngeklhoabGreat

/- Hopf tables: their parts, their form, and sums over pairs, on both sides. -/
set_option linter.unusedVariables false
set_option linter.unusedSimpArgs false
set_option maxRecDepth 100000
set_option maxHeartbeats 1000000
namespace Go.Proofs.YtjanlnngeklhoabGreat
open M

/-- a Hopf table as plain data -/
def hopV (p n : Int) (U T Z C S : Nat → Int) : SV :=
  .pair (.int .i64 p) (.pair (.int .i64 n) (.pair (.ints .u8 8 U) (.pair (.ints .u8 512 T) (.pair (.ints .u8 8 Z) (.pair (.ints .u8 512 C) (.pair (.ints .u8 64 S) .unit))))))
theorem hopE (p n : Int) {U U' T T' Z Z' C C' S S' : Nat → Int} (hU : ∀ j, j < 8 → U j = U' j) (hT : ∀ j, j < 512 → T j = T' j) (hZ : ∀ j, j < 8 → Z j = Z' j) (hC : ∀ j, j < 512 → C j = C' j) (hS : ∀ j, j < 64 → S j = S' j) :
    SV.eqv (hopV p n U T Z C S) (hopV p n U' T' Z' C' S') :=
  And.intro rfl (And.intro rfl (And.intro (rowEq hU) (And.intro (rowEq hT) (And.intro (rowEq hZ) (And.intro (rowEq hC) (And.intro (rowEq hS) rfl))))))
theorem hopR (p n : Int) (U T Z C S : Nat → Int) : SV.eqv (hopV p n U T Z C S) (hopV p n U T Z C S) :=
  hopE p n (fun _ _ => rfl) (fun _ _ => rfl) (fun _ _ => rfl) (fun _ _ => rfl) (fun _ _ => rfl)

theorem algebraOf_s (p n : Int) (U T Z C S : Nat → Int) : Spec Tryz.prog 77 [hopV p n U T Z C S] [] (Ret (algV p n U T)) := by
  refine Spec.ret rfl (Spec.of_vc tabOK tabEq Tryz.func77 rfl (by kernel_rfl) rfl rfl ?_)
  (repeat (first | refine And.intro (by omega) ?_ | refine And.intro ⟨by omega, by omega⟩ ?_))
  exact And.intro rfl (And.intro rfl (And.intro (rowEq fun _ _ => rfl) (And.intro (rowEq fun _ _ => rfl) rfl)))
theorem coalgebraOf_s (p n : Int) (U T Z C S : Nat → Int) : Spec Tryz.prog 79 [hopV p n U T Z C S] [] (Ret (algV p n Z C)) := by
  refine Spec.ret rfl (Spec.of_vc tabOK tabEq Tryz.func79 rfl (by kernel_rfl) rfl rfl ?_)
  (repeat (first | refine And.intro (by omega) ?_ | refine And.intro ⟨by omega, by omega⟩ ?_))
  exact And.intro rfl (And.intro rfl (And.intro (rowEq fun _ _ => rfl) (And.intro (rowEq fun _ _ => rfl) rfl)))
theorem l03Algebra_s (p n : Int) (U T Z C S : Nat → Int) : Spec Tryz.prog 72 [hopV p n U T Z C S] [] (Ret (algV p n U T)) := by
  refine Spec.ret rfl (Spec.of_vc tabOK tabEq Tryz.func72 rfl (by kernel_rfl) rfl rfl ?_)
  (repeat (first | refine And.intro (by omega) ?_ | refine And.intro ⟨by omega, by omega⟩ ?_))
  exact And.intro rfl (And.intro rfl (And.intro (rowEq fun _ _ => rfl) (And.intro (rowEq fun _ _ => rfl) rfl)))
theorem l03Coalgebra_s (p n : Int) (U T Z C S : Nat → Int) : Spec Tryz.prog 96 [hopV p n U T Z C S] [] (Ret (algV p n Z C)) := by
  refine Spec.ret rfl (Spec.of_vc tabOK tabEq Tryz.func96 rfl (by kernel_rfl) rfl rfl ?_)
  (repeat (first | refine And.intro (by omega) ?_ | refine And.intro ⟨by omega, by omega⟩ ?_))
  exact And.intro rfl (And.intro rfl (And.intro (rowEq fun _ _ => rfl) (And.intro (rowEq fun _ _ => rfl) rfl)))

/-- the form of a Hopf table -/
def hshB (p n : Int) (U T Z C S : Nat → Int) : Bool := shapeB p n U T && (shapeB p n Z C && linB p n n S)

theorem isShapedHopf_s (p n : Int) (U T Z C S : Nat → Int) (hU : isU8 8 U) (hT : isU8 512 T) (hZ : isU8 8 Z) (hC : isU8 512 C) (hS : isU8 64 S) :
    Spec Tryz.prog 59 [hopV p n U T Z C S] [] (Ret (.bool (hshB p n U T Z C S))) := by
  refine Spec.ret rfl (Spec.of_vc tabOK tabEq Tryz.func59 rfl (by kernel_rfl) rfl rfl ?_)
  refine And.intro trivial (Spec.mono (algebraOf_s p n U T Z C S) ?_)
  rintro r m ⟨rfl, rfl⟩
  refine And.intro trivial (Spec.mono (isShaped_s p n U T hU hT) ?_)
  rintro r m ⟨rfl, rfl⟩
  refine ifVC_split (fun h1 => ?_) (fun h1 => ?_)
  · refine And.intro trivial (Spec.mono (coalgebraOf_s p n U T Z C S) ?_)
    rintro r m ⟨rfl, rfl⟩
    refine And.intro trivial (Spec.mono (dualAlgebra_s p n Z C) ?_)
    rintro r m ⟨rfl, rfl⟩
    refine And.intro trivial (Spec.mono (isShaped_s p n Z (dualF C) hZ (dual_u8 hC)) ?_)
    rintro r m ⟨rfl, rfl⟩
    refine ifVC_split (fun h2 => ?_) (fun h2 => ?_)
    · have hfn := shape_field h1
      (repeat (first | refine And.intro (by omega) ?_ | refine And.intro ⟨by omega, by omega⟩ ?_))
      refine And.intro trivial (Spec.mono (isLinear_s p n n _ hfn (fun j hj => hS _ (by omega))) ?_)
      rintro r m ⟨rfl, rfl⟩
      rw [shape_dual] at h2
      exact boolEq (by unfold hshB; rw [h1, h2]; rfl)
    · rw [shape_dual] at h2
      exact boolEq (by unfold hshB; rw [h1, h2]; rfl)
  · exact boolEq (by unfold hshB; rw [h1]; rfl)

theorem l03Shape_s (p n : Int) (U T Z C S : Nat → Int) (hU : isU8 8 U) (hT : isU8 512 T) (hZ : isU8 8 Z) (hC : isU8 512 C) (hS : isU8 64 S) :
    Spec Tryz.prog 52 [hopV p n U T Z C S] [] (Ret (.bool (hshB p n U T Z C S))) := by
  refine Spec.ret rfl (Spec.of_vc tabOK tabEq Tryz.func52 rfl (by kernel_rfl) rfl rfl ?_)
  refine Exists.intro 5 (And.intro (by kernel_rfl) ?_)
  refine And.intro trivial (Spec.mono (l03Algebra_s p n U T Z C S) ?_)
  rintro r m ⟨rfl, rfl⟩
  refine And.intro trivial (Spec.mono (l01Shape_s p n U T hU hT) ?_)
  rintro r m ⟨rfl, rfl⟩
  refine ifVC_split (fun h1 => ?_) (fun h1 => ?_)
  · have hfn := shape_field h1
    have hsh : shapeB p n Z C = (entriesB p n Z && tabB p n C) := by unfold shapeB vectorB; rw [hfn, Bool.true_and]
    (repeat (first | refine And.intro (by omega) ?_ | refine And.intro ⟨by omega, by omega⟩ ?_))
    refine And.intro trivial (Spec.mono (l01Vector_s p n _ (fun j hj => hZ _ (by omega))) ?_)
    rintro r m ⟨rfl, rfl⟩
    refine ifVC_split (fun h2 => ?_) (fun h2 => ?_)
    · have h2 : entriesB p n Z = true := h2
      (repeat (first | refine And.intro (by omega) ?_ | refine And.intro ⟨by omega, by omega⟩ ?_))
      refine And.intro trivial (Spec.mono (l01Table_s p n _ (fun j hj => hC _ (by omega))) ?_)
      rintro r m ⟨rfl, rfl⟩
      refine ifVC_split (fun h3 => ?_) (fun h3 => ?_)
      · have h3 : tabB p n C = true := h3
        (repeat (first | refine And.intro (by omega) ?_ | refine And.intro ⟨by omega, by omega⟩ ?_))
        refine And.intro trivial (Spec.mono (l01Linear_s p n _ (fun j hj => hS _ (by omega))) ?_)
        rintro r m ⟨rfl, rfl⟩
        exact boolEq (by unfold hshB; rw [h1, hsh, h2, h3]; rfl)
      · have h3 : tabB p n C = false := h3
        exact boolEq (by unfold hshB; rw [h1, hsh, h2, h3]; rfl)
    · have h2 : entriesB p n Z = false := h2
      exact boolEq (by unfold hshB; rw [h1, hsh, h2]; rfl)
  · exact boolEq (by unfold hshB; rw [h1]; rfl)

/-- what holds of shaped Hopf tables -/
structure HV (p : Int) (n : Nat) (U T Z C S : Nat → Int) : Prop where
  a : Valid p n U T
  c : Valid p n Z (dualF C)
  n1 : 1 ≤ n
  hU : isU8 8 U
  hT : isU8 512 T
  hZ : isU8 8 Z
  hC : isU8 512 C
  hS : isU8 64 S
  slt : ∀ i m, i < 8 → m < 8 → S (m + i * 8) < p
  szero : ∀ i m, i < 8 → m < 8 → (n ≤ i ∨ n ≤ m) → S (m + i * 8) = 0

theorem lin_get {p n : Int} {S : Nat → Int} (h : linB p n n S = true) {i m : Nat} (hi : i < 8) (hm : m < 8) : S (m + i * 8) < p ∧ ((n ≤ i ∨ n ≤ m) → S (m + i * 8) = 0) := by
  have := List.all_eq_true.1 h i (List.mem_range.2 hi)
  simp only [imageB, Bool.and_eq_true, Bool.or_eq_true, decide_eq_true_eq] at this
  have e := entries_get this.1 hm
  refine ⟨e.1, fun hz => ?_⟩
  rcases hz with hz | hz
  · rcases this.2 with h' | h'
    · omega
    · exact allEq_get h' hm
  · exact e.2 hz
theorem hsh_valid {p n : Int} {U T Z C S : Nat → Int} (hU : isU8 8 U) (hT : isU8 512 T) (hZ : isU8 8 Z) (hC : isU8 512 C) (hS : isU8 64 S) (h : hshB p n U T Z C S = true) : ∃ k : Nat, n = k ∧ HV p k U T Z C S := by
  unfold hshB at h
  simp only [Bool.and_eq_true] at h
  obtain ⟨h1, h2, h3⟩ := h
  have hfb := field_bounds (shape_field h1)
  obtain ⟨n, rfl⟩ : ∃ k : Nat, n = k := ⟨n.toNat, by have := hfb.2; omega⟩
  refine ⟨n, rfl, valid_of hU hT h1, valid_co hZ hC h2, by have := hfb.2.1; omega, hU, hT, hZ, hC, hS, fun i m hi hm => (lin_get h3 hi hm).1, fun i m hi hm hz => (lin_get h3 hi hm).2 (by omega)⟩

theorem upd0 {f g : Nat → Int} {m q : Nat} (h : q < m) : updR f 0 m g q = g q := by simp [updR, h]

/-! ### the map that leads each vector to itself -/
def idF (n : Nat) : Nat → Int := fun q => if q / 8 < n then unitV (q / 8) (q % 8) else 0
theorem idF_u8 (n m : Nat) : isU8 m (idF n) := fun q _ => by
  unfold idF
  split
  · exact unitV_u8 _ (q % 8 + 1) _ (by omega)
  · omega

theorem identity_s (n : Nat) (hn : n ≤ 8) : Spec Tryz.prog 64 [.int .i64 n] [] (Ret (.ints .u8 64 (idF n))) := by
  refine Spec.ret rfl (Spec.of_vc tabOK tabEq Tryz.func64 rfl (by kernel_rfl) rfl rfl ?_)
  refine LoopVC.of (fun i : Nat => i ≤ n) (fun i => [(2, .ptr 0 [] 0 0), (3, .ptr 1 [] 0 0), (5, .int .i64 n), (6, .int .i64 i)]) (fun i => [some (.ints .u8 64 fun _ => 0, 64), some (.ints .u8 64 fun q => if q / 8 < i then unitV (q / 8) (q % 8) else 0, 64)]) (fun i => n - i) 0 (by omega) ?_ ?_ ?_
  · exact (And.intro rfl (And.intro rfl (And.intro rfl (And.intro rfl (trivial)))))
  · exact And.intro (And.intro (rowEq fun _ _ => rfl) rfl) (And.intro (And.intro (rowEq fun q _ => by simp) rfl) trivial)
  · intro i hi
    refine ifVC_split (fun h => ?_) (fun h => ?_)
    · have hlt := of_decide_eq_true h
      have hidx : (i : Int).toNat = i := by omega
      refine And.intro trivial (Spec.mono (basisVector_s i (by omega)) ?_)
      rintro r m ⟨rfl, rfl⟩
      (repeat (first | refine And.intro (by omega) ?_ | refine And.intro ⟨by omega, by omega⟩ ?_))
      refine Exists.intro (i + 1) (And.intro (by omega) (And.intro (by omega) (And.intro (And.intro rfl (And.intro rfl (And.intro rfl (And.intro (slotI (wrapS (by omega))) trivial)))) ?_)))
      refine And.intro (And.intro (rowEq fun _ _ => rfl) rfl) (And.intro (And.intro (rowEq fun q hq => ?_) rfl) trivial)
      show updR _ ((i : Int).toNat * 8 + 0) 8 (unitV (i : Int).toNat) q = _
      unfold updR
      rw [hidx]
      dsimp only
      by_cases h1 : i * 8 + 0 ≤ q ∧ q < i * 8 + 0 + 8
      · rw [if_pos h1, if_pos (by omega), show q / 8 = i by omega, show q - (i * 8 + 0) = q % 8 by omega]
      · rw [if_neg h1]
        by_cases h2 : q / 8 < i
        · rw [if_pos h2, if_pos (by omega)]
        · rw [if_neg h2, if_neg (by omega)]
    · have hge := of_decide_eq_false h
      obtain rfl : i = n := by omega
      (repeat (first | refine And.intro (by omega) ?_ | refine And.intro ⟨by omega, by omega⟩ ?_))
      refine rowEq fun q hq => ?_
      show updR _ 0 64 _ q = _
      simp [updR, hq, idF]

/-! ### sums over pairs -/
theorem prodF_sum {p : Int} (T v w : Nat → Int) (m : Nat) : prodF p T v w m = sumN 8 (fun a => w a * leftT p T v (a * 8 + m)) % p := by
  unfold prodF; rw [linS_sum]
theorem prodF_congr {p : Int} {T v v' w w' : Nat → Int} (hv : ∀ i, i < 8 → v i = v' i) (hw : ∀ i, i < 8 → w i = w' i) (m : Nat) : prodF p T v w m = prodF p T v' w' m := by
  rw [prodF_sum, prodF_sum]
  congr 1
  refine sumN_congr 8 fun a ha => ?_
  rw [hw a ha]
  congr 1
  unfold leftT rightF
  rw [linS_congr 8 fun i hi => by rw [hv i hi]]
theorem prodF_none {p : Int} {T v : Nat → Int} (hv : ∀ i, i < 8 → v i = 0) (w : Nat → Int) (m : Nat) : prodF p T v w m = 0 := by
  rw [prodF_sum, sumN_none 8 fun a ha => by
    have : leftT p T v (a * 8 + m) = 0 := by
      unfold leftT rightF
      rw [linS_sum, sumN_none 8 fun i hi => by rw [hv i hi]; simp]
      simp
    rw [this]; simp]
  simp
theorem sumN_unit (g : Nat → Int) (k : Nat) : ∀ n : Nat, sumN n (fun a => unitV k a * g a) = if k < n then g k else 0
  | 0 => by simp [sumN]
  | n + 1 => by
    show sumN n (fun a => unitV k a * g a) + unitV k n * g n = _
    rw [sumN_unit g k n]
    by_cases h1 : k < n
    · rw [if_pos h1, if_pos (by omega), show unitV k n = 0 by unfold unitV; rw [if_neg (by omega)]]; simp
    · rw [if_neg h1]
      by_cases h2 : k = n
      · subst h2; rw [if_pos (by omega), show unitV k k = 1 by unfold unitV; rw [if_pos rfl]]; simp
      · rw [if_neg (by omega), show unitV k n = 0 by unfold unitV; rw [if_neg (fun e => h2 e.symm)]]; simp
theorem prodF_unit {p : Int} (T v : Nat → Int) {k m : Nat} (hk : k < 8) : prodF p T v (unitV k) m = leftT p T v (k * 8 + m) % p := by
  rw [prodF_sum, sumN_unit, if_pos hk]
theorem sumN_modl (p : Int) (g : Nat → Int) (k : Nat) : sumN k (fun i => g i % p) % p = sumN k g % p := by
  have := sumN_mod p (fun _ => 1) g k
  simpa using this
theorem prodF_apply {p : Int} (T v F w : Nat → Int) (m : Nat) : prodF p T v (fun y => linS F w 8 y % p) m = sumN 8 (fun k => w k * prodF p T v (fun y => F (y + k * 8)) m) % p := by
  rw [prodF_sum]
  have e : sumN 8 (fun a => (linS F w 8 a % p) * leftT p T v (a * 8 + m)) % p = sumN 8 (fun a => linS F w 8 a * leftT p T v (a * 8 + m)) % p := by
    have := sumN_mod p (fun a => leftT p T v (a * 8 + m)) (fun a => linS F w 8 a) 8
    rw [sumN_congr (g := fun a => leftT p T v (a * 8 + m) * (linS F w 8 a % p)) 8 fun a _ => Int.mul_comm _ _, this]
    exact congrArg (· % p) (sumN_congr 8 fun a _ => Int.mul_comm _ _)
  rw [e, sumN_congr (g := fun a => sumN 8 fun k => w k * (F (a + k * 8) * leftT p T v (a * 8 + m))) 8 fun a _ => by
    rw [linS_sum, Int.mul_comm, sumN_mul]
    refine sumN_congr 8 fun k _ => ?_
    rw [show k * 8 + a = a + k * 8 by omega, Int.mul_comm, Int.mul_assoc]]
  have r : sumN 8 (fun k => w k * prodF p T v (fun y => F (y + k * 8)) m) % p = sumN 8 (fun k => w k * sumN 8 fun a => F (a + k * 8) * leftT p T v (a * 8 + m)) % p := by
    rw [← sumN_mod p w fun k => sumN 8 fun a => F (a + k * 8) * leftT p T v (a * 8 + m)]
    exact congrArg (· % p) (sumN_congr 8 fun k _ => by rw [prodF_sum])
  rw [r, sumN_swap]
  exact congrArg (· % p) (sumN_congr 8 fun k _ => (sumN_mul _ _ _).symm)
end Go.Proofs.YtjanlnngeklhoabGreat

/- What is orthogonal to the rows of a reduced list: a vector for each place that leads no row spans it. -/
set_option linter.unusedVariables false
set_option linter.unusedSimpArgs false
set_option linter.unusedSectionVars false
set_option maxRecDepth 100000
set_option maxHeartbeats 1000000
namespace Go.Proofs.YtjanlnngeklhoabGreat
open M

/-- vectors that every one of m rows sends to 0 -/
def OrthS (p n m : Nat) (f : Nat → Nat → Int) (x : Nat → Int) : Prop := VecP p n x ∧ ∀ i, i < m → sumN 8 (fun j => f i j * x j) % p = 0
/-- the model's vector for the place q -/
def nulV (p : Int) (a : Nat → Nat → Int) (P : Nat → Nat) (q : Nat) : Nat → Nat → Int
  | 0 => unitV q
  | t + 1 => fun j => if j = P t then -(a t q) % p else nulV p a P q t j

theorem sumN_swapmul (x y : Nat → Int) (k : Nat) : sumN k (fun j => x j * y j) = sumN k (fun j => y j * x j) := sumN_congr k fun j _ => Int.mul_comm _ _
theorem orth_add {p : Nat} {f x y : Nat → Int} (c : Int) (hx : sumN 8 (fun j => f j * x j) % p = 0) (hy : sumN 8 (fun j => f j * y j) % p = 0) : sumN 8 (fun j => f j * ((x j + c * y j) % p)) % p = 0 := by
  rw [sumN_swapmul, sumN_lin, sumN_swapmul x, sumN_swapmul y, Int.add_emod, Int.mul_emod, hx, hy]
  simp
theorem orth_space {p n m : Nat} {f : Nat → Nat → Int} (hp : 1 < p) : Space p 8 (OrthS p n m f) := by
  refine ⟨fun v h => h.1.rng, fun v u h e => ⟨⟨fun j hj => by rw [e j hj]; exact h.1.rng j hj, fun j h1 h2 => by rw [e j h2]; exact h.1.out j h1 h2⟩, fun i hi => ?_⟩, fun v h => ⟨⟨fun j hj => by rw [h j hj]; omega, fun j _ hj => h j hj⟩, fun i hi => ?_⟩, fun v u hv hu c => ⟨hv.1.add (by omega) hu.1 c, fun i hi => orth_add c (hv.2 i hi) (hu.2 i hi)⟩⟩
  · rw [sumN_congr 8 (g := fun j => f i j * v j) fun j hj => by rw [e j hj]]
    exact h.2 i hi
  · rw [sumN_none 8 fun j hj => by rw [h j hj, Int.mul_zero], Int.zero_emod]
theorem orth_of_sp {p m : Nat} {f : Nat → Nat → Int} {v x : Nat → Int} (hv : Sp p 8 m f v) (hx : ∀ i, i < m → sumN 8 (fun j => f i j * x j) % p = 0) : sumN 8 (fun j => v j * x j) % p = 0 := by
  induction hv with
  | zero v h => rw [sumN_none 8 fun j hj => by rw [h j hj, Int.zero_mul], Int.zero_emod]
  | add v u c i hi h hu ih =>
    rw [sumN_congr 8 (g := fun j => (v j + c * f i j) % p * x j) fun j hj => by rw [hu j hj], sumN_lin, Int.add_emod, ih, Int.mul_emod, hx i hi]
    simp
/-- rows that reach the same vectors have the same orthogonal ones -/
theorem orth_iff {p n m k : Nat} {f a : Nat → Nat → Int} (h1 : ∀ i, i < m → Sp p 8 k a (f i)) (h2 : ∀ i, i < k → Sp p 8 m f (a i)) (x : Nat → Int) : OrthS p n m f x ↔ OrthS p n k a x :=
  ⟨fun h => ⟨h.1, fun i hi => orth_of_sp (h2 i hi) h.2⟩, fun h => ⟨h.1, fun i hi => orth_of_sp (h1 i hi) h.2⟩⟩

section
variable {p n k : Nat} {S : (Nat → Int) → Prop} {a : Nat → Nat → Int} {P : Nat → Nat} (hp : 1 < p) (hn : n ≤ 8) (h : Red p 8 S k a P) (hS : ∀ i, i < k → VecP p n (a i))
include hp hn h hS
theorem nul_off {q : Nat} : ∀ t, t ≤ k → ∀ j, (∀ i, i < t → P i ≠ j) → nulV p a P q t j = unitV q j
  | 0, _, _, _ => rfl
  | t + 1, ht, j, hj => by
    show (if j = P t then _ else nulV p a P q t j) = _
    rw [if_neg fun e => hj t (by omega) e.symm]
    exact nul_off t (by omega) j fun i hi => hj i (by omega)
theorem nul_dot {q : Nat} (hq : q < n) (hne : ∀ i, i < k → P i ≠ q) {i : Nat} (hi : i < k) : ∀ t, t ≤ k → sumN 8 (fun j => a i j * nulV p a P q t j) % p = (if i < t then 0 else a i q) % p
  | 0, _ => by
    rw [if_neg (by omega), sumN_swapmul]
    show sumN 8 (fun j => unitV q j * a i j) % p = _
    rw [sumN_unit, if_pos (by omega)]
  | t + 1, ht => by
    have ih := nul_dot hq hne hi t (by omega)
    have hlt := h.lt t (by omega)
    have h0 : nulV p a P q t (P t) = 0 := by
      rw [nul_off hp hn h hS t (by omega) (P t) fun l hl e => by have := h.inc l t hl (by omega); omega]
      unfold unitV
      rw [if_neg (hne t (by omega))]
    rw [sumN_pick (fun j => a i j * nulV p a P q t j) 8 hlt, h0, Int.mul_zero, Int.zero_add] at ih
    rw [sumN_pick (fun j => a i j * nulV p a P q (t + 1) j) 8 hlt, sumN_congr 8 (g := fun l => if l = P t then 0 else a i l * nulV p a P q t l) fun l hl => by
      show (if l = P t then 0 else a i l * (if l = P t then _ else nulV p a P q t l)) = _
      split <;> rfl]
    show (a i (P t) * (if P t = P t then -(a t q) % p else _) + _) % (p : Int) = _
    rw [if_pos rfl, Int.add_emod, ih]
    by_cases e : i = t
    · subst e
      rw [h.one i hi, if_neg (Nat.lt_irrefl i), if_pos (Nat.lt_succ_self i), Int.one_mul, Int.emod_emod, ← Int.add_emod, Int.add_left_neg]
    · rw [h.oth i t hi (by omega) e, Int.zero_mul, Int.zero_emod, Int.zero_add, Int.emod_emod]
      congr 1
      by_cases g : i < t
      · rw [if_pos g, if_pos (by omega)]
      · rw [if_neg g, if_neg (by omega)]
theorem nul_vec {q : Nat} (hq : q < n) : ∀ t, t ≤ k → VecP p n (nulV p a P q t)
  | 0, _ => VecP.unit (by omega) hq
  | t + 1, ht => by
    have ih := nul_vec hq t (by omega)
    have hl : P t < n := by
      rcases Nat.lt_or_ge (P t) n with g | g
      · exact g
      have h1 := h.one t (by omega)
      rw [(hS t (by omega)).out (P t) g (h.lt t (by omega))] at h1
      omega
    refine ⟨fun j hj => ?_, fun j h1 h2 => ?_⟩
    · show 0 ≤ (if j = P t then _ else nulV p a P q t j) ∧ (if j = P t then _ else nulV p a P q t j) < _
      split
      · exact mod_rng (by omega) _
      · exact ih.rng j hj
    · show (if j = P t then _ else nulV p a P q t j) = _
      rw [if_neg (by omega)]
      exact ih.out j h1 h2
theorem nul_in {q : Nat} (hq : q < n) (hne : ∀ i, i < k → P i ≠ q) : OrthS p n k a (nulV p a P q k) :=
  ⟨nul_vec hp hn h hS hq k (Nat.le_refl k), fun i hi => by rw [nul_dot hp hn h hS hq hne hi k (Nat.le_refl k), if_pos hi, Int.zero_emod]⟩
theorem orth_zero {w : Nat → Int} (hw : OrthS p n k a w) (h0 : ∀ q, q < n → (∀ i, i < k → P i ≠ q) → w q = 0) : ∀ j, j < 8 → w j = 0 := by
  intro j hj
  by_cases g : ∃ i, i < k ∧ P i = j
  · obtain ⟨i, hi, rfl⟩ := g
    have hd := hw.2 i hi
    rw [sumN_pick (fun j => a i j * w j) 8 hj, h.one i hi, Int.one_mul, sumN_none 8 fun l hl => by
      by_cases e : l = P i
      · rw [if_pos e]
      rw [if_neg e]
      by_cases g : ∃ t, t < k ∧ P t = l
      · obtain ⟨t, ht, rfl⟩ := g
        rw [h.oth i t hi ht fun e' => e (by rw [e']), Int.zero_mul]
      · rcases Nat.lt_or_ge l n with hl' | hl'
        · rw [h0 l hl' fun t ht e => g ⟨t, ht, e⟩, Int.mul_zero]
        · rw [hw.1.out l hl' hl, Int.mul_zero], Int.add_zero, mod_id (hw.1.rng _ hj)] at hd
    exact hd
  · rcases Nat.lt_or_ge j n with hl' | hl'
    · exact h0 j hl' fun t ht e => g ⟨t, ht, e⟩
    · exact hw.1.out j hl' hj
theorem orth_all {R : (Nat → Int) → Prop} (hR : Space p 8 R) (hin : ∀ q, q < n → (∀ i, i < k → P i ≠ q) → R (nulV p a P q k)) : ∀ d t, d + t = n → ∀ w, OrthS p n k a w → (∀ q, q < t → (∀ i, i < k → P i ≠ q) → w q = 0) → R w
  | 0, t, e, w, hw, h0 => hR.zero w (orth_zero hp hn h hS hw fun q hq => h0 q (by omega))
  | d + 1, t, e, w, hw, h0 => by
    by_cases g : ∃ i, i < k ∧ P i = t
    · obtain ⟨i, hi, rfl⟩ := g
      refine orth_all hR hin d (P i + 1) (by omega) w hw fun q hq hne => ?_
      rcases Nat.lt_or_ge q (P i) with g | g
      · exact h0 q g hne
      · exact absurd (show P i = q by omega) (hne i hi)
    have hne : ∀ i, i < k → P i ≠ t := fun i hi e => g ⟨i, hi, e⟩
    have hv := nul_in hp hn h hS (q := t) (by omega) hne
    have hw' := (orth_space (n := n) (m := k) (f := a) hp).addc w _ hw hv (-(w t))
    have hz := orth_all hR hin d (t + 1) (by omega) _ hw' fun q hq hq2 => by
      show (w q + -(w t) * nulV p a P t k q) % (p : Int) = 0
      rw [nul_off hp hn h hS k (Nat.le_refl k) q hq2]
      unfold unitV
      by_cases e : q = t
      · rw [if_pos e, e, Int.mul_one, Int.add_right_neg, Int.zero_emod]
      · rw [if_neg e, Int.mul_zero, Int.add_zero, h0 q (by omega) hq2, Int.zero_emod]
    refine hR.ext _ _ (hR.addc _ _ hz (hin t (by omega) hne) (w t)) fun j hj => ?_
    show w j = ((w j + -(w t) * nulV p a P t k j) % (p : Int) + w t * nulV p a P t k j) % p
    rw [mod_l, show w j + -(w t) * nulV p a P t k j + w t * nulV p a P t k j = w j by grind, mod_id (hw.1.rng j hj)]
/-- what the vectors of the places that lead no row reach is what is orthogonal to all rows -/
theorem orth_is {m : Nat} {f : Nat → Nat → Int} (hf : ∀ i, i < m → ∃ q, q < n ∧ (∀ l, l < k → P l ≠ q) ∧ ∀ j, j < 8 → f i j = nulV p a P q k j) (hc : ∀ q, q < n → (∀ l, l < k → P l ≠ q) → ∃ i, i < m ∧ ∀ j, j < 8 → f i j = nulV p a P q k j) (x : Nat → Int) : Sp p 8 m f x ↔ OrthS p n k a x := by
  refine ⟨fun hx => hx.in (orth_space hp) fun i hi => ?_, fun hx => orth_all hp hn h hS (Sp.space (by omega)) (fun q hq hne => ?_) n 0 (by omega) x hx fun q hq => by omega⟩
  · obtain ⟨q, hq, hne, e⟩ := hf i hi
    exact (orth_space hp).ext _ _ (nul_in hp hn h hS hq hne) e
  · obtain ⟨i, hi, e⟩ := hc q hq hne
    have hr := (nul_vec hp hn h hS hq k (Nat.le_refl k)).rng
    exact (Sp.row hi fun j hj => by rw [e j hj]; exact hr j hj).ext fun j hj => (e j hj).symm
end
end Go.Proofs.YtjanlnngeklhoabGreat

/- The model's list of what is orthogonal to rows. -/
set_option linter.unusedVariables false
set_option linter.unusedSimpArgs false
set_option maxRecDepth 100000
set_option maxHeartbeats 4000000
namespace Go.Proofs.YtjanlnngeklhoabGreat
open M

def leadB (A : Nat → Int) : Nat → Nat → Bool
  | 0, _ => false
  | t + 1, q => if q = first8 (partF A 8 t) then true else leadB A t q
theorem leadB_iff (A : Nat → Int) (q : Nat) : ∀ t, leadB A t q = true ↔ ∃ i, i < t ∧ first8 (partF A 8 i) = q
  | 0 => ⟨fun h => (by cases h), fun ⟨i, hi, _⟩ => absurd hi (Nat.not_lt_zero i)⟩
  | t + 1 => by
    unfold leadB
    by_cases e : q = first8 (partF A 8 t)
    · rw [if_pos e]
      exact ⟨fun _ => ⟨t, Nat.lt_succ_self t, e.symm⟩, fun _ => rfl⟩
    · rw [if_neg e, leadB_iff A q t]
      refine ⟨fun ⟨i, hi, h⟩ => ⟨i, by omega, h⟩, fun ⟨i, hi, h⟩ => ⟨i, ?_, h⟩⟩
      rcases Nat.lt_or_ge i t with g | g
      · exact g
      · rw [show i = t by omega] at h; exact absurd h.symm e
/-- the list so far: a vector for each place under q that leads no row -/
structure NulL (p k : Nat) (A : Nat → Int) (q r : Nat) (F : Nat → Int) : Prop where
  le : r ≤ q
  is : ∀ i, i < r → ∃ l, l < q ∧ leadB A k l = false ∧ ∀ j, j < 8 → partF F 8 i j = nulV p (partF A 8) (fun i => first8 (partF A 8 i)) l k j
  has : ∀ l, l < q → leadB A k l = false → ∃ i, i < r ∧ ∀ j, j < 8 → partF F 8 i j = nulV p (partF A 8) (fun i => first8 (partF A 8 i)) l k j
theorem nulL_skip {p k q r : Nat} {A F : Nat → Int} (h : NulL p k A q r F) (hq : leadB A k q = true) : NulL p k A (q + 1) r F :=
  ⟨by have := h.le; omega, fun i hi => by obtain ⟨l, h1, h2, h3⟩ := h.is i hi; exact ⟨l, by omega, h2, h3⟩, fun l hl hb => by
    rcases Nat.lt_or_ge l q with g | g
    · exact h.has l g hb
    · rw [show l = q by omega, hq] at hb; cases hb⟩
theorem nulL_add {p k q r : Nat} {A F G : Nat → Int} (h : NulL p k A q r F) (hq : leadB A k q = false) (h1 : ∀ j, j < r * 8 → G j = F j) (h2 : ∀ j, j < 8 → G (r * 8 + j) = nulV p (partF A 8) (fun i => first8 (partF A 8 i)) q k j) : NulL p k A (q + 1) (r + 1) G :=
  have e1 : ∀ i, i < r → ∀ j, j < 8 → partF G 8 i j = partF F 8 i j := fun i hi j hj => h1 _ (by omega)
  have e2 : ∀ j, j < 8 → partF G 8 r j = G (r * 8 + j) := fun j hj => by unfold partF; rw [Nat.add_comm]
  ⟨by have := h.le; omega, fun i hi => by
    rcases Nat.lt_or_ge i r with g | g
    · obtain ⟨l, a1, a2, a3⟩ := h.is i g; exact ⟨l, by omega, a2, fun j hj => by rw [e1 i g j hj, a3 j hj]⟩
    · obtain rfl : i = r := by omega
      exact ⟨q, by omega, hq, fun j hj => by rw [e2 j hj, h2 j hj]⟩, fun l hl hb => by
    rcases Nat.lt_or_ge l q with g | g
    · obtain ⟨i, a1, a2⟩ := h.has l g hb; exact ⟨i, by omega, fun j hj => by rw [e1 i a1 j hj, a2 j hj]⟩
    · obtain rfl : l = q := by omega
      exact ⟨r, by omega, fun j hj => by rw [e2 j hj, h2 j hj]⟩⟩
theorem vecs_of {p n len k : Nat} {V A : Nat → Int} (hp : 1 < p) (hV : ∀ i, i < len → VecP p n (partF V 8 i)) (hR : RedL p (Sp p 8 len (partF V 8)) k A) : ∀ i, i < k → VecP p n (partF A 8 i) := fun i hi =>
  (hR.mem i hi).in ⟨fun v hv => hv.rng, fun v u hv e => ⟨fun j hj => by rw [e j hj]; exact hv.rng j hj, fun j a b => by rw [e j b]; exact hv.out j a b⟩, fun v hv => ⟨fun j hj => by rw [hv j hj]; omega, fun j _ hj => hv j hj⟩, fun v u hv hu c => hv.add (by omega) hu c⟩ hV
/-- the list is what is orthogonal to the rows -/
theorem nulL_orth {p n len k r : Nat} {V A F : Nat → Int} (hp : 1 < p) (hn : n ≤ 8) (hV : ∀ i, i < len → VecP p n (partF V 8 i)) (hR : RedL p (Sp p 8 len (partF V 8)) k A) (h : NulL p k A n r F) (x : Nat → Int) :
    Sp p 8 r (partF F 8) x ↔ OrthS p n len (partF V 8) x := by
  have hS : Space p 8 (Sp p 8 len (partF V 8)) := Sp.space (by omega)
  have hA : ∀ i, i < k → VecP p n (partF A 8 i) := fun i hi => by
    refine (hR.mem i hi).in ⟨fun v hv => hv.rng, fun v u hv e => ⟨fun j hj => by rw [e j hj]; exact hv.rng j hj, fun j a b => by rw [e j b]; exact hv.out j a b⟩, fun v hv => ⟨fun j hj => by rw [hv j hj]; omega, fun j _ hj => hv j hj⟩, fun v u hv hu c => hv.add (by omega) hu c⟩ hV
  have hl : ∀ q, (∀ l, l < k → first8 (partF A 8 l) ≠ q) ↔ leadB A k q = false := fun q => by
    cases hb : leadB A k q with
    | true =>
      obtain ⟨i, hi, e⟩ := (leadB_iff A q k).1 hb
      exact ⟨fun h => absurd e (h i hi), fun h => by cases h⟩
    | false => exact ⟨fun _ => rfl, fun _ l hl e => by rw [(leadB_iff A q k).2 ⟨l, hl, e⟩] at hb; cases hb⟩
  rw [orth_iff (n := n) (fun i hi => red_span (by omega) hS hR (Sp.row hi (hV i hi).rng)) hR.mem]
  refine orth_is hp hn hR hA (fun i hi => ?_) (fun q hq hne => ?_) x
  · obtain ⟨l, a1, a2, a3⟩ := h.is i hi
    exact ⟨l, a1, (hl l).2 a2, a3⟩
  · exact h.has q hq ((hl q).1 hne)

theorem l02Null_s (p n len cap : Nat) (V : Nat → Int) (hp : primeB (p : Int) = true) (hp2 : 2 ≤ p ∧ p ≤ 31) (hn : n ≤ 8) (hlen : len ≤ 1000) (hV : ∀ i, i < len → VecP p n (partF V 8 i)) :
    Spec Tryz.prog 35 [.int .i64 p, .int .i64 n, .sl 0 0 len cap] [some (.ints .u8 (len * 8) V, cap * 8)] (fun r m => ∃ id k c A, RedL p (OrthS p n len (partF V 8)) k A ∧ k ≤ c ∧ r = .sl id 0 k c ∧ blockOf m id = some (.ints .u8 (k * 8) A, c * 8)) := by
  have hrng : rngR p len V := fun q hq => by
    have := (hV (q / 8) (by omega)).rng (q % 8) (by omega)
    unfold partF at this
    rwa [show q % 8 + q / 8 * 8 = q by omega] at this
  refine (Spec.of_vc tabOK tabEq Tryz.func35 rfl (by kernel_rfl) rfl rfl ?_)
  refine And.intro (And.intro rfl trivial) (Spec.mono (l01Reduce_s p len cap V hp hp2 hlen hrng) ?_)
  rintro r m ⟨k, c, A, hR, hkc, rfl, rfl⟩
  have hk := red_k hR
  have hp8 := hR.lt
  (repeat (first | refine And.intro (by omega) ?_ | refine And.intro ⟨by omega, by omega⟩ ?_))
  refine LoopVC.of (fun i : Nat => i ≤ k) (fun i => [(0, .int .i64 p), (1, .int .i64 n), (7, .sl 1 0 k c), (8, .sl 2 0 0 0), (9, .ptr 3 [] 0 0), (10, .int .i64 i)])
    (fun i => [some (.ints .u8 (len * 8) V, cap * 8), some (.ints .u8 (k * 8) A, c * 8), some (.ints .u8 (0 * 8) (fun _ => 0), 0 * 8), some (.vec 8 fun q => .bool (leadB A i q), 8)]) (fun i => k - i) 0 (Nat.zero_le _) ?_ ?_ ?_
  · exact (And.intro rfl (And.intro rfl (And.intro rfl (And.intro rfl (And.intro rfl (And.intro rfl (trivial)))))))
  · refine And.intro (And.intro (rowEq fun _ _ => rfl) rfl) (And.intro (And.intro (rowEq fun _ _ => rfl) rfl) (And.intro (And.intro ⟨⟨rfl, rfl⟩, fun j hj => by omega⟩ rfl) (And.intro (And.intro ⟨rfl, fun q hq => rfl⟩ rfl) trivial)))
  · intro i hi
    refine ifVC_split (fun hh => ?_) (fun hh => ?_)
    · have hik : i < k := by have := of_decide_eq_true hh; omega
      (repeat (first | refine And.intro (by omega) ?_ | refine And.intro ⟨by omega, by omega⟩ ?_))
      refine And.intro trivial (Spec.mono (l01First_s _) ?_)
      rintro _ _ ⟨rfl, rfl⟩
      have hat : first8 (fun j => A (j + ((i : Int).toNat * 8 + 0))) = first8 (partF A 8 i) := by rw [show (i : Int).toNat * 8 + 0 = i * 8 by omega]; rfl
      rw [hat]
      have hL : ∀ q, leadB A (i + 1) q = if q = first8 (partF A 8 i) then true else leadB A i q := fun q => rfl
      have h8 := hp8 i hik
      generalize first8 (partF A 8 i) = a0 at *
      (repeat (first | refine And.intro (by omega) ?_ | refine And.intro ⟨by omega, by omega⟩ ?_))
      refine Exists.intro (i + 1) (And.intro hik (And.intro (by omega) (And.intro (And.intro rfl (And.intro rfl (And.intro rfl (And.intro rfl (And.intro rfl (And.intro (slotI (wrapS (by omega))) trivial)))))) ?_)))
      refine And.intro (And.intro (rowEq fun _ _ => rfl) rfl) (And.intro (And.intro (rowEq fun _ _ => rfl) rfl) (And.intro (And.intro (rowEq fun _ _ => rfl) rfl) (And.intro (And.intro ⟨rfl, fun q hq => ?_⟩ rfl) trivial)))
      show updV _ _ _ q = .bool (leadB A (i + 1) q)
      rw [hL]
      unfold updV
      by_cases e : q = a0
      · rw [if_pos (by omega), if_pos e]
      · rw [if_neg (by omega), if_neg e]
    · have hik : i = k := by have := of_decide_eq_false hh; omega
      subst hik
      refine LoopVC.of (fun x : Nat × Nat × Nat × (Nat → Int) => x.1 ≤ n ∧ x.2.1 ≤ x.2.2.1 ∧ NulL p i A x.1 x.2.1 x.2.2.2) (fun x => [(0, .int .i64 p), (1, .int .i64 n), (7, .sl 1 0 i c), (8, .sl 2 0 x.2.1 x.2.2.1), (9, .ptr 3 [] 0 0), (11, .int .i64 x.1)])
        (fun x => [some (.ints .u8 (len * 8) V, cap * 8), some (.ints .u8 (i * 8) A, c * 8), some (.ints .u8 (x.2.1 * 8) x.2.2.2, x.2.2.1 * 8), some (.vec 8 fun q => .bool (leadB A i q), 8)]) (fun x => n - x.1) (0, 0, 0, fun _ => 0) ⟨Nat.zero_le _, Nat.le_refl _, Nat.le_refl _, fun i hi => absurd hi (Nat.not_lt_zero i), fun l hl => absurd hl (Nat.not_lt_zero l)⟩ ?_ ?_ ?_
      · exact (And.intro rfl (And.intro rfl (And.intro rfl (And.intro rfl (And.intro rfl (And.intro rfl (trivial)))))))
      · refine And.intro (And.intro (rowEq fun _ _ => rfl) rfl) (And.intro (And.intro (rowEq fun _ _ => rfl) rfl) (And.intro (And.intro (rowEq fun _ _ => rfl) rfl) (And.intro (And.intro ⟨rfl, fun q hq => rfl⟩ rfl) trivial)))
      rintro ⟨q, r, c', F⟩ ⟨hq, hr, hF⟩
      dsimp only at hq hr hF
      have hle := hF.le
      refine ifVC_split (fun hh => ?_) (fun hh => ?_)
      · have hqn : q < n := by have := of_decide_eq_true hh; omega
        have hidx : (q : Int).toNat = q := by omega
        (repeat (first | refine And.intro (by omega) ?_ | refine And.intro ⟨by omega, by omega⟩ ?_))
        refine And.intro rfl ?_
        refine ifVC_split (fun hb => ?_) (fun hb => ?_)
        · have hb : leadB A i ((q : Int).toNat * 1 + 0) = true := hb
          rw [show (q : Int).toNat * 1 + 0 = q by omega] at hb
          refine Exists.intro (q + 1, r, c', F) (And.intro ⟨hqn, hr, nulL_skip hF hb⟩ (And.intro (show n - (q + 1) < n - q by omega) (And.intro (And.intro rfl (And.intro rfl (And.intro rfl (And.intro rfl (And.intro rfl (And.intro (slotI (wrapS (by omega))) trivial)))))) ?_)))
          refine And.intro (And.intro (rowEq fun _ _ => rfl) rfl) (And.intro (And.intro (rowEq fun _ _ => rfl) rfl) (And.intro (And.intro (rowEq fun _ _ => rfl) rfl) (And.intro (And.intro ⟨rfl, fun q hq => rfl⟩ rfl) trivial)))
        · have hb : leadB A i ((q : Int).toNat * 1 + 0) = false := hb
          rw [show (q : Int).toNat * 1 + 0 = q by omega] at hb
          refine And.intro trivial (Spec.mono (l01Basis_s q (by omega)) ?_)
          rintro _ _ ⟨rfl, rfl⟩
          rw [hidx]
          have hNV : ∀ t, nulV p (partF A 8) (fun i => first8 (partF A 8 i)) q (t + 1) = fun j => if j = first8 (partF A 8 t) then -(partF A 8 t q) % p else nulV p (partF A 8) (fun i => first8 (partF A 8 i)) q t j := fun t => rfl
          have hN0 : nulV p (partF A 8) (fun i => first8 (partF A 8 i)) q 0 = unitV q := rfl
          have hadd := fun G => nulL_add (G := G) hF hb
          generalize nulV p (partF A 8) (fun i => first8 (partF A 8 i)) q = N at *
          (repeat (first | refine And.intro (by omega) ?_ | refine And.intro ⟨by omega, by omega⟩ ?_))
          refine LoopVC.of (fun t : Nat => t ≤ i) (fun t => [(0, .int .i64 p), (1, .int .i64 n), (7, .sl 1 0 i c), (8, .sl 2 0 r c'), (9, .ptr 3 [] 0 0), (11, .int .i64 q), (12, .ptr 4 [] 0 0), (13, .int .i64 t)])
            (fun t => [some (.ints .u8 (len * 8) V, cap * 8), some (.ints .u8 (i * 8) A, c * 8), some (.ints .u8 (r * 8) F, c' * 8), some (.vec 8 fun q => .bool (leadB A i q), 8), some (.ints .u8 8 (N t), 8)]) (fun t => i - t) 0 (Nat.zero_le _) ?_ ?_ ?_
          · exact (And.intro rfl (And.intro rfl (And.intro rfl (And.intro rfl (And.intro rfl (And.intro rfl (And.intro rfl (And.intro rfl (trivial)))))))))
          · refine And.intro (And.intro (rowEq fun _ _ => rfl) rfl) (And.intro (And.intro (rowEq fun _ _ => rfl) rfl) (And.intro (And.intro (rowEq fun _ _ => rfl) rfl) (And.intro (And.intro ⟨rfl, fun q hq => rfl⟩ rfl) (And.intro (And.intro (rowEq fun j hj => ?_) rfl) trivial))))
            show updR _ 0 8 _ j = N 0 j
            rw [hN0]
            simp [updR, hj]
          intro t ht
          refine ifVC_split (fun hh => ?_) (fun hh => ?_)
          · have hti : t < i := by have := of_decide_eq_true hh; omega
            have hAr : ∀ j, j < 8 → 0 ≤ A (j + t * 8) ∧ A (j + t * 8) < p := fun j hj => (Sp.space (by omega)).range _ (hR.mem t hti) j hj
            have hat : first8 (fun j => A (j + ((t : Int).toNat * 8 + 0))) = first8 (partF A 8 t) := by rw [show (t : Int).toNat * 8 + 0 = t * 8 by omega]; rfl
            have h8 := hp8 t hti
            have hN := hNV t
            have hAq := hAr q (by omega)
            refine Exists.intro 15 (And.intro (by kernel_rfl) ?_)
            (repeat (first | refine And.intro (by omega) ?_ | refine And.intro ⟨by omega, by omega⟩ ?_))
            refine Exists.intro (.int .i64 (first8 (partF A 8 t))) (And.intro (And.intro rfl (And.intro rfl (Spec.mono (l01First_s _) fun r m h => by rw [← hat]; exact h.1))) ?_)
            generalize first8 (partF A 8 t) = a0 at *
            (repeat (first | refine And.intro (by omega) ?_ | refine And.intro ⟨by omega, by omega⟩ ?_))
            have hneg : IntKind.i64.wrap (0 - IntKind.i64.wrap (A ((q : Int).toNat * 1 + ((t : Int).toNat * 8 + 0)))) = -(A (q + t * 8)) := by
              rw [show (q : Int).toNat * 1 + ((t : Int).toNat * 8 + 0) = q + t * 8 by omega, wrapI (x := A (q + t * 8)) (by omega), wrapI (by omega)]; omega
            refine Exists.intro (.int .u8 (-(A (q + t * 8)) % p)) (And.intro (And.intro rfl (And.intro rfl (Spec.mono (show Spec Tryz.prog 34 [.int .i64 p, .int .i64 (IntKind.i64.wrap (0 - IntKind.i64.wrap (A ((q : Int).toNat * 1 + ((t : Int).toNat * 8 + 0)))))] [] (Ret (.int .u8 (-(A (q + t * 8)) % p))) by rw [hneg]; exact l01Mod_s p _ (by omega) (by omega)) fun r m h => h.1))) ?_)
            (repeat (first | refine And.intro (by omega) ?_ | refine And.intro ⟨by omega, by omega⟩ ?_))
            refine Exists.intro (t + 1) (And.intro (by omega) (And.intro (by omega) (And.intro (And.intro rfl (And.intro rfl (And.intro rfl (And.intro rfl (And.intro rfl (And.intro rfl (And.intro rfl (And.intro (slotI (wrapS (by omega))) trivial)))))))) ?_)))
            refine And.intro (And.intro (rowEq fun _ _ => rfl) rfl) (And.intro (And.intro (rowEq fun _ _ => rfl) rfl) (And.intro (And.intro (rowEq fun _ _ => rfl) rfl) (And.intro (And.intro ⟨rfl, fun q hq => rfl⟩ rfl) (And.intro (And.intro (rowEq fun j hj => ?_) rfl) trivial))))
            show upd1 (N t) ((a0 : Int).toNat * 1 + 0) (-(A (q + t * 8)) % p) j = N (t + 1) j
            rw [hN, show (a0 : Int).toNat * 1 + 0 = a0 by omega]
            rfl
          · have hti : t = i := by have := of_decide_eq_false hh; omega
            subst hti
            (repeat (first | refine And.intro (by omega) ?_ | refine And.intro ⟨by omega, by omega⟩ ?_))
            refine Or.inl (And.intro ⟨Nat.le_refl _, rfl, hr, show (r + 1) * 8 ≤ 140737488355328 by omega, show r + 1 ≤ 4611686018427387904 by omega⟩ (fun cap' hcap => ?_))
            refine Exists.intro (q + 1, r + 1, cap', snocF F r (N t)) (And.intro ⟨hqn, hcap, hadd (snocF F r (N t)) (fun j hj => if_pos hj) (fun j hj => by show (if r * 8 + j < r * 8 then _ else N t (r * 8 + j - r * 8)) = _; rw [if_neg (by omega), show r * 8 + j - r * 8 = j by omega])⟩ (And.intro (show n - (q + 1) < n - q by omega) (And.intro (And.intro rfl (And.intro rfl (And.intro rfl (And.intro rfl (And.intro rfl (And.intro (slotI (wrapS (by omega))) trivial)))))) ?_)))
            refine And.intro (And.intro (rowEq fun _ _ => rfl) rfl) (And.intro (And.intro (rowEq fun _ _ => rfl) rfl) (And.intro (And.intro (rowEq fun j hj => ?_) rfl) (And.intro (And.intro ⟨rfl, fun q hq => rfl⟩ rfl) trivial)))
            show appF F (r * 8) 0 (updR _ 0 8 fun j => N t (j + 0)) j = snocF F r (N t) j
            unfold appF snocF
            by_cases e : j < r * 8
            · rw [if_pos e, if_pos e]
            · rw [if_neg e, if_neg e]
              unfold updR
              rw [if_pos (by omega)]
              rfl
      · have hqn : q = n := by have := of_decide_eq_false hh; omega
        subst hqn
        have hlead : ∀ l, leadB A i l = false → ∀ a, a < i → first8 (partF A 8 a) ≠ l := fun l hb a ha e => by rw [(leadB_iff A l i).2 ⟨a, ha, e⟩] at hb; cases hb
        have hFr : rngR p r F := fun l hl => by
          obtain ⟨a, a1, a2, a3⟩ := hF.is (l / 8) (by omega)
          have hv := (nul_vec (p := p) (by omega) hn hR (vecs_of (by omega) hV hR) a1 i (Nat.le_refl i)).rng (l % 8) (by omega)
          rw [← a3 _ (by omega)] at hv
          unfold partF at hv
          rwa [show l % 8 + l / 8 * 8 = l by omega] at hv
        refine And.intro (And.intro rfl trivial) (Spec.mono (l01Reduce_s p r c' F hp hp2 (by omega) hFr) ?_)
        rintro _ _ ⟨k2, c2, A2, hR2, hk2, rfl, rfl⟩
        exact ⟨_, k2, c2, A2, hR2.of_iff fun x => nulL_orth (by omega) hn hV hR hF x, hk2, rfl, rfl⟩
end Go.Proofs.YtjanlnngeklhoabGreat

/- Products of pairs and convolutions, as the program reckons them. -/
set_option linter.unusedVariables false
set_option linter.unusedSimpArgs false
set_option maxRecDepth 100000
set_option maxHeartbeats 1000000
namespace Go.Proofs.YtjanlnngeklhoabGreat
open M

/-! ### products of tables of two vectors -/
/-- the product of the row a of F and the row b of G -/
def pw (p : Int) (T F G : Nat → Int) (a b : Nat) : Nat → Int := prodF p T (partF F 8 a) (partF G 8 b)
def pairN (p : Int) (T F G : Nat → Int) (a n q : Nat) : Int := sumN n fun b => vecT T a b (q / 8) * pw p T F G a b (q % 8)
def pairT (p : Int) (T F G : Nat → Int) (m n q : Nat) : Int := sumN m fun a => pairN p T F G a n q
def pairsF (p : Int) (T F G : Nat → Int) : Nat → Int := fun q => pairT p T F G 8 8 q % p

theorem pw_u8 {p : Int} (hp : 0 < p ∧ p < 256) (T F G : Nat → Int) (a b n : Nat) : isU8 n (pw p T F G a b) := fun q _ => modB hp
theorem mod_add (p a b : Int) : (a % p + b) % p = (a + b) % p := Int.emod_add_emod a p b

theorem productOfPairs_s (p n : Int) (U T F G : Nat → Int) (hp : 0 < p ∧ p < 256) (hT : isU8 512 T) (hF : isU8 64 F) (hG : isU8 64 G) :
    Spec Tryz.prog 103 [algV p n U T, .ints .u8 64 F, .ints .u8 64 G] [] (Ret (.ints .u8 64 (pairsF p T F G))) := by
  refine Spec.ret rfl (Spec.of_vc tabOK tabEq Tryz.func103 rfl (by kernel_rfl) rfl rfl ?_)
  (repeat (first | refine And.intro (by omega) ?_ | refine And.intro ⟨by omega, by omega⟩ ?_))
  refine LoopVC.of (fun j : Nat => j ≤ 8) (fun j => [(3, .ptr 0 [] 0 0), (5, .ptr 2 [] 0 0), (6, .ptr 3 [] 0 0), (7, .ptr 4 [] 0 0), (13, .ints .u8 64 F), (14, .int .i64 j)])
    (fun j => [some (algV p n U T, 522), none, some (.ints .u8 64 G, 64), some (.ints .u8 64 fun _ => 0, 64), some (.ints .u8 64 fun q => pairT p T F G j 8 q % p, 64)]) (fun j => 8 - j) 0 (by omega) ?_ ?_ ?_
  · exact And.intro rfl (And.intro rfl (And.intro rfl (And.intro rfl (And.intro (rowEq fun _ _ => rfl) (And.intro rfl trivial)))))
  · exact And.intro (And.intro (algR p n U T) rfl) (And.intro (And.intro (rowEq fun _ _ => rfl) rfl) (And.intro (And.intro (rowEq fun _ _ => rfl) rfl) (And.intro (And.intro (rowEq fun q _ => by simp [pairT, sumN]) rfl) trivial)))
  · intro j hj
    refine ifVC_split (fun h => ?_) (fun h => ?_)
    · have hltj := of_decide_eq_true h
      have hjdx : (j : Int).toNat = j := by omega
      have hFj : isU8 8 (partF F 8 j) := fun i hi => hF _ (by omega)
      (repeat (first | refine And.intro (by omega) ?_ | refine And.intro ⟨by omega, by omega⟩ ?_))
      have hq : allEq 8 (fun q => updR (fun _ => 0) 0 8 (fun q => F (q + (j : Int).toNat * 8)) (q + 0)) (fun _ => 0) = allEq 8 (partF F 8 j) (fun _ => 0) := allEq_congr (fun q hq => by rw [hjdx]; simp [updR, hq, partF]) fun _ _ => rfl
      refine ifVC_split (fun hz => ?_) (fun hz => ?_)
      · have hz : allEq 8 (partF F 8 j) (fun _ => 0) = true := by rw [← hq]; exact hz
        refine Exists.intro (j + 1) (And.intro (by omega) (And.intro (by omega) (And.intro (And.intro rfl (And.intro rfl (And.intro rfl (And.intro rfl (And.intro (rowEq fun _ _ => rfl) (And.intro (slotI (wrapS (by omega))) trivial)))))) ?_)))
        refine And.intro (And.intro (algR p n U T) rfl) (And.intro (And.intro (rowEq fun _ _ => rfl) rfl) (And.intro (And.intro (rowEq fun _ _ => rfl) rfl) (And.intro (And.intro (rowEq fun q hq => ?_) rfl) trivial)))
        show pairT p T F G j 8 q % p = (pairT p T F G j 8 q + pairN p T F G j 8 q) % p
        have : pairN p T F G j 8 q = 0 := by
          unfold pairN pw
          exact sumN_none 8 fun b hb => by rw [prodF_none fun i hi => allEq_get hz hi]; simp
        rw [this, Int.add_zero]
      · have hV : ∀ i, i < 8 → updR (fun _ => 0) 0 8 (fun q => F (q + (j : Int).toNat * 8)) (i + 0) = partF F 8 j i := fun i hi => by rw [hjdx]; simp [updR, hi, partF]
        (repeat (first | refine And.intro (by omega) ?_ | refine And.intro ⟨by omega, by omega⟩ ?_))
        refine And.intro trivial (Spec.mono (leftTable_s p n U T _ hp hT (fun i hi => by rw [hV i hi]; exact hFj i hi)) ?_)
        rintro r m ⟨rfl, rfl⟩
        (repeat (first | refine And.intro (by omega) ?_ | refine And.intro ⟨by omega, by omega⟩ ?_))
        have hL : ∀ q, leftT p T (fun i => updR (fun _ => 0) 0 8 (fun q => F (q + (j : Int).toNat * 8)) (i + 0)) q = leftT p T (partF F 8 j) q := fun q => by
          unfold leftT rightF
          rw [linS_congr 8 fun i hi => by rw [hV i hi]]
        refine LoopVC.of (fun l : Nat => l ≤ 8) (fun l => [(3, .ptr 0 [] 0 0), (5, .ptr 2 [] 0 0), (6, .ptr 3 [] 0 0), (7, .ptr 4 [] 0 0), (8, .int .i64 j), (10, .ptr 6 [] 0 0), (13, .ints .u8 64 F), (14, .int .i64 j), (24, .ints .u8 64 G), (25, .int .i64 l)])
          (fun l => [some (algV p n U T, 522), none, some (.ints .u8 64 G, 64), some (.ints .u8 64 fun _ => 0, 64), some (.ints .u8 64 fun q => (pairT p T F G j 8 q + pairN p T F G j l q) % p, 64), none, some (.ints .u8 64 (leftT p T (partF F 8 j)), 64)]) (fun l => 8 - l) 0 (by omega) ?_ ?_ ?_
        · exact And.intro rfl (And.intro rfl (And.intro rfl (And.intro rfl (And.intro rfl (And.intro rfl (And.intro (rowEq fun _ _ => rfl) (And.intro rfl (And.intro (rowEq fun _ _ => rfl) (And.intro rfl trivial)))))))))
        · exact And.intro (And.intro (algR p n U T) rfl) (And.intro (And.intro (rowEq fun _ _ => rfl) rfl) (And.intro (And.intro (rowEq fun _ _ => rfl) rfl) (And.intro (And.intro (rowEq fun q _ => by simp [pairN, sumN]) rfl) (And.intro (And.intro (rowEq fun q hq => (upd0 hq).trans (hL q)) rfl) trivial))))
        · intro l hl
          refine ifVC_split (fun h => ?_) (fun h => ?_)
          · have hltl := of_decide_eq_true h
            have hldx : (l : Int).toNat = l := by omega
            have hGl : isU8 8 (partF G 8 l) := fun i hi => hG _ (by omega)
            (repeat (first | refine And.intro (by omega) ?_ | refine And.intro ⟨by omega, by omega⟩ ?_))
            refine Exists.intro 15 (And.intro (by kernel_rfl) ?_)
            (repeat (first | refine And.intro (by omega) ?_ | refine And.intro ⟨by omega, by omega⟩ ?_))
            have hW : ∀ i, i < 8 → updR (fun _ => 0) 0 8 (fun q => G (q + (l : Int).toNat * 8)) (i + 0) = partF G 8 l i := fun i hi => by rw [hldx]; simp [updR, hi, partF]
            refine Exists.intro (.ints .u8 8 (pw p T F G j l)) (And.intro (And.intro rfl (And.intro rfl ?_)) ?_)
            · refine Spec.mono (apply_s p _ _ hp (fun q _ => modB hp) (fun i hi => by rw [hW i hi]; exact hGl i hi)) ?_
              rintro r m ⟨rfl, _⟩
              refine congrArg (SV.ints .u8 8) (funext fun y => ?_)
              show _ = linS (leftT p T (partF F 8 j)) (partF G 8 l) 8 y % p
              refine congrArg (· % p) (linS_congr 8 fun i hi => ?_)
              rw [hW i hi]
              rfl
            refine Exists.intro (.ints .u8 64 fun q => (pairT p T F G j 8 q + pairN p T F G j (l + 1) q) % p) (And.intro (And.intro rfl (And.intro rfl ?_)) ?_)
            · refine Spec.mono (addTensor_s p _ _ _ hp (fun q _ => ⟨Int.emod_nonneg _ (by omega), Int.emod_lt_of_pos _ hp.1⟩) (fun i hi => hT _ (by omega)) (pw_u8 hp T F G j l 8)) ?_
              rintro r m ⟨rfl, _⟩
              refine congrArg (SV.ints .u8 64) (funext fun q => ?_)
              unfold addTen
              rw [mod_add, Int.add_assoc]
              refine congrArg (fun z => (pairT p T F G j 8 q + (pairN p T F G j l q + z * pw p T F G j l (q % 8))) % p) ?_
              first
                | rfl
                | (show T _ = T _; congr 1; omega)
            (repeat (first | refine And.intro (by omega) ?_ | refine And.intro ⟨by omega, by omega⟩ ?_))
            refine Exists.intro (l + 1) (And.intro (by omega) (And.intro (by omega) (And.intro (And.intro rfl (And.intro rfl (And.intro rfl (And.intro rfl (And.intro rfl (And.intro rfl (And.intro (rowEq fun _ _ => rfl) (And.intro rfl (And.intro (rowEq fun _ _ => rfl) (And.intro (slotI (wrapS (by omega))) trivial)))))))))) ?_)))
            exact And.intro (And.intro (algR p n U T) rfl) (And.intro (And.intro (rowEq fun _ _ => rfl) rfl) (And.intro (And.intro (rowEq fun _ _ => rfl) rfl) (And.intro (And.intro (rowEq fun q hq => by show updR _ 0 64 _ q = _; simp [updR, hq]) rfl) (And.intro (And.intro (rowEq fun _ _ => rfl) rfl) trivial))))
          · have hge := of_decide_eq_false h
            obtain rfl : l = 8 := by omega
            refine Exists.intro (j + 1) (And.intro (by omega) (And.intro (by omega) (And.intro (And.intro rfl (And.intro rfl (And.intro rfl (And.intro rfl (And.intro (rowEq fun _ _ => rfl) (And.intro (slotI (wrapS (by omega))) trivial)))))) ?_)))
            exact And.intro (And.intro (algR p n U T) rfl) (And.intro (And.intro (rowEq fun _ _ => rfl) rfl) (And.intro (And.intro (rowEq fun _ _ => rfl) rfl) (And.intro (And.intro (rowEq fun q hq => rfl) rfl) trivial)))
    · have hge := of_decide_eq_false h
      obtain rfl : j = 8 := by omega
      (repeat (first | refine And.intro (by omega) ?_ | refine And.intro ⟨by omega, by omega⟩ ?_))
      refine rowEq fun q hq => ?_
      show updR _ 0 64 _ q = _
      simp [updR, hq, pairsF]

/-! ### convolutions -/
/-- the part of the convolution that the leg b gives at the row i -/
def cw (p : Int) (T C F G : Nat → Int) (i b : Nat) : Nat → Int := prodF p T (partF F 8 b) (fun y => linS G (vecT C i b) 8 y % p)
def convN (p : Int) (T C F G : Nat → Int) (i m y : Nat) : Int := sumN m fun b => cw p T C F G i b y
def convF (p : Int) (n : Nat) (T C F G : Nat → Int) : Nat → Int := fun q => if q / 8 < n then convN p T C F G (q / 8) n (q % 8) % p else 0

theorem convolution_s (p : Int) (n : Nat) (n' : Int) (Z C U T F G : Nat → Int) (hp : 0 < p ∧ p < 256) (hn : n ≤ 8) (hC : isU8 512 C) (hT : isU8 512 T) (hF : isU8 64 F) (hG : isU8 64 G) :
    Spec Tryz.prog 107 [algV p n Z C, algV p n' U T, .ints .u8 64 F, .ints .u8 64 G] [] (Ret (.ints .u8 64 (convF p n T C F G))) := by
  refine Spec.ret rfl (Spec.of_vc tabOK tabEq Tryz.func107 rfl (by kernel_rfl) rfl rfl ?_)
  (repeat (first | refine And.intro (by omega) ?_ | refine And.intro ⟨by omega, by omega⟩ ?_))
  refine LoopVC.of (fun j : Nat => j ≤ n) (fun j => [(4, .ptr 0 [] 0 0), (5, .ptr 1 [] 0 0), (6, .ptr 2 [] 0 0), (7, .ptr 3 [] 0 0), (8, .ptr 4 [] 0 0), (9, .ptr 5 [] 0 0), (15, .int .i64 n), (16, .int .i64 j)])
    (fun j => [some (algV p n Z C, 522), some (algV p n' U T, 522), some (.ints .u8 64 F, 64), some (.ints .u8 64 G, 64), some (.ints .u8 64 fun _ => 0, 64), some (.ints .u8 64 fun q => if q / 8 < n then convN p T C F G (q / 8) j (q % 8) % p else 0, 64)]) (fun j => n - j) 0 (by omega) ?_ ?_ ?_
  · exact (And.intro rfl (And.intro rfl (And.intro rfl (And.intro rfl (And.intro rfl (And.intro rfl (And.intro rfl (And.intro rfl (trivial)))))))))
  · exact And.intro (And.intro (algR p n Z C) rfl) (And.intro (And.intro (algR p n' U T) rfl) (And.intro (And.intro (rowEq fun _ _ => rfl) rfl) (And.intro (And.intro (rowEq fun _ _ => rfl) rfl) (And.intro (And.intro (rowEq fun _ _ => rfl) rfl) (And.intro (And.intro (rowEq fun q _ => by simp [convN, sumN]) rfl) trivial)))))
  · intro j hj
    refine ifVC_split (fun h => ?_) (fun h => ?_)
    · have hltj := of_decide_eq_true h
      have hjdx : (j : Int).toNat = j := by omega
      have hFj : isU8 8 (partF F 8 j) := fun i hi => hF _ (by omega)
      refine Exists.intro 6 (And.intro (by kernel_rfl) ?_)
      (repeat (first | refine And.intro (by omega) ?_ | refine And.intro ⟨by omega, by omega⟩ ?_))
      refine Exists.intro (.ints .u8 64 (leftT p T (partF F 8 j))) (And.intro (And.intro rfl (And.intro rfl ?_)) ?_)
      · refine Spec.mono (leftTable_s p n' U T _ hp hT (fun i hi => hF _ (by omega))) ?_
        rintro r m ⟨rfl, _⟩
        rw [hjdx]
        rfl
      (repeat (first | refine And.intro (by omega) ?_ | refine And.intro ⟨by omega, by omega⟩ ?_))
      refine LoopVC.of (fun i : Nat => i ≤ n) (fun i => [(4, .ptr 0 [] 0 0), (5, .ptr 1 [] 0 0), (6, .ptr 2 [] 0 0), (7, .ptr 3 [] 0 0), (8, .ptr 4 [] 0 0), (9, .ptr 5 [] 0 0), (10, .int .i64 j), (11, .ptr 6 [] 0 0), (15, .int .i64 n), (16, .int .i64 j), (25, .int .i64 n), (26, .int .i64 i)])
        (fun i => [some (algV p n Z C, 522), some (algV p n' U T, 522), some (.ints .u8 64 F, 64), some (.ints .u8 64 G, 64), some (.ints .u8 64 fun _ => 0, 64), some (.ints .u8 64 fun q => if q / 8 < i then convN p T C F G (q / 8) (j + 1) (q % 8) % p else if q / 8 < n then convN p T C F G (q / 8) j (q % 8) % p else 0, 64), some (.ints .u8 64 (leftT p T (partF F 8 j)), 64)]) (fun i => n - i) 0 (by omega) ?_ ?_ ?_
      · exact (And.intro rfl (And.intro rfl (And.intro rfl (And.intro rfl (And.intro rfl (And.intro rfl (And.intro rfl (And.intro rfl (And.intro rfl (And.intro rfl (And.intro rfl (And.intro rfl (trivial)))))))))))))
      · exact And.intro (And.intro (algR p n Z C) rfl) (And.intro (And.intro (algR p n' U T) rfl) (And.intro (And.intro (rowEq fun _ _ => rfl) rfl) (And.intro (And.intro (rowEq fun _ _ => rfl) rfl) (And.intro (And.intro (rowEq fun _ _ => rfl) rfl) (And.intro (And.intro (rowEq fun q _ => by simp) rfl) (And.intro (And.intro (rowEq fun q hq => by first | rfl | (show updR _ 0 64 _ q = _; simp [updR, hq])) rfl) trivial))))))
      · intro i hi
        refine ifVC_split (fun h => ?_) (fun h => ?_)
        · have hlti := of_decide_eq_true h
          have hidx : (i : Int).toNat = i := by omega
          refine Exists.intro 11 (And.intro (by kernel_rfl) ?_)
          (repeat (first | refine And.intro (by omega) ?_ | refine And.intro ⟨by omega, by omega⟩ ?_))
          refine Exists.intro (.ints .u8 8 fun y => linS G (vecT C i j) 8 y % p) (And.intro (And.intro rfl (And.intro rfl ?_)) ?_)
          · refine Spec.mono (apply_s p _ _ hp (fun q hq => hG _ (by omega)) (fun q hq => hC _ (by omega))) ?_
            rintro r m ⟨rfl, _⟩
            refine congrArg (SV.ints .u8 8) (funext fun y => congrArg (· % p) (linS_congr 8 fun a ha => ?_))
            rw [hidx, hjdx]
            rfl
          have hout : ∀ q, q < 64 → 0 ≤ (fun q => if q / 8 < i then convN p T C F G (q / 8) (j + 1) (q % 8) % p else if q / 8 < n then convN p T C F G (q / 8) j (q % 8) % p else 0) q ∧ (fun q => if q / 8 < i then convN p T C F G (q / 8) (j + 1) (q % 8) % p else if q / 8 < n then convN p T C F G (q / 8) j (q % 8) % p else 0) q < p := fun q hq => by
            dsimp only
            split
            · exact modP hp
            · split
              · exact modP hp
              · omega
          (repeat (first | refine And.intro (by omega) ?_ | refine And.intro ⟨by omega, by omega⟩ ?_))
          refine Exists.intro 13 (And.intro (by kernel_rfl) ?_)
          (repeat (first | refine And.intro (by omega) ?_ | refine And.intro ⟨by omega, by omega⟩ ?_))
          refine Exists.intro (.ints .u8 8 (cw p T C F G i j)) (And.intro (And.intro rfl (And.intro rfl ?_)) ?_)
          · refine Spec.mono (apply_s p _ _ hp (fun q hq => modB hp) (fun q hq => by simp only [updR]; rw [if_pos (by omega)]; exact modB hp)) ?_
            rintro r m ⟨rfl, _⟩
            refine congrArg (SV.ints .u8 8) (funext fun y => congrArg (· % p) (linS_congr 8 fun a ha => ?_))
            have e : updR (fun _ => 0) 0 8 (fun y => linS G (vecT C i j) 8 y % p) (a + 0) = linS G (vecT C i j) 8 a % p := by simp [updR, ha]
            rw [e]
            rfl
          refine Exists.intro (.ints .u8 8 _) (And.intro (And.intro rfl (And.intro rfl (Spec.mono (addMultiple_s p _ _ _ hp (by omega) (fun q hq => hout _ (by omega)) (fun q _ => modB hp)) fun r m h => h.1))) ?_)
          (repeat (first | refine And.intro (by omega) ?_ | refine And.intro ⟨by omega, by omega⟩ ?_))
          refine Exists.intro (i + 1) (And.intro (by omega) (And.intro (by omega) (And.intro (And.intro rfl (And.intro rfl (And.intro rfl (And.intro rfl (And.intro rfl (And.intro rfl (And.intro rfl (And.intro rfl (And.intro rfl (And.intro rfl (And.intro rfl (And.intro (slotI (wrapS (by omega))) trivial)))))))))))) ?_)))
          refine And.intro (And.intro (algR p n Z C) rfl) (And.intro (And.intro (algR p n' U T) rfl) (And.intro (And.intro (rowEq fun _ _ => rfl) rfl) (And.intro (And.intro (rowEq fun _ _ => rfl) rfl) (And.intro (And.intro (rowEq fun _ _ => rfl) rfl) (And.intro (And.intro (rowEq fun q hq => ?_) rfl) (And.intro (And.intro (rowEq fun _ _ => rfl) rfl) trivial))))))
          show updR _ ((i : Int).toNat * 8 + 0) 8 _ q = _
          unfold updR
          rw [hidx]
          by_cases h1 : i * 8 + 0 ≤ q ∧ q < i * 8 + 0 + 8
          · rw [if_pos h1, if_pos (by omega)]
            unfold addM
            dsimp only
            rw [show q - (i * 8 + 0) + (i * 8 + 0) = q by omega, if_neg (show ¬ q / 8 < i by omega), if_pos (show q / 8 < n by omega), mod_add, Int.one_mul]
            rw [show q / 8 = i by omega, show q - (i * 8 + 0) = q % 8 by omega]
            rfl
          · rw [if_neg h1]
            dsimp only
            by_cases h2 : q / 8 < i
            · rw [if_pos h2, if_pos (show q / 8 < i + 1 by omega)]
            · rw [if_neg h2, if_neg (show ¬ q / 8 < i + 1 by omega)]
        · have hge := of_decide_eq_false h
          obtain rfl : i = n := by omega
          refine Exists.intro (j + 1) (And.intro (by omega) (And.intro (by omega) (And.intro (And.intro rfl (And.intro rfl (And.intro rfl (And.intro rfl (And.intro rfl (And.intro rfl (And.intro rfl (And.intro (slotI (wrapS (by omega))) trivial)))))))) ?_)))
          refine And.intro (And.intro (algR p i Z C) rfl) (And.intro (And.intro (algR p n' U T) rfl) (And.intro (And.intro (rowEq fun _ _ => rfl) rfl) (And.intro (And.intro (rowEq fun _ _ => rfl) rfl) (And.intro (And.intro (rowEq fun _ _ => rfl) rfl) (And.intro (And.intro (rowEq fun q hq => ?_) rfl) trivial)))))
          by_cases h2 : q / 8 < i
          · rw [if_pos h2, if_pos h2]
          · rw [if_neg h2, if_neg h2, if_neg h2]
    · have hge := of_decide_eq_false h
      obtain rfl : j = n := by omega
      (repeat (first | refine And.intro (by omega) ?_ | refine And.intro ⟨by omega, by omega⟩ ?_))
      refine rowEq fun q hq => ?_
      show updR _ 0 64 _ q = _
      simp [updR, hq, convF]
end Go.Proofs.YtjanlnngeklhoabGreat
