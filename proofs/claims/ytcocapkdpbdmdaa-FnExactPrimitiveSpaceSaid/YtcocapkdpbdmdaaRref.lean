/- Reduced lists of rows modulo p: a space has one alone. Plain facts on numbers; nothing of the translation. -/
import Derived.Test.YtcocapkdpbdmdaaMath
set_option linter.unusedVariables false
set_option linter.unusedSimpArgs false
namespace Go.Proofs.Ytcocapkdpbdmdaa.M

theorem mod_in (p a b c : Int) : (a + c * (b % p)) % p = (a + c * b) % p := by
  have h : b = b % p + p * (b / p) := (Int.emod_add_mul_ediv b p).symm
  generalize b % p = r at *
  generalize b / p = q at *
  subst h
  rw [show a + c * (r + p * q) = a + c * r + p * (c * q) by grind, Int.add_mul_emod_self_left]
theorem mod_l (p a b : Int) : (a % p + b) % p = (a + b) % p := by
  have := mod_in p b a 1
  rw [Int.one_mul, Int.one_mul, Int.add_comm, Int.add_comm b a] at this
  exact this
theorem mod_id {p a : Int} (h : 0 ≤ a ∧ a < p) : a % p = a := Int.emod_eq_of_lt h.1 h.2
theorem mod_rng {p : Int} (hp : 0 < p) (a : Int) : 0 ≤ a % p ∧ a % p < p := ⟨Int.emod_nonneg _ (by omega), Int.emod_lt_of_pos _ hp⟩

/-- what is reached from n rows of w numbers: sums of multiples, modulo p -/
inductive Sp (p : Int) (w n : Nat) (f : Nat → Nat → Int) : (Nat → Int) → Prop where
  | zero (v : Nat → Int) (h : ∀ j, j < w → v j = 0) : Sp p w n f v
  | add (v u : Nat → Int) (c : Int) (i : Nat) (hi : i < n) (h : Sp p w n f v) (hu : ∀ j, j < w → u j = (v j + c * f i j) % p) : Sp p w n f u

theorem Sp.range {p : Int} {w n : Nat} {f : Nat → Nat → Int} (hp : 0 < p) {v : Nat → Int} (h : Sp p w n f v) : ∀ j, j < w → 0 ≤ v j ∧ v j < p := by
  cases h with
  | zero v h => intro j hj; rw [h j hj]; omega
  | add v u c i hi h hu => intro j hj; rw [hu j hj]; exact mod_rng hp _
theorem Sp.ext {p : Int} {w n : Nat} {f : Nat → Nat → Int} {v u : Nat → Int} (h : Sp p w n f v) (e : ∀ j, j < w → u j = v j) : Sp p w n f u := by
  cases h with
  | zero v h => exact .zero u fun j hj => by rw [e j hj, h j hj]
  | add v' u' c i hi h hu => exact .add v' u c i hi h fun j hj => by rw [e j hj, hu j hj]
theorem Sp.addc {p : Int} {w n : Nat} {f : Nat → Nat → Int} (hp : 0 < p) {v u : Nat → Int} (hv : Sp p w n f v) (hu : Sp p w n f u) (c : Int) : Sp p w n f fun j => (v j + c * u j) % p := by
  induction hu with
  | zero u h => exact hv.ext fun j hj => by rw [h j hj, Int.mul_zero, Int.add_zero, mod_id (hv.range hp j hj)]
  | add u u' d i hi h hu' ih =>
    refine .add _ _ (c * d) i hi ih fun j hj => ?_
    show (v j + c * u' j) % p = ((v j + c * u j) % p + c * d * f i j) % p
    rw [hu' j hj, mod_in, mod_l]
    congr 1
    grind
theorem Sp.row {p : Int} {w n : Nat} {f : Nat → Nat → Int} {i : Nat} (hi : i < n) (hf : ∀ j, j < w → 0 ≤ f i j ∧ f i j < p) : Sp p w n f (f i) :=
  .add (fun _ => 0) _ 1 i hi (.zero _ fun _ _ => rfl) fun j hj => by rw [Int.zero_add, Int.one_mul, mod_id (hf j hj)]
theorem Sp.sub {p : Int} {w n n' : Nat} {f f' : Nat → Nat → Int} (hp : 0 < p) (h : ∀ i, i < n → Sp p w n' f' (f i)) {v : Nat → Int} (hv : Sp p w n f v) : Sp p w n' f' v := by
  induction hv with
  | zero v h0 => exact .zero v h0
  | add v u c i hi hv hu ih => exact (ih.addc hp (h i hi) c).ext fun j hj => hu j hj

/-- a set of rows that sums of multiples do not leave -/
structure Space (p : Int) (w : Nat) (S : (Nat → Int) → Prop) : Prop where
  range : ∀ v, S v → ∀ j, j < w → 0 ≤ v j ∧ v j < p
  ext : ∀ v u, S v → (∀ j, j < w → u j = v j) → S u
  zero : ∀ v, (∀ j, j < w → v j = 0) → S v
  addc : ∀ v u, S v → S u → ∀ c : Int, S fun j => (v j + c * u j) % p
theorem Sp.space {p : Int} {w n : Nat} {f : Nat → Nat → Int} (hp : 0 < p) : Space p w (Sp p w n f) :=
  ⟨fun _ h => h.range hp, fun _ _ h e => h.ext e, fun v h => .zero v h, fun _ _ h h' c => h.addc hp h' c⟩
theorem Sp.in {p : Int} {w n : Nat} {f : Nat → Nat → Int} {S : (Nat → Int) → Prop} (hS : Space p w S) (h : ∀ i, i < n → S (f i)) {v : Nat → Int} (hv : Sp p w n f v) : S v := by
  induction hv with
  | zero v h0 => exact hS.zero v h0
  | add v u c i hi hv hu ih => exact hS.ext _ _ (hS.addc _ _ ih (h i hi) c) fun j hj => hu j hj

/-- a reduced list of a space: k rows, the first place of each, where it has 1 and the others 0 -/
structure Red (p : Int) (w : Nat) (S : (Nat → Int) → Prop) (k : Nat) (a : Nat → Nat → Int) (P : Nat → Nat) : Prop where
  mem : ∀ i, i < k → S (a i)
  lt : ∀ i, i < k → P i < w
  inc : ∀ i j, i < j → j < k → P i < P j
  one : ∀ i, i < k → a i (P i) = 1
  bef : ∀ i, i < k → ∀ j, j < P i → a i j = 0
  oth : ∀ i j, i < k → j < k → i ≠ j → a i (P j) = 0
  all : ∀ v, S v → (∀ i, i < k → v (P i) = 0) → ∀ j, j < w → v j = 0

theorem Red.apart {p : Int} {w : Nat} {S : (Nat → Int) → Prop} {k : Nat} {a : Nat → Nat → Int} {P : Nat → Nat} (h : Red p w S k a P) {i j : Nat} (hi : i < k) (hj : j < k) (e : P i = P j) : i = j := by
  rcases Nat.lt_trichotomy i j with g | g | g
  · have := h.inc i j g hj; omega
  · exact g
  · have := h.inc j i g hi; omega

/-- the rows taken off one by one -/
def strip (p : Int) (a : Nat → Nat → Int) (P : Nat → Nat) (v : Nat → Int) : Nat → Nat → Int
  | 0 => v
  | t + 1 => fun j => (strip p a P v t j + (-(strip p a P v t (P t))) * a t j) % p
theorem strip_in {p : Int} {w : Nat} {S : (Nat → Int) → Prop} (hS : Space p w S) {a : Nat → Nat → Int} {P : Nat → Nat} {v : Nat → Int} (hv : S v) : ∀ t, (∀ i, i < t → S (a i)) → S (strip p a P v t)
  | 0, _ => hv
  | t + 1, h => hS.addc _ _ (strip_in hS hv t fun i hi => h i (by omega)) (h t (by omega)) _

theorem Red.strip {p : Int} {w : Nat} {S : (Nat → Int) → Prop} (hp : 1 < p) (hS : Space p w S) {k : Nat} {a : Nat → Nat → Int} {P : Nat → Nat} (h : Red p w S k a P) {v : Nat → Int} (hv : S v) : ∀ t, t ≤ k →
    (∀ i, i < k → t ≤ i → M.strip p a P v t (P i) = v (P i)) ∧ (∀ i, i < t → M.strip p a P v t (P i) = 0)
  | 0, _ => ⟨fun _ _ _ => rfl, fun i hi => absurd hi (Nat.not_lt_zero _)⟩
  | t + 1, ht => by
    obtain ⟨h1, h2⟩ := h.strip hp hS hv t (by omega)
    have hs := strip_in hS hv (P := P) t fun i hi => h.mem i (by omega)
    have hr := fun i (hi : i < k) => hS.range _ hs (P i) (h.lt i hi)
    refine ⟨fun i hi hti => ?_, fun i hi => ?_⟩
    · show (M.strip p a P v t (P i) + (-(M.strip p a P v t (P t))) * a t (P i)) % p = _
      rw [h.oth t i (by omega) hi (by omega), Int.mul_zero, Int.add_zero, mod_id (hr i hi)]
      exact h1 i hi (by omega)
    · show (M.strip p a P v t (P i) + (-(M.strip p a P v t (P t))) * a t (P i)) % p = _
      by_cases hit : i = t
      · subst hit
        rw [h.one i (by omega), Int.mul_one, Int.add_right_neg, Int.zero_emod]
      · rw [h.oth t i (by omega) (by omega) (by omega), Int.mul_zero, Int.add_zero, h2 i (by omega), Int.zero_emod]
theorem Red.strip_at {p : Int} {w : Nat} {S : (Nat → Int) → Prop} (hp : 1 < p) (hS : Space p w S) {k : Nat} {a : Nat → Nat → Int} {P : Nat → Nat} (h : Red p w S k a P) {v : Nat → Int} (hv : S v) {q : Nat} (hq : q < w) (hb : ∀ j, j < q → v j = 0) (hne : ∀ i, i < k → P i ≠ q) :
    ∀ t, t ≤ k → M.strip p a P v t q = v q
  | 0, _ => rfl
  | t + 1, ht => by
    have ih := h.strip_at hp hS hv hq hb hne t (by omega)
    have h1 := (h.strip hp hS hv t (by omega)).1 t (by omega) (Nat.le_refl _)
    show (M.strip p a P v t q + (-(M.strip p a P v t (P t))) * a t q) % p = _
    rw [ih, h1]
    have hr := mod_id (hS.range v hv q hq)
    rcases Nat.lt_or_ge (P t) q with g | g
    · rw [hb _ g, Int.neg_zero, Int.zero_mul, Int.add_zero, hr]
    · rw [h.bef t (by omega) q (by have := hne t (by omega); omega), Int.mul_zero, Int.add_zero, hr]
/-- the first place of what is in the space is one of the list -/
theorem Red.lead {p : Int} {w : Nat} {S : (Nat → Int) → Prop} (hp : 1 < p) (hS : Space p w S) {k : Nat} {a : Nat → Nat → Int} {P : Nat → Nat} (h : Red p w S k a P) {v : Nat → Int} (hv : S v) {q : Nat} (hq : q < w) (hb : ∀ j, j < q → v j = 0) (h0 : v q ≠ 0) : ∃ i, i < k ∧ P i = q := by
  refine Classical.byContradiction fun hc => h0 ?_
  have hne : ∀ i, i < k → P i ≠ q := fun i hi e => hc ⟨i, hi, e⟩
  have hs := strip_in hS hv (P := P) k h.mem
  have := h.all _ hs (h.strip hp hS hv k (Nat.le_refl _)).2 q hq
  rwa [h.strip_at hp hS hv hq hb hne k (Nat.le_refl _)] at this

/-- two rising lists of the same numbers -/
theorem rise_same {k k' : Nat} {P P' : Nat → Nat} (h : ∀ i j, i < j → j < k → P i < P j) (h' : ∀ i j, i < j → j < k' → P' i < P' j) (g : ∀ i, i < k → ∃ j, j < k' ∧ P' j = P i) (g' : ∀ i, i < k' → ∃ j, j < k ∧ P j = P' i) :
    ∀ i, i < k → i < k' ∧ P i = P' i := by
  intro i
  induction i using Nat.strongRecOn with
  | _ i ih =>
    intro hi
    obtain ⟨a, ha, ea⟩ := g i hi
    have h1 : i ≤ a := by
      rcases Nat.lt_or_ge a i with l | l
      · obtain ⟨_, e⟩ := ih a l (by omega)
        have := h a i l hi
        omega
      · exact l
    have h2 : ¬ i < a := fun l => by
      obtain ⟨b, hb, eb⟩ := g' i (by omega)
      have := h' i a l ha
      rcases Nat.lt_or_ge b i with m | m
      · obtain ⟨_, e⟩ := ih b m hb
        have := h' b i m (by omega)
        omega
      · rcases Nat.eq_or_lt_of_le m with rfl | m
        · omega
        · have := h i b m hb; omega
    obtain rfl : a = i := by omega
    exact ⟨ha, ea.symm⟩

/-- a space has one reduced list -/
theorem Red.uniq {p : Int} {w : Nat} {S : (Nat → Int) → Prop} (hp : 1 < p) (hS : Space p w S) {k k' : Nat} {a a' : Nat → Nat → Int} {P P' : Nat → Nat} (h : Red p w S k a P) (h' : Red p w S k' a' P') : k = k' ∧ (∀ i, i < k → P i = P' i) ∧ ∀ i, i < k → ∀ j, j < w → a i j = a' i j := by
  have g : ∀ i, i < k → ∃ j, j < k' ∧ P' j = P i := fun i hi => h'.lead hp hS (h.mem i hi) (h.lt i hi) (h.bef i hi) (by rw [h.one i hi]; decide)
  have g' : ∀ i, i < k' → ∃ j, j < k ∧ P j = P' i := fun i hi => h.lead hp hS (h'.mem i hi) (h'.lt i hi) (h'.bef i hi) (by rw [h'.one i hi]; decide)
  have e := rise_same h.inc h'.inc g g'
  have e' := rise_same h'.inc h.inc g' g
  have hk : k = k' := by
    rcases Nat.lt_trichotomy k k' with l | l | l
    · have := (e' k l).1; omega
    · exact l
    · have := (e k' l).1; omega
  subst hk
  refine ⟨rfl, fun i hi => (e i hi).2, fun i hi j hj => ?_⟩
  have hd : S fun j => (a i j + (-1) * a' i j) % p := hS.addc _ _ (h.mem i hi) (h'.mem i hi) (-1)
  have hz := h.all _ hd (fun l hl => by
    show (a i (P l) + (-1) * a' i (P l)) % p = 0
    have el := (e l hl).2
    by_cases hil : i = l
    · subst hil
      rw [h.one i hi, el, h'.one i hi]; simp
    · rw [h.oth i l hi hl hil, el, h'.oth i l hi hl hil]; simp) j hj
  have hz : (a i j + (-1) * a' i j) % p = 0 := hz
  have r1 := hS.range _ (h.mem i hi) j hj
  have r2 := hS.range _ (h'.mem i hi) j hj
  have hdv := Int.dvd_of_emod_eq_zero hz
  obtain ⟨c, hc⟩ := hdv
  have : c = 0 := by
    rcases Int.lt_trichotomy c 0 with l | l | l
    · have : p * c ≤ p * (-1) := Int.mul_le_mul_of_nonneg_left (by omega) (by omega)
      omega
    · exact l
    · have : p * 1 ≤ p * c := Int.mul_le_mul_of_nonneg_left (by omega) (by omega)
      omega
  subst this
  omega

theorem Sp.congr {p : Int} {w n : Nat} {f f' : Nat → Nat → Int} (hp : 0 < p) (e : ∀ i, i < n → ∀ j, j < w → f i j = f' i j) (hr : ∀ i, i < n → ∀ j, j < w → 0 ≤ f i j ∧ f i j < p) {v : Nat → Int} : Sp p w n f v ↔ Sp p w n f' v :=
  ⟨fun h => h.sub hp fun i hi => (Sp.row hi fun j hj => by rw [← e i hi j hj]; exact hr i hi j hj).ext (e i hi), fun h => h.sub hp fun i hi => (Sp.row hi (hr i hi)).ext fun j hj => (e i hi j hj).symm⟩
theorem Red.of_iff {p : Int} {w : Nat} {S S' : (Nat → Int) → Prop} {k : Nat} {a : Nat → Nat → Int} {P : Nat → Nat} (h : Red p w S k a P) (e : ∀ v, S v ↔ S' v) : Red p w S' k a P :=
  ⟨fun i hi => (e _).1 (h.mem i hi), h.lt, h.inc, h.one, h.bef, h.oth, fun v hv => h.all v ((e v).2 hv)⟩

/-! ### rows made reduced, one place after the other -/
structure Gauss (p : Int) (w n : Nat) (f0 f : Nat → Nat → Int) (done place : Nat) (P : Nat → Nat) : Prop where
  rng : ∀ i, i < n → ∀ j, j < w → 0 ≤ f i j ∧ f i j < p
  fwd : ∀ i, i < n → Sp p w n f0 (f i)
  bwd : ∀ i, i < n → Sp p w n f (f0 i)
  dn : done ≤ n
  pw : place ≤ w
  lt : ∀ i, i < done → P i < place
  inc : ∀ i j, i < j → j < done → P i < P j
  one : ∀ i, i < done → f i (P i) = 1
  bef : ∀ i, i < done → ∀ j, j < P i → f i j = 0
  oth : ∀ l i, l < n → i < done → l ≠ i → f l (P i) = 0
  beh : ∀ l, done ≤ l → l < n → ∀ j, j < place → f l j = 0

theorem Gauss.start {p : Int} {w n : Nat} {f : Nat → Nat → Int} (h : ∀ i, i < n → ∀ j, j < w → 0 ≤ f i j ∧ f i j < p) : Gauss p w n f f 0 0 fun _ => 0 :=
  ⟨h, fun i hi => .row hi (h i hi), fun i hi => .row hi (h i hi), Nat.zero_le _, Nat.zero_le _, fun i hi => absurd hi (Nat.not_lt_zero _), fun _ j _ hj => absurd hj (Nat.not_lt_zero _), fun i hi => absurd hi (Nat.not_lt_zero _), fun i hi => absurd hi (Nat.not_lt_zero _), fun _ i _ hi => absurd hi (Nat.not_lt_zero _), fun _ _ _ j hj => absurd hj (Nat.not_lt_zero _)⟩

theorem Gauss.skip {p : Int} {w n : Nat} {f0 f : Nat → Nat → Int} {done place : Nat} {P : Nat → Nat} (h : Gauss p w n f0 f done place P) (hw : place < w) (hz : ∀ l, done ≤ l → l < n → f l place = 0) : Gauss p w n f0 f done (place + 1) P :=
  { h with
    pw := hw
    lt := fun i hi => by have := h.lt i hi; omega
    beh := fun l h1 h2 j hj => by
      by_cases hjp : j = place
      · subst hjp; exact hz l h1 h2
      · exact h.beh l h1 h2 j (by omega) }

/-- rows done and done + at change places; the first of them is divided; multiples of it are taken off the others -/
def swapR (f : Nat → Nat → Int) (a b : Nat) : Nat → Nat → Int := fun i => if i = a then f b else if i = b then f a else f i
def mulR (p y : Int) (f : Nat → Nat → Int) (a : Nat) : Nat → Nat → Int := fun i => if i = a then fun j => y * f a j % p else f i
def clearR (p : Int) (f : Nat → Nat → Int) (a place : Nat) : Nat → Nat → Int := fun i => if i ≠ a ∧ f i place ≠ 0 then fun j => (f i j + (p - f i place) * f a j) % p else f i

theorem Gauss.pivot {p : Int} {w n : Nat} {f0 f : Nat → Nat → Int} {done place b : Nat} {P : Nat → Nat} {y : Int} (hp : 1 < p) (h : Gauss p w n f0 f done place P) (hd : done < n) (hw : place < w) (hb : done ≤ b ∧ b < n) (hy : y * f b place % p = 1) :
    Gauss p w n f0 (clearR p (mulR p y (swapR f done b) done) done place) (done + 1) (place + 1) (fun i => if i = done then place else P i) := by
  -- the three steps
  have hp0 : 0 < p := by omega
  let g := swapR f done b
  have g_in : ∀ i, i < n → ∃ l, l < n ∧ g i = f l ∧ (i < done → l = i) ∧ (done ≤ i → done ≤ l) := fun i hi => by
    by_cases h1 : i = done
    · exact ⟨b, hb.2, by simp [g, swapR, h1], fun _ => by omega, fun _ => hb.1⟩
    · by_cases h2 : i = b
      · exact ⟨done, hd, by simp [g, swapR, h1, h2]; omega, fun _ => by omega, fun _ => Nat.le_refl _⟩
      · exact ⟨i, hi, by simp [g, swapR, h1, h2], fun _ => rfl, fun h => h⟩
  have f_in : ∀ i, i < n → ∃ l, l < n ∧ f i = g l := fun i hi => by
    by_cases h1 : i = done
    · by_cases hbd : b = done
      · exact ⟨done, hd, by simp [g, swapR, h1, hbd]⟩
      · exact ⟨b, hb.2, by simp [g, swapR, h1, hbd]⟩
    · by_cases h2 : i = b
      · exact ⟨done, hd, by simp [g, swapR, h2]⟩
      · exact ⟨i, hi, by simp [g, swapR, h1, h2]⟩
  have g_rng : ∀ i, i < n → ∀ j, j < w → 0 ≤ g i j ∧ g i j < p := fun i hi => by obtain ⟨l, hl, e, _⟩ := g_in i hi; rw [e]; exact h.rng l hl
  have gd : g done = f b := by simp [g, swapR]
  let m := mulR p y g done
  have m_ne : ∀ i, i ≠ done → m i = g i := fun i hi => by simp [m, mulR, hi]
  have m_d : ∀ j, m done j = y * f b j % p := fun j => by simp [m, mulR, gd]
  have m_rng : ∀ i, i < n → ∀ j, j < w → 0 ≤ m i j ∧ m i j < p := fun i hi j hj => by
    by_cases h1 : i = done
    · subst h1; rw [m_d]; exact mod_rng hp0 _
    · rw [m_ne i h1]; exact g_rng i hi j hj
  have m_one : m done place = 1 := by rw [m_d]; exact hy
  let c := clearR p m done place
  have c_d : c done = m done := by simp [c, clearR]
  have c_val : ∀ i, i < n → i ≠ done → ∀ j, j < w → c i j = (m i j + (if m i place ≠ 0 then p - m i place else 0) * m done j) % p := fun i hi hne j hj => by
    by_cases h2 : m i place ≠ 0
    · simp [c, clearR, hne, h2]
    · rw [if_neg h2, Int.zero_mul, Int.add_zero, mod_id (m_rng i hi j hj)]
      simp [c, clearR, hne, h2]
  have c_rng : ∀ i, i < n → ∀ j, j < w → 0 ≤ c i j ∧ c i j < p := fun i hi j hj => by
    by_cases h1 : i = done
    · subst h1; rw [c_d]; exact m_rng i hi j hj
    · rw [c_val i hi h1 j hj]; exact mod_rng hp0 _
  -- the rows before this place
  have m_bef : ∀ j, j < place → m done j = 0 := fun j hj => by rw [m_d, h.beh b hb.1 hb.2 j hj, Int.mul_zero, Int.zero_emod]
  have c_bef : ∀ i, i < n → ∀ j, j < place → c i j = g i j := fun i hi j hj => by
    have hjw : j < w := by have := h.pw; omega
    by_cases h1 : i = done
    · subst h1; rw [c_d, m_bef j hj, gd, h.beh b hb.1 hb.2 j hj]
    · rw [c_val i hi h1 j hjw, m_bef j hj, Int.mul_zero, Int.add_zero, mod_id (m_rng i hi j hjw), m_ne i h1]
  have c_pl : ∀ i, i < n → i ≠ done → c i place = 0 := fun i hi h1 => by
    rw [c_val i hi h1 place hw, m_one, Int.mul_one]
    by_cases h2 : m i place ≠ 0
    · rw [if_pos h2, show m i place + (p - m i place) = p by omega, Int.emod_self]
    · rw [if_neg h2, Int.add_zero]
      have : m i place = 0 := Classical.not_not.1 h2
      rw [this, Int.zero_emod]
  show Gauss p w n f0 c (done + 1) (place + 1) _
  refine ⟨c_rng, fun i hi => ?_, fun i hi => ?_, hd, hw, fun i hi => ?_, fun i j hij hj => ?_, fun i hi => ?_, fun i hi j hj => ?_, fun l i hl hi hli => ?_, fun l h1 h2 j hj => ?_⟩
  · -- what is made is in the space
    have gin : ∀ i, i < n → Sp p w n f0 (g i) := fun i hi => by obtain ⟨l, hl, e, _⟩ := g_in i hi; rw [e]; exact h.fwd l hl
    have md : Sp p w n f0 (m done) := ((Sp.zero (fun _ => 0) fun _ _ => rfl).addc hp0 (gin done hd) y).ext fun j hj => by rw [m_d, gd, Int.zero_add]
    by_cases h1 : i = done
    · subst h1; rw [c_d]; exact md
    · refine ((gin i hi).addc hp0 md (if m i place ≠ 0 then p - m i place else 0)).ext fun j hj => ?_
      rw [c_val i hi h1 j hj, m_ne i h1]
  · -- and the other way
    have cd : Sp p w n c (m done) := by rw [← c_d]; exact .row hd (c_rng done hd)
    have cm : ∀ i, i < n → Sp p w n c (m i) := fun i hi => by
      by_cases h1 : i = done
      · subst h1; exact cd
      · refine ((Sp.row hi (c_rng i hi)).addc hp0 cd (-(if m i place ≠ 0 then p - m i place else 0))).ext fun j hj => ?_
        rw [c_val i hi h1 j hj, mod_l, show m i j + (if m i place ≠ 0 then p - m i place else 0) * m done j + -(if m i place ≠ 0 then p - m i place else 0) * m done j = m i j by grind, mod_id (m_rng i hi j hj)]
    have cg : ∀ i, i < n → Sp p w n c (g i) := fun i hi => by
      by_cases h1 : i = done
      · subst h1
        refine ((Sp.zero (fun _ => 0) fun _ _ => rfl).addc hp0 (cm i hi) (f b place)).ext fun j hj => ?_
        rw [m_d, Int.zero_add]
        have e := mod_in p 0 (y * f b j) (f b place)
        rw [Int.zero_add, Int.zero_add] at e
        rw [e, gd, show f b place * (y * f b j) = (y * f b place) * f b j by grind]
        have e2 := mod_in p 0 (y * f b place) (f b j)
        rw [Int.zero_add, Int.zero_add, hy, Int.mul_one, Int.mul_comm] at e2
        rw [← e2, mod_id (h.rng b hb.2 j hj)]
      · rw [← m_ne i h1]; exact cm i hi
    refine (h.bwd i hi).sub hp0 fun l hl => ?_
    obtain ⟨l', hl', e⟩ := f_in l hl
    rw [e]
    exact cg l' hl'
  · by_cases h1 : i = done
    · simp [h1]
    · rw [if_neg h1]; have := h.lt i (by omega); omega
  · rw [if_neg (show i ≠ done by omega)]
    by_cases h1 : j = done
    · rw [if_pos h1]; exact h.lt i (by omega)
    · rw [if_neg h1]; exact h.inc i j hij (by omega)
  · by_cases h1 : i = done
    · subst h1; rw [if_pos rfl, c_d]; exact m_one
    · rw [if_neg h1]
      have hi' : i < done := by omega
      obtain ⟨l, hl, e, e1, _⟩ := g_in i (by omega)
      rw [c_bef i (by omega) _ (h.lt i hi'), e, e1 hi']
      exact h.one i hi'
  · by_cases h1 : i = done
    · subst h1
      rw [if_pos rfl] at hj
      rw [c_bef i hd j hj, gd]
      exact h.beh b hb.1 hb.2 j hj
    · rw [if_neg h1] at hj
      have hi' : i < done := by omega
      obtain ⟨l, hl, e, e1, _⟩ := g_in i (by omega)
      rw [c_bef i (by omega) j (by have := h.lt i hi'; omega), e, e1 hi']
      exact h.bef i hi' j hj
  · by_cases h1 : i = done
    · subst h1
      rw [if_pos rfl]
      exact c_pl l hl hli
    · rw [if_neg h1]
      have hi' : i < done := by omega
      obtain ⟨q, hq, e, e1, e2⟩ := g_in l hl
      rw [c_bef l hl _ (h.lt i hi'), e]
      refine h.oth q i hq hi' fun hqi => ?_
      rcases Nat.lt_or_ge l done with hl' | hl'
      · have := e1 hl'; omega
      · have := e2 hl'; omega
  · by_cases h3 : j = place
    · subst h3; exact c_pl l h2 (by omega)
    · obtain ⟨q, hq, e, _, e2⟩ := g_in l h2
      rw [c_bef l h2 j (by omega), e]
      exact h.beh q (e2 (by omega)) hq j (by omega)

theorem Gauss.ext {p : Int} {w n : Nat} {f0 f f' : Nat → Nat → Int} {done place : Nat} {P : Nat → Nat} (hp : 1 < p) (h : Gauss p w n f0 f done place P) (e : ∀ i, i < n → ∀ j, j < w → f' i j = f i j) : Gauss p w n f0 f' done place P := by
  have hp0 : 0 < p := by omega
  have rng : ∀ i, i < n → ∀ j, j < w → 0 ≤ f' i j ∧ f' i j < p := fun i hi j hj => by rw [e i hi j hj]; exact h.rng i hi j hj
  have hpw := h.pw
  have hdn := h.dn
  refine ⟨rng, fun i hi => (h.fwd i hi).ext (e i hi), fun i hi => (h.bwd i hi).sub hp0 fun l hl => (Sp.row hl (rng l hl)).ext fun j hj => (e l hl j hj).symm, h.dn, h.pw, h.lt, h.inc, fun i hi => ?_, fun i hi j hj => ?_, fun l i hl hi hli => ?_, fun l h1 h2 j hj => ?_⟩
  · rw [e i (by omega) _ (by have := h.lt i hi; omega)]; exact h.one i hi
  · rw [e i (by omega) _ (by have := h.lt i hi; omega)]; exact h.bef i hi j hj
  · rw [e l hl _ (by have := h.lt i hi; omega)]; exact h.oth l i hl hi hli
  · rw [e l h2 _ (by omega)]; exact h.beh l h1 h2 j hj

/-- when all rows, or all places, are through: a reduced list -/
theorem Gauss.red {p : Int} {w n : Nat} {f0 f : Nat → Nat → Int} {done place : Nat} {P : Nat → Nat} (hp : 1 < p) (h : Gauss p w n f0 f done place P) (hend : done = n ∨ place = w) : Red p w (Sp p w n f0) done f P := by
  have hp0 : 0 < p := by omega
  have hz : ∀ l, done ≤ l → l < n → ∀ j, j < w → f l j = 0 := fun l h1 h2 j hj => by
    rcases hend with rfl | rfl
    · omega
    · exact h.beh l h1 h2 j hj
  have hS : Space p w (Sp p w n f0) := Sp.space hp0
  refine ⟨fun i hi => h.fwd i (by have := h.dn; omega), fun i hi => by have := h.lt i hi; have := h.pw; omega, h.inc, h.one, h.bef, fun i j hi hj hij => h.oth i j (by have := h.dn; omega) hj hij, fun v hv h0 => ?_⟩
  -- what is told by the rows is told by its numbers at their places
  have key : ∀ v, Sp p w n f v → ∀ j, j < w → M.strip p f P v done j = 0 := by
    have fixd : ∀ v, (∀ j, j < w → v j = 0) → ∀ t, t ≤ done → ∀ j, j < w → M.strip p f P v t j = 0 := fun v hv t => by
      induction t with
      | zero => intro _ j hj; exact hv j hj
      | succ t ih =>
        intro ht j hj
        show (M.strip p f P v t j + (-(M.strip p f P v t (P t))) * f t j) % p = 0
        rw [ih (by omega) j hj, ih (by omega) (P t) (by have := h.lt t (by omega); have := h.pw; omega)]
        simp
    have lin : ∀ (v u : Nat → Int) (c : Int) (i : Nat), i < n → (∀ j, j < w → u j = (v j + c * f i j) % p) → ∀ t, t ≤ done → ∀ j, j < w → M.strip p f P u t j = (M.strip p f P v t j + (if i < t then 0 else c) * f i j) % p := fun v u c i hi hu t => by
      induction t with
      | zero => intro _ j hj; rw [if_neg (Nat.not_lt_zero _)]; exact hu j hj
      | succ t ih =>
        intro ht j hj
        have hpt : P t < w := by have := h.lt t (by omega); have := h.pw; omega
        show (M.strip p f P u t j + (-(M.strip p f P u t (P t))) * f t j) % p = ((M.strip p f P v t j + (-(M.strip p f P v t (P t))) * f t j) % p + (if i < t + 1 then 0 else c) * f i j) % p
        have e1 := ih (by omega) j hj
        have e2 := ih (by omega) (P t) hpt
        rw [e1, e2, mod_l, mod_l]
        have e3 : (-((M.strip p f P v t (P t) + (if i < t then 0 else c) * f i (P t)) % p)) * f t j = (- f t j) * ((M.strip p f P v t (P t) + (if i < t then 0 else c) * f i (P t)) % p) := by grind
        rw [e3, mod_in]
        by_cases hit : i = t
        · subst hit
          rw [if_neg (Nat.lt_irrefl _), if_pos (Nat.lt_succ_self _), h.one i (by omega)]
          congr 1
          grind
        · rw [h.oth i t hi (by omega) hit]
          by_cases hlt : i < t
          · rw [if_pos hlt, if_pos (by omega)]; congr 1; grind
          · rw [if_neg hlt, if_neg (by omega)]; congr 1; grind
    intro v hv
    induction hv with
    | zero v h0 => exact fixd v h0 done (Nat.le_refl _)
    | add v u c i hi hv hu ih =>
      intro j hj
      rw [lin v u c i hi hu done (Nat.le_refl _) j hj, ih j hj]
      by_cases hid : i < done
      · rw [if_pos hid]; simp
      · rw [if_neg hid, hz i (by omega) hi j hj]; simp
  have still : ∀ t, t ≤ done → ∀ j, j < w → M.strip p f P v t j = v j := fun t => by
    induction t with
    | zero => intro _ j hj; rfl
    | succ t ih =>
      intro ht j hj
      show (M.strip p f P v t j + (-(M.strip p f P v t (P t))) * f t j) % p = v j
      rw [ih (by omega) j hj, ih (by omega) (P t) (by have := h.lt t (by omega); have := h.pw; omega), h0 t (by omega), Int.neg_zero, Int.zero_mul, Int.add_zero, mod_id (hS.range v hv j hj)]
  intro j hj
  rw [← still done (Nat.le_refl _) j hj]
  exact key v (hv.sub hp0 h.bwd) j hj
end Go.Proofs.Ytcocapkdpbdmdaa.M
