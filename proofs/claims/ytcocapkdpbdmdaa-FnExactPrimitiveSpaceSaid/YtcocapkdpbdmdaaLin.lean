/- Linear maps modulo p: what they lead to, when they have a map back, and products of vectors. -/
import Derived.Test.YtcocapkdpbdmdaaProd
import Derived.Test.YtcocapkdpbdmdaaRref
import Derived.Test.YtcocapkdpbdmdaaGraph
set_option linter.unusedVariables false
set_option linter.unusedSimpArgs false
set_option maxRecDepth 100000
set_option maxHeartbeats 1000000
namespace Go.Proofs.Ytcocapkdpbdmdaa
open M

/-- what the map f makes of x -/
def apF (p : Int) (f x : Nat → Int) : Nat → Int := fun j => linS f x 8 j % p
theorem apF_sum (p : Int) (f x : Nat → Int) (j : Nat) : apF p f x j = sumN 8 (fun i => x i * f (i * 8 + j)) % p := by unfold apF; rw [linS_sum]
theorem apF_congr {p : Int} {f g x y : Nat → Int} {j : Nat} (hf : ∀ i, i < 8 → f (i * 8 + j) = g (i * 8 + j)) (hx : ∀ i, i < 8 → x i = y i) : apF p f x j = apF p g y j := by
  rw [apF_sum, apF_sum, sumN_congr 8 fun i hi => by rw [hf i hi, hx i hi]]
theorem sumN_lin (p c : Int) (x y g : Nat → Int) : ∀ k : Nat, sumN k (fun i => (x i + c * y i) % p * g i) % p = (sumN k (fun i => x i * g i) + c * sumN k (fun i => y i * g i)) % p
  | 0 => by simp [sumN]
  | k + 1 => by
    show (sumN k (fun i => (x i + c * y i) % p * g i) + (x k + c * y k) % p * g k) % p = (sumN k (fun i => x i * g i) + x k * g k + c * (sumN k (fun i => y i * g i) + y k * g k)) % p
    have e := mod_in p (sumN k fun i => (x i + c * y i) % p * g i) (x k + c * y k) (g k)
    rw [Int.mul_comm ((x k + c * y k) % p) (g k), e, ← mod_l, sumN_lin p c x y g k, mod_l]
    congr 1
    grind
theorem apF_add (p c : Int) (f x y : Nat → Int) (j : Nat) : apF p f (fun i => (x i + c * y i) % p) j = (apF p f x j + c * apF p f y j) % p := by
  rw [apF_sum, apF_sum, apF_sum, sumN_lin, mod_l, mod_in]
theorem apF_zero (p : Int) (f x : Nat → Int) (j : Nat) (h : ∀ i, i < 8 → x i = 0) : apF p f x j = 0 := by
  rw [apF_sum, sumN_none 8 fun i hi => by rw [h i hi, Int.zero_mul], Int.zero_emod]
theorem apF_unit (p : Int) (f : Nat → Int) {k : Nat} (j : Nat) (hk : k < 8) : apF p f (unitV k) j = f (k * 8 + j) % p := by
  unfold apF; rw [linS_unit, if_pos hk]
theorem apF_rng {p : Int} (hp : 0 < p) (f x : Nat → Int) (j : Nat) : 0 ≤ apF p f x j ∧ apF p f x j < p := mod_rng hp _

/-- vectors for p and n -/
structure VecP (p : Int) (n : Nat) (x : Nat → Int) : Prop where
  rng : ∀ j, j < 8 → 0 ≤ x j ∧ x j < p
  out : ∀ j, n ≤ j → j < 8 → x j = 0
/-- maps of such -/
structure MapP (p : Int) (n : Nat) (f : Nat → Int) : Prop where
  rng : ∀ q, q < 64 → 0 ≤ f q ∧ f q < p
  out : ∀ i j, i < 8 → j < 8 → (n ≤ i ∨ n ≤ j) → f (i * 8 + j) = 0
theorem VecP.unit {p : Int} {n k : Nat} (hp : 1 < p) (hk : k < n) : VecP p n (unitV k) :=
  ⟨fun j _ => by unfold unitV; split <;> omega, fun j h1 _ => by unfold unitV; rw [if_neg (by omega)]⟩
theorem VecP.add {p : Int} {n : Nat} {x y : Nat → Int} (hp : 1 < p) (hx : VecP p n x) (hy : VecP p n y) (c : Int) : VecP p n fun j => (x j + c * y j) % p :=
  ⟨fun j _ => mod_rng (by omega) _, fun j h1 h2 => by rw [hx.out j h1 h2, hy.out j h1 h2]; simp⟩
theorem VecP.ap {p : Int} {n : Nat} {f x : Nat → Int} (hp : 1 < p) (hf : MapP p n f) : VecP p n (apF p f x) :=
  ⟨fun j _ => apF_rng (by omega) f x j, fun j h1 h2 => by rw [apF_sum, sumN_none 8 fun i hi => by rw [hf.out i j hi h2 (.inr h1), Int.mul_zero], Int.zero_emod]⟩
/-- what holds of the basis, and of sums of multiples, holds of all vectors -/
theorem VecP.ind {p : Int} {n : Nat} (hp : 1 < p) (hn : n ≤ 8) {R : (Nat → Int) → Prop} (h0 : R fun _ => 0) (hext : ∀ x y, R x → (∀ j, j < 8 → y j = x j) → R y) (hu : ∀ k, k < n → R (unitV k)) (hadd : ∀ x y c, R x → R y → R fun j => (x j + c * y j) % p) {x : Nat → Int} (hx : VecP p n x) : R x := by
  have key : ∀ k, k ≤ n → R fun j => if j < k then x j else 0 := fun k => by
    induction k with
    | zero => intro _; exact hext _ _ h0 fun j _ => by rw [if_neg (Nat.not_lt_zero _)]
    | succ k ih =>
      intro hk
      refine hext _ _ (hadd _ _ (x k) (ih (by omega)) (hu k (by omega))) fun j hj => ?_
      have hr := hx.rng j hj
      by_cases e : j = k
      · subst e
        rw [if_pos (by omega), if_neg (by omega)]
        unfold unitV
        rw [if_pos rfl, Int.zero_add, Int.mul_one, mod_id hr]
      · unfold unitV
        rw [if_neg e, Int.mul_zero, Int.add_zero]
        by_cases e2 : j < k
        · rw [if_pos e2, if_pos (by omega), mod_id hr]
        · rw [if_neg e2, if_neg (by omega), Int.zero_emod]
  exact hext _ _ (key n (Nat.le_refl _)) fun j hj => by
    by_cases e : j < n
    · rw [if_pos e]
    · rw [if_neg e]; exact hx.out j (by omega) hj

/-! ### the rows f(e(i)), e(i) -/
abbrev grF (f : Nat → Int) : Nat → Nat → Int := graphRow (fun i j => f (j + i * 8)) 8
theorem gr_lo {f : Nat → Int} {i j : Nat} (hj : j < 8) : grF f i j = f (i * 8 + j) := by unfold grF graphRow; rw [if_pos hj, Nat.add_comm]
theorem gr_hi {f : Nat → Int} {i j : Nat} : grF f i (8 + j) = unitV i j := by unfold grF graphRow; rw [if_neg (by omega)]; congr 1; omega
theorem gr_rng {p : Int} {n : Nat} {f : Nat → Int} (hp : 1 < p) (hn : n ≤ 8) (hf : MapP p n f) : ∀ i, i < n → ∀ j, j < 16 → 0 ≤ grF f i j ∧ grF f i j < p := fun i hi j hj => by
  by_cases h : j < 8
  · rw [gr_lo h]; exact hf.rng _ (by omega)
  · rw [show j = 8 + (j - 8) by omega, gr_hi]; unfold unitV; split <;> omega
theorem gr_fwd {p : Int} {n : Nat} {f v : Nat → Int} (hp : 1 < p) (hn : n ≤ 8) (hf : MapP p n f) (h : Sp p 16 n (grF f) v) : VecP p n (fun j => v (8 + j)) ∧ ∀ j, j < 8 → v j = apF p f (fun j => v (8 + j)) j := by
  refine Sp.in (S := fun v => (∀ j, j < 16 → 0 ≤ v j ∧ v j < p) ∧ VecP p n (fun j => v (8 + j)) ∧ ∀ j, j < 8 → v j = apF p f (fun j => v (8 + j)) j) ⟨fun v h => h.1, fun v u h e => ?_, fun v h => ?_, fun v u h1 h2 c => ?_⟩ (fun i hi => ?_) h |>.2
  · obtain ⟨h1, ⟨h2, h3⟩, h4⟩ := h
    refine ⟨fun j hj => by rw [e j hj]; exact h1 j hj, ⟨fun j hj => by rw [e _ (by omega)]; exact h2 j hj, fun j g1 g2 => by rw [e _ (by omega)]; exact h3 j g1 g2⟩, fun j hj => ?_⟩
    rw [e j (by omega), h4 j hj]
    exact apF_congr (fun _ _ => rfl) fun i hi => (e _ (by omega)).symm
  · refine ⟨fun j hj => by rw [h j hj]; omega, ⟨fun j hj => by rw [h _ (by omega)]; omega, fun j _ g => h _ (by omega)⟩, fun j hj => ?_⟩
    rw [h j (by omega), apF_zero p f _ j fun i hi => h _ (by omega)]
  · refine ⟨fun j _ => mod_rng (by omega) _, h1.2.1.add hp h2.2.1 c, fun j hj => ?_⟩
    show (v j + c * u j) % p = apF p f (fun j => (v (8 + j) + c * u (8 + j)) % p) j
    rw [apF_add, h1.2.2 j hj, h2.2.2 j hj]
  · refine ⟨gr_rng hp hn hf i hi, ⟨fun j hj => by rw [gr_hi]; unfold unitV; split <;> omega, fun j h1 h2 => by rw [gr_hi]; unfold unitV; rw [if_neg (by omega)]⟩, fun j hj => ?_⟩
    rw [gr_lo hj]
    have e : apF p f (fun j => grF f i (8 + j)) j = apF p f (unitV i) j := apF_congr (fun _ _ => rfl) fun k hk => gr_hi
    rw [e, apF_unit p f j (by omega), mod_id (hf.rng _ (by omega))]
theorem gr_bwd {p : Int} {n : Nat} {f x : Nat → Int} (hp : 1 < p) (hn : n ≤ 8) (hf : MapP p n f) (hx : VecP p n x) : Sp p 16 n (grF f) fun j => if j < 8 then apF p f x j else x (j - 8) := by
  have hS : Space p 16 (Sp p 16 n (grF f)) := Sp.space (by omega)
  refine VecP.ind hp hn (R := fun x => Sp p 16 n (grF f) fun j => if j < 8 then apF p f x j else x (j - 8)) ?_ (fun x y h e => ?_) (fun k hk => ?_) (fun x y c h1 h2 => ?_) hx
  · refine .zero _ fun j hj => ?_
    split
    · exact apF_zero p f _ j fun _ _ => rfl
    · rfl
  · refine h.ext fun j hj => ?_
    by_cases h8 : j < 8
    · rw [if_pos h8, if_pos h8]; exact apF_congr (fun _ _ => rfl) fun i hi => e i hi
    · rw [if_neg h8, if_neg h8]; exact e _ (by omega)
  · refine (Sp.row hk (gr_rng hp hn hf k hk)).ext fun j hj => ?_
    by_cases h8 : j < 8
    · rw [if_pos h8, gr_lo h8, apF_unit p f j (by omega), mod_id (hf.rng _ (by omega))]
    · rw [if_neg h8, show j = 8 + (j - 8) by omega, gr_hi]; congr 1; omega
  · refine (h1.addc (by omega) h2 c).ext fun j hj => ?_
    by_cases h8 : j < 8
    · rw [if_pos h8, if_pos h8, if_pos h8, apF_add]
    · rw [if_neg h8, if_neg h8, if_neg h8]

/-! ### more rows than places -/
theorem more_than {p : Int} {w : Nat} (hp : 1 < p) (inv : ∀ x : Int, 0 < x → x < p → ∃ y : Int, y * x % p = 1) : ∀ (k : Nat) (S : (Nat → Int) → Prop), Space p w S → ∀ (l : Nat) (r : Nat → Nat → Int) (Q : Nat → Nat), k < l → (∀ i, i < l → S (r i)) → (∀ i, i < l → Q i < w) →
    (∀ i j, i < l → j < l → r i (Q j) = if i = j then 1 else 0) → ∀ P : Nat → Nat, (∀ i, i < k → P i < w) → ∃ v, S v ∧ (∀ i, i < k → v (P i) = 0) ∧ ∃ j, j < l ∧ v (Q j) ≠ 0
  | 0, S, hS, l, r, Q, hl, hr, hQ, hd, P, hP => ⟨r 0, hr 0 hl, fun i hi => absurd hi (Nat.not_lt_zero _), 0, hl, by rw [hd 0 0 hl hl, if_pos rfl]; decide⟩
  | k + 1, S, hS, l, r, Q, hl, hr, hQ, hd, P, hP => by
    have hS' : Space p w fun v => S v ∧ v (P k) = 0 := ⟨fun v h => hS.range v h.1, fun v u h e => ⟨hS.ext v u h.1 e, by rw [e _ (hP k (by omega))]; exact h.2⟩, fun v h => ⟨hS.zero v h, h _ (hP k (by omega))⟩, fun v u h1 h2 c => ⟨hS.addc v u h1.1 h2.1 c, by show (v (P k) + c * u (P k)) % p = 0; rw [h1.2, h2.2]; simp⟩⟩
    have done : ∀ (l' : Nat) (r' : Nat → Nat → Int) (Q' : Nat → Nat), k < l' → (∀ i, i < l' → S (r' i) ∧ r' i (P k) = 0) → (∀ i, i < l' → ∃ j, j < l ∧ Q' i = Q j) → (∀ i j, i < l' → j < l' → r' i (Q' j) = if i = j then 1 else 0) → ∃ v, S v ∧ (∀ i, i < k + 1 → v (P i) = 0) ∧ ∃ j, j < l ∧ v (Q j) ≠ 0 := fun l' r' Q' h1 h2 h3 h4 => by
      obtain ⟨v, hv, hz, j, hj, hne⟩ := more_than hp inv k _ hS' l' r' Q' h1 h2 (fun i hi => by obtain ⟨j, hj, e⟩ := h3 i hi; rw [e]; exact hQ j hj) h4 P fun i hi => hP i (by omega)
      obtain ⟨j', hj', e⟩ := h3 j hj
      refine ⟨v, hv.1, fun i hi => ?_, j', hj', by rw [← e]; exact hne⟩
      by_cases ek : i = k
      · rw [ek]; exact hv.2
      · exact hz i (by omega)
    by_cases hex : ∃ m, m < l ∧ r m (P k) ≠ 0
    · obtain ⟨m, hm, hne⟩ := hex
      have hx := hS.range _ (hr m hm) (P k) (hP k (by omega))
      obtain ⟨y, hy⟩ := inv (r m (P k)) (by omega) hx.2
      let s : Nat → Nat := fun i => if i < m then i else i + 1
      have hs : ∀ i, i < l - 1 → s i < l ∧ s i ≠ m := fun i hi => by show (if i < m then i else i + 1) < l ∧ (if i < m then i else i + 1) ≠ m; split <;> omega
      have hinj : ∀ i j, s i = s j → i = j := fun i j e => by
        have e : (if i < m then i else i + 1) = (if j < m then j else j + 1) := e
        split at e <;> split at e <;> omega
      refine done (l - 1) (fun i j => (r (s i) j + (-(r (s i) (P k) * y)) * r m j) % p) (fun i => Q (s i)) (by omega) (fun i hi => ⟨hS.addc _ _ (hr _ (hs i hi).1) (hr m hm) _, ?_⟩) (fun i hi => ⟨s i, (hs i hi).1, rfl⟩) fun i j hi hj => ?_
      · show (r (s i) (P k) + (-(r (s i) (P k) * y)) * r m (P k)) % p = 0
        have e := mod_in p (r (s i) (P k)) (y * r m (P k)) (-(r (s i) (P k)))
        rw [hy] at e
        rw [show r (s i) (P k) + -(r (s i) (P k) * y) * r m (P k) = r (s i) (P k) + -(r (s i) (P k)) * (y * r m (P k)) by grind, ← e]
        rw [Int.mul_one, Int.add_right_neg, Int.zero_emod]
      · show (r (s i) (Q (s j)) + (-(r (s i) (P k) * y)) * r m (Q (s j))) % p = _
        rw [hd m (s j) hm (hs j hj).1, if_neg (fun e => (hs j hj).2 e.symm), Int.mul_zero, Int.add_zero, hd (s i) (s j) (hs i hi).1 (hs j hj).1]
        by_cases e : i = j
        · subst e; rw [if_pos rfl, if_pos rfl]; exact Int.emod_eq_of_lt (by omega) hp
        · rw [if_neg e, if_neg (fun h => e (hinj i j h))]; simp
    · exact done l r Q (by omega) (fun i hi => ⟨hr i hi, Classical.byContradiction fun h => hex ⟨i, hi, h⟩⟩) (fun i hi => ⟨i, hi, rfl⟩) hd
theorem inv_int {p : Nat} (hp : primeB (p : Int) = true) (hp2 : 2 ≤ p ∧ p ≤ 31) : ∀ x : Int, 0 < x → x < p → ∃ y : Int, y * x % p = 1 := fun x h1 h2 => by
  obtain ⟨k, rfl⟩ := Int.eq_ofNat_of_zero_le (show 0 ≤ x by omega)
  obtain ⟨e, he0, hep, he⟩ := invX ⟨p, by omega⟩ hp ⟨k, by omega⟩ (by simpa using h1) (by simpa using h2)
  exact ⟨(e.val : Int), by have he : e.val * k % p = 1 := he; exact_mod_cast he⟩

/-- the reduced list of these rows: as many as there are -/
theorem gr_full {p n k : Nat} {f : Nat → Int} {a : Nat → Nat → Int} {P : Nat → Nat} (hp : primeB (p : Int) = true) (hp2 : 2 ≤ p ∧ p ≤ 31) (hn : n ≤ 8) (hf : MapP p n f) (h : Red p 16 (Sp p 16 n (grF f)) k a P) : n ≤ k := by
  refine Nat.le_of_not_lt fun hlt => ?_
  obtain ⟨v, hv, hz, j, hj, hne⟩ := more_than (p := p) (w := 16) (by omega) (inv_int hp hp2) k _ (Sp.space (by omega)) n (grF f) (fun j => 8 + j) hlt (fun i hi => Sp.row hi (gr_rng (by omega) hn hf i hi)) (fun i hi => by omega) (fun i j hi hj => by rw [gr_hi]; unfold unitV; by_cases e : i = j <;> simp [e]; intro e2; exact absurd e2.symm e) P h.lt
  exact hne (h.all v hv hz _ (by omega))
/-- all first halves are those of the basis: the second halves tell the map back -/
theorem gr_yes {p n k : Nat} {f : Nat → Int} {a : Nat → Nat → Int} {P : Nat → Nat} (hp : primeB (p : Int) = true) (hp2 : 2 ≤ p ∧ p ≤ 31) (hn : n ≤ 8) (hf : MapP p n f) (hk : k ≤ n) (h : Red p 16 (Sp p 16 n (grF f)) k a P) (hE : ∀ i, i < k → ∀ j, j < 8 → a i j = unitV i j) :
    k = n ∧ (∀ i, i < n → VecP p n (fun j => a i (8 + j)) ∧ ∀ j, j < 8 → apF p f (fun j => a i (8 + j)) j = unitV i j) ∧ ∀ x, VecP p n x → (∀ j, j < 8 → apF p f x j = 0) → ∀ j, j < 8 → x j = 0 := by
  have hfull := gr_full hp hp2 hn hf h
  obtain rfl : k = n := by omega
  refine ⟨rfl, fun i hi => ?_, fun x hx h0 j hj => ?_⟩
  · obtain ⟨h1, h2⟩ := gr_fwd (by omega) hn hf (h.mem i hi)
    exact ⟨h1, fun j hj => by rw [← h2 j hj]; exact hE i hi j hj⟩
  · have hb := gr_bwd (by omega) hn hf hx
    have hP : ∀ i, i < k → P i = i := fun i hi => by
      have h1 := h.one i hi
      rcases Nat.lt_trichotomy (P i) i with l | l | l
      · rw [hE i hi _ (by omega)] at h1; unfold unitV at h1; rw [if_neg (by omega)] at h1; cases h1
      · exact l
      · have := h.bef i hi i l; rw [hE i hi i (by omega)] at this; unfold unitV at this; rw [if_pos rfl] at this; cases this
    have := h.all _ hb (fun i hi => by rw [hP i hi, if_pos (by omega)]; exact h0 i (by omega)) (8 + j) (by omega)
    rw [if_neg (by omega), show 8 + j - 8 = j by omega] at this
    exact this
/-- one is not: something else than zeros leads to zeros -/
theorem gr_no {p n k : Nat} {f : Nat → Int} {a : Nat → Nat → Int} {P : Nat → Nat} (hp : primeB (p : Int) = true) (hp2 : 2 ≤ p ∧ p ≤ 31) (hn : n ≤ 8) (hf : MapP p n f) (hk : k ≤ n) (h : Red p 16 (Sp p 16 n (grF f)) k a P) (hE : ∃ i, i < k ∧ ∃ j, j < 8 ∧ a i j ≠ unitV i j) :
    ∃ x, VecP p n x ∧ (∀ j, j < 8 → apF p f x j = 0) ∧ ∃ j, j < 8 ∧ x j ≠ 0 := by
  have hfull := gr_full hp hp2 hn hf h
  obtain rfl : k = n := by omega
  by_cases hb : ∃ i, i < k ∧ 8 ≤ P i
  · obtain ⟨i, hi, hP⟩ := hb
    obtain ⟨h1, h2⟩ := gr_fwd (by omega) hn hf (h.mem i hi)
    have hlt := h.lt i hi
    refine ⟨_, h1, fun j hj => by rw [← h2 j hj]; exact h.bef i hi j (by omega), P i - 8, by omega, ?_⟩
    rw [show 8 + (P i - 8) = P i by omega, h.one i hi]; decide
  · exfalso
    have hlo : ∀ i, i < k → P i < k := fun i hi => by
      have h8 : P i < 8 := Nat.lt_of_not_le fun hh => hb ⟨i, hi, hh⟩
      obtain ⟨h1, h2⟩ := gr_fwd (by omega) hn hf (h.mem i hi)
      refine Nat.lt_of_not_le fun hge => ?_
      have h3 := h2 (P i) h8
      rw [h.one i hi, (VecP.ap (x := fun j => a i (8 + j)) (by omega) hf).out _ hge h8] at h3
      cases h3
    have hP : ∀ i, i < k → P i = i := by
      have ge : ∀ i, i < k → i ≤ P i := fun i => by
        induction i with
        | zero => intro _; exact Nat.zero_le _
        | succ i ih => intro hi; have := ih (by omega); have := h.inc i (i + 1) (by omega) hi; omega
      have le : ∀ d i, i + d + 1 = k → P i ≤ i := fun d => by
        induction d with
        | zero => intro i hi; have := hlo i (by omega); omega
        | succ d ih => intro i hi; have := ih (i + 1) (by omega); have := h.inc i (i + 1) (by omega) (by omega); omega
      intro i hi
      have := ge i hi
      have := le (k - 1 - i) i (by omega)
      omega
    obtain ⟨i, hi, j, hj, hne⟩ := hE
    apply hne
    unfold unitV
    by_cases e : j = i
    · subst e; rw [if_pos rfl]; have := h.one j hi; rwa [hP j hi] at this
    · rw [if_neg e]
      by_cases hjk : j < k
      · have := h.oth i j hi hjk (fun e2 => e e2.symm); rwa [hP j hjk] at this
      · obtain ⟨h1, h2⟩ := gr_fwd (by omega) hn hf (h.mem i hi)
        rw [h2 j hj]
        exact (VecP.ap (x := fun j => a i (8 + j)) (by omega) hf).out _ (by omega) hj
end Go.Proofs.Ytcocapkdpbdmdaa
