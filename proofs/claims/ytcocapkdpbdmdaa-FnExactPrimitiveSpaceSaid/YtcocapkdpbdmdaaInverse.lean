/- InverseOf: what both sides tell. -/
import Derived.Test.YtcocapkdpbdmdaaSolMath
import Derived.Test.YtcocapkdpbdmdaaAlgV
import Derived.Test.YtcocapkdpbdmdaaInv
import Derived.Test.YtcocapkdpbdmdaaLeft
set_option linter.unusedVariables false
set_option linter.unusedSimpArgs false
set_option maxRecDepth 100000
set_option maxHeartbeats 4000000
namespace Go.Proofs.Ytcocapkdpbdmdaa
open M

/-- what the model finds: w with v w the unit; and whether w v is the unit, too -/
def invW (p n : Nat) (U T v : Nat → Int) : Nat → Int := (liftR p n (leftT p T v) U).2
def invB (p n : Nat) (U T v : Nat → Int) : Bool := allEq 8 (liftR p n (leftT p T v) U).1 (fun _ => 0) && allEq 8 (fun m => timS p n T (invW p n U T v) v n m % p) U
def invV (p n : Int) (U T v : Nat → Int) : SV :=
  .tcons (.ints .u8 8 fun j => if oneOk p n U T v = true ∧ invB p.toNat n.toNat U T v = true then invW p.toNat n.toNat U T v j else 0)
    (.tcons (.int .i64 (if oneOk p n U T v = true then (if invB p.toNat n.toNat U T v = true then 0 else 4) else 1)) .tnil)

theorem eq_of_sub {p a b : Int} (ha : 0 ≤ a ∧ a < p) (hb : 0 ≤ b ∧ b < p) (h : (a + (-1) * b) % p = 0) : a = b := by
  obtain ⟨c, hc⟩ := Int.dvd_of_emod_eq_zero h
  have : c = 0 := by
    rcases Int.lt_trichotomy c 0 with l | l | l
    · have : p * c ≤ p * (-1) := Int.mul_le_mul_of_nonneg_left (by omega) (by omega)
      omega
    · exact l
    · have : p * 1 ≤ p * c := Int.mul_le_mul_of_nonneg_left (by omega) (by omega)
      omega
  subst this
  omega

/-- an algebra for prime p, and a vector -/
structure AlgP (p n : Nat) (U T : Nat → Int) : Prop where
  hp : primeB (p : Int) = true
  hp2 : 2 ≤ p ∧ p ≤ 31
  hn : 1 ≤ n ∧ n ≤ 8
  V : Valid p n U T
  ass : assB p n T
  unit : unitB p n U T = true
theorem algP_of {p n : Int} {U T : Nat → Int} (hU : isU8 8 U) (hT : isU8 512 T) (h : algB p n U T = true) : ∃ p' n' : Nat, p = p' ∧ n = n' ∧ AlgP p' n' U T := by
  obtain ⟨n, rfl, hV⟩ := algB_valid hU hT h
  unfold algB at h
  simp only [Bool.and_eq_true] at h
  obtain ⟨h1, h2, h3⟩ := h
  have hf := shape_field h1
  have hb := field_bounds hf
  unfold fieldB at hf
  simp only [Bool.and_eq_true, decide_eq_true_eq] at hf
  have hp2 : 2 ≤ p ∧ p ≤ 31 := by
    constructor
    · refine Int.not_lt.1 fun hh => ?_
      have := primeB_out (.inl hh); rw [this] at hf; cases hf.1
    · refine Int.not_lt.1 fun hh => ?_
      have := primeB_out (.inr hh); rw [this] at hf; cases hf.1
  refine ⟨p.toNat, n, by omega, rfl, ?_⟩
  have e : ((p.toNat : Nat) : Int) = p := by omega
  refine ⟨by rw [e]; exact hf.1, by omega, by omega, by rw [e]; exact hV, ?_, by rw [e]; exact h3⟩
  rw [e]
  intro i j k hi hj hk
  have := List.all_eq_true.1 (List.all_eq_true.1 (List.all_eq_true.1 h2 i (List.mem_range.2 hi)) j (List.mem_range.2 hj)) k (List.mem_range.2 hk)
  exact this
theorem AlgP.vU {p n : Nat} {U T : Nat → Int} (h : AlgP p n U T) : VecP p n U := ⟨fun j hj => h.V.ult j hj, fun j h1 h2 => h.V.uzero j h2 h1⟩
theorem vec_of {p n : Nat} {v : Nat → Int} (hv : isU8 8 v) (h : entriesB p n v = true) : VecP p n v :=
  ⟨fun j hj => ⟨(hv j hj).1, (entries_get h hj).1⟩, fun j h1 h2 => (entries_get h h2).2 (by omega)⟩

/-- when all that is led to nothing is nothing: what the model finds is what is told, and it is on both sides -/
theorem inv_yes {p n k : Nat} {U T v : Nat → Int} {a : Nat → Nat → Int} {P : Nat → Nat} {B : Nat → Int} (hA : AlgP p n U T) (hv : VecP p n v) (hk : k ≤ n) (hR : Red p 16 (Sp p 16 n (grF (leftT p T v))) k a P) (hE : ∀ i, i < k → ∀ j, j < 8 → a i j = unitV i j) (hB : ∀ q, q < 64 → B q = if q / 8 < k then a (q / 8) (8 + q % 8) else 0) :
    invB p n U T v = true ∧ ∀ j, j < 8 → apF p B U j = invW p n U T v j := by
  obtain ⟨hp, hp2, hn, hV, ha, hu⟩ := id hA
  have hp1 : (1 : Int) < p := by omega
  have hf := leftT_map hV hv.out
  have hU := hA.vU
  obtain ⟨rfl, h1, h2⟩ := gr_yes hp hp2 hn.2 hf hk hR hE
  have hBM : MapP p k B := ⟨fun q hq => by
      rw [hB q hq]
      split
      · rename_i hq'; exact (h1 _ hq').1.rng _ (by omega)
      · omega, fun i j hi hj h => by
      rw [hB _ (by omega), show (i * 8 + j) / 8 = i by omega, show (i * 8 + j) % 8 = j by omega]
      split
      · rename_i hq'
        rcases h with h | h
        · omega
        · exact (h1 _ hq').1.out j h hj
      · rfl⟩
  have hLB : ∀ j, j < 8 → apF p (leftT p T v) (apF p B U) j = U j := by
    refine VecP.ind (R := fun u => ∀ j, j < 8 → apF p (leftT p T v) (apF p B u) j = u j) hp1 hn.2 (fun j hj => apF_zero p _ _ j fun i hi => apF_zero p B _ i fun _ _ => rfl) (fun x y h e j hj => ?_) (fun i hi j hj => ?_) (fun x y c g1 g2 j hj => ?_) hU
    · rw [apF_congr (fun _ _ => rfl) fun i hi => apF_congr (fun _ _ => rfl) e, h j hj, e j hj]
    · rw [← (h1 i hi).2 j hj]
      refine apF_congr (fun _ _ => rfl) fun q hq => ?_
      rw [apF_unit p B q (by omega), hB _ (by omega), show (i * 8 + q) / 8 = i by omega, show (i * 8 + q) % 8 = q by omega, if_pos hi]
      exact mod_id ((h1 i hi).1.rng q hq)
    · rw [apF_congr (y := fun i => (apF p B x i + c * apF p B y i) % p) (fun _ _ => rfl) fun i _ => apF_add p c B x y i, apF_add, g1 j hj, g2 j hj]
  have hok := lift_no hp hp2 hn.2 hf (VecP.ap hp1 hBM) hLB
  have hw : VecP p k (invW p k U T v) := lift_vec hp hp2 hn.2 hf hU.rng
  have hLw : ∀ j, j < 8 → apF p (leftT p T v) (invW p k U T v) j = U j := lift_yes hp hp2 hn.2 hf hU.rng hok
  have inj : ∀ x y : Nat → Int, VecP p k x → VecP p k y → (∀ j, j < 8 → apF p (leftT p T v) x j = apF p (leftT p T v) y j) → ∀ j, j < 8 → x j = y j := fun x y hx hy e j hj => by
    refine eq_of_sub (hx.rng j hj) (hy.rng j hj) (h2 _ (hx.add hp1 hy (-1)) (fun i hi => ?_) j hj)
    rw [apF_add, e i hi, show apF p (leftT p T v) y i + -1 * apF p (leftT p T v) y i = 0 by omega, Int.zero_emod]
  refine ⟨?_, inj _ _ (VecP.ap hp1 hBM) hw fun j hj => by rw [hLB j hj]; exact (hLw j hj).symm⟩
  have hwv : ∀ j, j < 8 → prodF p T (invW p k U T v) v j = U j := inj _ _ (prodF_vec hp1 hV hw) hU fun j hj => by
    rw [← prodF_ap, ← prodF_ap, ← ass_vec hp1 hV ha hv hw hv j hj, (unit_vec hp1 hV hu hv).2 j hj, ← (unit_vec hp1 hV hu hv).1 j hj]
    exact prodV_congr hj hLw fun _ _ => rfl
  unfold invB
  rw [hok, Bool.true_and]
  exact List.all_eq_true.2 fun j hj => beq_iff_eq.2 (by have hj := List.mem_range.1 hj; exact (prod_eq hV hw.out hv.out hj).trans (hwv j hj))
/-- when something else than nothing is led to nothing: the model finds none -/
theorem inv_no {p n k : Nat} {U T v : Nat → Int} {a : Nat → Nat → Int} {P : Nat → Nat} (hA : AlgP p n U T) (hv : VecP p n v) (hk : k ≤ n) (hR : Red p 16 (Sp p 16 n (grF (leftT p T v))) k a P) (hE : ∃ i, i < k ∧ ∃ j, j < 8 ∧ a i j ≠ unitV i j) : invB p n U T v = false := by
  obtain ⟨hp, hp2, hn, hV, ha, hu⟩ := id hA
  have hp1 : (1 : Int) < p := by omega
  have hf := leftT_map hV hv.out
  have hU := hA.vU
  obtain ⟨x, hx, h0, j, hj, hne⟩ := gr_no hp hp2 hn.2 hf hk hR hE
  cases hb : invB p n U T v with
  | false => rfl
  | true =>
    exfalso
    unfold invB at hb
    simp only [Bool.and_eq_true] at hb
    have hw : VecP p n (invW p n U T v) := lift_vec hp hp2 hn.2 hf hU.rng
    have hwv : ∀ j, j < 8 → prodF p T (invW p n U T v) v j = U j := fun j hj => by rw [← prod_eq hV hw.out hv.out hj]; exact allEq_get hb.2 hj
    apply hne
    rw [← (unit_vec hp1 hV hu hx).1 j hj, ← prodV_congr hj hwv fun _ _ => rfl, ass_vec hp1 hV ha hw hv hx j hj]
    exact prodF_zr p T _ _ j h0

/-! ### a reduced list there is, and one alone -/
theorem gauss_all {p : Int} {w n : Nat} {f0 : Nat → Nat → Int} (hp : 1 < p) (inv : ∀ x : Int, 0 < x → x < p → ∃ y : Int, y * x % p = 1) (hr : ∀ i, i < n → ∀ j, j < w → 0 ≤ f0 i j ∧ f0 i j < p) : ∀ t, t ≤ w → ∃ f done P, Gauss p w n f0 f done t P
  | 0, _ => ⟨_, _, _, Gauss.start hr⟩
  | t + 1, ht => by
    obtain ⟨f, done, P, h⟩ := gauss_all hp inv hr t (by omega)
    by_cases hex : ∃ b, (done ≤ b ∧ b < n) ∧ f b t ≠ 0
    · obtain ⟨b, hb, hne⟩ := hex
      have hx := h.rng b hb.2 t (by omega)
      obtain ⟨y, hy⟩ := inv (f b t) (by omega) hx.2
      exact ⟨_, _, _, h.pivot hp (by omega) (by omega) hb hy⟩
    · exact ⟨_, _, _, h.skip (by omega) fun l h1 h2 => Classical.byContradiction fun e => hex ⟨l, ⟨h1, h2⟩, e⟩⟩
theorem red_ex {p : Int} {w n : Nat} {f0 : Nat → Nat → Int} (hp : 1 < p) (inv : ∀ x : Int, 0 < x → x < p → ∃ y : Int, y * x % p = 1) (hr : ∀ i, i < n → ∀ j, j < w → 0 ≤ f0 i j ∧ f0 i j < p) : ∃ x : Nat × (Nat → Nat → Int) × (Nat → Nat), x.1 ≤ n ∧ Red p w (Sp p w n f0) x.1 x.2.1 x.2.2 := by
  obtain ⟨f, done, P, h⟩ := gauss_all hp inv hr w (Nat.le_refl _)
  exact ⟨(done, f, P), h.dn, h.red hp (.inr rfl)⟩
noncomputable def redOf (p w n : Nat) (f0 : Nat → Nat → Int) : Nat × (Nat → Nat → Int) × (Nat → Nat) := Classical.epsilon fun x => x.1 ≤ n ∧ Red p w (Sp p w n f0) x.1 x.2.1 x.2.2
theorem redOf_is {p w n : Nat} {f0 : Nat → Nat → Int} (hp : primeB (p : Int) = true) (hp2 : 2 ≤ p ∧ p ≤ 31) (hr : ∀ i, i < n → ∀ j, j < w → 0 ≤ f0 i j ∧ f0 i j < p) : (redOf p w n f0).1 ≤ n ∧ Red p w (Sp p w n f0) (redOf p w n f0).1 (redOf p w n f0).2.1 (redOf p w n f0).2.2 :=
  Classical.epsilon_spec (p := fun x : Nat × (Nat → Nat → Int) × (Nat → Nat) => x.1 ≤ n ∧ Red p w (Sp p w n f0) x.1 x.2.1 x.2.2) (red_ex (by omega) (inv_int hp hp2) hr)
noncomputable def mapBack (p n : Nat) (f : Nat → Int) : Nat → Int := fun q => if q / 8 < (redOf p 16 n (grF f)).1 then (redOf p 16 n (grF f)).2.1 (q / 8) (8 + q % 8) else 0

theorem mapBack_is {p n : Nat} {U T v : Nat → Int} (hA : AlgP p n U T) (hv : VecP p n v) (hi : invB p n U T v = true) : ∀ j, j < 8 → apF p (mapBack p n (leftT p T v)) U j = invW p n U T v j := by
  obtain ⟨hp, hp2, hn, hV, ha, hu⟩ := id hA
  have hf := leftT_map hV hv.out
  obtain ⟨h1, h2⟩ := redOf_is hp hp2 (gr_rng (p := p) (n := n) (f := leftT p T v) (by omega) hn.2 hf)
  by_cases hE : ∀ i, i < (redOf p 16 n (grF (leftT p T v))).1 → ∀ j, j < 8 → (redOf p 16 n (grF (leftT p T v))).2.1 i j = unitV i j
  · exact (inv_yes hA hv h1 h2 hE fun q hq => rfl).2
  · have := inv_no hA hv h1 h2 (Classical.byContradiction fun h => hE fun i hi j hj => Classical.byContradiction fun e => h ⟨i, hi, j, hj, e⟩)
    rw [this] at hi; cases hi
theorem mapBack_rng {p n : Nat} {U T v : Nat → Int} (hA : AlgP p n U T) (hv : VecP p n v) (q : Nat) : 0 ≤ mapBack p n (leftT p T v) q ∧ mapBack p n (leftT p T v) q < p := by
  obtain ⟨hp, hp2, hn, hV, ha, hu⟩ := id hA
  have hf := leftT_map hV hv.out
  obtain ⟨h1, h2⟩ := redOf_is hp hp2 (gr_rng (p := p) (n := n) (f := leftT p T v) (by omega) hn.2 hf)
  unfold mapBack
  split
  · rename_i hq; exact (Sp.space (by omega)).range _ (h2.mem _ hq) _ (by omega)
  · omega

end Go.Proofs.Ytcocapkdpbdmdaa
