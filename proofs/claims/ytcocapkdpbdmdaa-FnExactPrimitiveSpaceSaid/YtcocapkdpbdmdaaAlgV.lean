/- Products of vectors: sums go through them, they associate, the unit does nothing. -/
import Derived.Test.YtcocapkdpbdmdaaLin
import Derived.Test.YtcocapkdpbdmdaaIsAlg
set_option linter.unusedVariables false
set_option linter.unusedSimpArgs false
set_option maxRecDepth 100000
set_option maxHeartbeats 1000000
namespace Go.Proofs.Ytcocapkdpbdmdaa
open M

theorem prodF_ap (p : Int) (T v w : Nat → Int) : prodF p T v w = apF p (leftT p T v) w := rfl
theorem leftT_at (p : Int) (T v : Nat → Int) {k j : Nat} (hj : j < 8) : leftT p T v (k * 8 + j) = apF p (rowT (flipF T) k) v j := by
  unfold leftT rightF apF; rw [show (k * 8 + j) / 8 = k by omega, show (k * 8 + j) % 8 = j by omega]
theorem leftT_map {p : Int} {n : Nat} {U T v : Nat → Int} (hV : Valid p n U T) (hv : ∀ i, n ≤ i → i < 8 → v i = 0) : MapP p n (leftT p T v) := by
  refine ⟨fun q _ => mod_rng hV.hp.1 _, fun i j hi hj h => ?_⟩
  rw [leftT_at p T v hj, apF_sum]
  rw [sumN_none 8 fun a ha => ?_, Int.zero_emod]
  rw [show rowT (flipF T) i (a * 8 + j) = vecT T a i j by unfold rowT flipF vecT; congr 1; omega]
  rcases h with h | h
  · rw [hV.zero a i j ha hi hj (.inr (.inl h)), Int.mul_zero]
  · rw [hV.zero a i j ha hi hj (.inr (.inr h)), Int.mul_zero]
theorem prodV_congr {p : Int} {T v v' w w' : Nat → Int} {m : Nat} (hm : m < 8) (hv : ∀ i, i < 8 → v i = v' i) (hw : ∀ i, i < 8 → w i = w' i) : prodF p T v w m = prodF p T v' w' m := by
  rw [prodF_ap, prodF_ap]
  refine apF_congr (fun i hi => ?_) hw
  rw [leftT_at p T v hm, leftT_at p T v' hm]
  exact apF_congr (fun _ _ => rfl) hv
theorem prodF_r (p c : Int) (T v x y : Nat → Int) (m : Nat) : prodF p T v (fun i => (x i + c * y i) % p) m = (prodF p T v x m + c * prodF p T v y m) % p := by
  rw [prodF_ap, apF_add]; rfl
theorem prodF_l (p c : Int) (T x y w : Nat → Int) {m : Nat} (hm : m < 8) : prodF p T (fun i => (x i + c * y i) % p) w m = (prodF p T x w m + c * prodF p T y w m) % p := by
  rw [prodF_ap, prodF_ap, prodF_ap, apF_sum, apF_sum, apF_sum]
  have e : sumN 8 (fun i => w i * leftT p T (fun i => (x i + c * y i) % p) (i * 8 + m)) = sumN 8 (fun i => (leftT p T x (i * 8 + m) + c * leftT p T y (i * 8 + m)) % p * w i) := sumN_congr 8 fun i hi => by
    rw [leftT_at p T _ hm, apF_add, ← leftT_at p T x hm, ← leftT_at p T y hm, Int.mul_comm]
  rw [e, sumN_lin, mod_l, mod_in]
  congr 1
  have c1 : ∀ z : Nat → Int, sumN 8 (fun i => leftT p T z (i * 8 + m) * w i) = sumN 8 (fun i => w i * leftT p T z (i * 8 + m)) := fun z => sumN_congr 8 fun i _ => Int.mul_comm _ _
  rw [c1, c1]
theorem prodF_zr (p : Int) (T v w : Nat → Int) (m : Nat) (h : ∀ i, i < 8 → w i = 0) : prodF p T v w m = 0 := apF_zero p _ w m h
theorem prodF_zl (p : Int) (T v w : Nat → Int) {m : Nat} (hm : m < 8) (h : ∀ i, i < 8 → v i = 0) : prodF p T v w m = 0 := by
  rw [prodF_ap, apF_sum, sumN_none 8 fun i hi => ?_, Int.zero_emod]
  rw [leftT_at p T v hm, apF_zero p _ v m h, Int.mul_zero]
theorem prodF_ur {p : Int} {n : Nat} {U T v : Nat → Int} (hV : Valid p n U T) {k m : Nat} (hk : k < 8) (hm : m < 8) : prodF p T v (unitV k) m = rightF p T v k m := by
  rw [prodF_ap, apF_unit p _ m hk, leftT_at p T v hm]
  exact Int.emod_emod _ _
theorem prodF_ul {p : Int} {n : Nat} {U T w : Nat → Int} (hV : Valid p n U T) (hw : ∀ i, n ≤ i → i < 8 → w i = 0) {i m : Nat} (hi : i < n) (hm : m < 8) : prodF p T (unitV i) w m = leftF p T i w m := by
  rw [← prod_eq hV (fun j h1 _ => by unfold unitV; rw [if_neg (by omega)]) hw hm, unit_times hV hw hi hm]
theorem prodF_vec {p : Int} {n : Nat} {U T v w : Nat → Int} (hp : 1 < p) (hV : Valid p n U T) (hv : VecP p n v) : VecP p n (prodF p T v w) := VecP.ap hp (leftT_map hV hv.out)

theorem ass_vec {p : Int} {n : Nat} {U T : Nat → Int} (hp : 1 < p) (hV : Valid p n U T) (ha : assB p n T) {x y z : Nat → Int} (hx : VecP p n x) (hy : VecP p n y) (hz : VecP p n z) :
    ∀ m, m < 8 → prodF p T (prodF p T x y) z m = prodF p T x (prodF p T y z) m := by
  have hn := hV.hn
  refine VecP.ind (R := fun x => ∀ m, m < 8 → prodF p T (prodF p T x y) z m = prodF p T x (prodF p T y z) m) hp hn (fun m hm => ?_) (fun x y' h e m hm => ?_) (fun i hi => ?_) (fun x x' c h1 h2 m hm => ?_) hx
  · rw [prodF_zl p T _ _ hm fun i hi => prodF_zl p T _ _ hi fun _ _ => rfl, prodF_zl p T _ _ hm fun _ _ => rfl]
  · rw [prodV_congr hm (fun i hi => prodV_congr hi e fun _ _ => rfl) (fun _ _ => rfl), h m hm, prodV_congr hm (fun i hi => (e i hi).symm) fun _ _ => rfl]
  · refine VecP.ind (R := fun y => ∀ m, m < 8 → prodF p T (prodF p T (unitV i) y) z m = prodF p T (unitV i) (prodF p T y z) m) hp hn (fun m hm => ?_) (fun x y' h e m hm => ?_) (fun j hj => ?_) (fun x x' c h1 h2 m hm => ?_) hy
    · rw [prodF_zl p T _ _ hm fun i hi => prodF_zr p T _ _ _ fun _ _ => rfl, prodF_zr p T _ _ _ fun i hi => prodF_zl p T _ _ hi fun _ _ => rfl]
    · rw [prodV_congr hm (fun i hi => prodV_congr hi (fun _ _ => rfl) e) (fun _ _ => rfl), h m hm]
      exact prodV_congr hm (fun _ _ => rfl) fun i hi => prodV_congr hi (fun i hi => (e i hi).symm) fun _ _ => rfl
    · refine VecP.ind (R := fun z => ∀ m, m < 8 → prodF p T (prodF p T (unitV i) (unitV j)) z m = prodF p T (unitV i) (prodF p T (unitV j) z) m) hp hn (fun m hm => ?_) (fun x y' h e m hm => ?_) (fun k hk m hm => ?_) (fun x x' c h1 h2 m hm => ?_) hz
      · rw [prodF_zr p T _ _ _ fun _ _ => rfl, prodF_zr p T _ _ _ fun i hi => prodF_zr p T _ _ _ fun _ _ => rfl]
      · rw [prodV_congr hm (fun _ _ => rfl) e, h m hm]
        exact prodV_congr hm (fun _ _ => rfl) fun i hi => prodV_congr hi (fun _ _ => rfl) fun i hi => (e i hi).symm
      · have vt : ∀ a b, a < n → b < n → ∀ m, m < 8 → prodF p T (unitV a) (unitV b) m = vecT T a b m := fun a b ha hb m hm => by
          rw [prodF_ur hV (by omega) hm]
          unfold rightF
          rw [linS_unit, if_pos (by omega), show rowT (flipF T) b (a * 8 + m) = vecT T a b m by unfold rowT flipF vecT; congr 1; omega]
          exact mod_id (hV.lt a b m (by omega) (by omega) hm)
        rw [prodF_ur hV (by omega) hm, prodF_ul hV (fun q h1 h2 => (VecP.out (prodF_vec (p := p) hp hV (VecP.unit hp hj)) q h1 h2)) hi hm]
        have e1 : rightF p T (prodF p T (unitV i) (unitV j)) k m = rightF p T (vecT T i j) k m := by
          unfold rightF; congr 1; exact linS_congr 8 fun a ha' => by rw [vt i j hi hj a ha']
        have e2 : leftF p T i (prodF p T (unitV j) (unitV k)) m = leftF p T i (vecT T j k) m := by
          unfold leftF; congr 1; exact linS_congr 8 fun a ha' => by rw [vt j k hj hk a ha']
        rw [e1, e2]
        exact allEq_get (ha i j k hi hj hk) hm
      · have e : prodF p T (unitV i) (prodF p T (unitV j) fun i => (x i + c * x' i) % p) m = prodF p T (unitV i) (fun q => (prodF p T (unitV j) x q + c * prodF p T (unitV j) x' q) % p) m := prodV_congr hm (fun _ _ => rfl) fun q hq => prodF_r p c T _ x x' q
        rw [prodF_r, h1 m hm, h2 m hm, e, prodF_r]
    · have e : prodF p T (unitV i) (prodF p T (fun i => (x i + c * x' i) % p) z) m = prodF p T (unitV i) (fun q => (prodF p T x z q + c * prodF p T x' z q) % p) m := prodV_congr hm (fun _ _ => rfl) fun q hq => prodF_l p c T x x' z hq
      have e' : prodF p T (prodF p T (unitV i) fun i => (x i + c * x' i) % p) z m = prodF p T (fun q => (prodF p T (unitV i) x q + c * prodF p T (unitV i) x' q) % p) z m := prodV_congr hm (fun q hq => prodF_r p c T _ x x' q) fun _ _ => rfl
      rw [e, e', prodF_r, prodF_l p c T _ _ z hm, h1 m hm, h2 m hm]
  · have e : prodF p T (prodF p T (fun i => (x i + c * x' i) % p) y) z m = prodF p T (fun q => (prodF p T x y q + c * prodF p T x' y q) % p) z m := prodV_congr hm (fun q hq => prodF_l p c T x x' y hq) fun _ _ => rfl
    rw [e, prodF_l p c T _ _ z hm, prodF_l p c T x x' _ hm, h1 m hm, h2 m hm]
theorem unit_vec {p : Int} {n : Nat} {U T : Nat → Int} (hp : 1 < p) (hV : Valid p n U T) (hu : unitB p n U T = true) {x : Nat → Int} (hx : VecP p n x) :
    (∀ m, m < 8 → prodF p T U x m = x m) ∧ ∀ m, m < 8 → prodF p T x U m = x m := by
  have hn := hV.hn
  have hU : ∀ i, n ≤ i → i < 8 → U i = 0 := fun i h1 h2 => hV.uzero i h2 h1
  have ok : ∀ i, i < n → unitOk p U T i = true := fun i hi => List.all_eq_true.1 hu i (List.mem_range.2 hi)
  refine VecP.ind (R := fun x => (∀ m, m < 8 → prodF p T U x m = x m) ∧ ∀ m, m < 8 → prodF p T x U m = x m) hp hn ⟨fun m hm => prodF_zr p T _ _ _ fun _ _ => rfl, fun m hm => prodF_zl p T _ _ hm fun _ _ => rfl⟩ (fun x y h e => ?_) (fun i hi => ?_) (fun x x' c h1 h2 => ?_) hx
  · exact ⟨fun m hm => by rw [prodV_congr hm (fun _ _ => rfl) e, h.1 m hm, e m hm], fun m hm => by rw [prodV_congr hm e fun _ _ => rfl, h.2 m hm, e m hm]⟩
  · have := ok i hi
    unfold unitOk at this
    rw [Bool.and_eq_true] at this
    exact ⟨fun m hm => by rw [prodF_ur hV (by omega) hm]; exact allEq_get this.1 hm, fun m hm => by rw [prodF_ul hV hU hi hm]; exact allEq_get this.2 hm⟩
  · exact ⟨fun m hm => by rw [prodF_r, h1.1 m hm, h2.1 m hm], fun m hm => by rw [prodF_l p c T x x' U hm, h1.2 m hm, h2.2 m hm]⟩
end Go.Proofs.Ytcocapkdpbdmdaa
