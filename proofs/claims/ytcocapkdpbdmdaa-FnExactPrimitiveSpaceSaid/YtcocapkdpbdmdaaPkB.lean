/- Texts in one: Centre, Kern, Cen2, Cen3, Flat, Space, Dual2, Hop1, Null, Null2, PrimM, PrimS, PrimI, PrimL, PrimLaw. -/
import Derived.Test.YtcocapkdpbdmdaaMeet2
import Derived.Test.YtcocapkdpbdmdaaList
import Derived.Test.YtcocapkdpbdmdaaVecs
import Derived.Test.YtcocapkdpbdmdaaCoFirst
import Derived.Test.YtcocapkdpbdmdaaOpp
import Derived.Test.YtcocapkdpbdmdaaCo2
import Derived.Test.YtcocapkdpbdmdaaMeet
import Derived.Test.YtcocapkdpbdmdaaReduce
import Derived.Test.YtcocapkdpbdmdaaCo3
set_option linter.unusedSimpArgs false
set_option linter.unusedVariables false
set_option linter.unusedSectionVars false
/- CentreOf: the model's side. -/
set_option linter.unusedVariables false
set_option linter.unusedSimpArgs false
set_option maxRecDepth 100000
set_option maxHeartbeats 4000000
namespace Go.Proofs.Ytcocapkdpbdmdaa
open M

/-- e(k) e(i) less e(i) e(k) -/
def commF (p : Int) (n : Nat) (T : Nat → Int) (i : Nat) : Nat → Int := fun q => if q / 8 < n then addM p (vecT T (q / 8) i) (-1) (vecT T i (q / 8)) (q % 8) else 0
theorem commF_rng {p n : Nat} (hp : 1 < p) (T : Nat → Int) (i : Nat) : ∀ q, q < 64 → 0 ≤ commF p n T i q ∧ commF p n T i q < p := fun q _ => by
  unfold commF
  split
  · exact addM_rng (by omega) _ _ _ _
  · omega
/-- what commutes with e(0) to e(i - 1) -/
def CenS (p n : Nat) (T : Nat → Int) (i : Nat) (x : Nat → Int) : Prop := VecP p n x ∧ ∀ l, l < i → ∀ j, j < 8 → apF p (commF p n T l) x j = 0
theorem cen_space {p n : Nat} {T : Nat → Int} {i : Nat} (hp : 1 < p) : Space p 8 (CenS p n T i) := by
  refine ⟨fun v h => h.1.rng, fun v u h e => ⟨⟨fun j hj => by rw [e j hj]; exact h.1.rng j hj, fun j h1 h2 => by rw [e j h2]; exact h.1.out j h1 h2⟩, fun l hl j hj => by rw [apF_congr (fun _ _ => rfl) e]; exact h.2 l hl j hj⟩, fun v h => ⟨⟨fun j hj => by rw [h j hj]; omega, fun j _ hj => h j hj⟩, fun l hl j hj => apF_zero _ _ _ _ h⟩, fun v u h1 h2 c => ⟨h1.1.add (by omega) h2.1 c, fun l hl j hj => ?_⟩⟩
  rw [apF_add, h1.2 l hl j hj, h2.2 l hl j hj]; simp

def CentreQ (p n : Int) (U T : Nat → Int) (r : SV) (m : Mem) : Prop :=
  (algB p n U T = false ∧ r = .tcons .nilsl (.tcons (.int .i64 1) .tnil)) ∨
  (algB p n U T = true ∧ ∃ k c A id, RedL p (CenS p.toNat n.toNat T n.toNat) k A ∧ k ≤ c ∧ r = .tcons (.sl id 0 k c) (.tcons (.int .i64 0) .tnil) ∧ blockOf m id = some (.ints .u8 (k * 8) A, c * 8))
end Go.Proofs.Ytcocapkdpbdmdaa

/- Kernels by rows: what leads to zeros alone, as a reduced list. -/
set_option linter.unusedVariables false
set_option linter.unusedSimpArgs false
set_option maxRecDepth 100000
set_option maxHeartbeats 4000000
namespace Go.Proofs.Ytcocapkdpbdmdaa
open M

/-! ### rows of any width with a basis behind them -/
/-- the sum of the multiples of images, at a place -/
def apW (p : Int) (g : Nat → Nat → Int) (x : Nat → Int) (j : Nat) : Int := sumN 8 (fun i => x i * g i j) % p
theorem apW_congr {p : Int} {g : Nat → Nat → Int} {x y : Nat → Int} {j : Nat} (h : ∀ i, i < 8 → x i = y i) : apW p g x j = apW p g y j := by
  unfold apW; rw [sumN_congr 8 fun i hi => by rw [h i hi]]
theorem apW_add (p c : Int) (g : Nat → Nat → Int) (x y : Nat → Int) (j : Nat) : apW p g (fun i => (x i + c * y i) % p) j = (apW p g x j + c * apW p g y j) % p := by
  unfold apW; rw [sumN_lin, mod_l, mod_in]
theorem apW_zero (p : Int) (g : Nat → Nat → Int) (x : Nat → Int) (j : Nat) (h : ∀ i, i < 8 → x i = 0) : apW p g x j = 0 := by
  unfold apW; rw [sumN_none 8 fun i hi => by rw [h i hi, Int.zero_mul], Int.zero_emod]
theorem apW_unit (p : Int) (g : Nat → Nat → Int) {k : Nat} (j : Nat) (hk : k < 8) : apW p g (unitV k) j = g k j % p := by
  unfold apW
  rw [sumN_pick _ 8 hk, sumN_none 8 fun i hi => by
    by_cases e : i = k
    · rw [if_pos e]
    · rw [if_neg e]; unfold unitV; rw [if_neg e, Int.zero_mul]]
  unfold unitV; rw [if_pos rfl]; simp

section
variable {p : Int} {n w : Nat} {g : Nat → Nat → Int}
theorem gw_lo {i j : Nat} (hj : j < w) : graphRow g w i j = g i j := by unfold graphRow; rw [if_pos hj]
theorem gw_hi {i j : Nat} : graphRow g w i (w + j) = unitV i j := by unfold graphRow; rw [if_neg (by omega)]; congr 1; omega
theorem gw_rng (hp : 1 < p) (hn : n ≤ 8) (hg : ∀ i, i < n → ∀ j, j < w → 0 ≤ g i j ∧ g i j < p) : ∀ i, i < n → ∀ j, j < w + 8 → 0 ≤ graphRow g w i j ∧ graphRow g w i j < p := fun i hi j hj => by
  by_cases h : j < w
  · rw [gw_lo h]; exact hg i hi j h
  · rw [show j = w + (j - w) by omega, gw_hi]; unfold unitV; split <;> omega
theorem gw_fwd (hp : 1 < p) (hn : n ≤ 8) (hg : ∀ i, i < n → ∀ j, j < w → 0 ≤ g i j ∧ g i j < p) {v : Nat → Int} (h : Sp p (w + 8) n (graphRow g w) v) : VecP p n (fun j => v (w + j)) ∧ ∀ j, j < w → v j = apW p g (fun j => v (w + j)) j := by
  refine Sp.in (S := fun v => (∀ j, j < w + 8 → 0 ≤ v j ∧ v j < p) ∧ VecP p n (fun j => v (w + j)) ∧ ∀ j, j < w → v j = apW p g (fun j => v (w + j)) j) ⟨fun v h => h.1, fun v u h e => ?_, fun v h => ?_, fun v u h1 h2 c => ?_⟩ (fun i hi => ?_) h |>.2
  · obtain ⟨h1, ⟨h2, h3⟩, h4⟩ := h
    refine ⟨fun j hj => by rw [e j hj]; exact h1 j hj, ⟨fun j hj => by rw [e _ (by omega)]; exact h2 j hj, fun j g1 g2 => by rw [e _ (by omega)]; exact h3 j g1 g2⟩, fun j hj => ?_⟩
    rw [e j (by omega), h4 j hj]
    exact apW_congr fun i hi => (e _ (by omega)).symm
  · refine ⟨fun j hj => by rw [h j hj]; omega, ⟨fun j hj => by rw [h _ (by omega)]; omega, fun j _ g => h _ (by omega)⟩, fun j hj => ?_⟩
    rw [h j (by omega), apW_zero p g _ j fun i hi => h _ (by omega)]
  · refine ⟨fun j _ => mod_rng (by omega) _, h1.2.1.add hp h2.2.1 c, fun j hj => ?_⟩
    show (v j + c * u j) % p = apW p g (fun j => (v (w + j) + c * u (w + j)) % p) j
    rw [apW_add, h1.2.2 j hj, h2.2.2 j hj]
  · refine ⟨gw_rng hp hn hg i hi, ⟨fun j hj => by rw [gw_hi]; unfold unitV; split <;> omega, fun j h1 h2 => by rw [gw_hi]; unfold unitV; rw [if_neg (by omega)]⟩, fun j hj => ?_⟩
    rw [gw_lo hj]
    have e : apW p g (fun j => graphRow g w i (w + j)) j = apW p g (unitV i) j := apW_congr fun k hk => gw_hi
    rw [e, apW_unit p g j (by omega), mod_id (hg i hi j hj)]
theorem gw_bwd (hp : 1 < p) (hn : n ≤ 8) (hg : ∀ i, i < n → ∀ j, j < w → 0 ≤ g i j ∧ g i j < p) {x : Nat → Int} (hx : VecP p n x) : Sp p (w + 8) n (graphRow g w) fun j => if j < w then apW p g x j else x (j - w) := by
  refine VecP.ind hp hn (R := fun x => Sp p (w + 8) n (graphRow g w) fun j => if j < w then apW p g x j else x (j - w)) ?_ (fun x y h e => ?_) (fun k hk => ?_) (fun x y c h1 h2 => ?_) hx
  · refine .zero _ fun j hj => ?_
    split
    · exact apW_zero p g _ j fun _ _ => rfl
    · rfl
  · refine h.ext fun j hj => ?_
    by_cases h8 : j < w
    · rw [if_pos h8, if_pos h8]; exact apW_congr fun i hi => e i hi
    · rw [if_neg h8, if_neg h8]; exact e _ (by omega)
  · refine (Sp.row hk (gw_rng hp hn hg k hk)).ext fun j hj => ?_
    by_cases h8 : j < w
    · rw [if_pos h8, gw_lo h8, apW_unit p g j (by omega), mod_id (hg k hk j h8)]
    · rw [if_neg h8, show j = w + (j - w) by omega, gw_hi]; congr 1; omega
  · refine (h1.addc (by omega) h2 c).ext fun j hj => ?_
    by_cases h8 : j < w
    · rw [if_pos h8, if_pos h8, if_pos h8, apW_add]
    · rw [if_neg h8, if_neg h8, if_neg h8]
end

/-- what leads to zeros alone -/
def KerG (p : Int) (n w : Nat) (g : Nat → Nat → Int) (x : Nat → Int) : Prop := VecP p n x ∧ ∀ j, j < w → apW p g x j = 0
theorem kerG_space {p : Int} {n w : Nat} {g : Nat → Nat → Int} (hp : 1 < p) : Space p 8 (KerG p n w g) := by
  refine ⟨fun v h => h.1.rng, fun v u h e => ⟨⟨fun j hj => by rw [e j hj]; exact h.1.rng j hj, fun j h1 h2 => by rw [e j h2]; exact h.1.out j h1 h2⟩, fun j hj => by rw [apW_congr e]; exact h.2 j hj⟩, fun v h => ⟨⟨fun j hj => by rw [h j hj]; omega, fun j _ hj => h j hj⟩, fun j hj => apW_zero _ _ _ _ h⟩, fun v u h1 h2 c => ⟨h1.1.add (by omega) h2.1 c, fun j hj => ?_⟩⟩
  rw [apW_add, h1.2 j hj, h2.2 j hj]; simp
/-- the rows that begin at w or later are the last ones -/
theorem kerG_red {p : Int} {n w k t : Nat} {g : Nat → Nat → Int} {a : Nat → Nat → Int} {P : Nat → Nat} (hp : 1 < p) (hn : n ≤ 8) (hg : ∀ i, i < n → ∀ j, j < w → 0 ≤ g i j ∧ g i j < p) (h : Red p (w + 8) (Sp p (w + 8) n (graphRow g w)) k a P)
    (ht : t ≤ k) (h1 : ∀ i, i < t → P i < w) (h2 : ∀ i, t ≤ i → i < k → w ≤ P i) : Red p 8 (KerG p n w g) (k - t) (fun i j => a (t + i) (w + j)) fun i => P (t + i) - w := by
  have z : ∀ i, i < k - t → w ≤ P (t + i) := fun i hi => h2 _ (by omega) (by omega)
  refine ⟨fun i hi => ?_, fun i hi => ?_, fun i j hij hj => ?_, fun i hi => ?_, fun i hi j hj => ?_, fun i j hi hj hij => ?_, fun v hv h0 j hj => ?_⟩
  · obtain ⟨f1, f2⟩ := gw_fwd hp hn hg (h.mem (t + i) (by omega))
    exact ⟨f1, fun j hj => by rw [← f2 j hj]; exact h.bef _ (by omega) j (by have := z i hi; omega)⟩
  · have := h.lt (t + i) (by omega); have := z i hi; omega
  · have := h.inc (t + i) (t + j) (by omega) (by omega); have := z i (by omega); omega
  · have := z i hi
    show a (t + i) (w + (P (t + i) - w)) = 1
    rw [show w + (P (t + i) - w) = P (t + i) by omega]; exact h.one _ (by omega)
  · have := z i hi
    exact h.bef _ (by omega) _ (by omega)
  · have := z j hj
    show a (t + i) (w + (P (t + j) - w)) = 0
    rw [show w + (P (t + j) - w) = P (t + j) by omega]; exact h.oth _ _ (by omega) (by omega) (by omega)
  · have hb := gw_bwd hp hn hg hv.1
    have := h.all _ hb (fun i hi => ?_) (w + j) (by omega)
    · rw [if_neg (by omega), show w + j - w = j by omega] at this; exact this
    · by_cases e : P i < w
      · rw [if_pos e]; exact hv.2 _ e
      · rw [if_neg e]
        have hti : t ≤ i := by
          by_cases g : i < t
          · exact absurd (h1 i g) e
          · omega
        have := h0 (i - t) (by omega)
        rw [show t + (i - t) = i by omega] at this
        exact this
theorem split_at {k w : Nat} {P : Nat → Nat} (h : ∀ i j, i < j → j < k → P i < P j) : ∃ t, t ≤ k ∧ (∀ i, i < t → P i < w) ∧ ∀ i, t ≤ i → i < k → w ≤ P i := by
  have key : ∀ m, m ≤ k → ∃ t, t ≤ m ∧ (∀ i, i < t → P i < w) ∧ ∀ i, t ≤ i → i < m → w ≤ P i := fun m => by
    induction m with
    | zero => intro _; exact ⟨0, Nat.le_refl _, fun i hi => absurd hi (Nat.not_lt_zero _), fun i _ hi => absurd hi (Nat.not_lt_zero _)⟩
    | succ m ih =>
      intro hm
      obtain ⟨t, h1, h2, h3⟩ := ih (by omega)
      by_cases e : t = m
      · by_cases e2 : P m < w
        · exact ⟨m + 1, Nat.le_refl _, fun i hi => by
            by_cases g : i = m
            · rw [g]; exact e2
            · exact h2 i (by omega), fun i g1 g2 => by omega⟩
        · exact ⟨t, by omega, h2, fun i g1 g2 => by
            have : i = m := by omega
            rw [this]; omega⟩
      · refine ⟨t, by omega, h2, fun i g1 g2 => ?_⟩
        by_cases g : i = m
        · have a1 := h3 t (Nat.le_refl _) (by omega)
          have a2 := h t m (by omega) (by omega)
          rw [g]; omega
        · exact h3 i g1 (by omega)
  exact key k (Nat.le_refl _)

/-! ### steps -/
theorem forget_len : ∀ (m : Mem) (b : Nat), (forget m b).length = m.length
  | [], _ => rfl
  | _ :: r, 0 => rfl
  | x :: r, k + 1 => by show (forget r k).length + 1 = _; rw [forget_len r k]; rfl
theorem forget_get : ∀ (m : Mem) (b i : Nat), i ≠ b → blockOf (forget m b) i = blockOf m i
  | [], _, _, _ => rfl
  | _ :: r, 0, 0, h => absurd rfl h
  | _ :: r, 0, i + 1, _ => rfl
  | x :: r, k + 1, 0, _ => rfl
  | x :: r, k + 1, i + 1, h => forget_get r k i (by omega)
theorem forget_none : ∀ (m : Mem) (b : Nat), blockOf (forget m b) b = none
  | [], _ => rfl
  | _ :: r, 0 => rfl
  | x :: r, k + 1 => forget_none r k
theorem forget_clo {m : Mem} (h : Clo m) (b : Nat) : Clo (forget m b) := fun id u c hb i hi => by
  rw [forget_len]
  by_cases e : id = b
  · subst e; rw [forget_none] at hb; cases hb
  · rw [forget_get m b id e] at hb; exact h id u c hb i hi
theorem snoc_clo {m : Mem} {v : SV} {c : Nat} (h : Clo m) (hv : ∀ i ∈ v.ids, i < m.length + 1) : Clo (m ++ [some (v, c)]) := fun id u d hb i hi => by
  simp only [List.length_append, List.length_singleton]
  by_cases e : id < m.length
  · rw [blockOf_append_lt _ _ id e] at hb; have := h id u d hb i hi; omega
  · have hl := blockOf_lt (m := m ++ [some (v, c)]) (id := id) (by rw [hb]; rfl)
    simp only [List.length_append, List.length_singleton] at hl
    obtain rfl : id = m.length := by omega
    rw [blockOf_snoc] at hb; cases hb; exact hv i hi
/-- a memory with a new row behind; all blocks but b are as they were -/
structure Plus (m : Mem) (b : Nat) (v : SV) (c : Nat) (M : Mem) : Prop where
  len : M.length = m.length + 1
  new : blockOf M m.length = some (v, c)
  old : ∀ q, q < m.length → q ≠ b → blockOf M q = blockOf m q
  live : liveP m M
  clo : Clo m → (∀ i ∈ v.ids, i < m.length + 1) → Clo M
theorem Plus.snoc (m : Mem) (v : SV) (c b : Nat) : Plus m b v c (m ++ [some (v, c)]) :=
  ⟨by simp, blockOf_snoc _ _, fun q hq _ => blockOf_append_lt _ _ q hq, fun q hq h => by rw [blockOf_append_lt _ _ q hq] at h; exact h, fun h hv => snoc_clo h hv⟩
theorem Plus.forget (m : Mem) (v : SV) (c b : Nat) : Plus m b v c (forget m b ++ [some (v, c)]) := by
  have hl := forget_len m b
  refine ⟨by simp [hl], by have := blockOf_snoc (Go.Proofs.Ytcocapkdpbdmdaa.forget m b) (some (v, c)); rwa [hl] at this, fun q hq hne => by rw [blockOf_append_lt _ _ q (by rw [hl]; exact hq), forget_get m b q hne], fun q hq h => ?_, fun h hv => snoc_clo (forget_clo h b) (by rw [hl]; exact hv)⟩
  rw [blockOf_append_lt _ _ q (by rw [hl]; exact hq)] at h
  by_cases e : q = b
  · subst e; rw [forget_none] at h; cases h
  · rwa [forget_get m b q e] at h
section
variable {P : Program} {T : Tab} {N : Nat} {ops : Array Oper} {o : Oper} {r : List Oper} {s : Slots} {m : Mem} {K : Slots → Mem → Prop} {t b b2 n cap o2 m2 c2 es by_ n1 n2 c d2 : Nat} {k : IntKind} {f g : Nat → Int} {cl : Call}
/-- rows behind a slice that is the function's own: they lie in a new block from now on -/
theorem opsVC_appN (hg : o.guard = none) (ho : o.op = .call cl) (hc : cl.callee = .builtin .append) (hts : cl.argTypes.toList = [t, t]) (hx : evs s cl.args.toList = some [.sl b 0 n cap, .sl b2 o2 m2 c2]) (ht : T.ti t = .slice es) (hap : T.app t = some by_)
    (hb : blockOf m b = some (.ints k n1 f, c)) (hb2 : blockOf m b2 = some (.ints k n2 g, d2)) (hin : o2 + m2 * es ≤ n2) (hown : T.own ≤ b) (hsz : n * es ≤ n1 ∧ c = cap * es ∧ n ≤ cap ∧ (n + m2) * by_ ≤ 140737488355328 ∧ n + m2 ≤ 4611686018427387904)
    (hk : ∀ cap' F M', n + m2 ≤ cap' → (∀ j, j < n * es → F j = f j) → (∀ j, F (n * es + j) = g (j + o2)) → Plus m b (.ints k ((n + m2) * es) F) (cap' * es) M' → opsVC P T N ops r (sset N s o.dst (.sl m.length 0 (n + m2) cap')) M' K) : opsVC P T N ops (o :: r) s m K := by
  refine opsVC_one hg ?_
  simp only [oneVC, ho, hc, hts, hx, appAny, Nat.beq_refl, appVC, ht, hap, hb2]
  refine ⟨hin, .inr (.inl ?_)⟩
  simp only [appNew, hb]
  exact chk_iff.2 ⟨by
    have e1 : ikEq k k = true := by cases k <;> rfl
    have e2 : Nat.ble T.own b = true := Nat.ble_eq_true_of_le hown
    rw [e1, e2]; rfl, hsz, fun cap' hcap => hk cap' _ _ hcap (fun j hj => if_pos hj) (fun j => by show (if n * es + j < n * es then _ else g (n * es + j - n * es + o2)) = _; rw [if_neg (by omega), show n * es + j - n * es + o2 = j + o2 by omega]) (Plus.forget m _ _ b)⟩
theorem opsVC_row1 {ps : Array (Nat × Operand)} (hg : o.guard = none) (ho : o.op = .buildSlice t 1 ps) (ht : T.ti t = .slice es) (he : (T.elem0 t).bind elemRow = some (k, es, f)) (hes : (Nat.blt 0 es && Nat.ble (1 * es) 16777216) = true) (hp : evParts s ps.toList = some [(0, .ints k es g)])
    (hk : ∀ G M', (∀ j, j < es → G j = g j) → Plus m m.length (.ints k (1 * es) G) (1 * es) M' → opsVC P T N ops r (sset N s o.dst (.sl m.length 0 1 1)) M' K) : opsVC P T N ops (o :: r) s m K := by
  refine opsVC_one hg ?_
  simp only [oneVC, ho, newVC, ht, he, hp, Nat.beq_refl, Bool.true_and]
  refine chk_iff.2 ⟨hes, ?_⟩
  have e1 : ikEq k k = true := by cases k <;> rfl
  have e2 : Nat.ble (0 * es + es) (1 * es) = true := Nat.ble_eq_true_of_le (by omega)
  simp only [fillA, Nat.beq_refl, e1, e2]
  exact chk_iff.2 ⟨rfl, hk _ _ (fun j hj => by unfold updR; rw [if_pos (by omega)]; congr 1; omega) (Plus.snoc _ _ _ _)⟩
theorem opsVC_appE (hg : o.guard = none) (ho : o.op = .call cl) (hc : cl.callee = .builtin .append) (hts : cl.argTypes.toList = [t, t]) (hx : evs s cl.args.toList = some [.nilsl, .sl b2 o2 m2 c2]) (ht : T.ti t = .slice es) (hap : T.app t = some by_)
    (hb2 : blockOf m b2 = some (.ints k n2 g, d2)) (hin : o2 + m2 * es ≤ n2) (hsz : 0 < m2 ∧ m2 * by_ ≤ 140737488355328 ∧ m2 ≤ 4611686018427387904)
    (hk : ∀ cap' F M', m2 ≤ cap' → (∀ j, F j = g (j + o2)) → Plus m m.length (.ints k (m2 * es) F) (cap' * es) M' → opsVC P T N ops r (sset N s o.dst (.sl m.length 0 m2 cap')) M' K) : opsVC P T N ops (o :: r) s m K := by
  refine opsVC_one hg ?_
  simp only [oneVC, ho, hc, hts, hx, appAny, Nat.beq_refl, appVC, ht, hap, hb2]
  exact ⟨hin, .inr (.inr (chk_iff.2 ⟨rfl, hsz, fun cap' hcap => hk cap' _ _ hcap (fun _ => rfl) (Plus.snoc _ _ _ _)⟩))⟩
end

theorem firstPlaceM_s (m : Mem) (id w cap c : Nat) (g : Nat → Int) (hb : blockOf m id = some (.ints .u8 w g, c)) (hm : Clo m) (hw : w ≤ 1000000) :
    Spec Try.prog 59 [.sl id 0 w cap] m (fun r m' => m' = m ∧ ∃ k : Nat, k ≤ w ∧ (∀ i, i < k → g i = 0) ∧ (k < w → g k ≠ 0) ∧ r = .int .i64 k) := by
  have hlt : id < m.length := blockOf_lt (by rw [hb]; rfl)
  refine Spec.of_vc tabOK tabEq Try.func59 rfl (by kernel_rfl) rfl (by simp [idsOf, SV.ids, Nat.blt_eq, hlt]) ?_
  refine LoopVC.ofR (fun i : Nat => i ≤ w ∧ ∀ j, j < i → g j = 0) (fun i => [(0, .sl id 0 w cap), (5, .sl id 0 w cap), (6, .int .i64 w), (7, .int .i64 i)]) (fun _ => m) (fun i => w - i) 0 ⟨by omega, fun j hj => by omega⟩ (fun i => i) (RenTo.same (And.intro rfl (And.intro rfl (And.intro rfl (And.intro rfl (trivial))))) fun i u d hb => ⟨u, hb, eqv_refl u⟩) (fun _ _ => Nat.le_refl _) ?_ ?_
  · exact fun i hi => OkP.of (by simp [SV.ids, hlt]) hm
  · rintro i ⟨hi, hall⟩
    refine ifVC_split (fun hh => ?_) (fun hh => ?_)
    · have hlt := of_decide_eq_true hh
      (repeat (first | refine And.intro (by omega) ?_ | refine And.intro ⟨by omega, by omega⟩ ?_))
      refine opsVC_load rfl rfl rfl rfl hb (by omega) ?_
      have hidx : (i : Int).toNat * 1 + 0 = i := by omega
      refine ifVC_split (fun hc => ?_) (fun hc => ?_)
      · have hc : g i ≠ 0 := by
          have hc : g ((i : Int).toNat * 1 + 0) ≠ 0 := by simpa using hc
          rw [hidx] at hc; exact hc
        exact ⟨rfl, i, by omega, hall, fun _ => hc, rfl⟩
      · have hc : g i = 0 := by
          have hc : g ((i : Int).toNat * 1 + 0) = 0 := by simpa using hc
          rw [hidx] at hc; exact hc
        refine Exists.intro (i + 1) (Exists.intro (fun i => i) (And.intro ⟨by omega, fun j hj => ?_⟩ (And.intro (by omega) (RenTo.same ?_ fun i u d hb => ⟨u, hb, eqv_refl u⟩))))
        · by_cases hji : j = i
          · subst hji; exact hc
          · exact hall j (by omega)
        · exact And.intro rfl (And.intro rfl (And.intro rfl (And.intro (slotI (wrapS (by omega))) trivial)))
    · have hge := of_decide_eq_false hh
      obtain rfl : i = w := by omega
      exact ⟨rfl, i, by omega, hall, fun h => absurd h (Nat.lt_irrefl _), rfl⟩

/-- a list of vectors that may be nil where it is empty -/
def listV (id k c : Nat) : SV := if k = 0 then .nilsl else .sl id 0 k c
abbrev KS := Nat × (Nat → Int) × Nat × Nat × SV × Mem
structure KI (M : Mem) (k t w : Nat) (a : Nat → Nat → Int) (x : KS) : Prop where
  l : x.1 ≤ k
  v : x.2.2.2.2.1 = listV x.2.2.1 (x.1 - t) x.2.2.2.1
  A : ∀ i, i < x.1 - t → ∀ j, j < 8 → x.2.1 (i * 8 + j) = a (t + i) (w + j)
  b : x.1 - t ≠ 0 → M.length ≤ x.2.2.1 ∧ blockOf x.2.2.2.2.2 x.2.2.1 = some (.ints .u8 ((x.1 - t) * 8) x.2.1, x.2.2.2.1 * 8) ∧ x.1 - t ≤ x.2.2.2.1
  old : ∀ q, q < M.length → blockOf x.2.2.2.2.2 q = blockOf M q
  len : M.length ≤ x.2.2.2.2.2.length
  clo : Clo x.2.2.2.2.2

theorem kernelOf_s (m : Mem) (hd N c0 n cap w p : Nat) (h : Nat → SV) (ρ o cp Ni d : Nat → Nat) (g : Nat → Nat → Int) (hhdr : blockOf m hd = some (.vec N h, c0)) (hfit : n ≤ N) (hsl : ∀ i, i < n → h i = .sl (ρ i) (o i) w (cp i))
    (hrow : ∀ i, i < n → blockOf m (ρ i) = some (.ints .u8 (Ni i) (g i), d i)) (hin : ∀ i, i < n → o i + w ≤ Ni i) (hm : Clo m) (hn : 1 ≤ n ∧ n ≤ 8) (hw : w ≤ 1000) (hp : primeB (p : Int) = true) (hp2 : 2 ≤ p ∧ p ≤ 31) (hr : ∀ i, i < n → ∀ j, j < w → 0 ≤ g i (j + o i) ∧ g i (j + o i) < p) :
    Spec Try.prog 33 [.int .i64 p, .sl hd 0 n cap] m (fun r m' => ∃ id k c A, r = listV id k c ∧ RedL p (KerG p n w fun i j => g i (j + o i)) k A ∧ (k ≠ 0 → m.length ≤ id ∧ blockOf m' id = some (.ints .u8 (k * 8) A, c * 8) ∧ k ≤ c) ∧ m.length ≤ m'.length ∧ ∀ q, q < m.length → blockOf m' q = blockOf m q) := by
  have hlt : hd < m.length := blockOf_lt (by rw [hhdr]; rfl)
  refine Spec.of_vc (tabOK.dir fun g => Nat.beq g 58 || Nat.beq g 57 || Nat.beq g 59) (tabEq.dir _) Try.func33 rfl (by kernel_rfl) rfl (by simp [idsOf, SV.ids, Nat.blt_eq, hlt]) ?_
  (repeat (first | refine And.intro (by omega) ?_ | refine And.intro ⟨by omega, by omega⟩ ?_))
  refine opsVC_loadS (v := .sl (ρ 0) (o 0) w (cp 0)) rfl rfl rfl rfl hhdr (by omega) (hsl 0 (by omega)) rfl ?_
  refine opsVC_len rfl rfl rfl rfl rfl rfl ?_
  (repeat (first | (with_reducible refine vc_exit ?_) | (with_reducible refine vc_ret ?_) | (with_reducible refine vc_skip ?_) | (with_reducible refine thenQ_x ?_) | (with_reducible refine thenQ_r ?_) | (with_reducible refine thenQ_n ?_) | (with_reducible refine blockQ_x rfl ?_) | (with_reducible refine blockQ_y rfl ?_) | (with_reducible refine blockQ_n ?_) | (with_reducible refine blockQ_r ?_) | (with_reducible refine vc_seq ?_) | (with_reducible refine vc_region ?_) | (with_reducible refine vc_block ?_) | (with_reducible refine vc_scope ?_) | (with_reducible refine opsVC_nil ?_)))
  refine opsVC_as rfl rfl rfl ?_
  (repeat (first | (with_reducible refine vc_exit ?_) | (with_reducible refine vc_ret ?_) | (with_reducible refine vc_skip ?_) | (with_reducible refine thenQ_x ?_) | (with_reducible refine thenQ_r ?_) | (with_reducible refine thenQ_n ?_) | (with_reducible refine blockQ_x rfl ?_) | (with_reducible refine blockQ_y rfl ?_) | (with_reducible refine blockQ_n ?_) | (with_reducible refine blockQ_r ?_) | (with_reducible refine vc_seq ?_) | (with_reducible refine vc_region ?_) | (with_reducible refine vc_block ?_) | (with_reducible refine vc_scope ?_) | (with_reducible refine opsVC_nil ?_)))
  refine opsVC_as rfl rfl rfl ?_
  (repeat (first | (with_reducible refine vc_exit ?_) | (with_reducible refine vc_ret ?_) | (with_reducible refine vc_skip ?_) | (with_reducible refine thenQ_x ?_) | (with_reducible refine thenQ_r ?_) | (with_reducible refine thenQ_n ?_) | (with_reducible refine blockQ_x rfl ?_) | (with_reducible refine blockQ_y rfl ?_) | (with_reducible refine blockQ_n ?_) | (with_reducible refine blockQ_r ?_) | (with_reducible refine vc_seq ?_) | (with_reducible refine vc_region ?_) | (with_reducible refine vc_block ?_) | (with_reducible refine vc_scope ?_) | (with_reducible refine opsVC_nil ?_)))
  refine opsVC_mv rfl rfl rfl ?_
  refine opsVC_mv rfl rfl rfl ?_
  refine opsVC_dir rfl rfl rfl rfl rfl rfl ?_
  refine Spec.mono (graphOf_s m hd N c0 n cap w h ρ o cp Ni d g hhdr hfit hsl hrow hin hm hn.2 hw) ?_
  rintro r m' ⟨cc, F, C, rfl, rfl, hcc, hF⟩
  refine ⟨memG_live _ _ _ _ _ _ _, ?_⟩
  have hgr := gw_rng (p := (p : Int)) (n := n) (w := w) (g := fun i j => g i (j + o i)) (by omega) hn.2 hr
  refine opsVC_dir rfl rfl rfl rfl rfl rfl ?_
  refine Spec.mono (reduceRows_s (memG m n (w + 8) n cc F C) m.length n n n n (w + 8) p (hdrF m.length (w + 8) n cc) (fun k => m.length + 1 + k) cc F C (memG_fam _ _ _ _ _ _ hcc) (memG_clo _ _ _ _ _ _ _ hm) (fun a b _ _ e => by have e : m.length + 1 + a = m.length + 1 + b := e; omega) (by omega) (Nat.le_refl _) (by omega) hp hp2 (fun k hk j hj => by rw [hF k hk j hj]; exact hgr k hk j hj)) ?_
  rintro r M ⟨k, h', ρ', cp', a, d', P, rfl, hk, hb, hred⟩
  refine ⟨hb.live, ?_⟩
  have hsp : ∀ v, Sp p (w + 8) n F v ↔ Sp p (w + 8) n (graphRow (fun i j => g i (j + o i)) w) v := fun v => Sp.congr (by omega) (fun l hl j hj => hF l hl j hj) (fun l hl j hj => by rw [hF l hl j hj]; exact hgr l hl j hj)
  have hred := hred.of_iff hsp
  obtain ⟨t, ht, ht1, ht2⟩ := split_at (w := w) hred.inc
  have hker := kerG_red (by omega) hn.2 hr hred ht ht1 ht2
  have hlen : M.length = m.length + 1 + n := by rw [hb.len, memG_len]
  have hMm : ∀ q, q < m.length → blockOf M q = blockOf m q := fun q hq => (hb.out q (by omega) (fun i hi => by omega)).trans (memG_old _ _ _ _ _ _ _ hq)
  have hsl' : ∀ l, l < n → h' l = .sl (ρ' l) 0 (w + 8) (cp' l) := fun l hl => by have := hb.fam.sl l hl; rwa [Nat.zero_add] at this
  have hρ : ∀ l, l < n → ρ' l < M.length := hb.fam.lt
  have hhd : m.length < M.length := by omega
  refine opsVC_len rfl rfl rfl rfl rfl rfl ?_
  refine opsVC_mv rfl rfl rfl ?_
  (repeat (first | (with_reducible refine vc_exit ?_) | (with_reducible refine vc_ret ?_) | (with_reducible refine vc_skip ?_) | (with_reducible refine thenQ_x ?_) | (with_reducible refine thenQ_r ?_) | (with_reducible refine thenQ_n ?_) | (with_reducible refine blockQ_x rfl ?_) | (with_reducible refine blockQ_y rfl ?_) | (with_reducible refine blockQ_n ?_) | (with_reducible refine blockQ_r ?_) | (with_reducible refine vc_seq ?_) | (with_reducible refine vc_region ?_) | (with_reducible refine vc_block ?_) | (with_reducible refine vc_scope ?_) | (with_reducible refine opsVC_nil ?_)))
  refine LoopVC.ofR (KI M k t w a) (fun x => [(5, .int .i64 w), (6, x.2.2.2.2.1), (16, .sl m.length 0 k n), (17, .int .i64 k), (18, .int .i64 x.1)]) (fun x => x.2.2.2.2.2) (fun x => k - x.1) (0, (fun _ => 0), 0, 0, .nilsl, M)
    ⟨Nat.zero_le _, by show SV.nilsl = listV 0 (0 - t) 0; unfold listV; rw [if_pos (Nat.zero_sub t)], fun i hi => by have hi : i < 0 - t := hi; omega, fun hne => absurd (Nat.zero_sub t) hne, fun _ _ => rfl, Nat.le_refl _, hb.clo⟩ (fun i => i) (RenTo.same (And.intro rfl (And.intro rfl (And.intro rfl (And.intro rfl (And.intro rfl (trivial)))))) fun i u d hb => ⟨u, hb, eqv_refl u⟩) ?_ ?_ ?_
  · intro x hx; have := hx.len; show m.length ≤ _; omega
  · intro x hx
    refine OkP.of ?_ hx.clo
    have h1 := hx.len
    have h2 : ∀ i ∈ x.2.2.2.2.1.ids, i < x.2.2.2.2.2.length := fun i hi => by
      rw [hx.v] at hi
      unfold listV at hi
      by_cases e : x.1 - t = 0
      · rw [if_pos e] at hi; cases hi
      · rw [if_neg e] at hi
        simp [SV.ids] at hi
        subst hi
        exact blockOf_lt (by rw [(hx.b e).2.1]; rfl)
    intro q hq i hi
    simp only [List.mem_cons, List.not_mem_nil, or_false] at hq
    rcases hq with rfl | rfl | rfl | rfl | rfl
    · cases hi
    · exact h2 i hi
    · simp [SV.ids] at hi; omega
    · cases hi
    · cases hi
  · rintro ⟨l, A, id, c, v6, M'⟩ ⟨hl, hv, hA, hB, hO, hL, hC⟩
    dsimp only at hl hv hA hB hO hL hC
    have hlx : (l : Int).toNat * 1 + 0 = l := by omega
    refine ifVC_split (fun h1 => ?_) (fun h1 => ?_)
    · have hlk : l < k := by have := of_decide_eq_true h1; omega
      have hrowl := (hO _ (hρ l (by omega))).trans (hb.fam.row l (by omega))
      have hcp := hb.fam.cap l (by omega)
      (repeat (first | refine And.intro (by omega) ?_ | refine And.intro ⟨by omega, by omega⟩ ?_))
      refine opsVC_loadS (v := .sl (ρ' l) 0 (w + 8) (cp' l)) rfl rfl rfl rfl ((hO _ hhd).trans hb.fam.hdr) (by omega) (by rw [hlx]; exact hsl' l (by omega)) rfl ?_
      refine opsVC_as rfl rfl rfl ?_
      (repeat (first | (with_reducible refine vc_exit ?_) | (with_reducible refine vc_ret ?_) | (with_reducible refine vc_skip ?_) | (with_reducible refine thenQ_x ?_) | (with_reducible refine thenQ_r ?_) | (with_reducible refine thenQ_n ?_) | (with_reducible refine blockQ_x rfl ?_) | (with_reducible refine blockQ_y rfl ?_) | (with_reducible refine blockQ_n ?_) | (with_reducible refine blockQ_r ?_) | (with_reducible refine vc_seq ?_) | (with_reducible refine vc_region ?_) | (with_reducible refine vc_block ?_) | (with_reducible refine vc_scope ?_) | (with_reducible refine opsVC_nil ?_)))
      refine opsVC_mv rfl rfl rfl ?_
      refine opsVC_dir rfl rfl rfl rfl rfl rfl ?_
      refine Spec.mono (firstPlaceM_s M' (ρ' l) (w + 8) (cp' l) _ _ hrowl hC (by omega)) ?_
      rintro r m' ⟨rfl, f, hf, hf1, hf2, rfl⟩
      refine ⟨liveP.refl _, ?_⟩
      have hfP : f = P l := by
        have g1 := hred.one l hlk
        have g2 := hred.bef l hlk
        have g3 := hred.lt l hlk
        rcases Nat.lt_trichotomy f (P l) with e | e | e
        · exact absurd (g2 f e) (hf2 (by omega))
        · exact e
        · have := hf1 _ e; omega
      subst hfP
      refine ifVC_split (fun h3 => ?_) (fun h3 => ?_)
      · have h3 : w ≤ P l := by have := of_decide_eq_true h3; omega
        have htl : t ≤ l := by
          by_cases e : l < t
          · have := ht1 l e; omega
          · omega
        have hwx : (w : Int).toNat * 1 + 0 + 8 ≤ w + 8 := by omega
        by_cases hz : l - t = 0
        · have e6 : v6 = .nilsl := by rw [hv]; unfold listV; rw [if_pos hz]
          subst e6
          (repeat (first | (with_reducible refine vc_exit ?_) | (with_reducible refine vc_ret ?_) | (with_reducible refine vc_skip ?_) | (with_reducible refine thenQ_x ?_) | (with_reducible refine thenQ_r ?_) | (with_reducible refine thenQ_n ?_) | (with_reducible refine blockQ_x rfl ?_) | (with_reducible refine blockQ_y rfl ?_) | (with_reducible refine blockQ_n ?_) | (with_reducible refine blockQ_r ?_) | (with_reducible refine vc_seq ?_) | (with_reducible refine vc_region ?_) | (with_reducible refine vc_block ?_) | (with_reducible refine vc_scope ?_) | (with_reducible refine opsVC_nil ?_)))
          refine opsVC_mv rfl rfl rfl ?_
          refine opsVC_mv rfl rfl rfl ?_
          refine opsVC_mv rfl rfl rfl ?_
          (repeat (first | refine And.intro (by omega) ?_ | refine And.intro ⟨by omega, by omega⟩ ?_))
          refine opsVC_loadR (l := 8) rfl rfl rfl rfl hrowl hwx ?_
          refine opsVC_row1 rfl rfl rfl rfl rfl rfl fun G M1 hG p1 => ?_
          refine opsVC_appE rfl rfl rfl rfl rfl rfl rfl p1.new (Nat.le_refl _) (by omega) fun cap' F M2 hcap hF p2 => ?_
          refine opsVC_as rfl rfl rfl ?_
          (repeat (first | (with_reducible refine vc_exit ?_) | (with_reducible refine vc_ret ?_) | (with_reducible refine vc_skip ?_) | (with_reducible refine thenQ_x ?_) | (with_reducible refine thenQ_r ?_) | (with_reducible refine thenQ_n ?_) | (with_reducible refine blockQ_x rfl ?_) | (with_reducible refine blockQ_y rfl ?_) | (with_reducible refine blockQ_n ?_) | (with_reducible refine blockQ_r ?_) | (with_reducible refine vc_seq ?_) | (with_reducible refine vc_region ?_) | (with_reducible refine vc_block ?_) | (with_reducible refine vc_scope ?_) | (with_reducible refine opsVC_nil ?_)))
          have q1 := p1.len
          have q2 := p2.len
          have e1 : l + 1 - t = 1 := by omega
          refine Exists.intro ⟨l + 1, F, M1.length, cap', .sl M1.length 0 1 cap', M2⟩ (Exists.intro (fun i => i) (And.intro ⟨hlk, ?_, fun i hi j hj => ?_, fun hne => ⟨?_, ?_, ?_⟩, fun q hq => ?_, ?_, ?_⟩ (And.intro (show k - (l + 1) < k - l by omega) (RenTo.same ?_ fun i u d hb => ⟨u, hb, eqv_refl u⟩))))
          · show _ = listV M1.length (l + 1 - t) cap'
            rw [e1]; rfl
          · have hi : i < l + 1 - t := hi
            obtain rfl : i = 0 := by omega
            show F (0 * 8 + j) = a (t + 0) (w + j)
            rw [hF, hG _ (by omega)]
            show a l (0 * 8 + j + 0 + ((w : Int).toNat * 1 + 0)) = _
            congr 1 <;> omega
          · show M.length ≤ M1.length; omega
          · show blockOf M2 M1.length = some (.ints .u8 ((l + 1 - t) * 8) F, cap' * 8)
            rw [e1]; exact p2.new
          · show l + 1 - t ≤ cap'; omega
          · show blockOf M2 q = _
            rw [p2.old q (by omega) (by omega), p1.old q (by omega) (by omega)]; exact hO q hq
          · show M.length ≤ M2.length; omega
          · exact p2.clo (p1.clo hC (by simp [SV.ids])) (by simp [SV.ids])
          · exact And.intro rfl (And.intro rfl (And.intro rfl (And.intro rfl (And.intro (slotI (wrapS (by omega))) trivial))))
        · have e6 : v6 = .sl id 0 (l - t) c := by rw [hv]; unfold listV; rw [if_neg hz]
          obtain ⟨b1, b2, b3⟩ := hB hz
          have hidl := blockOf_lt (m := m') (id := id) (by rw [b2]; rfl)
          subst e6
          (repeat (first | (with_reducible refine vc_exit ?_) | (with_reducible refine vc_ret ?_) | (with_reducible refine vc_skip ?_) | (with_reducible refine thenQ_x ?_) | (with_reducible refine thenQ_r ?_) | (with_reducible refine thenQ_n ?_) | (with_reducible refine blockQ_x rfl ?_) | (with_reducible refine blockQ_y rfl ?_) | (with_reducible refine blockQ_n ?_) | (with_reducible refine blockQ_r ?_) | (with_reducible refine vc_seq ?_) | (with_reducible refine vc_region ?_) | (with_reducible refine vc_block ?_) | (with_reducible refine vc_scope ?_) | (with_reducible refine opsVC_nil ?_)))
          refine opsVC_mv rfl rfl rfl ?_
          refine opsVC_mv rfl rfl rfl ?_
          refine opsVC_mv rfl rfl rfl ?_
          (repeat (first | refine And.intro (by omega) ?_ | refine And.intro ⟨by omega, by omega⟩ ?_))
          refine opsVC_loadR (l := 8) rfl rfl rfl rfl hrowl hwx ?_
          refine opsVC_row1 rfl rfl rfl rfl rfl rfl fun G M1 hG p1 => ?_
          have hk8 : k ≤ n := hk
          refine opsVC_appN rfl rfl rfl rfl rfl rfl rfl ((p1.old id hidl (by omega)).trans b2) p1.new (Nat.le_refl _) (show m.length ≤ id by omega) ⟨Nat.le_refl _, rfl, b3, by omega, by omega⟩ fun cap' F M2 hcap hF1 hF2 p2 => ?_
          refine opsVC_as rfl rfl rfl ?_
          (repeat (first | (with_reducible refine vc_exit ?_) | (with_reducible refine vc_ret ?_) | (with_reducible refine vc_skip ?_) | (with_reducible refine thenQ_x ?_) | (with_reducible refine thenQ_r ?_) | (with_reducible refine thenQ_n ?_) | (with_reducible refine blockQ_x rfl ?_) | (with_reducible refine blockQ_y rfl ?_) | (with_reducible refine blockQ_n ?_) | (with_reducible refine blockQ_r ?_) | (with_reducible refine vc_seq ?_) | (with_reducible refine vc_region ?_) | (with_reducible refine vc_block ?_) | (with_reducible refine vc_scope ?_) | (with_reducible refine opsVC_nil ?_)))
          have q1 := p1.len
          have q2 := p2.len
          have e1 : l + 1 - t = l - t + 1 := by omega
          refine Exists.intro ⟨l + 1, F, M1.length, cap', .sl M1.length 0 (l - t + 1) cap', M2⟩ (Exists.intro (fun i => i) (And.intro ⟨hlk, ?_, fun i hi j hj => ?_, fun hne => ⟨?_, ?_, ?_⟩, fun q hq => ?_, ?_, ?_⟩ (And.intro (show k - (l + 1) < k - l by omega) (RenTo.same ?_ fun i u d hb => ⟨u, hb, eqv_refl u⟩))))
          · show _ = listV M1.length (l + 1 - t) cap'
            rw [e1]; rfl
          · have hi : i < l + 1 - t := hi
            show F (i * 8 + j) = a (t + i) (w + j)
            by_cases e : i = l - t
            · rw [show i * 8 + j = (l - t) * 8 + j by omega, hF2, hG _ (by omega)]
              show a l (j + 0 + ((w : Int).toNat * 1 + 0)) = _
              congr 1 <;> omega
            · rw [hF1 _ (by omega)]; exact hA i (by omega) j hj
          · show M.length ≤ M1.length; omega
          · show blockOf M2 M1.length = some (.ints .u8 ((l + 1 - t) * 8) F, cap' * 8)
            rw [e1]; exact p2.new
          · show l + 1 - t ≤ cap'; omega
          · show blockOf M2 q = _
            rw [p2.old q (by omega) (by omega), p1.old q (by omega) (by omega)]; exact hO q hq
          · show M.length ≤ M2.length; omega
          · exact p2.clo (p1.clo hC (by simp [SV.ids])) (by simp [SV.ids])
          · exact And.intro rfl (And.intro rfl (And.intro rfl (And.intro rfl (And.intro (slotI (wrapS (by omega))) trivial))))
      · have h3 : P l < w := by have := of_decide_eq_false h3; omega
        have hlt' : l < t := by
          by_cases e : l < t
          · exact e
          · have := ht2 l (by omega) hlk; omega
        have e1 : l + 1 - t = l - t := by omega
        refine Exists.intro ⟨l + 1, A, id, c, v6, m'⟩ (Exists.intro (fun i => i) (And.intro ⟨hlk, ?_, fun i hi => ?_, fun hne => ?_, hO, hL, hC⟩ (And.intro (show k - (l + 1) < k - l by omega) (RenTo.same ?_ fun i u d hb => ⟨u, hb, eqv_refl u⟩))))
        · show v6 = listV id (l + 1 - t) c
          rw [e1]; exact hv
        · have hi : i < l + 1 - t := hi
          omega
        · have hne : l + 1 - t ≠ 0 := hne
          omega
        · exact And.intro rfl (And.intro (eqv_refl v6) (And.intro rfl (And.intro rfl (And.intro (slotI (wrapS (by omega))) trivial))))
    · have hlk : l = k := by have := of_decide_eq_false h1; omega
      subst hlk
      (repeat (first | (with_reducible refine vc_exit ?_) | (with_reducible refine vc_ret ?_) | (with_reducible refine vc_skip ?_) | (with_reducible refine thenQ_x ?_) | (with_reducible refine thenQ_r ?_) | (with_reducible refine thenQ_n ?_) | (with_reducible refine blockQ_x rfl ?_) | (with_reducible refine blockQ_y rfl ?_) | (with_reducible refine blockQ_n ?_) | (with_reducible refine blockQ_r ?_) | (with_reducible refine vc_seq ?_) | (with_reducible refine vc_region ?_) | (with_reducible refine vc_block ?_) | (with_reducible refine vc_scope ?_) | (with_reducible refine opsVC_nil ?_)))
      refine opsVC_mv rfl rfl rfl ?_
      refine opsVC_as rfl rfl rfl ?_
      (repeat (first | (with_reducible refine vc_exit ?_) | (with_reducible refine vc_ret ?_) | (with_reducible refine vc_skip ?_) | (with_reducible refine thenQ_x ?_) | (with_reducible refine thenQ_r ?_) | (with_reducible refine thenQ_n ?_) | (with_reducible refine blockQ_x rfl ?_) | (with_reducible refine blockQ_y rfl ?_) | (with_reducible refine blockQ_n ?_) | (with_reducible refine blockQ_r ?_) | (with_reducible refine vc_seq ?_) | (with_reducible refine vc_region ?_) | (with_reducible refine vc_block ?_) | (with_reducible refine vc_scope ?_) | (with_reducible refine opsVC_nil ?_)))
      refine ⟨id, l - t, c, A, hv, redL_of (kerG_space (by omega)) hker fun i hi j hj => by show A (j + i * 8) = _; rw [Nat.add_comm]; exact hA i hi j hj, fun hne => ?_, by show m.length ≤ M'.length; omega, fun q hq => (hO q (by omega)).trans (hMm q hq)⟩
      obtain ⟨b1, b2, b3⟩ := hB hne
      exact ⟨by omega, b2, b3⟩
end Go.Proofs.Ytcocapkdpbdmdaa

/- Lists of vectors as results, told by the space alone; CentreOf, the program's side and the law. -/
set_option linter.unusedVariables false
set_option linter.unusedSimpArgs false
set_option maxRecDepth 100000
set_option maxHeartbeats 4000000
namespace Go.Proofs.Ytcocapkdpbdmdaa
open M

/-- a list of vectors, the reduced one of S, or an error e; b: an empty list is nil -/
def ListQ (b : Bool) (e : Int) (p : Int) (S : (Nat → Int) → Prop) (r : SV) (m : Mem) : Prop :=
  (e ≠ 0 ∧ r = .tcons .nilsl (.tcons (.int .i64 e) .tnil)) ∨
  (e = 0 ∧ ∃ id k c A, (b = true → k ≠ 0) ∧ r = .tcons (.sl id 0 k c) (.tcons (.int .i64 0) .tnil) ∧ RedL p S k A ∧ k ≤ c ∧ blockOf m id = some (.ints .u8 (k * 8) A, c * 8)) ∨
  (e = 0 ∧ b = true ∧ ∃ A, r = .tcons .nilsl (.tcons (.int .i64 0) .tnil) ∧ RedL p S 0 A)
/-- the same, with that list as the one block -/
def ListR (b : Bool) (e : Int) (p : Int) (S : (Nat → Int) → Prop) (r : SV) (m : Mem) : Prop :=
  (e ≠ 0 ∧ r = .tcons .nilsl (.tcons (.int .i64 e) .tnil) ∧ m = []) ∨
  (e = 0 ∧ ∃ k c A, (b = true → k ≠ 0) ∧ r = .tcons (.sl 0 0 k c) (.tcons (.int .i64 0) .tnil) ∧ RedL p S k A ∧ m = [some (.ints .u8 (k * 8) A, c * 8)]) ∨
  (e = 0 ∧ b = true ∧ ∃ A, r = .tcons .nilsl (.tcons (.int .i64 0) .tnil) ∧ RedL p S 0 A ∧ m = [])
theorem ListQ.one {P : Program} {f : Nat} {args : List SV} {b : Bool} {e p : Int} {S : (Nat → Int) → Prop} (h : Spec P f args [] (ListQ b e p S)) : Spec P f args [] (ListR b e p S) := by
  refine Spec.single h ?_
  rintro r m' (⟨h1, rfl⟩ | ⟨h1, id, k, c, A, h0, rfl, h2, h3, hb⟩ | ⟨h1, h0, A, rfl, h2⟩)
  · exact .inl ⟨.inl ⟨h1, rfl, rfl⟩, rfl⟩
  · exact .inr ⟨id, _, _, hb, rfl, by simp [SV.ids], .inr (.inl ⟨h1, k, c, A, h0, rfl, h2, rfl⟩)⟩
  · exact .inl ⟨.inr (.inr ⟨h1, h0, A, rfl, h2, rfl⟩), rfl⟩
theorem redL_uniq {p : Int} {S : (Nat → Int) → Prop} {k k' : Nat} {A A' : Nat → Int} (hp : 1 < p) (hS : Space p 8 S) (h : RedL p S k A) (h' : RedL p S k' A') : k = k' ∧ ∀ j, j < k * 8 → A j = A' j := by
  obtain ⟨h1, h2, h3⟩ := Red.uniq hp hS h h'
  refine ⟨h1, fun j hj => ?_⟩
  have := h3 (j / 8) (by omega) (j % 8) (by omega)
  unfold partF at this
  rw [show j % 8 + j / 8 * 8 = j by omega] at this
  exact this
/-- lists from a list that may be nil -/
theorem ListQ.of_listV {e p : Int} {S : (Nat → Int) → Prop} {id k c : Nat} {A : Nat → Int} {m : Mem} (h0 : e = 0) (h : RedL p S k A) (hb : k ≠ 0 → blockOf m id = some (.ints .u8 (k * 8) A, c * 8) ∧ k ≤ c) : ListQ true e p S (.tcons (listV id k c) (.tcons (.int .i64 0) .tnil)) m := by
  by_cases hk : k = 0
  · subst hk
    exact .inr (.inr ⟨h0, rfl, A, rfl, h⟩)
  · refine .inr (.inl ⟨h0, id, k, c, A, fun _ => hk, ?_, h, (hb hk).2, (hb hk).1⟩)
    unfold listV; rw [if_neg hk]

/-! ### steps -/
theorem memHd {m : Mem} {a b : SV × Nat} (h0 : blockOf m 0 = some a) (h1 : blockOf m 1 = some b) : ∃ R, m = some a :: some b :: R := by
  match m, h0, h1 with
  | [], h, _ => cases h
  | [x], _, h => cases h
  | x :: y :: R, h0, h1 => exact ⟨R, by rw [show x = some a from h0, show y = some b from h1]⟩
section
variable {P : Program} {T : Tab} {N : Nat} {ops : Array Oper} {o : Oper} {r : List Oper} {s : Slots} {m : Mem} {K : Slots → Mem → Prop} {t b b2 n cap o2 m2 c2 es by_ n1 n2 c d2 l : Nat} {k : IntKind} {f g u : Nat → Int} {cl : Call} {a x : Operand} {v : SV} {Kd : Option Tmp → SV → Slots → Mem → Prop}
/-- what is stored over the whole of a block that has just been made -/
theorem opsVC_putNew (hg : o.guard = none) (ho : o.op = .store t a x) (ha : ev s a = some (.ptr m.length [] 0 0)) (hx : ev s x = some (.ints k l u)) (ht : ((T.ti t).known && ((T.ti t).agg == some l)) = true)
    (hk : ∀ F M', (∀ j, j < l → F j = u j) → Plus m m.length (.ints k l F) c M' → opsVC P T N ops r (sset N s o.dst .undef) M' K) : opsVC P T N ops (o :: r) s (m ++ [some (.ints k l f, c)]) K := by
  refine opsVC_storeR hg ho ha hx ht (blockOf_snoc _ _) (by omega) ?_
  have e := setBlock_pre m [some (SV.ints k l f, c)] 0 (.ints k l (updR f 0 l u))
  rw [Nat.add_zero] at e
  rw [e]
  exact hk _ _ (fun j hj => by unfold updR; rw [if_pos (by omega)]; rfl) (Plus.snoc _ _ _ _)
theorem readsAt_nil {Kr : Slots → Prop} (h : Kr s) : readsAt T N m ops [] s Kr := h
theorem lateAppN {v0 : SV} {oo : Option Oper} (h0 : oo = some o) (ho : o.op = .call cl) (hc : cl.callee = .builtin .append) (hts : cl.argTypes.toList = [t, t]) (hx : evs s cl.args.toList = some [v0, .sl b2 o2 m2 c2]) (hv0 : v0 = .sl b 0 n cap) (ht : T.ti t = .slice es) (hap : T.app t = some by_)
    (hb : blockOf m b = some (.ints k n1 f, c)) (hb2 : blockOf m b2 = some (.ints k n2 g, d2)) (hin : o2 + m2 * es ≤ n2) (hown : T.own ≤ b) (hsz : n * es ≤ n1 ∧ c = cap * es ∧ n ≤ cap ∧ (n + m2) * by_ ≤ 140737488355328 ∧ n + m2 ≤ 4611686018427387904)
    (hk : ∀ cap' F M', n + m2 ≤ cap' → (∀ j, j < n * es → F j = f j) → (∀ j, F (n * es + j) = g (j + o2)) → Plus m b (.ints k ((n + m2) * es) F) (cap' * es) M' → Kd o.dst (.sl m.length 0 (n + m2) cap') s M') : lateAppVC T oo s m Kd := by
  subst h0 hv0
  simp only [lateAppVC, ho, hc, hts, hx, appAny, Nat.beq_refl, appVC, ht, hap, hb2]
  refine ⟨hin, .inr (.inl ?_)⟩
  simp only [appNew, hb]
  exact chk_iff.2 ⟨by
    have e1 : ikEq k k = true := by cases k <;> rfl
    have e2 : Nat.ble T.own b = true := Nat.ble_eq_true_of_le hown
    rw [e1, e2]; rfl, hsz, fun cap' hcap => hk cap' _ _ hcap (fun j hj => if_pos hj) (fun j => by show (if n * es + j < n * es then _ else g (n * es + j - n * es + o2)) = _; rw [if_neg (by omega), show n * es + j - n * es + o2 = j + o2 by omega]) (Plus.forget m _ _ b)⟩
theorem lateAppE {v0 : SV} {oo : Option Oper} (h0 : oo = some o) (ho : o.op = .call cl) (hc : cl.callee = .builtin .append) (hts : cl.argTypes.toList = [t, t]) (hx : evs s cl.args.toList = some [v0, .sl b2 o2 m2 c2]) (hv0 : v0 = .nilsl) (ht : T.ti t = .slice es) (hap : T.app t = some by_)
    (hb2 : blockOf m b2 = some (.ints k n2 g, d2)) (hin : o2 + m2 * es ≤ n2) (hsz : 0 < m2 ∧ m2 * by_ ≤ 140737488355328 ∧ m2 ≤ 4611686018427387904)
    (hk : ∀ cap' F M', m2 ≤ cap' → (∀ j, F j = g (j + o2)) → Plus m m.length (.ints k (m2 * es) F) (cap' * es) M' → Kd o.dst (.sl m.length 0 m2 cap') s M') : lateAppVC T oo s m Kd := by
  subst h0 hv0
  simp only [lateAppVC, ho, hc, hts, hx, appAny, Nat.beq_refl, appVC, ht, hap, hb2]
  exact ⟨hin, .inr (.inr (chk_iff.2 ⟨rfl, hsz, fun cap' hcap => hk cap' _ _ hcap (fun _ => rfl) (Plus.snoc _ _ _ _)⟩))⟩
end

/-! ### CentreOf -/
/-- e(i) e(j) less e(j) e(i), for all j in a row -/
def cimg (p : Int) (T : Nat → Int) (i q : Nat) : Int := addM p (vecT T i (q / 8)) (p - 1) (vecT T (q / 8) i) (q % 8)
theorem less_mod (p a b : Int) : (a + (p - 1) * b) % p = (a + -1 * b) % p := by
  rw [show a + (p - 1) * b = a + -1 * b + p * b by grind, Int.add_mul_emod_self_left]
theorem centre_ker {p n : Nat} {T : Nat → Int} (hn : n ≤ 8) (v : Nat → Int) : KerG p n (n * 8) (fun i q => cimg p T i q) v ↔ CenS p n T n v := by
  have e : ∀ l j, l < n → j < 8 → VecP p n v → apW p (fun i q => cimg p T i q) v (l * 8 + j) = apF p (commF p n T l) v j := fun l j hl hj hv => by
    rw [apF_sum]
    unfold apW
    refine congrArg (· % (p : Int)) (sumN_congr 8 fun i hi => ?_)
    by_cases hin : i < n
    · unfold commF cimg
      rw [show (i * 8 + j) / 8 = i by omega, if_pos hin, show (i * 8 + j) % 8 = j by omega]
      show v i * addM (↑p) (vecT T i ((l * 8 + j) / 8)) (↑p - 1) (vecT T ((l * 8 + j) / 8) i) ((l * 8 + j) % 8) = _
      rw [show (l * 8 + j) / 8 = l by omega, show (l * 8 + j) % 8 = j by omega]
      unfold addM
      rw [less_mod]
    · rw [hv.out i (by omega) hi, Int.zero_mul, Int.zero_mul]
  refine and_congr_right fun hv => ⟨fun h l hl j hj => by rw [← e l j hl hj hv]; exact h _ (by omega), fun h q hq => ?_⟩
  have := e (q / 8) (q % 8) (by omega) (by omega) hv
  rw [show q / 8 * 8 + q % 8 = q by omega] at this
  rw [this]; exact h _ (by omega) _ (by omega)

/-- the memory of the outer loop: the algebra, the slices, and what came behind -/
abbrev cmem (p n : Nat) (U T : Nat → Int) (H : Nat → SV) (R : Mem) : Mem := some (algV p n U T, 522) :: some (.vec n H, n) :: R
def rowV (id k c : Nat) : SV := if k = 0 then .nilsl else .sl id 0 k c
theorem rowV_leaf (id k c : Nat) : (rowV id k c).leaf = true := by unfold rowV; split <;> rfl
theorem rowV_ids {id k c : Nat} {i : Nat} (h : i ∈ (rowV id k c).ids) : k ≠ 0 ∧ i = id := by
  unfold rowV at h
  by_cases e : k = 0
  · rw [if_pos e] at h; cases h
  · rw [if_neg e] at h; simp [SV.ids] at h; exact ⟨e, h⟩
theorem updV_twice {H : Nat → SV} {i j : Nat} {v w : SV} (e : j = i) : updV (updV H i v) j w = updV H i w := by
  subst e; funext k; unfold updV; split <;> rfl
theorem cmem_upd {p n : Nat} {U T : Nat → Int} {H : Nat → SV} {R : Mem} {i : Nat} {v : SV} (h : Clo (cmem p n U T H R)) (hv : ∀ q ∈ v.ids1, q < R.length + 2) : Clo (cmem p n U T (updV H i v) R) := fun id u c hb q hq => by
  match id with
  | 0 => exact h 0 u c hb q hq
  | 1 =>
    cases hb
    obtain ⟨k, hk, hqk⟩ := vec_ids.1 hq
    unfold updV at hqk
    split at hqk
    · exact hv q hqk
    · exact h 1 _ _ rfl q (vec_ids.2 ⟨k, hk, hqk⟩)
  | id + 2 => exact h (id + 2) u c hb q hq
theorem rowV_ids1 {id k c i : Nat} (h : i ∈ (rowV id k c).ids1) : k ≠ 0 ∧ i = id := by
  unfold rowV at h
  by_cases e : k = 0
  · rw [if_pos e] at h; cases h
  · rw [if_neg e] at h; simp [SV.ids1] at h; exact ⟨e, h⟩
structure CO (p n : Nat) (U T : Nat → Int) (x : Nat × (Nat → SV) × (Nat → Nat) × (Nat → Nat) × (Nat → Nat → Int) × Mem) : Prop where
  i : x.1 ≤ n
  nil : ∀ l, x.1 ≤ l → x.2.1 l = .nilsl
  sl : ∀ l, l < x.1 → x.2.1 l = .sl (x.2.2.1 l + 2) 0 (n * 8) (x.2.2.2.1 l)
  row : ∀ l, l < x.1 → blockOf x.2.2.2.2.2 (x.2.2.1 l) = some (.ints .u8 (n * 8) (x.2.2.2.2.1 l), x.2.2.2.1 l * 1)
  val : ∀ l, l < x.1 → ∀ q, q < n * 8 → x.2.2.2.2.1 l q = cimg p T l q
  clo : Clo (cmem p n U T x.2.1 x.2.2.2.2.2)
structure CJ (p n : Nat) (U T : Nat → Int) (H : Nat → SV) (R : Mem) (i : Nat) (y : Nat × (Nat → Int) × Nat × Nat × Mem) : Prop where
  j : y.1 ≤ n
  val : ∀ q, q < y.1 * 8 → y.2.1 q = cimg p T i q
  b : y.1 ≠ 0 → R.length ≤ y.2.2.1 ∧ blockOf y.2.2.2.2 y.2.2.1 = some (.ints .u8 (y.1 * 8) y.2.1, y.2.2.2.1 * 1) ∧ y.1 * 8 ≤ y.2.2.2.1
  old : ∀ q, q < R.length → blockOf y.2.2.2.2 q = blockOf R q
  len : R.length ≤ y.2.2.2.2.length
  clo : Clo (cmem p n U T (updV H i (rowV (y.2.2.1 + 2) (y.1 * 8) y.2.2.2.1)) y.2.2.2.2)
theorem cimg_rng {p : Int} (hp : 1 < p) (T : Nat → Int) (i q : Nat) : 0 ≤ cimg p T i q ∧ cimg p T i q < p := mod_rng (by omega) _
theorem algV_noids (p n : Int) (U T : Nat → Int) : (algV p n U T).ids = [] := by simp [algV, SV.ids]

end Go.Proofs.Ytcocapkdpbdmdaa

/- CentreOf: the law. -/
set_option linter.unusedVariables false
set_option linter.unusedSimpArgs false
set_option maxRecDepth 100000
set_option maxHeartbeats 4000000
namespace Go.Proofs.Ytcocapkdpbdmdaa
open M

end Go.Proofs.Ytcocapkdpbdmdaa

/- Maps laid flat into rows of bytes. -/
set_option linter.unusedVariables false
set_option linter.unusedSimpArgs false
set_option maxRecDepth 100000
set_option maxHeartbeats 4000000
namespace Go.Proofs.Ytcocapkdpbdmdaa
open M

/-- a call by value that yields a slice of a new block -/
theorem callVC_new {P : Program} {f : Nat} {args : List SV} {m : Mem} {K : SV → Mem → Prop} (hids : idsOf args = []) (ha : ∀ ρ, args.map (SV.ren ρ) = args)
    (h : Spec P f args [] fun r m' => ∃ l c x d, r = .sl 0 0 l c ∧ m' = [some (x, d)] ∧ (∀ ρ, x.ren ρ = x) ∧ K (.sl m.length 0 l c) (m ++ [some (x, d)])) : callVC P f args m K := by
  refine callVC_of (ids := []) (by rw [hids]; rfl) ?_
  refine And.intro trivial ?_
  rw [ha]
  refine h.mono ?_
  rintro r m' ⟨l, c, x, d, rfl, rfl, hx, hk⟩
  have hback : backMem (nth [] m.length) m [] [some (x, d)] = m ++ [some (x, d)] := by
    refine mem_ext (by simp [backMem, backGo_length]) fun q hq => ?_
    rw [backMem]
    simp only [backMem, List.length_append, backGo_length, List.length_map, List.length_drop, List.length_cons, List.length_nil] at hq
    by_cases h1 : q < m.length
    · rw [blockOf_append_lt _ _ q (by rw [backGo_length]; exact h1), backGo_get _ _ _ m 0 q h1, Nat.zero_add, blockOf_append_lt _ _ q h1, if_neg (by simp)]
    · obtain rfl : q = m.length := by omega
      have e1 := blockOf_append_ge (backGo (nth [] m.length) [] [some (x, d)] 0 m) [some (x.ren (nth [] m.length), d)] 0
      rw [backGo_length, Nat.add_zero, hx] at e1
      have e2 := blockOf_append_ge m [some (x, d)] 0
      rw [Nat.add_zero] at e2
      rw [e2]
      show blockOf (_ ++ [some (x.ren (nth [] m.length), d)]) m.length = _
      rw [hx, e1]
  rw [hback]
  exact hk

structure FI (F : Nat → Int) (x : Nat × (Nat → Int) × Nat × Nat × SV × Mem) : Prop where
  i : x.1 ≤ 8
  v : x.2.2.2.2.1 = rowV x.2.2.1 (x.1 * 8) x.2.2.2.1
  val : ∀ q, q < x.1 * 8 → x.2.1 q = F q
  b : x.1 ≠ 0 → blockOf x.2.2.2.2.2 x.2.2.1 = some (.ints .u8 (x.1 * 8) x.2.1, x.2.2.2.1 * 1) ∧ x.1 * 8 ≤ x.2.2.2.1
  clo : Clo x.2.2.2.2.2
theorem flatTable0_s (F : Nat → Int) : Spec Try.prog 30 [.ints .u8 64 F] [] (fun r m => ∃ id c G, r = .sl id 0 64 c ∧ 64 ≤ c ∧ (∀ j, j < 64 → G j = F j) ∧ blockOf m id = some (.ints .u8 64 G, c * 1)) := by
  refine (Spec.of_vc tabOK tabEq Try.func30 rfl (by kernel_rfl) rfl rfl ?_)
  (repeat (first | refine And.intro (by omega) ?_ | refine And.intro ⟨by omega, by omega⟩ ?_))
  refine LoopVC.ofR (FI F) (fun x => [(3, x.2.2.2.2.1), (6, .ints .u8 64 F), (7, .int .i64 x.1)]) (fun x => x.2.2.2.2.2) (fun x => 8 - x.1) (0, (fun _ => 0), 0, 0, .nilsl, [])
    ⟨Nat.zero_le _, rfl, fun q hq => ?_, fun h => absurd rfl h, fun id u c hb => ?_⟩ (fun i => i) (RenTo.same ?_ fun i u d hb => ?_) (fun _ _ => Nat.zero_le _) ?_ ?_
  · have hq : q < 0 * 8 := hq
    omega
  · cases hb
  · exact And.intro rfl (And.intro (rowEq fun _ _ => rfl) (And.intro rfl trivial))
  · cases hb
  · intro x hx
    refine OkP.of ?_ hx.clo
    intro q hq i hi
    simp only [List.mem_cons, List.not_mem_nil, or_false] at hq
    rcases hq with rfl | rfl | rfl
    · have hi : i ∈ x.2.2.2.2.1.ids := hi
      rw [hx.v] at hi
      obtain ⟨h1, rfl⟩ := rowV_ids hi
      exact blockOf_lt (by rw [(hx.b (by omega)).1]; rfl)
    · cases hi
    · cases hi
  · rintro ⟨i, G, id, c, v, M⟩ ⟨hi, hv, hG, hB, hC⟩
    dsimp only at hi hv hG hB hC
    refine ifVC_split (fun h1 => ?_) (fun h1 => ?_)
    · have hlt : i < 8 := by have := of_decide_eq_true h1; omega
      have hix : (i : Int).toNat * 8 = i * 8 := by omega
      (repeat (first | refine And.intro (by omega) ?_ | refine And.intro ⟨by omega, by omega⟩ ?_))
      refine opsVC_alloc rfl rfl rfl rfl ?_
      change opsVC _ _ _ _ _ _ (M ++ [some (SV.ints .u8 8 fun _ => 0, 8)]) _
      refine opsVC_putNew rfl rfl rfl rfl rfl fun D M1 hD p1 => ?_
      (repeat (first | (with_reducible refine vc_exit ?_) | (with_reducible refine vc_ret ?_) | (with_reducible refine vc_skip ?_) | (with_reducible refine thenQ_x ?_) | (with_reducible refine thenQ_r ?_) | (with_reducible refine thenQ_n ?_) | (with_reducible refine blockQ_x rfl ?_) | (with_reducible refine blockQ_y rfl ?_) | (with_reducible refine blockQ_n ?_) | (with_reducible refine blockQ_r ?_) | (with_reducible refine vc_seq ?_) | (with_reducible refine vc_region ?_) | (with_reducible refine vc_block ?_) | (with_reducible refine vc_scope ?_) | (with_reducible refine opsVC_nil ?_)))
      have l1 := p1.len
      by_cases hz : i = 0
      · have e6 : v = .nilsl := by rw [hv, hz]; rfl
        subst e6
        refine opsVC_mv rfl rfl rfl ?_
        refine opsVC_slA rfl rfl rfl rfl ?_
        refine opsVC_appE rfl rfl rfl rfl rfl rfl rfl p1.new (by omega) (by omega) fun cap' F' M2 hcap hF p2 => ?_
        refine opsVC_as rfl rfl rfl ?_
        (repeat (first | (with_reducible refine vc_exit ?_) | (with_reducible refine vc_ret ?_) | (with_reducible refine vc_skip ?_) | (with_reducible refine thenQ_x ?_) | (with_reducible refine thenQ_r ?_) | (with_reducible refine thenQ_n ?_) | (with_reducible refine blockQ_x rfl ?_) | (with_reducible refine blockQ_y rfl ?_) | (with_reducible refine blockQ_n ?_) | (with_reducible refine blockQ_r ?_) | (with_reducible refine vc_seq ?_) | (with_reducible refine vc_region ?_) | (with_reducible refine vc_block ?_) | (with_reducible refine vc_scope ?_) | (with_reducible refine opsVC_nil ?_)))
        have l2 := p2.len
        refine Exists.intro (i + 1, F', M1.length, cap', .sl M1.length 0 8 cap', M2) (Exists.intro (fun i => i) (And.intro ⟨hlt, ?_, fun q hq => ?_, fun _ => ⟨?_, ?_⟩, ?_⟩ (And.intro (show 8 - (i + 1) < 8 - i by omega) (RenTo.same ?_ fun i u d hb => ⟨u, hb, eqv_refl u⟩))))
        · show _ = rowV M1.length ((i + 1) * 8) cap'
          rw [hz]; rfl
        · have hq : q < (i + 1) * 8 := hq
          show F' q = F q
          rw [hF, hD _ (by omega)]
          show F (q + 0 + (i : Int).toNat * 8) = F q
          congr 1; omega
        · have := p2.new
          rw [hz]; exact this
        · show (i + 1) * 8 ≤ cap'; omega
        · exact p2.clo (p1.clo hC (by simp [SV.ids])) (by simp [SV.ids])
        · exact And.intro rfl (And.intro (rowEq fun _ _ => rfl) (And.intro (slotI (wrapS (by omega))) trivial))
      · have e6 : v = .sl id 0 (i * 8) c := by rw [hv]; unfold rowV; rw [if_neg (by omega)]
        obtain ⟨b1, b2⟩ := hB hz
        have hidl := blockOf_lt (m := M) (id := id) (by rw [b1]; rfl)
        subst e6
        refine opsVC_mv rfl rfl rfl ?_
        refine opsVC_slA rfl rfl rfl rfl ?_
        refine opsVC_appN rfl rfl rfl rfl rfl rfl rfl ((p1.old id hidl (by omega)).trans b1) p1.new (by omega) (Nat.zero_le _) ⟨by omega, rfl, b2, by omega, by omega⟩ fun cap' F' M2 hcap hF1 hF2 p2 => ?_
        refine opsVC_as rfl rfl rfl ?_
        (repeat (first | (with_reducible refine vc_exit ?_) | (with_reducible refine vc_ret ?_) | (with_reducible refine vc_skip ?_) | (with_reducible refine thenQ_x ?_) | (with_reducible refine thenQ_r ?_) | (with_reducible refine thenQ_n ?_) | (with_reducible refine blockQ_x rfl ?_) | (with_reducible refine blockQ_y rfl ?_) | (with_reducible refine blockQ_n ?_) | (with_reducible refine blockQ_r ?_) | (with_reducible refine vc_seq ?_) | (with_reducible refine vc_region ?_) | (with_reducible refine vc_block ?_) | (with_reducible refine vc_scope ?_) | (with_reducible refine opsVC_nil ?_)))
        have l2 := p2.len
        have e8 : i * 8 + 8 = (i + 1) * 8 := by omega
        refine Exists.intro (i + 1, F', M1.length, cap', .sl M1.length 0 (i * 8 + 8) cap', M2) (Exists.intro (fun i => i) (And.intro ⟨hlt, ?_, fun q hq => ?_, fun _ => ⟨?_, ?_⟩, ?_⟩ (And.intro (show 8 - (i + 1) < 8 - i by omega) (RenTo.same ?_ fun i u d hb => ⟨u, hb, eqv_refl u⟩))))
        · show _ = rowV M1.length ((i + 1) * 8) cap'
          unfold rowV; rw [if_neg (by omega), e8]
        · have hq : q < (i + 1) * 8 := hq
          show F' q = F q
          by_cases e : q < i * 8
          · rw [hF1 q (by omega)]; exact hG q e
          · have := hF2 (q - i * 8)
            rw [show i * 8 * 1 + (q - i * 8) = q by omega, hD _ (by omega)] at this
            rw [this]
            show F (q - i * 8 + 0 + (i : Int).toNat * 8) = F q
            congr 1; omega
        · have := p2.new
          rw [Nat.mul_one, e8] at this
          exact this
        · show (i + 1) * 8 ≤ cap'; omega
        · exact p2.clo (p1.clo hC (by simp [SV.ids])) (by simp [SV.ids])
        · exact And.intro rfl (And.intro (rowEq fun _ _ => rfl) (And.intro (slotI (wrapS (by omega))) trivial))
    · have hge : i = 8 := by have := of_decide_eq_false h1; omega
      subst hge
      obtain ⟨b1, b2⟩ := hB (by omega)
      have e6 : v = .sl id 0 64 c := hv
      subst e6
      exact ⟨id, c, G, rfl, b2, hG, b1⟩
theorem flatTable_s (F : Nat → Int) : Spec Try.prog 30 [.ints .u8 64 F] [] (fun r m => ∃ c G, r = .sl 0 0 64 c ∧ 64 ≤ c ∧ (∀ j, j < 64 → G j = F j) ∧ m = [some (.ints .u8 64 G, c * 1)]) := by
  refine Spec.single (flatTable0_s F) ?_
  rintro r m' ⟨id, c, G, rfl, h1, h2, hb⟩
  exact .inr ⟨id, _, _, hb, rfl, by simp [SV.ids], c, G, rfl, h1, h2, rfl⟩
end Go.Proofs.Ytcocapkdpbdmdaa

/- Spaces that maps span, and their relations: the program's generic type. -/
set_option linter.unusedVariables false
set_option linter.unusedSimpArgs false
set_option maxRecDepth 100000
set_option maxHeartbeats 4000000
namespace Go.Proofs.Ytcocapkdpbdmdaa
open M

/-! ### steps -/
theorem preM_of : ∀ (m m' : Mem), m.length ≤ m'.length → (∀ q, q < m.length → blockOf m' q = blockOf m q) → preM m m'
  | [], _, _, _ => trivial
  | x :: r, [], h, _ => absurd h (Nat.not_succ_le_zero _)
  | x :: r, y :: r', h, hq => ⟨(hq 0 (Nat.zero_lt_succ _)).symm, preM_of r r' (Nat.le_of_succ_le_succ h) fun q hl => hq (q + 1) (Nat.succ_lt_succ hl)⟩
theorem preM_refl (m : Mem) : preM m m := preM_of m m (Nat.le_refl _) fun _ _ => rfl
theorem Plus.preM {m M : Mem} {v : SV} {c : Nat} (h : Plus m m.length v c M) : preM m M := preM_of m M (by have := h.len; omega) fun q hq => h.old q hq (by omega)
section
variable {P : Program} {T : Tab} {N : Nat} {ops : Array Oper} {o : Oper} {r : List Oper} {s : Slots} {m : Mem} {K : Slots → Mem → Prop} {fd base tot ofs t id off n c es by_ n1 n2 b b2 o2 m2 c2 d2 cap p i g : Nat} {path : List Nat} {a x ix : Operand} {v z blk : SV} {offs : List Nat} {k : IntKind} {y : Int} {f u : Nat → Int} {cl : Call} {args : List SV} {ri : List Nat}
theorem opsVC_boxP (hg : o.guard = none) (ho : o.op = .box t x) (hz : ev s x = some z) (hb : z.boxable = true) (hk : ∀ M', Plus m m.length z z.size M' → opsVC P T N ops r (sset N s o.dst (.ptr m.length [] 0 0)) M' K) : opsVC P T N ops (o :: r) s m K :=
  opsVC_box hg ho hz hb (hk _ (Plus.snoc _ _ _ _))
theorem opsVC_fa (hg : o.guard = none) (ho : o.op = .fieldAddr t x fd) (ht : T.ti t = .struct offs tot) (hx : ev s x = some (.ptr id path base 0)) (hf : offs[fd]? = some ofs) (hk : opsVC P T N ops r (sset N s o.dst (.ptr id (path ++ [fd]) (base + ofs) 0)) m K) : opsVC P T N ops (o :: r) s m K := by
  refine opsVC_one hg ?_
  simp only [oneVC, ho, readVC, ht, hx, hf]
  exact hk
/-- what stands in a part of a block -/
theorem opsVC_loadF (hg : o.guard = none) (ho : o.op = .load t a) (ha : ev s a = some (.ptr id path base off)) (hb : blockOf m id = some (blk, c)) (hp : blk.part path = some (z, ofs)) (ht : (Nat.beq ofs base && (T.ti t).known) = true) (hget : ∀ K' : SV → Prop, K' v → getAt (T.ti t).agg z off K')
    (hk : opsVC P T N ops r (sset N s o.dst v) m K) : opsVC P T N ops (o :: r) s m K := by
  refine opsVC_one hg ?_
  simp only [oneVC, ho, readVC, ha, hb, hp]
  exact chk_iff.2 ⟨ht, hget _ hk⟩
theorem opsVC_ia (hg : o.guard = none) (ho : o.op = .indexAddr t x ix) (ht : T.ti t = .slice es) (hx : ev s x = some (.sl id off n c)) (hi : ev s ix = some (.int k y)) (hb : 0 ≤ y ∧ y < n) (hk : opsVC P T N ops r (sset N s o.dst (.ptr id [] 0 (y.toNat * es + off))) m K) : opsVC P T N ops (o :: r) s m K := by
  refine opsVC_one hg ?_
  simp only [oneVC, ho, readVC, ht, hx, hi]
  exact ⟨hb, hk⟩
/-- so many slices that are nil -/
theorem opsVC_mkV (hg : o.guard = none) (ho : o.op = .makeSlice t a x) (ht : T.ti t = .slice es) (hap : T.app t = some by_) (he : T.elem0 t = some .nilsl) (ha : ev s a = some (.int k n)) (hx : ev s x = some (.int k n)) (hsz : by_ * n ≤ 140737488355328 ∧ n ≤ 4611686018427387904)
    (hk : ∀ M', Plus m m.length (.vec n fun _ => .nilsl) n M' → opsVC P T N ops r (sset N s o.dst (.sl m.length 0 n n)) M' K) : opsVC P T N ops (o :: r) s m K := by
  refine opsVC_one hg ?_
  simp only [oneVC, ho, newVC, ht, hap, he, ha, hx, zeros, Int.toNat_natCast]
  exact ⟨⟨by omega, by omega, by omega, by omega⟩, hk _ (Plus.snoc _ _ _ _)⟩
theorem opsVC_lenC (hg : o.guard = none) (ho : o.op = .call cl) (hc : cl.callee = .builtin .len) (ht : cl.argTypes[0]? = some t) (hs : (match T.ti t with | .slice _ => true | _ => false) = true) (hx : evs s cl.args.toList = some [.sl id off n c]) (hk : opsVC P T N ops r (sset N s o.dst (.int .i64 n)) m K) : opsVC P T N ops (o :: r) s m K :=
  opsVC_len hg ho hc ht hs hx hk
theorem readVC_fa {Kv : SV → Prop} (ht : T.ti t = .struct offs tot) (hx : ev s x = some (.ptr id path base 0)) (hf : offs[fd]? = some ofs) (hk : Kv (.ptr id (path ++ [fd]) (base + ofs) 0)) : readVC T (.fieldAddr t x fd) s m Kv := by
  simp only [readVC, ht, hx, hf]
  exact hk
theorem readVC_loadF {Kv : SV → Prop} (ha : ev s a = some (.ptr id path base off)) (hb : blockOf m id = some (blk, c)) (hp : blk.part path = some (z, ofs)) (ht : (Nat.beq ofs base && (T.ti t).known) = true) (hget : ∀ K' : SV → Prop, K' v → getAt (T.ti t).agg z off K') (hk : Kv v) : readVC T (.load t a) s m Kv := by
  simp only [readVC, ha, hb, hp]
  exact chk_iff.2 ⟨ht, hget _ hk⟩
theorem readVC_mv {Kv : SV → Prop} (hx : ev s x = some v) (hk : Kv v) : readVC T (.move x) s m Kv := by
  simp only [readVC, hx]
  exact hk
theorem getAt_leaf {Kv : SV → Prop} {v : SV} (h : v.leaf = true) (hk : Kv v) : getAt none v 0 Kv := by
  cases v <;> first | (cases h; done) | exact hk
theorem readVC_as {Kv : SV → Prop} (hx : ev s x = some v) (hk : Kv v) : readVC T (.assign x) s m Kv := by
  simp only [readVC, hx]
  exact hk
theorem readsAt_step {Kr : Slots → Prop} {oo : Option Oper} (hi : ops[i]? = oo) (h0 : oo = some o) (h : readVC T o.op s m fun v => readsAt T N m ops ri (sset N s o.dst v) Kr) : readsAt T N m ops (i :: ri) s Kr := by
  unfold readsAt
  rw [hi, h0]
  exact h
/-- a region by the general rule: which operations are read first, and which are the others -/
theorem vc_gen {q : Nat} {Q : Ex → Slots → Mem → Prop} (p : Nat) (L R : List Nat) (hB : lateG N ops p = true) (hL : gList ops p = L) (hR : gRest ops p = R)
    (h : readsAt T N m ops L s fun s' => restVC P T N ops p R s' m fun s'' m'' => opsVC P T N ops (ops.toList.drop p) s'' m'' fun s' m' => Q .normal s' m') : vc P T N (.region q ops true) s m Q := by
  have e : ∀ b, b ≤ 20000 → Nat.blt (20000 + p) b = false := fun b hb => by
    cases h : Nat.blt (20000 + p) b with
    | false => rfl
    | true => have := Nat.le_of_ble_eq_true h; omega
  refine ⟨20000 + p, ?_⟩
  rw [e 1000 (by omega)]
  dsimp only
  rw [e 2000 (by omega)]
  dsimp only
  rw [e 3000 (by omega)]
  dsimp only
  rw [e 20000 (by omega)]
  dsimp only
  rw [show 20000 + p - 20000 = p by omega, hL, hR]
  exact ⟨hB, h⟩
theorem restVC_call {oo : Option Oper} (hi : ops[i]? = oo) (h0 : oo = some o) (ho : o.op = .call cl) (hc : cl.callee = .value x) (hx : ev s x = some (.fn g)) (ha : evs s cl.args.toList = some args) (hd : T.direct g = false)
    (hk : callVC P g args m fun r' m' => preM m m' ∧ restVC P T N ops p ri (sset N s o.dst r') m' K) : restVC P T N ops p (i :: ri) s m K := by
  unfold restVC
  rw [hi, h0]
  refine .inl ⟨by rw [ho]; simp [ndOp, hc], ?_⟩
  simp only [oneVC, ho, hc, hx, ha, hd]
  exact hk
/-- operations that wait for one another, one by one -/
theorem restVC_nil (h : K s m) : restVC P T N ops p [] s m K := h
theorem restVC_val {oo : Option Oper} (hi : ops[i]? = oo) (h0 : oo = some o) (ho : o.op = .call cl) (hc : cl.callee = .value x) (hx : ev s x = some (.fn g)) (ha : evs s cl.args.toList = some args) (hd : T.direct g = false)
    (hids : idsOf args = []) (hren : ∀ ρ, args.map (SV.ren ρ) = args) (hv : ∀ ρ, v.ren ρ = v) (h : Spec P g args [] (Ret v)) (hk : restVC P T N ops p ri (sset N s o.dst v) m K) : restVC P T N ops p (i :: ri) s m K := by
  unfold restVC
  rw [hi, h0]
  refine .inl ⟨by rw [ho]; simp [ndOp, hc], ?_⟩
  simp only [oneVC, ho, hc, hx, ha, hd]
  exact callVC_valG hids hren hv h ⟨preM_refl m, hk⟩
theorem restVC_row1 {ps : Array (Nat × Operand)} {oo : Option Oper} (hi : ops[i]? = oo) (h0 : oo = some o) (ho : o.op = .buildSlice t 1 ps) (ht : T.ti t = .slice es) (he : (T.elem0 t).bind elemRow = some (k, es, f)) (hes : (Nat.blt 0 es && Nat.ble (1 * es) 16777216) = true) (hp : evParts s ps.toList = some [(0, .ints k es u)])
    (hk : ∀ G M', (∀ j, j < es → G j = u j) → Plus m m.length (.ints k (1 * es) G) (1 * es) M' → restVC P T N ops p ri (sset N s o.dst (.sl m.length 0 1 1)) M' K) : restVC P T N ops p (i :: ri) s m K := by
  unfold restVC
  rw [hi, h0]
  refine .inl ⟨by rw [ho]; rfl, ?_⟩
  simp only [oneVC, ho, newVC, ht, he, hp, Nat.beq_refl, Bool.true_and]
  refine chk_iff.2 ⟨hes, ?_⟩
  have e1 : ikEq k k = true := by cases k <;> rfl
  have e2 : Nat.ble (0 * es + es) (1 * es) = true := Nat.ble_eq_true_of_le (by omega)
  simp only [fillA, Nat.beq_refl, e1, e2]
  refine chk_iff.2 ⟨rfl, ?_, hk _ _ (fun j hj => by unfold updR; rw [if_pos (by omega)]; congr 1; omega) (Plus.snoc _ _ _ _)⟩
  exact (Plus.snoc m _ _ _).preM
theorem restVC_appN {oo : Option Oper} (hi : ops[i]? = oo) (h0 : oo = some o) (hf : freeB ops p i = true) (ho : o.op = .call cl) (hc : cl.callee = .builtin .append) (hts : cl.argTypes.toList = [t, t]) (hx : evs s cl.args.toList = some [.sl b 0 n cap, .sl b2 o2 m2 c2]) (ht : T.ti t = .slice es) (hap : T.app t = some by_)
    (hb : blockOf m b = some (.ints k n1 f, c)) (hb2 : blockOf m b2 = some (.ints k n2 u, d2)) (hin : o2 + m2 * es ≤ n2) (hown : T.own ≤ b) (hsz : n * es ≤ n1 ∧ c = cap * es ∧ n ≤ cap ∧ (n + m2) * by_ ≤ 140737488355328 ∧ n + m2 ≤ 4611686018427387904)
    (hk : ∀ cap' F M', n + m2 ≤ cap' → (∀ j, j < n * es → F j = f j) → (∀ j, F (n * es + j) = u (j + o2)) → Plus m b (.ints k ((n + m2) * es) F) (cap' * es) M' → restVC P T N ops p ri (sset N s o.dst (.sl m.length 0 (n + m2) cap')) M' K) : restVC P T N ops p (i :: ri) s m K := by
  unfold restVC
  rw [hi, h0]
  refine .inr ⟨hf, ?_⟩
  simp only [oneVC, ho, hc, hts, hx, appAny, Nat.beq_refl, appVC, ht, hap, hb2]
  refine ⟨hin, .inr (.inl ?_)⟩
  simp only [appNew, hb]
  exact chk_iff.2 ⟨by
    have e1 : ikEq k k = true := by cases k <;> rfl
    have e2 : Nat.ble T.own b = true := Nat.ble_eq_true_of_le hown
    rw [e1, e2]; rfl, hsz, fun cap' hcap => hk cap' _ _ hcap (fun j hj => if_pos hj) (fun j => by show (if n * es + j < n * es then _ else u (n * es + j - n * es + o2)) = _; rw [if_neg (by omega), show n * es + j - n * es + o2 = j + o2 by omega]) (Plus.forget m _ _ b)⟩
theorem restVC_appE {oo : Option Oper} (hi : ops[i]? = oo) (h0 : oo = some o) (hf : freeB ops p i = true) (ho : o.op = .call cl) (hc : cl.callee = .builtin .append) (hts : cl.argTypes.toList = [t, t]) (hx : evs s cl.args.toList = some [.nilsl, .sl b2 o2 m2 c2]) (ht : T.ti t = .slice es) (hap : T.app t = some by_)
    (hb2 : blockOf m b2 = some (.ints k n2 u, d2)) (hin : o2 + m2 * es ≤ n2) (hsz : 0 < m2 ∧ m2 * by_ ≤ 140737488355328 ∧ m2 ≤ 4611686018427387904)
    (hk : ∀ cap' F M', m2 ≤ cap' → (∀ j, F j = u (j + o2)) → Plus m m.length (.ints k (m2 * es) F) (cap' * es) M' → restVC P T N ops p ri (sset N s o.dst (.sl m.length 0 m2 cap')) M' K) : restVC P T N ops p (i :: ri) s m K := by
  unfold restVC
  rw [hi, h0]
  refine .inr ⟨hf, ?_⟩
  simp only [oneVC, ho, hc, hts, hx, appAny, Nat.beq_refl, appVC, ht, hap, hb2]
  exact ⟨hin, .inr (.inr (chk_iff.2 ⟨rfl, hsz, fun cap' hcap => hk cap' _ _ hcap (fun _ => rfl) (Plus.snoc _ _ _ _)⟩))⟩
end

/-! ### rows of a space -/
/-- the space as a value: the prime, the slice, and what lays an element flat -/
def spV (p : Int) (v : SV) : SV := .pair (.int .i64 p) (.pair v (.pair (.fn 30) .unit))
structure RI (m : Mem) (n : Nat) (A : Nat → Int) (p : Int) (sid c : Nat) (x : Nat × (Nat → SV) × (Nat → Nat) × (Nat → Nat) × (Nat → Nat → Int) × Mem) : Prop where
  i : x.1 ≤ n
  sp : blockOf x.2.2.2.2.2 m.length = some (spV p (.sl sid 0 n c), 3)
  hdr : blockOf x.2.2.2.2.2 (m.length + 1) = some (.vec n x.2.1, n)
  sl : ∀ l, l < x.1 → x.2.1 l = .sl (x.2.2.1 l) 0 64 (x.2.2.2.1 l)
  nil : ∀ l, x.1 ≤ l → x.2.1 l = .nilsl
  row : ∀ l, l < x.1 → m.length + 1 < x.2.2.1 l ∧ blockOf x.2.2.2.2.2 (x.2.2.1 l) = some (.ints .u8 64 (x.2.2.2.2.1 l), x.2.2.2.1 l * 1) ∧ 64 ≤ x.2.2.2.1 l
  val : ∀ l, l < x.1 → ∀ j, j < 64 → x.2.2.2.2.1 l j = A (l * 64 + j)
  old : ∀ q, q < m.length → blockOf x.2.2.2.2.2 q = blockOf m q
  len : m.length + 2 ≤ x.2.2.2.2.2.length
  clo : Clo x.2.2.2.2.2

end Go.Proofs.Ytcocapkdpbdmdaa

/- Dual algebras and coalgebras and cocommutativity, on both sides, and the laws. -/
set_option linter.unusedVariables false
set_option linter.unusedSimpArgs false
set_option maxRecDepth 100000
set_option maxHeartbeats 1000000
namespace Go.Proofs.Ytcocapkdpbdmdaa
open M

theorem dual_dual {T : Nat → Int} {q : Nat} (hq : q < 512) : dualF (dualF T) q = codF T q := by
  have key : ∀ a b c : Nat, a < 8 → b < 8 → c < 8 → (a * 64 + b * 8 + c) % 8 = c ∧ (a * 64 + b * 8 + c) / 64 = a ∧ (a * 64 + b * 8 + c) / 8 % 8 = b := fun a b c ha hb hc => by omega
  obtain ⟨k1, k2, k3⟩ := key (q % 8) (q / 64) (q / 8 % 8) (by omega) (by omega) (by omega)
  unfold dualF codF
  rw [k1, k2, k3]

/-- a struct, or zeros -/
def orZero (b : Bool) (p n : Int) (U T : Nat → Int) : SV := algV (if b = true then p else 0) (if b = true then n else 0) (fun j => if b = true then U j else 0) (fun q => if b = true then T q else 0)
def orV (b : Bool) (p n : Int) (U T : Nat → Int) : SV := .tcons (orZero b p n U T) (.tcons (.int .i64 (if b = true then 0 else 1)) .tnil)
theorem orZ_no {p n : Int} {U T : Nat → Int} : SV.eqv (algV 0 0 (fun _ => 0) fun _ => 0) (orZero false p n U T) := And.intro rfl (And.intro rfl (And.intro (rowEq fun _ _ => rfl) (And.intro (rowEq fun _ _ => rfl) rfl)))
theorem orV_no {p n : Int} {U T : Nat → Int} : SV.eqv (.tcons (algV 0 0 (fun _ => 0) fun _ => 0) (.tcons (.int .i64 1) .tnil)) (orV false p n U T) := And.intro orZ_no (And.intro rfl rfl)
theorem orV_yes {p n : Int} {U U' T T' : Nat → Int} (hU : ∀ j, j < 8 → U j = U' j) (hT : ∀ q, q < 512 → T q = T' q) : SV.eqv (.tcons (algV p n U T) (.tcons (.int .i64 0) .tnil)) (orV true p n U' T') :=
  And.intro (And.intro rfl (And.intro rfl (And.intro (rowEq hU) (And.intro (rowEq hT) rfl)))) (And.intro rfl rfl)

/-! ### cocommutativity -/
theorem coco_iff {C : Nat → Int} : commB (dualF C) = true ↔ ∀ i j k, i < 8 → j < 8 → k < 8 → vecT C i j k = vecT C i k j := by
  rw [comm_iff]
  constructor
  · intro h i j k hi hj hk
    have := h j k i hj hk hi
    rw [dual_vec C hi hj hk, dual_vec C hi hk hj] at this
    exact this
  · intro h j k i hj hk hi
    rw [dual_vec C hi hj hk, dual_vec C hi hk hj]
    exact h i j k hi hj hk
theorem coco_no {C : Nat → Int} {i j k : Nat} (hi : i < 8) (hj : j < 8) (hk : k < 8) (h : vecT C i j k ≠ vecT C i k j) : commB (dualF C) = false := by
  cases hb : commB (dualF C) with
  | false => rfl
  | true => exact absurd (coco_iff.1 hb i j k hi hj hk) h
theorem coco_yes {C : Nat → Int} (h : ∀ i j k, i < 8 → j < 8 → k < j → vecT C i j k = vecT C i k j) : commB (dualF C) = true := by
  refine coco_iff.2 fun i j k hi hj hk => ?_
  rcases Nat.lt_trichotomy j k with h1 | h1 | h1
  · exact (h i k j hi hk h1).symm
  · rw [h1]
  · exact h i j k hi hj h1
def cocoV (p n : Int) (U C : Nat → Int) : SV := .tcons (.bool (coB p n U C && commB (dualF C))) (.tcons (.int .i64 (if coB p n U C = true then 0 else 1)) .tnil)

end Go.Proofs.Ytcocapkdpbdmdaa

/- Hopf tables: their parts, their form, and sums over pairs, on both sides. -/
set_option linter.unusedVariables false
set_option linter.unusedSimpArgs false
set_option maxRecDepth 100000
set_option maxHeartbeats 1000000
namespace Go.Proofs.Ytcocapkdpbdmdaa
open M

/-- a Hopf table as plain data -/
def hopV (p n : Int) (U T Z C S : Nat → Int) : SV :=
  .pair (.int .i64 p) (.pair (.int .i64 n) (.pair (.ints .u8 8 U) (.pair (.ints .u8 512 T) (.pair (.ints .u8 8 Z) (.pair (.ints .u8 512 C) (.pair (.ints .u8 64 S) .unit))))))
theorem hopE (p n : Int) {U U' T T' Z Z' C C' S S' : Nat → Int} (hU : ∀ j, j < 8 → U j = U' j) (hT : ∀ j, j < 512 → T j = T' j) (hZ : ∀ j, j < 8 → Z j = Z' j) (hC : ∀ j, j < 512 → C j = C' j) (hS : ∀ j, j < 64 → S j = S' j) :
    SV.eqv (hopV p n U T Z C S) (hopV p n U' T' Z' C' S') :=
  And.intro rfl (And.intro rfl (And.intro (rowEq hU) (And.intro (rowEq hT) (And.intro (rowEq hZ) (And.intro (rowEq hC) (And.intro (rowEq hS) rfl))))))
theorem hopR (p n : Int) (U T Z C S : Nat → Int) : SV.eqv (hopV p n U T Z C S) (hopV p n U T Z C S) :=
  hopE p n (fun _ _ => rfl) (fun _ _ => rfl) (fun _ _ => rfl) (fun _ _ => rfl) (fun _ _ => rfl)

/-- the form of a Hopf table -/
def hshB (p n : Int) (U T Z C S : Nat → Int) : Bool := shapeB p n U T && (shapeB p n Z C && linB p n n S)

/-- what holds of shaped Hopf tables -/
structure HV (p : Int) (n : Nat) (U T Z C S : Nat → Int) : Prop where
  a : Valid p n U T
  c : Valid p n Z (dualF C)
  n1 : 1 ≤ n
  hU : isU8 8 U
  hT : isU8 512 T
  hZ : isU8 8 Z
  hC : isU8 512 C
  hS : isU8 64 S
  slt : ∀ i m, i < 8 → m < 8 → S (m + i * 8) < p
  szero : ∀ i m, i < 8 → m < 8 → (n ≤ i ∨ n ≤ m) → S (m + i * 8) = 0

theorem lin_get {p n : Int} {S : Nat → Int} (h : linB p n n S = true) {i m : Nat} (hi : i < 8) (hm : m < 8) : S (m + i * 8) < p ∧ ((n ≤ i ∨ n ≤ m) → S (m + i * 8) = 0) := by
  have := List.all_eq_true.1 h i (List.mem_range.2 hi)
  simp only [imageB, Bool.and_eq_true, Bool.or_eq_true, decide_eq_true_eq] at this
  have e := entries_get this.1 hm
  refine ⟨e.1, fun hz => ?_⟩
  rcases hz with hz | hz
  · rcases this.2 with h' | h'
    · omega
    · exact allEq_get h' hm
  · exact e.2 hz
theorem hsh_valid {p n : Int} {U T Z C S : Nat → Int} (hU : isU8 8 U) (hT : isU8 512 T) (hZ : isU8 8 Z) (hC : isU8 512 C) (hS : isU8 64 S) (h : hshB p n U T Z C S = true) : ∃ k : Nat, n = k ∧ HV p k U T Z C S := by
  unfold hshB at h
  simp only [Bool.and_eq_true] at h
  obtain ⟨h1, h2, h3⟩ := h
  have hfb := field_bounds (shape_field h1)
  obtain ⟨n, rfl⟩ : ∃ k : Nat, n = k := ⟨n.toNat, by have := hfb.2; omega⟩
  refine ⟨n, rfl, valid_of hU hT h1, valid_co hZ hC h2, by have := hfb.2.1; omega, hU, hT, hZ, hC, hS, fun i m hi hm => (lin_get h3 hi hm).1, fun i m hi hm hz => (lin_get h3 hi hm).2 (by omega)⟩

theorem upd0 {f g : Nat → Int} {m q : Nat} (h : q < m) : updR f 0 m g q = g q := by simp [updR, h]

/-! ### the map that leads each vector to itself -/
def idF (n : Nat) : Nat → Int := fun q => if q / 8 < n then unitV (q / 8) (q % 8) else 0
theorem idF_u8 (n m : Nat) : isU8 m (idF n) := fun q _ => by
  unfold idF
  split
  · exact unitV_u8 _ (q % 8 + 1) _ (by omega)
  · omega

/-! ### sums over pairs -/
theorem prodF_sum {p : Int} (T v w : Nat → Int) (m : Nat) : prodF p T v w m = sumN 8 (fun a => w a * leftT p T v (a * 8 + m)) % p := by
  unfold prodF; rw [linS_sum]
theorem prodF_congr {p : Int} {T v v' w w' : Nat → Int} (hv : ∀ i, i < 8 → v i = v' i) (hw : ∀ i, i < 8 → w i = w' i) (m : Nat) : prodF p T v w m = prodF p T v' w' m := by
  rw [prodF_sum, prodF_sum]
  congr 1
  refine sumN_congr 8 fun a ha => ?_
  rw [hw a ha]
  congr 1
  unfold leftT rightF
  rw [linS_congr 8 fun i hi => by rw [hv i hi]]
theorem prodF_none {p : Int} {T v : Nat → Int} (hv : ∀ i, i < 8 → v i = 0) (w : Nat → Int) (m : Nat) : prodF p T v w m = 0 := by
  rw [prodF_sum, sumN_none 8 fun a ha => by
    have : leftT p T v (a * 8 + m) = 0 := by
      unfold leftT rightF
      rw [linS_sum, sumN_none 8 fun i hi => by rw [hv i hi]; simp]
      simp
    rw [this]; simp]
  simp
theorem sumN_unit (g : Nat → Int) (k : Nat) : ∀ n : Nat, sumN n (fun a => unitV k a * g a) = if k < n then g k else 0
  | 0 => by simp [sumN]
  | n + 1 => by
    show sumN n (fun a => unitV k a * g a) + unitV k n * g n = _
    rw [sumN_unit g k n]
    by_cases h1 : k < n
    · rw [if_pos h1, if_pos (by omega), show unitV k n = 0 by unfold unitV; rw [if_neg (by omega)]]; simp
    · rw [if_neg h1]
      by_cases h2 : k = n
      · subst h2; rw [if_pos (by omega), show unitV k k = 1 by unfold unitV; rw [if_pos rfl]]; simp
      · rw [if_neg (by omega), show unitV k n = 0 by unfold unitV; rw [if_neg (fun e => h2 e.symm)]]; simp
theorem prodF_unit {p : Int} (T v : Nat → Int) {k m : Nat} (hk : k < 8) : prodF p T v (unitV k) m = leftT p T v (k * 8 + m) % p := by
  rw [prodF_sum, sumN_unit, if_pos hk]
theorem sumN_modl (p : Int) (g : Nat → Int) (k : Nat) : sumN k (fun i => g i % p) % p = sumN k g % p := by
  have := sumN_mod p (fun _ => 1) g k
  simpa using this
/-- products with sums -/
theorem prodF_lin {p : Int} (T v w : Nat → Int) (m : Nat) : prodF p T v w m = sumN 8 (fun k => w k * prodF p T v (unitV k) m) % p := by
  rw [prodF_sum, ← sumN_mod]
  congr 1
  exact sumN_congr 8 fun k hk => by rw [prodF_unit T v hk]
theorem prodF_apply {p : Int} (T v F w : Nat → Int) (m : Nat) : prodF p T v (fun y => linS F w 8 y % p) m = sumN 8 (fun k => w k * prodF p T v (fun y => F (y + k * 8)) m) % p := by
  rw [prodF_sum]
  have e : sumN 8 (fun a => (linS F w 8 a % p) * leftT p T v (a * 8 + m)) % p = sumN 8 (fun a => linS F w 8 a * leftT p T v (a * 8 + m)) % p := by
    have := sumN_mod p (fun a => leftT p T v (a * 8 + m)) (fun a => linS F w 8 a) 8
    rw [sumN_congr (g := fun a => leftT p T v (a * 8 + m) * (linS F w 8 a % p)) 8 fun a _ => Int.mul_comm _ _, this]
    exact congrArg (· % p) (sumN_congr 8 fun a _ => Int.mul_comm _ _)
  rw [e, sumN_congr (g := fun a => sumN 8 fun k => w k * (F (a + k * 8) * leftT p T v (a * 8 + m))) 8 fun a _ => by
    rw [linS_sum, Int.mul_comm, sumN_mul]
    refine sumN_congr 8 fun k _ => ?_
    rw [show k * 8 + a = a + k * 8 by omega, Int.mul_comm, Int.mul_assoc]]
  have r : sumN 8 (fun k => w k * prodF p T v (fun y => F (y + k * 8)) m) % p = sumN 8 (fun k => w k * sumN 8 fun a => F (a + k * 8) * leftT p T v (a * 8 + m)) % p := by
    rw [← sumN_mod p w fun k => sumN 8 fun a => F (a + k * 8) * leftT p T v (a * 8 + m)]
    exact congrArg (· % p) (sumN_congr 8 fun k _ => by rw [prodF_sum])
  rw [r, sumN_swap]
  exact congrArg (· % p) (sumN_congr 8 fun k _ => (sumN_mul _ _ _).symm)
end Go.Proofs.Ytcocapkdpbdmdaa

/- What is orthogonal to the rows of a reduced list: a vector for each place that leads no row spans it. -/
set_option linter.unusedVariables false
set_option linter.unusedSimpArgs false
set_option linter.unusedSectionVars false
set_option maxRecDepth 100000
set_option maxHeartbeats 1000000
namespace Go.Proofs.Ytcocapkdpbdmdaa
open M

/-- vectors that every one of m rows sends to 0 -/
def OrthS (p n m : Nat) (f : Nat → Nat → Int) (x : Nat → Int) : Prop := VecP p n x ∧ ∀ i, i < m → sumN 8 (fun j => f i j * x j) % p = 0
/-- the model's vector for the place q -/
def nulV (p : Int) (a : Nat → Nat → Int) (P : Nat → Nat) (q : Nat) : Nat → Nat → Int
  | 0 => unitV q
  | t + 1 => fun j => if j = P t then -(a t q) % p else nulV p a P q t j

theorem sumN_swapmul (x y : Nat → Int) (k : Nat) : sumN k (fun j => x j * y j) = sumN k (fun j => y j * x j) := sumN_congr k fun j _ => Int.mul_comm _ _
theorem orth_add {p : Nat} {f x y : Nat → Int} (c : Int) (hx : sumN 8 (fun j => f j * x j) % p = 0) (hy : sumN 8 (fun j => f j * y j) % p = 0) : sumN 8 (fun j => f j * ((x j + c * y j) % p)) % p = 0 := by
  rw [sumN_swapmul, sumN_lin, sumN_swapmul x, sumN_swapmul y, Int.add_emod, Int.mul_emod, hx, hy]
  simp
theorem orth_space {p n m : Nat} {f : Nat → Nat → Int} (hp : 1 < p) : Space p 8 (OrthS p n m f) := by
  refine ⟨fun v h => h.1.rng, fun v u h e => ⟨⟨fun j hj => by rw [e j hj]; exact h.1.rng j hj, fun j h1 h2 => by rw [e j h2]; exact h.1.out j h1 h2⟩, fun i hi => ?_⟩, fun v h => ⟨⟨fun j hj => by rw [h j hj]; omega, fun j _ hj => h j hj⟩, fun i hi => ?_⟩, fun v u hv hu c => ⟨hv.1.add (by omega) hu.1 c, fun i hi => orth_add c (hv.2 i hi) (hu.2 i hi)⟩⟩
  · rw [sumN_congr 8 (g := fun j => f i j * v j) fun j hj => by rw [e j hj]]
    exact h.2 i hi
  · rw [sumN_none 8 fun j hj => by rw [h j hj, Int.mul_zero], Int.zero_emod]
theorem orth_of_sp {p m : Nat} {f : Nat → Nat → Int} {v x : Nat → Int} (hv : Sp p 8 m f v) (hx : ∀ i, i < m → sumN 8 (fun j => f i j * x j) % p = 0) : sumN 8 (fun j => v j * x j) % p = 0 := by
  induction hv with
  | zero v h => rw [sumN_none 8 fun j hj => by rw [h j hj, Int.zero_mul], Int.zero_emod]
  | add v u c i hi h hu ih =>
    rw [sumN_congr 8 (g := fun j => (v j + c * f i j) % p * x j) fun j hj => by rw [hu j hj], sumN_lin, Int.add_emod, ih, Int.mul_emod, hx i hi]
    simp
/-- rows that reach the same vectors have the same orthogonal ones -/
theorem orth_iff {p n m k : Nat} {f a : Nat → Nat → Int} (h1 : ∀ i, i < m → Sp p 8 k a (f i)) (h2 : ∀ i, i < k → Sp p 8 m f (a i)) (x : Nat → Int) : OrthS p n m f x ↔ OrthS p n k a x :=
  ⟨fun h => ⟨h.1, fun i hi => orth_of_sp (h2 i hi) h.2⟩, fun h => ⟨h.1, fun i hi => orth_of_sp (h1 i hi) h.2⟩⟩

section
variable {p n k : Nat} {S : (Nat → Int) → Prop} {a : Nat → Nat → Int} {P : Nat → Nat} (hp : 1 < p) (hn : n ≤ 8) (h : Red p 8 S k a P) (hS : ∀ i, i < k → VecP p n (a i))
include hp hn h hS
theorem nul_off {q : Nat} : ∀ t, t ≤ k → ∀ j, (∀ i, i < t → P i ≠ j) → nulV p a P q t j = unitV q j
  | 0, _, _, _ => rfl
  | t + 1, ht, j, hj => by
    show (if j = P t then _ else nulV p a P q t j) = _
    rw [if_neg fun e => hj t (by omega) e.symm]
    exact nul_off t (by omega) j fun i hi => hj i (by omega)
theorem nul_dot {q : Nat} (hq : q < n) (hne : ∀ i, i < k → P i ≠ q) {i : Nat} (hi : i < k) : ∀ t, t ≤ k → sumN 8 (fun j => a i j * nulV p a P q t j) % p = (if i < t then 0 else a i q) % p
  | 0, _ => by
    rw [if_neg (by omega), sumN_swapmul]
    show sumN 8 (fun j => unitV q j * a i j) % p = _
    rw [sumN_unit, if_pos (by omega)]
  | t + 1, ht => by
    have ih := nul_dot hq hne hi t (by omega)
    have hlt := h.lt t (by omega)
    have h0 : nulV p a P q t (P t) = 0 := by
      rw [nul_off hp hn h hS t (by omega) (P t) fun l hl e => by have := h.inc l t hl (by omega); omega]
      unfold unitV
      rw [if_neg (hne t (by omega))]
    rw [sumN_pick (fun j => a i j * nulV p a P q t j) 8 hlt, h0, Int.mul_zero, Int.zero_add] at ih
    rw [sumN_pick (fun j => a i j * nulV p a P q (t + 1) j) 8 hlt, sumN_congr 8 (g := fun l => if l = P t then 0 else a i l * nulV p a P q t l) fun l hl => by
      show (if l = P t then 0 else a i l * (if l = P t then _ else nulV p a P q t l)) = _
      split <;> rfl]
    show (a i (P t) * (if P t = P t then -(a t q) % p else _) + _) % (p : Int) = _
    rw [if_pos rfl, Int.add_emod, ih]
    by_cases e : i = t
    · subst e
      rw [h.one i hi, if_neg (Nat.lt_irrefl i), if_pos (Nat.lt_succ_self i), Int.one_mul, Int.emod_emod, ← Int.add_emod, Int.add_left_neg]
    · rw [h.oth i t hi (by omega) e, Int.zero_mul, Int.zero_emod, Int.zero_add, Int.emod_emod]
      congr 1
      by_cases g : i < t
      · rw [if_pos g, if_pos (by omega)]
      · rw [if_neg g, if_neg (by omega)]
theorem nul_vec {q : Nat} (hq : q < n) : ∀ t, t ≤ k → VecP p n (nulV p a P q t)
  | 0, _ => VecP.unit (by omega) hq
  | t + 1, ht => by
    have ih := nul_vec hq t (by omega)
    have hl : P t < n := by
      rcases Nat.lt_or_ge (P t) n with g | g
      · exact g
      have h1 := h.one t (by omega)
      rw [(hS t (by omega)).out (P t) g (h.lt t (by omega))] at h1
      omega
    refine ⟨fun j hj => ?_, fun j h1 h2 => ?_⟩
    · show 0 ≤ (if j = P t then _ else nulV p a P q t j) ∧ (if j = P t then _ else nulV p a P q t j) < _
      split
      · exact mod_rng (by omega) _
      · exact ih.rng j hj
    · show (if j = P t then _ else nulV p a P q t j) = _
      rw [if_neg (by omega)]
      exact ih.out j h1 h2
theorem nul_in {q : Nat} (hq : q < n) (hne : ∀ i, i < k → P i ≠ q) : OrthS p n k a (nulV p a P q k) :=
  ⟨nul_vec hp hn h hS hq k (Nat.le_refl k), fun i hi => by rw [nul_dot hp hn h hS hq hne hi k (Nat.le_refl k), if_pos hi, Int.zero_emod]⟩
theorem orth_zero {w : Nat → Int} (hw : OrthS p n k a w) (h0 : ∀ q, q < n → (∀ i, i < k → P i ≠ q) → w q = 0) : ∀ j, j < 8 → w j = 0 := by
  intro j hj
  by_cases g : ∃ i, i < k ∧ P i = j
  · obtain ⟨i, hi, rfl⟩ := g
    have hd := hw.2 i hi
    rw [sumN_pick (fun j => a i j * w j) 8 hj, h.one i hi, Int.one_mul, sumN_none 8 fun l hl => by
      by_cases e : l = P i
      · rw [if_pos e]
      rw [if_neg e]
      by_cases g : ∃ t, t < k ∧ P t = l
      · obtain ⟨t, ht, rfl⟩ := g
        rw [h.oth i t hi ht fun e' => e (by rw [e']), Int.zero_mul]
      · rcases Nat.lt_or_ge l n with hl' | hl'
        · rw [h0 l hl' fun t ht e => g ⟨t, ht, e⟩, Int.mul_zero]
        · rw [hw.1.out l hl' hl, Int.mul_zero], Int.add_zero, mod_id (hw.1.rng _ hj)] at hd
    exact hd
  · rcases Nat.lt_or_ge j n with hl' | hl'
    · exact h0 j hl' fun t ht e => g ⟨t, ht, e⟩
    · exact hw.1.out j hl' hj
theorem orth_all {R : (Nat → Int) → Prop} (hR : Space p 8 R) (hin : ∀ q, q < n → (∀ i, i < k → P i ≠ q) → R (nulV p a P q k)) : ∀ d t, d + t = n → ∀ w, OrthS p n k a w → (∀ q, q < t → (∀ i, i < k → P i ≠ q) → w q = 0) → R w
  | 0, t, e, w, hw, h0 => hR.zero w (orth_zero hp hn h hS hw fun q hq => h0 q (by omega))
  | d + 1, t, e, w, hw, h0 => by
    by_cases g : ∃ i, i < k ∧ P i = t
    · obtain ⟨i, hi, rfl⟩ := g
      refine orth_all hR hin d (P i + 1) (by omega) w hw fun q hq hne => ?_
      rcases Nat.lt_or_ge q (P i) with g | g
      · exact h0 q g hne
      · exact absurd (show P i = q by omega) (hne i hi)
    have hne : ∀ i, i < k → P i ≠ t := fun i hi e => g ⟨i, hi, e⟩
    have hv := nul_in hp hn h hS (q := t) (by omega) hne
    have hw' := (orth_space (n := n) (m := k) (f := a) hp).addc w _ hw hv (-(w t))
    have hz := orth_all hR hin d (t + 1) (by omega) _ hw' fun q hq hq2 => by
      show (w q + -(w t) * nulV p a P t k q) % (p : Int) = 0
      rw [nul_off hp hn h hS k (Nat.le_refl k) q hq2]
      unfold unitV
      by_cases e : q = t
      · rw [if_pos e, e, Int.mul_one, Int.add_right_neg, Int.zero_emod]
      · rw [if_neg e, Int.mul_zero, Int.add_zero, h0 q (by omega) hq2, Int.zero_emod]
    refine hR.ext _ _ (hR.addc _ _ hz (hin t (by omega) hne) (w t)) fun j hj => ?_
    show w j = ((w j + -(w t) * nulV p a P t k j) % (p : Int) + w t * nulV p a P t k j) % p
    rw [mod_l, show w j + -(w t) * nulV p a P t k j + w t * nulV p a P t k j = w j by grind, mod_id (hw.1.rng j hj)]
/-- what the vectors of the places that lead no row reach is what is orthogonal to all rows -/
theorem orth_is {m : Nat} {f : Nat → Nat → Int} (hf : ∀ i, i < m → ∃ q, q < n ∧ (∀ l, l < k → P l ≠ q) ∧ ∀ j, j < 8 → f i j = nulV p a P q k j) (hc : ∀ q, q < n → (∀ l, l < k → P l ≠ q) → ∃ i, i < m ∧ ∀ j, j < 8 → f i j = nulV p a P q k j) (x : Nat → Int) : Sp p 8 m f x ↔ OrthS p n k a x := by
  refine ⟨fun hx => hx.in (orth_space hp) fun i hi => ?_, fun hx => orth_all hp hn h hS (Sp.space (by omega)) (fun q hq hne => ?_) n 0 (by omega) x hx fun q hq => by omega⟩
  · obtain ⟨q, hq, hne, e⟩ := hf i hi
    exact (orth_space hp).ext _ _ (nul_in hp hn h hS hq hne) e
  · obtain ⟨i, hi, e⟩ := hc q hq hne
    have hr := (nul_vec hp hn h hS hq k (Nat.le_refl k)).rng
    exact (Sp.row hi fun j hj => by rw [e j hj]; exact hr j hj).ext fun j hj => (e j hj).symm
end
end Go.Proofs.Ytcocapkdpbdmdaa

/- The model's list of what is orthogonal to rows. -/
set_option linter.unusedVariables false
set_option linter.unusedSimpArgs false
set_option maxRecDepth 100000
set_option maxHeartbeats 4000000
namespace Go.Proofs.Ytcocapkdpbdmdaa
open M

def leadB (A : Nat → Int) : Nat → Nat → Bool
  | 0, _ => false
  | t + 1, q => if q = first8 (partF A 8 t) then true else leadB A t q
theorem leadB_iff (A : Nat → Int) (q : Nat) : ∀ t, leadB A t q = true ↔ ∃ i, i < t ∧ first8 (partF A 8 i) = q
  | 0 => ⟨fun h => (by cases h), fun ⟨i, hi, _⟩ => absurd hi (Nat.not_lt_zero i)⟩
  | t + 1 => by
    unfold leadB
    by_cases e : q = first8 (partF A 8 t)
    · rw [if_pos e]
      exact ⟨fun _ => ⟨t, Nat.lt_succ_self t, e.symm⟩, fun _ => rfl⟩
    · rw [if_neg e, leadB_iff A q t]
      refine ⟨fun ⟨i, hi, h⟩ => ⟨i, by omega, h⟩, fun ⟨i, hi, h⟩ => ⟨i, ?_, h⟩⟩
      rcases Nat.lt_or_ge i t with g | g
      · exact g
      · rw [show i = t by omega] at h; exact absurd h.symm e
/-- the list so far: a vector for each place under q that leads no row -/
structure NulL (p k : Nat) (A : Nat → Int) (q r : Nat) (F : Nat → Int) : Prop where
  le : r ≤ q
  is : ∀ i, i < r → ∃ l, l < q ∧ leadB A k l = false ∧ ∀ j, j < 8 → partF F 8 i j = nulV p (partF A 8) (fun i => first8 (partF A 8 i)) l k j
  has : ∀ l, l < q → leadB A k l = false → ∃ i, i < r ∧ ∀ j, j < 8 → partF F 8 i j = nulV p (partF A 8) (fun i => first8 (partF A 8 i)) l k j
theorem nulL_skip {p k q r : Nat} {A F : Nat → Int} (h : NulL p k A q r F) (hq : leadB A k q = true) : NulL p k A (q + 1) r F :=
  ⟨by have := h.le; omega, fun i hi => by obtain ⟨l, h1, h2, h3⟩ := h.is i hi; exact ⟨l, by omega, h2, h3⟩, fun l hl hb => by
    rcases Nat.lt_or_ge l q with g | g
    · exact h.has l g hb
    · rw [show l = q by omega, hq] at hb; cases hb⟩
theorem nulL_add {p k q r : Nat} {A F G : Nat → Int} (h : NulL p k A q r F) (hq : leadB A k q = false) (h1 : ∀ j, j < r * 8 → G j = F j) (h2 : ∀ j, j < 8 → G (r * 8 + j) = nulV p (partF A 8) (fun i => first8 (partF A 8 i)) q k j) : NulL p k A (q + 1) (r + 1) G :=
  have e1 : ∀ i, i < r → ∀ j, j < 8 → partF G 8 i j = partF F 8 i j := fun i hi j hj => h1 _ (by omega)
  have e2 : ∀ j, j < 8 → partF G 8 r j = G (r * 8 + j) := fun j hj => by unfold partF; rw [Nat.add_comm]
  ⟨by have := h.le; omega, fun i hi => by
    rcases Nat.lt_or_ge i r with g | g
    · obtain ⟨l, a1, a2, a3⟩ := h.is i g; exact ⟨l, by omega, a2, fun j hj => by rw [e1 i g j hj, a3 j hj]⟩
    · obtain rfl : i = r := by omega
      exact ⟨q, by omega, hq, fun j hj => by rw [e2 j hj, h2 j hj]⟩, fun l hl hb => by
    rcases Nat.lt_or_ge l q with g | g
    · obtain ⟨i, a1, a2⟩ := h.has l g hb; exact ⟨i, by omega, fun j hj => by rw [e1 i a1 j hj, a2 j hj]⟩
    · obtain rfl : l = q := by omega
      exact ⟨r, by omega, fun j hj => by rw [e2 j hj, h2 j hj]⟩⟩
theorem vecs_of {p n len k : Nat} {V A : Nat → Int} (hp : 1 < p) (hV : ∀ i, i < len → VecP p n (partF V 8 i)) (hR : RedL p (Sp p 8 len (partF V 8)) k A) : ∀ i, i < k → VecP p n (partF A 8 i) := fun i hi =>
  (hR.mem i hi).in ⟨fun v hv => hv.rng, fun v u hv e => ⟨fun j hj => by rw [e j hj]; exact hv.rng j hj, fun j a b => by rw [e j b]; exact hv.out j a b⟩, fun v hv => ⟨fun j hj => by rw [hv j hj]; omega, fun j _ hj => hv j hj⟩, fun v u hv hu c => hv.add (by omega) hu c⟩ hV
/-- the list is what is orthogonal to the rows -/
theorem nulL_orth {p n len k r : Nat} {V A F : Nat → Int} (hp : 1 < p) (hn : n ≤ 8) (hV : ∀ i, i < len → VecP p n (partF V 8 i)) (hR : RedL p (Sp p 8 len (partF V 8)) k A) (h : NulL p k A n r F) (x : Nat → Int) :
    Sp p 8 r (partF F 8) x ↔ OrthS p n len (partF V 8) x := by
  have hS : Space p 8 (Sp p 8 len (partF V 8)) := Sp.space (by omega)
  have hA : ∀ i, i < k → VecP p n (partF A 8 i) := fun i hi => by
    refine (hR.mem i hi).in ⟨fun v hv => hv.rng, fun v u hv e => ⟨fun j hj => by rw [e j hj]; exact hv.rng j hj, fun j a b => by rw [e j b]; exact hv.out j a b⟩, fun v hv => ⟨fun j hj => by rw [hv j hj]; omega, fun j _ hj => hv j hj⟩, fun v u hv hu c => hv.add (by omega) hu c⟩ hV
  have hl : ∀ q, (∀ l, l < k → first8 (partF A 8 l) ≠ q) ↔ leadB A k q = false := fun q => by
    cases hb : leadB A k q with
    | true =>
      obtain ⟨i, hi, e⟩ := (leadB_iff A q k).1 hb
      exact ⟨fun h => absurd e (h i hi), fun h => by cases h⟩
    | false => exact ⟨fun _ => rfl, fun _ l hl e => by rw [(leadB_iff A q k).2 ⟨l, hl, e⟩] at hb; cases hb⟩
  rw [orth_iff (n := n) (fun i hi => red_span (by omega) hS hR (Sp.row hi (hV i hi).rng)) hR.mem]
  refine orth_is hp hn hR hA (fun i hi => ?_) (fun q hq hne => ?_) x
  · obtain ⟨l, a1, a2, a3⟩ := h.is i hi
    exact ⟨l, a1, (hl l).2 a2, a3⟩
  · exact h.has q hq ((hl q).1 hne)

theorem l02Null_s (p n len cap : Nat) (V : Nat → Int) (hp : primeB (p : Int) = true) (hp2 : 2 ≤ p ∧ p ≤ 31) (hn : n ≤ 8) (hlen : len ≤ 1000) (hV : ∀ i, i < len → VecP p n (partF V 8 i)) :
    Spec Try.prog 51 [.int .i64 p, .int .i64 n, .sl 0 0 len cap] [some (.ints .u8 (len * 8) V, cap * 8)] (fun r m => ∃ id k c A, RedL p (OrthS p n len (partF V 8)) k A ∧ k ≤ c ∧ r = .sl id 0 k c ∧ blockOf m id = some (.ints .u8 (k * 8) A, c * 8)) := by
  have hrng : rngR p len V := fun q hq => by
    have := (hV (q / 8) (by omega)).rng (q % 8) (by omega)
    unfold partF at this
    rwa [show q % 8 + q / 8 * 8 = q by omega] at this
  refine (Spec.of_vc tabOK tabEq Try.func51 rfl (by kernel_rfl) rfl rfl ?_)
  refine And.intro (And.intro rfl trivial) (Spec.mono (l01Reduce_s p len cap V hp hp2 hlen hrng) ?_)
  rintro r m ⟨k, c, A, hR, hkc, rfl, rfl⟩
  have hk := red_k hR
  have hp8 := hR.lt
  (repeat (first | refine And.intro (by omega) ?_ | refine And.intro ⟨by omega, by omega⟩ ?_))
  refine LoopVC.of (fun i : Nat => i ≤ k) (fun i => [(0, .int .i64 p), (1, .int .i64 n), (7, .sl 1 0 k c), (8, .sl 2 0 0 0), (9, .ptr 3 [] 0 0), (10, .int .i64 i)])
    (fun i => [some (.ints .u8 (len * 8) V, cap * 8), some (.ints .u8 (k * 8) A, c * 8), some (.ints .u8 (0 * 8) (fun _ => 0), 0 * 8), some (.vec 8 fun q => .bool (leadB A i q), 8)]) (fun i => k - i) 0 (Nat.zero_le _) ?_ ?_ ?_
  · exact (And.intro rfl (And.intro rfl (And.intro rfl (And.intro rfl (And.intro rfl (And.intro rfl (trivial)))))))
  · refine And.intro (And.intro (rowEq fun _ _ => rfl) rfl) (And.intro (And.intro (rowEq fun _ _ => rfl) rfl) (And.intro (And.intro ⟨⟨rfl, rfl⟩, fun j hj => by omega⟩ rfl) (And.intro (And.intro ⟨rfl, fun q hq => rfl⟩ rfl) trivial)))
  · intro i hi
    refine ifVC_split (fun hh => ?_) (fun hh => ?_)
    · have hik : i < k := by have := of_decide_eq_true hh; omega
      (repeat (first | refine And.intro (by omega) ?_ | refine And.intro ⟨by omega, by omega⟩ ?_))
      refine And.intro trivial (Spec.mono (l01First_s _) ?_)
      rintro _ _ ⟨rfl, rfl⟩
      have hat : first8 (fun j => A (j + ((i : Int).toNat * 8 + 0))) = first8 (partF A 8 i) := by rw [show (i : Int).toNat * 8 + 0 = i * 8 by omega]; rfl
      rw [hat]
      have hL : ∀ q, leadB A (i + 1) q = if q = first8 (partF A 8 i) then true else leadB A i q := fun q => rfl
      have h8 := hp8 i hik
      generalize first8 (partF A 8 i) = a0 at *
      (repeat (first | refine And.intro (by omega) ?_ | refine And.intro ⟨by omega, by omega⟩ ?_))
      refine Exists.intro (i + 1) (And.intro hik (And.intro (by omega) (And.intro (And.intro rfl (And.intro rfl (And.intro rfl (And.intro rfl (And.intro rfl (And.intro (slotI (wrapS (by omega))) trivial)))))) ?_)))
      refine And.intro (And.intro (rowEq fun _ _ => rfl) rfl) (And.intro (And.intro (rowEq fun _ _ => rfl) rfl) (And.intro (And.intro (rowEq fun _ _ => rfl) rfl) (And.intro (And.intro ⟨rfl, fun q hq => ?_⟩ rfl) trivial)))
      show updV _ _ _ q = .bool (leadB A (i + 1) q)
      rw [hL]
      unfold updV
      by_cases e : q = a0
      · rw [if_pos (by omega), if_pos e]
      · rw [if_neg (by omega), if_neg e]
    · have hik : i = k := by have := of_decide_eq_false hh; omega
      subst hik
      refine LoopVC.of (fun x : Nat × Nat × Nat × (Nat → Int) => x.1 ≤ n ∧ x.2.1 ≤ x.2.2.1 ∧ NulL p i A x.1 x.2.1 x.2.2.2) (fun x => [(0, .int .i64 p), (1, .int .i64 n), (7, .sl 1 0 i c), (8, .sl 2 0 x.2.1 x.2.2.1), (9, .ptr 3 [] 0 0), (11, .int .i64 x.1)])
        (fun x => [some (.ints .u8 (len * 8) V, cap * 8), some (.ints .u8 (i * 8) A, c * 8), some (.ints .u8 (x.2.1 * 8) x.2.2.2, x.2.2.1 * 8), some (.vec 8 fun q => .bool (leadB A i q), 8)]) (fun x => n - x.1) (0, 0, 0, fun _ => 0) ⟨Nat.zero_le _, Nat.le_refl _, Nat.le_refl _, fun i hi => absurd hi (Nat.not_lt_zero i), fun l hl => absurd hl (Nat.not_lt_zero l)⟩ ?_ ?_ ?_
      · exact (And.intro rfl (And.intro rfl (And.intro rfl (And.intro rfl (And.intro rfl (And.intro rfl (trivial)))))))
      · refine And.intro (And.intro (rowEq fun _ _ => rfl) rfl) (And.intro (And.intro (rowEq fun _ _ => rfl) rfl) (And.intro (And.intro (rowEq fun _ _ => rfl) rfl) (And.intro (And.intro ⟨rfl, fun q hq => rfl⟩ rfl) trivial)))
      rintro ⟨q, r, c', F⟩ ⟨hq, hr, hF⟩
      dsimp only at hq hr hF
      have hle := hF.le
      refine ifVC_split (fun hh => ?_) (fun hh => ?_)
      · have hqn : q < n := by have := of_decide_eq_true hh; omega
        have hidx : (q : Int).toNat = q := by omega
        (repeat (first | refine And.intro (by omega) ?_ | refine And.intro ⟨by omega, by omega⟩ ?_))
        refine And.intro rfl ?_
        refine ifVC_split (fun hb => ?_) (fun hb => ?_)
        · have hb : leadB A i ((q : Int).toNat * 1 + 0) = true := hb
          rw [show (q : Int).toNat * 1 + 0 = q by omega] at hb
          refine Exists.intro (q + 1, r, c', F) (And.intro ⟨hqn, hr, nulL_skip hF hb⟩ (And.intro (show n - (q + 1) < n - q by omega) (And.intro (And.intro rfl (And.intro rfl (And.intro rfl (And.intro rfl (And.intro rfl (And.intro (slotI (wrapS (by omega))) trivial)))))) ?_)))
          refine And.intro (And.intro (rowEq fun _ _ => rfl) rfl) (And.intro (And.intro (rowEq fun _ _ => rfl) rfl) (And.intro (And.intro (rowEq fun _ _ => rfl) rfl) (And.intro (And.intro ⟨rfl, fun q hq => rfl⟩ rfl) trivial)))
        · have hb : leadB A i ((q : Int).toNat * 1 + 0) = false := hb
          rw [show (q : Int).toNat * 1 + 0 = q by omega] at hb
          refine And.intro trivial (Spec.mono (l01Basis_s q (by omega)) ?_)
          rintro _ _ ⟨rfl, rfl⟩
          rw [hidx]
          have hNV : ∀ t, nulV p (partF A 8) (fun i => first8 (partF A 8 i)) q (t + 1) = fun j => if j = first8 (partF A 8 t) then -(partF A 8 t q) % p else nulV p (partF A 8) (fun i => first8 (partF A 8 i)) q t j := fun t => rfl
          have hN0 : nulV p (partF A 8) (fun i => first8 (partF A 8 i)) q 0 = unitV q := rfl
          have hadd := fun G => nulL_add (G := G) hF hb
          generalize nulV p (partF A 8) (fun i => first8 (partF A 8 i)) q = N at *
          (repeat (first | refine And.intro (by omega) ?_ | refine And.intro ⟨by omega, by omega⟩ ?_))
          refine LoopVC.of (fun t : Nat => t ≤ i) (fun t => [(0, .int .i64 p), (1, .int .i64 n), (7, .sl 1 0 i c), (8, .sl 2 0 r c'), (9, .ptr 3 [] 0 0), (11, .int .i64 q), (12, .ptr 4 [] 0 0), (13, .int .i64 t)])
            (fun t => [some (.ints .u8 (len * 8) V, cap * 8), some (.ints .u8 (i * 8) A, c * 8), some (.ints .u8 (r * 8) F, c' * 8), some (.vec 8 fun q => .bool (leadB A i q), 8), some (.ints .u8 8 (N t), 8)]) (fun t => i - t) 0 (Nat.zero_le _) ?_ ?_ ?_
          · exact (And.intro rfl (And.intro rfl (And.intro rfl (And.intro rfl (And.intro rfl (And.intro rfl (And.intro rfl (And.intro rfl (trivial)))))))))
          · refine And.intro (And.intro (rowEq fun _ _ => rfl) rfl) (And.intro (And.intro (rowEq fun _ _ => rfl) rfl) (And.intro (And.intro (rowEq fun _ _ => rfl) rfl) (And.intro (And.intro ⟨rfl, fun q hq => rfl⟩ rfl) (And.intro (And.intro (rowEq fun j hj => ?_) rfl) trivial))))
            show updR _ 0 8 _ j = N 0 j
            rw [hN0]
            simp [updR, hj]
          intro t ht
          refine ifVC_split (fun hh => ?_) (fun hh => ?_)
          · have hti : t < i := by have := of_decide_eq_true hh; omega
            have hAr : ∀ j, j < 8 → 0 ≤ A (j + t * 8) ∧ A (j + t * 8) < p := fun j hj => (Sp.space (by omega)).range _ (hR.mem t hti) j hj
            have hat : first8 (fun j => A (j + ((t : Int).toNat * 8 + 0))) = first8 (partF A 8 t) := by rw [show (t : Int).toNat * 8 + 0 = t * 8 by omega]; rfl
            have h8 := hp8 t hti
            have hN := hNV t
            have hAq := hAr q (by omega)
            refine Exists.intro 15 (And.intro (by kernel_rfl) ?_)
            (repeat (first | refine And.intro (by omega) ?_ | refine And.intro ⟨by omega, by omega⟩ ?_))
            refine Exists.intro (.int .i64 (first8 (partF A 8 t))) (And.intro (And.intro rfl (And.intro rfl (Spec.mono (l01First_s _) fun r m h => by rw [← hat]; exact h.1))) ?_)
            generalize first8 (partF A 8 t) = a0 at *
            (repeat (first | refine And.intro (by omega) ?_ | refine And.intro ⟨by omega, by omega⟩ ?_))
            have hneg : IntKind.i64.wrap (0 - IntKind.i64.wrap (A ((q : Int).toNat * 1 + ((t : Int).toNat * 8 + 0)))) = -(A (q + t * 8)) := by
              rw [show (q : Int).toNat * 1 + ((t : Int).toNat * 8 + 0) = q + t * 8 by omega, wrapI (x := A (q + t * 8)) (by omega), wrapI (by omega)]; omega
            refine Exists.intro (.int .u8 (-(A (q + t * 8)) % p)) (And.intro (And.intro rfl (And.intro rfl (Spec.mono (show Spec Try.prog 50 [.int .i64 p, .int .i64 (IntKind.i64.wrap (0 - IntKind.i64.wrap (A ((q : Int).toNat * 1 + ((t : Int).toNat * 8 + 0)))))] [] (Ret (.int .u8 (-(A (q + t * 8)) % p))) by rw [hneg]; exact l01Mod_s p _ (by omega) (by omega)) fun r m h => h.1))) ?_)
            (repeat (first | refine And.intro (by omega) ?_ | refine And.intro ⟨by omega, by omega⟩ ?_))
            refine Exists.intro (t + 1) (And.intro (by omega) (And.intro (by omega) (And.intro (And.intro rfl (And.intro rfl (And.intro rfl (And.intro rfl (And.intro rfl (And.intro rfl (And.intro rfl (And.intro (slotI (wrapS (by omega))) trivial)))))))) ?_)))
            refine And.intro (And.intro (rowEq fun _ _ => rfl) rfl) (And.intro (And.intro (rowEq fun _ _ => rfl) rfl) (And.intro (And.intro (rowEq fun _ _ => rfl) rfl) (And.intro (And.intro ⟨rfl, fun q hq => rfl⟩ rfl) (And.intro (And.intro (rowEq fun j hj => ?_) rfl) trivial))))
            show upd1 (N t) ((a0 : Int).toNat * 1 + 0) (-(A (q + t * 8)) % p) j = N (t + 1) j
            rw [hN, show (a0 : Int).toNat * 1 + 0 = a0 by omega]
            rfl
          · have hti : t = i := by have := of_decide_eq_false hh; omega
            subst hti
            (repeat (first | refine And.intro (by omega) ?_ | refine And.intro ⟨by omega, by omega⟩ ?_))
            refine Or.inl (And.intro ⟨Nat.le_refl _, rfl, hr, show (r + 1) * 8 ≤ 140737488355328 by omega, show r + 1 ≤ 4611686018427387904 by omega⟩ (fun cap' hcap => ?_))
            refine Exists.intro (q + 1, r + 1, cap', snocF F r (N t)) (And.intro ⟨hqn, hcap, hadd (snocF F r (N t)) (fun j hj => if_pos hj) (fun j hj => by show (if r * 8 + j < r * 8 then _ else N t (r * 8 + j - r * 8)) = _; rw [if_neg (by omega), show r * 8 + j - r * 8 = j by omega])⟩ (And.intro (show n - (q + 1) < n - q by omega) (And.intro (And.intro rfl (And.intro rfl (And.intro rfl (And.intro rfl (And.intro rfl (And.intro (slotI (wrapS (by omega))) trivial)))))) ?_)))
            refine And.intro (And.intro (rowEq fun _ _ => rfl) rfl) (And.intro (And.intro (rowEq fun _ _ => rfl) rfl) (And.intro (And.intro (rowEq fun j hj => ?_) rfl) (And.intro (And.intro ⟨rfl, fun q hq => rfl⟩ rfl) trivial)))
            show appF F (r * 8) 0 (updR _ 0 8 fun j => N t (j + 0)) j = snocF F r (N t) j
            unfold appF snocF
            by_cases e : j < r * 8
            · rw [if_pos e, if_pos e]
            · rw [if_neg e, if_neg e]
              unfold updR
              rw [if_pos (by omega)]
              rfl
      · have hqn : q = n := by have := of_decide_eq_false hh; omega
        subst hqn
        have hlead : ∀ l, leadB A i l = false → ∀ a, a < i → first8 (partF A 8 a) ≠ l := fun l hb a ha e => by rw [(leadB_iff A l i).2 ⟨a, ha, e⟩] at hb; cases hb
        have hFr : rngR p r F := fun l hl => by
          obtain ⟨a, a1, a2, a3⟩ := hF.is (l / 8) (by omega)
          have hv := (nul_vec (p := p) (by omega) hn hR (vecs_of (by omega) hV hR) a1 i (Nat.le_refl i)).rng (l % 8) (by omega)
          rw [← a3 _ (by omega)] at hv
          unfold partF at hv
          rwa [show l % 8 + l / 8 * 8 = l by omega] at hv
        refine And.intro (And.intro rfl trivial) (Spec.mono (l01Reduce_s p r c' F hp hp2 (by omega) hFr) ?_)
        rintro _ _ ⟨k2, c2, A2, hR2, hk2, rfl, rfl⟩
        exact ⟨_, k2, c2, A2, hR2.of_iff fun x => nulL_orth (by omega) hn hV hR hF x, hk2, rfl, rfl⟩
end Go.Proofs.Ytcocapkdpbdmdaa

/- The primitive vectors between two others: what the program's kernel and the model's rows say is the same. -/
set_option linter.unusedVariables false
set_option linter.unusedSimpArgs false
set_option linter.unusedSectionVars false
set_option maxRecDepth 100000
set_option maxHeartbeats 1000000
namespace Go.Proofs.Ytcocapkdpbdmdaa
open M

/-- the program's image of e(i): its coproduct less e(i) by g, less h by e(i) -/
def pimg (p : Int) (C g h : Nat → Int) (i q : Nat) : Int := addM p (addM p (fun q => C (i * 64 + q)) (p - 1) (tenF p (unitV i) g)) (p - 1) (tenF p h (unitV i)) q
/-- the model's row for the places j and k -/
def prow (p : Int) (n : Nat) (C g h : Nat → Int) (j k i : Nat) : Int := if i < n then (C (i * 64 + j * 8 + k) - (if i = j then g k else 0) - (if i = k then h j else 0)) % p else 0
theorem prim_iff {p n : Nat} {C g h : Nat → Int} (hp : 1 < p) (hn : n ≤ 8) (hC : ∀ i j k, i < n → j < 8 → k < 8 → (n ≤ j ∨ n ≤ k) → C (i * 64 + j * 8 + k) = 0) (hg : VecP p n g) (hh : VecP p n h) (v : Nat → Int) :
    KerG p n 64 (pimg p C g h) v ↔ OrthS p n (n * n) (fun r => prow p n C g h (r / n) (r % n)) v := by
  have key : ∀ i j k, i < n → j < 8 → k < 8 → pimg p C g h i (j * 8 + k) = (C (i * 64 + j * 8 + k) - (if i = j then g k else 0) - (if i = k then h j else 0)) % p := fun i j k hi hj hk => by
    unfold pimg addM
    show ((C (i * 64 + (j * 8 + k)) + (↑p - 1) * (tenF p (unitV i) g (j * 8 + k))) % ↑p + (↑p - 1) * tenF p h (unitV i) (j * 8 + k)) % (p : Int) = _
    have e1 : tenF p (unitV i) g (j * 8 + k) = (if i = j then g k else 0) := by
      unfold tenF unitV
      rw [show (j * 8 + k) / 8 = j by omega, show (j * 8 + k) % 8 = k by omega]
      by_cases e : i = j
      · rw [if_pos e, if_pos e.symm, Int.one_mul, mod_id (hg.rng k hk)]
      · rw [if_neg e, if_neg (fun e' => e e'.symm), Int.zero_mul, Int.zero_emod]
    have e2 : tenF p h (unitV i) (j * 8 + k) = (if i = k then h j else 0) := by
      unfold tenF unitV
      rw [show (j * 8 + k) / 8 = j by omega, show (j * 8 + k) % 8 = k by omega]
      by_cases e : i = k
      · rw [if_pos e, if_pos e.symm, Int.mul_one, mod_id (hh.rng j hj)]
      · rw [if_neg e, if_neg (fun e' => e e'.symm), Int.mul_zero, Int.zero_emod]
    rw [e1, e2, mod_l, less_mod, show C (i * 64 + (j * 8 + k)) = C (i * 64 + j * 8 + k) by rw [Nat.add_assoc]]
    generalize C (i * 64 + j * 8 + k) = x, (if i = j then g k else 0) = y, (if i = k then h j else 0) = z
    rw [show x + (↑p - 1) * y + -1 * z = x - y - z + p * y by grind, Int.add_mul_emod_self_left]
  have sums : ∀ j k, j < n → k < n → VecP p n v → apW p (pimg p C g h) v (j * 8 + k) = sumN 8 (fun i => prow p n C g h j k i * v i) % p := fun j k hj hk hv => by
    unfold apW
    refine congrArg (· % (p : Int)) (sumN_congr 8 fun i hi => ?_)
    by_cases hin : i < n
    · unfold prow
      rw [if_pos hin, key i j k hin (by omega) (by omega), Int.mul_comm]
    · rw [hv.out i (by omega) hi, Int.zero_mul, Int.mul_zero]
  refine and_congr_right fun hv => ⟨fun hk r hr => ?_, fun ho q hq => ?_⟩
  · have hn0 : 0 < n := by
      rcases Nat.eq_zero_or_pos n with e | e
      · subst e; omega
      · exact e
    have h1 : r / n < n := (Nat.div_lt_iff_lt_mul hn0).2 hr
    have h2 := Nat.mod_lt r hn0
    show sumN 8 (fun i => prow p n C g h (r / n) (r % n) i * v i) % (p : Int) = 0
    rw [← sums _ _ h1 h2 hv]
    exact hk _ (by omega)
  · have hq8 : q = q / 8 * 8 + q % 8 := by omega
    by_cases hb : q / 8 < n ∧ q % 8 < n
    · rw [hq8, sums _ _ hb.1 hb.2 hv]
      have hr : q / 8 * n + q % 8 < n * n := by
        have := Nat.mul_le_mul_right n (show q / 8 + 1 ≤ n by omega)
        rw [Nat.add_mul, Nat.one_mul] at this
        omega
      have : sumN 8 (fun i => prow p n C g h ((q / 8 * n + q % 8) / n) ((q / 8 * n + q % 8) % n) i * v i) % (p : Int) = 0 := ho (q / 8 * n + q % 8) hr
      rwa [show (q / 8 * n + q % 8) / n = q / 8 by rw [Nat.mul_comm, Nat.mul_add_div (by omega), Nat.div_eq_of_lt hb.2, Nat.add_zero], show (q / 8 * n + q % 8) % n = q % 8 by rw [Nat.mul_comm, Nat.mul_add_mod, Nat.mod_eq_of_lt hb.2]] at this
    · unfold apW
      rw [sumN_none 8 fun i hi => ?_, Int.zero_emod]
      by_cases hin : i < n
      · have e := key i (q / 8) (q % 8) hin (by omega) (by omega)
        rw [← hq8, hC i (q / 8) (q % 8) hin (by omega) (by omega) (by omega)] at e
        rw [e]
        have a1 : (if i = q / 8 then g (q % 8) else 0) = 0 := by
          split
          · exact hg.out _ (by omega) (by omega)
          · rfl
        have a2 : (if i = q % 8 then h (q / 8) else 0) = 0 := by
          split
          · exact hh.out _ (by omega) (by omega)
          · rfl
        rw [a1, a2]
        simp
      · rw [hv.out i (by omega) hi, Int.zero_mul]
end Go.Proofs.Ytcocapkdpbdmdaa

/- The model's list of primitive vectors. -/
set_option linter.unusedVariables false
set_option maxRecDepth 100000
set_option linter.unusedSimpArgs false
set_option maxHeartbeats 4000000
namespace Go.Proofs.Ytcocapkdpbdmdaa
open M

/-- the rows that the model has written when it is at place k of row j -/
def PrimF (p : Int) (n : Nat) (C g h : Nat → Int) (j k : Nat) (F : Nat → Int) : Prop := ∀ a b, b < n → a * n + b < j * n + k → ∀ i, i < 8 → partF F 8 (a * n + b) i = prow p n C g h a b i
theorem orth_congr {p n m : Nat} {f f' : Nat → Nat → Int} (e : ∀ r, r < m → ∀ i, i < 8 → f r i = f' r i) (x : Nat → Int) : OrthS p n m f x ↔ OrthS p n m f' x := by
  refine and_congr_right fun _ => forall_congr' fun r => forall_congr' fun hr => ?_
  rw [sumN_congr 8 fun j hj => by rw [e r hr j hj]]
theorem back_one (m m' : Mem) {k : IntKind} {a n c id : Nat} {g : Nat → Int} (ha : a < m.length) (hb : blockOf m' id = some (.ints k n g, c)) : blockOf (backMem (nth [a] m.length) m [a] m') (nth [a] m.length id) = some (.ints k n g, c) := by
  cases id with
  | zero =>
    show blockOf (backGo _ [a] m' 0 m ++ _) a = _
    rw [blockOf_append_lt _ _ a (by rw [backGo_length]; exact ha), backGo_get _ _ _ m 0 a ha, Nat.zero_add]
    simp [memN, posIn, Nat.beq_refl, hb, renBlk, SV.ren]
  | succ j => exact back_ge _ m m' [a] (j := j) (by rw [show [a].length + j = j + 1 by rw [Nat.add_comm]; rfl]; exact hb)
theorem primF_add {p : Int} {n j k : Nat} {C g h F G N : Nat → Int} (hk : k < n) (hF : PrimF p n C g h j k F) (h1 : ∀ q, q < (j * n + k) * 8 → G q = F q) (h2 : ∀ q, q < 8 → G ((j * n + k) * 8 + q) = N q) (hN : ∀ i, i < 8 → N i = prow p n C g h j k i) : PrimF p n C g h j (k + 1) G := fun a b hb hlt i hi => by
  unfold partF
  by_cases e : a * n + b < j * n + k
  · rw [h1 _ (by omega)]
    exact hF a b hb e i hi
  · have e1 : a * n + b = j * n + k := by omega
    have e2 : a = j := by
      rcases Nat.lt_trichotomy a j with g | g | g
      · have := Nat.mul_le_mul_right n (show a + 1 ≤ j by omega)
        rw [Nat.add_mul, Nat.one_mul] at this
        omega
      · exact g
      · have := Nat.mul_le_mul_right n (show j + 1 ≤ a by omega)
        rw [Nat.add_mul, Nat.one_mul] at this
        omega
    subst e2
    obtain rfl : b = k := by omega
    rw [Nat.add_comm, h2 i hi]
    exact hN i hi
theorem l02Primitive_s (p n : Nat) (Z C g h : Nat → Int) (hp : primeB (p : Int) = true) (hp2 : 2 ≤ p ∧ p ≤ 31) (hn : n ≤ 8) (hC : isU8 512 C) (hg : VecP p n g) (hh : VecP p n h) :
    Spec Try.prog 25 [algV p n Z C, .ints .u8 8 g, .ints .u8 8 h] [] (fun r m => ∃ id k c A, RedL p (OrthS p n (n * n) fun r => prow p n C g h (r / n) (r % n)) k A ∧ k ≤ c ∧ r = .sl id 0 k c ∧ blockOf m id = some (.ints .u8 (k * 8) A, c * 8)) := by
  refine (Spec.of_vc tabOK tabEq Try.func25 rfl (by kernel_rfl) rfl rfl ?_)
  (repeat (first | refine And.intro (by omega) ?_ | refine And.intro ⟨by omega, by omega⟩ ?_))
  refine LoopVC.of (fun x : Nat × Nat × (Nat → Int) => x.1 ≤ n ∧ x.1 * n ≤ x.2.1 ∧ PrimF p n C g h x.1 0 x.2.2) (fun x => [(3, .ptr 0 [] 0 0), (4, .ptr 1 [] 0 0), (5, .ptr 2 [] 0 0), (7, .sl 3 0 (x.1 * n) x.2.1), (8, .int .i64 x.1)])
    (fun x => [some (algV p n Z C, 522), some (.ints .u8 8 g, 8), some (.ints .u8 8 h, 8), some (.ints .u8 (x.1 * n * 8) x.2.2, x.2.1 * 8)]) (fun x => n - x.1) (0, 0, fun _ => 0) ⟨Nat.zero_le _, by simp, fun a b hb hlt => by omega⟩ ?_ ?_ ?_
  · exact And.intro rfl (And.intro rfl (And.intro rfl (And.intro (by show SV.sl 3 0 0 0 = SV.sl 3 0 (0 * n) 0; rw [Nat.zero_mul]) (And.intro rfl trivial))))
  · exact And.intro (And.intro (algR p n Z C) rfl) (And.intro (And.intro (rowEq fun _ _ => rfl) rfl) (And.intro (And.intro (rowEq fun _ _ => rfl) rfl) (And.intro (And.intro ⟨⟨rfl, by simp⟩, fun q hq => by omega⟩ (by simp [SV.size])) trivial)))
  rintro ⟨j, c', F⟩ ⟨hj, hc, hF⟩
  dsimp only at hj hc hF
  refine ifVC_split (fun hh1 => ?_) (fun hh1 => ?_)
  · have hjn : j < n := by have := of_decide_eq_true hh1; omega
    have hjn8 : j * n ≤ 64 := Nat.le_trans (Nat.mul_le_mul (show j ≤ 8 by omega) hn) (Nat.le_refl 64)
    refine LoopVC.of (fun y : Nat × Nat × (Nat → Int) => y.1 ≤ n ∧ j * n + y.1 ≤ y.2.1 ∧ PrimF p n C g h j y.1 y.2.2) (fun y => [(3, .ptr 0 [] 0 0), (4, .ptr 1 [] 0 0), (5, .ptr 2 [] 0 0), (7, .sl 3 0 (j * n + y.1) y.2.1), (8, .int .i64 j), (9, .int .i64 y.1)])
      (fun y => [some (algV p n Z C, 522), some (.ints .u8 8 g, 8), some (.ints .u8 8 h, 8), some (.ints .u8 ((j * n + y.1) * 8) y.2.2, y.2.1 * 8)]) (fun y => n - y.1) (0, c', F) ⟨Nat.zero_le _, hc, hF⟩ ?_ ?_ ?_
    · exact (And.intro rfl (And.intro rfl (And.intro rfl (And.intro rfl (And.intro rfl (And.intro rfl (trivial)))))))
    · exact And.intro (And.intro (algR p n Z C) rfl) (And.intro (And.intro (rowEq fun _ _ => rfl) rfl) (And.intro (And.intro (rowEq fun _ _ => rfl) rfl) (And.intro (And.intro (rowEq fun _ _ => rfl) rfl) trivial)))
    rintro ⟨k, c', F⟩ ⟨hk, hc, hF⟩
    dsimp only at hk hc hF
    refine ifVC_split (fun hh2 => ?_) (fun hh2 => ?_)
    · have hkn : k < n := by have := of_decide_eq_true hh2; omega
      (repeat (first | refine And.intro (by omega) ?_ | refine And.intro ⟨by omega, by omega⟩ ?_))
      refine LoopVC.of (fun i : Nat => i ≤ n) (fun i => [(3, .ptr 0 [] 0 0), (4, .ptr 1 [] 0 0), (5, .ptr 2 [] 0 0), (7, .sl 3 0 (j * n + k) c'), (8, .int .i64 j), (9, .int .i64 k), (10, .ptr 4 [] 0 0), (11, .int .i64 i)])
        (fun i => [some (algV p n Z C, 522), some (.ints .u8 8 g, 8), some (.ints .u8 8 h, 8), some (.ints .u8 ((j * n + k) * 8) F, c' * 8), some (.ints .u8 8 fun q => if q < i then prow p n C g h j k q else 0, 8)]) (fun i => n - i) 0 (Nat.zero_le _) ?_ ?_ ?_
      · exact (And.intro rfl (And.intro rfl (And.intro rfl (And.intro rfl (And.intro rfl (And.intro rfl (And.intro rfl (And.intro rfl (trivial)))))))))
      · refine And.intro (And.intro (algR p n Z C) rfl) (And.intro (And.intro (rowEq fun _ _ => rfl) rfl) (And.intro (And.intro (rowEq fun _ _ => rfl) rfl) (And.intro (And.intro (rowEq fun _ _ => rfl) rfl) (And.intro (And.intro (rowEq fun q hq => ?_) rfl) trivial))))
        show updR _ 0 8 _ q = _
        simp [updR, hq]
      intro i hi
      refine ifVC_split (fun hh3 => ?_) (fun hh3 => ?_)
      · have hin : i < n := by have := of_decide_eq_true hh3; omega
        have hidx : (i : Int).toNat = i := by omega
        have hCb := hC (i * 64 + j * 8 + k) (by omega)
        have hgb := hg.rng k (by omega)
        have hhb := hh.rng j (by omega)
        have hCi : IntKind.i64.wrap (C ((k : Int).toNat * 1 + ((j : Int).toNat * 8 + ((i : Int).toNat * 64 + 0)))) = C (i * 64 + j * 8 + k) := by
          rw [show (k : Int).toNat * 1 + ((j : Int).toNat * 8 + ((i : Int).toNat * 64 + 0)) = i * 64 + j * 8 + k by omega]; exact wrapI (by omega)
        have hgi : IntKind.i64.wrap (g ((k : Int).toNat * 1 + 0)) = g k := by
          rw [show (k : Int).toNat * 1 + 0 = k by omega]; exact wrapI (by omega)
        have hhi : IntKind.i64.wrap (h ((j : Int).toNat * 1 + 0)) = h j := by
          rw [show (j : Int).toNat * 1 + 0 = j by omega]; exact wrapI (by omega)
        (repeat (first | refine And.intro (by omega) ?_ | refine And.intro ⟨by omega, by omega⟩ ?_))
        refine ifVC_split (fun e1 => ?_) (fun e1 => ?_)
        · have e1 : i = j := by have e1 : ((i : Int) == (j : Int)) = true := e1; have := eq_of_beq e1; omega
          (repeat (first | refine And.intro (by omega) ?_ | refine And.intro ⟨by omega, by omega⟩ ?_))
          refine ifVC_split (fun e2 => ?_) (fun e2 => ?_)
          · have e2 : i = k := by have e2 : ((i : Int) == (k : Int)) = true := e2; have := eq_of_beq e2; omega
            (repeat (first | refine And.intro (by omega) ?_ | refine And.intro ⟨by omega, by omega⟩ ?_))
            have hx : IntKind.i64.wrap (IntKind.i64.wrap (IntKind.i64.wrap (C ((k : Int).toNat * 1 + ((j : Int).toNat * 8 + ((i : Int).toNat * 64 + 0)))) - IntKind.i64.wrap (g ((k : Int).toNat * 1 + 0))) - IntKind.i64.wrap (h ((j : Int).toNat * 1 + 0))) = C (i * 64 + j * 8 + k) - g k - h j := by
              simp only [hCi, hgi, hhi]
              all_goals (rw [wrapI (x := C (i * 64 + j * 8 + k) - g k) (by omega), wrapI (by omega)])
            refine And.intro trivial (Spec.mono (l01Mod_s p _ (by omega) (by rw [hx]; omega)) ?_)
            rintro _ _ ⟨rfl, rfl⟩
            rw [hx]
            (repeat (first | refine And.intro (by omega) ?_ | refine And.intro ⟨by omega, by omega⟩ ?_))
            refine Exists.intro (i + 1) (And.intro (by omega) (And.intro (by omega) (And.intro (And.intro rfl (And.intro rfl (And.intro rfl (And.intro rfl (And.intro rfl (And.intro rfl (And.intro rfl (And.intro (slotI (wrapS (by omega))) trivial)))))))) ?_)))
            refine And.intro (And.intro (algR p n Z C) rfl) (And.intro (And.intro (rowEq fun _ _ => rfl) rfl) (And.intro (And.intro (rowEq fun _ _ => rfl) rfl) (And.intro (And.intro (rowEq fun _ _ => rfl) rfl) (And.intro (And.intro (rowEq fun q hq => ?_) rfl) trivial))))
            show upd1 _ ((i : Int).toNat * 1 + 0) ((C (i * 64 + j * 8 + k) - g k - h j) % p) q = _
            rw [hidx]
            unfold upd1
            dsimp only
            by_cases e : q = i * 1 + 0
            · rw [if_pos e, if_pos (by omega), show q = i by omega]
              unfold prow
              rw [if_pos hin, if_pos e1, if_pos e2]
              try simp only [Int.sub_zero]
            · rw [if_neg e]
              by_cases e9 : q < i
              · rw [if_pos e9, if_pos (by omega)]
              · rw [if_neg e9, if_neg (by omega)]
          · have e2 : ¬ i = k := fun e => by have e2 : ((i : Int) == (k : Int)) = false := e2; rw [e] at e2; simp at e2
            have hx : IntKind.i64.wrap (IntKind.i64.wrap (C ((k : Int).toNat * 1 + ((j : Int).toNat * 8 + ((i : Int).toNat * 64 + 0)))) - IntKind.i64.wrap (g ((k : Int).toNat * 1 + 0))) = C (i * 64 + j * 8 + k) - g k := by
              simp only [hCi, hgi, hhi]
              all_goals (rw [wrapI (by omega)])
            refine And.intro trivial (Spec.mono (l01Mod_s p _ (by omega) (by rw [hx]; omega)) ?_)
            rintro _ _ ⟨rfl, rfl⟩
            rw [hx]
            (repeat (first | refine And.intro (by omega) ?_ | refine And.intro ⟨by omega, by omega⟩ ?_))
            refine Exists.intro (i + 1) (And.intro (by omega) (And.intro (by omega) (And.intro (And.intro rfl (And.intro rfl (And.intro rfl (And.intro rfl (And.intro rfl (And.intro rfl (And.intro rfl (And.intro (slotI (wrapS (by omega))) trivial)))))))) ?_)))
            refine And.intro (And.intro (algR p n Z C) rfl) (And.intro (And.intro (rowEq fun _ _ => rfl) rfl) (And.intro (And.intro (rowEq fun _ _ => rfl) rfl) (And.intro (And.intro (rowEq fun _ _ => rfl) rfl) (And.intro (And.intro (rowEq fun q hq => ?_) rfl) trivial))))
            show upd1 _ ((i : Int).toNat * 1 + 0) ((C (i * 64 + j * 8 + k) - g k) % p) q = _
            rw [hidx]
            unfold upd1
            dsimp only
            by_cases e : q = i * 1 + 0
            · rw [if_pos e, if_pos (by omega), show q = i by omega]
              unfold prow
              rw [if_pos hin, if_pos e1, if_neg e2]
              try simp only [Int.sub_zero]
            · rw [if_neg e]
              by_cases e9 : q < i
              · rw [if_pos e9, if_pos (by omega)]
              · rw [if_neg e9, if_neg (by omega)]
        · have e1 : ¬ i = j := fun e => by have e1 : ((i : Int) == (j : Int)) = false := e1; rw [e] at e1; simp at e1
          refine ifVC_split (fun e2 => ?_) (fun e2 => ?_)
          · have e2 : i = k := by have e2 : ((i : Int) == (k : Int)) = true := e2; have := eq_of_beq e2; omega
            (repeat (first | refine And.intro (by omega) ?_ | refine And.intro ⟨by omega, by omega⟩ ?_))
            have hx : IntKind.i64.wrap (IntKind.i64.wrap (C ((k : Int).toNat * 1 + ((j : Int).toNat * 8 + ((i : Int).toNat * 64 + 0)))) - IntKind.i64.wrap (h ((j : Int).toNat * 1 + 0))) = C (i * 64 + j * 8 + k) - h j := by
              simp only [hCi, hgi, hhi]
              all_goals (rw [wrapI (by omega)])
            refine And.intro trivial (Spec.mono (l01Mod_s p _ (by omega) (by rw [hx]; omega)) ?_)
            rintro _ _ ⟨rfl, rfl⟩
            rw [hx]
            (repeat (first | refine And.intro (by omega) ?_ | refine And.intro ⟨by omega, by omega⟩ ?_))
            refine Exists.intro (i + 1) (And.intro (by omega) (And.intro (by omega) (And.intro (And.intro rfl (And.intro rfl (And.intro rfl (And.intro rfl (And.intro rfl (And.intro rfl (And.intro rfl (And.intro (slotI (wrapS (by omega))) trivial)))))))) ?_)))
            refine And.intro (And.intro (algR p n Z C) rfl) (And.intro (And.intro (rowEq fun _ _ => rfl) rfl) (And.intro (And.intro (rowEq fun _ _ => rfl) rfl) (And.intro (And.intro (rowEq fun _ _ => rfl) rfl) (And.intro (And.intro (rowEq fun q hq => ?_) rfl) trivial))))
            show upd1 _ ((i : Int).toNat * 1 + 0) ((C (i * 64 + j * 8 + k) - h j) % p) q = _
            rw [hidx]
            unfold upd1
            dsimp only
            by_cases e : q = i * 1 + 0
            · rw [if_pos e, if_pos (by omega), show q = i by omega]
              unfold prow
              rw [if_pos hin, if_neg e1, if_pos e2]
              try simp only [Int.sub_zero]
            · rw [if_neg e]
              by_cases e9 : q < i
              · rw [if_pos e9, if_pos (by omega)]
              · rw [if_neg e9, if_neg (by omega)]
          · have e2 : ¬ i = k := fun e => by have e2 : ((i : Int) == (k : Int)) = false := e2; rw [e] at e2; simp at e2
            have hx : IntKind.i64.wrap (C ((k : Int).toNat * 1 + ((j : Int).toNat * 8 + ((i : Int).toNat * 64 + 0)))) = C (i * 64 + j * 8 + k) := by
              simp only [hCi, hgi, hhi]
              all_goals (skip)
            refine And.intro trivial (Spec.mono (l01Mod_s p _ (by omega) (by rw [hx]; omega)) ?_)
            rintro _ _ ⟨rfl, rfl⟩
            rw [hx]
            (repeat (first | refine And.intro (by omega) ?_ | refine And.intro ⟨by omega, by omega⟩ ?_))
            refine Exists.intro (i + 1) (And.intro (by omega) (And.intro (by omega) (And.intro (And.intro rfl (And.intro rfl (And.intro rfl (And.intro rfl (And.intro rfl (And.intro rfl (And.intro rfl (And.intro (slotI (wrapS (by omega))) trivial)))))))) ?_)))
            refine And.intro (And.intro (algR p n Z C) rfl) (And.intro (And.intro (rowEq fun _ _ => rfl) rfl) (And.intro (And.intro (rowEq fun _ _ => rfl) rfl) (And.intro (And.intro (rowEq fun _ _ => rfl) rfl) (And.intro (And.intro (rowEq fun q hq => ?_) rfl) trivial))))
            show upd1 _ ((i : Int).toNat * 1 + 0) ((C (i * 64 + j * 8 + k)) % p) q = _
            rw [hidx]
            unfold upd1
            dsimp only
            by_cases e : q = i * 1 + 0
            · rw [if_pos e, if_pos (by omega), show q = i by omega]
              unfold prow
              rw [if_pos hin, if_neg e1, if_neg e2]
              try simp only [Int.sub_zero]
            · rw [if_neg e]
              by_cases e9 : q < i
              · rw [if_pos e9, if_pos (by omega)]
              · rw [if_neg e9, if_neg (by omega)]
      · have hin : i = n := by have := of_decide_eq_false hh3; omega
        (repeat (first | refine And.intro (by omega) ?_ | refine And.intro ⟨by omega, by omega⟩ ?_))
        refine Or.inl (And.intro ⟨Nat.le_refl _, rfl, hc, show (j * n + k + 1) * 8 ≤ 140737488355328 by omega, show j * n + k + 1 ≤ 4611686018427387904 by omega⟩ (fun cap' hcap => ?_))
        have hN : ∀ q, q < 8 → (fun q => if q < i then prow p n C g h j k q else 0) q = prow p n C g h j k q := fun q hq => by
          dsimp only
          by_cases e : q < i
          · rw [if_pos e]
          · rw [if_neg e]; unfold prow; rw [if_neg (by omega)]
        refine Exists.intro (k + 1, cap', snocF F (j * n + k) (fun q => if q < i then prow p n C g h j k q else 0)) (And.intro ⟨hkn, hcap, primF_add hkn hF (fun q hq => if_pos hq) (fun q hq => by show (if (j * n + k) * 8 + q < (j * n + k) * 8 then _ else (fun q => if q < i then prow p n C g h j k q else 0) ((j * n + k) * 8 + q - (j * n + k) * 8)) = _; rw [if_neg (by omega), show (j * n + k) * 8 + q - (j * n + k) * 8 = q by omega]) hN⟩ (And.intro (show n - (k + 1) < n - k by omega) (And.intro (And.intro rfl (And.intro rfl (And.intro rfl (And.intro rfl (And.intro rfl (And.intro (slotI (wrapS (by omega))) trivial)))))) ?_)))
        refine And.intro (And.intro (algR p n Z C) rfl) (And.intro (And.intro (rowEq fun _ _ => rfl) rfl) (And.intro (And.intro (rowEq fun _ _ => rfl) rfl) (And.intro (And.intro (rowEq fun q hq => ?_) rfl) trivial)))
        show appF F ((j * n + k) * 8) 0 (updR _ 0 8 fun q => (fun q => if q < i then prow p n C g h j k q else 0) (q + 0)) q = snocF F (j * n + k) (fun q => if q < i then prow p n C g h j k q else 0) q
        unfold appF snocF
        by_cases e : q < (j * n + k) * 8
        · rw [if_pos e, if_pos e]
        · rw [if_neg e, if_neg e]
          unfold updR
          rw [if_pos (by omega)]
          rfl
    · have hkn : k = n := by have := of_decide_eq_false hh2; omega
      subst hkn
      have e1 : (j + 1) * k = j * k + k := by rw [Nat.add_mul, Nat.one_mul]
      refine Exists.intro (j + 1, c', F) (And.intro ⟨hjn, show (j + 1) * k ≤ c' by omega, fun a b hb hlt => hF a b hb (by have hlt : a * k + b < (j + 1) * k + 0 := hlt; omega)⟩ (And.intro (show k - (j + 1) < k - j by omega) (And.intro (And.intro rfl (And.intro rfl (And.intro rfl (And.intro (by show SV.sl 3 0 (j * k + k) c' = SV.sl 3 0 ((j + 1) * k) c'; rw [e1]) (And.intro (slotI (wrapS (by omega))) trivial))))) ?_)))
      exact And.intro (And.intro (algR p k Z C) rfl) (And.intro (And.intro (rowEq fun _ _ => rfl) rfl) (And.intro (And.intro (rowEq fun _ _ => rfl) rfl) (And.intro (And.intro ⟨⟨rfl, by show (j * k + k) * 8 = (j + 1) * k * 8; rw [e1]⟩, fun q hq => rfl⟩ rfl) trivial)))
  · have hjn : j = n := by have := of_decide_eq_false hh1; omega
    subst hjn
    have hR : ∀ r, r < j * j → ∀ i, i < 8 → partF F 8 r i = prow p j C g h (r / j) (r % j) i := fun r hr i hi => by
      have hj0 : 0 < j := by
        rcases Nat.eq_zero_or_pos j with e | e
        · subst e; omega
        · exact e
      have := hF (r / j) (r % j) (Nat.mod_lt r hj0) (by have := Nat.div_add_mod r j; rw [Nat.mul_comm] at this; omega) i hi
      rwa [show r / j * j + r % j = r by rw [Nat.mul_comm]; exact Nat.div_add_mod r j] at this
    have hjj : j * j ≤ 64 := Nat.le_trans (Nat.mul_le_mul (show j ≤ 8 by omega) hn) (Nat.le_refl 64)
    have hV : ∀ r, r < j * j → VecP p j (partF F 8 r) := fun r hr => ⟨fun i hi => by
      rw [hR r hr i hi]; unfold prow
      split
      · exact mod_rng (by omega) _
      · omega, fun i h1 h2 => by rw [hR r hr i h2]; unfold prow; rw [if_neg (by omega)]⟩
    refine And.intro (And.intro rfl trivial) (Spec.mono (l02Null_s p j (j * j) c' F hp hp2 hn (by omega) hV) ?_)
    rintro _ _ ⟨id, k2, c2, A2, hR2, hk2, rfl, hb⟩
    exact ⟨_, k2, c2, A2, hR2.of_iff fun x => orth_congr (fun r hr i hi => hR r hr i hi) x, hk2, rfl, back_one _ _ (Nat.lt_succ_self 3) hb⟩
end Go.Proofs.Ytcocapkdpbdmdaa

/- PrimitiveSpace: the program's side. -/
set_option linter.unusedVariables false
set_option linter.unusedSimpArgs false
set_option linter.unusedSectionVars false
set_option maxRecDepth 100000
set_option maxHeartbeats 1000000
namespace Go.Proofs.Ytcocapkdpbdmdaa
open M

section
variable {P : Program} {T : Tab} {N : Nat} {ops : Array Oper} {o : Oper} {r : List Oper} {s : Slots} {m : Mem} {K : Slots → Mem → Prop} {base t t2 id off n c es len : Nat} {path : List Nat} {a x y ix : Operand} {v w : SV} {k : IntKind} {z u : Int} {ea : Bool}
theorem readVC_iaS {Kv : SV → Prop} (ht : T.ti t = .slice es) (hx : ev s x = some (.sl id off n c)) (hi : ev s ix = some (.int k z)) (hb : 0 ≤ z ∧ z < n) (hk : Kv (.ptr id [] 0 (z.toNat * es + off))) : readVC T (.indexAddr t x ix) s m Kv := by
  simp only [readVC, ht, hx, hi]
  exact ⟨hb, hk⟩
theorem readVC_sub {Kv : SV → Prop} (hx : ev s x = some (.int .i64 z)) (hy : ev s y = some (.int .i64 u)) (hk : Kv (.int .i64 (IntKind.i64.wrap (z - u)))) : readVC T (.binOp .sub t x y t2) s m Kv := by
  simp only [readVC, hx, hy, binVC]
  exact hk
theorem opsVC_iaA (hg : o.guard = none) (ho : o.op = .indexAddr t x ix) (ht : T.ti t = .arr len es ea) (hx : ev s x = some (.ptr id path base off)) (hi : ev s ix = some (.int k z)) (hb : 0 ≤ z ∧ z < len) (hk : opsVC P T N ops r (sset N s o.dst (.ptr id path base (z.toNat * es + off))) m K) : opsVC P T N ops (o :: r) s m K := by
  refine opsVC_one hg ?_
  simp only [oneVC, ho, readVC, ht, hx, hi]
  exact ⟨hb, hk⟩
end

/-- the state of the loop over the basis: so many rows are made; the memory -/
structure PI (p n : Nat) (U C g h : Nat → Int) (x : Nat × (Nat → SV) × (Nat → Nat) × (Nat → Nat) × (Nat → Nat → Int) × Mem) : Prop where
  i : x.1 ≤ n
  b0 : blockOf x.2.2.2.2.2 0 = some (algV p n U C, 522)
  b1 : blockOf x.2.2.2.2.2 1 = some (.ints .u8 8 g, 8)
  b2 : blockOf x.2.2.2.2.2 2 = some (.ints .u8 8 h, 8)
  b4 : blockOf x.2.2.2.2.2 4 = some (.vec n x.2.1, n)
  sl : ∀ l, l < x.1 → x.2.1 l = .sl (x.2.2.1 l) 0 64 (x.2.2.2.1 l)
  row : ∀ l, l < x.1 → blockOf x.2.2.2.2.2 (x.2.2.1 l) = some (.ints .u8 64 (x.2.2.2.2.1 l), x.2.2.2.1 l * 1)
  ge : ∀ l, l < x.1 → 4 < x.2.2.1 l
  val : ∀ l, l < x.1 → ∀ q, q < 64 → x.2.2.2.2.1 l q = pimg p C g h l q
  clo : Clo x.2.2.2.2.2
theorem ten_u8 {p : Int} {v w : Nat → Int} (hp : 1 < p ∧ p < 256) : isU8 64 (tenF p v w) := fun q hq => by
  have := mod_rng (p := p) (by omega) (v (q / 8) * w (q % 8))
  unfold tenF; omega
theorem addM_rng8 {p : Int} (hp : 1 < p ∧ p < 256) (r o : Nat → Int) (f : Int) (q : Nat) : 0 ≤ addM p r f o q ∧ addM p r f o q < 256 := by
  have := mod_rng (p := p) (by omega) (r q + f * o q)
  unfold addM; omega

def coTwo (p n : Int) (U C g h : Nat → Int) : Bool := coB p n U C && (entriesB p n g && entriesB p n h)
def primCode (p n : Int) (U C g h : Nat → Int) : Int := if coTwo p n U C g h = true then (if (groupB p U C g && groupB p U C h) = true then 0 else 5) else 1
def PrimSp (p n : Nat) (C g h : Nat → Int) : (Nat → Int) → Prop := KerG p n 64 (pimg p C g h)

/-- what the entries of a coalgebra's vectors are -/
theorem vec_entries {p : Int} {n : Nat} {v : Nat → Int} (hv : isU8 8 v) (h : entriesB p n v = true) : VecP p n v :=
  ⟨fun j hj => ⟨(hv j hj).1, (entries_get h hj).1⟩, fun j h1 h2 => (entries_get h h2).2 (by omega)⟩
theorem coTwo_spec {p n : Int} {U C g h : Nat → Int} (hU : isU8 8 U) (hC : isU8 512 C) (hg : isU8 8 g) (hh : isU8 8 h) (hc : coTwo p n U C g h = true) :
    ∃ p' n' : Nat, p = p' ∧ n = n' ∧ primeB (p' : Int) = true ∧ (2 ≤ p' ∧ p' ≤ 31) ∧ (1 ≤ n' ∧ n' ≤ 8) ∧ Valid p' n' U (dualF C) ∧ VecP p' n' g ∧ VecP p' n' h := by
  unfold coTwo at hc
  simp only [Bool.and_eq_true] at hc
  obtain ⟨p', n', rfl, rfl, hA⟩ := algP_of hU (dual_u8 hC) (show algB p n U (dualF C) = true from hc.1)
  exact ⟨p', n', rfl, rfl, hA.hp, hA.hp2, hA.hn, hA.V, vec_entries hg hc.2.1, vec_entries hh hc.2.2⟩

/-- the memory in the midst of a turn: e(i) in the block e, the row in the block b -/
structure PB (p n : Nat) (U C g h : Nat → Int) (H : Nat → SV) (e b c : Nat) (D G : Nat → Int) (M0 M : Mem) : Prop where
  b0 : blockOf M 0 = some (algV p n U C, 522)
  b1 : blockOf M 1 = some (.ints .u8 8 g, 8)
  b2 : blockOf M 2 = some (.ints .u8 8 h, 8)
  b4 : blockOf M 4 = some (.vec n H, n)
  be : blockOf M e = some (.ints .u8 8 D, 8)
  br : blockOf M b = some (.ints .u8 64 G, c * 1)
  old : ∀ q, 4 < q → q < e → blockOf M q = blockOf M0 q
  ord : 4 < e ∧ e < b ∧ b < M.length
  clo : Clo M
theorem PB.add {p n : Nat} {U C g h : Nat → Int} {H : Nat → SV} {e b c d : Nat} {D G : Nat → Int} {M0 M M' : Mem} {v : SV} (hB : PB p n U C g h H e b c D G M0 M) (hv : v.ids = []) (hp : Plus M M.length v d M') : PB p n U C g h H e b c D G M0 M' := by
  have k : ∀ q, q < M.length → blockOf M' q = blockOf M q := fun q hq => hp.old q hq (by omega)
  have ho := hB.ord
  have hl := hp.len
  exact ⟨(k 0 (by omega)).trans hB.b0, (k 1 (by omega)).trans hB.b1, (k 2 (by omega)).trans hB.b2, (k 4 (by omega)).trans hB.b4, (k e (by omega)).trans hB.be, (k b (by omega)).trans hB.br, fun q h1 h2 => (k q (by omega)).trans (hB.old q h1 h2), ⟨ho.1, ho.2.1, by omega⟩, hp.clo hB.clo (by rw [hv]; intro i hi; cases hi)⟩
theorem PB.set {p n : Nat} {U C g h : Nat → Int} {H : Nat → SV} {e b c : Nat} {D G : Nat → Int} {M0 M : Mem} (hB : PB p n U C g h H e b c D G M0 M) (G' : Nat → Int) : PB p n U C g h H e b c D G' M0 (setBlock M b (.ints .u8 64 G')) := by
  have ho := hB.ord
  have k : ∀ q, q ≠ b → blockOf (setBlock M b (.ints .u8 64 G')) q = blockOf M q := fun q hq => setBlock_other _ _ _ _ hq
  exact ⟨(k 0 (by omega)).trans hB.b0, (k 1 (by omega)).trans hB.b1, (k 2 (by omega)).trans hB.b2, (k 4 (by omega)).trans hB.b4, (k e (by omega)).trans hB.be, setBlock_same _ _ _ _ _ hB.br, fun q h1 h2 => (k q (by omega)).trans (hB.old q h1 h2), ⟨ho.1, ho.2.1, by rw [setBlock_length]; omega⟩, setBlock_clo hB.clo hB.br (by intro j hj; cases hj)⟩

theorem implPrim0_s (p n : Int) (U C g h : Nat → Int) (hU : isU8 8 U) (hC : isU8 512 C) (hg : isU8 8 g) (hh : isU8 8 h) :
    Spec Try.prog 10 [algV p n U C, .ints .u8 8 g, .ints .u8 8 h] [] (ListQ true (primCode p n U C g h) p.toNat (PrimSp p.toNat n.toNat C g h)) := by
  refine Spec.of_vc (tabOK.dir fun g => Nat.beq g 33) (tabEq.dir _) Try.func10 rfl (by kernel_rfl) rfl rfl ?_
  (repeat (first | refine And.intro (by omega) ?_ | refine And.intro ⟨by omega, by omega⟩ ?_))
  refine And.intro (And.intro rfl trivial) (Spec.mono (isCoalgebraWith_s p n U C 2 (twoV (fun j => 0) g h) (by omega) hU hC (two_u8 hg hh)) ?_)
  rintro r m ⟨rfl, rfl⟩
  rw [two_vectors]
  refine ifVC_split (fun hc => ?_) (fun hc => ?_)
  · have hc : coTwo p n U C g h = false := by unfold coTwo; simpa only [Bool.not_eq_true'] using hc
    exact .inl ⟨by unfold primCode; rw [hc]; simp, by unfold primCode; rw [hc]; rfl⟩
  have hc : coTwo p n U C g h = true := by unfold coTwo; simpa only [Bool.not_eq_false'] using hc
  obtain ⟨p, n, rfl, rfl, hp, hp2, hn, hV, hgv, hhv⟩ := coTwo_spec hU hC hg hh hc
  unfold primCode
  rw [if_pos hc]
  (repeat (first | refine And.intro (by omega) ?_ | refine And.intro ⟨by omega, by omega⟩ ?_))
  refine And.intro trivial (Spec.mono (isGroupLike_s p n U C _ hV hU hC (fun j hj => hg _ (by omega))) ?_)
  rintro r m ⟨rfl, rfl⟩
  have out5 : (groupB p U C g && groupB p U C h) = false → ListQ true (if (groupB p U C g && groupB p U C h) = true then (0 : Int) else 5) (p : Int).toNat (PrimSp (p : Int).toNat (n : Int).toNat C g h) (.tcons .nilsl (.tcons (.int .i64 5) .tnil)) [some (algV p n U C, 522), some (.ints .u8 8 g, 8), some (.ints .u8 8 h, 8), some (.ints .u8 (2 * 8) (twoV (fun j => 0) g h), 2 * 8)] := fun e => .inl ⟨by rw [e]; simp, by rw [e]; rfl⟩
  refine ifVC_split (fun e1 => ?_) (fun e1 => ?_)
  · have e1 : groupB p U C g = false := by have e1 : (!groupB p U C g) = true := e1; simpa using e1
    exact out5 (by rw [e1]; rfl)
  have e1 : groupB p U C g = true := by have e1 : (!groupB p U C g) = false := e1; simpa using e1
  (repeat (first | refine And.intro (by omega) ?_ | refine And.intro ⟨by omega, by omega⟩ ?_))
  refine And.intro trivial (Spec.mono (isGroupLike_s p n U C _ hV hU hC (fun j hj => hh _ (by omega))) ?_)
  rintro r m ⟨rfl, rfl⟩
  refine ifVC_split (fun e2 => ?_) (fun e2 => ?_)
  · have e2 : groupB p U C h = false := by have e2 : (!groupB p U C h) = true := e2; simpa using e2
    exact out5 (by rw [e2, Bool.and_false])
  have e2 : groupB p U C h = true := by have e2 : (!groupB p U C h) = false := e2; simpa using e2
  rw [e1, e2]
  rw [if_pos (show (true && true) = true from rfl)]
  refine And.intro ⟨by omega, by omega, by omega, by omega⟩ ?_
  refine LoopVC.ofR (PI p n U C g h) (fun x => [(3, .ptr 0 [] 0 0), (4, .ptr 1 [] 0 0), (5, .ptr 2 [] 0 0), (8, .sl 4 0 n n), (31, .int .i64 n), (32, .int .i64 x.1)]) (fun x => x.2.2.2.2.2) (fun x => n - x.1) (0, (fun _ => .nilsl), (fun _ => 0), (fun _ => 0), (fun _ _ => 0), [some (algV p n U C, 522), some (.ints .u8 8 g, 8), some (.ints .u8 8 h, 8), none, some (.vec n fun _ => .nilsl, n)])
    ⟨Nat.zero_le _, rfl, rfl, rfl, rfl, fun l hl => absurd hl (Nat.not_lt_zero _), fun l hl => absurd hl (Nat.not_lt_zero _), fun l hl => absurd hl (Nat.not_lt_zero _), fun l hl => absurd hl (Nat.not_lt_zero _), ?_⟩ (fun i => i) (RenTo.same ?_ ?_) (fun _ _ => Nat.zero_le _) ?_ ?_
  · intro id u c hb q hq
    match id with
    | 0 => cases hb; rw [algV_noids] at hq; cases hq
    | 1 => cases hb; cases hq
    | 2 => cases hb; cases hq
    | 3 => cases hb
    | 4 => cases hb; obtain ⟨k, hk, hqk⟩ := vec_ids.1 hq; cases hqk
    | id + 5 => cases hb
  · exact (And.intro rfl (And.intro rfl (And.intro rfl (And.intro rfl (And.intro rfl (And.intro rfl (trivial)))))))
  · intro i u d hb
    match i with
    | 0 => cases hb; exact ⟨_, rfl, algR _ _ _ _⟩
    | 1 => cases hb; exact ⟨_, rfl, rowEq fun _ _ => rfl⟩
    | 2 => cases hb; exact ⟨_, rfl, rowEq fun _ _ => rfl⟩
    | 3 => cases hb
    | 4 => cases hb; exact ⟨_, rfl, rfl, fun _ _ => rfl⟩
    | i + 5 => cases hb
  · intro x hx
    refine OkP.of ?_ hx.clo
    have l4 := blockOf_lt (m := x.2.2.2.2.2) (id := 4) (by rw [hx.b4]; rfl)
    intro q hq i hi
    simp only [List.mem_cons, List.not_mem_nil, or_false] at hq
    rcases hq with rfl | rfl | rfl | rfl | rfl | rfl <;> simp [SV.ids] at hi <;> omega
  rintro ⟨i, H, ρ, cp, F, M⟩ ⟨hi, m0, m1, m2, m4, hsl, hrow, hge, hval, hclo⟩
  dsimp only at hi m0 m1 m2 m4 hsl hrow hge hval hclo
  have l4 : 4 < M.length := blockOf_lt (by rw [m4]; rfl)
  have hw1 : IntKind.i64.wrap ((p : Int) - 1) = p - 1 := wrapI (by omega)
  have hp0 : (0 : Int) < p ∧ (p : Int) < 256 := by omega
  have hp1 : (1 : Int) < p ∧ (p : Int) < 256 := by omega
  refine ifVC_split (fun h1 => ?_) (fun h1 => ?_)
  · have hin : i < n := by have := of_decide_eq_true h1; omega
    have hidx : (i : Int).toNat = i := by omega
    (repeat (first | (with_reducible refine vc_exit ?_) | (with_reducible refine vc_ret ?_) | (with_reducible refine vc_skip ?_) | (with_reducible refine thenQ_x ?_) | (with_reducible refine thenQ_r ?_) | (with_reducible refine thenQ_n ?_) | (with_reducible refine blockQ_x rfl ?_) | (with_reducible refine blockQ_y rfl ?_) | (with_reducible refine blockQ_n ?_) | (with_reducible refine blockQ_r ?_) | (with_reducible refine vc_seq ?_) | (with_reducible refine vc_region ?_) | (with_reducible refine vc_block ?_) | (with_reducible refine vc_scope ?_) | (with_reducible refine opsVC_nil ?_)))
    refine opsVC_mv rfl rfl rfl ?_
    refine opsVC_as rfl rfl rfl ?_
    (repeat (first | (with_reducible refine vc_exit ?_) | (with_reducible refine vc_ret ?_) | (with_reducible refine vc_skip ?_) | (with_reducible refine thenQ_x ?_) | (with_reducible refine thenQ_r ?_) | (with_reducible refine thenQ_n ?_) | (with_reducible refine blockQ_x rfl ?_) | (with_reducible refine blockQ_y rfl ?_) | (with_reducible refine blockQ_n ?_) | (with_reducible refine blockQ_r ?_) | (with_reducible refine vc_seq ?_) | (with_reducible refine vc_region ?_) | (with_reducible refine vc_block ?_) | (with_reducible refine vc_scope ?_) | (with_reducible refine opsVC_nil ?_)))
    refine opsVC_mv rfl rfl rfl ?_
    refine opsVC_call rfl rfl rfl rfl rfl rfl ?_
    refine callVC_valG rfl (fun _ => rfl) (fun _ => rfl) (basisVector_s i ⟨by omega, by omega⟩) ?_
    rw [hidx]
    refine opsVC_alloc rfl rfl rfl rfl ?_
    change opsVC _ _ _ _ _ _ (M ++ [some (SV.ints .u8 8 fun _ => 0, 8)]) _
    refine opsVC_putNew rfl rfl rfl rfl rfl fun D M1 hD p1 => ?_
    (repeat (first | (with_reducible refine vc_exit ?_) | (with_reducible refine vc_ret ?_) | (with_reducible refine vc_skip ?_) | (with_reducible refine thenQ_x ?_) | (with_reducible refine thenQ_r ?_) | (with_reducible refine thenQ_n ?_) | (with_reducible refine blockQ_x rfl ?_) | (with_reducible refine blockQ_y rfl ?_) | (with_reducible refine blockQ_n ?_) | (with_reducible refine blockQ_r ?_) | (with_reducible refine vc_seq ?_) | (with_reducible refine vc_region ?_) | (with_reducible refine vc_block ?_) | (with_reducible refine vc_scope ?_) | (with_reducible refine opsVC_nil ?_)))
    have l1 := p1.len
    have cl1 := p1.clo hclo (by simp [SV.ids])
    have k1 : ∀ q, q < M.length → blockOf M1 q = blockOf M q := fun q hq => p1.old q hq (by omega)
    refine opsVC_mv rfl rfl rfl ?_
    refine opsVC_mv rfl rfl rfl ?_
    refine opsVC_mv rfl rfl rfl ?_
    refine opsVC_fa rfl rfl rfl rfl rfl ?_
    refine opsVC_iaA rfl rfl rfl rfl rfl ⟨by omega, by omega⟩ ?_
    refine opsVC_loadF (v := .ints .u8 64 fun q => C (q + ((i : Int).toNat * 64 + 0))) rfl rfl rfl ((k1 0 (by omega)).trans m0) rfl rfl (fun _ h => ⟨by omega, h⟩) ?_
    refine opsVC_call rfl rfl rfl rfl rfl rfl ?_
    refine callVC_new rfl (fun _ => rfl) (Spec.mono (flatTable_s _) ?_)
    rintro _ _ ⟨c, G, rfl, _, hG, rfl⟩
    refine ⟨64, c, .ints .u8 64 G, c * 1, rfl, rfl, fun _ => rfl, ?_⟩
    have p2 := Plus.snoc M1 (.ints .u8 64 G) (c * 1) M1.length
    generalize M1 ++ [some (SV.ints .u8 64 G, c * 1)] = M2 at p2 ⊢
    have l2 := p2.len
    have k2 : ∀ q, q < M1.length → blockOf M2 q = blockOf M1 q := fun q hq => p2.old q hq (by omega)
    have b4 : blockOf M2 4 = some (.vec n H, n) := (k2 4 (by omega)).trans ((k1 4 (by omega)).trans m4)
    refine opsVC_ia rfl rfl rfl rfl rfl ⟨by omega, by omega⟩ ?_
    refine opsVC_storeV rfl rfl rfl rfl rfl b4 rfl (by omega) ?_
    (repeat (first | (with_reducible refine vc_exit ?_) | (with_reducible refine vc_ret ?_) | (with_reducible refine vc_skip ?_) | (with_reducible refine thenQ_x ?_) | (with_reducible refine thenQ_r ?_) | (with_reducible refine thenQ_n ?_) | (with_reducible refine blockQ_x rfl ?_) | (with_reducible refine blockQ_y rfl ?_) | (with_reducible refine blockQ_n ?_) | (with_reducible refine blockQ_r ?_) | (with_reducible refine vc_seq ?_) | (with_reducible refine vc_region ?_) | (with_reducible refine vc_block ?_) | (with_reducible refine vc_scope ?_) | (with_reducible refine opsVC_nil ?_)))
    have hix : (i : Int).toNat * 1 + 0 = i := by omega
    rw [hix]
    have hB3 : PB p n U C g h (updV H i (.sl M1.length 0 64 c)) M.length M1.length c D G M (setBlock M2 4 (.vec n (updV H i (.sl M1.length 0 64 c)))) := by
      have k3 : ∀ q, q ≠ 4 → blockOf (setBlock M2 4 (.vec n (updV H i (.sl M1.length 0 64 c)))) q = blockOf M2 q := fun q hq => setBlock_other _ _ _ _ hq
      have k : ∀ q, q < M.length → q ≠ 4 → blockOf (setBlock M2 4 (.vec n (updV H i (.sl M1.length 0 64 c)))) q = blockOf M q := fun q hq hne => (k3 q hne).trans ((k2 q (by omega)).trans (k1 q hq))
      refine ⟨(k 0 (by omega) (by omega)).trans m0, (k 1 (by omega) (by omega)).trans m1, (k 2 (by omega) (by omega)).trans m2, setBlock_same _ _ _ _ _ b4, (k3 _ (by omega)).trans ((k2 _ (by omega)).trans p1.new), (k3 _ (by omega)).trans p2.new, fun q h1 h2 => k q h2 (by omega), ⟨l4, by omega, by rw [setBlock_length]; omega⟩, ?_⟩
      refine setBlock_clo (p2.clo cl1 (by simp [SV.ids])) b4 fun j hj => ?_
      obtain ⟨l, hl, hj⟩ := vec_ids.1 hj
      unfold updV at hj
      split at hj
      · simp [SV.ids1] at hj; omega
      · have : j < M.length := hclo 4 _ _ m4 j (vec_ids.2 ⟨l, hl, hj⟩)
        omega
    generalize setBlock M2 4 (.vec n (updV H i (.sl M1.length 0 64 c))) = M3 at hB3 ⊢
    have hat : updV H i (.sl M1.length 0 64 c) ((i : Int).toNat * 1 + 0) = .sl M1.length 0 64 c := by unfold updV; rw [if_pos hix]
    have hDu : isU8 8 fun j => D (j + 0) := fun j hj => by
      have e : D (j + 0) = unitV i j := hD j hj
      have := unitV_u8 i 8 j hj
      rw [← e] at this
      exact this
    refine vc_gen (q := 0) 15 [0, 1, 2, 3, 4, 5, 6, 7, 8, 9, 10, 11, 12] [13, 14] (by kernel_rfl) (by kernel_rfl) (by kernel_rfl) ?_
    refine readsAt_step rfl (by rfl) ?_
    refine readVC_fa rfl rfl rfl ?_
    refine readsAt_step rfl (by rfl) ?_
    refine readVC_loadF (v := .int .i64 p) (z := .int .i64 p) rfl hB3.b0 rfl rfl (fun _ h => h) ?_
    refine readsAt_step rfl (by rfl) ?_
    refine readVC_mv rfl ?_
    refine readsAt_step rfl (by rfl) ?_
    refine readVC_mv rfl ?_
    refine readsAt_step rfl (by rfl) ?_
    refine readVC_iaS rfl rfl rfl ⟨by omega, by omega⟩ ?_
    refine readsAt_step rfl (by rfl) ?_
    refine readVC_loadS (v := .sl M1.length 0 64 c) rfl rfl hB3.b4 (by omega) hat rfl ?_
    refine readsAt_step rfl (by rfl) ?_
    refine readVC_fa rfl rfl rfl ?_
    refine readsAt_step rfl (by rfl) ?_
    refine readVC_loadF (v := .int .i64 p) (z := .int .i64 p) rfl hB3.b0 rfl rfl (fun _ h => h) ?_
    refine readsAt_step rfl (by rfl) ?_
    refine readVC_sub rfl rfl ?_
    refine readsAt_step rfl (by rfl) ?_
    refine readVC_fa rfl rfl rfl ?_
    refine readsAt_step rfl (by rfl) ?_
    refine readVC_loadF (v := .int .i64 p) (z := .int .i64 p) rfl hB3.b0 rfl rfl (fun _ h => h) ?_
    refine readsAt_step rfl (by rfl) ?_
    refine readVC_loadR (l := 8) rfl rfl hB3.be (by omega) ?_
    refine readsAt_step rfl (by rfl) ?_
    refine readVC_loadR (l := 8) rfl rfl hB3.b1 (by omega) ?_
    refine readsAt_nil ?_
    refine restVC_val (i := 13) rfl (by rfl) rfl rfl rfl rfl rfl rfl (fun _ => rfl) (fun _ => rfl) (tensor_s p _ _ hV.hp (fun j hj => hDu j hj) (fun j hj => hg j hj)) ?_
    refine restVC_call (i := 14) rfl (by rfl) rfl rfl rfl rfl rfl ?_
    refine callVC_new rfl (fun _ => rfl) (Spec.mono (flatTable_s _) ?_)
    rintro _ _ ⟨c4, G4, rfl, _, hG4, rfl⟩
    refine ⟨64, c4, .ints .u8 64 G4, c4 * 1, rfl, rfl, fun _ => rfl, (Plus.snoc _ _ _ _).preM, ?_⟩
    have q4 := Plus.snoc M3 (.ints .u8 64 G4) (c4 * 1) M3.length
    have hBa4 := hB3.add rfl q4
    have ord4 := hB3.ord
    have new4 := q4.new
    have len4 := q4.len
    generalize M3 ++ [some (SV.ints .u8 64 G4, c4 * 1)] = Ma4 at hBa4 new4 len4 ⊢
    refine restVC_nil ?_
    refine opsVC_call rfl rfl rfl rfl rfl rfl ?_
    have hne4 : M1.length ≠ M3.length := by omega
    have hbq4 : Nat.beq M1.length M3.length = false := by
      cases hh : Nat.beq M1.length M3.length with
      | false => rfl
      | true => exact absurd (Nat.eq_of_beq_eq_true hh) hne4
    refine callVC_row2 (args' := [.int .i64 p, .sl 0 0 64 c, .int .i64 (p - 1), .sl 1 0 64 c4]) hne4 hBa4.br new4 rfl rfl (fun _ => rfl) (fun _ => rfl) rfl (by rw [hw1]; simp [SV.ren, posIn, Nat.beq_refl, hbq4]) ?_
    refine Spec.mono (addRow_s 64 _ _ _ _ p (p - 1) _ _ (by omega) hp0 ⟨by omega, by omega⟩ (fun j hj => by rw [hG j hj]; exact hC _ (by omega)) (fun j hj => by rw [hG4 j hj]; exact ten_u8 hp1 j hj)) ?_
    rintro r m' ⟨rfl, rfl⟩
    refine ⟨.ints .u8 64 (addM p G (p - 1) G4), fun _ => rfl, fun _ => rfl, rfl, ?_⟩
    (repeat (first | (with_reducible refine vc_exit ?_) | (with_reducible refine vc_ret ?_) | (with_reducible refine vc_skip ?_) | (with_reducible refine thenQ_x ?_) | (with_reducible refine thenQ_r ?_) | (with_reducible refine thenQ_n ?_) | (with_reducible refine blockQ_x rfl ?_) | (with_reducible refine blockQ_y rfl ?_) | (with_reducible refine blockQ_n ?_) | (with_reducible refine blockQ_r ?_) | (with_reducible refine vc_seq ?_) | (with_reducible refine vc_region ?_) | (with_reducible refine vc_block ?_) | (with_reducible refine vc_scope ?_) | (with_reducible refine opsVC_nil ?_)))
    have hBb4 := hBa4.set (addM p G (p - 1) G4)
    generalize hX4 : addM p G (p - 1) G4 = X4 at hBb4 ⊢
    generalize setBlock Ma4 M1.length (.ints .u8 64 X4) = Mb4 at hBb4 ⊢
    refine vc_gen (q := 0) 15 [0, 1, 2, 3, 4, 5, 6, 7, 8, 9, 10, 11, 12] [13, 14] (by kernel_rfl) (by kernel_rfl) (by kernel_rfl) ?_
    refine readsAt_step rfl (by rfl) ?_
    refine readVC_fa rfl rfl rfl ?_
    refine readsAt_step rfl (by rfl) ?_
    refine readVC_loadF (v := .int .i64 p) (z := .int .i64 p) rfl hBb4.b0 rfl rfl (fun _ h => h) ?_
    refine readsAt_step rfl (by rfl) ?_
    refine readVC_mv rfl ?_
    refine readsAt_step rfl (by rfl) ?_
    refine readVC_mv rfl ?_
    refine readsAt_step rfl (by rfl) ?_
    refine readVC_iaS rfl rfl rfl ⟨by omega, by omega⟩ ?_
    refine readsAt_step rfl (by rfl) ?_
    refine readVC_loadS (v := .sl M1.length 0 64 c) rfl rfl hBb4.b4 (by omega) hat rfl ?_
    refine readsAt_step rfl (by rfl) ?_
    refine readVC_fa rfl rfl rfl ?_
    refine readsAt_step rfl (by rfl) ?_
    refine readVC_loadF (v := .int .i64 p) (z := .int .i64 p) rfl hBb4.b0 rfl rfl (fun _ h => h) ?_
    refine readsAt_step rfl (by rfl) ?_
    refine readVC_sub rfl rfl ?_
    refine readsAt_step rfl (by rfl) ?_
    refine readVC_fa rfl rfl rfl ?_
    refine readsAt_step rfl (by rfl) ?_
    refine readVC_loadF (v := .int .i64 p) (z := .int .i64 p) rfl hBb4.b0 rfl rfl (fun _ h => h) ?_
    refine readsAt_step rfl (by rfl) ?_
    refine readVC_loadR (l := 8) rfl rfl hBb4.b2 (by omega) ?_
    refine readsAt_step rfl (by rfl) ?_
    refine readVC_loadR (l := 8) rfl rfl hBb4.be (by omega) ?_
    refine readsAt_nil ?_
    refine restVC_val (i := 13) rfl (by rfl) rfl rfl rfl rfl rfl rfl (fun _ => rfl) (fun _ => rfl) (tensor_s p _ _ hV.hp (fun j hj => hh j hj) (fun j hj => hDu j hj)) ?_
    refine restVC_call (i := 14) rfl (by rfl) rfl rfl rfl rfl rfl ?_
    refine callVC_new rfl (fun _ => rfl) (Spec.mono (flatTable_s _) ?_)
    rintro _ _ ⟨c5, G5, rfl, _, hG5, rfl⟩
    refine ⟨64, c5, .ints .u8 64 G5, c5 * 1, rfl, rfl, fun _ => rfl, (Plus.snoc _ _ _ _).preM, ?_⟩
    have q5 := Plus.snoc Mb4 (.ints .u8 64 G5) (c5 * 1) Mb4.length
    have hBa5 := hBb4.add rfl q5
    have ord5 := hBb4.ord
    have new5 := q5.new
    have len5 := q5.len
    generalize Mb4 ++ [some (SV.ints .u8 64 G5, c5 * 1)] = Ma5 at hBa5 new5 len5 ⊢
    refine restVC_nil ?_
    refine opsVC_call rfl rfl rfl rfl rfl rfl ?_
    have hne5 : M1.length ≠ Mb4.length := by omega
    have hbq5 : Nat.beq M1.length Mb4.length = false := by
      cases hh : Nat.beq M1.length Mb4.length with
      | false => rfl
      | true => exact absurd (Nat.eq_of_beq_eq_true hh) hne5
    refine callVC_row2 (args' := [.int .i64 p, .sl 0 0 64 c, .int .i64 (p - 1), .sl 1 0 64 c5]) hne5 hBa5.br new5 rfl rfl (fun _ => rfl) (fun _ => rfl) rfl (by rw [hw1]; simp [SV.ren, posIn, Nat.beq_refl, hbq5]) ?_
    refine Spec.mono (addRow_s 64 _ _ _ _ p (p - 1) _ _ (by omega) hp0 ⟨by omega, by omega⟩ (fun j hj => by rw [← hX4]; exact addM_rng8 hp1 _ _ _ j) (fun j hj => by rw [hG5 j hj]; exact ten_u8 hp1 j hj)) ?_
    rintro r m' ⟨rfl, rfl⟩
    refine ⟨.ints .u8 64 (addM p X4 (p - 1) G5), fun _ => rfl, fun _ => rfl, rfl, ?_⟩
    (repeat (first | (with_reducible refine vc_exit ?_) | (with_reducible refine vc_ret ?_) | (with_reducible refine vc_skip ?_) | (with_reducible refine thenQ_x ?_) | (with_reducible refine thenQ_r ?_) | (with_reducible refine thenQ_n ?_) | (with_reducible refine blockQ_x rfl ?_) | (with_reducible refine blockQ_y rfl ?_) | (with_reducible refine blockQ_n ?_) | (with_reducible refine blockQ_r ?_) | (with_reducible refine vc_seq ?_) | (with_reducible refine vc_region ?_) | (with_reducible refine vc_block ?_) | (with_reducible refine vc_scope ?_) | (with_reducible refine opsVC_nil ?_)))
    have hBb5 := hBa5.set (addM p X4 (p - 1) G5)
    generalize hX5 : addM p X4 (p - 1) G5 = X5 at hBb5 ⊢
    generalize setBlock Ma5 M1.length (.ints .u8 64 X5) = Mb5 at hBb5 ⊢
    refine Exists.intro (i + 1, updV H i (.sl M1.length 0 64 c), (fun l => if l = i then M1.length else ρ l), (fun l => if l = i then c else cp l), (fun l => if l = i then X5 else F l), Mb5) (Exists.intro (fun i => i) (And.intro ⟨hin, hBb5.b0, hBb5.b1, hBb5.b2, hBb5.b4, fun l hl => ?_, fun l hl => ?_, fun l hl => ?_, fun l hl q hq => ?_, hBb5.clo⟩ (And.intro (show n - (i + 1) < n - i by omega) (RenTo.same ?_ fun i u d hb => ⟨u, hb, eqv_refl u⟩))))
    · have hl : l < i + 1 := hl
      show updV H i (.sl M1.length 0 64 c) l = .sl (if l = i then M1.length else ρ l) 0 64 (if l = i then c else cp l)
      unfold updV
      by_cases e : l = i
      · rw [if_pos e, if_pos e, if_pos e]
      · rw [if_neg e, if_neg e, if_neg e]; exact hsl l (by omega)
    · have hl : l < i + 1 := hl
      show blockOf Mb5 (if l = i then M1.length else ρ l) = some (.ints .u8 64 (if l = i then X5 else F l), (if l = i then c else cp l) * 1)
      by_cases e : l = i
      · rw [if_pos e, if_pos e, if_pos e]; exact hBb5.br
      · rw [if_neg e, if_neg e, if_neg e]
        have hr := hrow l (by omega)
        have h3 : ρ l < M.length := blockOf_lt (by rw [hr]; rfl)
        exact (hBb5.old _ (hge l (by omega)) h3).trans hr
    · have hl : l < i + 1 := hl
      show 4 < (if l = i then M1.length else ρ l)
      by_cases e : l = i
      · rw [if_pos e]; omega
      · rw [if_neg e]; exact hge l (by omega)
    · have hl : l < i + 1 := hl
      show (if l = i then X5 else F l) q = _
      by_cases e : l = i
      · rw [if_pos e, e, ← hX5]
        unfold pimg addM
        rw [hG5 q hq, ← hX4]
        unfold addM
        rw [hG q hq, hG4 q hq, show q + ((i : Int).toNat * 64 + 0) = i * 64 + q by omega]
        unfold tenF
        dsimp only
        rw [show D (q / 8 + 0) = unitV i (q / 8) from hD _ (by omega), show D (q % 8 + 0) = unitV i (q % 8) from hD _ (by omega)]
      · rw [if_neg e]; exact hval l (by omega) q hq
    · exact And.intro rfl (And.intro rfl (And.intro rfl (And.intro rfl (And.intro rfl (And.intro (slotI (wrapS (by omega))) trivial)))))
  · have hin : i = n := by have := of_decide_eq_false h1; omega
    subst hin
    (repeat (first | (with_reducible refine vc_exit ?_) | (with_reducible refine vc_ret ?_) | (with_reducible refine vc_skip ?_) | (with_reducible refine thenQ_x ?_) | (with_reducible refine thenQ_r ?_) | (with_reducible refine thenQ_n ?_) | (with_reducible refine blockQ_x rfl ?_) | (with_reducible refine blockQ_y rfl ?_) | (with_reducible refine blockQ_n ?_) | (with_reducible refine blockQ_r ?_) | (with_reducible refine vc_seq ?_) | (with_reducible refine vc_region ?_) | (with_reducible refine vc_block ?_) | (with_reducible refine vc_scope ?_) | (with_reducible refine opsVC_nil ?_)))
    refine opsVC_fa rfl rfl rfl rfl rfl ?_
    refine opsVC_loadF (v := .int .i64 p) (z := .int .i64 p) rfl rfl rfl m0 rfl rfl (fun _ h => h) ?_
    refine opsVC_mv rfl rfl rfl ?_
    refine opsVC_dir rfl rfl rfl rfl rfl rfl ?_
    refine Spec.mono (kernelOf_s M 4 i i i i 64 p H ρ (fun _ => 0) cp (fun _ => 64) (fun l => cp l * 1) F m4 (Nat.le_refl _) hsl hrow (fun l hl => by omega) hclo hn (by omega) hp hp2 (fun l hl q hq => by rw [show F l (q + 0) = F l q from rfl, hval l hl _ hq]; exact mod_rng (by omega) _)) ?_
    rintro r m' ⟨id, k, c, A, hrv, hR, hb, hl, hold⟩
    refine ⟨fun q hq h => by rw [hold q hq] at h; exact h, ?_⟩
    have hR : RedL p (PrimSp p i C g h) k A := hR.of_iff fun v => by
      refine and_congr_right fun hv => forall_congr' fun q => forall_congr' fun hq => ?_
      have : apW p (fun l q => F l (q + 0)) v q = apW p (pimg p C g h) v q := by
        unfold apW
        refine congrArg (· % (p : Int)) (sumN_congr 8 fun l hl => ?_)
        by_cases e : l < i
        · show v l * F l q = _; rw [hval l e q hq]
        · rw [hv.out l (by omega) hl, Int.zero_mul, Int.zero_mul]
      rw [this]
    by_cases hk : k = 0
    · subst hk
      have hrv : r = .nilsl := hrv
      subst hrv
      exact .inr (.inr ⟨rfl, rfl, A, rfl, hR⟩)
    · have hrv : r = .sl id 0 k c := by rw [hrv]; unfold listV; rw [if_neg hk]
      subst hrv
      exact .inr (.inl ⟨rfl, id, k, c, A, fun _ => hk, rfl, hR, (hb hk).2.2, (hb hk).2.1⟩)
theorem implPrim_s (p n : Int) (U C g h : Nat → Int) (hU : isU8 8 U) (hC : isU8 512 C) (hg : isU8 8 g) (hh : isU8 8 h) :
    Spec Try.prog 10 [algV p n U C, .ints .u8 8 g, .ints .u8 8 h] [] (ListR true (primCode p n U C g h) p.toNat (PrimSp p.toNat n.toNat C g h)) := ListQ.one (implPrim0_s p n U C g h hU hC hg hh)
end Go.Proofs.Ytcocapkdpbdmdaa

/- PrimitiveSpace: the model's side, and the law. -/
set_option linter.unusedVariables false
set_option linter.unusedSimpArgs false
set_option linter.unusedSectionVars false
set_option maxRecDepth 100000
set_option maxHeartbeats 8000000
namespace Go.Proofs.Ytcocapkdpbdmdaa
open M

theorem specPrim0_s (p n : Int) (U C g h : Nat → Int) (hU : isU8 8 U) (hC : isU8 512 C) (hg : isU8 8 g) (hh : isU8 8 h) :
    Spec Try.prog 7 [algV p n U C, .ints .u8 8 g, .ints .u8 8 h] [] (ListQ false (primCode p n U C g h) p.toNat (PrimSp p.toNat n.toNat C g h)) := by
  refine (Spec.of_vc tabOK tabEq Try.func7 rfl (by kernel_rfl) rfl rfl ?_)
  (repeat (first | refine And.intro (by omega) ?_ | refine And.intro ⟨by omega, by omega⟩ ?_))
  refine And.intro (And.intro rfl trivial) (Spec.mono (l02Code_s p n U C 2 (twoV (fun j => 0) g h) (by omega) hU hC (two_u8 hg hh)) ?_)
  rintro r m ⟨rfl, rfl⟩
  rw [two_vectors]
  refine ifVC_split (fun hc => ?_) (fun hc => ?_)
  · have hc : coTwo p n U C g h = false := by
      cases hm : coTwo p n U C g h with
      | false => rfl
      | true => unfold coTwo at hm; rw [if_pos hm] at hc; simp at hc
    have hc' : (coB p n U C && (entriesB p n g && entriesB p n h)) = false := hc
    exact .inl ⟨by unfold primCode; rw [hc]; simp, by unfold primCode; rw [hc]; show SV.tcons .nilsl (.tcons (.int .i64 (if (coB p n U C && (entriesB p n g && entriesB p n h)) = true then 0 else 1)) .tnil) = _; rw [hc']; rfl⟩
  have hc : coTwo p n U C g h = true := by
    cases hm : coTwo p n U C g h with
    | true => rfl
    | false => unfold coTwo at hm; rw [if_neg (by rw [hm]; simp)] at hc; simp at hc
  obtain ⟨p, n, rfl, rfl, hp, hp2, hn, hV, hgv, hhv⟩ := coTwo_spec hU hC hg hh hc
  unfold primCode
  rw [if_pos hc]
  have out5 : (groupB p U C g && groupB p U C h) = false → ListQ false (if (groupB p U C g && groupB p U C h) = true then (0 : Int) else 5) (p : Int).toNat (PrimSp (p : Int).toNat (n : Int).toNat C g h) (.tcons .nilsl (.tcons (.int .i64 5) .tnil)) [some (algV p n U C, 522), some (.ints .u8 8 g, 8), some (.ints .u8 8 h, 8), some (.ints .u8 (2 * 8) (twoV (fun j => 0) g h), 2 * 8)] := fun e => .inl ⟨by rw [e]; simp, by rw [e]; rfl⟩
  (repeat (first | refine And.intro (by omega) ?_ | refine And.intro ⟨by omega, by omega⟩ ?_))
  refine And.intro trivial (Spec.mono (l02Group_s p n U C _ hV hU hC (fun j hj => hg _ (by omega)) (fun i h1 h2 => hgv.out i h1 h2)) ?_)
  rintro r m ⟨rfl, rfl⟩
  refine ifVC_split (fun e1 => ?_) (fun e1 => ?_)
  · have e1 : groupB p U C g = false := by have e1 : (!groupB p U C g) = true := e1; simpa using e1
    exact out5 (by rw [e1]; rfl)
  have e1 : groupB p U C g = true := by have e1 : (!groupB p U C g) = false := e1; simpa using e1
  (repeat (first | refine And.intro (by omega) ?_ | refine And.intro ⟨by omega, by omega⟩ ?_))
  refine And.intro trivial (Spec.mono (l02Group_s p n U C _ hV hU hC (fun j hj => hh _ (by omega)) (fun i h1 h2 => hhv.out i h1 h2)) ?_)
  rintro r m ⟨rfl, rfl⟩
  refine ifVC_split (fun e2 => ?_) (fun e2 => ?_)
  · have e2 : groupB p U C h = false := by have e2 : (!groupB p U C h) = true := e2; simpa using e2
    exact out5 (by rw [e2, Bool.and_false])
  have e2 : groupB p U C h = true := by have e2 : (!groupB p U C h) = false := e2; simpa using e2
  rw [e1, e2]
  rw [if_pos (show (true && true) = true from rfl)]
  (repeat (first | refine And.intro (by omega) ?_ | refine And.intro ⟨by omega, by omega⟩ ?_))
  refine And.intro trivial (Spec.mono (l02Primitive_s p n U C _ _ hp hp2 hn.2 hC hgv hhv) ?_)
  rintro r m ⟨id, k, c, A, hR, hk, rfl, hb⟩
  have hR : RedL p (PrimSp p n C g h) k A := hR.of_iff fun v => (prim_iff (by omega) hn.2 (fun i j k hi hj hk hz => by
    have hz0 : vecT C i j k = 0 := co_zero hV (by omega) hj hk (by omega)
    unfold vecT at hz0
    first | exact hz0 | (rwa [show k + (j * 8 + i * 64) = i * 64 + j * 8 + k by omega] at hz0)) hgv hhv v).symm
  exact .inr (.inl ⟨rfl, _, k, c, A, (fun h => by cases h), rfl, hR, hk, back_new _ _ hb⟩)
theorem specPrim_s (p n : Int) (U C g h : Nat → Int) (hU : isU8 8 U) (hC : isU8 512 C) (hg : isU8 8 g) (hh : isU8 8 h) :
    Spec Try.prog 7 [algV p n U C, .ints .u8 8 g, .ints .u8 8 h] [] (ListR false (primCode p n U C g h) p.toNat (PrimSp p.toNat n.toNat C g h)) := ListQ.one (specPrim0_s p n U C g h hU hC hg hh)

end Go.Proofs.Ytcocapkdpbdmdaa

/- PrimitiveSpace: the law. -/
set_option linter.unusedVariables false
set_option linter.unusedSimpArgs false
set_option linter.unusedSectionVars false
set_option maxRecDepth 100000
set_option maxHeartbeats 8000000
namespace Go.Proofs.Ytcocapkdpbdmdaa
open M

theorem readVC_ex {T : Tab} {s : Slots} {m : Mem} {x : Operand} {i : Nat} {v w : SV} {Kv : SV → Prop} (hx : ev s x = some v) (hw : tupleAt v i = some w) (hk : Kv w) : readVC T (.extract x i) s m Kv := by
  simp only [readVC, hx, hw]
  exact hk
theorem lawPrim_c (p n : Int) (U C : Nat → Int) (hU : isU8 8 U) (hC : isU8 512 C) (g : Nat → Int) (hg : isU8 8 g) (h : Nat → Int) (hh : isU8 8 h) : Spec Try.prog 3 [algV p n U C, .ints .u8 8 g, .ints .u8 8 h] [] (Ret (.bool true)) := by
  refine Spec.ret rfl (Spec.of_vc tabOK tabEq Try.func3 rfl (by kernel_rfl) rfl rfl ?_)
  have hp1 : primCode p n U C g h = 0 → 1 < (p.toNat : Int) := fun h0 => by
    by_cases hc : coTwo p n U C g h = true
    · obtain ⟨p', n', rfl, rfl, _, hp2, _⟩ := coTwo_spec hU hC hg hh hc
      omega
    · unfold primCode at h0; rw [if_neg hc] at h0; omega
  refine Exists.intro 10711 (And.intro (by kernel_rfl) ?_)
  refine readsAt_step rfl (by rfl) ?_
  refine readVC_loadF (v := algV p n U C) (z := algV p n U C) rfl rfl rfl rfl (fun _ h => h) ?_
  refine readsAt_step rfl (by rfl) ?_
  refine readVC_loadR (l := 8) rfl rfl rfl (by omega) ?_
  refine readsAt_step rfl (by rfl) ?_
  refine readVC_loadR (l := 8) rfl rfl rfl (by omega) ?_
  refine readsAt_nil ?_
  refine restVC_val (i := 1) rfl (by rfl) rfl rfl rfl rfl rfl rfl (fun _ => rfl) (fun _ => rfl) (toCoalgebra_s p n U C) ?_
  refine restVC_val (i := 3) rfl (by rfl) rfl rfl rfl rfl rfl rfl (fun _ => rfl) (fun _ => rfl) (toVector_s _) ?_
  refine restVC_val (i := 5) rfl (by rfl) rfl rfl rfl rfl rfl rfl (fun _ => rfl) (fun _ => rfl) (toVector_s _) ?_
  refine restVC_call (i := 6) rfl (by rfl) rfl rfl rfl rfl rfl ?_
  refine And.intro trivial (Spec.mono (specPrim_s p n U C g h hU hC hg hh) ?_)
  rintro r m (⟨he, rfl, rfl⟩ | ⟨he, k0, c0, A0, _, rfl, hR0, rfl⟩ | ⟨_, hf, _⟩) <;> first | (refine And.intro (by repeat (first | exact trivial | refine And.intro rfl ?_)) ?_; refine restVC_nil ?_; refine readsAt_step rfl (by rfl) ?_; refine readVC_mv rfl ?_; refine readsAt_step rfl (by rfl) ?_; refine readVC_ex rfl rfl ?_; refine readsAt_step rfl (by rfl) ?_; refine readVC_ex rfl rfl ?_; refine readsAt_step rfl (by rfl) ?_; refine readVC_as rfl ?_; refine readsAt_nil ?_) | skip
  · -- an error on both sides
    change opsVC _ _ _ _ _ _ [some (algV p n U C, 522), some (.ints .u8 8 g, 8), some (.ints .u8 8 h, 8)] _
    refine Exists.intro 10711 (And.intro (by kernel_rfl) ?_)
    refine readsAt_step rfl (by rfl) ?_
    refine readVC_loadF (v := algV p n U C) (z := algV p n U C) rfl rfl rfl rfl (fun _ h => h) ?_
    refine readsAt_step rfl (by rfl) ?_
    refine readVC_loadR (l := 8) rfl rfl rfl (by omega) ?_
    refine readsAt_step rfl (by rfl) ?_
    refine readVC_loadR (l := 8) rfl rfl rfl (by omega) ?_
    refine readsAt_nil ?_
    refine restVC_val (i := 1) rfl (by rfl) rfl rfl rfl rfl rfl rfl (fun _ => rfl) (fun _ => rfl) (toCoalgebra_s p n U C) ?_
    refine restVC_val (i := 3) rfl (by rfl) rfl rfl rfl rfl rfl rfl (fun _ => rfl) (fun _ => rfl) (toVector_s _) ?_
    refine restVC_val (i := 5) rfl (by rfl) rfl rfl rfl rfl rfl rfl (fun _ => rfl) (fun _ => rfl) (toVector_s _) ?_
    refine restVC_call (i := 6) rfl (by rfl) rfl rfl rfl rfl rfl ?_
    refine And.intro trivial (Spec.mono (implPrim_s p n U C g h hU hC hg hh) ?_)
    rintro r m (⟨_, rfl, rfl⟩ | ⟨he', _⟩ | ⟨he', _⟩) <;> first | (refine And.intro (by repeat (first | exact trivial | refine And.intro rfl ?_)) ?_; refine restVC_nil ?_; refine readsAt_step rfl (by rfl) ?_; refine readVC_mv rfl ?_; refine readsAt_step rfl (by rfl) ?_; refine readVC_ex rfl rfl ?_; refine readsAt_step rfl (by rfl) ?_; refine readVC_ex rfl rfl ?_; refine readsAt_step rfl (by rfl) ?_; refine readVC_as rfl ?_; refine readsAt_nil ?_) | skip
    rotate_left
    · exact absurd he' he
    · exact absurd he' he
    refine And.intro trivial (Spec.mono (eqVecsNil_s) ?_)
    rintro r m ⟨rfl, rfl⟩
    refine ifVC_false (by simp) ?_
    refine And.intro trivial (Spec.mono (markVecsNil_s 101) ?_)
    rintro r m ⟨rfl, rfl⟩
    refine And.intro trivial (Spec.mono (heldVecsNil_s 101) ?_)
    rintro r m ⟨rfl, rfl⟩
    change opsVC _ _ _ _ _ _ [some (algV p n U C, 522), some (.ints .u8 8 g, 8), some (.ints .u8 8 h, 8)] _
    refine Exists.intro 10711 (And.intro (by kernel_rfl) ?_)
    refine readsAt_step rfl (by rfl) ?_
    refine readVC_loadF (v := algV p n U C) (z := algV p n U C) rfl rfl rfl rfl (fun _ h => h) ?_
    refine readsAt_step rfl (by rfl) ?_
    refine readVC_loadR (l := 8) rfl rfl rfl (by omega) ?_
    refine readsAt_step rfl (by rfl) ?_
    refine readVC_loadR (l := 8) rfl rfl rfl (by omega) ?_
    refine readsAt_nil ?_
    refine restVC_val (i := 1) rfl (by rfl) rfl rfl rfl rfl rfl rfl (fun _ => rfl) (fun _ => rfl) (toCoalgebra_s p n U C) ?_
    refine restVC_val (i := 3) rfl (by rfl) rfl rfl rfl rfl rfl rfl (fun _ => rfl) (fun _ => rfl) (toVector_s _) ?_
    refine restVC_val (i := 5) rfl (by rfl) rfl rfl rfl rfl rfl rfl (fun _ => rfl) (fun _ => rfl) (toVector_s _) ?_
    refine restVC_call (i := 6) rfl (by rfl) rfl rfl rfl rfl rfl ?_
    refine And.intro trivial (Spec.mono (implPrim_s p n U C g h hU hC hg hh) ?_)
    rintro r m (⟨_, rfl, rfl⟩ | ⟨he', _⟩ | ⟨he', _⟩) <;> first | (refine And.intro (by repeat (first | exact trivial | refine And.intro rfl ?_)) ?_; refine restVC_nil ?_; refine readsAt_step rfl (by rfl) ?_; refine readVC_mv rfl ?_; refine readsAt_step rfl (by rfl) ?_; refine readVC_ex rfl rfl ?_; refine readsAt_step rfl (by rfl) ?_; refine readVC_ex rfl rfl ?_; refine readsAt_step rfl (by rfl) ?_; refine readVC_as rfl ?_; refine readsAt_nil ?_) | skip
    rotate_left
    · exact absurd he' he
    · exact absurd he' he
    refine And.intro trivial (Spec.mono (eqVecsNil_s) ?_)
    rintro r m ⟨rfl, rfl⟩
    refine ifVC_false (by simp) ?_
    refine And.intro trivial (Spec.mono (heldVecsNil_s 101) ?_)
    rintro r m ⟨rfl, rfl⟩
    exact boolEq rfl
  · -- a list
    have hk0 : k0 ≤ 8 := red_k hR0
    have uniq := fun k A (h : RedL _ _ k A) => redL_uniq (hp1 he) (kerG_space (hp1 he)) hR0 h
    change opsVC _ _ _ _ _ _ [some (algV p n U C, 522), some (.ints .u8 8 g, 8), some (.ints .u8 8 h, 8), some (.ints .u8 (k0 * 8) A0, c0 * 8)] _
    refine Exists.intro 10711 (And.intro (by kernel_rfl) ?_)
    refine readsAt_step rfl (by rfl) ?_
    refine readVC_loadF (v := algV p n U C) (z := algV p n U C) rfl rfl rfl rfl (fun _ h => h) ?_
    refine readsAt_step rfl (by rfl) ?_
    refine readVC_loadR (l := 8) rfl rfl rfl (by omega) ?_
    refine readsAt_step rfl (by rfl) ?_
    refine readVC_loadR (l := 8) rfl rfl rfl (by omega) ?_
    refine readsAt_nil ?_
    refine restVC_val (i := 1) rfl (by rfl) rfl rfl rfl rfl rfl rfl (fun _ => rfl) (fun _ => rfl) (toCoalgebra_s p n U C) ?_
    refine restVC_val (i := 3) rfl (by rfl) rfl rfl rfl rfl rfl rfl (fun _ => rfl) (fun _ => rfl) (toVector_s _) ?_
    refine restVC_val (i := 5) rfl (by rfl) rfl rfl rfl rfl rfl rfl (fun _ => rfl) (fun _ => rfl) (toVector_s _) ?_
    refine restVC_call (i := 6) rfl (by rfl) rfl rfl rfl rfl rfl ?_
    refine And.intro trivial (Spec.mono (implPrim_s p n U C g h hU hC hg hh) ?_)
    rintro r m (⟨he', _⟩ | ⟨_, k1, c1, A1, hk1, rfl, hR1, rfl⟩ | ⟨_, _, A1, rfl, hR1, rfl⟩) <;> first | (refine And.intro (by repeat (first | exact trivial | refine And.intro rfl ?_)) ?_; refine restVC_nil ?_; refine readsAt_step rfl (by rfl) ?_; refine readVC_mv rfl ?_; refine readsAt_step rfl (by rfl) ?_; refine readVC_ex rfl rfl ?_; refine readsAt_step rfl (by rfl) ?_; refine readVC_ex rfl rfl ?_; refine readsAt_step rfl (by rfl) ?_; refine readVC_as rfl ?_; refine readsAt_nil ?_) | skip
    · exact absurd he he'
    rotate_left
    · obtain ⟨hz, _⟩ := uniq _ _ hR1
      subst hz
      change opsVC _ _ _ _ _ _ [some (algV p n U C, 522), some (.ints .u8 8 g, 8), some (.ints .u8 8 h, 8), some (.ints .u8 (0 * 8) A0, c0 * 8)] _
      refine And.intro (And.intro rfl trivial) (Spec.mono (eqVecsEmpty_s c0 (c0 * 8) A0) ?_)
      rintro r m ⟨rfl, rfl⟩
      change opsVC _ _ _ _ _ _ [some (algV p n U C, 522), some (.ints .u8 8 g, 8), some (.ints .u8 8 h, 8), some (.ints .u8 (0 * 8) A0, c0 * 8)] _
      refine And.intro trivial (Spec.mono (markVecsNil_s 101) ?_)
      rintro r m ⟨rfl, rfl⟩
      refine And.intro trivial (Spec.mono (heldVecsNil_s 101) ?_)
      rintro r m ⟨rfl, rfl⟩
      change opsVC _ _ _ _ _ _ [some (algV p n U C, 522), some (.ints .u8 8 g, 8), some (.ints .u8 8 h, 8), some (.ints .u8 (0 * 8) A0, c0 * 8)] _
      refine Exists.intro 10711 (And.intro (by kernel_rfl) ?_)
      refine readsAt_step rfl (by rfl) ?_
      refine readVC_loadF (v := algV p n U C) (z := algV p n U C) rfl rfl rfl rfl (fun _ h => h) ?_
      refine readsAt_step rfl (by rfl) ?_
      refine readVC_loadR (l := 8) rfl rfl rfl (by omega) ?_
      refine readsAt_step rfl (by rfl) ?_
      refine readVC_loadR (l := 8) rfl rfl rfl (by omega) ?_
      refine readsAt_nil ?_
      refine restVC_val (i := 1) rfl (by rfl) rfl rfl rfl rfl rfl rfl (fun _ => rfl) (fun _ => rfl) (toCoalgebra_s p n U C) ?_
      refine restVC_val (i := 3) rfl (by rfl) rfl rfl rfl rfl rfl rfl (fun _ => rfl) (fun _ => rfl) (toVector_s _) ?_
      refine restVC_val (i := 5) rfl (by rfl) rfl rfl rfl rfl rfl rfl (fun _ => rfl) (fun _ => rfl) (toVector_s _) ?_
      refine restVC_call (i := 6) rfl (by rfl) rfl rfl rfl rfl rfl ?_
      refine And.intro trivial (Spec.mono (implPrim_s p n U C g h hU hC hg hh) ?_)
      rintro r m (⟨he', _⟩ | ⟨_, k2, c2, A2, hk2, rfl, hR2, rfl⟩ | ⟨_, _, A2, rfl, hR2, rfl⟩) <;> first | (refine And.intro (by repeat (first | exact trivial | refine And.intro rfl ?_)) ?_; refine restVC_nil ?_; refine readsAt_step rfl (by rfl) ?_; refine readVC_mv rfl ?_; refine readsAt_step rfl (by rfl) ?_; refine readVC_ex rfl rfl ?_; refine readsAt_step rfl (by rfl) ?_; refine readVC_ex rfl rfl ?_; refine readsAt_step rfl (by rfl) ?_; refine readVC_as rfl ?_; refine readsAt_nil ?_) | skip
      · exact absurd he he'
      · obtain ⟨hz, _⟩ := uniq _ _ hR2; exact absurd hz.symm (hk2 rfl)
      change opsVC _ _ _ _ _ _ [some (algV p n U C, 522), some (.ints .u8 8 g, 8), some (.ints .u8 8 h, 8), some (.ints .u8 (0 * 8) A0, c0 * 8)] _
      refine And.intro (And.intro rfl trivial) (Spec.mono (eqVecsEmpty_s c0 (c0 * 8) A0) ?_)
      rintro r m ⟨rfl, rfl⟩
      change opsVC _ _ _ _ _ _ [some (algV p n U C, 522), some (.ints .u8 8 g, 8), some (.ints .u8 8 h, 8), some (.ints .u8 (0 * 8) A0, c0 * 8)] _
      refine And.intro trivial (Spec.mono (heldVecsNil_s 101) ?_)
      rintro r m ⟨rfl, rfl⟩
      exact boolEq rfl
    obtain ⟨hz, hA⟩ := uniq _ _ hR1
    subst hz
    change opsVC _ _ _ _ _ _ [some (algV p n U C, 522), some (.ints .u8 8 g, 8), some (.ints .u8 8 h, 8), some (.ints .u8 (k0 * 8) A0, c0 * 8), some (.ints .u8 (k0 * 8) A1, c1 * 8)] _
    refine And.intro (And.intro rfl (And.intro rfl trivial)) (Spec.mono (eqVecs_s k0 c1 c0 A1 A0 (by omega) (fun j hj => (hA j hj).symm)) ?_)
    rintro r m ⟨rfl, rfl⟩
    change opsVC _ _ _ _ _ _ [some (algV p n U C, 522), some (.ints .u8 8 g, 8), some (.ints .u8 8 h, 8), some (.ints .u8 (k0 * 8) A0, c0 * 8), some (.ints .u8 (k0 * 8) A1, c1 * 8)] _
    refine And.intro (And.intro rfl trivial) (Spec.mono (markVecs_s k0 c1 101 A1 (by omega) (by omega)) ?_)
    rintro r m ⟨rfl, rfl⟩
    change opsVC _ _ _ _ _ _ [some (algV p n U C, 522), some (.ints .u8 8 g, 8), some (.ints .u8 8 h, 8), some (.ints .u8 (k0 * 8) A0, c0 * 8), some (.ints .u8 (k0 * 8) (markF 101), c1 * 8)] _
    refine And.intro (And.intro rfl trivial) (Spec.mono (heldVecs_s k0 c1 101 (by omega) (by omega)) ?_)
    rintro r m ⟨rfl, rfl⟩
    change opsVC _ _ _ _ _ _ [some (algV p n U C, 522), some (.ints .u8 8 g, 8), some (.ints .u8 8 h, 8), some (.ints .u8 (k0 * 8) A0, c0 * 8), some (.ints .u8 (k0 * 8) (markF 101), c1 * 8)] _
    refine ifVC_false (by simp) ?_
    refine Exists.intro 10711 (And.intro (by kernel_rfl) ?_)
    refine readsAt_step rfl (by rfl) ?_
    refine readVC_loadF (v := algV p n U C) (z := algV p n U C) rfl rfl rfl rfl (fun _ h => h) ?_
    refine readsAt_step rfl (by rfl) ?_
    refine readVC_loadR (l := 8) rfl rfl rfl (by omega) ?_
    refine readsAt_step rfl (by rfl) ?_
    refine readVC_loadR (l := 8) rfl rfl rfl (by omega) ?_
    refine readsAt_nil ?_
    refine restVC_val (i := 1) rfl (by rfl) rfl rfl rfl rfl rfl rfl (fun _ => rfl) (fun _ => rfl) (toCoalgebra_s p n U C) ?_
    refine restVC_val (i := 3) rfl (by rfl) rfl rfl rfl rfl rfl rfl (fun _ => rfl) (fun _ => rfl) (toVector_s _) ?_
    refine restVC_val (i := 5) rfl (by rfl) rfl rfl rfl rfl rfl rfl (fun _ => rfl) (fun _ => rfl) (toVector_s _) ?_
    refine restVC_call (i := 6) rfl (by rfl) rfl rfl rfl rfl rfl ?_
    refine And.intro trivial (Spec.mono (implPrim_s p n U C g h hU hC hg hh) ?_)
    rintro r m (⟨he', _⟩ | ⟨_, k2, c2, A2, hk2, rfl, hR2, rfl⟩ | ⟨_, _, A2, rfl, hR2, rfl⟩) <;> first | (refine And.intro (by repeat (first | exact trivial | refine And.intro rfl ?_)) ?_; refine restVC_nil ?_; refine readsAt_step rfl (by rfl) ?_; refine readVC_mv rfl ?_; refine readsAt_step rfl (by rfl) ?_; refine readVC_ex rfl rfl ?_; refine readsAt_step rfl (by rfl) ?_; refine readVC_ex rfl rfl ?_; refine readsAt_step rfl (by rfl) ?_; refine readVC_as rfl ?_; refine readsAt_nil ?_) | skip
    · exact absurd he he'
    rotate_left
    · obtain ⟨hz, _⟩ := uniq _ _ hR2; exact absurd hz (hk1 rfl)
    obtain ⟨hz, hA2⟩ := uniq _ _ hR2
    subst hz
    change opsVC _ _ _ _ _ _ [some (algV p n U C, 522), some (.ints .u8 8 g, 8), some (.ints .u8 8 h, 8), some (.ints .u8 (k0 * 8) A0, c0 * 8), some (.ints .u8 (k0 * 8) (markF 101), c1 * 8), some (.ints .u8 (k0 * 8) A2, c2 * 8)] _
    refine And.intro (And.intro rfl (And.intro rfl trivial)) (Spec.mono (eqVecs_s k0 c2 c0 A2 A0 (by omega) (fun j hj => (hA2 j hj).symm)) ?_)
    rintro r m ⟨rfl, rfl⟩
    change opsVC _ _ _ _ _ _ [some (algV p n U C, 522), some (.ints .u8 8 g, 8), some (.ints .u8 8 h, 8), some (.ints .u8 (k0 * 8) A0, c0 * 8), some (.ints .u8 (k0 * 8) (markF 101), c1 * 8), some (.ints .u8 (k0 * 8) A2, c2 * 8)] _
    refine And.intro (And.intro rfl trivial) (Spec.mono (heldVecs_s k0 c1 101 (by omega) (by omega)) ?_)
    rintro r m ⟨rfl, rfl⟩
    change opsVC _ _ _ _ _ _ [some (algV p n U C, 522), some (.ints .u8 8 g, 8), some (.ints .u8 8 h, 8), some (.ints .u8 (k0 * 8) A0, c0 * 8), some (.ints .u8 (k0 * 8) (markF 101), c1 * 8), some (.ints .u8 (k0 * 8) A2, c2 * 8)] _
    refine ifVC_false (by simp) ?_
    exact boolEq rfl
  · cases hf
end Go.Proofs.Ytcocapkdpbdmdaa
