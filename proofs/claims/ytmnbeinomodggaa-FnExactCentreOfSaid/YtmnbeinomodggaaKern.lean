/- Kernels by rows: what leads to zeros alone, as a reduced list. -/
import Derived.Test.YtmnbeinomodggaaList
set_option linter.unusedVariables false
set_option maxRecDepth 100000
set_option maxHeartbeats 4000000
namespace Go.Proofs.Ytmnbeinomodggaa
open M

/-! ### rows of any width with a basis behind them -/
/-- the sum of the multiples of images, at a place -/
def apW (p : Int) (g : Nat → Nat → Int) (x : Nat → Int) (j : Nat) : Int := sumN 8 (fun i => x i * g i j) % p
theorem apW_congr {p : Int} {g : Nat → Nat → Int} {x y : Nat → Int} {j : Nat} (h : ∀ i, i < 8 → x i = y i) : apW p g x j = apW p g y j := by
  unfold apW; rw [sumN_congr 8 fun i hi => by rw [h i hi]]
theorem apW_add (p c : Int) (g : Nat → Nat → Int) (x y : Nat → Int) (j : Nat) : apW p g (fun i => (x i + c * y i) % p) j = (apW p g x j + c * apW p g y j) % p := by
  unfold apW; rw [sumN_lin, mod_l, mod_in]
theorem apW_zero (p : Int) (g : Nat → Nat → Int) (x : Nat → Int) (j : Nat) (h : ∀ i, i < 8 → x i = 0) : apW p g x j = 0 := by
  unfold apW; rw [sumN_none 8 fun i hi => by rw [h i hi, Int.zero_mul], Int.zero_emod]
theorem apW_unit (p : Int) (g : Nat → Nat → Int) {k : Nat} (j : Nat) (hk : k < 8) : apW p g (unitV k) j = g k j % p := by
  unfold apW
  rw [sumN_pick _ 8 hk, sumN_none 8 fun i hi => by
    by_cases e : i = k
    · rw [if_pos e]
    · rw [if_neg e]; unfold unitV; rw [if_neg e, Int.zero_mul]]
  unfold unitV; rw [if_pos rfl]; simp

section
variable {p : Int} {n w : Nat} {g : Nat → Nat → Int}
theorem gw_lo {i j : Nat} (hj : j < w) : graphRow g w i j = g i j := by unfold graphRow; rw [if_pos hj]
theorem gw_hi {i j : Nat} : graphRow g w i (w + j) = unitV i j := by unfold graphRow; rw [if_neg (by omega)]; congr 1; omega
theorem gw_rng (hp : 1 < p) (hn : n ≤ 8) (hg : ∀ i, i < n → ∀ j, j < w → 0 ≤ g i j ∧ g i j < p) : ∀ i, i < n → ∀ j, j < w + 8 → 0 ≤ graphRow g w i j ∧ graphRow g w i j < p := fun i hi j hj => by
  by_cases h : j < w
  · rw [gw_lo h]; exact hg i hi j h
  · rw [show j = w + (j - w) by omega, gw_hi]; unfold unitV; split <;> omega
theorem gw_fwd (hp : 1 < p) (hn : n ≤ 8) (hg : ∀ i, i < n → ∀ j, j < w → 0 ≤ g i j ∧ g i j < p) {v : Nat → Int} (h : Sp p (w + 8) n (graphRow g w) v) : VecP p n (fun j => v (w + j)) ∧ ∀ j, j < w → v j = apW p g (fun j => v (w + j)) j := by
  refine Sp.in (S := fun v => (∀ j, j < w + 8 → 0 ≤ v j ∧ v j < p) ∧ VecP p n (fun j => v (w + j)) ∧ ∀ j, j < w → v j = apW p g (fun j => v (w + j)) j) ⟨fun v h => h.1, fun v u h e => ?_, fun v h => ?_, fun v u h1 h2 c => ?_⟩ (fun i hi => ?_) h |>.2
  · obtain ⟨h1, ⟨h2, h3⟩, h4⟩ := h
    refine ⟨fun j hj => by rw [e j hj]; exact h1 j hj, ⟨fun j hj => by rw [e _ (by omega)]; exact h2 j hj, fun j g1 g2 => by rw [e _ (by omega)]; exact h3 j g1 g2⟩, fun j hj => ?_⟩
    rw [e j (by omega), h4 j hj]
    exact apW_congr fun i hi => (e _ (by omega)).symm
  · refine ⟨fun j hj => by rw [h j hj]; omega, ⟨fun j hj => by rw [h _ (by omega)]; omega, fun j _ g => h _ (by omega)⟩, fun j hj => ?_⟩
    rw [h j (by omega), apW_zero p g _ j fun i hi => h _ (by omega)]
  · refine ⟨fun j _ => mod_rng (by omega) _, h1.2.1.add hp h2.2.1 c, fun j hj => ?_⟩
    show (v j + c * u j) % p = apW p g (fun j => (v (w + j) + c * u (w + j)) % p) j
    rw [apW_add, h1.2.2 j hj, h2.2.2 j hj]
  · refine ⟨gw_rng hp hn hg i hi, ⟨fun j hj => by rw [gw_hi]; unfold unitV; split <;> omega, fun j h1 h2 => by rw [gw_hi]; unfold unitV; rw [if_neg (by omega)]⟩, fun j hj => ?_⟩
    rw [gw_lo hj]
    have e : apW p g (fun j => graphRow g w i (w + j)) j = apW p g (unitV i) j := apW_congr fun k hk => gw_hi
    rw [e, apW_unit p g j (by omega), mod_id (hg i hi j hj)]
theorem gw_bwd (hp : 1 < p) (hn : n ≤ 8) (hg : ∀ i, i < n → ∀ j, j < w → 0 ≤ g i j ∧ g i j < p) {x : Nat → Int} (hx : VecP p n x) : Sp p (w + 8) n (graphRow g w) fun j => if j < w then apW p g x j else x (j - w) := by
  refine VecP.ind hp hn (R := fun x => Sp p (w + 8) n (graphRow g w) fun j => if j < w then apW p g x j else x (j - w)) ?_ (fun x y h e => ?_) (fun k hk => ?_) (fun x y c h1 h2 => ?_) hx
  · refine .zero _ fun j hj => ?_
    split
    · exact apW_zero p g _ j fun _ _ => rfl
    · rfl
  · refine h.ext fun j hj => ?_
    by_cases h8 : j < w
    · rw [if_pos h8, if_pos h8]; exact apW_congr fun i hi => e i hi
    · rw [if_neg h8, if_neg h8]; exact e _ (by omega)
  · refine (Sp.row hk (gw_rng hp hn hg k hk)).ext fun j hj => ?_
    by_cases h8 : j < w
    · rw [if_pos h8, gw_lo h8, apW_unit p g j (by omega), mod_id (hg k hk j h8)]
    · rw [if_neg h8, show j = w + (j - w) by omega, gw_hi]; congr 1; omega
  · refine (h1.addc (by omega) h2 c).ext fun j hj => ?_
    by_cases h8 : j < w
    · rw [if_pos h8, if_pos h8, if_pos h8, apW_add]
    · rw [if_neg h8, if_neg h8, if_neg h8]
end

/-- what leads to zeros alone -/
def KerG (p : Int) (n w : Nat) (g : Nat → Nat → Int) (x : Nat → Int) : Prop := VecP p n x ∧ ∀ j, j < w → apW p g x j = 0
theorem kerG_space {p : Int} {n w : Nat} {g : Nat → Nat → Int} (hp : 1 < p) : Space p 8 (KerG p n w g) := by
  refine ⟨fun v h => h.1.rng, fun v u h e => ⟨⟨fun j hj => by rw [e j hj]; exact h.1.rng j hj, fun j h1 h2 => by rw [e j h2]; exact h.1.out j h1 h2⟩, fun j hj => by rw [apW_congr e]; exact h.2 j hj⟩, fun v h => ⟨⟨fun j hj => by rw [h j hj]; omega, fun j _ hj => h j hj⟩, fun j hj => apW_zero _ _ _ _ h⟩, fun v u h1 h2 c => ⟨h1.1.add (by omega) h2.1 c, fun j hj => ?_⟩⟩
  rw [apW_add, h1.2 j hj, h2.2 j hj]; simp
/-- the rows that begin at w or later are the last ones -/
theorem kerG_red {p : Int} {n w k t : Nat} {g : Nat → Nat → Int} {a : Nat → Nat → Int} {P : Nat → Nat} (hp : 1 < p) (hn : n ≤ 8) (hg : ∀ i, i < n → ∀ j, j < w → 0 ≤ g i j ∧ g i j < p) (h : Red p (w + 8) (Sp p (w + 8) n (graphRow g w)) k a P)
    (ht : t ≤ k) (h1 : ∀ i, i < t → P i < w) (h2 : ∀ i, t ≤ i → i < k → w ≤ P i) : Red p 8 (KerG p n w g) (k - t) (fun i j => a (t + i) (w + j)) fun i => P (t + i) - w := by
  have z : ∀ i, i < k - t → w ≤ P (t + i) := fun i hi => h2 _ (by omega) (by omega)
  refine ⟨fun i hi => ?_, fun i hi => ?_, fun i j hij hj => ?_, fun i hi => ?_, fun i hi j hj => ?_, fun i j hi hj hij => ?_, fun v hv h0 j hj => ?_⟩
  · obtain ⟨f1, f2⟩ := gw_fwd hp hn hg (h.mem (t + i) (by omega))
    exact ⟨f1, fun j hj => by rw [← f2 j hj]; exact h.bef _ (by omega) j (by have := z i hi; omega)⟩
  · have := h.lt (t + i) (by omega); have := z i hi; omega
  · have := h.inc (t + i) (t + j) (by omega) (by omega); have := z i (by omega); omega
  · have := z i hi
    show a (t + i) (w + (P (t + i) - w)) = 1
    rw [show w + (P (t + i) - w) = P (t + i) by omega]; exact h.one _ (by omega)
  · have := z i hi
    exact h.bef _ (by omega) _ (by omega)
  · have := z j hj
    show a (t + i) (w + (P (t + j) - w)) = 0
    rw [show w + (P (t + j) - w) = P (t + j) by omega]; exact h.oth _ _ (by omega) (by omega) (by omega)
  · have hb := gw_bwd hp hn hg hv.1
    have := h.all _ hb (fun i hi => ?_) (w + j) (by omega)
    · rw [if_neg (by omega), show w + j - w = j by omega] at this; exact this
    · by_cases e : P i < w
      · rw [if_pos e]; exact hv.2 _ e
      · rw [if_neg e]
        have hti : t ≤ i := by
          by_cases g : i < t
          · exact absurd (h1 i g) e
          · omega
        have := h0 (i - t) (by omega)
        rw [show t + (i - t) = i by omega] at this
        exact this
theorem split_at {k w : Nat} {P : Nat → Nat} (h : ∀ i j, i < j → j < k → P i < P j) : ∃ t, t ≤ k ∧ (∀ i, i < t → P i < w) ∧ ∀ i, t ≤ i → i < k → w ≤ P i := by
  have key : ∀ m, m ≤ k → ∃ t, t ≤ m ∧ (∀ i, i < t → P i < w) ∧ ∀ i, t ≤ i → i < m → w ≤ P i := fun m => by
    induction m with
    | zero => intro _; exact ⟨0, Nat.le_refl _, fun i hi => absurd hi (Nat.not_lt_zero _), fun i _ hi => absurd hi (Nat.not_lt_zero _)⟩
    | succ m ih =>
      intro hm
      obtain ⟨t, h1, h2, h3⟩ := ih (by omega)
      by_cases e : t = m
      · by_cases e2 : P m < w
        · exact ⟨m + 1, Nat.le_refl _, fun i hi => by
            by_cases g : i = m
            · rw [g]; exact e2
            · exact h2 i (by omega), fun i g1 g2 => by omega⟩
        · exact ⟨t, by omega, h2, fun i g1 g2 => by
            have : i = m := by omega
            rw [this]; omega⟩
      · refine ⟨t, by omega, h2, fun i g1 g2 => ?_⟩
        by_cases g : i = m
        · have a1 := h3 t (Nat.le_refl _) (by omega)
          have a2 := h t m (by omega) (by omega)
          rw [g]; omega
        · exact h3 i g1 (by omega)
  exact key k (Nat.le_refl _)

/-! ### steps -/
theorem forget_len : ∀ (m : Mem) (b : Nat), (forget m b).length = m.length
  | [], _ => rfl
  | _ :: r, 0 => rfl
  | x :: r, k + 1 => by show (forget r k).length + 1 = _; rw [forget_len r k]; rfl
theorem forget_get : ∀ (m : Mem) (b i : Nat), i ≠ b → blockOf (forget m b) i = blockOf m i
  | [], _, _, _ => rfl
  | _ :: r, 0, 0, h => absurd rfl h
  | _ :: r, 0, i + 1, _ => rfl
  | x :: r, k + 1, 0, _ => rfl
  | x :: r, k + 1, i + 1, h => forget_get r k i (by omega)
theorem forget_none : ∀ (m : Mem) (b : Nat), blockOf (forget m b) b = none
  | [], _ => rfl
  | _ :: r, 0 => rfl
  | x :: r, k + 1 => forget_none r k
theorem forget_clo {m : Mem} (h : Clo m) (b : Nat) : Clo (forget m b) := fun id u c hb i hi => by
  rw [forget_len]
  by_cases e : id = b
  · subst e; rw [forget_none] at hb; cases hb
  · rw [forget_get m b id e] at hb; exact h id u c hb i hi
theorem snoc_clo {m : Mem} {v : SV} {c : Nat} (h : Clo m) (hv : ∀ i ∈ v.ids, i < m.length + 1) : Clo (m ++ [some (v, c)]) := fun id u d hb i hi => by
  simp only [List.length_append, List.length_singleton]
  by_cases e : id < m.length
  · rw [blockOf_append_lt _ _ id e] at hb; have := h id u d hb i hi; omega
  · have hl := blockOf_lt (m := m ++ [some (v, c)]) (id := id) (by rw [hb]; rfl)
    simp only [List.length_append, List.length_singleton] at hl
    obtain rfl : id = m.length := by omega
    rw [blockOf_snoc] at hb; cases hb; exact hv i hi
/-- a memory with a new row behind; all blocks but b are as they were -/
structure Plus (m : Mem) (b : Nat) (v : SV) (c : Nat) (M : Mem) : Prop where
  len : M.length = m.length + 1
  new : blockOf M m.length = some (v, c)
  old : ∀ q, q < m.length → q ≠ b → blockOf M q = blockOf m q
  live : liveP m M
  clo : Clo m → (∀ i ∈ v.ids, i < m.length + 1) → Clo M
theorem Plus.snoc (m : Mem) (v : SV) (c b : Nat) : Plus m b v c (m ++ [some (v, c)]) :=
  ⟨by simp, blockOf_snoc _ _, fun q hq _ => blockOf_append_lt _ _ q hq, fun q hq h => by rw [blockOf_append_lt _ _ q hq] at h; exact h, fun h hv => snoc_clo h hv⟩
theorem Plus.forget (m : Mem) (v : SV) (c b : Nat) : Plus m b v c (forget m b ++ [some (v, c)]) := by
  have hl := forget_len m b
  refine ⟨by simp [hl], by have := blockOf_snoc (Go.Proofs.Ytmnbeinomodggaa.forget m b) (some (v, c)); rwa [hl] at this, fun q hq hne => by rw [blockOf_append_lt _ _ q (by rw [hl]; exact hq), forget_get m b q hne], fun q hq h => ?_, fun h hv => snoc_clo (forget_clo h b) (by rw [hl]; exact hv)⟩
  rw [blockOf_append_lt _ _ q (by rw [hl]; exact hq)] at h
  by_cases e : q = b
  · subst e; rw [forget_none] at h; cases h
  · rwa [forget_get m b q e] at h
section
variable {P : Program} {T : Tab} {N : Nat} {ops : Array Oper} {o : Oper} {r : List Oper} {s : Slots} {m : Mem} {K : Slots → Mem → Prop} {t b b2 n cap o2 m2 c2 es by_ n1 n2 c d2 : Nat} {k : IntKind} {f g : Nat → Int} {cl : Call}
/-- rows behind a slice that is the function's own: they lie in a new block from now on -/
theorem opsVC_appN (hg : o.guard = none) (ho : o.op = .call cl) (hc : cl.callee = .builtin .append) (hts : cl.argTypes.toList = [t, t]) (hx : evs s cl.args.toList = some [.sl b 0 n cap, .sl b2 o2 m2 c2]) (ht : T.ti t = .slice es) (hap : T.app t = some by_)
    (hb : blockOf m b = some (.ints k n1 f, c)) (hb2 : blockOf m b2 = some (.ints k n2 g, d2)) (hin : o2 + m2 * es ≤ n2) (hown : T.own ≤ b) (hsz : n * es ≤ n1 ∧ c = cap * es ∧ n ≤ cap ∧ (n + m2) * by_ ≤ 140737488355328 ∧ n + m2 ≤ 4611686018427387904)
    (hk : ∀ cap' F M', n + m2 ≤ cap' → (∀ j, j < n * es → F j = f j) → (∀ j, F (n * es + j) = g (j + o2)) → Plus m b (.ints k ((n + m2) * es) F) (cap' * es) M' → opsVC P T N ops r (sset N s o.dst (.sl m.length 0 (n + m2) cap')) M' K) : opsVC P T N ops (o :: r) s m K := by
  refine opsVC_one hg ?_
  simp only [oneVC, ho, hc, hts, hx, appAny, Nat.beq_refl, appVC, ht, hap, hb2]
  refine ⟨hin, .inr (.inl ?_)⟩
  simp only [appNew, hb]
  exact chk_iff.2 ⟨by
    have e1 : ikEq k k = true := by cases k <;> rfl
    have e2 : Nat.ble T.own b = true := Nat.ble_eq_true_of_le hown
    rw [e1, e2]; rfl, hsz, fun cap' hcap => hk cap' _ _ hcap (fun j hj => if_pos hj) (fun j => by show (if n * es + j < n * es then _ else g (n * es + j - n * es + o2)) = _; rw [if_neg (by omega), show n * es + j - n * es + o2 = j + o2 by omega]) (Plus.forget m _ _ b)⟩
theorem opsVC_row1 {ps : Array (Nat × Operand)} (hg : o.guard = none) (ho : o.op = .buildSlice t 1 ps) (ht : T.ti t = .slice es) (he : (T.elem0 t).bind elemRow = some (k, es, f)) (hes : (Nat.blt 0 es && Nat.ble (1 * es) 16777216) = true) (hp : evParts s ps.toList = some [(0, .ints k es g)])
    (hk : ∀ G M', (∀ j, j < es → G j = g j) → Plus m m.length (.ints k (1 * es) G) (1 * es) M' → opsVC P T N ops r (sset N s o.dst (.sl m.length 0 1 1)) M' K) : opsVC P T N ops (o :: r) s m K := by
  refine opsVC_one hg ?_
  simp only [oneVC, ho, newVC, ht, he, hp, Nat.beq_refl, Bool.true_and]
  refine chk_iff.2 ⟨hes, ?_⟩
  have e1 : ikEq k k = true := by cases k <;> rfl
  have e2 : Nat.ble (0 * es + es) (1 * es) = true := Nat.ble_eq_true_of_le (by omega)
  simp only [fillA, Nat.beq_refl, e1, e2]
  exact chk_iff.2 ⟨rfl, hk _ _ (fun j hj => by unfold updR; rw [if_pos (by omega)]; congr 1; omega) (Plus.snoc _ _ _ _)⟩
theorem opsVC_appE (hg : o.guard = none) (ho : o.op = .call cl) (hc : cl.callee = .builtin .append) (hts : cl.argTypes.toList = [t, t]) (hx : evs s cl.args.toList = some [.nilsl, .sl b2 o2 m2 c2]) (ht : T.ti t = .slice es) (hap : T.app t = some by_)
    (hb2 : blockOf m b2 = some (.ints k n2 g, d2)) (hin : o2 + m2 * es ≤ n2) (hsz : 0 < m2 ∧ m2 * by_ ≤ 140737488355328 ∧ m2 ≤ 4611686018427387904)
    (hk : ∀ cap' F M', m2 ≤ cap' → (∀ j, F j = g (j + o2)) → Plus m m.length (.ints k (m2 * es) F) (cap' * es) M' → opsVC P T N ops r (sset N s o.dst (.sl m.length 0 m2 cap')) M' K) : opsVC P T N ops (o :: r) s m K := by
  refine opsVC_one hg ?_
  simp only [oneVC, ho, hc, hts, hx, appAny, Nat.beq_refl, appVC, ht, hap, hb2]
  exact ⟨hin, .inr (.inr (chk_iff.2 ⟨rfl, hsz, fun cap' hcap => hk cap' _ _ hcap (fun _ => rfl) (Plus.snoc _ _ _ _)⟩))⟩
end

theorem firstPlaceM_s (m : Mem) (id w cap c : Nat) (g : Nat → Int) (hb : blockOf m id = some (.ints .u8 w g, c)) (hm : Clo m) (hw : w ≤ 1000000) :
    Spec Try.prog 58 [.sl id 0 w cap] m (fun r m' => m' = m ∧ ∃ k : Nat, k ≤ w ∧ (∀ i, i < k → g i = 0) ∧ (k < w → g k ≠ 0) ∧ r = .int .i64 k) := by
  have hlt : id < m.length := blockOf_lt (by rw [hb]; rfl)
  refine Spec.of_vc tabOK tabEq Try.func58 rfl (by kernel_rfl) rfl (by simp [idsOf, SV.ids, Nat.blt_eq, hlt]) ?_
  refine LoopVC.ofR (fun i : Nat => i ≤ w ∧ ∀ j, j < i → g j = 0) (fun i => [(0, .sl id 0 w cap), (5, .sl id 0 w cap), (6, .int .i64 w), (7, .int .i64 i)]) (fun _ => m) (fun i => w - i) 0 ⟨by omega, fun j hj => by omega⟩ (fun i => i) (RenTo.same (And.intro rfl (And.intro rfl (And.intro rfl (And.intro rfl (trivial))))) fun i u d hb => ⟨u, hb, eqv_refl u⟩) (fun _ _ => Nat.le_refl _) ?_ ?_
  · exact fun i hi => OkP.of (by simp [SV.ids, hlt]) hm
  · rintro i ⟨hi, hall⟩
    refine ifVC_split (fun hh => ?_) (fun hh => ?_)
    · have hlt := of_decide_eq_true hh
      (repeat (first | refine And.intro (by omega) ?_ | refine And.intro ⟨by omega, by omega⟩ ?_))
      refine opsVC_load rfl rfl rfl rfl hb (by omega) ?_
      have hidx : (i : Int).toNat * 1 + 0 = i := by omega
      refine ifVC_split (fun hc => ?_) (fun hc => ?_)
      · have hc : g i ≠ 0 := by
          have hc : g ((i : Int).toNat * 1 + 0) ≠ 0 := by simpa using hc
          rw [hidx] at hc; exact hc
        exact ⟨rfl, i, by omega, hall, fun _ => hc, rfl⟩
      · have hc : g i = 0 := by
          have hc : g ((i : Int).toNat * 1 + 0) = 0 := by simpa using hc
          rw [hidx] at hc; exact hc
        refine Exists.intro (i + 1) (Exists.intro (fun i => i) (And.intro ⟨by omega, fun j hj => ?_⟩ (And.intro (by omega) (RenTo.same ?_ fun i u d hb => ⟨u, hb, eqv_refl u⟩))))
        · by_cases hji : j = i
          · subst hji; exact hc
          · exact hall j (by omega)
        · exact And.intro rfl (And.intro rfl (And.intro rfl (And.intro (slotI (wrapS (by omega))) trivial)))
    · have hge := of_decide_eq_false hh
      obtain rfl : i = w := by omega
      exact ⟨rfl, i, by omega, hall, fun h => absurd h (Nat.lt_irrefl _), rfl⟩

/-- a list of vectors that may be nil where it is empty -/
def listV (id k c : Nat) : SV := if k = 0 then .nilsl else .sl id 0 k c
abbrev KS := Nat × (Nat → Int) × Nat × Nat × SV × Mem
structure KI (M : Mem) (k t w : Nat) (a : Nat → Nat → Int) (x : KS) : Prop where
  l : x.1 ≤ k
  v : x.2.2.2.2.1 = listV x.2.2.1 (x.1 - t) x.2.2.2.1
  A : ∀ i, i < x.1 - t → ∀ j, j < 8 → x.2.1 (i * 8 + j) = a (t + i) (w + j)
  b : x.1 - t ≠ 0 → M.length ≤ x.2.2.1 ∧ blockOf x.2.2.2.2.2 x.2.2.1 = some (.ints .u8 ((x.1 - t) * 8) x.2.1, x.2.2.2.1 * 8) ∧ x.1 - t ≤ x.2.2.2.1
  old : ∀ q, q < M.length → blockOf x.2.2.2.2.2 q = blockOf M q
  len : M.length ≤ x.2.2.2.2.2.length
  clo : Clo x.2.2.2.2.2

theorem kernelOf_s (m : Mem) (hd N c0 n cap w p : Nat) (h : Nat → SV) (ρ o cp Ni d : Nat → Nat) (g : Nat → Nat → Int) (hhdr : blockOf m hd = some (.vec N h, c0)) (hfit : n ≤ N) (hsl : ∀ i, i < n → h i = .sl (ρ i) (o i) w (cp i))
    (hrow : ∀ i, i < n → blockOf m (ρ i) = some (.ints .u8 (Ni i) (g i), d i)) (hin : ∀ i, i < n → o i + w ≤ Ni i) (hm : Clo m) (hn : 1 ≤ n ∧ n ≤ 8) (hw : w ≤ 1000) (hp : primeB (p : Int) = true) (hp2 : 2 ≤ p ∧ p ≤ 31) (hr : ∀ i, i < n → ∀ j, j < w → 0 ≤ g i (j + o i) ∧ g i (j + o i) < p) :
    Spec Try.prog 27 [.int .i64 p, .sl hd 0 n cap] m (fun r m' => ∃ id k c A, r = listV id k c ∧ RedL p (KerG p n w fun i j => g i (j + o i)) k A ∧ (k ≠ 0 → m.length ≤ id ∧ blockOf m' id = some (.ints .u8 (k * 8) A, c * 8) ∧ k ≤ c) ∧ m.length ≤ m'.length ∧ ∀ q, q < m.length → blockOf m' q = blockOf m q) := by
  have hlt : hd < m.length := blockOf_lt (by rw [hhdr]; rfl)
  refine Spec.of_vc (tabOK.dir fun g => Nat.beq g 57 || Nat.beq g 56 || Nat.beq g 58) (tabEq.dir _) Try.func27 rfl (by kernel_rfl) rfl (by simp [idsOf, SV.ids, Nat.blt_eq, hlt]) ?_
  (repeat (first | refine And.intro (by omega) ?_ | refine And.intro ⟨by omega, by omega⟩ ?_))
  refine opsVC_loadS (v := .sl (ρ 0) (o 0) w (cp 0)) rfl rfl rfl rfl hhdr (by omega) (hsl 0 (by omega)) rfl ?_
  refine opsVC_len rfl rfl rfl rfl rfl rfl ?_
  (repeat (first | (with_reducible refine vc_exit ?_) | (with_reducible refine vc_ret ?_) | (with_reducible refine vc_skip ?_) | (with_reducible refine thenQ_x ?_) | (with_reducible refine thenQ_r ?_) | (with_reducible refine thenQ_n ?_) | (with_reducible refine blockQ_x rfl ?_) | (with_reducible refine blockQ_y rfl ?_) | (with_reducible refine blockQ_n ?_) | (with_reducible refine blockQ_r ?_) | (with_reducible refine vc_seq ?_) | (with_reducible refine vc_region ?_) | (with_reducible refine vc_block ?_) | (with_reducible refine vc_scope ?_) | (with_reducible refine opsVC_nil ?_)))
  refine opsVC_as rfl rfl rfl ?_
  (repeat (first | (with_reducible refine vc_exit ?_) | (with_reducible refine vc_ret ?_) | (with_reducible refine vc_skip ?_) | (with_reducible refine thenQ_x ?_) | (with_reducible refine thenQ_r ?_) | (with_reducible refine thenQ_n ?_) | (with_reducible refine blockQ_x rfl ?_) | (with_reducible refine blockQ_y rfl ?_) | (with_reducible refine blockQ_n ?_) | (with_reducible refine blockQ_r ?_) | (with_reducible refine vc_seq ?_) | (with_reducible refine vc_region ?_) | (with_reducible refine vc_block ?_) | (with_reducible refine vc_scope ?_) | (with_reducible refine opsVC_nil ?_)))
  refine opsVC_as rfl rfl rfl ?_
  (repeat (first | (with_reducible refine vc_exit ?_) | (with_reducible refine vc_ret ?_) | (with_reducible refine vc_skip ?_) | (with_reducible refine thenQ_x ?_) | (with_reducible refine thenQ_r ?_) | (with_reducible refine thenQ_n ?_) | (with_reducible refine blockQ_x rfl ?_) | (with_reducible refine blockQ_y rfl ?_) | (with_reducible refine blockQ_n ?_) | (with_reducible refine blockQ_r ?_) | (with_reducible refine vc_seq ?_) | (with_reducible refine vc_region ?_) | (with_reducible refine vc_block ?_) | (with_reducible refine vc_scope ?_) | (with_reducible refine opsVC_nil ?_)))
  refine opsVC_mv rfl rfl rfl ?_
  refine opsVC_mv rfl rfl rfl ?_
  refine opsVC_dir rfl rfl rfl rfl rfl rfl ?_
  refine Spec.mono (graphOf_s m hd N c0 n cap w h ρ o cp Ni d g hhdr hfit hsl hrow hin hm hn.2 hw) ?_
  rintro r m' ⟨cc, F, C, rfl, rfl, hcc, hF⟩
  refine ⟨memG_live _ _ _ _ _ _ _, ?_⟩
  have hgr := gw_rng (p := (p : Int)) (n := n) (w := w) (g := fun i j => g i (j + o i)) (by omega) hn.2 hr
  refine opsVC_dir rfl rfl rfl rfl rfl rfl ?_
  refine Spec.mono (reduceRows_s (memG m n (w + 8) n cc F C) m.length n n n n (w + 8) p (hdrF m.length (w + 8) n cc) (fun k => m.length + 1 + k) cc F C (memG_fam _ _ _ _ _ _ hcc) (memG_clo _ _ _ _ _ _ _ hm) (fun a b _ _ e => by have e : m.length + 1 + a = m.length + 1 + b := e; omega) (by omega) (Nat.le_refl _) (by omega) hp hp2 (fun k hk j hj => by rw [hF k hk j hj]; exact hgr k hk j hj)) ?_
  rintro r M ⟨k, h', ρ', cp', a, d', P, rfl, hk, hb, hred⟩
  refine ⟨hb.live, ?_⟩
  have hsp : ∀ v, Sp p (w + 8) n F v ↔ Sp p (w + 8) n (graphRow (fun i j => g i (j + o i)) w) v := fun v => Sp.congr (by omega) (fun l hl j hj => hF l hl j hj) (fun l hl j hj => by rw [hF l hl j hj]; exact hgr l hl j hj)
  have hred := hred.of_iff hsp
  obtain ⟨t, ht, ht1, ht2⟩ := split_at (w := w) hred.inc
  have hker := kerG_red (by omega) hn.2 hr hred ht ht1 ht2
  have hlen : M.length = m.length + 1 + n := by rw [hb.len, memG_len]
  have hMm : ∀ q, q < m.length → blockOf M q = blockOf m q := fun q hq => (hb.out q (by omega) (fun i hi => by omega)).trans (memG_old _ _ _ _ _ _ _ hq)
  have hsl' : ∀ l, l < n → h' l = .sl (ρ' l) 0 (w + 8) (cp' l) := fun l hl => by have := hb.fam.sl l hl; rwa [Nat.zero_add] at this
  have hρ : ∀ l, l < n → ρ' l < M.length := hb.fam.lt
  have hhd : m.length < M.length := by omega
  refine opsVC_len rfl rfl rfl rfl rfl rfl ?_
  refine opsVC_mv rfl rfl rfl ?_
  (repeat (first | (with_reducible refine vc_exit ?_) | (with_reducible refine vc_ret ?_) | (with_reducible refine vc_skip ?_) | (with_reducible refine thenQ_x ?_) | (with_reducible refine thenQ_r ?_) | (with_reducible refine thenQ_n ?_) | (with_reducible refine blockQ_x rfl ?_) | (with_reducible refine blockQ_y rfl ?_) | (with_reducible refine blockQ_n ?_) | (with_reducible refine blockQ_r ?_) | (with_reducible refine vc_seq ?_) | (with_reducible refine vc_region ?_) | (with_reducible refine vc_block ?_) | (with_reducible refine vc_scope ?_) | (with_reducible refine opsVC_nil ?_)))
  refine LoopVC.ofR (KI M k t w a) (fun x => [(5, .int .i64 w), (6, x.2.2.2.2.1), (16, .sl m.length 0 k n), (17, .int .i64 k), (18, .int .i64 x.1)]) (fun x => x.2.2.2.2.2) (fun x => k - x.1) (0, (fun _ => 0), 0, 0, .nilsl, M)
    ⟨Nat.zero_le _, by show SV.nilsl = listV 0 (0 - t) 0; unfold listV; rw [if_pos (Nat.zero_sub t)], fun i hi => by have hi : i < 0 - t := hi; omega, fun hne => absurd (Nat.zero_sub t) hne, fun _ _ => rfl, Nat.le_refl _, hb.clo⟩ (fun i => i) (RenTo.same (And.intro rfl (And.intro rfl (And.intro rfl (And.intro rfl (And.intro rfl (trivial)))))) fun i u d hb => ⟨u, hb, eqv_refl u⟩) ?_ ?_ ?_
  · intro x hx; have := hx.len; show m.length ≤ _; omega
  · intro x hx
    refine OkP.of ?_ hx.clo
    have h1 := hx.len
    have h2 : ∀ i ∈ x.2.2.2.2.1.ids, i < x.2.2.2.2.2.length := fun i hi => by
      rw [hx.v] at hi
      unfold listV at hi
      by_cases e : x.1 - t = 0
      · rw [if_pos e] at hi; cases hi
      · rw [if_neg e] at hi
        simp [SV.ids] at hi
        subst hi
        exact blockOf_lt (by rw [(hx.b e).2.1]; rfl)
    intro q hq i hi
    simp only [List.mem_cons, List.not_mem_nil, or_false] at hq
    rcases hq with rfl | rfl | rfl | rfl | rfl
    · cases hi
    · exact h2 i hi
    · simp [SV.ids] at hi; omega
    · cases hi
    · cases hi
  · rintro ⟨l, A, id, c, v6, M'⟩ ⟨hl, hv, hA, hB, hO, hL, hC⟩
    dsimp only at hl hv hA hB hO hL hC
    have hlx : (l : Int).toNat * 1 + 0 = l := by omega
    refine ifVC_split (fun h1 => ?_) (fun h1 => ?_)
    · have hlk : l < k := by have := of_decide_eq_true h1; omega
      have hrowl := (hO _ (hρ l (by omega))).trans (hb.fam.row l (by omega))
      have hcp := hb.fam.cap l (by omega)
      (repeat (first | refine And.intro (by omega) ?_ | refine And.intro ⟨by omega, by omega⟩ ?_))
      refine opsVC_loadS (v := .sl (ρ' l) 0 (w + 8) (cp' l)) rfl rfl rfl rfl ((hO _ hhd).trans hb.fam.hdr) (by omega) (by rw [hlx]; exact hsl' l (by omega)) rfl ?_
      refine opsVC_as rfl rfl rfl ?_
      (repeat (first | (with_reducible refine vc_exit ?_) | (with_reducible refine vc_ret ?_) | (with_reducible refine vc_skip ?_) | (with_reducible refine thenQ_x ?_) | (with_reducible refine thenQ_r ?_) | (with_reducible refine thenQ_n ?_) | (with_reducible refine blockQ_x rfl ?_) | (with_reducible refine blockQ_y rfl ?_) | (with_reducible refine blockQ_n ?_) | (with_reducible refine blockQ_r ?_) | (with_reducible refine vc_seq ?_) | (with_reducible refine vc_region ?_) | (with_reducible refine vc_block ?_) | (with_reducible refine vc_scope ?_) | (with_reducible refine opsVC_nil ?_)))
      refine opsVC_mv rfl rfl rfl ?_
      refine opsVC_dir rfl rfl rfl rfl rfl rfl ?_
      refine Spec.mono (firstPlaceM_s M' (ρ' l) (w + 8) (cp' l) _ _ hrowl hC (by omega)) ?_
      rintro r m' ⟨rfl, f, hf, hf1, hf2, rfl⟩
      refine ⟨liveP.refl _, ?_⟩
      have hfP : f = P l := by
        have g1 := hred.one l hlk
        have g2 := hred.bef l hlk
        have g3 := hred.lt l hlk
        rcases Nat.lt_trichotomy f (P l) with e | e | e
        · exact absurd (g2 f e) (hf2 (by omega))
        · exact e
        · have := hf1 _ e; omega
      subst hfP
      refine ifVC_split (fun h3 => ?_) (fun h3 => ?_)
      · have h3 : w ≤ P l := by have := of_decide_eq_true h3; omega
        have htl : t ≤ l := by
          by_cases e : l < t
          · have := ht1 l e; omega
          · omega
        have hwx : (w : Int).toNat * 1 + 0 + 8 ≤ w + 8 := by omega
        by_cases hz : l - t = 0
        · have e6 : v6 = .nilsl := by rw [hv]; unfold listV; rw [if_pos hz]
          subst e6
          (repeat (first | (with_reducible refine vc_exit ?_) | (with_reducible refine vc_ret ?_) | (with_reducible refine vc_skip ?_) | (with_reducible refine thenQ_x ?_) | (with_reducible refine thenQ_r ?_) | (with_reducible refine thenQ_n ?_) | (with_reducible refine blockQ_x rfl ?_) | (with_reducible refine blockQ_y rfl ?_) | (with_reducible refine blockQ_n ?_) | (with_reducible refine blockQ_r ?_) | (with_reducible refine vc_seq ?_) | (with_reducible refine vc_region ?_) | (with_reducible refine vc_block ?_) | (with_reducible refine vc_scope ?_) | (with_reducible refine opsVC_nil ?_)))
          refine opsVC_mv rfl rfl rfl ?_
          refine opsVC_mv rfl rfl rfl ?_
          refine opsVC_mv rfl rfl rfl ?_
          (repeat (first | refine And.intro (by omega) ?_ | refine And.intro ⟨by omega, by omega⟩ ?_))
          refine opsVC_loadR (l := 8) rfl rfl rfl rfl hrowl hwx ?_
          refine opsVC_row1 rfl rfl rfl rfl rfl rfl fun G M1 hG p1 => ?_
          refine opsVC_appE rfl rfl rfl rfl rfl rfl rfl p1.new (Nat.le_refl _) (by omega) fun cap' F M2 hcap hF p2 => ?_
          refine opsVC_as rfl rfl rfl ?_
          (repeat (first | (with_reducible refine vc_exit ?_) | (with_reducible refine vc_ret ?_) | (with_reducible refine vc_skip ?_) | (with_reducible refine thenQ_x ?_) | (with_reducible refine thenQ_r ?_) | (with_reducible refine thenQ_n ?_) | (with_reducible refine blockQ_x rfl ?_) | (with_reducible refine blockQ_y rfl ?_) | (with_reducible refine blockQ_n ?_) | (with_reducible refine blockQ_r ?_) | (with_reducible refine vc_seq ?_) | (with_reducible refine vc_region ?_) | (with_reducible refine vc_block ?_) | (with_reducible refine vc_scope ?_) | (with_reducible refine opsVC_nil ?_)))
          have q1 := p1.len
          have q2 := p2.len
          have e1 : l + 1 - t = 1 := by omega
          refine Exists.intro ⟨l + 1, F, M1.length, cap', .sl M1.length 0 1 cap', M2⟩ (Exists.intro (fun i => i) (And.intro ⟨hlk, ?_, fun i hi j hj => ?_, fun hne => ⟨?_, ?_, ?_⟩, fun q hq => ?_, ?_, ?_⟩ (And.intro (show k - (l + 1) < k - l by omega) (RenTo.same ?_ fun i u d hb => ⟨u, hb, eqv_refl u⟩))))
          · show _ = listV M1.length (l + 1 - t) cap'
            rw [e1]; rfl
          · have hi : i < l + 1 - t := hi
            obtain rfl : i = 0 := by omega
            show F (0 * 8 + j) = a (t + 0) (w + j)
            rw [hF, hG _ (by omega)]
            show a l (0 * 8 + j + 0 + ((w : Int).toNat * 1 + 0)) = _
            congr 1 <;> omega
          · show M.length ≤ M1.length; omega
          · show blockOf M2 M1.length = some (.ints .u8 ((l + 1 - t) * 8) F, cap' * 8)
            rw [e1]; exact p2.new
          · show l + 1 - t ≤ cap'; omega
          · show blockOf M2 q = _
            rw [p2.old q (by omega) (by omega), p1.old q (by omega) (by omega)]; exact hO q hq
          · show M.length ≤ M2.length; omega
          · exact p2.clo (p1.clo hC (by simp [SV.ids])) (by simp [SV.ids])
          · exact And.intro rfl (And.intro rfl (And.intro rfl (And.intro rfl (And.intro (slotI (wrapS (by omega))) trivial))))
        · have e6 : v6 = .sl id 0 (l - t) c := by rw [hv]; unfold listV; rw [if_neg hz]
          obtain ⟨b1, b2, b3⟩ := hB hz
          have hidl := blockOf_lt (m := m') (id := id) (by rw [b2]; rfl)
          subst e6
          (repeat (first | (with_reducible refine vc_exit ?_) | (with_reducible refine vc_ret ?_) | (with_reducible refine vc_skip ?_) | (with_reducible refine thenQ_x ?_) | (with_reducible refine thenQ_r ?_) | (with_reducible refine thenQ_n ?_) | (with_reducible refine blockQ_x rfl ?_) | (with_reducible refine blockQ_y rfl ?_) | (with_reducible refine blockQ_n ?_) | (with_reducible refine blockQ_r ?_) | (with_reducible refine vc_seq ?_) | (with_reducible refine vc_region ?_) | (with_reducible refine vc_block ?_) | (with_reducible refine vc_scope ?_) | (with_reducible refine opsVC_nil ?_)))
          refine opsVC_mv rfl rfl rfl ?_
          refine opsVC_mv rfl rfl rfl ?_
          refine opsVC_mv rfl rfl rfl ?_
          (repeat (first | refine And.intro (by omega) ?_ | refine And.intro ⟨by omega, by omega⟩ ?_))
          refine opsVC_loadR (l := 8) rfl rfl rfl rfl hrowl hwx ?_
          refine opsVC_row1 rfl rfl rfl rfl rfl rfl fun G M1 hG p1 => ?_
          have hk8 : k ≤ n := hk
          refine opsVC_appN rfl rfl rfl rfl rfl rfl rfl ((p1.old id hidl (by omega)).trans b2) p1.new (Nat.le_refl _) (show m.length ≤ id by omega) ⟨Nat.le_refl _, rfl, b3, by omega, by omega⟩ fun cap' F M2 hcap hF1 hF2 p2 => ?_
          refine opsVC_as rfl rfl rfl ?_
          (repeat (first | (with_reducible refine vc_exit ?_) | (with_reducible refine vc_ret ?_) | (with_reducible refine vc_skip ?_) | (with_reducible refine thenQ_x ?_) | (with_reducible refine thenQ_r ?_) | (with_reducible refine thenQ_n ?_) | (with_reducible refine blockQ_x rfl ?_) | (with_reducible refine blockQ_y rfl ?_) | (with_reducible refine blockQ_n ?_) | (with_reducible refine blockQ_r ?_) | (with_reducible refine vc_seq ?_) | (with_reducible refine vc_region ?_) | (with_reducible refine vc_block ?_) | (with_reducible refine vc_scope ?_) | (with_reducible refine opsVC_nil ?_)))
          have q1 := p1.len
          have q2 := p2.len
          have e1 : l + 1 - t = l - t + 1 := by omega
          refine Exists.intro ⟨l + 1, F, M1.length, cap', .sl M1.length 0 (l - t + 1) cap', M2⟩ (Exists.intro (fun i => i) (And.intro ⟨hlk, ?_, fun i hi j hj => ?_, fun hne => ⟨?_, ?_, ?_⟩, fun q hq => ?_, ?_, ?_⟩ (And.intro (show k - (l + 1) < k - l by omega) (RenTo.same ?_ fun i u d hb => ⟨u, hb, eqv_refl u⟩))))
          · show _ = listV M1.length (l + 1 - t) cap'
            rw [e1]; rfl
          · have hi : i < l + 1 - t := hi
            show F (i * 8 + j) = a (t + i) (w + j)
            by_cases e : i = l - t
            · rw [show i * 8 + j = (l - t) * 8 + j by omega, hF2, hG _ (by omega)]
              show a l (j + 0 + ((w : Int).toNat * 1 + 0)) = _
              congr 1 <;> omega
            · rw [hF1 _ (by omega)]; exact hA i (by omega) j hj
          · show M.length ≤ M1.length; omega
          · show blockOf M2 M1.length = some (.ints .u8 ((l + 1 - t) * 8) F, cap' * 8)
            rw [e1]; exact p2.new
          · show l + 1 - t ≤ cap'; omega
          · show blockOf M2 q = _
            rw [p2.old q (by omega) (by omega), p1.old q (by omega) (by omega)]; exact hO q hq
          · show M.length ≤ M2.length; omega
          · exact p2.clo (p1.clo hC (by simp [SV.ids])) (by simp [SV.ids])
          · exact And.intro rfl (And.intro rfl (And.intro rfl (And.intro rfl (And.intro (slotI (wrapS (by omega))) trivial))))
      · have h3 : P l < w := by have := of_decide_eq_false h3; omega
        have hlt' : l < t := by
          by_cases e : l < t
          · exact e
          · have := ht2 l (by omega) hlk; omega
        have e1 : l + 1 - t = l - t := by omega
        refine Exists.intro ⟨l + 1, A, id, c, v6, m'⟩ (Exists.intro (fun i => i) (And.intro ⟨hlk, ?_, fun i hi => ?_, fun hne => ?_, hO, hL, hC⟩ (And.intro (show k - (l + 1) < k - l by omega) (RenTo.same ?_ fun i u d hb => ⟨u, hb, eqv_refl u⟩))))
        · show v6 = listV id (l + 1 - t) c
          rw [e1]; exact hv
        · have hi : i < l + 1 - t := hi
          omega
        · have hne : l + 1 - t ≠ 0 := hne
          omega
        · exact And.intro rfl (And.intro (eqv_refl v6) (And.intro rfl (And.intro rfl (And.intro (slotI (wrapS (by omega))) trivial))))
    · have hlk : l = k := by have := of_decide_eq_false h1; omega
      subst hlk
      (repeat (first | (with_reducible refine vc_exit ?_) | (with_reducible refine vc_ret ?_) | (with_reducible refine vc_skip ?_) | (with_reducible refine thenQ_x ?_) | (with_reducible refine thenQ_r ?_) | (with_reducible refine thenQ_n ?_) | (with_reducible refine blockQ_x rfl ?_) | (with_reducible refine blockQ_y rfl ?_) | (with_reducible refine blockQ_n ?_) | (with_reducible refine blockQ_r ?_) | (with_reducible refine vc_seq ?_) | (with_reducible refine vc_region ?_) | (with_reducible refine vc_block ?_) | (with_reducible refine vc_scope ?_) | (with_reducible refine opsVC_nil ?_)))
      refine opsVC_mv rfl rfl rfl ?_
      refine opsVC_as rfl rfl rfl ?_
      (repeat (first | (with_reducible refine vc_exit ?_) | (with_reducible refine vc_ret ?_) | (with_reducible refine vc_skip ?_) | (with_reducible refine thenQ_x ?_) | (with_reducible refine thenQ_r ?_) | (with_reducible refine thenQ_n ?_) | (with_reducible refine blockQ_x rfl ?_) | (with_reducible refine blockQ_y rfl ?_) | (with_reducible refine blockQ_n ?_) | (with_reducible refine blockQ_r ?_) | (with_reducible refine vc_seq ?_) | (with_reducible refine vc_region ?_) | (with_reducible refine vc_block ?_) | (with_reducible refine vc_scope ?_) | (with_reducible refine opsVC_nil ?_)))
      refine ⟨id, l - t, c, A, hv, redL_of (kerG_space (by omega)) hker fun i hi j hj => by show A (j + i * 8) = _; rw [Nat.add_comm]; exact hA i hi j hj, fun hne => ?_, by show m.length ≤ M'.length; omega, fun q hq => (hO q (by omega)).trans (hMm q hq)⟩
      obtain ⟨b1, b2, b3⟩ := hB hne
      exact ⟨by omega, b2, b3⟩
end Go.Proofs.Ytmnbeinomodggaa
