/- Texts in one: SubS, SubLaw. -/
import Derived.Test.YtjanlnngeklhoabGreatPg
import Derived.Test.YtjanlnngeklhoabGreatPf
set_option linter.unusedSimpArgs false
set_option linter.unusedVariables false
set_option linter.unusedSectionVars false
/- SubmoduleOf: both sides. -/
set_option linter.unusedVariables false
set_option linter.unusedSimpArgs false
set_option linter.unusedSectionVars false
set_option maxRecDepth 100000
set_option maxHeartbeats 8000000
namespace Go.Proofs.YtjanlnngeklhoabGreat
open M

/-- the sums of what the first n basis elements make of v -/
def SubS (p n : Nat) (B v : Nat → Int) : (Nat → Int) → Prop := Sp p 8 n (imgF p B v)
def subB (p n : Int) (U T Z C S : Nat → Int) (d : Int) (B v : Nat → Int) : Bool := hmB p n U T Z C S d B && vectorsB p d 1 (oneV (fun j => 0) v)
def subCode (p n : Int) (U T Z C S : Nat → Int) (d : Int) (B v : Nat → Int) : Int := if subB p n U T Z C S d B v = true then 0 else 1
theorem imgF_rng {p : Nat} (hp : 0 < (p : Int)) (B v : Nat → Int) (l j : Nat) : 0 ≤ imgF p B v l j ∧ imgF p B v l j < p := mod_rng hp _
section
variable (p n : Int) (U T Z C S : Nat → Int) (hU : isU8 8 U) (hT : isU8 512 T) (hZ : isU8 8 Z) (hC : isU8 512 C) (hS : isU8 64 S) (d : Int) (B : Nat → Int) (hB : isU8 512 B) (v : Nat → Int) (hv : isU8 8 v)
include hU hT hZ hC hS hB hv
theorem sub_spec (h : subB p n U T Z C S d B v = true) : ∃ k e : Nat, n = k ∧ d = e ∧ HV p k U T Z C S ∧ primeB p = true ∧ ModP p k e B ∧ ∀ i, e ≤ i → i < 8 → v i = 0 := by
  unfold subB at h
  simp only [Bool.and_eq_true] at h
  obtain ⟨k, e, h1, rfl, h3, h4, h5, _⟩ := hm_spec p n U T Z C S hU hT hZ hC hS d B hB h.1
  have h2 := h.2
  rw [one_vectors] at h2
  exact ⟨k, e, h1, rfl, h3, h4, h5, fun i h1 h3 => (entries_get h2 h3).2 (by omega)⟩
theorem implSub0_s : Spec Tryz.prog 14 [hopV p n U T Z C S, modV d B, .ints .u8 8 v] [] (ListQ false (subCode p n U T Z C S d B v) p.toNat (SubS p.toNat n.toNat B v)) := by
  refine Spec.of_vc (tabOK.dir fun g => Nat.beq g 30 || Nat.beq g 31) (tabEq.dir _) Tryz.func14 rfl (by kernel_rfl) rfl rfl ?_
  (repeat (first | refine And.intro (by omega) ?_ | refine And.intro ⟨by omega, by omega⟩ ?_))
  refine And.intro (And.intro rfl trivial) (Spec.mono (isModuleWith_s p n U T Z C S hU hT hZ hC hS d B hB 1 (oneV (fun j => 0) v) (by omega) (one_u8 hv)) ?_)
  rintro r m ⟨rfl, rfl⟩
  refine ifVC_split (fun hc => ?_) (fun hc => ?_)
  · have hc : subB p n U T Z C S d B v = false := by unfold subB; revert hc; cases (hmB p n U T Z C S d B && vectorsB p d 1 (oneV (fun j => 0) v)) <;> simp
    exact .inl ⟨by unfold subCode; rw [hc]; simp, by unfold subCode; rw [hc]; rfl⟩
  have hc : subB p n U T Z C S d B v = true := by unfold subB; revert hc; cases (hmB p n U T Z C S d B && vectorsB p d 1 (oneV (fun j => 0) v)) <;> simp
  have hcode : subCode p n U T Z C S d B v = 0 := by unfold subCode; rw [if_pos hc]
  rw [hcode]
  obtain ⟨n, d, rfl, rfl, hV, hpr, hM, hz⟩ := sub_spec p n U T Z C S hU hT hZ hC hS d B hB v hv hc
  obtain ⟨p, rfl⟩ := Int.eq_ofNat_of_zero_le (show 0 ≤ p by have := hV.a.hp; omega)
  have hp2 : 2 ≤ p ∧ p ≤ 31 := by have := primeB_rngS hpr; omega
  have hn := hV.a.hn
  have hn1 := hV.n1
  simp only [Int.toNat_natCast]
  change vc _ _ _ _ _ [some (hopV p n U T Z C S, 1106), some (modV d B, 513), some (.ints .u8 8 v, 8), some (.ints .u8 (1 * 8) (oneV (fun j => 0) v), 1 * 8)] _
  refine vc_gen (q := 3) 8 [0, 1, 2, 3, 4] [5, 6, 7] (by kernel_rfl) (by kernel_rfl) (by kernel_rfl) ?_
  refine readsAt_step rfl (by rfl) ?_
  refine readVC_fa rfl rfl rfl ?_
  refine readsAt_step rfl (by rfl) ?_
  refine readVC_loadF (v := .int .i64 p) (z := .int .i64 p) rfl rfl rfl rfl (fun _ h => h) ?_
  refine readsAt_step rfl (by rfl) ?_
  refine readVC_loadF (v := hopV p n U T Z C S) (z := hopV p n U T Z C S) rfl rfl rfl rfl (fun _ h => h) ?_
  refine readsAt_step rfl (by rfl) ?_
  refine readVC_loadF (v := modV d B) (z := modV d B) rfl rfl rfl rfl (fun _ h => h) ?_
  refine readsAt_step rfl (by rfl) ?_
  refine readVC_loadR (l := 8) rfl rfl rfl (by omega) ?_
  refine readsAt_nil ?_
  refine restVC_row1 (i := 5) rfl (by rfl) rfl rfl rfl rfl rfl fun G M0 hG p0 => ?_
  have l0 : M0.length = 5 := p0.len
  have hGv : ∀ j, j < 8 → G j = v j := fun j hj => (hG j hj).trans rfl
  have c0 : Clo M0 := p0.clo (fun id u c hb q hq => by
    match id with
    | 0 => cases hb; simp [hopV, SV.ids] at hq
    | 1 => cases hb; simp [modV, SV.ids] at hq
    | 2 => cases hb; cases hq
    | 3 => cases hb; cases hq
    | id + 4 => cases hb) (by simp [SV.ids])
  refine restVC_dirR (i := 6) rfl (by rfl) rfl rfl rfl rfl rfl ?_
  refine Spec.mono (imagesIn_s M0 p n U T Z C S d B G 4 p0.new c0 (by omega) hn hB (fun j hj => by rw [hGv j hj]; exact hv j hj)) ?_
  rintro _ M1 ⟨id, c, F, rfl, hF, hb, hl1, hold1, hclo1⟩
  refine ⟨fun q hq h => by rw [hold1 q hq] at h; exact h, preM_of _ _ hl1 hold1, ?_⟩
  obtain ⟨hid, hb, hc1⟩ := hb (by omega)
  have e : listV id n c = .sl id 0 n c := by unfold listV; rw [if_neg (by omega)]
  rw [e]
  have hFr : ∀ q, q < n * 8 → 0 ≤ F q ∧ F q < p := fun q hq => by
    have := hF (q / 8) (by omega) (q % 8) (by omega)
    rw [show q / 8 * 8 + q % 8 = q by omega] at this
    rw [this]
    exact imgF_rng (by omega) _ _ _ _
  refine restVC_dirR (i := 7) rfl (by rfl) rfl rfl rfl rfl rfl ?_
  refine Spec.mono (reduced_s M1 n (n * 8) p id c (c * 8) F hb (Nat.le_refl _) hclo1 (by omega) hpr hp2 hFr) ?_
  rintro r m' ⟨id2, k, A, rfl, hk, hR, hb2, hid2, hl, hold, hclo⟩
  refine ⟨fun q hq h => by rw [hold q hq] at h; exact h, preM_of _ _ hl hold, ?_⟩
  refine restVC_nil ?_
  refine opsVC_as rfl rfl rfl ?_
  refine opsVC_as rfl rfl rfl ?_
  (repeat (first | (with_reducible refine vc_exit ?_) | (with_reducible refine vc_ret ?_) | (with_reducible refine vc_skip ?_) | (with_reducible refine thenQ_x ?_) | (with_reducible refine thenQ_r ?_) | (with_reducible refine thenQ_n ?_) | (with_reducible refine blockQ_x rfl ?_) | (with_reducible refine blockQ_y rfl ?_) | (with_reducible refine blockQ_n ?_) | (with_reducible refine blockQ_r ?_) | (with_reducible refine vc_seq ?_) | (with_reducible refine vc_region ?_) | (with_reducible refine vc_block ?_) | (with_reducible refine vc_scope ?_) | (with_reducible refine opsVC_nil ?_)))
  have hR : RedL p (SubS p n B v) k A := hR.of_iff fun x => Sp.congr (by omega) (fun l hl j hj => by
    show F (l * 8 + j) = _
    rw [hF l hl j hj]
    unfold imgF
    rw [linS_congr 8 fun a ha => by rw [hGv a ha]]) (fun l hl j hj => hFr _ (by omega))
  exact .inr (.inl ⟨rfl, id2, k, k, A, fun h => Bool.noConfusion h, rfl, hR, Nat.le_refl _, hb2⟩)
theorem implSub_s : Spec Tryz.prog 14 [hopV p n U T Z C S, modV d B, .ints .u8 8 v] [] (ListR false (subCode p n U T Z C S d B v) p.toNat (SubS p.toNat n.toNat B v)) := ListQ.one (implSub0_s p n U T Z C S hU hT hZ hC hS d B hB v hv)

theorem specSub_s : Spec Tryz.prog 12 [hopV p n U T Z C S, modV d B, .ints .u8 8 v] [] (ListR false (subCode p n U T Z C S d B v) p.toNat (SubS p.toNat n.toNat B v)) := by
  refine ListQ.one (Spec.of_vc tabOK tabEq Tryz.func12 rfl (by kernel_rfl) rfl rfl ?_)
  (repeat (first | refine And.intro (by omega) ?_ | refine And.intro ⟨by omega, by omega⟩ ?_))
  refine And.intro (And.intro rfl trivial) (Spec.mono (l06Vectors_s p n U T Z C S hU hT hZ hC hS d B hB 1 (oneV (fun j => 0) v) (by omega) (one_u8 hv)) ?_)
  rintro r m ⟨rfl, rfl⟩
  refine ifVC_split (fun hc => ?_) (fun hc => ?_)
  · have hd : subB p n U T Z C S d B v = false := by
      cases h : subB p n U T Z C S d B v with
      | false => rfl
      | true => unfold subB at h; rw [h] at hc; simp at hc
    have h2 := hd
    unfold subB at h2
    exact .inl ⟨by unfold subCode; rw [hd]; simp, by unfold subCode; rw [hd, h2]; rfl⟩
  have hc : subB p n U T Z C S d B v = true := by
    cases h : subB p n U T Z C S d B v with
    | true => rfl
    | false => unfold subB at h; rw [h] at hc; simp at hc
  have hcode : subCode p n U T Z C S d B v = 0 := by unfold subCode; rw [if_pos hc]
  rw [hcode]
  obtain ⟨n, d, rfl, rfl, hV, hpr, hM, hz⟩ := sub_spec p n U T Z C S hU hT hZ hC hS d B hB v hv hc
  obtain ⟨p, rfl⟩ := Int.eq_ofNat_of_zero_le (show 0 ≤ p by have := hV.a.hp; omega)
  have hp2 : 2 ≤ p ∧ p ≤ 31 := by have := primeB_rngS hpr; omega
  have hn := hV.a.hn
  have hd8 := hM.d8
  simp only [Int.toNat_natCast]
  (repeat (first | refine And.intro (by omega) ?_ | refine And.intro ⟨by omega, by omega⟩ ?_))
  change vc _ _ _ _ _ [some (hopV p n U T Z C S, 1106), some (modV d B, 513), some (.ints .u8 8 v, 8), some (.ints .u8 (1 * 8) (oneV (fun j => 0) v), 1 * 8), some (.ints .u8 0 fun _ => 0, 0)] _
  refine LoopVC.ofR (fun x : Nat × Nat × Nat × (Nat → Int) => x.1 ≤ n ∧ x.2.1 ≤ x.2.2.1 ∧ RedL p (Sp p 8 x.1 (imgF p B v)) x.2.1 x.2.2.2)
    (fun x => [(3, .ptr 0 [] 0 0), (4, .ptr 1 [] 0 0), (5, .ptr 2 [] 0 0), (9, .sl 4 0 x.2.1 x.2.2.1), (10, .int .i64 x.1)])
    (fun x => [some (hopV p n U T Z C S, 1106), some (modV d B, 513), some (.ints .u8 8 v, 8), some (.ints .u8 (1 * 8) (oneV (fun j => 0) v), 1 * 8), some (.ints .u8 (x.2.1 * 8) x.2.2.2, x.2.2.1 * 8)]) (fun x => n - x.1) (0, 0, 0, fun _ => 0) ⟨Nat.zero_le _, Nat.le_refl _, redL_zero⟩ (fun i => i) (RenTo.same ?_ ?_) ?_ ?_ ?_
  · exact (And.intro rfl (And.intro rfl (And.intro rfl (And.intro rfl (And.intro rfl (trivial))))))
  · intro id u d hb
    match id with
    | 0 => cases hb; exact ⟨_, rfl, hopR _ _ _ _ _ _ _⟩
    | 1 => cases hb; exact ⟨_, rfl, modR _ _⟩
    | 2 => cases hb; exact ⟨_, rfl, eqv_refl _⟩
    | 3 => cases hb; exact ⟨_, rfl, eqv_refl _⟩
    | 4 => cases hb; exact ⟨_, rfl, ⟨⟨rfl, rfl⟩, fun j hj => by omega⟩⟩
    | id + 5 => cases hb
  · intro x hx; exact Nat.zero_le _
  · intro x hx
    refine OkP.of (by simp [SV.ids]) fun id u c hb q hq => ?_
    match id with
    | 0 => cases hb; simp [hopV, SV.ids] at hq
    | 1 => cases hb; simp [modV, SV.ids] at hq
    | 2 => cases hb; cases hq
    | 3 => cases hb; cases hq
    | 4 => cases hb; cases hq
    | id + 5 => cases hb
  · rintro ⟨i, k, c, A⟩ ⟨hi, hkc, hA⟩
    dsimp only at hi hkc hA
    refine ifVC_split (fun hh => ?_) (fun hh => ?_)
    · have hin : i < n := by have := of_decide_eq_true hh; omega
      have hidx : (i : Int).toNat = i := by omega
      have s0 : Space p 8 (Sp p 8 i (imgF p B v)) := Sp.space (by omega)
      have s1 : Space p 8 (Sp p 8 (i + 1) (imgF p B v)) := Sp.space (by omega)
      have r1 : ∀ j, j < 8 → 0 ≤ imgF p B v i j ∧ imgF p B v i j < p := fun j _ => imgF_rng (by omega) _ _ _ _
      have a1 : AddTo p (Sp p 8 i (imgF p B v)) (imgF p B v i) (Sp p 8 (i + 1) (imgF p B v)) := addTo_sp (by omega) r1
      have hw : (fun j => linS (fun q => B (q + ((i : Int).toNat * 64 + 0))) (fun q => v (q + 0)) d j % (p : Int)) = imgF p B v i := funext fun j => by
        show linS (partF B 64 (i : Int).toNat) v d j % (p : Int) = imgF p B v i j
        rw [hidx]
        unfold imgF
        rw [linS_cut 8 hd8 fun a h1 h2 => hz a h1 h2]
      refine vc_gen (q := 8) 14 [0, 1, 2, 3, 4, 5, 6, 7, 8, 9, 10, 11] [12, 13] (by kernel_rfl) (by kernel_rfl) (by kernel_rfl) ?_
      refine readsAt_step rfl (by rfl) ?_
      refine readVC_fa rfl rfl rfl ?_
      refine readsAt_step rfl (by rfl) ?_
      refine readVC_loadF (v := .int .i64 p) (z := .int .i64 p) rfl rfl rfl rfl (fun _ h => h) ?_
      refine readsAt_step rfl (by rfl) ?_
      refine readVC_mv rfl ?_
      refine readsAt_step rfl (by rfl) ?_
      refine readVC_fa rfl rfl rfl ?_
      refine readsAt_step rfl (by rfl) ?_
      refine readVC_loadF (v := .int .i64 p) (z := .int .i64 p) rfl rfl rfl rfl (fun _ h => h) ?_
      refine readsAt_step rfl (by rfl) ?_
      refine readVC_fa rfl rfl rfl ?_
      refine readsAt_step rfl (by rfl) ?_
      refine readVC_loadF (v := .int .i64 d) (z := .int .i64 d) rfl rfl rfl rfl (fun _ h => h) ?_
      refine readsAt_step rfl (by rfl) ?_
      refine readVC_mv rfl ?_
      refine readsAt_step rfl (by rfl) ?_
      refine readVC_fa rfl rfl rfl ?_
      refine readsAt_step rfl (by rfl) ?_
      refine readVC_iaA rfl rfl rfl ⟨by omega, by omega⟩ ?_
      refine readsAt_step rfl (by rfl) ?_
      refine readVC_loadF (v := .ints .u8 64 fun q => B (q + ((i : Int).toNat * 64 + 0))) (z := .ints .u8 512 B) rfl rfl rfl rfl (fun _ h => ⟨by omega, h⟩) ?_
      refine readsAt_step rfl (by rfl) ?_
      refine readVC_loadR (l := 8) rfl rfl rfl (by omega) ?_
      refine readsAt_nil ?_
      refine restVC_val (i := 12) rfl (by rfl) rfl rfl rfl rfl rfl rfl (fun _ => rfl) (fun _ => rfl) (l01Apply_s p d _ _ (by omega) hd8 (fun j hj => hB _ (by omega)) (fun j hj => hv _ (by omega))) ?_
      refine restVC_call (i := 13) rfl (by rfl) rfl rfl rfl rfl rfl ?_
      rw [hw]
      refine And.intro (And.intro rfl trivial) (Spec.mono (show Spec Tryz.prog 27 [.int .i64 p, .sl 0 0 k c, .ints .u8 8 (imgF p B v i)] [some (.ints .u8 (k * 8) A, c * 8)] (PutR p k c (Sp p 8 (i + 1) (imgF p B v)) A) from l01PutR_s p k c _ _ A (imgF p B v i) hpr hp2 s0 s1 hA a1 r1) ?_)
      rintro r m (⟨hR1, rfl, rfl⟩ | ⟨c1, A1, hR1, hc1, rfl, rfl⟩) <;> refine And.intro (by repeat (first | exact trivial | refine And.intro rfl ?_)) ?_
      · refine restVC_nil ?_
        refine opsVC_as rfl rfl rfl ?_
        (repeat (first | (with_reducible refine vc_exit ?_) | (with_reducible refine vc_ret ?_) | (with_reducible refine vc_skip ?_) | (with_reducible refine thenQ_x ?_) | (with_reducible refine thenQ_r ?_) | (with_reducible refine thenQ_n ?_) | (with_reducible refine blockQ_x rfl ?_) | (with_reducible refine blockQ_y rfl ?_) | (with_reducible refine blockQ_n ?_) | (with_reducible refine blockQ_r ?_) | (with_reducible refine vc_seq ?_) | (with_reducible refine vc_region ?_) | (with_reducible refine vc_block ?_) | (with_reducible refine vc_scope ?_) | (with_reducible refine opsVC_nil ?_)))
        refine Exists.intro (i + 1, k, c, A) (Exists.intro (fun i => i) (And.intro ⟨hin, hkc, hR1⟩ (And.intro (show n - (i + 1) < n - i by omega) (renTo_mk ?_ (fun i hi => absurd hi (Nat.not_lt_zero _)) (fun id u d hb => ?_) fun x y hx hy e => ?_))))
        · exact And.intro rfl (And.intro rfl (And.intro rfl (And.intro rfl (And.intro (slotI (wrapS (by omega))) trivial))))
        · match id with
          | 0 => cases hb; exact ⟨fun _ => Nat.zero_le _, _, rfl, hopR _ _ _ _ _ _ _⟩
          | 1 => cases hb; exact ⟨fun _ => Nat.zero_le _, _, rfl, modR _ _⟩
          | 2 => cases hb; exact ⟨fun _ => Nat.zero_le _, _, rfl, eqv_refl _⟩
          | 3 => cases hb; exact ⟨fun _ => Nat.zero_le _, _, rfl, eqv_refl _⟩
          | 4 => cases hb; exact ⟨fun _ => Nat.zero_le _, _, rfl, eqv_refl _⟩
          | id + 5 => cases hb
        · exact e
      · refine restVC_nil ?_
        refine opsVC_as rfl rfl rfl ?_
        (repeat (first | (with_reducible refine vc_exit ?_) | (with_reducible refine vc_ret ?_) | (with_reducible refine vc_skip ?_) | (with_reducible refine thenQ_x ?_) | (with_reducible refine thenQ_r ?_) | (with_reducible refine thenQ_n ?_) | (with_reducible refine blockQ_x rfl ?_) | (with_reducible refine blockQ_y rfl ?_) | (with_reducible refine blockQ_n ?_) | (with_reducible refine blockQ_r ?_) | (with_reducible refine vc_seq ?_) | (with_reducible refine vc_region ?_) | (with_reducible refine vc_block ?_) | (with_reducible refine vc_scope ?_) | (with_reducible refine opsVC_nil ?_)))
        refine Exists.intro (i + 1, k + 1, c1, A1) (Exists.intro (fun i => if i = 4 then 5 else i) (And.intro ⟨hin, hc1, hR1⟩ (And.intro (show n - (i + 1) < n - i by omega) (renTo_mk ?_ (fun i hi => absurd hi (Nat.not_lt_zero _)) (fun id u d hb => ?_) fun x y hx hy e => ?_))))
        · exact And.intro rfl (And.intro rfl (And.intro rfl (And.intro rfl (And.intro (slotI (wrapS (by omega))) trivial))))
        · match id with
          | 0 => cases hb; exact ⟨fun _ => Nat.zero_le _, _, rfl, hopR _ _ _ _ _ _ _⟩
          | 1 => cases hb; exact ⟨fun _ => Nat.zero_le _, _, rfl, modR _ _⟩
          | 2 => cases hb; exact ⟨fun _ => Nat.zero_le _, _, rfl, eqv_refl _⟩
          | 3 => cases hb; exact ⟨fun _ => Nat.zero_le _, _, rfl, eqv_refl _⟩
          | 4 => cases hb; exact ⟨fun _ => Nat.zero_le _, _, rfl, eqv_refl _⟩
          | id + 5 => cases hb
        · have hx : x < 5 := hx
          have hy : y < 5 := hy
          have e : (if x = 4 then 5 else x) = if y = 4 then 5 else y := e
          split at e <;> split at e <;> omega
    · have hin : i = n := by have := of_decide_eq_false hh; omega
      subst hin
      exact .inr (.inl ⟨rfl, 4, k, c, A, fun h => Bool.noConfusion h, rfl, hA, hkc, rfl⟩)
end
end Go.Proofs.YtjanlnngeklhoabGreat

/- SubmoduleOf: the law. -/
set_option linter.unusedVariables false
set_option linter.unusedSimpArgs false
set_option linter.unusedSectionVars false
set_option maxRecDepth 100000
set_option maxHeartbeats 8000000
namespace Go.Proofs.YtjanlnngeklhoabGreat
open M

theorem readVC_ex {T : Tab} {s : Slots} {m : Mem} {x : Operand} {i : Nat} {v w : SV} {Kv : SV → Prop} (hx : ev s x = some v) (hw : tupleAt v i = some w) (hk : Kv w) : readVC T (.extract x i) s m Kv := by
  simp only [readVC, hx, hw]
  exact hk
theorem lawSub_c (p n : Int) (U T Z C S : Nat → Int) (hU : isU8 8 U) (hT : isU8 512 T) (hZ : isU8 8 Z) (hC : isU8 512 C) (hS : isU8 64 S) (d : Int) (B : Nat → Int) (hB : isU8 512 B) (v : Nat → Int) (hv : isU8 8 v) : Spec Tryz.prog 4 [hopV p n U T Z C S, modV d B, .ints .u8 8 v] [] (Ret (.bool true)) := by
  refine Spec.ret rfl (Spec.of_vc tabOK tabEq Tryz.func4 rfl (by kernel_rfl) rfl rfl ?_)
  have hp1 : subCode p n U T Z C S d B v = 0 → 1 < (p.toNat : Int) := fun h0 => by
    by_cases hc : subB p n U T Z C S d B v = true
    · obtain ⟨_, _, _, _, _, hpr, _, _⟩ := sub_spec p n U T Z C S hU hT hZ hC hS d B hB v hv hc
      have := primeB_rngS hpr
      omega
    · unfold subCode at h0; rw [if_neg hc] at h0; omega
  refine Exists.intro 10711 (And.intro (by kernel_rfl) ?_)
  refine readsAt_step rfl (by rfl) ?_
  refine readVC_loadF (v := hopV p n U T Z C S) (z := hopV p n U T Z C S) rfl rfl rfl rfl (fun _ h => h) ?_
  refine readsAt_step rfl (by rfl) ?_
  refine readVC_loadF (v := modV d B) (z := modV d B) rfl rfl rfl rfl (fun _ h => h) ?_
  refine readsAt_step rfl (by rfl) ?_
  refine readVC_loadR (l := 8) rfl rfl rfl (by omega) ?_
  refine readsAt_nil ?_
  refine restVC_val (i := 1) rfl (by rfl) rfl rfl rfl rfl rfl rfl (fun _ => rfl) (fun _ => rfl) (toHopf_s p n U T Z C S) ?_
  refine restVC_val (i := 3) rfl (by rfl) rfl rfl rfl rfl rfl rfl (fun _ => rfl) (fun _ => rfl) (toModule_s d B) ?_
  refine restVC_val (i := 5) rfl (by rfl) rfl rfl rfl rfl rfl rfl (fun _ => rfl) (fun _ => rfl) (toVector_s _) ?_
  refine restVC_call (i := 6) rfl (by rfl) rfl rfl rfl rfl rfl ?_
  refine And.intro trivial (Spec.mono (specSub_s p n U T Z C S hU hT hZ hC hS d B hB v hv) ?_)
  rintro r m (⟨he, rfl, rfl⟩ | ⟨he, k0, c0, A0, _, rfl, hR0, rfl⟩ | ⟨_, hf, _⟩) <;> first | (refine And.intro (by repeat (first | exact trivial | refine And.intro rfl ?_)) ?_; refine restVC_nil ?_; refine readsAt_step rfl (by rfl) ?_; refine readVC_mv rfl ?_; refine readsAt_step rfl (by rfl) ?_; refine readVC_ex rfl rfl ?_; refine readsAt_step rfl (by rfl) ?_; refine readVC_ex rfl rfl ?_; refine readsAt_step rfl (by rfl) ?_; refine readVC_as rfl ?_; refine readsAt_nil ?_) | skip
  · -- an error on both sides
    change opsVC _ _ _ _ _ _ [some (hopV p n U T Z C S, 1106), some (modV d B, 513), some (.ints .u8 8 v, 8)] _
    refine Exists.intro 10711 (And.intro (by kernel_rfl) ?_)
    refine readsAt_step rfl (by rfl) ?_
    refine readVC_loadF (v := hopV p n U T Z C S) (z := hopV p n U T Z C S) rfl rfl rfl rfl (fun _ h => h) ?_
    refine readsAt_step rfl (by rfl) ?_
    refine readVC_loadF (v := modV d B) (z := modV d B) rfl rfl rfl rfl (fun _ h => h) ?_
    refine readsAt_step rfl (by rfl) ?_
    refine readVC_loadR (l := 8) rfl rfl rfl (by omega) ?_
    refine readsAt_nil ?_
    refine restVC_val (i := 1) rfl (by rfl) rfl rfl rfl rfl rfl rfl (fun _ => rfl) (fun _ => rfl) (toHopf_s p n U T Z C S) ?_
    refine restVC_val (i := 3) rfl (by rfl) rfl rfl rfl rfl rfl rfl (fun _ => rfl) (fun _ => rfl) (toModule_s d B) ?_
    refine restVC_val (i := 5) rfl (by rfl) rfl rfl rfl rfl rfl rfl (fun _ => rfl) (fun _ => rfl) (toVector_s _) ?_
    refine restVC_call (i := 6) rfl (by rfl) rfl rfl rfl rfl rfl ?_
    refine And.intro trivial (Spec.mono (implSub_s p n U T Z C S hU hT hZ hC hS d B hB v hv) ?_)
    rintro r m (⟨_, rfl, rfl⟩ | ⟨he', _⟩ | ⟨he', _⟩) <;> first | (refine And.intro (by repeat (first | exact trivial | refine And.intro rfl ?_)) ?_; refine restVC_nil ?_; refine readsAt_step rfl (by rfl) ?_; refine readVC_mv rfl ?_; refine readsAt_step rfl (by rfl) ?_; refine readVC_ex rfl rfl ?_; refine readsAt_step rfl (by rfl) ?_; refine readVC_ex rfl rfl ?_; refine readsAt_step rfl (by rfl) ?_; refine readVC_as rfl ?_; refine readsAt_nil ?_) | skip
    rotate_left
    · exact absurd he' he
    · exact absurd he' he
    refine And.intro trivial (Spec.mono (eqVecsNil_s) ?_)
    rintro r m ⟨rfl, rfl⟩
    refine ifVC_false (by simp) ?_
    refine And.intro trivial (Spec.mono (markVecsNil_s 101) ?_)
    rintro r m ⟨rfl, rfl⟩
    refine And.intro trivial (Spec.mono (heldVecsNil_s 101) ?_)
    rintro r m ⟨rfl, rfl⟩
    change opsVC _ _ _ _ _ _ [some (hopV p n U T Z C S, 1106), some (modV d B, 513), some (.ints .u8 8 v, 8)] _
    refine Exists.intro 10711 (And.intro (by kernel_rfl) ?_)
    refine readsAt_step rfl (by rfl) ?_
    refine readVC_loadF (v := hopV p n U T Z C S) (z := hopV p n U T Z C S) rfl rfl rfl rfl (fun _ h => h) ?_
    refine readsAt_step rfl (by rfl) ?_
    refine readVC_loadF (v := modV d B) (z := modV d B) rfl rfl rfl rfl (fun _ h => h) ?_
    refine readsAt_step rfl (by rfl) ?_
    refine readVC_loadR (l := 8) rfl rfl rfl (by omega) ?_
    refine readsAt_nil ?_
    refine restVC_val (i := 1) rfl (by rfl) rfl rfl rfl rfl rfl rfl (fun _ => rfl) (fun _ => rfl) (toHopf_s p n U T Z C S) ?_
    refine restVC_val (i := 3) rfl (by rfl) rfl rfl rfl rfl rfl rfl (fun _ => rfl) (fun _ => rfl) (toModule_s d B) ?_
    refine restVC_val (i := 5) rfl (by rfl) rfl rfl rfl rfl rfl rfl (fun _ => rfl) (fun _ => rfl) (toVector_s _) ?_
    refine restVC_call (i := 6) rfl (by rfl) rfl rfl rfl rfl rfl ?_
    refine And.intro trivial (Spec.mono (implSub_s p n U T Z C S hU hT hZ hC hS d B hB v hv) ?_)
    rintro r m (⟨_, rfl, rfl⟩ | ⟨he', _⟩ | ⟨he', _⟩) <;> first | (refine And.intro (by repeat (first | exact trivial | refine And.intro rfl ?_)) ?_; refine restVC_nil ?_; refine readsAt_step rfl (by rfl) ?_; refine readVC_mv rfl ?_; refine readsAt_step rfl (by rfl) ?_; refine readVC_ex rfl rfl ?_; refine readsAt_step rfl (by rfl) ?_; refine readVC_ex rfl rfl ?_; refine readsAt_step rfl (by rfl) ?_; refine readVC_as rfl ?_; refine readsAt_nil ?_) | skip
    rotate_left
    · exact absurd he' he
    · exact absurd he' he
    refine And.intro trivial (Spec.mono (eqVecsNil_s) ?_)
    rintro r m ⟨rfl, rfl⟩
    refine ifVC_false (by simp) ?_
    refine And.intro trivial (Spec.mono (heldVecsNil_s 101) ?_)
    rintro r m ⟨rfl, rfl⟩
    exact boolEq rfl
  · -- a list
    have hk0 : k0 ≤ 8 := red_k hR0
    have uniq := fun k A (h : RedL _ _ k A) => redL_uniq (hp1 he) (Sp.space (by have := hp1 he; omega)) hR0 h
    change opsVC _ _ _ _ _ _ [some (hopV p n U T Z C S, 1106), some (modV d B, 513), some (.ints .u8 8 v, 8), some (.ints .u8 (k0 * 8) A0, c0 * 8)] _
    refine Exists.intro 10711 (And.intro (by kernel_rfl) ?_)
    refine readsAt_step rfl (by rfl) ?_
    refine readVC_loadF (v := hopV p n U T Z C S) (z := hopV p n U T Z C S) rfl rfl rfl rfl (fun _ h => h) ?_
    refine readsAt_step rfl (by rfl) ?_
    refine readVC_loadF (v := modV d B) (z := modV d B) rfl rfl rfl rfl (fun _ h => h) ?_
    refine readsAt_step rfl (by rfl) ?_
    refine readVC_loadR (l := 8) rfl rfl rfl (by omega) ?_
    refine readsAt_nil ?_
    refine restVC_val (i := 1) rfl (by rfl) rfl rfl rfl rfl rfl rfl (fun _ => rfl) (fun _ => rfl) (toHopf_s p n U T Z C S) ?_
    refine restVC_val (i := 3) rfl (by rfl) rfl rfl rfl rfl rfl rfl (fun _ => rfl) (fun _ => rfl) (toModule_s d B) ?_
    refine restVC_val (i := 5) rfl (by rfl) rfl rfl rfl rfl rfl rfl (fun _ => rfl) (fun _ => rfl) (toVector_s _) ?_
    refine restVC_call (i := 6) rfl (by rfl) rfl rfl rfl rfl rfl ?_
    refine And.intro trivial (Spec.mono (implSub_s p n U T Z C S hU hT hZ hC hS d B hB v hv) ?_)
    rintro r m (⟨he', _⟩ | ⟨_, k1, c1, A1, hk1, rfl, hR1, rfl⟩ | ⟨_, hf, _⟩) <;> first | (refine And.intro (by repeat (first | exact trivial | refine And.intro rfl ?_)) ?_; refine restVC_nil ?_; refine readsAt_step rfl (by rfl) ?_; refine readVC_mv rfl ?_; refine readsAt_step rfl (by rfl) ?_; refine readVC_ex rfl rfl ?_; refine readsAt_step rfl (by rfl) ?_; refine readVC_ex rfl rfl ?_; refine readsAt_step rfl (by rfl) ?_; refine readVC_as rfl ?_; refine readsAt_nil ?_) | skip
    · exact absurd he he'
    rotate_left
    · cases hf
    obtain ⟨hz, hA⟩ := uniq _ _ hR1
    subst hz
    change opsVC _ _ _ _ _ _ [some (hopV p n U T Z C S, 1106), some (modV d B, 513), some (.ints .u8 8 v, 8), some (.ints .u8 (k0 * 8) A0, c0 * 8), some (.ints .u8 (k0 * 8) A1, c1 * 8)] _
    refine And.intro (And.intro rfl (And.intro rfl trivial)) (Spec.mono (eqVecs_s k0 c1 c0 A1 A0 (by omega) (fun j hj => (hA j hj).symm)) ?_)
    rintro r m ⟨rfl, rfl⟩
    change opsVC _ _ _ _ _ _ [some (hopV p n U T Z C S, 1106), some (modV d B, 513), some (.ints .u8 8 v, 8), some (.ints .u8 (k0 * 8) A0, c0 * 8), some (.ints .u8 (k0 * 8) A1, c1 * 8)] _
    refine And.intro (And.intro rfl trivial) (Spec.mono (markVecs_s k0 c1 101 A1 (by omega) (by omega)) ?_)
    rintro r m ⟨rfl, rfl⟩
    change opsVC _ _ _ _ _ _ [some (hopV p n U T Z C S, 1106), some (modV d B, 513), some (.ints .u8 8 v, 8), some (.ints .u8 (k0 * 8) A0, c0 * 8), some (.ints .u8 (k0 * 8) (markF 101), c1 * 8)] _
    refine And.intro (And.intro rfl trivial) (Spec.mono (heldVecs_s k0 c1 101 (by omega) (by omega)) ?_)
    rintro r m ⟨rfl, rfl⟩
    change opsVC _ _ _ _ _ _ [some (hopV p n U T Z C S, 1106), some (modV d B, 513), some (.ints .u8 8 v, 8), some (.ints .u8 (k0 * 8) A0, c0 * 8), some (.ints .u8 (k0 * 8) (markF 101), c1 * 8)] _
    refine ifVC_false (by simp) ?_
    refine Exists.intro 10711 (And.intro (by kernel_rfl) ?_)
    refine readsAt_step rfl (by rfl) ?_
    refine readVC_loadF (v := hopV p n U T Z C S) (z := hopV p n U T Z C S) rfl rfl rfl rfl (fun _ h => h) ?_
    refine readsAt_step rfl (by rfl) ?_
    refine readVC_loadF (v := modV d B) (z := modV d B) rfl rfl rfl rfl (fun _ h => h) ?_
    refine readsAt_step rfl (by rfl) ?_
    refine readVC_loadR (l := 8) rfl rfl rfl (by omega) ?_
    refine readsAt_nil ?_
    refine restVC_val (i := 1) rfl (by rfl) rfl rfl rfl rfl rfl rfl (fun _ => rfl) (fun _ => rfl) (toHopf_s p n U T Z C S) ?_
    refine restVC_val (i := 3) rfl (by rfl) rfl rfl rfl rfl rfl rfl (fun _ => rfl) (fun _ => rfl) (toModule_s d B) ?_
    refine restVC_val (i := 5) rfl (by rfl) rfl rfl rfl rfl rfl rfl (fun _ => rfl) (fun _ => rfl) (toVector_s _) ?_
    refine restVC_call (i := 6) rfl (by rfl) rfl rfl rfl rfl rfl ?_
    refine And.intro trivial (Spec.mono (implSub_s p n U T Z C S hU hT hZ hC hS d B hB v hv) ?_)
    rintro r m (⟨he', _⟩ | ⟨_, k2, c2, A2, hk2, rfl, hR2, rfl⟩ | ⟨_, hf, _⟩) <;> first | (refine And.intro (by repeat (first | exact trivial | refine And.intro rfl ?_)) ?_; refine restVC_nil ?_; refine readsAt_step rfl (by rfl) ?_; refine readVC_mv rfl ?_; refine readsAt_step rfl (by rfl) ?_; refine readVC_ex rfl rfl ?_; refine readsAt_step rfl (by rfl) ?_; refine readVC_ex rfl rfl ?_; refine readsAt_step rfl (by rfl) ?_; refine readVC_as rfl ?_; refine readsAt_nil ?_) | skip
    · exact absurd he he'
    rotate_left
    · cases hf
    obtain ⟨hz, hA2⟩ := uniq _ _ hR2
    subst hz
    change opsVC _ _ _ _ _ _ [some (hopV p n U T Z C S, 1106), some (modV d B, 513), some (.ints .u8 8 v, 8), some (.ints .u8 (k0 * 8) A0, c0 * 8), some (.ints .u8 (k0 * 8) (markF 101), c1 * 8), some (.ints .u8 (k0 * 8) A2, c2 * 8)] _
    refine And.intro (And.intro rfl (And.intro rfl trivial)) (Spec.mono (eqVecs_s k0 c2 c0 A2 A0 (by omega) (fun j hj => (hA2 j hj).symm)) ?_)
    rintro r m ⟨rfl, rfl⟩
    change opsVC _ _ _ _ _ _ [some (hopV p n U T Z C S, 1106), some (modV d B, 513), some (.ints .u8 8 v, 8), some (.ints .u8 (k0 * 8) A0, c0 * 8), some (.ints .u8 (k0 * 8) (markF 101), c1 * 8), some (.ints .u8 (k0 * 8) A2, c2 * 8)] _
    refine And.intro (And.intro rfl trivial) (Spec.mono (heldVecs_s k0 c1 101 (by omega) (by omega)) ?_)
    rintro r m ⟨rfl, rfl⟩
    change opsVC _ _ _ _ _ _ [some (hopV p n U T Z C S, 1106), some (modV d B, 513), some (.ints .u8 8 v, 8), some (.ints .u8 (k0 * 8) A0, c0 * 8), some (.ints .u8 (k0 * 8) (markF 101), c1 * 8), some (.ints .u8 (k0 * 8) A2, c2 * 8)] _
    refine ifVC_false (by simp) ?_
    exact boolEq rfl
  · cases hf
end Go.Proofs.YtjanlnngeklhoabGreat
