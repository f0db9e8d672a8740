/- The model's reduced lists of lists of vectors. -/
import Derived.Test.YtcocapkdpbdmdaaPut
import Derived.Test.YtcocapkdpbdmdaaGraph
set_option linter.unusedVariables false
set_option linter.unusedSimpArgs false
set_option maxRecDepth 100000
set_option maxHeartbeats 4000000
namespace Go.Proofs.Ytcocapkdpbdmdaa
open M

/-- blocks of numbers in other places, those that nobody needs left out -/
theorem Spec.tidy {P : Program} {f : Nat} {args : List SV} {m : Mem} {Q R : SV → Mem → Prop} (h : Spec P f args m Q)
    (hq : ∀ r m', Q r m' → ∃ (σ : Nat → Nat) (r0 : SV) (M0 : Mem), R r0 M0 ∧ r = r0.ren σ ∧ (∀ i ∈ r0.ids, i < M0.length) ∧ (∀ i, i < m.length → σ i = i) ∧ (∀ i, m.length ≤ i → m.length ≤ σ i) ∧ m.length ≤ M0.length ∧
      (∀ id u c, blockOf M0 id = some (u, c) → u.ids = [] ∧ blockOf m' (σ id) = some (u, c)) ∧ (∀ i j, i < M0.length → j < M0.length → σ i = σ j → i = j)) : Spec P f args m R := by
  refine ⟨h.enters, fun μ w hm => (h.run μ w hm).mono ?_⟩
  rintro e w' ⟨μ', r, m', rfl, hQ, hi, ha, hl', hf, hmr, hk⟩
  obtain ⟨σ, r0, M0, hR, rfl, h1, h2, h3, h4, h5, h6⟩ := hq r m' hQ
  have lift : ∀ i, (blockOf M0 i).isSome = true → (blockOf m' (σ i)).isSome = true := fun i hi => by
    cases hb : blockOf M0 i with
    | none => rw [hb] at hi; cases hi
    | some p => obtain ⟨u, c⟩ := p; rw [(h5 i u c hb).2]; rfl
  refine ⟨fun i => μ' (σ i), r0, M0, by rw [toVal_ren], hR, h1, fun id hid => by show μ' (σ id) = μ id; rw [h2 id hid]; exact ha id hid, h4, fun id hid hs => hf (σ id) (h3 id hid) (lift id hs), ⟨fun id u c hb => ?_, fun i j hi hj e => h6 i j (blockOf_lt hi) (blockOf_lt hj) (hmr.inj _ _ (lift i hi) (lift j hj) e), fun id u c hb i hi => ?_⟩, hk⟩
  · obtain ⟨t, ex, g1, g2⟩ := hmr.blk (σ id) u c (h5 id u c hb).2
    have e : flat (fun i => μ' (σ i)) u = flat μ' u := flat_ids u (by rw [(h5 id u c hb).1]; intro i hi; cases hi)
    exact ⟨t, ex, by rw [e]; exact g1, by rw [e]; exact g2⟩
  · rw [(h5 id u c hb).1] at hi; cases hi
theorem back_ge (ρ : Nat → Nat) (m m' : Mem) (ids : List Nat) {k : IntKind} {n c j : Nat} {g : Nat → Int} (hb : blockOf m' (ids.length + j) = some (.ints k n g, c)) : blockOf (backMem ρ m ids m') (m.length + j) = some (.ints k n g, c) := by
  have := blockOf_append_ge (backGo ρ ids m' 0 m) ((m'.drop ids.length).map (renBlk ρ)) j
  rw [backGo_length] at this
  show blockOf (backGo ρ ids m' 0 m ++ (m'.drop ids.length).map (renBlk ρ)) (m.length + j) = _
  rw [this, blockOf_map, blockOf_drop, hb]
  rfl

theorem lk_map (σ : Nat → Nat) (S : Slots) (t : Nat) : lk (S.map fun p => (p.1, p.2.ren σ)) t = (lk S t).map (SV.ren σ) := by
  induction S with
  | nil => rfl
  | cons p r ih =>
    obtain ⟨k, u⟩ := p
    show lk ((k, u.ren σ) :: r.map _) t = _
    rw [lk_cons, lk_cons]
    by_cases h : k = t
    · rw [if_pos h, if_pos h]; rfl
    · rw [if_neg h, if_neg h]; exact ih
/-- a round's end, where blocks have got other numbers -/
theorem renTo_mk {own : Nat} {σ : Nat → Nat} {S : Slots} {M : Mem} {s : Slots} {m : Mem} (hs : subL (S.map fun p => (p.1, p.2.ren σ)) s) (fix : ∀ i, i < own → σ i = i) (hb : ∀ i u d, blockOf M i = some (u, d) → (own ≤ i → own ≤ σ i) ∧ ∃ v, blockOf m (σ i) = some (v, d) ∧ v.eqv (u.ren σ))
    (inj : ∀ i j, i < M.length → j < M.length → σ i = σ j → i = j) : RenTo own σ S M s m :=
  ⟨fix, hb, fun i j hi hj e => inj i j (blockOf_lt hi) (blockOf_lt hj) e, fun t v hv => subL_get _ s hs t _ (by rw [lk_map, hv]; rfl)⟩

theorem redL_zero {p : Nat} {V : Nat → Nat → Int} {A : Nat → Int} : RedL p (Sp p 8 0 V) 0 A := by
  refine ⟨fun i hi => absurd hi (Nat.not_lt_zero _), fun i hi => absurd hi (Nat.not_lt_zero _), fun i j _ hj => absurd hj (Nat.not_lt_zero _), fun i hi => absurd hi (Nat.not_lt_zero _), fun i hi => absurd hi (Nat.not_lt_zero _), fun i j hi => absurd hi (Nat.not_lt_zero _), fun v hv _ => ?_⟩
  cases hv with
  | zero v h => exact h
  | add v u c i hi h hu => exact absurd hi (Nat.not_lt_zero _)
/-- what l01Put makes is a reduced list of one more -/
theorem putU_red {p k cap : Nat} {S S' : (Nat → Int) → Prop} {A v : Nat → Int} {r : SV} {m : Mem} (hp : 1 < p) (hS : Space p 8 S) (hS' : Space p 8 S') (h : RedL p S k A) (ha : AddTo p S v S') (hv : ∀ j, j < 8 → 0 ≤ v j ∧ v j < p) (hq : PutQ p k cap A v r m) :
    (RedL p S' k A ∧ r = .sl 0 0 k cap ∧ ∃ g, m = [some (.ints .u8 (k * 8) A, cap * 8), g]) ∨
    (∃ cap' F, RedL p S' (k + 1) F ∧ k + 1 ≤ cap' ∧ r = .sl 2 0 (k + 1) cap' ∧ ∃ g rest, m = some (.ints .u8 (k * 8) A, cap * 8) :: g :: some (.ints .u8 ((k + 1) * 8) F, cap' * 8) :: rest) := by
  rcases hq with ⟨hz, hr, hm⟩ | ⟨t, y, cap', F, htk, h1, h2, h8, hy, hF, hc, hr, hm⟩
  · exact .inl ⟨put_same hp hS h ha hv hz, hr, hm⟩
  · refine .inr ⟨cap', F, redL_of hS' (put_red hp hS hS' h ha hv h8 hy htk h1 h2) fun i hi j hj => ?_, hc, hr, hm⟩
    have := hF (j + i * 8) (by omega)
    rw [show (j + i * 8) / 8 = i by omega, show (j + i * 8) % 8 = j by omega] at this
    exact this

/-- a reduced list of the space S' comes out: in the old block, or in a new one -/
def PutR (p k cap : Nat) (S' : (Nat → Int) → Prop) (A : Nat → Int) (r : SV) (m : Mem) : Prop :=
  (RedL p S' k A ∧ r = .sl 0 0 k cap ∧ m = [some (.ints .u8 (k * 8) A, cap * 8)]) ∨
  (∃ cap' F, RedL p S' (k + 1) F ∧ k + 1 ≤ cap' ∧ r = .sl 1 0 (k + 1) cap' ∧ m = [some (.ints .u8 (k * 8) A, cap * 8), some (.ints .u8 ((k + 1) * 8) F, cap' * 8)])
theorem l01PutR_s (p k cap : Nat) (S S' : (Nat → Int) → Prop) (A v : Nat → Int) (hp : primeB (p : Int) = true) (hp2 : 2 ≤ p ∧ p ≤ 31) (hS : Space p 8 S) (hS' : Space p 8 S') (h : RedL p S k A) (ha : AddTo p S v S') (hv : ∀ j, j < 8 → 0 ≤ v j ∧ v j < p) :
    Spec Try.prog 60 [.int .i64 p, .sl 0 0 k cap, .ints .u8 8 v] [some (.ints .u8 (k * 8) A, cap * 8)] (PutR p k cap S' A) := by
  refine Spec.tidy (l01Put_s p k cap S A v hp hp2 hS h hv) fun r m hq => ?_
  rcases putU_red (by omega) hS hS' h ha hv hq with ⟨hR, rfl, g, rfl⟩ | ⟨cap', F, hR, hc', rfl, g, rest, rfl⟩
  · refine ⟨fun i => i, .sl 0 0 k cap, [some (.ints .u8 (k * 8) A, cap * 8)], .inl ⟨hR, rfl, rfl⟩, rfl, by simp [SV.ids], fun _ _ => rfl, fun _ h => h, Nat.le_refl _, fun id u c hb => ?_, fun _ _ _ _ e => e⟩
    match id with
    | 0 => cases hb; exact ⟨rfl, rfl⟩
    | id + 1 => cases hb
  · refine ⟨fun i => if i = 1 then 2 else i, .sl 1 0 (k + 1) cap', [some (.ints .u8 (k * 8) A, cap * 8), some (.ints .u8 ((k + 1) * 8) F, cap' * 8)], .inr ⟨cap', F, hR, hc', rfl, rfl⟩, rfl, by simp [SV.ids], fun i hi => if_neg (show i ≠ 1 by have hi : i < 1 := hi; omega), fun i hi => ?_, Nat.le_succ _, fun id u c hb => ?_, fun a b ha hb e => ?_⟩
    · show 1 ≤ if i = 1 then 2 else i
      have hi : 1 ≤ i := hi
      split <;> omega
    · match id with
      | 0 => cases hb; exact ⟨rfl, rfl⟩
      | 1 => cases hb; exact ⟨rfl, rfl⟩
      | id + 2 => cases hb
    · have ha : a < 2 := ha
      have hb : b < 2 := hb
      have e : (if a = 1 then 2 else a) = if b = 1 then 2 else b := e
      split at e <;> split at e <;> omega

/-- a reduced list of what is listed, in a new block -/
def ReduceQ (p len cap : Nat) (V : Nat → Int) (r : SV) (m : Mem) : Prop :=
  ∃ k c A, RedL p (Sp p 8 len (partF V 8)) k A ∧ k ≤ c ∧ r = .sl 1 0 k c ∧ m = [some (.ints .u8 (len * 8) V, cap * 8), some (.ints .u8 (k * 8) A, c * 8)]
theorem l01Reduce_s (p len cap : Nat) (V : Nat → Int) (hp : primeB (p : Int) = true) (hp2 : 2 ≤ p ∧ p ≤ 31) (hlen : len ≤ 1000) (hV : rngR p len V) :
    Spec Try.prog 38 [.int .i64 p, .sl 0 0 len cap] [some (.ints .u8 (len * 8) V, cap * 8)] (ReduceQ p len cap V) := by
  refine (Spec.of_vc tabOK tabEq Try.func38 rfl (by kernel_rfl) rfl rfl ?_)
  refine LoopVC.ofR (fun x : Nat × Nat × Nat × (Nat → Int) => x.1 ≤ len ∧ x.2.1 ≤ x.2.2.1 ∧ RedL p (Sp p 8 x.1 (partF V 8)) x.2.1 x.2.2.2)
    (fun x => [(0, .int .i64 p), (1, .sl 0 0 len cap), (5, .sl 1 0 x.2.1 x.2.2.1), (6, .int .i64 x.1)])
    (fun x => [some (.ints .u8 (len * 8) V, cap * 8), some (.ints .u8 (x.2.1 * 8) x.2.2.2, x.2.2.1 * 8)]) (fun x => len - x.1) (0, 0, 0, fun _ => 0) ⟨Nat.zero_le _, Nat.le_refl _, redL_zero⟩ (fun i => i) (RenTo.same ?_ ?_) ?_ ?_ ?_
  · exact (And.intro rfl (And.intro rfl (And.intro rfl (And.intro rfl (trivial)))))
  · intro i u d hb
    match i with
    | 0 => exact ⟨u, hb, eqv_refl u⟩
    | 1 => cases hb; exact ⟨_, rfl, ⟨⟨rfl, rfl⟩, fun j hj => by omega⟩⟩
    | i + 2 => cases hb
  · intro x hx; exact Nat.le_succ 1
  · intro x hx
    refine OkP.of (by simp [SV.ids]) fun id u c hb q hq => ?_
    match id with
    | 0 => cases hb; cases hq
    | 1 => cases hb; cases hq
    | id + 2 => cases hb
  · rintro ⟨i, k, c, A⟩ ⟨hi, hc, hA⟩
    dsimp only at hi hc hA
    refine ifVC_split (fun hh => ?_) (fun hh => ?_)
    · have hil : i < len := by have := of_decide_eq_true hh; omega
      have hS : Space p 8 (Sp p 8 i (partF V 8)) := Sp.space (by omega)
      have hS' : Space p 8 (Sp p 8 (i + 1) (partF V 8)) := Sp.space (by omega)
      have hvr : ∀ j, j < 8 → 0 ≤ partF V 8 i j ∧ partF V 8 i j < p := fun j hj => hV _ (by omega)
      have hk := red_k hA
      (repeat (first | refine And.intro (by omega) ?_ | refine And.intro ⟨by omega, by omega⟩ ?_))
      have hvE : (fun j => V (j + (i * 8 + 0))) = partF V 8 i := rfl
      refine And.intro (And.intro rfl trivial) (Spec.mono (show Spec Try.prog 60 [.int .i64 p, .sl 0 0 k c, .ints .u8 8 fun j => V (j + (i * 8 + 0))] [some (.ints .u8 (k * 8) A, c * 8)] (PutR p k c (Sp p 8 (i + 1) (partF V 8)) A) from l01PutR_s p k c _ _ A (partF V 8 i) hp hp2 hS hS' hA (addTo_sp (by omega) hvr) hvr) ?_)
      rintro r m (⟨hR, rfl, rfl⟩ | ⟨cap', F, hR, hc', rfl, rfl⟩)
      · refine Exists.intro (i + 1, k, c, A) (Exists.intro (fun i => i) (And.intro ⟨hil, hc, hR⟩ (And.intro (show len - (i + 1) < len - i by omega) (RenTo.same ?_ ?_))))
        · exact And.intro rfl (And.intro rfl (And.intro rfl (And.intro (slotI (wrapS (by omega))) trivial)))
        · intro id u d hb
          match id with
          | 0 => exact ⟨u, hb, eqv_refl u⟩
          | 1 => exact ⟨u, hb, eqv_refl u⟩
          | id + 2 => cases hb
      · refine Exists.intro (i + 1, k + 1, cap', F) (Exists.intro (fun i => if i = 1 then 2 else i) (And.intro ⟨hil, hc', hR⟩ (And.intro (show len - (i + 1) < len - i by omega) (renTo_mk ?_ (fun i hi => if_neg (show i ≠ 1 by have hi : i < 1 := hi; omega)) (fun id u d hb => ?_) fun a b ha hb e => ?_))))
        · exact And.intro rfl (And.intro rfl (And.intro rfl (And.intro (slotI (wrapS (by omega))) trivial)))
        · match id with
          | 0 => cases hb; exact ⟨fun h => absurd (show 1 ≤ 0 from h) (by decide), _, rfl, eqv_refl _⟩
          | 1 => cases hb; exact ⟨fun _ => (by decide : 1 ≤ 2), _, rfl, eqv_refl _⟩
          | id + 2 => cases hb
        · have ha : a < 2 := ha
          have hb : b < 2 := hb
          have e : (if a = 1 then 2 else a) = if b = 1 then 2 else b := e
          split at e <;> split at e <;> omega
    · have hil : i = len := by have := of_decide_eq_false hh; omega
      subst hil
      exact ⟨k, c, A, hA, hc, rfl, rfl⟩

/-- the reduced list of the kernel of f, in a new block -/
def KernelQ (p n : Nat) (f : Nat → Int) (r : SV) (m : Mem) : Prop :=
  ∃ k c A, RedL p (Sp p 8 (solN p f n).q (partF (solN p f n).C 8)) k A ∧ k ≤ c ∧ r = .sl 0 0 k c ∧ m = [some (.ints .u8 (k * 8) A, c * 8)]
end Go.Proofs.Ytcocapkdpbdmdaa
