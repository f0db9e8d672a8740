/- Rows with a basis behind them, in new blocks. -/
import Derived.Test.YtcocapkdpbdmdaaCat
import Derived.Test.YtcocapkdpbdmdaaGauss
set_option linter.unusedVariables false
set_option linter.unusedSimpArgs false
set_option maxRecDepth 100000
set_option maxHeartbeats 4000000
namespace Go.Proofs.Ytcocapkdpbdmdaa
open M

section
variable {P : Program} {T : Tab} {N : Nat} {ops : Array Oper} {o : Oper} {r : List Oper} {s : Slots} {m : Mem} {K : Slots → Mem → Prop} {t : Nat} {x : Operand} {id off len es : Nat} {ea : Bool} {z a b : SV}
theorem opsVC_alloc (hg : o.guard = none) (ho : o.op = .alloc t) (hz : T.zero t = some z) (hb : z.boxable = true) (hk : opsVC P T N ops r (sset N s o.dst (.ptr m.length [] 0 0)) (m ++ [some (z, z.size)]) K) : opsVC P T N ops (o :: r) s m K := by
  refine opsVC_one hg ?_
  simp only [oneVC, ho, newVC, hz]
  exact chk_iff.2 ⟨hb, hk⟩
theorem opsVC_box (hg : o.guard = none) (ho : o.op = .box t x) (hz : ev s x = some z) (hb : z.boxable = true) (hk : opsVC P T N ops r (sset N s o.dst (.ptr m.length [] 0 0)) (m ++ [some (z, z.size)]) K) : opsVC P T N ops (o :: r) s m K := by
  refine opsVC_one hg ?_
  simp only [oneVC, ho, newVC, hz]
  exact chk_iff.2 ⟨hb, hk⟩
theorem opsVC_slA (hg : o.guard = none) (ho : o.op = .slice t x none none none) (ht : T.ti t = .arr len es ea) (hx : ev s x = some (.ptr id [] 0 off)) (hk : opsVC P T N ops r (sset N s o.dst (.sl id off len len)) m K) : opsVC P T N ops (o :: r) s m K := by
  refine opsVC_one hg ?_
  simp only [oneVC, ho, readVC, ht, hx]
  exact hk
theorem opsVC_two {ps : Array (Nat × Operand)} (hg : o.guard = none) (ho : o.op = .buildSlice t 2 ps) (ht : T.ti t = .slice 1) (he : T.elem0 t = some .nilsl) (hp : evParts s ps.toList = some [(0, a), (1, b)]) (ha : a.leaf = true) (hb : b.leaf = true)
    (hk : opsVC P T N ops r (sset N s o.dst (.sl m.length 0 2 2)) (m ++ [some (.vec 2 (two a b), 2)]) K) : opsVC P T N ops (o :: r) s m K := by
  refine opsVC_one hg ?_
  simp only [oneVC, ho, newVC, ht, he, hp, Option.bind_some, elemRow]
  refine chk_iff.2 ⟨rfl, ?_⟩
  refine chk_iff.2 ⟨by rw [ha]; rfl, chk_iff.2 ⟨by rw [hb]; rfl, ?_⟩⟩
  rw [← two_upd] at hk
  exact hk
end
section
variable {P : Program}
theorem backMem_nilG (ρ : Nat → Nat) (m : Mem) : backMem ρ m [] [] = m := backMem_same rfl rfl (fun _ _ h => by cases h) fun _ _ _ => rfl
/-- a call by value -/
theorem callVC_valG {f : Nat} {args : List SV} {m : Mem} {K : SV → Mem → Prop} {v : SV} (hids : idsOf args = []) (ha : ∀ ρ, args.map (SV.ren ρ) = args) (hv : ∀ ρ, v.ren ρ = v) (h : Spec P f args [] (Ret v)) (hk : K v m) : callVC P f args m K := by
  refine callVC_of (ids := []) (by rw [hids]; rfl) ?_
  refine And.intro trivial ?_
  rw [ha]
  refine h.mono ?_
  rintro r m' ⟨rfl, rfl⟩
  rw [hv, backMem_nilG]
  exact hk
/-- a call over a block of two slices, which yields a new block -/
theorem callVC_cat {f : Nat} {m : Mem} {K : SV → Mem → Prop} {a i j c0 d1 d2 cap o1 w1 c1 o2 w2 c2 : Nat} {v u : SV} (hb : blockOf m a = some (.vec 2 (two (.sl i o1 w1 c1) (.sl j o2 w2 c2)), c0)) (hi : blockOf m i = some (v, d1)) (hj : blockOf m j = some (u, d2))
    (hai : i ≠ a) (haj : j ≠ a) (hij : i ≠ j) (hv : v.ids = []) (hu : u.ids = []) (hvr : ∀ ρ, v.ren ρ = v) (hur : ∀ ρ, u.ren ρ = u)
    (h : Spec P f [.sl 0 0 2 cap] [some (.vec 2 (two (.sl 1 o1 w1 c1) (.sl 2 o2 w2 c2)), c0), some (v, d1), some (u, d2)] fun r m' => ∃ l cap' x c, r = .sl 3 0 l cap' ∧ m' = [some (.vec 2 (two (.sl 1 o1 w1 c1) (.sl 2 o2 w2 c2)), c0), some (v, d1), some (u, d2), some (x, c)] ∧ (∀ ρ, x.ren ρ = x) ∧ K (.sl m.length 0 l cap') (m ++ [some (x, c)])) :
    callVC P f [.sl a 0 2 cap] m K := by
  have bne : ∀ x y : Nat, x ≠ y → Nat.beq x y = false := fun x y hxy => by
    cases hb : Nat.beq x y with
    | false => rfl
    | true => exact absurd (Nat.eq_of_beq_eq_true hb) hxy
  have p0 : posIn [a, i, j] a = 0 := by unfold posIn; rw [Nat.beq_refl]
  have p1 : posIn [a, i, j] i = 1 := by unfold posIn; rw [bne _ _ (fun e => hai e.symm)]; unfold posIn; rw [Nat.beq_refl]
  have p2 : posIn [a, i, j] j = 2 := by unfold posIn; rw [bne _ _ (fun e => haj e.symm)]; unfold posIn; rw [bne _ _ hij]; unfold posIn; rw [Nat.beq_refl]
  have hr : reach1 m (dedup [] (idsOf [SV.sl a 0 2 cap])) = [a, i, j] := by
    show reach1 m [a] = _
    have := reach_vec (m := m) (a := a) (n := 2) (ρ := fun k => if k = 0 then i else j) hb (fun k hk => ?_) (fun k l hk hl e => ?_) (fun k hk => ?_) (fun k hk v' d hb' => ?_)
    · rw [this]; rfl
    · obtain rfl | rfl : k = 0 ∨ k = 1 := by omega
      · rfl
      · rfl
    · obtain rfl | rfl : k = 0 ∨ k = 1 := by omega
      · obtain rfl | rfl : l = 0 ∨ l = 1 := by omega
        · rfl
        · exact absurd e hij
      · obtain rfl | rfl : l = 0 ∨ l = 1 := by omega
        · exact absurd e.symm hij
        · rfl
    · obtain rfl | rfl : k = 0 ∨ k = 1 := by omega
      · exact hai
      · exact haj
    · obtain rfl | rfl : k = 0 ∨ k = 1 := by omega
      · rw [if_pos rfl, hi] at hb'; cases hb'; exact hv
      · rw [if_neg (by omega), hj] at hb'; cases hb'; exact hu
  refine callVC_of hr ?_
  unfold callWith
  simp only [subMem, hb, hi, hj]
  have hmem : ∀ x, x = a ∨ x = i ∨ x = j → memN [a, i, j] x = true := fun x hx => (memN_iff _ _).2 (by simpa using hx)
  refine ⟨⟨?_, by rw [hv]; rfl, by rw [hu]; rfl, trivial⟩, ?_⟩
  · show subN [a, i, j] [i, j] = true
    simp [subN, hmem]
  have hargs : [SV.sl a 0 2 cap].map (SV.ren (posIn [a, i, j])) = [.sl 0 0 2 cap] := by simp [SV.ren, p0]
  have hmm : renMem (posIn [a, i, j]) [some (.vec 2 (two (.sl i o1 w1 c1) (.sl j o2 w2 c2)), c0), some (v, d1), some (u, d2)] = [some (.vec 2 (two (.sl 1 o1 w1 c1) (.sl 2 o2 w2 c2)), c0), some (v, d1), some (u, d2)] := by
    simp only [renMem, List.map_cons, List.map_nil, renBlk, hvr, hur]
    show [some (SV.vec 2 (fun k => (two (.sl i o1 w1 c1) (.sl j o2 w2 c2) k).ren1 (posIn [a, i, j])), c0), _, _] = _
    rw [two_ren]
    show [some (SV.vec 2 (two (.sl (posIn [a, i, j] i) o1 w1 c1) (.sl (posIn [a, i, j] j) o2 w2 c2)), c0), _, _] = _
    rw [p1, p2]
  rw [hargs, hmm]
  refine h.mono ?_
  rintro r m' ⟨l, cap', x, c, rfl, rfl, hx, hk⟩
  have hback : backMem (nth [a, i, j] m.length) m [a, i, j] [some (.vec 2 (two (.sl 1 o1 w1 c1) (.sl 2 o2 w2 c2)), c0), some (v, d1), some (u, d2), some (x, c)] = m ++ [some (x, c)] := by
    refine mem_ext (by simp [backMem, backGo_length]) fun q hq => ?_
    simp only [backMem, List.length_append, backGo_length, List.length_map, List.length_drop, List.length_cons, List.length_nil] at hq
    rw [backMem]
    by_cases h1 : q < m.length
    · rw [blockOf_append_lt _ _ q (by rw [backGo_length]; exact h1), backGo_get _ _ _ m 0 q h1, Nat.zero_add, blockOf_append_lt _ _ q h1]
      by_cases h2 : q ∈ [a, i, j]
      · rw [if_pos h2]
        simp only [List.mem_cons, List.not_mem_nil, or_false] at h2
        rcases h2 with rfl | rfl | rfl
        · rw [p0, hb]
          show renBlk _ (some (SV.vec 2 (two (.sl 1 o1 w1 c1) (.sl 2 o2 w2 c2)), c0)) = _
          show some (SV.vec 2 (fun k => (two (.sl 1 o1 w1 c1) (.sl 2 o2 w2 c2) k).ren1 _), c0) = _
          rw [two_ren]; rfl
        · rw [p1, hi]
          show some (v.ren _, d1) = _
          rw [hvr]
        · rw [p2, hj]
          show some (u.ren _, d2) = _
          rw [hur]
      · rw [if_neg h2]
    · obtain rfl : q = m.length := by omega
      have e1 := blockOf_append_ge (backGo (nth [a, i, j] m.length) [a, i, j] [some (.vec 2 (two (.sl 1 o1 w1 c1) (.sl 2 o2 w2 c2)), c0), some (v, d1), some (u, d2), some (x, c)] 0 m) [some (x.ren (nth [a, i, j] m.length), c)] 0
      rw [backGo_length, Nat.add_zero, hx] at e1
      have e2 := blockOf_append_ge m [some (x, c)] 0
      rw [Nat.add_zero] at e2
      rw [e2]
      show blockOf (_ ++ [some (x.ren (nth [a, i, j] m.length), c)]) m.length = _
      rw [hx, e1]
  rw [hback]
  exact hk
end

/-! ### values and numbers of blocks -/
theorem ren1_fix {σ : Nat → Nat} {v : SV} (h : ∀ i ∈ v.ids1, σ i = i) : v.ren1 σ = v := by
  cases v <;> first | rfl | (simp [SV.ids1] at h; simp [SV.ren1, h])
theorem ren_fix {σ : Nat → Nat} : ∀ v : SV, (∀ i ∈ v.ids, σ i = i) → v.eqv (v.ren σ) := by
  intro v
  induction v with
  | vec n h ih => exact fun hf => ⟨rfl, fun i hi => (ren1_fix fun q hq => hf q (vec_ids.2 ⟨i, hi, hq⟩)).symm⟩
  | pair a b iha ihb => exact fun hf => ⟨iha fun i hi => hf i (by simp [SV.ids, hi]), ihb fun i hi => hf i (by simp [SV.ids, hi])⟩
  | tcons a b iha ihb => exact fun hf => ⟨iha fun i hi => hf i (by simp [SV.ids, hi]), ihb fun i hi => hf i (by simp [SV.ids, hi])⟩
  | ints k n f => exact fun _ => ⟨⟨rfl, rfl⟩, fun _ _ => rfl⟩
  | ptr id p b o => intro hf; have := hf id (by simp [SV.ids]); show SV.ptr id p b o = SV.ptr (σ id) p b o; rw [this]
  | sl id o l c => intro hf; have := hf id (by simp [SV.ids]); show SV.sl id o l c = SV.sl (σ id) o l c; rw [this]
  | _ => exact fun _ => rfl
theorem eqv_trans : ∀ a b c : SV, a.eqv b → b.eqv c → a.eqv c := by
  intro a
  induction a with
  | ints k n f =>
    intro b c h1 h2
    cases b <;> first | (cases h1; done) | skip
    cases c <;> first | (cases h2; done) | skip
    obtain ⟨⟨rfl, rfl⟩, h1⟩ := h1
    obtain ⟨⟨rfl, rfl⟩, h2⟩ := h2
    exact ⟨⟨rfl, rfl⟩, fun i hi => (h1 i hi).trans (h2 i hi)⟩
  | vec n h =>
    intro b c h1 h2
    cases b <;> first | (cases h1; done) | skip
    cases c <;> first | (cases h2; done) | skip
    obtain ⟨rfl, h1⟩ := h1
    obtain ⟨rfl, h2⟩ := h2
    exact ⟨rfl, fun i hi => (h1 i hi).trans (h2 i hi)⟩
  | pair a b iha ihb =>
    intro b c h1 h2
    cases b <;> first | (cases h1; done) | skip
    cases c <;> first | (cases h2; done) | skip
    exact ⟨iha _ _ h1.1 h2.1, ihb _ _ h1.2 h2.2⟩
  | tcons a b iha ihb =>
    intro b c h1 h2
    cases b <;> first | (cases h1; done) | skip
    cases c <;> first | (cases h2; done) | skip
    exact ⟨iha _ _ h1.1 h2.1, ihb _ _ h1.2 h2.2⟩
  | _ => intro b c h1 h2; cases b <;> first | (cases h1; exact h2) | (cases h1; done)
theorem slot_of {S s : Slots} {σ : Nat → Nat} (hs : subL S s) (hf : ∀ p ∈ S, ∀ i ∈ p.2.ids, σ i = i) : ∀ t v, lk S t = some v → ∃ v', lk s t = some v' ∧ v'.eqv (v.ren σ) := fun t v hv => by
  obtain ⟨v', h1, h2⟩ := subL_get S s hs t v hv
  refine ⟨v', h1, eqv_trans _ _ _ h2 (ren_fix v ?_)⟩
  have key : ∀ (S : Slots), lk S t = some v → (t, v) ∈ S := fun S => by
    induction S with
    | nil => intro h; cases h
    | cons p r ih =>
      obtain ⟨k, u⟩ := p
      intro h
      rw [lk_cons] at h
      by_cases hk : k = t
      · rw [if_pos hk] at h; cases h; simp [hk]
      · rw [if_neg hk] at h; simp [ih h]
  exact hf _ (key S hv)
theorem blockOf_snoc (A : Mem) (x : Option (SV × Nat)) : blockOf (A ++ [x]) A.length = x := by
  have := blockOf_append_ge A [x] 0
  rw [Nat.add_zero] at this
  rw [this]; rfl

/-! ### new rows under a new block of slices -/
/-- the first i of the slices lead to the blocks behind -/
def hdrF (L v i : Nat) (cc : Nat → Nat) : Nat → SV := fun k => if k < i then .sl (L + 1 + k) 0 v (cc k) else .nilsl
def memG (m : Mem) (n v i : Nat) (cc : Nat → Nat) (F : Nat → Nat → Int) (C : Nat → Nat) : Mem := m ++ (some (.vec n (hdrF m.length v i cc), n) :: rowsM .u8 v i F C)
section
variable (m : Mem) (n v i : Nat) (cc : Nat → Nat) (F : Nat → Nat → Int) (C : Nat → Nat)
theorem memG_len : (memG m n v i cc F C).length = m.length + 1 + i := by
  simp only [memG, List.length_append, List.length_cons, rowsM_length]; omega
theorem memG_old {id : Nat} (h : id < m.length) : blockOf (memG m n v i cc F C) id = blockOf m id := blockOf_append_lt m _ id h
theorem memG_hdr : blockOf (memG m n v i cc F C) m.length = some (.vec n (hdrF m.length v i cc), n) := by
  have := blockOf_append_ge m (some (.vec n (hdrF m.length v i cc), n) :: rowsM .u8 v i F C) 0
  rw [Nat.add_zero] at this
  exact this
theorem memG_row {k : Nat} (h : k < i) : blockOf (memG m n v i cc F C) (m.length + 1 + k) = some (.ints .u8 v (F k), C k) := by
  have := blockOf_append_ge m (some (.vec n (hdrF m.length v i cc), n) :: rowsM .u8 v i F C) (k + 1)
  rw [show m.length + 1 + k = m.length + (k + 1) by omega]
  exact this.trans (rowsM_get .u8 v i F C k h)
theorem memG_cases {id : Nat} (h : (blockOf (memG m n v i cc F C) id).isSome = true) : id < m.length ∨ id = m.length ∨ ∃ k, k < i ∧ id = m.length + 1 + k := by
  have := blockOf_lt h
  rw [memG_len] at this
  rcases Nat.lt_trichotomy id m.length with h1 | h1 | h1
  · exact .inl h1
  · exact .inr (.inl h1)
  · exact .inr (.inr ⟨id - (m.length + 1), by omega, by omega⟩)
theorem memG_clo (hm : Clo m) : Clo (memG m n v i cc F C) := fun id u c hb q hq => by
  rw [memG_len]
  rcases memG_cases m n v i cc F C (id := id) (by rw [hb]; rfl) with h | rfl | ⟨k, hk, rfl⟩
  · rw [memG_old m n v i cc F C h] at hb; have := hm id u c hb q hq; omega
  · rw [memG_hdr] at hb
    cases hb
    obtain ⟨k, hk, hqk⟩ := vec_ids.1 hq
    unfold hdrF at hqk
    split at hqk
    · simp [SV.ids1] at hqk; omega
    · cases hqk
  · rw [memG_row m n v i cc F C hk] at hb; cases hb; cases hq
theorem memG_live : liveP m (memG m n v i cc F C) := fun id hid h => by rw [memG_old m n v i cc F C hid] at h; exact h
theorem memG_zero : memG m n v 0 cc F C = m ++ [some (.vec n fun _ => .nilsl, n)] := by
  unfold memG
  have : hdrF m.length v 0 cc = fun _ => .nilsl := by funext k; unfold hdrF; rw [if_neg (by omega)]
  rw [this]
  rfl
theorem memG_fam (hc : ∀ k, k < n → v ≤ cc k) : Fam (memG m n v n cc F C) m.length n n (hdrF m.length v n cc) 0 n v (fun k => m.length + 1 + k) cc F C :=
  ⟨memG_hdr m n v n cc F C, by omega, fun k hk => by unfold hdrF; rw [if_pos (by omega), Nat.zero_add], fun k hk => memG_row m n v n cc F C hk, hc⟩
end
/-- a new row behind, whatever came between: what is known is renamed -/
theorem memG_ren (m : Mem) (n v i : Nat) (cc : Nat → Nat) (F : Nat → Nat → Int) (C : Nat → Nat) (hm : Clo m) (b c : Nat) (g : Nat → Int) (hb : m.length + 1 + i ≤ b) {S s : Slots} {m' : Mem} (hi : i < n) (hs : subL S s) (hS : ∀ p ∈ S, ∀ q ∈ p.2.ids, q ≤ m.length)
    (hold : ∀ id, id < m.length + 1 + i → id ≠ m.length → blockOf m' id = blockOf (memG m n v i cc F C) id) (hhdr : blockOf m' m.length = some (.vec n (updV (hdrF m.length v i cc) i (.sl b 0 v c)), n)) {cap : Nat} (hrow : blockOf m' b = some (.ints .u8 v g, cap)) :
    RenTo m.length (fun q => if q = m.length + 1 + i then b else q) S (memG m n v (i + 1) (fun k => if k = i then c else cc k) (fun k => if k = i then g else F k) (fun k => if k = i then cap else C k)) s m' := by
  have fixd : ∀ q, q < m.length + 1 + i → (if q = m.length + 1 + i then b else q) = q := fun q hq => if_neg (by omega)
  refine ⟨fun q hq => fixd q (by omega), fun q u d hq => ⟨fun h => ?_, ?_⟩, fun p q hp hq e => ?_, slot_of hs fun p hp q hq => fixd q (by have := hS p hp q hq; omega)⟩
  · split <;> omega
  · rcases memG_cases _ _ _ _ _ _ _ (id := q) (by rw [hq]; rfl) with h | rfl | ⟨k, hk, rfl⟩
    · rw [memG_old _ _ _ _ _ _ _ h] at hq
      rw [fixd q (by omega), hold q (by omega) (by omega), memG_old _ _ _ _ _ _ _ h]
      exact ⟨u, hq, ren_fix u fun x hx => fixd x (by have := hm q u d hq x hx; omega)⟩
    · rw [memG_hdr] at hq
      cases hq
      rw [fixd m.length (by omega)]
      refine ⟨_, hhdr, rfl, fun k hk => ?_⟩
      show updV (hdrF m.length v i cc) i (.sl b 0 v c) k = (hdrF m.length v (i + 1) (fun k => if k = i then c else cc k) k).ren1 _
      unfold updV hdrF
      by_cases e : k = i
      · rw [if_pos e, if_pos (by omega)]
        show SV.sl b 0 v c = SV.sl (if m.length + 1 + k = m.length + 1 + i then b else m.length + 1 + k) 0 v (if k = i then c else cc k)
        rw [if_pos (by omega), if_pos e]
      · rw [if_neg e]
        by_cases e2 : k < i
        · rw [if_pos e2, if_pos (by omega)]
          show SV.sl (m.length + 1 + k) 0 v (cc k) = SV.sl (if m.length + 1 + k = m.length + 1 + i then b else m.length + 1 + k) 0 v (if k = i then c else cc k)
          rw [if_neg (by omega), if_neg e]
        · rw [if_neg e2, if_neg (by omega)]; rfl
    · rw [memG_row _ _ _ _ _ _ _ hk] at hq
      cases hq
      by_cases e : k = i
      · subst e
        rw [if_pos rfl, if_pos rfl, if_pos rfl]
        exact ⟨_, hrow, eqv_refl _⟩
      · rw [if_neg e, if_neg e, fixd _ (by omega), hold _ (by omega) (by omega), memG_row _ _ _ _ _ _ _ (show k < i by omega)]
        exact ⟨_, rfl, eqv_refl _⟩
  · have h1 := blockOf_lt hp
    have h2 := blockOf_lt hq
    rw [memG_len] at h1 h2
    have e : (if p = m.length + 1 + i then b else p) = (if q = m.length + 1 + i then b else q) := e
    by_cases e1 : p = m.length + 1 + i
    · rw [if_pos e1] at e
      by_cases e2 : q = m.length + 1 + i
      · omega
      · rw [if_neg e2] at e; omega
    · rw [if_neg e1] at e
      by_cases e2 : q = m.length + 1 + i
      · rw [if_pos e2] at e; omega
      · rw [if_neg e2] at e; exact e

/-- a row with a basis element behind it -/
def graphRow (g : Nat → Nat → Int) (w k : Nat) : Nat → Int := fun j => if j < w then g k j else unitV k (j - w)
theorem graphOf_s (m : Mem) (hd N c0 n cap w : Nat) (h : Nat → SV) (ρ o cp Ni d : Nat → Nat) (g : Nat → Nat → Int) (hhdr : blockOf m hd = some (.vec N h, c0)) (hfit : n ≤ N) (hsl : ∀ i, i < n → h i = .sl (ρ i) (o i) w (cp i))
    (hrow : ∀ i, i < n → blockOf m (ρ i) = some (.ints .u8 (Ni i) (g i), d i)) (hin : ∀ i, i < n → o i + w ≤ Ni i) (hm : Clo m) (hn : n ≤ 8) (hw : w ≤ 1000) :
    Spec Try.prog 58 [.sl hd 0 n cap] m (fun r m' => ∃ cc F C, r = .sl m.length 0 n n ∧ m' = memG m n (w + 8) n cc F C ∧ (∀ k, k < n → w + 8 ≤ cc k) ∧ ∀ k, k < n → ∀ j, j < w + 8 → F k j = graphRow (fun k j => g k (j + o k)) w k j) := by
  have hlt : hd < m.length := blockOf_lt (by rw [hhdr]; rfl)
  refine Spec.of_vc tabOK tabEq Try.func58 rfl (by kernel_rfl) rfl (by simp [idsOf, SV.ids, Nat.blt_eq, hlt]) ?_
  refine And.intro ⟨by omega, by omega, by omega, by omega⟩ ?_
  refine LoopVC.ofR (fun x : Nat × (Nat → Nat) × (Nat → Nat → Int) × (Nat → Nat) => x.1 ≤ n ∧ (∀ k, k < x.1 → w + 8 ≤ x.2.1 k) ∧ ∀ k, k < x.1 → ∀ j, j < w + 8 → x.2.2.1 k j = graphRow (fun k j => g k (j + o k)) w k j)
    (fun x => [(3, .sl m.length 0 n n), (10, .sl hd 0 n cap), (11, .int .i64 n), (12, .int .i64 x.1)]) (fun x => memG m n (w + 8) x.1 x.2.1 x.2.2.1 x.2.2.2) (fun x => n - x.1) (0, (fun _ => 0), (fun _ _ => 0), fun _ => 0) ⟨Nat.zero_le _, fun k hk => absurd hk (Nat.not_lt_zero _), fun k hk => absurd hk (Nat.not_lt_zero _)⟩ (fun i => i) (RenTo.same ?_ ?_) ?_ ?_ ?_
  · exact (And.intro rfl (And.intro rfl (And.intro rfl (And.intro rfl (trivial)))))
  · intro i u d hb
    refine ⟨u, ?_, eqv_refl u⟩
    rw [memG_zero] at hb
    exact hb
  · intro x hx; show m.length ≤ _; rw [memG_len]; omega
  · intro x hx
    refine OkP.of ?_ (memG_clo _ _ _ _ _ _ _ hm)
    simp [SV.ids, memG_len]; omega
  · rintro ⟨i, cc, F, C⟩ ⟨hi, hcc, hF⟩
    dsimp only at hi hcc hF
    refine ifVC_split (fun h1 => ?_) (fun h1 => ?_)
    · have h1 : i < n := by have := of_decide_eq_true h1; omega
      have hidx : (i : Int).toNat = i := by omega
      have hL := memG_len m n (w + 8) i cc F C
      have hC := memG_clo m n (w + 8) i cc F C hm
      have hH := memG_hdr m n (w + 8) i cc F C
      have hO := fun id (hid : id < m.length) => memG_old m n (w + 8) i cc F C hid
      have next := memG_ren m n (w + 8) i cc F C hm
      generalize hM0 : memG m n (w + 8) i cc F C = M0 at *
      (repeat (first | refine And.intro (by omega) ?_ | refine And.intro ⟨by omega, by omega⟩ ?_))
      refine opsVC_loadS (v := .sl (ρ i) (o i) w (cp i)) rfl rfl rfl rfl ((hO hd hlt).trans hhdr) (by omega) (by rw [show (i : Int).toNat * 1 + 0 = i by omega]; exact hsl i h1) rfl ?_
      refine opsVC_as rfl rfl rfl ?_
      refine opsVC_as rfl rfl rfl ?_
      (repeat (first | (with_reducible refine vc_exit ?_) | (with_reducible refine vc_ret ?_) | (with_reducible refine vc_skip ?_) | (with_reducible refine thenQ_x ?_) | (with_reducible refine thenQ_r ?_) | (with_reducible refine thenQ_n ?_) | (with_reducible refine blockQ_x rfl ?_) | (with_reducible refine blockQ_y rfl ?_) | (with_reducible refine blockQ_n ?_) | (with_reducible refine blockQ_r ?_) | (with_reducible refine vc_seq ?_) | (with_reducible refine vc_region ?_) | (with_reducible refine vc_block ?_) | (with_reducible refine vc_scope ?_) | (with_reducible refine opsVC_nil ?_)))
      refine opsVC_mv rfl rfl rfl ?_
      refine opsVC_call rfl rfl rfl rfl rfl rfl ?_
      refine callVC_valG rfl (fun _ => rfl) (fun _ => rfl) (basisVector_s i ⟨by omega, by omega⟩) ?_
      rw [hidx]
      refine opsVC_alloc rfl rfl rfl rfl ?_
      refine opsVC_storeR rfl rfl rfl rfl rfl (blockOf_snoc _ _) (Nat.le_refl _) ?_
      have f1 : ∃ E, setBlock (M0 ++ [some (SV.ints .u8 8 fun _ => 0, 8)]) M0.length (.ints .u8 8 (updR (fun _ => 0) 0 8 (unitV i))) = M0 ++ [some (SV.ints .u8 8 E, 8)] ∧ ∀ j, j < 8 → E j = unitV i j := by
        refine ⟨updR (fun _ => 0) 0 8 (unitV i), ?_, fun j hj => by simp [updR, hj]⟩
        have := setBlock_pre M0 [some (SV.ints .u8 8 fun _ => 0, 8)] 0 (.ints .u8 8 (updR (fun _ => 0) 0 8 (unitV i)))
        rw [Nat.add_zero] at this
        exact this
      obtain ⟨E, hE, hEv⟩ := f1
      change opsVC _ _ _ _ _ _ (setBlock (M0 ++ [some (SV.ints .u8 8 fun _ => 0, 8)]) M0.length (.ints .u8 8 (updR (fun _ => 0) 0 8 (unitV i)))) _
      rw [hE]
      (repeat (first | (with_reducible refine vc_exit ?_) | (with_reducible refine vc_ret ?_) | (with_reducible refine vc_skip ?_) | (with_reducible refine thenQ_x ?_) | (with_reducible refine thenQ_r ?_) | (with_reducible refine thenQ_n ?_) | (with_reducible refine blockQ_x rfl ?_) | (with_reducible refine blockQ_y rfl ?_) | (with_reducible refine blockQ_n ?_) | (with_reducible refine blockQ_r ?_) | (with_reducible refine vc_seq ?_) | (with_reducible refine vc_region ?_) | (with_reducible refine vc_block ?_) | (with_reducible refine vc_scope ?_) | (with_reducible refine opsVC_nil ?_)))
      refine opsVC_mv rfl rfl rfl ?_
      refine opsVC_mv rfl rfl rfl ?_
      refine opsVC_mv rfl rfl rfl ?_
      refine opsVC_slA rfl rfl rfl rfl ?_
      refine opsVC_two rfl rfl rfl rfl rfl rfl rfl ?_
      refine opsVC_call rfl rfl rfl rfl rfl rfl ?_
      have g1 : (M0 ++ [some (SV.ints .u8 8 E, 8)]).length = m.length + 2 + i := by simp only [List.length_append, List.length_singleton, hL]; omega
      have g2 : ∀ id, id < m.length + 1 + i → blockOf (M0 ++ [some (SV.ints .u8 8 E, 8)]) id = blockOf M0 id := fun id hid => blockOf_append_lt _ _ id (by rw [hL]; exact hid)
      have g3 : blockOf (M0 ++ [some (SV.ints .u8 8 E, 8)]) (m.length + 1 + i) = some (.ints .u8 8 E, 8) := by rw [← hL]; exact blockOf_snoc _ _
      rw [hL]
      generalize M0 ++ [some (SV.ints .u8 8 E, 8)] = M1 at *
      have hri : ρ i < m.length := blockOf_lt (by rw [hrow i h1]; rfl)
      have k1 : (M1 ++ [some (SV.vec 2 (two (.sl (ρ i) (o i) w (cp i)) (.sl (m.length + 1 + i) 0 8 8)), 2)]).length = m.length + 3 + i := by simp only [List.length_append, List.length_singleton, g1]; omega
      have k2 : ∀ id, id < m.length + 2 + i → blockOf (M1 ++ [some (SV.vec 2 (two (.sl (ρ i) (o i) w (cp i)) (.sl (m.length + 1 + i) 0 8 8)), 2)]) id = blockOf M1 id := fun id hid => blockOf_append_lt _ _ id (by rw [g1]; exact hid)
      refine callVC_cat (i := ρ i) (j := m.length + 1 + i) (blockOf_snoc _ _) ((k2 _ (by omega)).trans ((g2 _ (by omega)).trans ((hO _ hri).trans (hrow i h1)))) ((k2 _ (by omega)).trans g3) (by omega) (by omega) (by omega) rfl rfl (fun _ => rfl) (fun _ => rfl) ?_
      refine Spec.mono (concat_s w 8 (cp i) 8 (o i) 0 (Ni i) 8 (d i) 8 2 2 (g i) E (by omega) (by omega) (hin i h1) (Nat.le_refl _)) ?_
      rintro r m' ⟨cap', G, hc, hG1, hG2, rfl, rfl⟩
      refine ⟨w + 8, cap', .ints .u8 (w + 8) G, cap' * 1, rfl, rfl, fun _ => rfl, ?_⟩
      rw [k1]
      generalize M1 ++ [some (SV.vec 2 (two (.sl (ρ i) (o i) w (cp i)) (.sl (m.length + 1 + i) 0 8 8)), 2)] = M2 at *
      have q1 : ∀ id, id < m.length + 3 + i → blockOf (M2 ++ [some (SV.ints .u8 (w + 8) G, cap' * 1)]) id = blockOf M2 id := fun id hid => blockOf_append_lt _ _ id (by rw [k1]; exact hid)
      have q2 : blockOf (M2 ++ [some (SV.ints .u8 (w + 8) G, cap' * 1)]) (m.length + 3 + i) = some (.ints .u8 (w + 8) G, cap' * 1) := by rw [← k1]; exact blockOf_snoc _ _
      generalize M2 ++ [some (SV.ints .u8 (w + 8) G, cap' * 1)] = M3 at *
      have qh : blockOf M3 m.length = some (.vec n (hdrF m.length (w + 8) i cc), n) := (q1 _ (by omega)).trans ((k2 _ (by omega)).trans ((g2 _ (by omega)).trans hH))
      (repeat (first | refine And.intro (by omega) ?_ | refine And.intro ⟨by omega, by omega⟩ ?_))
      refine opsVC_storeV rfl rfl rfl rfl rfl qh rfl (by omega) ?_
      have hix : (i : Int).toNat * 1 + 0 = i := by omega
      have sg := fun id => setBlock_get M3 m.length id (.vec n (updV (hdrF m.length (w + 8) i cc) ((i : Int).toNat * 1 + 0) (.sl (m.length + 3 + i) 0 (w + 8) cap'))) _ _ qh
      refine Exists.intro (i + 1, (fun k => if k = i then cap' else cc k), (fun k => if k = i then G else F k), fun k => if k = i then cap' * 1 else C k) (Exists.intro _ (And.intro ⟨h1, fun k hk => ?_, fun k hk j hj => ?_⟩ (And.intro (show n - (i + 1) < n - i by omega) (next (m.length + 3 + i) cap' G (by omega) h1 ?_ ?_ (fun id h2 h3 => ?_) ?_ (cap := cap' * 1) ?_))))
      · show w + 8 ≤ if k = i then cap' else cc k
        by_cases e : k = i
        · rw [if_pos e]; exact hc
        · rw [if_neg e]; exact hcc k (by have hk : k < i + 1 := hk; omega)
      · show (if k = i then G else F k) j = _
        by_cases e : k = i
        · rw [if_pos e, e]
          unfold graphRow
          by_cases e2 : j < w
          · rw [if_pos e2]; exact hG1 j e2
          · rw [if_neg e2]
            have := hG2 (j - w) (by omega)
            rw [show w + (j - w) = j by omega, Nat.add_zero, hEv _ (by omega)] at this
            exact this
        · rw [if_neg e]; exact hF k (by have hk : k < i + 1 := hk; omega) j hj
      · exact And.intro rfl (And.intro rfl (And.intro rfl (And.intro (slotI (wrapS (by omega))) trivial)))
      · simp [SV.ids]; omega
      · rw [sg, if_neg h3, q1 id (by omega), k2 id (by omega), g2 id (by omega)]
      · rw [sg, if_pos rfl, hix]
      · rw [sg, if_neg (by omega)]; exact q2
    · have h1 : i = n := by have := of_decide_eq_false h1; omega
      subst h1
      exact ⟨cc, F, C, rfl, rfl, hcc, hF⟩
end Go.Proofs.Ytcocapkdpbdmdaa
