/- Whatever order a region draws, it ends as its head in the text's order, with what it made taken up afterwards, and then its tail. -/
import Derived.Test.YtojfjcbblkiajaaPass
set_option linter.unusedVariables false
set_option linter.unusedSimpArgs false
namespace Go.Proofs.Ytojfjcbblkiajaa
variable {P : Program}

theorem least_of {p : Nat → Prop} : ∀ i, p i → ∃ k, p k ∧ ∀ j, j < k → ¬ p j := by
  intro i
  induction i using Nat.strongRecOn with
  | _ i ih =>
    intro hi
    by_cases h : ∃ j, j < i ∧ p j
    · obtain ⟨j, hj, hp⟩ := h; exact ih j hj hp
    · exact ⟨i, hi, fun j hj hp => h ⟨j, hj, hp⟩⟩

def fullTo (ops : Array Oper) (n : Nat) : Array Bool := ((List.range ops.size).map fun i => decide (i < n)).toArray

theorem full_of {ops : Array Oper} {n : Nat} {listed : Array Bool} (inv : HeadInv .any ops n listed) (h : ∀ j, j < n → listed.getD j true = true) : listed = fullTo ops n := by
  apply Array.ext
  · simp [fullTo, inv.size]
  · intro i h1 h2
    have hi : i < ops.size := by rw [← inv.size]; exact h1
    have hr : (fullTo ops n)[i] = decide (i < n) := by simp [fullTo]
    rw [hr]
    by_cases hin : i < n
    · have := h i hin
      simp [h1] at this
      simp [this, hin]
    · have := inv.tail i (by omega) hi
      simp [h1] at this
      simp [this, hin]

section
variable {N : Nat} {ops : Array Oper} {n : Nat} {A : Act} {E : World → Prop} {B : Nat} {mkv : Nat → Nat → Value} {cell cell2 : Nat → Array Value} {typ : Nat → TypeId}

theorem mid_any {Q : Exit → Act → World → Prop} {g : Nat} (hsel : Region.noSelect ops = true) (hs : Region.sinkB .any ops n = true) (hc : Region.chainB .any ops n = true) (hn : n < ops.size) (hall : ∀ i, i < n → headB N ops n i = true)
    (hold : ∀ i o d, i < n → ops[i]? = some o → isNew o.op = false → o.dst = some d → Yl P ops E o A (A.tmps.getD d undef))
    (hnew : ∀ i o, i < n → ops[i]? = some o → isNew o.op = true → Made P o A (mkv i) (cell i) (typ i))
    (hsto : StoOK P ops n A E B mkv cell cell2 typ)
    (hbound : ∀ i o d, i < n → ops[i]? = some o → isNew o.op = true → o.dst = some d → d < A.tmps.size)
    (hEa : ∀ w c t, E w → E (w.alloc (.cells c t))) (hend : ∀ a w β, Mid P ops n A E B mkv cell cell2 typ (fullTo ops n) a w β → wpAny P .any ops Q g (fullTo ops n) a w) :
    ∀ (k : Nat) (l : List Nat) (listed : Array Bool) (a : Act) (w : World) (β : Nat → Nat), l.length = k → l.Nodup → (∀ j, j ∈ l ↔ j < n ∧ listed.getD j true = false) → HeadInv .any ops n listed →
      Mid P ops n A E B mkv cell cell2 typ listed a w β → wpAny P .any ops Q (k + g) listed a w := by
  intro k
  induction k with
  | zero =>
    intro l listed a w β hk hnd hl inv hm
    have : l = [] := List.eq_nil_of_length_eq_zero hk
    subst this
    have hf := full_of inv fun j hj => by
      cases hb : listed.getD j true with
      | true => rfl
      | false => exact absurd ((hl j).2 ⟨hj, hb⟩) (by simp)
    subst hf
    rw [Nat.zero_add]
    exact hend a w β hm
  | succ k ih =>
    intro l listed a w β hk hnd hl inv hm
    rw [show k + 1 + g = (k + g) + 1 by omega]
    obtain ⟨i0, hi0⟩ : ∃ i, i ∈ l := by
      cases l with
      | nil => simp at hk
      | cons x r => exact ⟨x, by simp⟩
    obtain ⟨hi0n, hi0u⟩ := (hl i0).1 hi0
    obtain ⟨q, ⟨hqn, hqu⟩, hql⟩ := least_of (p := fun j => j < n ∧ listed.getD j true = false) i0 ⟨hi0n, hi0u⟩
    have hqr : q ∈ Region.ready .any ops listed := by
      have hqs : q < ops.size := by omega
      refine mem_ready.2 ⟨hqu, ops[q], Array.getElem?_eq_getElem hqs, fun e he hb => ?_⟩
      have hlt := headB_back (Array.getElem?_eq_getElem hqs) (hall q hqn) e he hb
      have := hql e.on hlt
      have hes : e.on < listed.size := by rw [inv.size]; omega
      cases hb' : listed.getD e.on false with
      | true => rfl
      | false => exact absurd ⟨by omega, getD_in hes hb'⟩ this
    refine ⟨fun h0 => (by rw [h0] at hqr; cases hqr), fun i hi => ?_⟩
    have hin : i < n := by
      rcases Nat.lt_or_ge i n with h | h
      · exact h
      · exact absurd hi (tail_waits hs hc hn inv _ i0 rfl hi0n hi0u i h)
    have hil : i ∈ l := (hl i).2 ⟨hin, (mem_ready.1 hi).1⟩
    refine mid_step hsel hall hold hnew hsto hbound hEa hm hin inv.size hi fun a' w' β' hm' => ih (l.erase i) _ a' w' β' (by rw [List.length_erase_of_mem hil]; omega) (hnd.erase i) (fun j => ?_) (inv.set hi hin) hm'
    rw [hnd.mem_erase_iff, hl j]
    constructor
    · rintro ⟨h1, h2, h3⟩
      exact ⟨h2, by rw [getD_set_ne true (fun e => h1 e.symm)]; exact h3⟩
    · rintro ⟨h1, h2⟩
      have hij : i ≠ j := by
        rintro rfl
        have : i < listed.size := by rw [inv.size]; omega
        simp [this] at h2
      rw [getD_set_ne true hij] at h2
      exact ⟨fun e => hij e.symm, h1, h2⟩
end

/-- what is made by one operation: what the block holds first and in the end, and what is yielded -/
structure MB where
  v : SV
  u : SV
  sl : Nat → SV
  g : Nat → Value
  t : TypeId
/-- what is made by one operation, and stored into by another, if it is -/
structure MadeBy (P : Program) (T : Tab) (s0 : Slots) (μ : Nat → Nat) (L : Nat) (A : Act) (o : Oper) (st : Option (Nat × Operand)) (p : MB) : Prop where
  iff : ∀ K' : SV → (Nat → SV) → Prop, (newVC T o.op s0 fun v mk => stoVC T s0 st v fun u => K' u mk) ↔ K' p.u p.sl
  shape : ∀ (μ' : Nat → Nat) (id : Nat), toVal μ' (p.sl id) = p.g (μ' id)
  ids : ∀ id ∈ p.u.ids, id < L
  one : ∀ id, (p.sl id).ids = [id]
  ptr : isPtr o.op = true → ∀ b, p.g b = .pointer (some ⟨b, 0, none⟩)
  run : ∀ w, (execOp A.eval o).run P w = .ok (.value (p.g w.heap.size)) (w.alloc (.cells (flat μ p.v).toArray p.t))
  same : st = none → p.u = p.v
  sto : ∀ t y, st = some (t, y) → ∀ (a' : Act) (o' : Oper) x w b, o'.op = .store t (.tmp x) y → a'.eval (.tmp x) = .pointer (some ⟨b, 0, none⟩) → a'.eval y = A.eval y → w.heap[b]? = some (.cells (flat μ p.v).toArray p.t (0, 0)) →
    ∃ cs, (execOp a'.eval o').run P w = .ok .skip (w.setCells b 0 cs) ∧ (w.setCells b 0 cs).heap[b]? = some (.cells (flat μ p.u).toArray p.t (0, 0))

instance : Nonempty MB := ⟨⟨.unit, .unit, fun _ => .unit, fun _ => undef, (0 : Nat)⟩⟩
noncomputable def madeOf (P : Program) (T : Tab) (s0 : Slots) (μ : Nat → Nat) (L : Nat) (A : Act) (o : Oper) (st : Option (Nat × Operand)) : MB := Classical.epsilon (MadeBy P T s0 μ L A o st)

/-- a store over the head of a block that lies there -/
theorem store_fresh {T : Tab} (hT : TabOK P T) {μ : Nat → Nat} {t : Nat} {v u : SV} {K : SV → Prop} (hk : (T.ti t).known = true) (h : putAt (T.ti t).agg v 0 u K) :
    ∃ v', K v' ∧ (∀ i ∈ v'.ids, i ∈ u.ids ∨ i ∈ v.ids) ∧ ∀ (ev : Operand → Value) (o' : Oper) (x : Tmp) (y : Operand) (w : World) (b : Nat) (ty : TypeId), o'.op = .store t (.tmp x) y → ev (.tmp x) = .pointer (some ⟨b, 0, none⟩) → ev y = toVal μ u →
      w.heap[b]? = some (.cells (flat μ v).toArray ty (0, 0)) → (execOp ev o').run P w = .ok .skip (w.setCells b 0 (flat μ u)) ∧ (w.setCells b 0 (flat μ u)).heap[b]? = some (.cells (flat μ v').toArray ty (0, 0)) := by
  obtain ⟨v', hv', hf, hl, hi, hcase, hwf⟩ := putAt_flat μ h
  refine ⟨v', hv', hi, fun ev o' x y w b ty ho hx hy hb => ⟨?_, ?_⟩⟩
  · obtain ⟨dst, op, type, pos, after, guard⟩ := o'
    simp only at ho
    subst ho
    have hth : w.there b (0 + 0) (flat μ u).length := fun j hj => by
      have hj' : j < (flat μ v).length := by omega
      simp [World.cell?, World.frozen?, hb, hj']
    have hone := flat_one μ u hwf
    rcases hcase with ⟨n, hag, hn, hval⟩ | ⟨hag, hleaf⟩
    · obtain ⟨d, d1, d2, d3⟩ := agg_row hT hag
      have := run_storeAt_mid (P := P) w b 0 t (flat μ u).toArray (by simpa using hth) (by rw [d3]; simp [hn]) (all_oneCell_toArray hone)
      simp only [execOp, hx, hy, hval]
      simp only [Sem.run_bind, this]
      rfl
    · obtain ⟨d, d1, d2, d3⟩ := agg_scalar hT hag (by intro hh; rw [hh] at hk; cases hk)
      obtain ⟨f1, f2⟩ := toVal_leaf (μ := μ) hleaf
      have hcell := hth 0 (by rw [f1]; simp)
      simp only [Nat.add_zero] at hcell
      obtain ⟨c, hc⟩ := Option.isSome_iff_exists.1 hcell.1
      have hone' : (scal μ u).oneCell' = true := hone _ (by rw [f1]; simp)
      have hst := run_store P w ⟨b, 0, none⟩ (scal μ u) .plain hone'
      rw [hc] at hst
      simp only [hcell.2, Bool.false_eq_true, if_false] at hst
      have hcs : (scal μ u).cells = #[scal μ u] := by
        have := cells_toVal μ u (.inl hleaf)
        rw [f1, f2] at this
        simpa using this
      have hsz := run_sizeOf_of (P := P) d3 w
      simp only [execOp, hx, hy, f2]
      simp only [Instr.storeAt, Instr.sureAddr, storeVar, Sem.run_bind, Sem.run_pure, Result.andThen_ok, hsz, hcs]
      rw [f1]
      simp [storeCells, hst, World.setCells, addr_add, Sem.run_bind]
  · rw [setCells_heap b ty (flat μ u) 0 w _ hb (by simpa using hl), hf]

theorem madeOf_spec {T : Tab} (hT : TabOK P T) {N : Nat} {μ : Nat → Nat} {m : Mem} {s0 : Slots} {A : Act} (hs : SRel N μ m.length s0 A) {o : Oper} {st : Option (Nat × Operand)} {K : SV → (Nat → SV) → Prop} (h : newVC T o.op s0 fun v mk => stoVC T s0 st v fun u => K u mk) :
    MadeBy P T s0 μ m.length A o st (madeOf P T s0 μ m.length A o st) := by
  refine Classical.epsilon_spec (p := MadeBy P T s0 μ m.length A o st) ?_
  obtain ⟨v, mk, hi, g, hg⟩ := new_iff h
  obtain ⟨v', mk', t, hk, hids, hone, hrun⟩ := new_sound hT hs (K := fun a b => a = v ∧ b = mk) ((hi _).2 ⟨rfl, rfl⟩)
  obtain ⟨rfl, rfl⟩ := hk
  have hptr : isPtr o.op = true → ∀ b, g b = .pointer (some ⟨b, 0, none⟩) := fun hp b => by
    have e : mk' = fun id => .ptr id [] 0 0 := by
      have h2 := (hi (fun a b => b = mk')).2 rfl
      revert h2
      cases ho : o.op <;> rw [ho] at hp <;> simp only [isPtr, Bool.false_eq_true] at hp
      · simp only [newVC]
        split
        · intro h2; exact (chk_iff.1 h2).2.symm
        · exact fun h2 => h2.elim
      · simp only [newVC]
        split
        · intro h2; exact (chk_iff.1 h2).2.symm
        · exact fun h2 => h2.elim
    have := hg (fun _ => b) 0
    rw [e] at this
    exact this.symm
  have hrun' : ∀ w, (execOp A.eval o).run P w = .ok (.value (g w.heap.size)) (w.alloc (.cells (flat μ v').toArray t)) := fun w => by
    have := hrun w
    rw [hg, ext_new] at this
    exact this
  have h := (hi _).1 h
  cases st with
  | none => exact ⟨⟨v', v', mk', g, t⟩, fun K' => hi _, hg, hids, hone, hptr, hrun', fun _ => rfl, fun t y hh => by cases hh⟩
  | some ty =>
    obtain ⟨t2, y⟩ := ty
    unfold stoVC at h
    dsimp only at h
    split at h
    · rename_i u hu
      obtain ⟨hkn, h⟩ := chk_iff.1 h
      obtain ⟨v2, hv2⟩ := putAt_iff h
      obtain ⟨v3, e3, hsub, hst⟩ := store_fresh (P := P) hT (μ := μ) hkn ((hv2 (fun a => a = v2)).2 rfl)
      subst e3
      have hev := ev_sound hs hu
      refine ⟨⟨v', v3, mk', g, t⟩, fun K' => ?_, hg, fun id hid => (hsub id hid).elim (fun g => hev.2 id g) (fun g => hids id g), hone, hptr, hrun', fun hh => (by cases hh), fun t' y' hh a' o' x w b ho hx hy hb => ?_⟩
      · rw [hi]
        show stoVC T s0 (some (t2, y)) v' _ ↔ _
        unfold stoVC
        simp only [hu, chk_iff, hkn, true_and]
        exact hv2 _
      · cases hh
        exact ⟨_, hst a'.eval o' x y w b t ho hx (by rw [hy, hev.1]) hb⟩
    · exact h.elim

theorem news_each {T : Tab} {N : Nat} {s0 : Slots} {l0 : List Oper} {K : Slots → Mem → Prop} : ∀ (l : List Oper) (s : Slots) (m : Mem), newsVC T N s0 l0 l s m K → ∀ o ∈ l, isNew o.op = true → ∃ K' : SV → (Nat → SV) → Prop, newVC T o.op s0 fun v mk => stoVC T s0 (stoFor l0 o) v fun u => K' u mk
  | [], s, m, h, o, ho, hn => by cases ho
  | x :: r, s, m, h, o, ho, hn => by
    unfold newsVC at h
    split at h
    · rename_i hx
      rcases List.mem_cons.1 ho with rfl | ho
      · exact ⟨_, h⟩
      · obtain ⟨v, mk, hi, _⟩ := new_iff h
        have h := (hi _).1 h
        unfold stoVC at h
        split at h
        · exact news_each r _ _ h o ho hn
        · split at h
          · obtain ⟨_, h⟩ := chk_iff.1 h
            obtain ⟨u, hu⟩ := putAt_iff h
            exact news_each r _ _ ((hu _).1 h) o ho hn
          · exact h.elim
    · rename_i hx
      rcases List.mem_cons.1 ho with rfl | ho
      · rw [hn] at hx; cases hx
      · exact news_each r _ _ h o ho hn

theorem adopt_pass {T : Tab} {μ0 : Nat → Nat} {m0 : Mem} {w0 : World} {N n L : Nat} {ops : Array Oper} {s0 : Slots} {l0 : List Oper} {μb : Nat → Nat} {A a : Act} {w : World} {β : Nat → Nat} {K : Slots → Mem → Prop}
    (hsize : a.tmps.size = N) (hdef : a.defers = [])
    (facts : ∀ j o d, j < n → ops[j]? = some o → isNew o.op = true → o.dst = some d → d < N ∧ MadeBy P T s0 μb L A o (stoFor l0 o) (madeOf P T s0 μb L A o (stoFor l0 o)) ∧ a.tmps.getD d undef = (madeOf P T s0 μb L A o (stoFor l0 o)).g (β j) ∧
      w.heap[β j]? = some (.cells (flat μb (madeOf P T s0 μb L A o (stoFor l0 o)).u).toArray (madeOf P T s0 μb L A o (stoFor l0 o)).t (0, 0)) ∧ w0.heap.size ≤ β j)
    (hdst : ∀ j o, j < n → ops[j]? = some o → isNew o.op = true → ∃ d, o.dst = some d)
    (apart : ∀ i j o o', i < n → j < n → ops[i]? = some o → ops[j]? = some o' → isNew o.op = true → isNew o'.op = true → β i = β j → i = j) :
    ∀ (l : List Oper) (i : Nat) (s : Slots) (m : Mem) (μ : Nat → Nat), (∀ j, j < l.length → l[j]? = ops[i + j]?) → i + l.length = n → newsVC T N s0 l0 l s m K →
      (∀ t v, lk s t = some v → (∃ o ∈ l, isNew o.op = true ∧ o.dst = some t) ∨ (a.tmps.getD t undef = toVal μ v ∧ ∀ id ∈ v.ids, id < m.length)) →
      RunS μ0 m0 w0 μ m w → (∀ id, id < L → μ id = μb id) → L ≤ m.length →
      (∀ j o, i ≤ j → j < n → ops[j]? = some o → isNew o.op = true → ∀ id, (blockOf m id).isSome = true → μ id ≠ β j) →
      ∃ μ' s' m', SRel N μ' m'.length s' a ∧ RunS μ0 m0 w0 μ' m' w ∧ K s' m'
  | [], i, s, m, μ, hl, hi, h, hsl, hr, hμ, hL, hne => ⟨μ, s, m, ⟨hsize, hdef, fun t v hv => by
      rcases hsl t v hv with ⟨o, ho, _⟩ | h
      · cases ho
      · exact h⟩, hr, h⟩
  | o :: r, i, s, m, μ, hl, hi, h, hsl, hr, hμ, hL, hne => by
    have h0 : ops[i]? = some o := by simpa using (hl 0 (by simp)).symm
    have hin : i < n := by simp only [List.length_cons] at hi; omega
    have hl' : ∀ j, j < r.length → r[j]? = ops[i + 1 + j]? := fun j hj => by have := hl (j + 1) (by simp; omega); simpa [Nat.add_assoc, Nat.add_comm 1 j] using this
    have hi' : i + 1 + r.length = n := by simp only [List.length_cons] at hi; omega
    unfold newsVC at h
    split at h
    · rename_i hn
      obtain ⟨d, hd⟩ := hdst i o hin h0 hn
      obtain ⟨hdN, hp, hval, hcell, hbig⟩ := facts i o d hin h0 hn hd
      generalize madeOf P T s0 μb L A o (stoFor l0 o) = p at hp hval hcell
      have h := (hp.iff _).1 h
      have hfl : flat μ p.u = flat μb p.u := flat_ids p.u fun id hid => hμ id (hp.ids id hid)
      have hvi : ∀ id ∈ p.u.ids, id < m.length := fun id hid => Nat.lt_of_lt_of_le (hp.ids id hid) hL
      have hr' := hr.adopt hvi (t := p.t) (b := β i) (by rw [hfl]; exact hcell) (fun id hid => hne i o (Nat.le_refl _) hin h0 hn id hid) hbig
      refine adopt_pass hsize hdef facts hdst apart r (i + 1) _ _ (ext μ m.length (β i)) hl' hi' h (fun t v hv => ?_) hr' (fun id hid => by rw [ext_old (by omega)]; exact hμ id hid) (by simp; omega) fun j oj hij hj hoj hnj id hid => ?_
      · rw [hd] at hv
        have hb : Nat.blt d N = true := by simpa [Nat.blt_eq] using hdN
        simp only [sset, hb, lk_cons] at hv
        by_cases hdt : d = t
        · subst hdt
          rw [if_pos rfl] at hv
          cases hv
          refine .inr ⟨?_, fun id hid => ?_⟩
          · rw [hval, hp.shape, ext_new]
          · rw [hp.one] at hid
            simp at hid
            simp [hid]
        · rw [if_neg hdt] at hv
          rcases hsl t v hv with ⟨o', ho', hn', hd'⟩ | ⟨h1, h2⟩
          · rcases List.mem_cons.1 ho' with rfl | ho'
            · rw [hd] at hd'; cases hd'; exact absurd rfl hdt
            · exact .inl ⟨o', ho', hn', hd'⟩
          · refine .inr ⟨?_, fun id hid => by have := h2 id hid; simp; omega⟩
            rw [h1]
            exact toVal_ids v fun id hid => (ext_old (h2 id hid)).symm
      · rcases Nat.lt_or_ge id m.length with hlt | hge
        · rw [ext_old hlt]
          rw [blockOf_append_lt m _ id hlt] at hid
          exact hne j oj (by omega) hj hoj hnj id hid
        · have := blockOf_lt hid
          simp at this
          obtain rfl : id = m.length := by omega
          rw [ext_new]
          intro he
          have := apart i j o oj hin hj h0 hoj hn hnj he
          omega
    · rename_i hn
      refine adopt_pass hsize hdef facts hdst apart r (i + 1) _ _ μ hl' hi' h (fun t v hv => ?_) hr hμ hL fun j oj hij hj hoj hnj => hne j oj (by omega) hj hoj hnj
      rcases hsl t v hv with ⟨o', ho', hn', hd'⟩ | h
      · rcases List.mem_cons.1 ho' with rfl | ho'
        · rw [hn] at hn'; cases hn'
        · exact .inl ⟨o', ho', hn', hd'⟩
      · exact .inr h

theorem stoTo_some {d : Nat} {t : Nat} {y : Operand} : ∀ {l : List Oper}, stoTo d l = some (t, y) → ∃ o ∈ l, o.op = .store t (.tmp d) y
  | [], h => by cases h
  | o :: r, h => by
    unfold stoTo at h
    split at h
    · rename_i t' x y' hop
      split at h
      · rename_i hb
        have := Nat.eq_of_beq_eq_true hb
        subst this
        cases h
        exact ⟨o, by simp, hop⟩
      · obtain ⟨o', ho', hh⟩ := stoTo_some h
        exact ⟨o', by simp [ho'], hh⟩
    · obtain ⟨o', ho', hh⟩ := stoTo_some h
      exact ⟨o', by simp [ho'], hh⟩
theorem stoTo_mem {d : Nat} {t : Nat} {y : Operand} : ∀ {l : List Oper} {o : Oper}, o ∈ l → o.op = .store t (.tmp d) y → ∃ t' y', stoTo d l = some (t', y')
  | [], o, ho, _ => by cases ho
  | x :: r, o, ho, hop => by
    unfold stoTo
    rcases List.mem_cons.1 ho with rfl | ho
    · rw [hop]
      simp only [Nat.beq_refl]
      exact ⟨_, _, rfl⟩
    · split
      · split
        · exact ⟨_, _, rfl⟩
        · exact stoTo_mem ho hop
      · exact stoTo_mem ho hop

/-- a region that draws its order -/
theorem draw_sound {T : Tab} (hT : TabOK P T) (hE : TabEq P T) {μ0 : Nat → Nat} {m0 : Mem} {w0 : World} {N n rid : Nat} {ops : Array Oper} {μ : Nat → Nat} {s : Slots} {m : Mem} {a : Act} {w : World} {K : Slots → Mem → Prop} {Q : Exit → Act → World → Prop}
    (hs : SRel N μ m.length s a) (hr : RunS μ0 m0 w0 μ m w) (hB : drawB N ops n = true)
    (h : headVC P T N ops m (ops.toList.take n) s fun s' => newsVC T N s' (ops.toList.take n) (ops.toList.take n) s' m K)
    (htail : ∀ μ' s' m' a' w', SRel N μ' m'.length s' a' → RunS μ0 m0 w0 μ' m' w' → K s' m' → wpList P ops Q (ops.toList.drop n) a' w') : (Code.region rid ops true).wp P Q a w := by
  unfold drawB at hB
  simp only [Bool.and_eq_true, decide_eq_true_eq, List.all_eq_true, List.mem_range] at hB
  obtain ⟨⟨⟨⟨⟨hsel, hn⟩, hsk⟩, hch⟩, hsq⟩, hall⟩ := hB
  have hlen : (ops.toList.take n).length = n := by simp; omega
  have hget : ∀ j, j < (ops.toList.take n).length → (ops.toList.take n)[j]? = ops[0 + j]? := fun j hj => by
    rw [hlen] at hj
    rw [Nat.zero_add, List.getElem?_take_of_lt hj]
    simp
  have hr1 := hr.drew
  obtain ⟨A, s', hsA, hnews, hother, hold⟩ := head_pass hT hE hr1 hall hsel (ops.toList.take n) 0 s a _ hget (by omega) hs h
  have hmem : ∀ i o, i < n → ops[i]? = some o → o ∈ ops.toList.take n := fun i o hi ho => by
    rw [List.mem_iff_getElem?]
    exact ⟨i, by rw [hget i (by omega), Nat.zero_add]; exact ho⟩
  have hmade : ∀ i o, i < n → ops[i]? = some o → isNew o.op = true → MadeBy P T s' μ m.length A o (stoFor (ops.toList.take n) o) (madeOf P T s' μ m.length A o (stoFor (ops.toList.take n) o)) := fun i o hi ho hno => by
    obtain ⟨K', hK'⟩ := news_each _ _ _ hnews o (hmem i o hi ho) hno
    exact madeOf_spec hT hsA hK'
  let F : Nat → MB := fun i => match ops[i]? with | some o => madeOf P T s' μ m.length A o (stoFor (ops.toList.take n) o) | none => ⟨.unit, .unit, fun _ => .unit, fun _ => undef, (0 : Nat)⟩
  have hF : ∀ i o, ops[i]? = some o → F i = madeOf P T s' μ m.length A o (stoFor (ops.toList.take n) o) := fun i o ho => by simp only [F, ho]
  refine wp_region_any hT.mixed ?_
  have inv0 : HeadInv .any ops n (Array.replicate ops.size false) :=
    ⟨by simp, fun j oj _ hl => (by rw [getD_replicate_false] at hl; cases hl), fun t _ ht => getD_in (by simpa using ht) (getD_replicate_false _ _)⟩
  have hdN : ∀ i o, i < n → ops[i]? = some o → isNew o.op = true → ∃ d, o.dst = some d ∧ d < N := fun i o hi ho hno => (headB_spec ho (new_not_sto hno) (hall i hi)).1
  have hsto : StoOK P ops n A (fun w => RunS μ0 m0 w0 μ m w) w.heap.size (fun i => (F i).g) (fun i => (flat μ (F i).v).toArray) (fun i => (flat μ (F i).u).toArray) (fun i => (F i).t) := by
    intro i o t x y j oj hi ho hop hj hoj hdj hpj a' w1 b hx hy hw1 hcell hb
    have hp := hmade j oj hj hoj (ptr_new hpj)
    have hst : stoFor (ops.toList.take n) oj = some (t, y) := by
      unfold stoFor
      rw [hdj]
      dsimp only
      obtain ⟨t', y', h1⟩ := stoTo_mem (d := x) (hmem i o hi ho) hop
      obtain ⟨o', ho', hop'⟩ := stoTo_some h1
      obtain ⟨k, hk⟩ := List.mem_iff_getElem?.1 ho'
      have hkn : k < n := by
        have := (List.getElem?_eq_some_iff.1 hk).1
        omega
      have hok : ops[k]? = some o' := by rw [hget k (by omega), Nat.zero_add] at hk; exact hk
      have hki : k = i := by
        by_cases hki : k = i
        · exact hki
        · exact absurd (stoAt_of hok hop') ((stoB_spec ho hop (hall i hi)).2.2.2.1 k hkn (fun e => hki e.symm))
      subst hki
      rw [ho] at hok; cases hok
      rw [hop] at hop'
      cases hop'
      exact h1
    simp only [hF j oj hoj] at hx hcell ⊢
    rw [hp.ptr hpj] at hx
    obtain ⟨cs, hrun, hnew⟩ := hp.sto t y hst a' o x w1 b hop hx hy hcell
    refine ⟨_, hrun, hnew, setCells_size _ _ _ _, fun b' hb' => setCells_other _ _ hb' _ _ _, ?_⟩
    refine hw1.apart (c := b) (setCells_size _ _ _ _) (fun b' hb' => setCells_other _ _ hb' _ _ _) (fun id hid he => ?_) (Nat.le_trans hr.kept.size hb) (setCells_rest _ _ _ _) (fun ad => World.frozen?_setCells _ _ _ _ _)
    have := hr.mr.lt hid
    omega
  have key := mid_any (P := P) (N := N) (ops := ops) (n := n) (A := A) (E := fun w => RunS μ0 m0 w0 μ m w) (B := w.heap.size) (mkv := fun i => (F i).g) (cell := fun i => (flat μ (F i).v).toArray) (cell2 := fun i => (flat μ (F i).u).toArray) (typ := fun i => (F i).t)
    (Q := Q) (g := ops.size - n) hsel hsk hch hn hall (fun i o d hi ho hno hd => hold i o d (Nat.zero_le _) hi ho hno hd)
    (fun i o hi ho hno => ⟨fun w => by rw [hF i o ho]; exact (hmade i o hi ho hno).run w⟩) hsto
    (fun i o d hi ho hno hd => by obtain ⟨d', hd', hlt⟩ := hdN i o hi ho hno; rw [hd] at hd'; cases hd'; rw [hsA.size]; exact hlt)
    (fun w c t hw => hw.made c t) (fun a' w' β hm => ?_) n (List.range n) (Array.replicate ops.size false) a { w with drawn := w.drawn + 1 } (fun _ => 0) (by simp) List.nodup_range (fun j => ?_) inv0 ?_
  · rw [show n + (ops.size - n) = ops.size by omega] at key
    exact key
  · have hyes : ∀ i, i < n → (fullTo ops n).getD i false = true := fun i hi => by
      have : i < ops.size := by omega
      simp [fullTo, this, hi]
    have hB2 : w0.heap.size ≤ w.heap.size := hr.kept.size
    obtain ⟨μ', s2, m2, g1, g2, g3⟩ := adopt_pass (P := P) (T := T) (μ0 := μ0) (m0 := m0) (w0 := w0) (N := N) (n := n) (L := m.length) (ops := ops) (s0 := s') (l0 := ops.toList.take n) (μb := μ) (A := A) (a := a') (w := w') (β := β) (K := K)
      (by rw [hm.size, hsA.size]) (by rw [hm.defers, hsA.defers])
      (fun j o d hj ho hno hd => by
        obtain ⟨d', hd', hlt⟩ := hdN j o hj ho hno
        rw [hd] at hd'; cases hd'
        obtain ⟨h1, ⟨h2, h2'⟩, h3⟩ := hm.new j o d hj ho hno hd (hyes j hj)
        have hp := hmade j o hj ho hno
        simp only [hF j o ho] at h1 h2 h2'
        refine ⟨hlt, hp, h1, ?_, by omega⟩
        by_cases hst : Stored ops n (fullTo ops n) d
        · exact h2 hst
        · have h4 := h2' hst
          have hnone : stoFor (ops.toList.take n) o = none := by
            unfold stoFor
            rw [hd]
            dsimp only
            cases hq : stoTo d (ops.toList.take n) with
            | none => rfl
            | some ty =>
              obtain ⟨t', y'⟩ := ty
              obtain ⟨o', ho', hop'⟩ := stoTo_some hq
              obtain ⟨k, hk⟩ := List.mem_iff_getElem?.1 ho'
              have hkn : k < n := by
                have := (List.getElem?_eq_some_iff.1 hk).1
                omega
              have hok : ops[k]? = some o' := by rw [hget k (by omega), Nat.zero_add] at hk; exact hk
              exact absurd ⟨k, hkn, stoAt_of hok hop', hyes k hkn⟩ hst
          rw [hp.same hnone]
          exact h4)
      (fun j o hj ho hno => by obtain ⟨d, hd, _⟩ := hdN j o hj ho hno; exact ⟨d, hd⟩)
      (fun i j o o' hi hj ho ho' hno hno' he => hm.apart i j o o' hi hj ho ho' hno hno' (hyes i hi) (hyes j hj) he)
      (ops.toList.take n) 0 s' m μ hget (by omega) hnews
      (fun t v hv => by
        obtain ⟨h1, h2⟩ := hsA.val t v hv
        by_cases hex : ∃ o ∈ ops.toList.take n, isNew o.op = true ∧ o.dst = some t
        · exact .inl hex
        · refine .inr ⟨?_, h2⟩
          rw [← h1]
          by_cases hex2 : ∃ j, j < n ∧ dstOf ops j = some t
          · obtain ⟨j, hj, hdj⟩ := hex2
            cases hoj : ops[j]? with
            | none => simp [dstOf, hoj] at hdj
            | some oj =>
              have hdj' : oj.dst = some t := by simpa [dstOf, hoj] using hdj
              cases hno : isNew oj.op with
              | true =>
                exact absurd ⟨oj, hmem j oj hj hoj, hno, hdj'⟩ hex
              | false => exact hm.yes j oj t hj hoj hno hdj' (hyes j hj)
          · exact hm.other t fun j hj hh => hex2 ⟨j, hj, hh⟩)
      hm.e (fun _ _ => rfl) (Nat.le_refl _)
      (fun j o _ hj ho hno id hid he => by
        obtain ⟨d, hd, _⟩ := hdN j o hj ho hno
        have h3 := (hm.new j o d hj ho hno hd (hyes j hj)).2.2
        have := hr.mr.lt hid
        omega)
    have := wpAny_of_seq (md := .any) (Q' := Q) (ops.toList.drop n) n (fullTo ops n) a' w' (fun j => by simp [List.getElem?_drop]) (by simpa [fullTo] using hsq) (htail μ' s2 m2 a' w' g1 g2 g3)
    simpa using this
  · rw [List.mem_range]
    constructor
    · intro hj
      have : j < ops.size := by omega
      exact ⟨hj, by simp [this]⟩
    · exact fun hh => hh.1
  · refine ⟨hr1, Nat.le_refl _, by rw [hs.size, hsA.size], by rw [hs.defers, hsA.defers], fun i o d _ _ _ _ hl => ?_, fun x hx => (hother x fun j _ hj => hx j hj).symm, fun i o d _ _ _ _ hl => ?_, fun i j o o' _ _ _ _ _ _ hl _ _ => ?_, fun d hd => ?_⟩
    · rw [getD_replicate_false] at hl; cases hl
    · rw [getD_replicate_false] at hl; cases hl
    · rw [getD_replicate_false] at hl; cases hl
    · obtain ⟨k, hk, hs, hl⟩ := hd
      rw [getD_replicate_false] at hl; cases hl
end Go.Proofs.Ytojfjcbblkiajaa
