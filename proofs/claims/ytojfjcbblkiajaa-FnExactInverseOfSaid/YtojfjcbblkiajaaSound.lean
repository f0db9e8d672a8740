/- The logic holds: where its condition on an operation is met, the model's run of that operation comes out so. -/
import Derived.Test.YtojfjcbblkiajaaVc
import Derived.Deep.MidRow
set_option linter.unusedVariables false
set_option linter.unusedSimpArgs false
namespace Go.Proofs.Ytojfjcbblkiajaa
variable {P : Program}

theorem chk_iff {b : Bool} {X : Prop} : chk b X ↔ b = true ∧ X := by
  cases b <;> simp [chk]
theorem beqN {a b : Nat} (h : Nat.beq a b = true) : a = b := Nat.eq_of_beq_eq_true h
theorem ikEq_eq {a b : IntKind} (h : ikEq a b = true) : a = b := by
  cases a <;> cases b <;> first | rfl | cases h

def TIok (P : Program) (t : Nat) : TI → Prop
  | .scalar => (∃ d, P.underlying t = some d ∧ d.isRow = false) ∧ (P.info? t).map (·.size) = some 1
  | .int k => P.underlying t = some (.int k) ∧ (P.info? t).map (·.size) = some 1
  | .arr len es ea => ∃ e d, P.underlying t = some (.array len e) ∧ (P.info? t).map (·.size) = some (len * es) ∧ (P.info? e).map (·.size) = some es ∧ P.underlying e = some d ∧ d.isRow = ea ∧ 1 < len
  | .struct offs n => ∃ fs : Array Field, P.underlying t = some (.struct fs) ∧ (P.info? t).map (·.size) = some n ∧ fs.toList.map (·.offset) = offs ∧ ∀ f ∈ fs.toList, ∃ k, (P.info? f.type).map (·.size) = some (k + 1)
  | .slice es => ∃ e, P.underlying t = some (.slice e) ∧ (P.info? e).map (·.size) = some es ∧ (P.info? t).map (·.size) = some 1
  | .other => True

/-- an array of arrays .. of numbers of one kind: n of them in all -/
inductive RowT (P : Program) : TypeId → IntKind → Nat → Nat → Prop where
  | one {t e : TypeId} {k : IntKind} {len : Nat} (h : P.underlying t = some (.array len e)) (he : P.underlying e = some (.int k)) (hs : (P.info? e).map (·.size) = some 1) : RowT P t k len 1
  | more {t e : TypeId} {k : IntKind} {len m d : Nat} (h : P.underlying t = some (.array len e)) (he : RowT P e k m d) (hs : (P.info? e).map (·.size) = some m) : RowT P t k (len * m) (d + 1)

inductive FldsT (P : Program) : Nat → List Field → List FK → Prop where
  | nil {o : Nat} : FldsT P o [] []
  | int {o : Nat} {f : Field} {fs : List Field} {ks : List FK} {k : IntKind} (hn : f.name ≠ "_") (ho : f.offset = o) (hu : P.underlying f.type = some (.int k)) (hs : (P.info? f.type).map (·.size) = some 1) (r : FldsT P (o + 1) fs ks) : FldsT P o (f :: fs) (.int k :: ks)
  | row {o n d : Nat} {f : Field} {fs : List Field} {ks : List FK} {k : IntKind} (hn : f.name ≠ "_") (ho : f.offset = o) (hr : RowT P f.type k n d) (hd : d < 9999) (hs : (P.info? f.type).map (·.size) = some n) (r : FldsT P (o + n) fs ks) : FldsT P o (f :: fs) (.row k n :: ks)
  | slice {o e : Nat} {f : Field} {fs : List Field} {ks : List FK} (hn : f.name ≠ "_") (ho : f.offset = o) (hu : P.underlying f.type = some (.slice e)) (hs : (P.info? f.type).map (·.size) = some 1) (r : FldsT P (o + 1) fs ks) : FldsT P o (f :: fs) (.slice :: ks)
  | scal {o : Nat} {d : TypeDesc} {f : Field} {fs : List Field} {ks : List FK} (hn : f.name ≠ "_") (ho : f.offset = o) (hu : P.underlying f.type = some d) (hd : d.isRow = false) (hs : (P.info? f.type).map (·.size) = some 1) (r : FldsT P (o + 1) fs ks) : FldsT P o (f :: fs) (.scal :: ks)

structure TabOK (P : Program) (T : Tab) : Prop where
  mixed : P.follows .mixedOrders = true
  ok : ∀ t, TIok P t (T.ti t)
  zero : ∀ t z, T.zero t = some z → (P.info? t).map (·.zero) = some (some (toVal (fun _ => 0) z)) ∧ z.ids = []
  elem0 : ∀ t z, T.elem0 t = some z → ∃ e, P.underlying t = some (.slice e) ∧ (P.info? e).map (·.zero) = some (some (toVal (fun _ => 0) z))
  flds : ∀ t ks, T.flds t = some ks → ∃ fs : Array Field, P.underlying t = some (.struct fs) ∧ FldsT P 0 fs.toList ks
  app : ∀ t by_, T.app t = some by_ → ∃ e z, P.underlying t = some (.slice e) ∧ (P.info? e).map (·.bytes) = some by_ ∧ (P.info? e).map (·.zero) = some (some (toVal (fun _ => 0) z)) ∧ (P.info? e).map (·.size) = some (toVal (fun _ => 0) z).cells.size
theorem TabOK.owns {P : Program} {T : Tab} (h : TabOK P T) (k : Nat) : TabOK P { T with own := k } := ⟨h.mixed, h.ok, h.zero, h.elem0, h.flds, h.app⟩
theorem TabOK.dir {P : Program} {T : Tab} (h : TabOK P T) (d : Nat → Bool) : TabOK P { T with direct := d } := ⟨h.mixed, h.ok, h.zero, h.elem0, h.flds, h.app⟩

/-! ### plain facts on values -/
theorem flat_length (μ : Nat → Nat) : ∀ v : SV, (flat μ v).length = v.size := by
  intro v
  induction v <;> simp_all [flat, SV.size]

theorem scal_ids1 {μ μ' : Nat → Nat} (v : SV) (h : ∀ id ∈ v.ids1, μ id = μ' id) : scal μ v = scal μ' v := by
  cases v <;> simp_all [SV.ids1, scal]
theorem leaf_ids {x : SV} (h : x.leaf = true) : x.ids = x.ids1 := by
  cases x <;> simp_all [SV.leaf, SV.ids, SV.ids1]
theorem vec_ids {n : Nat} {h : Nat → SV} {id : Nat} : id ∈ (SV.vec n h).ids ↔ ∃ i, i < n ∧ id ∈ (h i).ids1 := by
  simp [SV.ids]
theorem flat_vec_get (μ : Nat → Nat) (n : Nat) (h : Nat → SV) (j : Nat) (hj : j < n) : (flat μ (.vec n h))[j]? = some (scal μ (h j)) := by
  simp [flat, hj]
theorem flat_ids {μ μ' : Nat → Nat} : ∀ v : SV, (∀ id ∈ v.ids, μ id = μ' id) → flat μ v = flat μ' v := by
  intro v
  induction v with
  | pair a b iha ihb => intro h; simp only [flat]; rw [iha (fun id hi => h id (by simp [SV.ids, hi])), ihb (fun id hi => h id (by simp [SV.ids, hi]))]
  | vec n g => intro h; exact List.map_congr_left fun i hi => scal_ids1 (g i) fun id hid => h id (vec_ids.2 ⟨i, List.mem_range.1 hi, hid⟩)
  | _ => intro h; simp_all [flat, scal, SV.ids]

theorem tupVals_ids {μ μ' : Nat → Nat} : ∀ v : SV, (∀ id ∈ v.ids, μ id = μ' id) → toVal.tupVals μ v = toVal.tupVals μ' v := by
  intro v
  induction v with
  | tcons a b iha ihb =>
    intro h
    have hb := ihb (fun id hi => h id (by simp [SV.ids, hi]))
    have ha := flat_ids a (fun id hi => h id (by simp [SV.ids, hi]))
    have ha' : ∀ id ∈ a.ids, μ id = μ' id := fun id hi => h id (by simp [SV.ids, hi])
    simp only [toVal.tupVals, hb]
    congr 1
    cases a <;> simp_all [flat, scal, SV.ids]
  | _ => intro _; rfl

theorem toVal_ids {μ μ' : Nat → Nat} (v : SV) (h : ∀ id ∈ v.ids, μ id = μ' id) : toVal μ v = toVal μ' v := by
  have hf := flat_ids v h
  have ht := tupVals_ids v h
  cases v <;> simp_all [toVal, flat, scal, SV.ids]

/-! ### frames -/
structure SRel (N : Nat) (μ : Nat → Nat) (L : Nat) (s : Slots) (a : Act) : Prop where
  size : a.tmps.size = N
  defers : a.defers = []
  val : ∀ t v, lk s t = some v → a.tmps.getD t undef = toVal μ v ∧ ∀ id ∈ v.ids, id < L

theorem lk_cons (t k : Nat) (v : SV) (r : Slots) : lk ((t, v) :: r) k = if t = k then some v else lk r k := by
  by_cases h : t = k
  · subst h; simp [lk, Nat.beq_refl]
  · have : Nat.beq t k = false := by
      cases hb : Nat.beq t k with
      | false => rfl
      | true => exact absurd (Nat.eq_of_beq_eq_true hb) h
    simp [lk, this, h]

theorem SRel.put {N : Nat} {μ : Nat → Nat} {L : Nat} {s : Slots} {a : Act} (hs : SRel N μ L s a) (d : Option Tmp) (v : SV) (hv : ∀ id ∈ v.ids, id < L) :
    SRel N μ L (sset N s d v) (a.put d (toVal μ v)) := by
  cases d with
  | none => exact hs
  | some d =>
    refine ⟨by simp [Act.put, hs.size], by simp [Act.put, hs.defers], fun t u h => ?_⟩
    unfold sset at h
    cases hb : Nat.blt d N with
    | false => simp only [hb] at h; cases h
    | true =>
      have hlt : d < N := by
        have := hb
        simp [Nat.blt_eq] at this
        exact this
      simp only [hb, lk_cons] at h
      by_cases hdt : d = t
      · subst hdt
        simp only [if_true] at h
        obtain rfl : v = u := Option.some.inj h
        refine ⟨?_, hv⟩
        simp [Act.put, hs.size, hlt]
      · simp only [hdt, if_false] at h
        have := hs.val t u h
        refine ⟨?_, this.2⟩
        rw [← this.1]
        simp [Act.put, Array.getElem?_setIfInBounds_ne hdt]

theorem SRel.skip {N : Nat} {μ : Nat → Nat} {L : Nat} {s : Slots} {a : Act} (hs : SRel N μ L s a) (d : Option Tmp) : SRel N μ L (sset N s d .undef) (a.put d undef) :=
  hs.put d .undef (by simp [SV.ids])

theorem SRel.mono {N : Nat} {μ μ' : Nat → Nat} {L L' : Nat} {s : Slots} {a : Act} (hs : SRel N μ L s a) (hL : L ≤ L') (hμ : ∀ id, id < L → μ id = μ' id) : SRel N μ' L' s a :=
  ⟨hs.size, hs.defers, fun t v h => by
    have := hs.val t v h
    exact ⟨by rw [this.1]; exact toVal_ids v fun id hi => hμ id (this.2 id hi), fun id hi => Nat.lt_of_lt_of_le (this.2 id hi) hL⟩⟩

theorem ev_sound {N : Nat} {μ : Nat → Nat} {L : Nat} {s : Slots} {a : Act} (hs : SRel N μ L s a) {x : Operand} {v : SV} (h : ev s x = some v) :
    a.eval x = toVal μ v ∧ ∀ id ∈ v.ids, id < L := by
  cases x with
  | tmp t => exact hs.val t v h
  | const c =>
    simp only [ev] at h
    unfold ofConst at h
    split at h <;> (try cases h) <;> exact ⟨rfl, by simp [SV.ids]⟩
  | func f => cases h; exact ⟨rfl, by simp [SV.ids]⟩
  | global g => cases h

theorem evs_sound {N : Nat} {μ : Nat → Nat} {L : Nat} {s : Slots} {a : Act} (hs : SRel N μ L s a) : ∀ {l : List Operand} {vs : List SV}, evs s l = some vs →
    l.map a.eval = vs.map (toVal μ) ∧ ∀ id ∈ idsOf vs, id < L
  | [], vs, h => by cases h; exact ⟨rfl, by simp [idsOf]⟩
  | x :: r, vs, h => by
    unfold evs at h
    split at h
    · rename_i v l hv hl
      cases h
      have h1 := ev_sound hs hv
      have h2 := evs_sound hs hl
      refine ⟨by simp [h1.1, h2.1], fun id hi => ?_⟩
      simp only [idsOf, List.mem_append] at hi
      rcases hi with hi | hi
      · exact h1.2 id hi
      · exact h2.2 id hi
    · cases h

/-! ### memory: parts of blocks -/
theorem field_flat (μ : Nat → Nat) : ∀ (v : SV) (k : Nat) (c : SV) (o : Nat), v.fieldOf k = some (c, o) → ∃ pre post, flat μ v = pre ++ flat μ c ++ post ∧ pre.length = o := by
  intro v
  induction v with
  | pair a b iha ihb =>
    intro k c o h
    cases k with
    | zero => cases h; exact ⟨[], flat μ b, by simp [flat], rfl⟩
    | succ k =>
      simp only [SV.fieldOf] at h
      split at h
      · rename_i c' o' hb
        cases h
        obtain ⟨pre, post, h1, h2⟩ := ihb k _ _ hb
        exact ⟨flat μ a ++ pre, post, by simp [flat, h1], by simp [flat_length, h2]⟩
      · cases h
  | _ => intro k c o h; cases k <;> simp [SV.fieldOf] at h

theorem part_flat (μ : Nat → Nat) : ∀ (path : List Nat) (v c : SV) (o : Nat), v.part path = some (c, o) → ∃ pre post, flat μ v = pre ++ flat μ c ++ post ∧ pre.length = o
  | [], v, c, o, h => by cases h; exact ⟨[], [], by simp, rfl⟩
  | k :: r, v, c, o, h => by
    simp only [SV.part] at h
    split at h
    · rename_i c1 o1 h1
      split at h
      · rename_i d o2 h2
        cases h
        obtain ⟨p1, q1, e1, l1⟩ := field_flat μ v k _ _ h1
        obtain ⟨p2, q2, e2, l2⟩ := part_flat μ r _ _ _ h2
        exact ⟨p1 ++ p2, q2 ++ q1, by simp [e1, e2], by simp [l1, l2]⟩
      · cases h
    · cases h

theorem cell_part {μ : Nat → Nat} {m : Mem} {w : World} (hm : MR μ m w) {id : Nat} {blk : SV} {c : Nat} (hb : blockOf m id = some (blk, c)) {path : List Nat} {sub : SV} {o : Nat} (hp : blk.part path = some (sub, o))
    {j : Nat} {x : Value} (hx : (flat μ sub)[j]? = some x) : w.cell? ⟨μ id, o + j, none⟩ = some x := by
  obtain ⟨t, ex, hh, _⟩ := hm.blk id blk c hb
  obtain ⟨pre, post, e, l⟩ := part_flat μ path blk sub o hp
  simp only [World.cell?, hh]
  subst l
  have hj : j < (flat μ sub).length := by
    rcases Nat.lt_or_ge j (flat μ sub).length with h | h
    · exact h
    · rw [List.getElem?_eq_none h] at hx; cases hx
  simp only [Option.isSome_none, Bool.false_eq_true, if_false, List.getElem?_toArray, e]
  rw [List.append_assoc, List.append_assoc, List.getElem?_append_right (by omega), Nat.add_sub_cancel_left, List.getElem?_append_left hj]
  exact hx

theorem frozen_part {μ : Nat → Nat} {m : Mem} {w : World} (hm : MR μ m w) {id : Nat} {blk : SV} {c : Nat} (hb : blockOf m id = some (blk, c)) (o : Nat) : w.frozen? ⟨μ id, o, none⟩ = false := by
  obtain ⟨t, ex, hh, _⟩ := hm.blk id blk c hb
  simp [World.frozen?, hh]

theorem flat_ints_get (μ : Nat → Nat) (k : IntKind) (n : Nat) (v : Nat → Int) (j : Nat) (h : j < n) : (flat μ (.ints k n v))[j]? = some (.int k (v j)) := by
  simp [flat, h]

theorem agg_scalar {T : Tab} (hT : TabOK P T) {t : Nat} (h : (T.ti t).agg = none) (hn : T.ti t ≠ .other) : ∃ d, P.underlying t = some d ∧ d.isRow = false ∧ (P.info? t).map (·.size) = some 1 := by
  have := hT.ok t
  cases hti : T.ti t <;> simp_all [TIok, TI.agg]
  case slice es => obtain ⟨e, h1, h2, h3⟩ := this; exact ⟨_, h1, rfl, h3⟩

theorem agg_row {T : Tab} (hT : TabOK P T) {t n : Nat} (h : (T.ti t).agg = some n) : ∃ d, P.underlying t = some d ∧ d.isRow = true ∧ (P.info? t).map (·.size) = some n := by
  have := hT.ok t
  cases hti : T.ti t <;> simp_all [TIok, TI.agg]
  case arr len es ea => obtain ⟨e, h1, h2, _⟩ := this; exact ⟨_, h1, rfl, h2⟩
  case struct offs k => obtain ⟨fs, h1, h2, _⟩ := this; exact ⟨_, h1, rfl, h2⟩

theorem run_isAgg_of {t : Nat} {d : TypeDesc} (h : P.underlying t = some d) (w : World) : (isAgg t).run P w = .ok d.isRow w := by
  unfold isAgg
  rw [Sem.run_bind, run_underlying h w]
  cases d <;> simp

theorem run_loadAt_cell {w : World} {t : Nat} {d : TypeDesc} (h : P.underlying t = some d) (hd : d.isRow = false) {ad : Addr} {x : Value} (hx : w.cell? ad = some x) :
    (Instr.loadAt t (.pointer (some ad))).run P w = .ok x w := by
  have h1 := run_isAgg_of (P := P) h w
  rw [hd] at h1
  simp [Instr.loadAt, Instr.sureAddr, loadVar, Sem.run_bind, h1, run_load, hx]

theorem toVal_leaf {μ : Nat → Nat} {x : SV} (h : x.leaf = true) : flat μ x = [scal μ x] ∧ toVal μ x = scal μ x := by
  cases x <;> simp_all [SV.leaf, flat, toVal]

/-- what 'getAt' says is what a load of that place gives -/
theorem getAt_sound {T : Tab} (hT : TabOK P T) {μ : Nat → Nat} {m : Mem} {w : World} (hm : MR μ m w) {id : Nat} {blk : SV} {c : Nat} (hb : blockOf m id = some (blk, c)) {path : List Nat} {sub : SV} {o : Nat} (hp : blk.part path = some (sub, o))
    {t off : Nat} {K : SV → Prop} (hn : T.ti t ≠ .other) (h : getAt (T.ti t).agg sub off K) :
    ∃ v, K v ∧ (∀ i ∈ v.ids, i ∈ sub.ids) ∧ (Instr.loadAt t (.pointer (some ⟨μ id, o + off, none⟩))).run P w = .ok (toVal μ v) w := by
  have hcell := fun j x => cell_part (j := j) (x := x) hm hb hp
  cases hag : (T.ti t).agg with
  | none =>
    rw [hag] at h
    obtain ⟨d, hd1, hd2, _⟩ := agg_scalar hT hag hn
    have leafCase : ∀ x : SV, sub = x → chk (Nat.beq off 0 && x.leaf) (K x) → ∃ v, K v ∧ (∀ i ∈ v.ids, i ∈ sub.ids) ∧ (Instr.loadAt t (.pointer (some ⟨μ id, o + off, none⟩))).run P w = .ok (toVal μ v) w := by
      rintro x rfl hck
      obtain ⟨hb', hk⟩ := chk_iff.1 hck
      simp only [Bool.and_eq_true] at hb'
      obtain ⟨h0, hl⟩ := hb'
      obtain rfl := beqN h0
      refine ⟨_, hk, fun _ h => h, ?_⟩
      obtain ⟨f1, f2⟩ := toVal_leaf (μ := μ) hl
      rw [f2]
      exact run_loadAt_cell hd1 hd2 (hcell 0 _ (by rw [f1]; rfl))
    cases sub with
    | ints k n v =>
      obtain ⟨hlt, hk⟩ := h
      refine ⟨_, hk, by simp [SV.ids], ?_⟩
      exact run_loadAt_cell hd1 hd2 (hcell off _ (flat_ints_get μ k n v off hlt))
    | vec n g =>
      obtain ⟨hlt, hlf, hk⟩ := h
      refine ⟨_, hk, fun i hi => vec_ids.2 ⟨off, hlt, by rw [← leaf_ids hlf]; exact hi⟩, ?_⟩
      rw [(toVal_leaf (μ := μ) hlf).2]
      exact run_loadAt_cell hd1 hd2 (hcell off _ (flat_vec_get μ n g off hlt))
    | _ => exact leafCase _ rfl h
  | some n =>
    rw [hag] at h
    obtain ⟨d, hd1, hd2, hd3⟩ := agg_row hT hag
    cases sub with
    | ints k n' v =>
      obtain ⟨hlt, hk⟩ := h
      refine ⟨_, hk, by simp [SV.ids], ?_⟩
      have := run_loadAt_mid (P := P) w (μ id) (o + off) t (flat μ (.ints k n fun j => v (j + off))) d (fun j x hx => by
        have hj : j < n := by
          rcases Nat.lt_or_ge j n with h' | h'
          · exact h'
          · rw [List.getElem?_eq_none (by simpa [flat] using h')] at hx; cases hx
        rw [flat_ints_get μ _ _ _ _ hj] at hx
        cases hx
        rw [Nat.add_assoc]
        refine hcell (off + j) _ ?_
        rw [flat_ints_get μ k n' v (off + j) (by omega), Nat.add_comm off j]) hd1 hd2 (by rw [hd3]; simp [flat])
      exact this
    | pair a b =>
      obtain ⟨hb', hk⟩ := chk_iff.1 h
      simp only [Bool.and_eq_true] at hb'
      obtain ⟨h0, h1⟩ := hb'
      obtain rfl := beqN h0
      have hsz := beqN h1
      refine ⟨_, hk, fun _ h => h, ?_⟩
      have := run_loadAt_mid (P := P) w (μ id) (o + 0) t (flat μ (.pair a b)) d (fun j x hx => by
        rw [Nat.add_zero]; exact hcell j x hx) hd1 hd2 (by rw [hd3, flat_length, hsz])
      exact this
    | _ => exact h.elim
theorem field_ids : ∀ (v : SV) (k : Nat) (c : SV) (o : Nat), v.fieldOf k = some (c, o) → ∀ i ∈ c.ids, i ∈ v.ids := by
  intro v
  induction v with
  | pair a b iha ihb =>
    intro k c o h i hi
    cases k with
    | zero => cases h; simp [SV.ids, hi]
    | succ k =>
      simp only [SV.fieldOf] at h
      split at h
      · rename_i c' o' hb
        cases h
        simp [SV.ids, ihb k _ _ hb i hi]
      · cases h
  | _ => intro k c o h; cases k <;> simp [SV.fieldOf] at h
theorem part_ids : ∀ (path : List Nat) (v c : SV) (o : Nat), v.part path = some (c, o) → ∀ i ∈ c.ids, i ∈ v.ids
  | [], v, c, o, h, i, hi => by cases h; exact hi
  | k :: r, v, c, o, h, i, hi => by
    simp only [SV.part] at h
    split at h
    · rename_i c1 o1 h1
      split at h
      · rename_i d o2 h2
        cases h
        exact field_ids v k _ _ h1 i (part_ids r _ _ _ h2 i hi)
      · cases h
    · cases h

theorem tupleAt_sound (μ : Nat → Nat) : ∀ (v : SV) (i : Nat) (x : SV), tupleAt v i = some x → (∃ vs, toVal μ v = .tuple vs ∧ vs[i]? = some (toVal μ x)) ∧ ∀ k ∈ x.ids, k ∈ v.ids := by
  have key : ∀ (v : SV) (i : Nat) (x : SV), tupleAt v i = some x → (toVal.tupVals μ v)[i]? = some (toVal μ x) ∧ ∀ k ∈ x.ids, k ∈ v.ids := by
    intro v
    induction v with
    | tcons a b iha ihb =>
      intro i x h
      cases i with
      | zero =>
        simp only [tupleAt] at h
        split at h
        · cases h
        rename_i hnt
        cases h
        refine ⟨?_, fun k hk => by simp [SV.ids, hk]⟩
        simp only [toVal.tupVals, List.getElem?_cons_zero]
        cases a <;> first | rfl | cases hnt
      | succ i =>
        have := ihb i x h
        exact ⟨by simpa [toVal.tupVals] using this.1, fun k hk => by simp [SV.ids, this.2 k hk]⟩
    | _ => intro i x h; cases i <;> simp [tupleAt] at h
  intro v i x h
  have := key v i x h
  refine ⟨?_, this.2⟩
  cases v with
  | tcons a b => exact ⟨_, rfl, by simpa using this.1⟩
  | _ => cases i <;> simp [tupleAt] at h

theorem run_and (k : IntKind) (x y : Int) (t : TypeId) (w : World) : (Go.binOp .and t (.int k x) (.int k y)).run P w = .ok (.int k (k.wrap ((BitVec.ofInt k.bits x &&& BitVec.ofInt k.bits y).toNat : Nat))) w := by
  have : Go.binOp .and t (.int k x) (.int k y) = Op.intBits .and k x y := by simp [Go.binOp]
  rw [this]
  unfold Op.intBits
  rfl
theorem run_shr (k : IntKind) (x y : Int) (h : 0 ≤ y) (t : TypeId) (w : World) : (Go.binOp .shr t (.int k x) (.int k y)).run P w = .ok (.int k (x.fdiv (2 ^ (min y.toNat k.bits)))) w := by
  have : Go.binOp .shr t (.int k x) (.int k y) = Op.shift .shr k x k y := by simp [Go.binOp]
  rw [this]
  unfold Op.shift
  rw [if_neg (by omega)]
  rfl
theorem arith_sound {op : BinOp} {k : IntKind} {x y : Int} {K : SV → Prop} (h : arith op k x y K) (t : TypeId) (w : World) :
    ∃ v, K v ∧ v.ids = [] ∧ (Go.binOp op t (.int k x) (.int k y)).run P w = .ok (scal (fun _ => 0) v) w ∧ v.leaf = true := by
  unfold arith at h
  split at h <;> (try exact h.elim) <;>
    first
      | exact ⟨_, h, rfl, run_and k x y t w, rfl⟩
      | (obtain ⟨h0, h⟩ := h; exact ⟨_, h, rfl, run_shr k x y h0 t w, rfl⟩)
      | exact ⟨_, h, rfl, by simp [Go.binOp, Op.intArith, Op.intCmp, scal], rfl⟩
      | (obtain ⟨h0, h⟩ := h; exact ⟨_, h, rfl, by simp [Go.binOp, Op.intDiv, h0, scal], rfl⟩)
theorem neZero_size {fs : Array Field} {o f : Nat} (h : (fs.toList.map (·.offset))[f]? = some o) : ∃ fd, fs[f]? = some fd ∧ fd.offset = o ∧ fd ∈ fs.toList := by
  rw [List.getElem?_map] at h
  cases hf : fs.toList[f]? with
  | none => simp [hf] at h
  | some fd =>
    simp [hf] at h
    exact ⟨fd, by simpa using hf, h, List.mem_of_getElem? hf⟩

theorem addr_add (b o k : Nat) : (⟨b, o, none⟩ : Addr).add k = ⟨b, o + k, none⟩ := Addr.add_mid b o k

theorem run_sizeOf_of {t n : Nat} (h : (P.info? t).map (·.size) = some n) (w : World) : (sizeOf t).run P w = .ok n w := by
  cases hq : P.info? t with
  | none => simp [hq] at h
  | some i => simp [hq] at h; simp [sizeOf, typeInfo, hq, h]

theorem fieldAt_sound {T : Tab} (hT : TabOK P T) {t f o n : Nat} {offs : List Nat} (hti : T.ti t = .struct offs n) (ho : offs[f]? = some o) (b base : Nat) (w : World) :
    (Instr.fieldAt t (.pointer (some ⟨b, base, none⟩)) f).run P w = .ok (.pointer (some ⟨b, base + o, none⟩)) w := by
  have := hT.ok t
  rw [hti] at this
  obtain ⟨fs, h1, h2, h3, h4⟩ := this
  rw [← h3] at ho
  obtain ⟨fd, e1, e2, e3⟩ := neZero_size ho
  obtain ⟨k, hk⟩ := h4 fd e3
  have hs := run_sizeOf_of (P := P) hk w
  simp [Instr.fieldAt, Instr.sureAddr, Sem.run_bind, run_underlying h1 w, e1, fieldPlace, hs, addr_add, e2]

theorem indexAt_arr {T : Tab} (hT : TabOK P T) {t len es : Nat} {ea : Bool} (hti : T.ti t = .arr len es ea) {i : Int} {k : IntKind} (h0 : 0 ≤ i) (h1 : i < len) (b o : Nat) (w : World) :
    (Instr.indexAt t (.pointer (some ⟨b, o, none⟩)) (.int k i)).run P w = .ok (.pointer (some ⟨b, o + i.toNat * es, none⟩)) w := by
  have := hT.ok t
  rw [hti] at this
  obtain ⟨e, d, g1, g2, g3, g4, g5, g6⟩ := this
  have hs := run_sizeOf_of (P := P) g3 w
  simp [Instr.indexAt, Instr.sureAddr, asIntOf, Sem.run_bind, run_underlying g1 w, h0, h1, hs, addr_add]

theorem indexAt_slice {T : Tab} (hT : TabOK P T) {t es : Nat} (hti : T.ti t = .slice es) {i : Int} {k : IntKind} {len cap : Nat} (h0 : 0 ≤ i) (h1 : i < len) (b o : Nat) (w : World) :
    (Instr.indexAt t (.slice (some ⟨b, o, none⟩) len cap) (.int k i)).run P w = .ok (.pointer (some ⟨b, o + i.toNat * es, none⟩)) w := by
  have := hT.ok t
  rw [hti] at this
  obtain ⟨e, g1, g3, _⟩ := this
  have hs := run_sizeOf_of (P := P) g3 w
  simp [Instr.indexAt, Instr.sureAddr, asIntOf, Sem.run_bind, run_underlying g1 w, h0, h1, hs, addr_add]
end Go.Proofs.Ytojfjcbblkiajaa
