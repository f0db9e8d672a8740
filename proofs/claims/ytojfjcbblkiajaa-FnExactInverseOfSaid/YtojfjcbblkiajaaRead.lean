/- The operations that only read: the model's run of each is what the logic's condition says. -/
import Derived.Test.YtojfjcbblkiajaaSound
set_option linter.unusedVariables false
set_option linter.unusedSimpArgs false
namespace Go.Proofs.Ytojfjcbblkiajaa
variable {P : Program}

/-- one comparison, as the operation runs it -/
def cmpRun (P : Program) (op : BinOp) (t : Nat) (X Y : Operand) (a b : Value) (w : World) : Result Value := (do eqGuard op t X Y a b; Go.binOp op t a b : Sem Value).run P w

/-- values of a type are compared as their parts are -/
structure EqOK (P : Program) (T : Tab) (t : Nat) : Prop where
  bools : ∀ X Y a b w, T.ti t = .scalar → cmpRun P .eql t X Y (.bool a) (.bool b) w = .ok (.bool (a == b)) w ∧ cmpRun P .neq t X Y (.bool a) (.bool b) w = .ok (.bool (!(a == b))) w
  rows : ∀ X Y μ k n v u w, (T.ti t).agg = some n → cmpRun P .eql t X Y (toVal μ (.ints k n v)) (toVal μ (.ints k n u)) w = .ok (.bool (allEq n v u)) w ∧
    cmpRun P .neq t X Y (toVal μ (.ints k n v)) (toVal μ (.ints k n u)) w = .ok (.bool (!allEq n v u)) w
  nils : ∀ X Y a b c w es, T.ti t = .slice es → cmpRun P .eql t X Y (.slice (some a) b c) (.slice none 0 0) w = .ok (.bool false) w ∧ cmpRun P .neq t X Y (.slice (some a) b c) (.slice none 0 0) w = .ok (.bool true) w ∧
    cmpRun P .eql t X Y (.slice none 0 0) (.slice none 0 0) w = .ok (.bool true) w ∧ cmpRun P .neq t X Y (.slice none 0 0) (.slice none 0 0) w = .ok (.bool false) w

/-- structs of a type are compared as their fields are -/
def PairOK (P : Program) (t : Nat) (fs : List FK) : Prop :=
  ∀ X Y μ a b c d w, fitsF fs (.pair a b) = true → fitsF fs (.pair c d) = true → cmpRun P .eql t X Y (toVal μ (.pair a b)) (toVal μ (.pair c d)) w = .ok (.bool (eqP (.pair a b) (.pair c d))) w ∧
    cmpRun P .neq t X Y (toVal μ (.pair a b)) (toVal μ (.pair c d)) w = .ok (.bool (!eqP (.pair a b) (.pair c d))) w

structure TabEq (P : Program) (T : Tab) : Prop where
  eqs : ∀ t, T.eqs t = true → EqOK P T t
  flds : ∀ t fs, T.flds t = some fs → PairOK P t fs

theorem TabEq.dir {T : Tab} (h : TabEq P T) (d : Nat → Bool) : TabEq P { T with direct := d } := ⟨fun t ht => ⟨(h.eqs t ht).bools, (h.eqs t ht).rows, (h.eqs t ht).nils⟩, h.flds⟩
theorem TabEq.owns {T : Tab} (h : TabEq P T) (k : Nat) : TabEq P { T with own := k } := ⟨fun t ht => ⟨(h.eqs t ht).bools, (h.eqs t ht).rows, (h.eqs t ht).nils⟩, h.flds⟩

theorem eqVC_sound {T : Tab} (hE : TabEq P T) {t : Nat} {x y : SV} {K : Bool → Prop} (h : eqVC T t x y K) (μ : Nat → Nat) (w : World) (X Y : Operand) :
    ∃ b, K b ∧ cmpRun P .eql t X Y (toVal μ x) (toVal μ y) w = .ok (.bool b) w ∧ cmpRun P .neq t X Y (toVal μ x) (toVal μ y) w = .ok (.bool (!b)) w := by
  unfold eqVC at h
  split at h
  · split at h
    · rename_i h1
      replace h := chk_iff.1 h; obtain ⟨h2, h⟩ := h
      exact ⟨_, h, ((hE.eqs t h2).bools X Y _ _ w h1).1, ((hE.eqs t h2).bools X Y _ _ w h1).2⟩
    · exact h.elim
  · split at h
    · rename_i n' hn'
      replace h := chk_iff.1 h; obtain ⟨hb, h⟩ := h
      simp only [Bool.and_eq_true] at hb
      obtain ⟨⟨⟨h1, h2⟩, h3⟩, h4⟩ := hb
      obtain rfl := ikEq_eq h1
      obtain rfl := beqN h2
      obtain rfl := beqN h3
      exact ⟨_, h, ((hE.eqs t h4).rows X Y μ _ _ _ _ w hn').1, ((hE.eqs t h4).rows X Y μ _ _ _ _ w hn').2⟩
    · exact h.elim
  · split at h
    · rename_i es h1
      replace h := chk_iff.1 h; obtain ⟨h2, h⟩ := h
      exact ⟨_, h, ((hE.eqs t h2).nils X Y _ _ _ w es h1).1, ((hE.eqs t h2).nils X Y _ _ _ w es h1).2.1⟩
    · exact h.elim
  · split at h
    · rename_i es h1
      replace h := chk_iff.1 h; obtain ⟨h2, h⟩ := h
      have := (hE.eqs t h2).nils X Y ⟨0, 0, none⟩ 0 0 w es h1
      exact ⟨_, h, this.2.2.1, this.2.2.2⟩
    · exact h.elim
  · split at h
    · rename_i fs h1
      replace h := chk_iff.1 h; obtain ⟨hb, h⟩ := h
      simp only [Bool.and_eq_true] at hb
      have := hE.flds t fs h1 X Y μ _ _ _ _ w hb.1 hb.2
      exact ⟨_, h, this.1, this.2⟩
    · exact h.elim
  · exact h.elim

theorem cmpRun_int (op : BinOp) (t : Nat) (X Y : Operand) (k : IntKind) (a b : Int) (w : World) : cmpRun P op t X Y (.int k a) (.int k b) w = (Go.binOp op t (.int k a) (.int k b)).run P w := by
  unfold cmpRun eqGuard
  cases op <;> simp [Sem.run_bind]

theorem binVC_sound {T : Tab} (hE : TabEq P T) {op : BinOp} {t : Nat} {x y : SV} {K : SV → Prop} (h : binVC T op t x y K) (μ : Nat → Nat) (w : World) (X Y : Operand) :
    ∃ v, K v ∧ v.ids = [] ∧ cmpRun P op t X Y (toVal μ x) (toVal μ y) w = .ok (toVal μ v) w := by
  have other : eqnVC T op t x y K → ∃ v, K v ∧ v.ids = [] ∧ cmpRun P op t X Y (toVal μ x) (toVal μ y) w = .ok (toVal μ v) w := by
    intro h
    unfold eqnVC at h
    split at h
    · obtain ⟨b, hk, h1, h2⟩ := eqVC_sound hE h μ w X Y
      exact ⟨_, hk, rfl, h1⟩
    · obtain ⟨b, hk, h1, h2⟩ := eqVC_sound hE h μ w X Y
      exact ⟨_, hk, rfl, h2⟩
    · exact h.elim
  unfold binVC at h
  split at h
  · replace h := chk_iff.1 h; obtain ⟨hb, h⟩ := h
    obtain rfl := ikEq_eq hb
    obtain ⟨v, hk, hi, hr, hl⟩ := arith_sound (P := P) h t w
    refine ⟨v, hk, hi, ?_⟩
    have e : toVal μ v = scal (fun _ => 0) v := by
      rw [toVal_ids (μ' := fun _ => 0) v (by rw [hi]; intro id h; cases h), (toVal_leaf hl).2]
    rw [e, ← hr]
    exact cmpRun_int op t X Y _ _ _ w
  · exact other h

theorem extract_ints (μ : Nat → Nat) (k : IntKind) (n o m : Nat) (v : Nat → Int) (h : o + m ≤ n) : (flat μ (.ints k n v)).toArray.extract o (o + m) = (flat μ (.ints k m fun j => v (j + o))).toArray := by
  apply Array.ext'
  simp only [Array.toList_extract, List.extract_eq_take_drop, Nat.add_sub_cancel_left]
  apply List.ext_getElem?
  intro j
  by_cases hj : j < m
  · rw [List.getElem?_take_of_lt hj, List.getElem?_drop, flat_ints_get μ k n v (o + j) (by omega), flat_ints_get μ k m _ j hj, Nat.add_comm o j]
  · rw [List.getElem?_eq_none (by simp [flat]; omega), List.getElem?_eq_none (by simp [flat]; omega)]

theorem index_sound {T : Tab} (hT : TabOK P T) {t len es : Nat} {ea : Bool} (hti : T.ti t = .arr len es ea) {i : Int} {k kk : IntKind} {v : Nat → Int} (h0 : 0 ≤ i) (h1 : i < len) (μ : Nat → Nat) (w : World) :
    (ea = true → (Instr.index t (toVal μ (.ints k (len * es) v)) (.int kk i)).run P w = .ok (toVal μ (.ints k es fun j => v (j + i.toNat * es))) w) ∧
    (ea = false → es = 1 → (Instr.index t (toVal μ (.ints k (len * es) v)) (.int kk i)).run P w = .ok (.int k (v i.toNat)) w) := by
  have := hT.ok t
  rw [hti] at this
  obtain ⟨e, d, g1, g2, g3, g4, g5, g6⟩ := this
  have hs := run_sizeOf_of (P := P) g3 w
  have ha := run_isAgg_of (P := P) g4 w
  rw [g5] at ha
  have hi : i.toNat < len := by omega
  have hle : i.toNat * es + es ≤ len * es := by
    rw [← Nat.succ_mul]; exact Nat.mul_le_mul_right _ hi
  constructor
  · rintro rfl
    have hx := congrArg Array.toList (extract_ints μ k (len * es) (i.toNat * es) es v hle)
    simp only [Array.toList_extract, List.extract_eq_take_drop, Nat.add_sub_cancel_left] at hx
    simp [Instr.index, asIntOf, toVal, Sem.run_bind, run_underlying g1 w, h0, h1, hs, part, ha]
    exact hx
  · rintro rfl rfl
    have hg : (flat μ (.ints k (len * 1) v)).toArray[i.toNat]? = some (.int k (v i.toNat)) := by
      rw [List.getElem?_toArray]
      exact flat_ints_get μ k (len * 1) v i.toNat (by omega)
    simp [Instr.index, asIntOf, toVal, Sem.run_bind, run_underlying g1 w, h0, h1, hs, part, ha]
    simp at hg
    rw [hg]
    rfl

theorem arrZ_at (es : Nat) : ∀ (v : SV) (i : Nat) (x : SV) (o : Nat), arrZ es v = true → v.fieldOf i = some (x, o) → o = i * es ∧ x.size = es := by
  intro v
  induction v with
  | pair a b iha ihb =>
    intro i x o h hf
    simp only [arrZ, Bool.and_eq_true] at h
    have hs := beqN h.1
    cases i with
    | zero => cases hf; exact ⟨by simp, hs⟩
    | succ i =>
      simp only [SV.fieldOf] at hf
      split at hf
      · rename_i c o' hc
        cases hf
        obtain ⟨h1, h2⟩ := ihb i _ _ h.2 hc
        exact ⟨by rw [hs, h1, Nat.succ_mul, Nat.add_comm], h2⟩
      · cases hf
  | _ => intro i x o h hf; cases i <;> simp [SV.fieldOf] at hf

theorem index_pair {T : Tab} (hT : TabOK P T) {t len es : Nat} (hti : T.ti t = .arr len es true) {i : Int} {kk : IntKind} {v c : SV} {o : Nat} (h0 : 0 ≤ i) (h1 : i < len) (hz : arrZ es v = true) (hf : v.fieldOf i.toNat = some (c, o)) (μ : Nat → Nat) (w : World) :
    (Instr.index t (.agg (flat μ v).toArray) (.int kk i)).run P w = .ok (.agg (flat μ c).toArray) w := by
  have := hT.ok t
  rw [hti] at this
  obtain ⟨e, d, g1, g2, g3, g4, g5, g6⟩ := this
  have hs := run_sizeOf_of (P := P) g3 w
  have ha := run_isAgg_of (P := P) g4 w
  rw [g5] at ha
  obtain ⟨ho, hsz⟩ := arrZ_at es v _ c o hz hf
  obtain ⟨pre, post, e1, l1⟩ := field_flat μ v _ c o hf
  have hl : (flat μ c).length = es := by rw [flat_length, hsz]
  have hx : ((flat μ v).toArray.extract (i.toNat * es) (i.toNat * es + es)) = (flat μ c).toArray := by
    apply Array.ext'
    simp only [Array.toList_extract, List.extract_eq_take_drop, Nat.add_sub_cancel_left]
    rw [e1, List.append_assoc, ← ho, ← l1, List.drop_left, ← hl, List.take_left]
  have hx' := congrArg Array.toList hx
  simp only [Array.toList_extract, List.extract_eq_take_drop, Nat.add_sub_cancel_left] at hx'
  simp [Instr.index, asIntOf, Sem.run_bind, run_underlying g1 w, h0, h1, hs, part, ha]
  exact hx'

/-! ### fields of structs -/
theorem RowT.row {t : TypeId} {k : IntKind} {n d : Nat} (h : RowT P t k n d) : ∃ x, P.underlying t = some x ∧ x.isRow = true := by
  cases h with
  | one h => exact ⟨_, h, rfl⟩
  | more h => exact ⟨_, h, rfl⟩

theorem part_int {t : TypeId} {k : IntKind} (h : P.underlying t = some (.int k)) (p r : List Value) (x : Value) (o : Nat) (hp : p.length = o) (w : World) : (part t (p ++ x :: r).toArray o).run P w = .ok x w := by
  have ha := run_isAgg_of (P := P) h w
  have hg : (p ++ x :: r).toArray[o]? = some x := by
    rw [List.getElem?_toArray, List.getElem?_append_right (by omega)]
    simp [hp]
  simp only [part, Sem.run_bind, ha, Result.andThen_ok, Bool.false_eq_true, if_false]
  rw [hg]
  rfl

theorem part_row {t : TypeId} {k : IntKind} {n d : Nat} (h : RowT P t k n d) (hs : (P.info? t).map (·.size) = some n) (p c r : List Value) (o : Nat) (hp : p.length = o) (hc : c.length = n) (w : World) : (part t (p ++ (c ++ r)).toArray o).run P w = .ok (.agg c.toArray) w := by
  obtain ⟨x, hx, hrow⟩ := h.row
  have ha := run_isAgg_of (P := P) hx w
  rw [hrow] at ha
  have hsz := run_sizeOf_of (P := P) hs w
  have he : (p ++ (c ++ r)).toArray.extract o (o + n) = c.toArray := by
    apply Array.ext'
    simp only [Array.toList_extract, List.extract_eq_take_drop, Nat.add_sub_cancel_left]
    rw [← hp, List.drop_left, ← hc, List.take_left]
  simp only [part, Sem.run_bind, ha, Result.andThen_ok, if_true, hsz, he]
  rfl

theorem fits_int {k : IntKind} {r : List FK} {v : SV} (h : fitsF (.int k :: r) v = true) : ∃ x b, v = .pair (.int k x) b ∧ fitsF r b = true := by
  cases v with
  | pair a b =>
    cases a with
    | int k' x =>
      simp only [fitsF, Bool.and_eq_true] at h
      obtain rfl := ikEq_eq h.1
      exact ⟨x, b, rfl, h.2⟩
    | _ => simp [fitsF] at h
  | _ => simp [fitsF] at h
theorem fits_row {k : IntKind} {n : Nat} {r : List FK} {v : SV} (h : fitsF (.row k n :: r) v = true) : ∃ x b, v = .pair (.ints k n x) b ∧ fitsF r b = true := by
  cases v with
  | pair a b =>
    cases a with
    | ints k' n' x =>
      simp only [fitsF, Bool.and_eq_true] at h
      obtain rfl := ikEq_eq h.1.1
      obtain rfl := beqN h.1.2
      exact ⟨x, b, rfl, h.2⟩
    | _ => simp [fitsF] at h
  | _ => simp [fitsF] at h
theorem fitsB_int {k : IntKind} {r : List FK} {v : SV} (h : fitsB (.int k :: r) v = true) : ∃ x b, v = .pair (.int k x) b ∧ fitsB r b = true := by
  cases v with
  | pair a b =>
    cases a with
    | int k' x =>
      simp only [fitsB, Bool.and_eq_true] at h
      obtain rfl := ikEq_eq h.1
      exact ⟨x, b, rfl, h.2⟩
    | _ => simp [fitsB] at h
  | _ => simp [fitsB] at h
theorem fitsB_row {k : IntKind} {n : Nat} {r : List FK} {v : SV} (h : fitsB (.row k n :: r) v = true) : ∃ x b, v = .pair (.ints k n x) b ∧ fitsB r b = true := by
  cases v with
  | pair a b =>
    cases a with
    | ints k' n' x =>
      simp only [fitsB, Bool.and_eq_true] at h
      obtain rfl := ikEq_eq h.1.1
      obtain rfl := beqN h.1.2
      exact ⟨x, b, rfl, h.2⟩
    | _ => simp [fitsB] at h
  | _ => simp [fitsB] at h
theorem fitsB_slice {r : List FK} {v : SV} (h : fitsB (.slice :: r) v = true) : ∃ b, v = .pair .nilsl b ∧ fitsB r b = true := by
  cases v with
  | pair a b =>
    cases a with
    | nilsl => exact ⟨b, rfl, by simpa [fitsB] using h⟩
    | _ => simp [fitsB] at h
  | _ => simp [fitsB] at h
theorem fitsB_scal {r : List FK} {v : SV} (h : fitsB (.scal :: r) v = true) : ∃ x b, v = .pair x b ∧ x.plain = true ∧ fitsB r b = true := by
  cases v with
  | pair a b =>
    simp only [fitsB, Bool.and_eq_true] at h
    exact ⟨a, b, rfl, h.1, h.2⟩
  | _ => simp [fitsB] at h
theorem plain_ids {x : SV} (h : x.plain = true) : x.ids = [] ∧ x.size = 1 := by
  cases x <;> simp_all [SV.plain, SV.ids, SV.size]
theorem fits_scal {r : List FK} {v : SV} (h : fitsF (.scal :: r) v = true) : False := by
  cases v with
  | pair a b => cases a <;> simp [fitsF] at h
  | _ => simp [fitsF] at h
theorem fitsB_nil {v : SV} (h : fitsB [] v = true) : v = .unit := by
  cases v <;> simp_all [fitsB]
theorem fits_slice {r : List FK} {v : SV} (h : fitsF (.slice :: r) v = true) : False := by
  cases v with
  | pair a b => cases a <;> simp [fitsF] at h
  | _ => simp [fitsF] at h
theorem fits_nil {v : SV} (h : fitsF [] v = true) : v = .unit := by
  cases v <;> simp_all [fitsF]


theorem places_of {o : Nat} {fs : List Field} {ks : List FK} (h : FldsT P o fs ks) : ∃ places : List (Nat × Nat), fs.mapM (fun f => (P.info? f.type).map fun i => (f.offset, i.size)) = some places ∧
    ∀ v, fitsB ks v = true → ∀ i x o', v.fieldOf i = some (x, o') → places[i]? = some (o + o', x.size) := by
  induction h with
  | nil =>
    refine ⟨[], rfl, fun v hv i x o' hf => ?_⟩
    obtain rfl := fitsB_nil hv
    simp [SV.fieldOf] at hf
  | @int o f fs ks k hn ho hu hs r ih =>
    obtain ⟨places, h1, h2⟩ := ih
    obtain ⟨i0, hi0, hsz⟩ : ∃ i, P.info? f.type = some i ∧ i.size = 1 := by
      cases hq : P.info? f.type with
      | none => rw [hq] at hs; cases hs
      | some i => rw [hq] at hs; exact ⟨i, rfl, Option.some.inj hs⟩
    refine ⟨(o, 1) :: places, by simp [List.mapM_cons, hi0, hsz, ho, h1], fun v hv i x o' hf => ?_⟩
    obtain ⟨y, b, rfl, hb⟩ := fitsB_int hv
    cases i with
    | zero => cases hf; rfl
    | succ i =>
      simp only [SV.fieldOf] at hf
      split at hf
      · rename_i c o2 hc
        cases hf
        have := h2 b hb i _ _ hc
        simp only [List.getElem?_cons_succ, this]
        show some (o + 1 + o2, _) = some (o + (1 + o2), _)
        rw [Nat.add_assoc]
      · cases hf
  | @row o n d f fs ks k hn ho hr hd hs r ih =>
    obtain ⟨places, h1, h2⟩ := ih
    obtain ⟨i0, hi0, hsz⟩ : ∃ i, P.info? f.type = some i ∧ i.size = n := by
      cases hq : P.info? f.type with
      | none => rw [hq] at hs; cases hs
      | some i => rw [hq] at hs; exact ⟨i, rfl, Option.some.inj hs⟩
    refine ⟨(o, n) :: places, by simp [List.mapM_cons, hi0, hsz, ho, h1], fun v hv i x o' hf => ?_⟩
    obtain ⟨y, b, rfl, hb⟩ := fitsB_row hv
    cases i with
    | zero => cases hf; rfl
    | succ i =>
      simp only [SV.fieldOf] at hf
      split at hf
      · rename_i c o2 hc
        cases hf
        have := h2 b hb i _ _ hc
        simp only [List.getElem?_cons_succ, this]
        show some (o + n + o2, _) = some (o + (n + o2), _)
        rw [Nat.add_assoc]
      · cases hf
  | @slice o e f fs ks hn ho hu hs r ih =>
    obtain ⟨places, h1, h2⟩ := ih
    obtain ⟨i0, hi0, hsz⟩ : ∃ i, P.info? f.type = some i ∧ i.size = 1 := by
      cases hq : P.info? f.type with
      | none => rw [hq] at hs; cases hs
      | some i => rw [hq] at hs; exact ⟨i, rfl, Option.some.inj hs⟩
    refine ⟨(o, 1) :: places, by simp [List.mapM_cons, hi0, hsz, ho, h1], fun v hv i x o' hf => ?_⟩
    obtain ⟨b, rfl, hb⟩ := fitsB_slice hv
    cases i with
    | zero => cases hf; rfl
    | succ i =>
      simp only [SV.fieldOf] at hf
      split at hf
      · rename_i c o2 hc
        cases hf
        have := h2 b hb i _ _ hc
        simp only [List.getElem?_cons_succ, this]
        show some (o + 1 + o2, _) = some (o + (1 + o2), _)
        rw [Nat.add_assoc]
      · cases hf

  | @scal o d f fs ks hn ho hu hd hs r ih =>
    obtain ⟨places, h1, h2⟩ := ih
    obtain ⟨i0, hi0, hsz⟩ : ∃ i, P.info? f.type = some i ∧ i.size = 1 := by
      cases hq : P.info? f.type with
      | none => rw [hq] at hs; cases hs
      | some i => rw [hq] at hs; exact ⟨i, rfl, Option.some.inj hs⟩
    refine ⟨(o, 1) :: places, by simp [List.mapM_cons, hi0, hsz, ho, h1], fun v hv i x o' hf => ?_⟩
    obtain ⟨x0, b, rfl, hpl, hb⟩ := fitsB_scal hv
    cases i with
    | zero => cases hf; rw [(plain_ids hpl).2]; rfl
    | succ i =>
      simp only [SV.fieldOf] at hf
      split at hf
      · rename_i c o2 hc
        cases hf
        have := h2 b hb i _ _ hc
        simp only [List.getElem?_cons_succ, this]
        rw [(plain_ids hpl).2, Nat.add_assoc]
      · cases hf

theorem field_part {o : Nat} {fs : List Field} {ks : List FK} (h : FldsT P o fs ks) (μ : Nat → Nat) (w : World) : ∀ (v : SV) (i : Nat) (c : SV) (o' : Nat) (p : List Value), p.length = o → fitsF ks v = true → v.fieldOf i = some (c, o') →
    ∃ f, fs[i]? = some f ∧ (part f.type (p ++ flat μ v).toArray f.offset).run P w = .ok (toVal μ c) w := by
  induction h with
  | nil =>
    intro v i c o' p hp hv hf
    obtain rfl := fits_nil hv
    simp [SV.fieldOf] at hf
  | @int o f fs ks k hn ho hu hs r ih =>
    intro v i c o' p hp hv hf
    obtain ⟨y, b, rfl, hb⟩ := fits_int hv
    cases i with
    | zero =>
      cases hf
      exact ⟨f, rfl, by rw [ho]; exact part_int hu p (flat μ b) (.int k y) o hp w⟩
    | succ i =>
      simp only [SV.fieldOf] at hf
      split at hf
      · rename_i c1 o2 hc
        cases hf
        obtain ⟨g, h1, h2⟩ := ih b i _ _ (p ++ [.int k y]) (by simp [hp]) hb hc
        refine ⟨g, by simpa using h1, ?_⟩
        rw [List.append_assoc] at h2
        exact h2
      · cases hf
  | @row o n d f fs ks k hn ho hr hd hs r ih =>
    intro v i c o' p hp hv hf
    obtain ⟨y, b, rfl, hb⟩ := fits_row hv
    cases i with
    | zero =>
      cases hf
      exact ⟨f, rfl, by rw [ho]; exact part_row hr hs p (flat μ (.ints k n y)) (flat μ b) o hp (by simp [flat]) w⟩
    | succ i =>
      simp only [SV.fieldOf] at hf
      split at hf
      · rename_i c1 o2 hc
        cases hf
        obtain ⟨g, h1, h2⟩ := ih b i _ _ (p ++ flat μ (.ints k n y)) (by simp [hp, flat]) hb hc
        refine ⟨g, by simpa using h1, ?_⟩
        rw [List.append_assoc] at h2
        exact h2
      · cases hf
  | slice => intro v i c o' p hp hv hf; exact (fits_slice hv).elim
  | scal => intro v i c o' p hp hv hf; exact (fits_scal hv).elim
end Go.Proofs.Ytojfjcbblkiajaa
