/- The master law on operations that read, and on those that make a block. -/
import Derived.Test.YtojfjcbblkiajaaRead
import Derived.Laws.Cover3
set_option linter.unusedVariables false
set_option linter.unusedSimpArgs false
namespace Go.Proofs.Ytojfjcbblkiajaa
variable {P : Program}

theorem foldl_set (off : Nat) : ∀ (cs : List Value) (b : Nat) (cells : Array Value) (i : Nat), off + b + cs.length ≤ cells.size →
    ((cs.zipIdx b).foldl (fun (a : Array Value) (p : Value × Nat) => a.setIfInBounds (off + p.2) p.1) cells)[i]? = if off + b ≤ i ∧ i < off + b + cs.length then cs[i - (off + b)]? else cells[i]?
  | [], b, cells, i, _ => by
    have : ¬ (off + b ≤ i ∧ i < off + b + ([] : List Value).length) := by simp
    rw [if_neg this]
    rfl
  | c :: cs, b, cells, i, h => by
    simp only [List.zipIdx_cons, List.foldl_cons]
    have ih := foldl_set off cs (b + 1) (cells.setIfInBounds (off + b) c) i (by simp at h ⊢; omega)
    rw [ih]
    simp only [List.length_cons] at h ⊢
    by_cases h1 : off + b = i
    · subst h1
      have : ¬ (off + (b + 1) ≤ off + b ∧ off + b < off + (b + 1) + cs.length) := by omega
      simp only [this, if_false, Nat.sub_self]
      rw [if_pos (by omega)]
      rw [Array.getElem?_setIfInBounds_self_of_lt (by omega)]
      rfl
    · by_cases h2 : off + (b + 1) ≤ i ∧ i < off + (b + 1) + cs.length
      · rw [if_pos h2, if_pos (by omega), show i - (off + b) = (i - (off + (b + 1))) + 1 by omega, List.getElem?_cons_succ]
      · rw [if_neg h2, if_neg (by omega), Array.getElem?_setIfInBounds_ne h1]

theorem size_foldl_set (off : Nat) : ∀ (l : List (Value × Nat)) (cells : Array Value), (l.foldl (fun (a : Array Value) (p : Value × Nat) => a.setIfInBounds (off + p.2) p.1) cells).size = cells.size
  | [], _ => rfl
  | p :: l, cells => by simp only [List.foldl_cons]; rw [size_foldl_set off l]; simp

theorem cells_toVal (μ : Nat → Nat) (v : SV) (h : v.leaf = true ∨ (∃ k n f, v = .ints k n f) ∨ (∃ a b, v = .pair a b)) : (toVal μ v).cells = (flat μ v).toArray := by
  rcases h with h | ⟨k, n, f, rfl⟩ | ⟨a, b, rfl⟩
  · cases v <;> simp_all [SV.leaf, toVal, scal, flat, Value.cells]
  · rfl
  · rfl

theorem zipFold (off : Nat) (vs cells : Array Value) : vs.zipIdx.foldl (fun cs (c, j) => cs.setIfInBounds (off + j) c) cells = (vs.toList.zipIdx 0).foldl (fun (a : Array Value) (p : Value × Nat) => a.setIfInBounds (off + p.2) p.1) cells := by
  rw [← Array.foldl_toList]
  simp [Array.toList_zipIdx]

theorem fill_one (μ : Nat → Nat) (k : IntKind) (n off : Nat) (f : Nat → Int) (vs : List Value) (g : Nat → Int) (m : Nat) (hm : vs = (List.range m).map fun j => Value.int k (g j)) (h : off + m ≤ n) :
    vs.toArray.zipIdx.foldl (fun cs (c, j) => cs.setIfInBounds (off + j) c) (flat μ (.ints k n f)).toArray = (flat μ (.ints k n (updR f off m g))).toArray := by
  rw [zipFold]
  apply Array.ext_getElem?
  intro i
  have hl : vs.length = m := by simp [hm]
  rw [foldl_set off vs 0 _ i (by simp [flat, hl]; omega)]
  simp only [Nat.add_zero, hl]
  by_cases h1 : off ≤ i ∧ i < off + m
  · rw [if_pos h1, hm]
    rw [List.getElem?_toArray, flat_ints_get μ k n _ i (by omega)]
    rw [List.getElem?_map, List.getElem?_range (by omega)]
    simp [updR, h1]
  · rw [if_neg h1]
    by_cases h2 : i < n
    · rw [List.getElem?_toArray, List.getElem?_toArray, flat_ints_get μ k n _ i h2, flat_ints_get μ k n _ i h2]
      simp [updR, h1]
    · rw [Array.getElem?_eq_none (by simp [flat]; omega), Array.getElem?_eq_none (by simp [flat]; omega)]

theorem upd1_eq (f : Nat → Int) (off : Nat) (y : Int) : upd1 f off y = updR f off 1 (fun _ => y) := by
  funext j
  unfold upd1 updR
  by_cases h : j = off
  · subst h; simp
  · rw [if_neg h, if_neg (by omega)]

theorem fill_cons {place : Nat → Option (Nat × Nat)} {cells : Array Value} {i off size : Nat} {v : Value} {rest : List (Nat × Value)} (hp : place i = some (off, size)) (h1 : v.cells.size = size) (h2 : off + size ≤ cells.size) :
    Instr.fill place cells ((i, v) :: rest) = Instr.fill place (v.cells.zipIdx.foldl (fun cs (c, j) => cs.setIfInBounds (off + j) c) cells) rest := by
  rw [Instr.fill]
  simp only [hp]
  rw [if_neg]
  subst h1
  simp
  omega

theorem fillA_sound (μ : Nat → Nat) (k : IntKind) (n es : Nat) : ∀ (l : List (Nat × SV)) (f : Nat → Int) (K : (Nat → Int) → Prop), fillA k n es f l K →
    ∃ g, K g ∧ Instr.fill (fun i => some (i * es, es)) (flat μ (.ints k n f)).toArray (l.map fun p => (p.1, toVal μ p.2)) = some (flat μ (.ints k n g)).toArray
  | [], f, K, h => ⟨f, h, rfl⟩
  | (i, v) :: r, f, K, h => by
    cases v with
    | int k' y =>
      replace h := chk_iff.1 h; obtain ⟨hb, h⟩ := h
      simp only [Bool.and_eq_true] at hb
      obtain ⟨⟨g1, g2⟩, g3⟩ := hb
      obtain rfl := ikEq_eq g1
      obtain rfl := beqN g2
      have h3 := Nat.le_of_ble_eq_true g3
      obtain ⟨g, hk, hr⟩ := fillA_sound μ k n 1 r _ K h
      refine ⟨g, hk, ?_⟩
      have e := fill_one μ k n (i * 1) f [Value.int k y] (fun _ => y) 1 (by simp) h3
      rw [← upd1_eq] at e
      rw [List.map_cons, fill_cons (off := i * 1) (size := 1) rfl rfl (by simp [flat]; omega), ← hr]
      exact congrArg (fun c => Instr.fill (fun i => some (i * 1, 1)) c (r.map fun p => (p.1, toVal μ p.2))) e
    | ints k' m g =>
      replace h := chk_iff.1 h; obtain ⟨hb, h⟩ := h
      simp only [Bool.and_eq_true] at hb
      obtain ⟨⟨g1, g2⟩, g3⟩ := hb
      obtain rfl := ikEq_eq g1
      obtain rfl := beqN g2
      have h3 := Nat.le_of_ble_eq_true g3
      obtain ⟨g', hk, hr⟩ := fillA_sound μ k n m r _ K h
      refine ⟨g', hk, ?_⟩
      have e := fill_one μ k n (i * m) f (flat μ (.ints k m g)) g m rfl h3
      rw [List.map_cons, fill_cons (off := i * m) (size := m) rfl (by simp [toVal, Value.cells, flat]) (by simp [flat]; omega), ← hr]
      exact congrArg (fun c => Instr.fill (fun i => some (i * m, m)) c (r.map fun p => (p.1, toVal μ p.2))) e
    | _ => exact h.elim

theorem fieldOf_set : ∀ (v : SV) (i : Nat) (c x : SV) (o j : Nat) (y : SV) (o2 : Nat), v.fieldOf i = some (x, o) → c.size = x.size → (v.setField i c).fieldOf j = some (y, o2) → ∃ y', v.fieldOf j = some (y', o2) ∧ y.size = y'.size := by
  intro v
  induction v with
  | pair a b iha ihb =>
    intro i c x o j y o2 hi hs hj
    cases i with
    | zero =>
      cases hi
      simp only [SV.setField] at hj
      cases j with
      | zero => cases hj; exact ⟨a, rfl, hs⟩
      | succ j =>
        simp only [SV.fieldOf] at hj ⊢
        split at hj
        · rename_i d o3 hd
          cases hj
          exact ⟨_, by rw [hs], rfl⟩
        · cases hj
    | succ i =>
      simp only [SV.fieldOf] at hi
      split at hi
      · rename_i c1 o1 h1
        cases hi
        simp only [SV.setField] at hj
        cases j with
        | zero => cases hj; exact ⟨_, rfl, rfl⟩
        | succ j =>
          simp only [SV.fieldOf] at hj ⊢
          split at hj
          · rename_i d o3 hd
            cases hj
            obtain ⟨y', e1, e2⟩ := ihb i c _ _ j _ _ h1 hs hd
            exact ⟨y', by rw [e1], e2⟩
          · cases hj
      · cases hi
  | _ => intro i c x o j y o2 hi hs hj; cases i <;> simp [SV.fieldOf] at hi

theorem setField_ids' : ∀ (v : SV) (k : Nat) (c : SV) (i : Nat), i ∈ (v.setField k c).ids → i ∈ v.ids ∨ i ∈ c.ids := by
  intro v
  induction v with
  | pair a b iha ihb =>
    intro k c i hi
    cases k with
    | zero => simp only [SV.setField, SV.ids, List.mem_append] at hi ⊢; rcases hi with h | h; exact .inr h; exact .inl (.inr h)
    | succ k =>
      simp only [SV.setField, SV.ids, List.mem_append] at hi ⊢
      rcases hi with h | h
      · exact .inl (.inl h)
      · rcases ihb k c i h with h | h
        · exact .inl (.inr h)
        · exact .inr h
  | _ => intro k c i hi; cases k <;> exact .inl hi

theorem setField_flat' (μ : Nat → Nat) : ∀ (v : SV) (k : Nat) (c c' : SV) (o : Nat), v.fieldOf k = some (c, o) → ∃ pre post, flat μ v = pre ++ flat μ c ++ post ∧ pre.length = o ∧ flat μ (v.setField k c') = pre ++ flat μ c' ++ post := by
  intro v
  induction v with
  | pair a b iha ihb =>
    intro k c c' o h
    cases k with
    | zero => cases h; exact ⟨[], flat μ b, by simp [flat], rfl, by simp [SV.setField, flat]⟩
    | succ k =>
      simp only [SV.fieldOf] at h
      split at h
      · rename_i c1 o' hb
        cases h
        obtain ⟨pre, post, h1, h2, h3⟩ := ihb k _ c' _ hb
        exact ⟨flat μ a ++ pre, post, by simp [flat, h1], by simp [flat_length, h2], by simp [SV.setField, flat, h3]⟩
      · cases h
  | _ => intro k c c' o h; cases k <;> simp [SV.fieldOf] at h

theorem fold_mid (pre c post cs : List Value) (h : cs.length = c.length) : cs.toArray.zipIdx.foldl (fun a (x, j) => a.setIfInBounds (pre.length + j) x) (pre ++ c ++ post).toArray = (pre ++ cs ++ post).toArray := by
  rw [zipFold]
  apply Array.ext_getElem?
  intro i
  rw [foldl_set pre.length cs 0 _ i (by simp; omega)]
  simp only [Nat.add_zero, List.getElem?_toArray]
  by_cases h1 : i < pre.length
  · rw [if_neg (by omega), List.append_assoc, List.append_assoc, List.getElem?_append_left h1, List.getElem?_append_left h1]
  · by_cases h2 : i < pre.length + cs.length
    · rw [if_pos (by omega), List.append_assoc, List.getElem?_append_right (by omega), List.getElem?_append_left (by omega)]
    · rw [if_neg (by omega), List.append_assoc, List.append_assoc, List.getElem?_append_right (by omega), List.getElem?_append_right (by omega), List.getElem?_append_right (by omega), List.getElem?_append_right (by omega), h]

theorem sameKind_spec {x v : SV} (h : sameKind x v = true) : v.size = x.size ∧ ∀ μ, (toVal μ v).cells = (flat μ v).toArray := by
  cases x <;> cases v <;> simp only [sameKind, Bool.false_eq_true, Bool.and_eq_true] at h
  all_goals first
    | exact ⟨rfl, fun μ => rfl⟩
    | exact ⟨(beqN h.2).symm, fun μ => rfl⟩
    | exact ⟨beqN h, fun μ => rfl⟩

theorem fillP_sound (μ : Nat → Nat) (pl : Nat → Option (Nat × Nat)) : ∀ (l : List (Nat × SV)) (z : SV) (K : SV → Prop), fillP z l K → (∀ i x o, z.fieldOf i = some (x, o) → pl i = some (o, x.size)) → (∃ a b, z = .pair a b) →
    ∃ z', K z' ∧ (∀ id ∈ z'.ids, id ∈ z.ids ∨ ∃ p ∈ l, id ∈ p.2.ids) ∧ (∀ μ, toVal μ z' = .agg (flat μ z').toArray) ∧ Instr.fill pl (flat μ z).toArray (l.map fun p => (p.1, toVal μ p.2)) = some (flat μ z').toArray
  | [], z, K, h, _, hpr => ⟨z, h, fun _ hi => .inl hi, fun μ => (by obtain ⟨a, b, rfl⟩ := hpr; rfl), rfl⟩
  | (i, v) :: r, z, K, h, hp, hpr => by
    unfold fillP at h
    split at h
    · rename_i x o hx
      obtain ⟨hb, h⟩ := chk_iff.1 h
      obtain ⟨s1, s3⟩ := sameKind_spec hb
      obtain ⟨pre, post, e1, e2, e3⟩ := setField_flat' μ z i x v o hx
      obtain ⟨z', k1, k2, k4, k3⟩ := fillP_sound μ pl r (z.setField i v) K h (fun j y o2 hj => by
        obtain ⟨y', f1, f2⟩ := fieldOf_set z i v x o j y o2 hx s1 hj
        rw [f2]; exact hp j y' o2 f1) (by obtain ⟨a, b, rfl⟩ := hpr; cases i <;> exact ⟨_, _, rfl⟩)
      refine ⟨z', k1, fun id hi => ?_, k4, ?_⟩
      · rcases k2 id hi with h | ⟨q, hq, h⟩
        · rcases setField_ids' z i v id h with h | h
          · exact .inl h
          · exact .inr ⟨(i, v), by simp, h⟩
        · exact .inr ⟨q, by simp [hq], h⟩
      rw [List.map_cons, fill_cons (off := o) (size := x.size) (hp i x o hx) (by rw [s3 μ]; simp [flat_length, s1]) (by rw [e1, ← e2]; simp [flat_length] <;> omega), ← k3]
      congr 1
      rw [s3 μ, e1, e3, ← e2]
      exact fold_mid pre (flat μ x) post (flat μ v) (by simp [flat_length, s1])
    · exact h.elim

theorem fits_ids : ∀ {ks : List FK} {v : SV}, fitsF ks v = true → v.ids = []
  | [], v, h => by rw [fits_nil h]; rfl
  | .int k :: r, v, h => by obtain ⟨x, b, rfl, hb⟩ := fits_int h; simp [SV.ids, fits_ids hb]
  | .row k n :: r, v, h => by obtain ⟨x, b, rfl, hb⟩ := fits_row h; simp [SV.ids, fits_ids hb]
  | .slice :: r, v, h => (fits_slice h).elim
  | .scal :: r, v, h => (fits_scal h).elim
theorem fitsB_ids : ∀ {ks : List FK} {v : SV}, fitsB ks v = true → v.ids = []
  | [], v, h => by rw [fitsB_nil h]; rfl
  | .int k :: r, v, h => by obtain ⟨x, b, rfl, hb⟩ := fitsB_int h; simp [SV.ids, fitsB_ids hb]
  | .row k n :: r, v, h => by obtain ⟨x, b, rfl, hb⟩ := fitsB_row h; simp [SV.ids, fitsB_ids hb]
  | .slice :: r, v, h => by obtain ⟨b, rfl, hb⟩ := fitsB_slice h; simp [SV.ids, fitsB_ids hb]
  | .scal :: r, v, h => by obtain ⟨x, b, rfl, hp, hb⟩ := fitsB_scal h; simp [SV.ids, fitsB_ids hb, (plain_ids hp).1]
theorem fits_agg {ks : List FK} {v : SV} (μ : Nat → Nat) (h : fitsF ks v = true) : toVal μ v = .agg (flat μ v).toArray := by
  cases ks with
  | nil => rw [fits_nil h]; rfl
  | cons k r =>
    cases k with
    | int k => obtain ⟨x, b, rfl, hb⟩ := fits_int h; rfl
    | row k n => obtain ⟨x, b, rfl, hb⟩ := fits_row h; rfl
    | slice => exact (fits_slice h).elim
    | scal => exact (fits_scal h).elim
theorem fits_field {ks : List FK} : ∀ {v c : SV} {i o : Nat}, fitsF ks v = true → v.fieldOf i = some (c, o) → c.ids = [] := by
  induction ks with
  | nil => intro v c i o h hf; rw [fits_nil h] at hf; simp [SV.fieldOf] at hf
  | cons k r ih =>
    intro v c i o h hf
    have key : ∀ a b, v = .pair a b → a.ids = [] → fitsF r b = true → c.ids = [] := by
      rintro a b rfl ha hb
      cases i with
      | zero => cases hf; exact ha
      | succ i =>
        simp only [SV.fieldOf] at hf
        split at hf
        · rename_i c1 o2 hc
          cases hf
          exact ih hb hc
        · cases hf
    cases k with
    | int k => obtain ⟨x, b, rfl, hb⟩ := fits_int h; exact key _ _ rfl rfl hb
    | row k n => obtain ⟨x, b, rfl, hb⟩ := fits_row h; exact key _ _ rfl rfl hb
    | slice => exact (fits_slice h).elim
    | scal => exact (fits_scal h).elim

theorem evParts_ids {N : Nat} {μ : Nat → Nat} {L : Nat} {s : Slots} {a : Act} (hs : SRel N μ L s a) : ∀ {l : List (Nat × Operand)} {vs : List (Nat × SV)}, evParts s l = some vs →
    ∀ p ∈ vs, ∀ id ∈ p.2.ids, id < L
  | [], vs, h => by cases h; simp
  | (i, x) :: r, vs, h => by
    unfold evParts at h
    split at h
    · rename_i v l hv hl
      cases h
      intro p hp
      simp only [List.mem_cons] at hp
      rcases hp with rfl | hp
      · exact (ev_sound hs hv).2
      · exact evParts_ids hs hl p hp
    · cases h
theorem evParts_sound {N : Nat} {μ : Nat → Nat} {L : Nat} {s : Slots} {a : Act} (hs : SRel N μ L s a) : ∀ {l : List (Nat × Operand)} {vs : List (Nat × SV)}, evParts s l = some vs →
    l.map (fun p => (p.1, a.eval p.2)) = vs.map (fun p => (p.1, toVal μ p.2))
  | [], vs, h => by cases h; rfl
  | (i, x) :: r, vs, h => by
    unfold evParts at h
    split at h
    · rename_i v l hv hl
      cases h
      simp [(ev_sound hs hv).1, evParts_sound hs hl]
    · cases h

theorem run_zero {T : Tab} (hT : TabOK P T) {t : Nat} {z : SV} (h : T.zero t = some z) (μ : Nat → Nat) (w : World) : (zeroValue t).run P w = .ok (toVal μ z) w := by
  obtain ⟨h1, h2⟩ := hT.zero t z h
  cases hq : P.info? t with
  | none => simp [hq] at h1
  | some i =>
    simp [hq] at h1
    have : toVal μ z = toVal (fun _ => 0) z := toVal_ids z (by rw [h2]; intro id h; cases h)
    simp [zeroValue, typeInfo, hq, h1, this]

theorem run_len_of {T : Tab} (hT : TabOK P T) {ts : Array TypeId} {t ty : TypeId} {es : Nat} (h0 : ts[0]? = some t) (hti : T.ti t = .slice es) (a : Option Addr) (l c : Nat) (w : World) :
    (Builtin.len_ ts ty #[.slice a l c]).run P w = .ok (.int .i64 l) w := by
  have := hT.ok t
  rw [hti] at this
  obtain ⟨e, g1, _⟩ := this
  simp [Builtin.len_, goInt, h0, Sem.run_bind, run_underlying g1 w]
theorem run_cap_of {T : Tab} (hT : TabOK P T) {ts : Array TypeId} {t ty : TypeId} {es : Nat} (h0 : ts[0]? = some t) (hti : T.ti t = .slice es) (a : Option Addr) (l c : Nat) (w : World) :
    (Builtin.cap_ ts ty #[.slice a l c]).run P w = .ok (.int .i64 c) w := by
  have := hT.ok t
  rw [hti] at this
  obtain ⟨e, g1, _⟩ := this
  simp [Builtin.cap_, goInt, h0, Sem.run_bind, run_underlying g1 w]
theorem TabOK.at {T : Tab} (hT : TabOK P T) {t : Nat} {x : TI} (h : T.ti t = x) : TIok P t x := h ▸ hT.ok t

/-- a bound as the model has it -/
def boundV : Option Int → Option Value → Prop
  | none, none => True
  | some i, some v => ∃ k, v = .int k i
  | _, _ => False
theorem evB_sound {N : Nat} {μ : Nat → Nat} {L : Nat} {s : Slots} {a : Act} (hs : SRel N μ L s a) {x : Option Operand} {b : Option Int} (h : evB s x = some b) : boundV b (x.map a.eval) := by
  cases x with
  | none => cases h; trivial
  | some x =>
    simp only [evB] at h
    split at h
    · rename_i k i hx
      cases h
      exact ⟨k, (ev_sound hs hx).1⟩
    · cases h
def isLo : Option Int → Nat → Prop
  | none, l => l = 0
  | some i, l => i = (l : Int)
def isHi : Option Int → Nat → Nat → Nat → Prop
  | none, h, len, _ => h = len
  | some i, h, _, cap => i = (h : Int) ∧ h ≤ cap
theorem cut_cases {es : Nat} {lo hi : Option Int} {id off len cap : Nat} {K : SV → Prop} (h : cutVC es lo hi id off len cap K) :
    ∃ l h' : Nat, K (.sl id (l * es + off) (h' - l) (cap - l)) ∧ isLo lo l ∧ isHi hi h' len cap ∧ (l = 0 ∨ l ≤ h' ∧ l < cap) := by
  unfold cutVC at h
  split at h
  · exact ⟨0, len, by simpa using h, rfl, rfl, Or.inl rfl⟩
  · rename_i i
    obtain ⟨⟨h0, h1⟩, h⟩ := h
    exact ⟨0, i.toNat, by simpa using h, rfl, ⟨by omega, by omega⟩, Or.inl rfl⟩
  · rename_i i
    obtain ⟨⟨h0, h1, h2⟩, h⟩ := h
    exact ⟨i.toNat, len, h, by show i = (i.toNat : Int); omega, rfl, Or.inr ⟨by omega, by omega⟩⟩
  · rename_i i j
    obtain ⟨⟨h0, h1, h2, h3⟩, h⟩ := h
    exact ⟨i.toNat, j.toNat, h, by show i = (i.toNat : Int); omega, ⟨by omega, by omega⟩, Or.inr ⟨by omega, by omega⟩⟩
theorem bounds_run {isS : Bool} {lo hi : Option Int} {lo' hi' : Option Value} (hlo : boundV lo lo') (hhi : boundV hi hi') {l h len cap : Nat}
    (el : isLo lo l) (eh : isHi hi h len cap) (hc : l = 0 ∨ l ≤ h ∧ l < cap) (w : World) :
    (Instr.sliceBounds isS len cap lo' hi' none).run P w = .ok (l, h, cap) w := by
  cases lo with
  | none =>
    cases lo' with
    | some v => exact hlo.elim
    | none =>
      simp only [isLo] at el; subst el
      cases hi with
      | none =>
        cases hi' with
        | some v => exact hhi.elim
        | none => simp only [isHi] at eh; subst eh; simp [Instr.sliceBounds]
      | some j =>
        cases hi' with
        | none => exact hhi.elim
        | some v => obtain ⟨k, rfl⟩ := hhi; simp only [isHi] at eh; obtain ⟨rfl, eh⟩ := eh; simp [Instr.sliceBounds, Instr.sliceBound, asIntOf, eh]
  | some i =>
    cases lo' with
    | none => exact hlo.elim
    | some v =>
      obtain ⟨k, rfl⟩ := hlo
      simp only [isLo] at el; subst el
      have hlh : l ≤ h := by omega
      cases hi with
      | none =>
        cases hi' with
        | some v => exact hhi.elim
        | none => simp only [isHi] at eh; subst eh; simp [Instr.sliceBounds, Instr.sliceBound, asIntOf, hlh]
      | some j =>
        cases hi' with
        | none => exact hhi.elim
        | some v => obtain ⟨k', rfl⟩ := hhi; simp only [isHi] at eh; obtain ⟨rfl, eh⟩ := eh; simp [Instr.sliceBounds, Instr.sliceBound, asIntOf, eh, hlh]
theorem cut_slice {T : Tab} (hT : TabOK P T) {t es : Nat} (hti : T.ti t = .slice es) {lo hi : Option Int} {lo' hi' : Option Value} (hlo : boundV lo lo') (hhi : boundV hi hi') {id off len cap : Nat} {K : SV → Prop}
    (h : cutVC es lo hi id off len cap K) (μ : Nat → Nat) (w : World) : ∃ v, K v ∧ v.ids = [id] ∧ (Instr.sliceAt t (.slice (some ⟨μ id, off, none⟩) len cap) lo' hi' none).run P w = .ok (toVal μ v) w := by
  obtain ⟨e, g1, g3, g4⟩ := hT.at hti
  have hsz := run_sizeOf_of (P := P) g3 w
  obtain ⟨l, h', hk, el, eh, hc⟩ := cut_cases h
  refine ⟨_, hk, rfl, ?_⟩
  have hb := bounds_run (P := P) (isS := true) hlo hhi el eh hc w
  have : (if cap = l then (some ⟨μ id, off, none⟩ : Option Addr) else (some ⟨μ id, off, none⟩ : Option Addr).map (·.add (l * es))) = some ⟨μ id, l * es + off, none⟩ := by
    by_cases hl : cap = l
    · have : l = 0 := by omega
      subst this; simp [hl]
    · simp [hl, addr_add, Nat.add_comm]
  simp only [Instr.sliceAt, Instr.slice, Sem.run_bind, run_underlying g1 w, Result.andThen_ok, hb, hsz, Sem.run_pure, this]
  rfl
theorem cut_array {T : Tab} (hT : TabOK P T) {t len es : Nat} {ea : Bool} (hti : T.ti t = .arr len es ea) {lo hi : Option Int} {lo' hi' : Option Value} (hlo : boundV lo lo') (hhi : boundV hi hi') {id off : Nat} {K : SV → Prop}
    (h : cutVC es lo hi id off len len K) (μ : Nat → Nat) (w : World) : ∃ v, K v ∧ v.ids = [id] ∧ (Instr.sliceAt t (.pointer (some ⟨μ id, off, none⟩)) lo' hi' none).run P w = .ok (toVal μ v) w := by
  obtain ⟨e, d, g1, g2, g3, g4, g5, g6⟩ := hT.at hti
  have hsz := run_sizeOf_of (P := P) g3 w
  obtain ⟨l, h', hk, el, eh, hc⟩ := cut_cases h
  refine ⟨_, hk, rfl, ?_⟩
  have hb := bounds_run (P := P) (isS := false) hlo hhi el eh hc w
  have : (if len = l then (⟨μ id, off, none⟩ : Addr) else (⟨μ id, off, none⟩ : Addr).add (l * es)) = ⟨μ id, l * es + off, none⟩ := by
    by_cases hl : len = l
    · omega
    · simp [hl, addr_add, Nat.add_comm]
  simp only [Instr.sliceAt, Instr.sureAddr, Sem.run_bind, run_underlying g1 w, Result.andThen_ok, hb, hsz, Sem.run_pure, this]
  rfl

theorem read_sound {T : Tab} (hT : TabOK P T) (hE : TabEq P T) {N : Nat} {μ : Nat → Nat} {m : Mem} {s : Slots} {a : Act} {w : World} (hs : SRel N μ m.length s a) (hm : MR μ m w) {o : Oper} {K : SV → Prop}
    (h : readVC T o.op s m K) : ∃ v, K v ∧ (∀ id ∈ v.ids, id < m.length) ∧ (execOp a.eval o).run P w = .ok (.value (toVal μ v)) w := by
  obtain ⟨dst, op, type, pos, after, guard⟩ := o
  simp only at h
  unfold readVC at h
  split at h
  -- move, assign
  · split at h
    · rename_i v hv
      have := ev_sound hs hv
      exact ⟨v, h, this.2, by simp [execOp, this.1]⟩
    · exact h.elim
  · split at h
    · rename_i v hv
      have := ev_sound hs hv
      exact ⟨v, h, this.2, by simp [execOp, this.1]⟩
    · exact h.elim
  -- pick
  · split at h
    · rename_i v hc ha
      have h1 := ev_sound hs hc
      have h2 := ev_sound hs ha
      exact ⟨v, h, h2.2, by simp [execOp, h1.1, h2.1, toVal, scal, asBool]⟩
    · rename_i v hc hb
      have h1 := ev_sound hs hc
      have h2 := ev_sound hs hb
      exact ⟨v, h, h2.2, by simp [execOp, h1.1, h2.1, toVal, scal, asBool]⟩
    · exact h.elim
  -- load
  · split at h
    · rename_i id path base off hx
      have h1 := ev_sound hs hx
      split at h
      · rename_i blk c hb
        split at h
        · rename_i sub oo hp
          replace h := chk_iff.1 h; obtain ⟨hb', h⟩ := h
          simp only [Bool.and_eq_true] at hb'
          obtain ⟨g1, hkn⟩ := hb'
          obtain rfl := beqN g1
          obtain ⟨v, hk, hi, hr⟩ := getAt_sound hT hm hb hp (by intro hh; rw [hh] at hkn; cases hkn) h
          refine ⟨v, hk, fun i hi' => hm.ids id blk c hb i (part_ids path blk sub _ hp i (hi i hi')), ?_⟩
          simp only [execOp, h1.1, toVal, scal, Sem.run_bind, hr]
          rfl
        · exact h.elim
      · exact h.elim
    · exact h.elim
  -- nilCheck
  · split at h
    · rename_i id path base off hx
      have h1 := ev_sound hs hx
      refine ⟨_, h, h1.2, ?_⟩
      simp [execOp, h1.1, toVal, scal]
    · exact h.elim
  -- binOp
  · split at h
    · rename_i x y hx hy
      have h1 := ev_sound hs hx
      have h2 := ev_sound hs hy
      rename_i bop t X Y yt _ _
      obtain ⟨v, hk, hi, hr⟩ := binVC_sound hE h μ w X Y
      refine ⟨v, hk, (by rw [hi]; intro id hh; cases hh), ?_⟩
      unfold cmpRun at hr
      simp only [execOp, h1.1, h2.1]
      simp only [Sem.run_bind] at hr ⊢
      rw [hr]
      rfl
    · exact h.elim
  -- unOp
  · split at h
    · rename_i b hx
      have h1 := ev_sound hs hx
      exact ⟨_, h, by simp [SV.ids], by simp [execOp, h1.1, toVal, scal, Op.unary]⟩
    · rename_i k n hx
      have h1 := ev_sound hs hx
      exact ⟨_, h, by simp [SV.ids], by simp [execOp, h1.1, toVal, scal, Op.unary, Op.intArith]⟩
    · exact h.elim
  -- convert
  · split at h
    · rename_i src dst' X _ _ _ k' k kk n hsrc hti hx
      have h1 := ev_sound hs hx
      have e1 := hT.ok src
      have e2 := hT.ok dst'
      rw [hsrc] at e1
      rw [hti] at e2
      refine ⟨_, h, by simp [SV.ids], ?_⟩
      simp [execOp, h1.1, toVal, scal, convert, Sem.run_bind, run_underlying e1.1 w, run_underlying e2.1 w, Conv.intToInt]
    · exact h.elim
  -- fieldAddr
  · split at h
    · rename_i offs n id path base hti hx
      have h1 := ev_sound hs hx
      split at h
      · rename_i oo ho
        refine ⟨_, h, by simpa [SV.ids] using h1.2, ?_⟩
        have := fieldAt_sound (P := P) hT hti ho (μ id) (base + 0) w
        simp only [Nat.add_zero] at this
        simp only [execOp, h1.1, toVal, scal, Sem.run_bind, Nat.add_zero, this]
        rfl
      · exact h.elim
    · exact h.elim
  -- indexAddr
  · split at h
    · rename_i len es ea id path base off k i hti hx hi
      have h1 := ev_sound hs hx
      have h2 := ev_sound hs hi
      obtain ⟨⟨g0, g1⟩, h⟩ := h
      refine ⟨_, h, by simpa [SV.ids] using h1.2, ?_⟩
      have := indexAt_arr (P := P) hT hti (k := k) g0 g1 (μ id) (base + off) w
      simp only [execOp, h1.1, h2.1, toVal, scal, Sem.run_bind, this]
      rw [show base + off + i.toNat * es = base + (i.toNat * es + off) by omega]
      rfl
    · rename_i es id off len cap k i hti hx hi
      have h1 := ev_sound hs hx
      have h2 := ev_sound hs hi
      obtain ⟨⟨g0, g1⟩, h⟩ := h
      refine ⟨_, h, by simpa [SV.ids] using h1.2, ?_⟩
      have := indexAt_slice (P := P) hT hti (k := k) (cap := cap) g0 g1 (μ id) off w
      simp only [execOp, h1.1, h2.1, toVal, scal, Sem.run_bind, this]
      rw [show off + i.toNat * es = 0 + (i.toNat * es + off) by omega]
      rfl
    · exact h.elim
  -- index
  · split at h
    · rename_i len es ea k n v kk i hti hx hi
      have h1 := ev_sound hs hx
      have h2 := ev_sound hs hi
      replace h := chk_iff.1 h; obtain ⟨hb', h⟩ := h
      obtain rfl := beqN hb'
      obtain ⟨⟨g0, g1⟩, h⟩ := h
      have := index_sound (P := P) hT hti (k := k) (kk := kk) (v := v) g0 g1 μ w
      split at h
      · refine ⟨_, h, by simp [SV.ids], ?_⟩
        have e := this.1 rfl
        simp only [execOp, h1.1, h2.1, Sem.run_bind]
        rw [show toVal μ (SV.int kk i) = .int kk i from rfl, e]
        rfl
      · replace h := chk_iff.1 h; obtain ⟨hb2, h⟩ := h
        obtain rfl := beqN hb2
        refine ⟨_, h, by simp [SV.ids], ?_⟩
        have e := this.2 rfl rfl
        simp only [execOp, h1.1, h2.1, Sem.run_bind]
        rw [show toVal μ (SV.int kk i) = .int kk i from rfl, e]
        rfl
    · rename_i len es x y kk i hti hx hi
      have h1 := ev_sound hs hx
      have h2 := ev_sound hs hi
      obtain ⟨hz, ⟨g0, g1⟩, c, o', hf, hck⟩ := chk_iff.1 h
      obtain ⟨hp, hk⟩ := chk_iff.1 hck
      refine ⟨c, hk, fun id hid => h1.2 id (field_ids _ _ c o' hf id hid), ?_⟩
      have e := index_pair (P := P) hT hti (kk := kk) g0 g1 hz hf μ w
      have hc : toVal μ c = .agg (flat μ c).toArray := by cases c <;> first | rfl | cases hp
      simp only [execOp, h1.1, h2.1, Sem.run_bind]
      rw [show toVal μ (SV.int kk i) = .int kk i from rfl, show toVal μ (SV.pair x y) = .agg (flat μ (.pair x y)).toArray from rfl, e, hc]
      rfl
    · exact h.elim
  -- extract
  · split at h
    · rename_i v hv
      have h1 := ev_sound hs hv
      split at h
      · rename_i x hx
        obtain ⟨⟨vs, e1, e2⟩, e3⟩ := tupleAt_sound μ v _ x hx
        refine ⟨x, h, fun id hi => h1.2 id (e3 id hi), ?_⟩
        simp [execOp, h1.1, e1, Instr.extract, Sem.run_bind, e2]
      · exact h.elim
    · exact h.elim
  -- slice
  · split at h
    · rename_i len es ea id off hti hx
      have h1 := ev_sound hs hx
      have e1 := hT.at hti
      obtain ⟨e, d, g1, g2, g3, g4, g5, g6⟩ := e1
      refine ⟨_, h, by simpa [SV.ids] using h1.2, ?_⟩
      have hsz := run_sizeOf_of (P := P) g3 w
      have hne : len ≠ 0 := by omega
      simp [execOp, h1.1, toVal, scal, Instr.sliceAt, Instr.sureAddr, Instr.sliceBounds, Sem.run_bind, run_underlying g1 w, hsz, hne, addr_add]
    · rename_i es id off len cap hti hx
      have h1 := ev_sound hs hx
      have e1 := hT.at hti
      obtain ⟨e, g1, g3, g4⟩ := e1
      refine ⟨_, h, by simpa [SV.ids] using h1.2, ?_⟩
      have hsz := run_sizeOf_of (P := P) g3 w
      by_cases hc : cap = 0
      · simp [execOp, h1.1, toVal, scal, Instr.sliceAt, Instr.slice, Instr.sliceBounds, Sem.run_bind, run_underlying g1 w, hsz, hc]
      · simp [execOp, h1.1, toVal, scal, Instr.sliceAt, Instr.slice, Instr.sliceBounds, Sem.run_bind, run_underlying g1 w, hsz, hc, addr_add]
    · exact h.elim
  -- slice with bounds
  · split at h
    · rename_i len es ea lo hi id off hti hlo hhi hx
      have h1 := ev_sound hs hx
      obtain ⟨v, hk, hi', hr⟩ := cut_array (P := P) hT hti (evB_sound hs hlo) (evB_sound hs hhi) h μ w
      have hid : id < m.length := h1.2 id (by simp [SV.ids])
      refine ⟨v, hk, fun i hh => by rw [hi'] at hh; simp only [List.mem_singleton] at hh; rw [hh]; exact hid, ?_⟩
      simp only [execOp, h1.1, toVal, scal, Sem.run_bind, Nat.zero_add, Option.map_none]
      rw [hr]
      rfl
    · rename_i es lo hi id off len cap hti hlo hhi hx
      have h1 := ev_sound hs hx
      obtain ⟨v, hk, hi', hr⟩ := cut_slice (P := P) hT hti (evB_sound hs hlo) (evB_sound hs hhi) h μ w
      have hid : id < m.length := h1.2 id (by simp [SV.ids])
      refine ⟨v, hk, fun i hh => by rw [hi'] at hh; simp only [List.mem_singleton] at hh; rw [hh]; exact hid, ?_⟩
      simp only [execOp, h1.1, toVal, scal, Sem.run_bind, Option.map_none]
      rw [hr]
      rfl
    · rename_i es i hti hlo hhi hx
      have h1 := ev_sound hs hx
      obtain ⟨rfl, h⟩ := h
      obtain ⟨e, g1, g3, g4⟩ := hT.at hti
      have hsz := run_sizeOf_of (P := P) g3 w
      rename_i lo hi _ _ _ _
      have hlo' := evB_sound hs hlo
      have hhi' := evB_sound hs hhi
      refine ⟨_, h, by simp [SV.ids], ?_⟩
      have hb := bounds_run (P := P) (isS := true) (len := 0) (cap := 0) hlo' hhi' (l := 0) (h := 0) rfl ⟨rfl, Nat.le_refl 0⟩ (Or.inl rfl) w
      simp only [execOp, h1.1, toVal, scal, Sem.run_bind, Option.map_none, Instr.sliceAt, Instr.slice, run_underlying g1 w, Result.andThen_ok, hb, hsz, Sem.run_pure]
      rfl
    · exact h.elim
  -- slice with a bound of its room
  · split at h
    · rename_i es id off len cap k1 hh k2 mx hti hx hh' hmx
      have h1 := ev_sound hs hx
      have h2 := ev_sound hs hh'
      have h3 := ev_sound hs hmx
      obtain ⟨⟨g0, g1', g2'⟩, h⟩ := h
      obtain ⟨e, g1, g3, g4⟩ := hT.at hti
      have hsz := run_sizeOf_of (P := P) g3 w
      refine ⟨_, h, by simpa [SV.ids] using h1.2, ?_⟩
      have em : (mx.toNat : Int) = mx := Int.toNat_of_nonneg (by omega)
      have e0 : 0 ≤ mx := by omega
      have e1 : hh ≤ (mx.toNat : Int) := by omega
      by_cases hc : mx.toNat = 0
      · obtain rfl : mx = 0 := by omega
        obtain rfl : hh = 0 := by omega
        simp [execOp, h1.1, h2.1, h3.1, toVal, scal, Instr.sliceAt, Instr.slice, Instr.sliceBounds, Instr.sliceBound, asIntOf, Sem.run_bind, run_underlying g1 w, hsz, hc, g0, g1', g2', em, e0]
      · simp [execOp, h1.1, h2.1, h3.1, toVal, scal, Instr.sliceAt, Instr.slice, Instr.sliceBounds, Instr.sliceBound, asIntOf, Sem.run_bind, run_underlying g1 w, hsz, hc, addr_add, g0, g1', g2', em, e0]
    · exact h.elim
  -- sliceToArrayPointer
  · split at h
    · rename_i len es ea id off n cap hti hx
      have h1 := ev_sound hs hx
      obtain ⟨hn, h⟩ := h
      obtain ⟨e, d, g1, g2, g3, g4, g5, g6⟩ := hT.at hti
      refine ⟨_, h, by simpa [SV.ids] using h1.2, ?_⟩
      have hr := run_arrayAt (P := P) w _ e len (some ⟨μ id, off, none⟩) n cap g1 hn
      simp only [execOp, h1.1, toVal, scal, Sem.run_bind, Nat.zero_add]
      rw [hr]
      rfl
    · exact h.elim
  -- build
  · split at h
    · rename_i k n f l hz hp
      split at h
      · rename_i len es ea hti
        replace h := chk_iff.1 h; obtain ⟨hb', h⟩ := h
        obtain rfl := beqN hb'
        obtain ⟨g, hk, hf⟩ := fillA_sound μ k (len * es) es l f _ h
        have e1 := hT.at hti
        obtain ⟨e, d, g1, g2, g3, g4, g5, g6⟩ := e1
        have hsz := run_sizeOf_of (P := P) g3 w
        have hzr := run_zero (P := P) hT hz μ w
        have hps := evParts_sound hs hp
        refine ⟨_, hk, by simp [SV.ids], ?_⟩
        have hz' : (toVal μ (.ints k (len * es) f)).cells = (flat μ (.ints k (len * es) f)).toArray := rfl
        simp only [execOp, Instr.build, Sem.run_bind, hzr, Result.andThen_ok, run_underlying g1 w, hsz, hz']
        simp only [Array.toList_map, hps, hf]
        rfl
      · exact h.elim
    · rename_i za zb l hz hp
      split at h
      · rename_i len es ea hti
        obtain ⟨hfit, h⟩ := chk_iff.1 h
        obtain ⟨z', hk, hids, hag, hfill⟩ := fillP_sound μ (fun i => some (i * es, es)) l _ _ h (fun i x o hx => by
          have := arrZ_at es _ i x o hfit hx
          rw [this.1, this.2]) ⟨_, _, rfl⟩
        obtain ⟨_, hz2⟩ := hT.zero _ _ hz
        have hps := evParts_sound hs hp
        have hin := evParts_ids hs hp
        refine ⟨z', hk, fun id hi => by
          rcases hids id hi with h | ⟨q, hq, h⟩
          · rw [hz2] at h; cases h
          · exact hin q hq id h, ?_⟩
        obtain ⟨e, d, g1, g2, g3, g4, g5, g6⟩ := hT.at hti
        have hsz := run_sizeOf_of (P := P) g3 w
        have hzr := run_zero (P := P) hT hz μ w
        have hz' : (toVal μ (.pair za zb)).cells = (flat μ (.pair za zb)).toArray := rfl
        have hz'v : toVal μ z' = .agg (flat μ z').toArray := hag μ
        simp only [execOp, Instr.build, Sem.run_bind, hzr, Result.andThen_ok, run_underlying g1 w, hsz, hz']
        simp only [Array.toList_map, hps, hfill, hz'v]
        rfl
      split at h
      · rename_i ks hks
        obtain ⟨hfit, h⟩ := chk_iff.1 h
        obtain ⟨fs, hu, hF⟩ := hT.flds _ ks hks
        obtain ⟨places, hpl, hat⟩ := places_of hF
        obtain ⟨z', hk, hids, hag, hfill⟩ := fillP_sound μ (places.toArray[·]?) l _ _ h (fun i x o hx => by
          have := hat _ hfit i x o hx
          simpa using this) ⟨_, _, rfl⟩
        obtain ⟨hz1, _⟩ := hT.zero _ _ hz
        have hps := evParts_sound hs hp
        have hin := evParts_ids hs hp
        refine ⟨z', hk, fun id hi => by
          rcases hids id hi with h | ⟨q, hq, h⟩
          · rw [fitsB_ids hfit] at h; cases h
          · exact hin q hq id h, ?_⟩
        have hfl : flat (fun _ => 0) (.pair za zb) = flat μ (.pair za zb) := flat_ids _ (by rw [fitsB_ids hfit]; simp)
        rename_i t parts _ _ _ _ _ _ _
        have hbuilt : P.built t ((parts.map fun p => (p.1, a.eval p.2)).toList) = some (flat μ z').toArray := by
          unfold Program.built
          cases hq : P.info? t with
          | none => rw [hq] at hz1; cases hz1
          | some it =>
            rw [hq] at hz1
            have hz1 := Option.some.inj hz1
            simp only [hu, hz1, hpl]
            have e : (toVal (fun _ => 0) (.pair za zb)).cells = (flat μ (.pair za zb)).toArray := by rw [← hfl]; rfl
            rw [e, Array.toList_map, hps]
            exact hfill
        have hr := run_build (P := P) w t _ _ hbuilt
        have hz'v : toVal μ z' = .agg (flat μ z').toArray := hag μ
        simp only [execOp, hz'v]
        rw [Sem.run_bind, hr]
        rfl
      · exact h.elim
    · exact h.elim
  -- field
  · split at h
    · rename_i ks v hks hx
      obtain ⟨hfit, h⟩ := chk_iff.1 h
      split at h
      · rename_i c o' hf
        obtain ⟨fs, hu, hF⟩ := hT.flds _ ks hks
        obtain ⟨g, hg, hpart⟩ := field_part hF μ w v _ c o' [] rfl hfit hf
        have h1 := ev_sound hs hx
        refine ⟨c, h, by rw [fits_field hfit hf]; simp, ?_⟩
        simp only [List.nil_append] at hpart
        rw [Array.getElem?_toList] at hg
        simp only [execOp, Instr.field, Sem.run_bind, run_underlying hu w, Result.andThen_ok, h1.1, fits_agg μ hfit, hg, asAgg, Sem.run_pure, hpart]
      · exact h.elim
    · exact h.elim
  -- len
  · split at h
    · rename_i c _ _ _ t x hc ht hx
      have h2 := evs_sound hs hx
      split at h
      · rename_i es id off len cap hti
        refine ⟨_, h, by simp [SV.ids], ?_⟩
        have hl := run_len_of (P := P) hT (ty := type) ht hti (some ⟨μ id, off, none⟩) len cap w
        have ha : c.args.map a.eval = #[.slice (some ⟨μ id, off, none⟩) len cap] := by
          apply Array.ext'
          simpa [toVal, scal] using h2.1
        simp only [execOp, resolve, hc, ha, Sem.run_bind, Sem.run_pure, Result.andThen_ok, invoke, builtin, hl]
        rfl
      · rename_i es hti
        refine ⟨_, h, by simp [SV.ids], ?_⟩
        have hl := run_len_of (P := P) hT (ty := type) ht hti none 0 0 w
        have ha : c.args.map a.eval = #[.slice none 0 0] := by
          apply Array.ext'
          simpa [toVal, scal] using h2.1
        simp only [execOp, resolve, hc, ha, Sem.run_bind, Sem.run_pure, Result.andThen_ok, invoke, builtin, hl]
        rfl
      · exact h.elim
    · rename_i c _ _ _ t x hc ht hx
      have h2 := evs_sound hs hx
      split at h
      · rename_i es id off len cap hti
        refine ⟨_, h, by simp [SV.ids], ?_⟩
        have hl := run_cap_of (P := P) hT (ty := type) ht hti (some ⟨μ id, off, none⟩) len cap w
        have ha : c.args.map a.eval = #[.slice (some ⟨μ id, off, none⟩) len cap] := by
          apply Array.ext'
          simpa [toVal, scal] using h2.1
        simp only [execOp, resolve, hc, ha, Sem.run_bind, Sem.run_pure, Result.andThen_ok, invoke, builtin, hl]
        rfl
      · rename_i es hti
        refine ⟨_, h, by simp [SV.ids], ?_⟩
        have hl := run_cap_of (P := P) hT (ty := type) ht hti none 0 0 w
        have ha : c.args.map a.eval = #[.slice none 0 0] := by
          apply Array.ext'
          simpa [toVal, scal] using h2.1
        simp only [execOp, resolve, hc, ha, Sem.run_bind, Sem.run_pure, Result.andThen_ok, invoke, builtin, hl]
        rfl
      · exact h.elim
    · rename_i c _ _ _ t k x k' y hc ht hx
      have h2 := evs_sound hs hx
      refine ⟨_, h, by simp [SV.ids], ?_⟩
      have ha : c.args.map a.eval = #[.int k x, .int k' y] := by
        apply Array.ext'
        simpa [toVal, scal] using h2.1
      have hl : (Builtin.min_ c.argTypes type #[.int k x, .int k' y]).run P w = .ok (.int k (if y < x then y else x)) w := by simp [Builtin.min_, Builtin.min2]
      simp only [execOp, resolve, hc, ha, Sem.run_bind, Sem.run_pure, Result.andThen_ok, invoke, builtin, hl]
      rfl
    · exact h.elim
  · exact h.elim
end Go.Proofs.Ytojfjcbblkiajaa
