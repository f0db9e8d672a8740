/- Comparisons: rows of numbers, bools, slices against nil. -/
import Derived.Test.YtojfjcbblkiajaaSpec
set_option linter.unusedVariables false
set_option linter.unusedSimpArgs false
namespace Go.Proofs.Ytojfjcbblkiajaa
variable {P : Program}

theorem allEq_iff (n : Nat) (v u : Nat → Int) : allEq n v u = true ↔ ∀ i, i < n → v i = u i := by
  simp [allEq]

theorem run_forIn_all {f : Nat → Sem (ForInStep (Option Bool × Unit))} {p : Nat → Bool} (w : World) : ∀ (l : List Nat), (∀ i ∈ l, (f i).run P w = .ok (if p i then .yield (none, ()) else .done (some false, ())) w) →
    (forIn l ((none, ()) : Option Bool × Unit) (fun i _ => f i)).run P w = .ok (if l.all p then (none, ()) else (some false, ())) w
  | [], _ => by simp
  | i :: r, h => by
    have h1 := h i (by simp)
    have ih := run_forIn_all w r (fun j hj => h j (by simp [hj]))
    simp only [List.forIn_cons, Sem.run_bind, h1, Result.andThen_ok]
    by_cases hp : p i = true
    · simp only [hp, if_true, List.all_cons, Bool.true_and]; exact ih
    · simp [hp]

theorem allEq_split (len m : Nat) (v u : Nat → Int) : allEq (len * m) v u = (List.range len).all fun i => allEq m (fun j => v (j + i * m)) (fun j => u (j + i * m)) := by
  rw [Bool.eq_iff_iff, allEq_iff]
  simp only [List.all_eq_true, List.mem_range, allEq_iff]
  constructor
  · intro h i hi j hj
    refine h _ ?_
    have : i * m + m ≤ len * m := by rw [← Nat.succ_mul]; exact Nat.mul_le_mul_right _ hi
    omega
  · intro h i hi
    have hm : 0 < m := Nat.pos_of_ne_zero (by rintro rfl; simp at hi)
    have h1 : i / m < len := (Nat.div_lt_iff_lt_mul hm).2 hi
    have := h (i / m) h1 (i % m) (Nat.mod_lt _ hm)
    have e : i % m + i / m * m = i := by rw [Nat.mul_comm]; exact Nat.mod_add_div i m
    rw [e] at this
    exact this

theorem range_all (n : Nat) : List.range' [:n].start [:n].size [:n].step = List.range n := by
  simp [List.range_eq_range', Std.Legacy.Range.size]

theorem run_rows {e : TypeId} {m len fuel : Nat} {xs ys : Array Value} {p : Nat → Bool} (w : World)
    (h : ∀ i, i < len → ∃ x y, (part e xs (i * m)).run P w = .ok x w ∧ (part e ys (i * m)).run P w = .ok y w ∧ (Op.equalIn fuel e x y).run P w = .ok (p i) w) {t : TypeId} (ht : P.underlying t = some (.array len e)) (hs : (P.info? e).map (·.size) = some m) :
    (Op.equalIn (fuel + 1) t (.agg xs) (.agg ys)).run P w = .ok ((List.range len).all p) w := by
  have hsz := run_sizeOf_of (P := P) hs w
  unfold Op.equalIn
  simp only [Sem.run_bind, run_underlying ht w, Result.andThen_ok, hsz]
  rw [Std.Legacy.Range.forIn_eq_forIn_range', range_all]
  have := run_forIn_all (P := P) (p := p) (f := fun i => do
      if !(← Op.equalIn fuel e (← part e xs (i * m)) (← part e ys (i * m))) then pure (.done (some false, ())) else pure (.yield (none, ()))) w (List.range len) (fun i hi => by
    obtain ⟨x, y, h1, h2, h3⟩ := h i (List.mem_range.1 hi)
    simp only [Sem.run_bind, h1, h2, h3, Result.andThen_ok]
    by_cases hp : p i = true
    · simp [hp]
    · simp [hp])
  rw [this]
  by_cases hall : (List.range len).all p = true
  · simp only [hall, if_true, Result.andThen_ok, Sem.run_pure]
  · simp only [Bool.not_eq_true] at hall
    simp only [hall, Bool.false_eq_true, if_false, Result.andThen_ok, Sem.run_pure]

theorem run_equal_row {t : TypeId} {k : IntKind} {n d : Nat} (h : RowT P t k n d) : ∀ (fuel : Nat), d < fuel → ∀ (μ : Nat → Nat) (q : IntKind) (v u : Nat → Int) (w : World),
    (Op.equalIn fuel t (.agg (flat μ (.ints q n v)).toArray) (.agg (flat μ (.ints q n u)).toArray)).run P w = .ok (allEq n v u) w := by
  induction h with
  | @one t e k len h he hs =>
    intro fuel hf μ q v u w
    obtain ⟨fuel, rfl⟩ : ∃ g, fuel = g + 2 := ⟨fuel - 2, by omega⟩
    have ha := run_isAgg_of (P := P) he w
    have hpart : ∀ (x : Nat → Int) i, i < len → (part e (flat μ (.ints q len x)).toArray (i * 1)).run P w = .ok (.int q (x i)) w := fun x i hi => by
      have hg : (flat μ (.ints q len x)).toArray[i * 1]? = some (.int q (x i)) := by rw [List.getElem?_toArray, Nat.mul_one]; exact flat_ints_get μ q len x i hi
      simp only [part, Sem.run_bind, ha, Result.andThen_ok, Bool.false_eq_true, if_false, hg]
      rfl
    exact run_rows (P := P) (p := fun i => v i == u i) w (fun i hi => ⟨_, _, hpart v i hi, hpart u i hi, run_equalIn_int w fuel e q k (v i) (u i) he⟩) h hs
  | @more t e k len m d h he hs ih =>
    intro fuel hf μ q v u w
    obtain ⟨fuel, rfl⟩ : ∃ g, fuel = g + 1 := ⟨fuel - 1, by omega⟩
    obtain ⟨x, hx, hrow⟩ := he.row
    have ha := run_isAgg_of (P := P) hx w
    rw [hrow] at ha
    have hsz := run_sizeOf_of (P := P) hs w
    have hpart : ∀ (x : Nat → Int) i, i < len → (part e (flat μ (.ints q (len * m) x)).toArray (i * m)).run P w = .ok (.agg (flat μ (.ints q m fun j => x (j + i * m))).toArray) w := fun x i hi => by
      have hle : i * m + m ≤ len * m := by rw [← Nat.succ_mul]; exact Nat.mul_le_mul_right _ hi
      have hx := extract_ints μ q (len * m) (i * m) m x hle
      simp only [part, Sem.run_bind, ha, Result.andThen_ok, if_true, hsz, hx]
      rfl
    rw [allEq_split]
    exact run_rows (P := P) w (fun i hi => ⟨_, _, hpart v i hi, hpart u i hi, ih fuel (by omega) μ q _ _ w⟩) h hs

theorem cmpRun_agg {t : Nat} (hg : P.eqGuardType P.depth t = false) (X Y : Operand) (xs ys : Array Value) {b : Bool} {w : World} (h : (Op.equal t (.agg xs) (.agg ys)).run P w = .ok b w) :
    cmpRun P .eql t X Y (.agg xs) (.agg ys) w = .ok (.bool b) w ∧ cmpRun P .neq t X Y (.agg xs) (.agg ys) w = .ok (.bool (!b)) w := by
  have g := fun op => run_eqGuard_agg (P := P) w op t X Y xs ys hg
  constructor
  · unfold cmpRun
    simp only [Sem.run_bind, g, Result.andThen_ok, Go.binOp, h, Sem.run_pure]
  · unfold cmpRun
    simp only [Sem.run_bind, g, Result.andThen_ok, Go.binOp, h, Sem.run_pure]

theorem EqOK.row {T : Tab} {t : TypeId} {k : IntKind} {n d : Nat} (h : RowT P t k n d) (hd : d < 10000) (hg : P.eqGuardType P.depth t = false) (hti : (T.ti t).agg = some n) : EqOK P T t := by
  refine ⟨fun X Y a b w hs => ?_, fun X Y μ k' n' v u w hn => ?_, fun X Y a b c w es hs => ?_⟩
  · rw [hs] at hti; cases hti
  · rw [hti] at hn
    cases hn
    exact cmpRun_agg hg X Y _ _ (run_equal_row h 10000 hd μ k' v u w)
  · rw [hs] at hti; cases hti

theorem EqOK.bool {T : Tab} {t : TypeId} (h : P.underlying t = some .bool) (hti : T.ti t = .scalar) : EqOK P T t := by
  refine ⟨fun X Y a b w hs => ?_, fun X Y μ k' n' v u w hn => ?_, fun X Y a b c w es hs => ?_⟩
  · have : (Op.equalIn 10000 t (.bool a) (.bool b)).run P w = .ok (a == b) w := run_equalIn_bool' (P := P) w 9999 t a b h
    constructor
    · unfold cmpRun
      simp only [eqGuard, Sem.run_bind, Go.binOp, Op.equal, Op.maxDepth]
      simp [this]
    · unfold cmpRun
      simp only [eqGuard, Sem.run_bind, Go.binOp, Op.equal, Op.maxDepth]
      simp [this]
  · rw [hti] at hn; cases hn
  · rw [hti] at hs; cases hs

theorem equalIn_sl1 {t e : TypeId} (h : P.underlying t = some (.slice e)) (d : Nat) (a : Addr) (b c : Nat) (w : World) : (Op.equalIn (d + 1) t (.slice (some a) b c) (.slice none 0 0)).run P w = .ok false w := by
  simp [Op.equalIn, Sem.run_bind, run_underlying h w]
theorem equalIn_sl2 {t e : TypeId} (h : P.underlying t = some (.slice e)) (d : Nat) (w : World) : (Op.equalIn (d + 1) t (.slice none 0 0) (.slice none 0 0)).run P w = .ok true w := by
  simp [Op.equalIn, Sem.run_bind, run_underlying h w]

theorem EqOK.slice {T : Tab} {t e : TypeId} {es : Nat} (h : P.underlying t = some (.slice e)) (hti : T.ti t = .slice es) : EqOK P T t := by
  refine ⟨fun X Y a b w hs => ?_, fun X Y μ k' n' v u w hn => ?_, fun X Y a b c w es hs => ?_⟩
  · rw [hti] at hs; cases hs
  · rw [hti] at hn; cases hn
  · have e1 : (Op.equalIn 10000 t (.slice (some a) b c) (.slice none 0 0)).run P w = .ok false w := equalIn_sl1 h 9999 a b c w
    have e2 : (Op.equalIn 10000 t (.slice none 0 0) (.slice none 0 0)).run P w = .ok true w := equalIn_sl2 h 9999 w
    refine ⟨?_, ?_, ?_, ?_⟩
    · unfold cmpRun
      simp only [eqGuard, Sem.run_bind, Go.binOp, Op.equal, Op.maxDepth]
      simp [e1]
    · unfold cmpRun
      simp only [eqGuard, Sem.run_bind, Go.binOp, Op.equal, Op.maxDepth]
      simp [e1]
    · unfold cmpRun
      simp only [eqGuard, Sem.run_bind, Go.binOp, Op.equal, Op.maxDepth]
      simp [e2]
    · unfold cmpRun
      simp only [eqGuard, Sem.run_bind, Go.binOp, Op.equal, Op.maxDepth]
      simp [e2]

/-! ### structs -/
theorem eqFields_sound {o : Nat} {fs : List Field} {ks : List FK} (h : FldsT P o fs ks) (μ : Nat → Nat) (w : World) : ∀ (v u : SV) (p q : List Value), p.length = o → q.length = o → fitsF ks v = true → fitsF ks u = true →
    (Op.eqFields 9999 (p ++ flat μ v).toArray (q ++ flat μ u).toArray fs).run P w = .ok (eqP v u) w := by
  induction h with
  | nil =>
    intro v u p q hp hq hv hu
    obtain rfl := fits_nil hv
    obtain rfl := fits_nil hu
    simp [Op.eqFields, eqP]
  | @int o f fs ks k hn ho hty hs r ih =>
    intro v u p q hp hq hv hu
    obtain ⟨x, b, rfl, hb⟩ := fits_int hv
    obtain ⟨y, c, rfl, hc⟩ := fits_int hu
    have h1 := part_int hty p (flat μ b) (.int k x) o hp w
    have h2 := part_int hty q (flat μ c) (.int k y) o hq w
    have h3 := run_equalIn_int (P := P) w 9998 f.type k k x y hty
    have ih := ih b c (p ++ [.int k x]) (q ++ [.int k y]) (by simp [hp]) (by simp [hq]) hb hc
    simp only [List.append_assoc, List.singleton_append] at ih
    have e1 : flat μ (.pair (.int k x) b) = .int k x :: flat μ b := rfl
    have e2 : flat μ (.pair (.int k y) c) = .int k y :: flat μ c := rfl
    rw [e1, e2]
    unfold Op.eqFields
    rw [if_pos hn, ho]
    simp only [Sem.run_bind, h1, h2, h3, Result.andThen_ok]
    by_cases hxy : x = y
    · subst hxy
      simp only [beq_self_eq_true, Bool.not_true, Bool.false_eq_true, if_false, ih, eqP, Bool.true_and]
    · have : (x == y) = false := by simpa using hxy
      simp only [this, Bool.not_false, if_true, Sem.run_pure, eqP, Bool.false_and]
  | @row o n d f fs ks k hn ho hr hd hs r ih =>
    intro v u p q hp hq hv hu
    obtain ⟨x, b, rfl, hb⟩ := fits_row hv
    obtain ⟨y, c, rfl, hc⟩ := fits_row hu
    have h1 := part_row hr hs p (flat μ (.ints k n x)) (flat μ b) o hp (by simp [flat]) w
    have h2 := part_row hr hs q (flat μ (.ints k n y)) (flat μ c) o hq (by simp [flat]) w
    have h3 := run_equal_row hr 9999 hd μ k x y w
    have ih := ih b c (p ++ flat μ (.ints k n x)) (q ++ flat μ (.ints k n y)) (by simp [hp, flat]) (by simp [hq, flat]) hb hc
    simp only [List.append_assoc] at ih
    have e1 : flat μ (.pair (.ints k n x) b) = flat μ (.ints k n x) ++ flat μ b := rfl
    have e2 : flat μ (.pair (.ints k n y) c) = flat μ (.ints k n y) ++ flat μ c := rfl
    rw [e1, e2]
    unfold Op.eqFields
    rw [if_pos hn, ho]
    simp only [Sem.run_bind, h1, h2, h3, Result.andThen_ok]
    cases hxy : allEq n x y with
    | true => simp only [Bool.not_true, Bool.false_eq_true, if_false, ih, eqP, hxy, Bool.true_and]
    | false => simp only [Bool.not_false, if_true, Sem.run_pure, eqP, hxy, Bool.false_and]
  | slice => intro v u p q hp hq hv hu; exact (fits_slice hv).elim
  | scal => intro v u p q hp hq hv hu; exact (fits_scal hv).elim

theorem PairOK.slice {t : TypeId} : ∀ {ks : List FK}, (ks.any fun k => match k with | .slice | .scal => true | _ => false) = true → ∀ v, fitsF ks v = false
  | [], h => by simp at h
  | .slice :: r, _ => fun v => by cases hv : fitsF (.slice :: r) v with | false => rfl | true => exact (fits_slice hv).elim
  | .scal :: r, _ => fun v => by cases hv : fitsF (.scal :: r) v with | false => rfl | true => exact (fits_scal hv).elim
  | .int k :: r, h => fun v => by
    cases hv : fitsF (.int k :: r) v with
    | false => rfl
    | true => obtain ⟨x, b, rfl, hb⟩ := fits_int hv; rw [PairOK.slice (t := t) (ks := r) (by simpa using h)] at hb; cases hb
  | .row k n :: r, h => fun v => by
    cases hv : fitsF (.row k n :: r) v with
    | false => rfl
    | true => obtain ⟨x, b, rfl, hb⟩ := fits_row hv; rw [PairOK.slice (t := t) (ks := r) (by simpa using h)] at hb; cases hb
theorem PairOK.none {t : TypeId} {ks : List FK} (h : (ks.any fun k => match k with | .slice | .scal => true | _ => false) = true) : PairOK P t ks := by
  intro X Y μ a b c d w h1 h2
  rw [PairOK.slice (t := t) h] at h1
  cases h1

theorem PairOK.of {t : TypeId} {fs : Array Field} {ks : List FK} (h : P.underlying t = some (.struct fs)) (hf : FldsT P 0 fs.toList ks) (hs : P.stoodInHeld t = false) (hg : P.eqGuardType P.depth t = false) : PairOK P t ks := by
  intro X Y μ a b c d w h1 h2
  have hfo : P.fieldsOf t = fs := by simp [Program.fieldsOf, h]
  have hu : P.underlying t = some (.struct (P.fieldsOf t)) := by rw [hfo, h]
  have e : (Op.equal t (.agg (flat μ (.pair a b)).toArray) (.agg (flat μ (.pair c d)).toArray)).run P w = .ok (eqP (.pair a b) (.pair c d)) w := by
    have := eqFields_sound hf μ w (.pair a b) (.pair c d) [] [] rfl rfl h1 h2
    simp only [List.nil_append] at this
    have r := run_equalIn_struct (P := P) w 9999 t (flat μ (.pair a b)).toArray (flat μ (.pair c d)).toArray hu hs
    rw [hfo, this] at r
    exact r
  exact cmpRun_agg hg X Y _ _ e
end Go.Proofs.Ytojfjcbblkiajaa
