/- Regions that draw their order: whatever order is drawn, the frame ends as in the text's order, and the known blocks with it. -/
import Derived.Test.YtojfjcbblkiajaaCall
set_option linter.unusedVariables false
set_option linter.unusedSimpArgs false
namespace Go.Proofs.Ytojfjcbblkiajaa
variable {P : Program}

/-- what an operation of the head yields, in every world in which the known blocks lie -/
def Yl (P : Program) (ops : Array Oper) (E : World → Prop) (o : Oper) (a : Act) (v : Value) : Prop :=
  (Region.wanted o (yielded ops a.tmps) = true ∧ ∀ w, E w → (execOp a.eval o).run P w = .ok (.value v) w ∨
    ∃ f args, (execOp a.eval o).run P w = .ok (.enter f args) w ∧ Calls P f args w fun e w' => e = .returned v ∧ E w' ∧ w.heap.size ≤ w'.heap.size ∧ ∀ b, b < w.heap.size → w'.heap[b]? = w.heap[b]?) ∨
  (Region.wanted o (yielded ops a.tmps) = false ∧ v = undef)

theorem Yl.congr {ops : Array Oper} {E : World → Prop} {o : Oper} {a a' : Act} {v : Value} (h : Yl P ops E o a v) (he : execOp a'.eval o = execOp a.eval o)
    (hw : Region.wanted o (yielded ops a'.tmps) = Region.wanted o (yielded ops a.tmps)) : Yl P ops E o a' v := by
  unfold Yl at *; rw [he, hw]; exact h

/-- equal where the operation looks -/
def Agree (ops : Array Oper) (o : Oper) (a a' : Act) : Prop := ∀ t ∈ o.looksAt ops, a.tmps.getD t undef = a'.tmps.getD t undef ∧ a.tmps.size = a'.tmps.size

theorem Agree.exec {ops : Array Oper} {o : Oper} {a a' : Act} (hs : ∀ cs b, o.op ≠ .select cs b) (h : Agree ops o a a') : execOp a.eval o = execOp a'.eval o :=
  execOp_congr o hs fun x hx => by
    cases x with
    | tmp t =>
      have ht : t ∈ o.looksAt ops := List.mem_append_left _ (List.mem_filterMap.2 ⟨.tmp t, by simpa using hx, rfl⟩)
      exact (h t ht).1
    | _ => rfl

theorem Agree.wanted {ops : Array Oper} {o : Oper} {a a' : Act} (h : Agree ops o a a') : Region.wanted o (yielded ops a.tmps) = Region.wanted o (yielded ops a'.tmps) := by
  unfold Region.wanted
  cases hg : o.guard with
  | none => rfl
  | some gw =>
    obtain ⟨g, want⟩ := gw
    have : yielded ops a.tmps g = yielded ops a'.tmps g := by
      unfold yielded
      cases ht : (ops[g]?).bind (·.dst) with
      | none => rfl
      | some t =>
        have := h t (by simp [Oper.looksAt, hg, ht])
        obtain ⟨h1, h2⟩ := this
        simp only [Option.bind_some]
        rcases Nat.lt_or_ge t a.tmps.size with hlt | hge
        · have hlt' : t < a'.tmps.size := Nat.lt_of_lt_of_eq hlt h2
          simp [hlt, hlt'] at h1
          rw [Array.getElem?_eq_getElem hlt, Array.getElem?_eq_getElem hlt', h1]
        · rw [Array.getElem?_eq_none hge, Array.getElem?_eq_none (h2 ▸ hge)]
    simp only [this]

/-- what is made by an operation of the head -/
structure Made (P : Program) (o : Oper) (a : Act) (mkv : Nat → Value) (c : Array Value) (t : TypeId) : Prop where
  run : ∀ w, (execOp a.eval o).run P w = .ok (.value (mkv w.heap.size)) (w.alloc (.cells c t))

/-- a store into this slot's block has been listed -/
def Stored (ops : Array Oper) (n : Nat) (listed : Array Bool) (d : Tmp) : Prop := ∃ k, k < n ∧ stoAt ops k = some d ∧ listed.getD k false = true

/-- the state in the midst of the head -/
structure Mid (P : Program) (ops : Array Oper) (n : Nat) (A : Act) (E : World → Prop) (B : Nat) (mkv : Nat → Nat → Value) (cell cell2 : Nat → Array Value) (typ : Nat → TypeId) (listed : Array Bool) (a : Act) (w : World) (β : Nat → Nat) : Prop where
  e : E w
  big : B ≤ w.heap.size
  size : a.tmps.size = A.tmps.size
  defers : a.defers = A.defers
  yes : ∀ i o d, i < n → ops[i]? = some o → isNew o.op = false → o.dst = some d → listed.getD i false = true → a.tmps.getD d undef = A.tmps.getD d undef
  other : ∀ x, (∀ i, i < n → dstOf ops i ≠ some x) → a.tmps.getD x undef = A.tmps.getD x undef
  new : ∀ i o d, i < n → ops[i]? = some o → isNew o.op = true → o.dst = some d → listed.getD i false = true → a.tmps.getD d undef = mkv i (β i) ∧
    ((Stored ops n listed d → w.heap[β i]? = some (.cells (cell2 i) (typ i) (0, 0))) ∧ (¬ Stored ops n listed d → w.heap[β i]? = some (.cells (cell i) (typ i) (0, 0)))) ∧ B ≤ β i
  apart : ∀ i j o o', i < n → j < n → ops[i]? = some o → ops[j]? = some o' → isNew o.op = true → isNew o'.op = true → listed.getD i false = true → listed.getD j false = true → β i = β j → i = j
  dep : ∀ d, Stored ops n listed d → ∃ j, j < n ∧ dstOf ops j = some d ∧ listed.getD j false = true

theorem Mid.lt {ops : Array Oper} {n : Nat} {A : Act} {E : World → Prop} {B : Nat} {mkv : Nat → Nat → Value} {cell cell2 : Nat → Array Value} {typ : Nat → TypeId} {listed : Array Bool} {a : Act} {w : World} {β : Nat → Nat}
    (h : Mid P ops n A E B mkv cell cell2 typ listed a w β) {i : Nat} {o : Oper} {d : Tmp} (hi : i < n) (ho : ops[i]? = some o) (hn : isNew o.op = true) (hd : o.dst = some d) (hl : listed.getD i false = true) : β i < w.heap.size := by
  obtain ⟨_, ⟨h1, h2⟩, _⟩ := h.new i o d hi ho hn hd hl
  by_cases hs : Stored ops n listed d
  · exact (Array.getElem?_eq_some_iff.1 (h1 hs)).1
  · exact (Array.getElem?_eq_some_iff.1 (h2 hs)).1

theorem headB_one {N : Nat} {ops : Array Oper} {n i : Nat} {o : Oper} (ho : ops[i]? = some o) (hs : isSto o.op = false) (h : headB N ops n i = true) : headB1 N ops n i o = true := by
  unfold headB at h
  rw [ho] at h
  dsimp only at h
  split at h
  · rename_i t x y hop
    rw [hop] at hs; cases hs
  · exact h

theorem headB_sto {N : Nat} {ops : Array Oper} {n i : Nat} {o : Oper} {t : TypeId} {x : Tmp} {y : Operand} (ho : ops[i]? = some o) (hs : o.op = .store t (.tmp x) y) (h : headB N ops n i = true) : stoB1 ops n i o x y = true := by
  unfold headB at h
  rw [ho] at h
  dsimp only at h
  rw [hs] at h
  exact h

theorem isSto_iff {op : Op} (h : isSto op = true) : ∃ t x y, op = .store t (.tmp x) y := by
  unfold isSto at h
  split at h
  · exact ⟨_, _, _, rfl⟩
  · cases h

theorem backB_spec {o : Oper} {i : Nat} (h : backB o i = true) : ∀ e ∈ o.after, Region.binds .any e = true → e.on < i := fun e he hb => by
  have := Array.all_eq_true_iff_forall_mem.1 h e he
  simpa [hb] using this

theorem headB_back {N : Nat} {ops : Array Oper} {n i : Nat} {o : Oper} (ho : ops[i]? = some o) (h : headB N ops n i = true) : ∀ e ∈ o.after, Region.binds .any e = true → e.on < i := by
  cases hs : isSto o.op with
  | false =>
    have h := headB_one ho hs h
    unfold headB1 at h
    simp only [Bool.and_eq_true] at h
    exact backB_spec h.1.1.2
  | true =>
    obtain ⟨t, x, y, hop⟩ := isSto_iff hs
    have h := headB_sto ho hop h
    unfold stoB1 at h
    simp only [Bool.and_eq_true] at h
    exact backB_spec h.1.1.1.2

theorem headB_spec {N : Nat} {ops : Array Oper} {n i : Nat} {o : Oper} (ho : ops[i]? = some o) (hs : isSto o.op = false) (h : headB N ops n i = true) :
    (∃ d, o.dst = some d ∧ d < N) ∧ (isNew o.op = true → o.guard = none) ∧ (∀ j, j < n → i ≠ j → dstOf ops j ≠ dstOf ops i) ∧
      ∀ j d, j < n → dstOf ops j = some d → d ∈ o.looksAt ops → Region.waitsFor .any ops i j = true ∧ ∀ oj, ops[j]? = some oj → isNew oj.op = false := by
  have h := headB_one ho hs h
  unfold headB1 at h
  simp only [Bool.and_eq_true, List.all_eq_true, List.mem_range] at h
  obtain ⟨⟨⟨h1, h2⟩, h3⟩, h4⟩ := h
  refine ⟨(by cases hd : o.dst with
    | none => rw [hd] at h1; cases h1
    | some d => rw [hd] at h1; exact ⟨d, rfl, by simpa using h1⟩), fun hn => ?_, fun j hj hne heq => ?_, fun j d hj hd hl => ?_⟩
  · simpa [hn] using h3
  · have := (h4 j hj).1
    simp [hne, heq] at this
  · have := (h4 j hj).2
    rw [hd] at this
    have hc : (o.looksAt ops).contains d = true := by simpa using hl
    simp only [hc, Bool.not_true, Bool.false_or, Bool.and_eq_true, Bool.not_eq_true'] at this
    refine ⟨this.1, fun oj hoj => ?_⟩
    have h5 := this.2
    rw [hoj] at h5
    simpa using h5

theorem stoB_spec {N : Nat} {ops : Array Oper} {n i : Nat} {o : Oper} {t : TypeId} {x : Tmp} {y : Operand} (ho : ops[i]? = some o) (hop : o.op = .store t (.tmp x) y) (h : headB N ops n i = true) :
    o.dst = none ∧ o.guard = none ∧ (∃ j oj, j < n ∧ ops[j]? = some oj ∧ oj.dst = some x ∧ isPtr oj.op = true ∧ Region.waitsFor .any ops i j = true) ∧ (∀ j, j < n → i ≠ j → stoAt ops j ≠ some x) ∧
      ∀ j d, j < n → dstOf ops j = some d → y = .tmp d → Region.waitsFor .any ops i j = true ∧ ∀ oj, ops[j]? = some oj → isNew oj.op = false := by
  have h := headB_sto ho hop h
  unfold stoB1 at h
  simp only [Bool.and_eq_true, List.all_eq_true, List.any_eq_true, List.mem_range] at h
  obtain ⟨⟨⟨⟨h1, h2⟩, h3⟩, j, hj, h4⟩, h5⟩ := h
  refine ⟨by simpa using h1, by simpa using h3, ?_, fun k hk hne he => ?_, fun k d hk hd hy => ?_⟩
  · obtain ⟨⟨h6, h7⟩, h8⟩ := h4
    cases hoj : ops[j]? with
    | none => rw [hoj] at h8; cases h8
    | some oj =>
      rw [hoj] at h8
      exact ⟨j, oj, hj, hoj, by simpa [dstOf, hoj] using h6, by simpa using h8, h7⟩
  · have := (h5 k hk).1
    simp [hne, he] at this
  · have := (h5 k hk).2
    rw [hd, hy] at this
    simp only [Nat.beq_refl, Bool.not_true, Bool.false_or, Bool.and_eq_true, Bool.not_eq_true'] at this
    refine ⟨this.1, fun oj hoj => ?_⟩
    have h5 := this.2
    rw [hoj] at h5
    simpa using h5

theorem new_not_sto {op : Op} (h : isNew op = true) : isSto op = false := by
  cases op <;> simp_all [isNew, isSto]
theorem ptr_new {op : Op} (h : isPtr op = true) : isNew op = true := by
  cases op <;> simp_all [isNew, isPtr]
theorem dst_not_sto {N : Nat} {ops : Array Oper} {n i : Nat} {o : Oper} {d : Tmp} (ho : ops[i]? = some o) (hd : o.dst = some d) (h : headB N ops n i = true) : isSto o.op = false := by
  cases hs : isSto o.op with
  | false => rfl
  | true =>
    obtain ⟨t, x, y, hop⟩ := isSto_iff hs
    have := (stoB_spec ho hop h).1
    rw [hd] at this; cases this
theorem stoAt_of {ops : Array Oper} {i : Nat} {o : Oper} {t : TypeId} {x : Tmp} {y : Operand} (ho : ops[i]? = some o) (hop : o.op = .store t (.tmp x) y) : stoAt ops i = some x := by
  simp [stoAt, ho, hop]
theorem stoAt_none {ops : Array Oper} {i : Nat} {o : Oper} (ho : ops[i]? = some o) (hs : isSto o.op = false) : stoAt ops i = none := by
  unfold stoAt
  rw [ho]
  dsimp only
  split
  · rename_i h
    rw [h] at hs; cases hs
  · rfl
theorem getD_put (a : Act) (d x : Nat) (v : Value) : (a.put (some d) v).tmps.getD x undef = if d = x ∧ d < a.tmps.size then v else a.tmps.getD x undef := by
  by_cases h : d = x
  · subst h
    by_cases hlt : d < a.tmps.size
    · simp [Act.put, hlt]
    · simp [Act.put, hlt]
  · simp [Act.put, h, Array.getElem?_setIfInBounds_ne h]

section
variable {N : Nat} {ops : Array Oper} {n : Nat} {A : Act} {E : World → Prop} {B : Nat} {mkv : Nat → Nat → Value} {cell cell2 : Nat → Array Value} {typ : Nat → TypeId}

theorem getD_set_cases {listed : Array Bool} {i j : Nat} (h : (listed.setIfInBounds i true).getD j false = true) : i = j ∨ listed.getD j false = true := by
  by_cases hij : i = j
  · exact .inl hij
  · rw [getD_set_ne false hij] at h; exact .inr h
theorem getD_set_mono {listed : Array Bool} {i j : Nat} (h : listed.getD j false = true) : (listed.setIfInBounds i true).getD j false = true := by
  by_cases hij : i = j
  · subst hij
    have hlt : i < listed.size := by
      rcases Nat.lt_or_ge i listed.size with h' | h'
      · exact h'
      · simp [Array.getElem?_eq_none h'] at h
    simp [hlt]
  · rw [getD_set_ne false hij]; exact h

theorem stored_set {listed : Array Bool} {i : Nat} {d : Tmp} (hi : stoAt ops i ≠ some d) : Stored ops n (listed.setIfInBounds i true) d ↔ Stored ops n listed d := by
  constructor
  · rintro ⟨k, hk, hs, hl⟩
    rcases getD_set_cases hl with rfl | hl
    · exact absurd hs hi
    · exact ⟨k, hk, hs, hl⟩
  · rintro ⟨k, hk, hs, hl⟩
    exact ⟨k, hk, hs, getD_set_mono hl⟩

theorem Mid.put_old {listed : Array Bool} {a : Act} {w w' : World} {β : Nat → Nat} (hall : ∀ i, i < n → headB N ops n i = true) (h : Mid P ops n A E B mkv cell cell2 typ listed a w β) {i d : Nat} {o : Oper} (hi : i < n) (ho : ops[i]? = some o) (hn : isNew o.op = false) (hso : isSto o.op = false) (hd : o.dst = some d)
    (hw : E w') (hs : w.heap.size ≤ w'.heap.size) (hk : ∀ b, b < w.heap.size → w'.heap[b]? = w.heap[b]?) : Mid P ops n A E B mkv cell cell2 typ (listed.setIfInBounds i true) (a.put o.dst (A.tmps.getD d undef)) w' β := by
  have hdi : dstOf ops i = some d := by simp [dstOf, ho, hd]
  have val : ∀ x, (a.put (some d) (A.tmps.getD d undef)).tmps.getD x undef = if x = d then A.tmps.getD d undef else a.tmps.getD x undef := fun x => by
    rw [getD_put]
    by_cases hx : x = d
    · subst hx
      by_cases hlt : x < a.tmps.size
      · simp [hlt]
      · have : ¬ x < A.tmps.size := by rw [← h.size]; exact hlt
        simp [hlt, this]
    · rw [if_neg (fun hh => hx hh.1.symm), if_neg hx]
  have hst : ∀ x, Stored ops n (listed.setIfInBounds i true) x ↔ Stored ops n listed x := fun x => stored_set (by rw [stoAt_none ho hso]; intro hh; cases hh)
  rw [hd]
  refine ⟨hw, Nat.le_trans h.big hs, by simp [Act.put, h.size], by simp [Act.put, h.defers], fun j oj dj hj hoj hnj hdj hl => ?_, fun x hx => ?_, fun j oj dj hj hoj hnj hdj hl => ?_, fun j k oj ok hj hk' hoj hok hnj hnk hlj hlk he => ?_, fun x hx => ?_⟩
  · rw [val]
    by_cases hjd : dj = d
    · rw [if_pos hjd, hjd]
    · rw [if_neg hjd]
      rcases getD_set_cases hl with rfl | hl
      · rw [ho] at hoj; cases hoj; rw [hd] at hdj; cases hdj; exact absurd rfl hjd
      · exact h.yes j oj dj hj hoj hnj hdj hl
  · rw [val, if_neg (fun hh => hx i hi (by rw [hdi, hh]))]
    exact h.other x hx
  · have hji : i ≠ j := by rintro rfl; rw [ho] at hoj; cases hoj; rw [hn] at hnj; cases hnj
    rcases getD_set_cases hl with rfl | hl
    · exact absurd rfl hji
    have hlt := h.lt hj hoj hnj hdj hl
    obtain ⟨h1, h2, h3⟩ := h.new j oj dj hj hoj hnj hdj hl
    have hne : dj ≠ d := fun hh => (headB_spec ho hso (hall i hi)).2.2.1 j hj hji (by rw [hdi]; simp [dstOf, hoj, hdj, hh])
    refine ⟨by rw [val, if_neg hne]; exact h1, ?_, h3⟩
    rw [hk _ hlt, hst]; exact h2
  · have hji : i ≠ j := by rintro rfl; rw [ho] at hoj; cases hoj; rw [hn] at hnj; cases hnj
    have hki : i ≠ k := by rintro rfl; rw [ho] at hok; cases hok; rw [hn] at hnk; cases hnk
    rw [getD_set_ne false hji] at hlj
    rw [getD_set_ne false hki] at hlk
    exact h.apart j k oj ok hj hk' hoj hok hnj hnk hlj hlk he
  · obtain ⟨j, hj, hdj, hl⟩ := h.dep x ((hst x).1 hx)
    exact ⟨j, hj, hdj, getD_set_mono hl⟩

theorem Mid.put_new {listed : Array Bool} {a : Act} {w : World} {β : Nat → Nat} (hall : ∀ i, i < n → headB N ops n i = true) (h : Mid P ops n A E B mkv cell cell2 typ listed a w β) {i d : Nat} {o : Oper} (hi : i < n) (ho : ops[i]? = some o) (hn : isNew o.op = true) (hd : o.dst = some d) (hdlt : d < A.tmps.size)
    (hun : listed.getD i false = false) (hw : E (w.alloc (.cells (cell i) (typ i)))) : Mid P ops n A E B mkv cell cell2 typ (listed.setIfInBounds i true) (a.put o.dst (mkv i w.heap.size)) (w.alloc (.cells (cell i) (typ i))) (fun j => if j = i then w.heap.size else β j) := by
  have hdi : dstOf ops i = some d := by simp [dstOf, ho, hd]
  have hso : isSto o.op = false := new_not_sto hn
  have val : ∀ x, (a.put (some d) (mkv i w.heap.size)).tmps.getD x undef = if x = d then mkv i w.heap.size else a.tmps.getD x undef := fun x => by
    rw [getD_put]
    by_cases hx : x = d
    · subst hx; rw [if_pos ⟨rfl, by rw [h.size]; exact hdlt⟩, if_pos rfl]
    · rw [if_neg (fun hh => hx hh.1.symm), if_neg hx]
  have other_d : ∀ j oj dj, j < n → ops[j]? = some oj → oj.dst = some dj → i ≠ j → dj ≠ d := fun j oj dj hj hoj hdj hji hh => (headB_spec ho hso (hall i hi)).2.2.1 j hj hji (by rw [hdi]; simp [dstOf, hoj, hdj, hh])
  have hst : ∀ x, Stored ops n (listed.setIfInBounds i true) x ↔ Stored ops n listed x := fun x => stored_set (by rw [stoAt_none ho hso]; intro hh; cases hh)
  have hns : ¬ Stored ops n listed d := fun hh => by
    obtain ⟨j, hj, hdj, hl⟩ := h.dep d hh
    by_cases hji : i = j
    · subst hji; rw [hun] at hl; cases hl
    · exact (headB_spec ho hso (hall i hi)).2.2.1 j hj hji (by rw [hdi, hdj])
  rw [hd]
  refine ⟨hw, by rw [push_size]; have := h.big; omega, by simp [Act.put, h.size], by simp [Act.put, h.defers], fun j oj dj hj hoj hnj hdj hl => ?_, fun x hx => ?_, fun j oj dj hj hoj hnj hdj hl => ?_, fun j k oj ok hj hk' hoj hok hnj hnk hlj hlk he => ?_, fun x hx => ?_⟩
  · have hji : i ≠ j := by rintro rfl; rw [ho] at hoj; cases hoj; rw [hn] at hnj; cases hnj
    rw [getD_set_ne false hji] at hl
    rw [val, if_neg (other_d j oj dj hj hoj hdj hji)]
    exact h.yes j oj dj hj hoj hnj hdj hl
  · rw [val, if_neg (fun hh => hx i hi (by rw [hdi, hh]))]
    exact h.other x hx
  · by_cases hji : i = j
    · subst hji
      rw [ho] at hoj; cases hoj
      rw [hd] at hdj; cases hdj
      simp only [if_true]
      refine ⟨by rw [val, if_pos rfl], ?_, h.big⟩
      rw [hst]
      exact ⟨fun hh => absurd hh hns, fun _ => push_new w _⟩
    · rw [getD_set_ne false hji] at hl
      have hlt := h.lt hj hoj hnj hdj hl
      obtain ⟨h1, h2, h3⟩ := h.new j oj dj hj hoj hnj hdj hl
      simp only [show ¬ j = i from fun hh => hji hh.symm, if_false]
      refine ⟨by rw [val, if_neg (other_d j oj dj hj hoj hdj hji)]; exact h1, ?_, h3⟩
      rw [push_old w _ hlt, hst]; exact h2
  · have lt : ∀ k ok, k < n → ops[k]? = some ok → isNew ok.op = true → i ≠ k → (listed.setIfInBounds i true).getD k false = true → β k < w.heap.size := fun k ok hk hok hnk hki hl => by
      rw [getD_set_ne false hki] at hl
      obtain ⟨⟨dk, hdk, _⟩, _⟩ := headB_spec hok (new_not_sto hnk) (hall k hk)
      exact h.lt hk hok hnk hdk hl
    by_cases hji : i = j
    · by_cases hki : i = k
      · omega
      · have := lt k ok hk' hok hnk hki hlk
        simp only [hji.symm, if_true, show ¬ k = i from fun hh => hki hh.symm, if_false] at he
        omega
    · by_cases hki : i = k
      · have := lt j oj hj hoj hnj hji hlj
        simp only [hki.symm, if_true, show ¬ j = i from fun hh => hji hh.symm, if_false] at he
        omega
      · rw [getD_set_ne false hji] at hlj
        rw [getD_set_ne false hki] at hlk
        simp only [show ¬ j = i from fun hh => hji hh.symm, show ¬ k = i from fun hh => hki hh.symm, if_false] at he
        exact h.apart j k oj ok hj hk' hoj hok hnj hnk hlj hlk he
  · obtain ⟨j, hj, hdj, hl⟩ := h.dep x ((hst x).1 hx)
    exact ⟨j, hj, hdj, getD_set_mono hl⟩

theorem Mid.put_sto {listed : Array Bool} {a : Act} {w w' : World} {β : Nat → Nat} (hall : ∀ i, i < n → headB N ops n i = true) (h : Mid P ops n A E B mkv cell cell2 typ listed a w β) {i j : Nat} {o oj : Oper} {t : TypeId} {x : Tmp} {y : Operand} (hi : i < n) (ho : ops[i]? = some o) (hop : o.op = .store t (.tmp x) y)
    (hil : i < listed.size) (hj : j < n) (hoj : ops[j]? = some oj) (hnj : isNew oj.op = true) (hdj : oj.dst = some x) (hlj : listed.getD j false = true) (hw : E w') (hs : w'.heap.size = w.heap.size) (hk : ∀ b, b ≠ β j → w'.heap[b]? = w.heap[b]?)
    (hnew : w'.heap[β j]? = some (.cells (cell2 j) (typ j) (0, 0))) : Mid P ops n A E B mkv cell cell2 typ (listed.setIfInBounds i true) (a.put o.dst undef) w' β := by
  have hso : isSto o.op = true := by rw [hop]; rfl
  have hdn : o.dst = none := (stoB_spec ho hop (hall i hi)).1
  have ne_new : ∀ k ok dk, k < n → ops[k]? = some ok → ok.dst = some dk → i ≠ k := fun k ok dk hk hok hdk hik => by subst hik; rw [ho] at hok; cases hok; rw [hdn] at hdk; cases hdk
  have hat : stoAt ops i = some x := stoAt_of ho hop
  have hst : ∀ z, z ≠ x → (Stored ops n (listed.setIfInBounds i true) z ↔ Stored ops n listed z) := fun z hz => stored_set (by rw [hat]; intro hh; cases hh; exact hz rfl)
  have hsx : Stored ops n (listed.setIfInBounds i true) x := ⟨i, hi, hat, by simp [hil]⟩
  rw [hdn]
  refine ⟨hw, by rw [hs]; exact h.big, h.size, h.defers, fun k ok dk hk' hok hnk hdk hl => ?_, h.other, fun k ok dk hk' hok hnk hdk hl => ?_, fun k q ok oq hk' hq hok hoq hnk hnq hlk hlq he => ?_, fun z hz => ?_⟩
  · rw [getD_set_ne false (ne_new k ok dk hk' hok hdk)] at hl
    exact h.yes k ok dk hk' hok hnk hdk hl
  · rw [getD_set_ne false (ne_new k ok dk hk' hok hdk)] at hl
    obtain ⟨h1, h2, h3⟩ := h.new k ok dk hk' hok hnk hdk hl
    refine ⟨h1, ?_, h3⟩
    by_cases hkj : k = j
    · subst hkj
      rw [hoj] at hok; cases hok
      rw [hdj] at hdk; cases hdk
      exact ⟨fun _ => hnew, fun hh => absurd hsx hh⟩
    · have hne : β k ≠ β j := fun he => hkj (h.apart k j ok oj hk' hj hok hoj hnk hnj hl hlj he)
      have hdx : dk ≠ x := by
        rintro rfl
        exact (headB_spec hoj (new_not_sto hnj) (hall j hj)).2.2.1 k hk' (fun e => hkj e.symm) (by simp [dstOf, hok, hoj, hdk, hdj])
      rw [hk _ hne, hst dk hdx]
      exact h2
  · have g1 : ∃ dk, ok.dst = some dk := by obtain ⟨⟨dk, hdk, _⟩, _⟩ := headB_spec hok (new_not_sto hnk) (hall k hk'); exact ⟨dk, hdk⟩
    have g2 : ∃ dq, oq.dst = some dq := by obtain ⟨⟨dq, hdq, _⟩, _⟩ := headB_spec hoq (new_not_sto hnq) (hall q hq); exact ⟨dq, hdq⟩
    obtain ⟨dk, hdk⟩ := g1
    obtain ⟨dq, hdq⟩ := g2
    rw [getD_set_ne false (ne_new k ok dk hk' hok hdk)] at hlk
    rw [getD_set_ne false (ne_new q oq dq hq hoq hdq)] at hlq
    exact h.apart k q ok oq hk' hq hok hoq hnk hnq hlk hlq he
  · by_cases hzx : z = x
    · subst hzx
      exact ⟨j, hj, by simp [dstOf, hoj, hdj], getD_set_mono hlj⟩
    · obtain ⟨k, hk', hdk, hl⟩ := h.dep z ((hst z hzx).1 hz)
      exact ⟨k, hk', hdk, getD_set_mono hl⟩

/-- what the head's stores do -/
def StoOK (P : Program) (ops : Array Oper) (n : Nat) (A : Act) (E : World → Prop) (B : Nat) (mkv : Nat → Nat → Value) (cell cell2 : Nat → Array Value) (typ : Nat → TypeId) : Prop :=
  ∀ i o t x y j oj, i < n → ops[i]? = some o → o.op = .store t (.tmp x) y → j < n → ops[j]? = some oj → oj.dst = some x → isPtr oj.op = true → ∀ (a' : Act) w b, a'.eval (.tmp x) = mkv j b → a'.eval y = A.eval y → E w →
    w.heap[b]? = some (.cells (cell j) (typ j) (0, 0)) → B ≤ b → ∃ w', (execOp a'.eval o).run P w = .ok .skip w' ∧ w'.heap[b]? = some (.cells (cell2 j) (typ j) (0, 0)) ∧ w'.heap.size = w.heap.size ∧ (∀ b', b' ≠ b → w'.heap[b']? = w.heap[b']?) ∧ E w'

theorem mid_step {Q : Exit → Act → World → Prop} {listed : Array Bool} {a : Act} {w : World} {β : Nat → Nat} (hsel : Region.noSelect ops = true) (hall : ∀ i, i < n → headB N ops n i = true)
    (hold : ∀ i o d, i < n → ops[i]? = some o → isNew o.op = false → o.dst = some d → Yl P ops E o A (A.tmps.getD d undef))
    (hnew : ∀ i o, i < n → ops[i]? = some o → isNew o.op = true → Made P o A (mkv i) (cell i) (typ i))
    (hsto : StoOK P ops n A E B mkv cell cell2 typ)
    (hbound : ∀ i o d, i < n → ops[i]? = some o → isNew o.op = true → o.dst = some d → d < A.tmps.size)
    (hEa : ∀ w c t, E w → E (w.alloc (.cells c t))) (h : Mid P ops n A E B mkv cell cell2 typ listed a w β) {i : Nat} (hi : i < n) (hls : listed.size = ops.size) (hr : i ∈ Region.ready .any ops listed) {K : Act → World → Prop}
    (hK : ∀ a' w' β', Mid P ops n A E B mkv cell cell2 typ (listed.setIfInBounds i true) a' w' β' → K a' w') : wpOp P ops Q i K a w := by
  obtain ⟨hun, o, ho, hdeps⟩ := mem_ready.1 hr
  have his : i < listed.size := by rw [hls]; exact (Array.getElem?_eq_some_iff.1 ho).1
  have hunf : listed.getD i false = false := by
    simp [his] at hun ⊢
    exact hun
  have waited : ∀ j, Region.waitsFor .any ops i j = true → listed.getD j false = true := fun j hwt => by
    obtain ⟨o', ho', e, he, hb, hon⟩ := Region.waitsFor_spec hwt
    rw [ho] at ho'; cases ho'
    have hl := hdeps e he hb
    rw [hon] at hl
    exact hl
  unfold wpOp
  rw [ho]
  dsimp only
  cases hso : isSto o.op with
  | true =>
    obtain ⟨t, x, y, hop⟩ := isSto_iff hso
    obtain ⟨hdn, hg, ⟨j, oj, hj, hoj, hdj, hpj, hwj⟩, _, hy⟩ := stoB_spec ho hop (hall i hi)
    have hlj := waited j hwj
    have hnj := ptr_new hpj
    obtain ⟨h1, ⟨_, h2⟩, h3⟩ := h.new j oj x hj hoj hnj hdj hlj
    have hns : ¬ Stored ops n listed x := by
      rintro ⟨k, hk, hs, hl⟩
      by_cases hki : i = k
      · subst hki; rw [hunf] at hl; cases hl
      · exact (stoB_spec ho hop (hall i hi)).2.2.2.1 k hk hki hs
    have hev : a.eval y = A.eval y := by
      cases y with
      | tmp z =>
        show a.tmps.getD z undef = A.tmps.getD z undef
        by_cases hex : ∃ k, k < n ∧ dstOf ops k = some z
        · obtain ⟨k, hk, hdk⟩ := hex
          obtain ⟨hwt, hnk⟩ := hy k z hk hdk rfl
          cases hok : ops[k]? with
          | none => simp [dstOf, hok] at hdk
          | some ok => exact h.yes k ok z hk hok (hnk ok hok) (by simpa [dstOf, hok] using hdk) (waited k hwt)
        · exact h.other z fun k hk hh => hex ⟨k, hk, hh⟩
      | _ => rfl
    obtain ⟨w', hrun, hc, hsz, hkeep, hE'⟩ := hsto i o t x y j oj hi ho hop hj hoj hdj hpj a w (β j) h1 hev h.e (h2 hns) h3
    have hw : Region.wanted o (yielded ops a.tmps) = true := by simp [Region.wanted, hg]
    rw [if_pos hw]
    refine .inl ?_
    unfold Oper.wp
    rw [hrun]
    exact hK _ _ β (h.put_sto hall hi ho hop his hj hoj hnj hdj hlj hE' hsz hkeep hc)
  | false =>
  obtain ⟨⟨d, hd, hdN⟩, hguard, hdist, hlook⟩ := headB_spec ho hso (hall i hi)
  have hag : Agree ops o a A := fun t ht => by
    refine ⟨?_, h.size⟩
    by_cases hex : ∃ j, j < n ∧ dstOf ops j = some t
    · obtain ⟨j, hj, hdj⟩ := hex
      obtain ⟨hwt, hnj⟩ := hlook j t hj hdj ht
      cases hoj : ops[j]? with
      | none => simp [dstOf, hoj] at hdj
      | some oj => exact h.yes j oj t hj hoj (hnj oj hoj) (by simpa [dstOf, hoj] using hdj) (waited j hwt)
    · exact h.other t fun j hj hh => hex ⟨j, hj, hh⟩
  have hex := hag.exec (Region.noSelect_spec hsel i o · · ho)
  have hwt := hag.wanted
  cases hn : isNew o.op with
  | false =>
    have hY := (hold i o d hi ho hn hd).congr hex hwt
    rcases hY with ⟨hw, hrun⟩ | ⟨hw, hv⟩
    · rw [if_pos hw]
      refine .inl ?_
      unfold Oper.wp
      rcases hrun w h.e with hrun | ⟨f, args, hrun, hcall⟩
      · rw [hrun]
        exact hK _ _ β (h.put_old hall hi ho hn hso hd h.e (Nat.le_refl _) fun _ _ => rfl)
      · rw [hrun]
        refine hcall.mono ?_
        rintro e w' ⟨rfl, hE, hsz, hkeep⟩
        exact hK _ _ β (h.put_old hall hi ho hn hso hd hE hsz hkeep)
    · rw [if_neg (by rw [hw]; simp)]
      rw [← hv]
      exact hK _ _ β (h.put_old hall hi ho hn hso hd h.e (Nat.le_refl _) fun _ _ => rfl)
  | true =>
    have hw : Region.wanted o (yielded ops a.tmps) = true := by simp [Region.wanted, hguard hn]
    rw [if_pos hw]
    refine .inl ?_
    unfold Oper.wp
    have hrun := (hnew i o hi ho hn).run w
    rw [← hex] at hrun
    rw [hrun]
    exact hK _ _ _ (h.put_new hall hi ho hn hd (hbound i o d hi ho hn hd) hunf (hEa w _ _ h.e))
end
end Go.Proofs.Ytojfjcbblkiajaa
