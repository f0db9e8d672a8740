/- Regions that draw their order: whatever order is drawn, the frame ends as in the text's order, and the known blocks with it. -/
import Derived.Test.YtbmpapinpnchmaaCall
set_option linter.unusedVariables false
set_option linter.unusedSimpArgs false
namespace Go.Proofs.Ytbmpapinpnchmaa
variable {P : Program}

/-- what an operation of the head yields, in every world in which the known blocks lie -/
def Yl (P : Program) (ops : Array Oper) (E : World → Prop) (o : Oper) (a : Act) (v : Value) : Prop :=
  (Region.wanted o (yielded ops a.tmps) = true ∧ ∀ w, E w → (execOp a.eval o).run P w = .ok (.value v) w ∨
    ∃ f args, (execOp a.eval o).run P w = .ok (.enter f args) w ∧ Calls P f args w fun e w' => e = .returned v ∧ E w' ∧ w.heap.size ≤ w'.heap.size ∧ ∀ b, b < w.heap.size → w'.heap[b]? = w.heap[b]?) ∨
  (Region.wanted o (yielded ops a.tmps) = false ∧ v = undef)

theorem Yl.congr {ops : Array Oper} {E : World → Prop} {o : Oper} {a a' : Act} {v : Value} (h : Yl P ops E o a v) (he : execOp a'.eval o = execOp a.eval o)
    (hw : Region.wanted o (yielded ops a'.tmps) = Region.wanted o (yielded ops a.tmps)) : Yl P ops E o a' v := by
  unfold Yl at *; rw [he, hw]; exact h

/-- equal where the operation looks -/
def Agree (ops : Array Oper) (o : Oper) (a a' : Act) : Prop := ∀ t ∈ o.looksAt ops, a.tmps.getD t undef = a'.tmps.getD t undef ∧ a.tmps.size = a'.tmps.size

theorem Agree.exec {ops : Array Oper} {o : Oper} {a a' : Act} (hs : ∀ cs b, o.op ≠ .select cs b) (h : Agree ops o a a') : execOp a.eval o = execOp a'.eval o :=
  execOp_congr o hs fun x hx => by
    cases x with
    | tmp t =>
      have ht : t ∈ o.looksAt ops := List.mem_append_left _ (List.mem_filterMap.2 ⟨.tmp t, by simpa using hx, rfl⟩)
      exact (h t ht).1
    | _ => rfl

theorem Agree.wanted {ops : Array Oper} {o : Oper} {a a' : Act} (h : Agree ops o a a') : Region.wanted o (yielded ops a.tmps) = Region.wanted o (yielded ops a'.tmps) := by
  unfold Region.wanted
  cases hg : o.guard with
  | none => rfl
  | some gw =>
    obtain ⟨g, want⟩ := gw
    have : yielded ops a.tmps g = yielded ops a'.tmps g := by
      unfold yielded
      cases ht : (ops[g]?).bind (·.dst) with
      | none => rfl
      | some t =>
        have := h t (by simp [Oper.looksAt, hg, ht])
        obtain ⟨h1, h2⟩ := this
        simp only [Option.bind_some]
        rcases Nat.lt_or_ge t a.tmps.size with hlt | hge
        · have hlt' : t < a'.tmps.size := Nat.lt_of_lt_of_eq hlt h2
          simp [hlt, hlt'] at h1
          rw [Array.getElem?_eq_getElem hlt, Array.getElem?_eq_getElem hlt', h1]
        · rw [Array.getElem?_eq_none hge, Array.getElem?_eq_none (h2 ▸ hge)]
    simp only [this]

/-- what is made by an operation of the head -/
structure Made (P : Program) (o : Oper) (a : Act) (mkv : Nat → Value) (c : Array Value) (t : TypeId) : Prop where
  run : ∀ w, (execOp a.eval o).run P w = .ok (.value (mkv w.heap.size)) (w.alloc (.cells c t))

/-- the state in the midst of the head -/
structure Mid (P : Program) (ops : Array Oper) (n : Nat) (A : Act) (E : World → Prop) (B : Nat) (mkv : Nat → Nat → Value) (cell : Nat → Array Value) (typ : Nat → TypeId) (listed : Array Bool) (a : Act) (w : World) (β : Nat → Nat) : Prop where
  e : E w
  big : B ≤ w.heap.size
  size : a.tmps.size = A.tmps.size
  defers : a.defers = A.defers
  yes : ∀ i o d, i < n → ops[i]? = some o → isNew o.op = false → o.dst = some d → listed.getD i false = true → a.tmps.getD d undef = A.tmps.getD d undef
  other : ∀ x, (∀ i, i < n → dstOf ops i ≠ some x) → a.tmps.getD x undef = A.tmps.getD x undef
  new : ∀ i o d, i < n → ops[i]? = some o → isNew o.op = true → o.dst = some d → listed.getD i false = true → a.tmps.getD d undef = mkv i (β i) ∧ w.heap[β i]? = some (.cells (cell i) (typ i) (0, 0)) ∧ B ≤ β i
  apart : ∀ i j o o', i < n → j < n → ops[i]? = some o → ops[j]? = some o' → isNew o.op = true → isNew o'.op = true → listed.getD i false = true → listed.getD j false = true → β i = β j → i = j

theorem headB_spec {N : Nat} {ops : Array Oper} {n i : Nat} {o : Oper} (ho : ops[i]? = some o) (h : headB N ops n i = true) :
    (∃ d, o.dst = some d ∧ d < N) ∧ (∀ e ∈ o.after, Region.binds .any e = true → e.on < i) ∧ (isNew o.op = true → o.guard = none) ∧ (∀ j, j < n → i ≠ j → dstOf ops j ≠ dstOf ops i) ∧
      ∀ j d, j < n → dstOf ops j = some d → d ∈ o.looksAt ops → Region.waitsFor .any ops i j = true ∧ ∀ oj, ops[j]? = some oj → isNew oj.op = false := by
  unfold headB at h
  rw [ho] at h
  simp only [Bool.and_eq_true, List.all_eq_true, List.mem_range] at h
  obtain ⟨⟨⟨h1, h2⟩, h3⟩, h4⟩ := h
  refine ⟨(by cases hd : o.dst with
    | none => rw [hd] at h1; cases h1
    | some d => rw [hd] at h1; exact ⟨d, rfl, by simpa using h1⟩), fun e he hb => ?_, fun hn => ?_, fun j hj hne heq => ?_, fun j d hj hd hl => ?_⟩
  · have := Array.all_eq_true_iff_forall_mem.1 h2 e he
    simpa [hb] using this
  · simpa [hn] using h3
  · have := (h4 j hj).1
    simp [hne, heq] at this
  · have := (h4 j hj).2
    rw [hd] at this
    have hc : (o.looksAt ops).contains d = true := by simpa using hl
    simp only [hc, Bool.not_true, Bool.false_or, Bool.and_eq_true, Bool.not_eq_true'] at this
    refine ⟨this.1, fun oj hoj => ?_⟩
    have h5 := this.2
    rw [hoj] at h5
    simpa using h5
theorem getD_put (a : Act) (d x : Nat) (v : Value) : (a.put (some d) v).tmps.getD x undef = if d = x ∧ d < a.tmps.size then v else a.tmps.getD x undef := by
  by_cases h : d = x
  · subst h
    by_cases hlt : d < a.tmps.size
    · simp [Act.put, hlt]
    · simp [Act.put, hlt]
  · simp [Act.put, h, Array.getElem?_setIfInBounds_ne h]

section
variable {N : Nat} {ops : Array Oper} {n : Nat} {A : Act} {E : World → Prop} {B : Nat} {mkv : Nat → Nat → Value} {cell : Nat → Array Value} {typ : Nat → TypeId}

theorem getD_set_cases {listed : Array Bool} {i j : Nat} (h : (listed.setIfInBounds i true).getD j false = true) : i = j ∨ listed.getD j false = true := by
  by_cases hij : i = j
  · exact .inl hij
  · rw [getD_set_ne false hij] at h; exact .inr h

theorem Mid.put_old {listed : Array Bool} {a : Act} {w w' : World} {β : Nat → Nat} (hall : ∀ i, i < n → headB N ops n i = true) (h : Mid P ops n A E B mkv cell typ listed a w β) {i d : Nat} {o : Oper} (hi : i < n) (ho : ops[i]? = some o) (hn : isNew o.op = false) (hd : o.dst = some d)
    (hw : E w') (hs : w.heap.size ≤ w'.heap.size) (hk : ∀ b, b < w.heap.size → w'.heap[b]? = w.heap[b]?) : Mid P ops n A E B mkv cell typ (listed.setIfInBounds i true) (a.put o.dst (A.tmps.getD d undef)) w' β := by
  have hdi : dstOf ops i = some d := by simp [dstOf, ho, hd]
  have val : ∀ x, (a.put (some d) (A.tmps.getD d undef)).tmps.getD x undef = if x = d then A.tmps.getD d undef else a.tmps.getD x undef := fun x => by
    rw [getD_put]
    by_cases hx : x = d
    · subst hx
      by_cases hlt : x < a.tmps.size
      · simp [hlt]
      · have : ¬ x < A.tmps.size := by rw [← h.size]; exact hlt
        simp [hlt, this]
    · rw [if_neg (fun hh => hx hh.1.symm), if_neg hx]
  rw [hd]
  refine ⟨hw, Nat.le_trans h.big hs, by simp [Act.put, h.size], by simp [Act.put, h.defers], fun j oj dj hj hoj hnj hdj hl => ?_, fun x hx => ?_, fun j oj dj hj hoj hnj hdj hl => ?_, fun j k oj ok hj hk' hoj hok hnj hnk hlj hlk he => ?_⟩
  · rw [val]
    by_cases hjd : dj = d
    · rw [if_pos hjd, hjd]
    · rw [if_neg hjd]
      rcases getD_set_cases hl with rfl | hl
      · rw [ho] at hoj; cases hoj; rw [hd] at hdj; cases hdj; exact absurd rfl hjd
      · exact h.yes j oj dj hj hoj hnj hdj hl
  · rw [val, if_neg (fun hh => hx i hi (by rw [hdi, hh]))]
    exact h.other x hx
  · have hji : i ≠ j := by rintro rfl; rw [ho] at hoj; cases hoj; rw [hn] at hnj; cases hnj
    rcases getD_set_cases hl with rfl | hl
    · exact absurd rfl hji
    obtain ⟨h1, h2, h3⟩ := h.new j oj dj hj hoj hnj hdj hl
    have hne : dj ≠ d := fun hh => (headB_spec ho (hall i hi)).2.2.2.1 j hj hji (by rw [hdi]; simp [dstOf, hoj, hdj, hh])
    refine ⟨by rw [val, if_neg hne]; exact h1, ?_, h3⟩
    rw [hk _ (Array.getElem?_eq_some_iff.1 h2).1]; exact h2
  · have hji : i ≠ j := by rintro rfl; rw [ho] at hoj; cases hoj; rw [hn] at hnj; cases hnj
    have hki : i ≠ k := by rintro rfl; rw [ho] at hok; cases hok; rw [hn] at hnk; cases hnk
    rw [getD_set_ne false hji] at hlj
    rw [getD_set_ne false hki] at hlk
    exact h.apart j k oj ok hj hk' hoj hok hnj hnk hlj hlk he

theorem Mid.put_new {listed : Array Bool} {a : Act} {w : World} {β : Nat → Nat} (hall : ∀ i, i < n → headB N ops n i = true) (h : Mid P ops n A E B mkv cell typ listed a w β) {i d : Nat} {o : Oper} (hi : i < n) (ho : ops[i]? = some o) (hn : isNew o.op = true) (hd : o.dst = some d) (hdlt : d < A.tmps.size)
    (hw : E (w.alloc (.cells (cell i) (typ i)))) : Mid P ops n A E B mkv cell typ (listed.setIfInBounds i true) (a.put o.dst (mkv i w.heap.size)) (w.alloc (.cells (cell i) (typ i))) (fun j => if j = i then w.heap.size else β j) := by
  have hdi : dstOf ops i = some d := by simp [dstOf, ho, hd]
  have val : ∀ x, (a.put (some d) (mkv i w.heap.size)).tmps.getD x undef = if x = d then mkv i w.heap.size else a.tmps.getD x undef := fun x => by
    rw [getD_put]
    by_cases hx : x = d
    · subst hx; rw [if_pos ⟨rfl, by rw [h.size]; exact hdlt⟩, if_pos rfl]
    · rw [if_neg (fun hh => hx hh.1.symm), if_neg hx]
  have other_d : ∀ j oj dj, j < n → ops[j]? = some oj → oj.dst = some dj → i ≠ j → dj ≠ d := fun j oj dj hj hoj hdj hji hh => (headB_spec ho (hall i hi)).2.2.2.1 j hj hji (by rw [hdi]; simp [dstOf, hoj, hdj, hh])
  rw [hd]
  refine ⟨hw, by rw [push_size]; have := h.big; omega, by simp [Act.put, h.size], by simp [Act.put, h.defers], fun j oj dj hj hoj hnj hdj hl => ?_, fun x hx => ?_, fun j oj dj hj hoj hnj hdj hl => ?_, fun j k oj ok hj hk' hoj hok hnj hnk hlj hlk he => ?_⟩
  · have hji : i ≠ j := by rintro rfl; rw [ho] at hoj; cases hoj; rw [hn] at hnj; cases hnj
    rw [getD_set_ne false hji] at hl
    rw [val, if_neg (other_d j oj dj hj hoj hdj hji)]
    exact h.yes j oj dj hj hoj hnj hdj hl
  · rw [val, if_neg (fun hh => hx i hi (by rw [hdi, hh]))]
    exact h.other x hx
  · by_cases hji : i = j
    · subst hji
      rw [ho] at hoj; cases hoj
      rw [hd] at hdj; cases hdj
      simp only [if_true]
      exact ⟨by rw [val, if_pos rfl], push_new w _, h.big⟩
    · rw [getD_set_ne false hji] at hl
      obtain ⟨h1, h2, h3⟩ := h.new j oj dj hj hoj hnj hdj hl
      simp only [show ¬ j = i from fun hh => hji hh.symm, if_false]
      refine ⟨by rw [val, if_neg (other_d j oj dj hj hoj hdj hji)]; exact h1, ?_, h3⟩
      rw [push_old w _ (Array.getElem?_eq_some_iff.1 h2).1]; exact h2
  · have lt : ∀ k ok, k < n → ops[k]? = some ok → isNew ok.op = true → i ≠ k → (listed.setIfInBounds i true).getD k false = true → β k < w.heap.size := fun k ok hk hok hnk hki hl => by
      rw [getD_set_ne false hki] at hl
      obtain ⟨⟨dk, hdk, _⟩, _⟩ := headB_spec hok (hall k hk)
      exact (Array.getElem?_eq_some_iff.1 (h.new k ok dk hk hok hnk hdk hl).2.1).1
    by_cases hji : i = j
    · by_cases hki : i = k
      · omega
      · have := lt k ok hk' hok hnk hki hlk
        simp only [hji.symm, if_true, show ¬ k = i from fun hh => hki hh.symm, if_false] at he
        omega
    · by_cases hki : i = k
      · have := lt j oj hj hoj hnj hji hlj
        simp only [hki.symm, if_true, show ¬ j = i from fun hh => hji hh.symm, if_false] at he
        omega
      · rw [getD_set_ne false hji] at hlj
        rw [getD_set_ne false hki] at hlk
        simp only [show ¬ j = i from fun hh => hji hh.symm, show ¬ k = i from fun hh => hki hh.symm, if_false] at he
        exact h.apart j k oj ok hj hk' hoj hok hnj hnk hlj hlk he

theorem mid_step {Q : Exit → Act → World → Prop} {listed : Array Bool} {a : Act} {w : World} {β : Nat → Nat} (hsel : Region.noSelect ops = true) (hall : ∀ i, i < n → headB N ops n i = true)
    (hold : ∀ i o d, i < n → ops[i]? = some o → isNew o.op = false → o.dst = some d → Yl P ops E o A (A.tmps.getD d undef))
    (hnew : ∀ i o, i < n → ops[i]? = some o → isNew o.op = true → Made P o A (mkv i) (cell i) (typ i))
    (hbound : ∀ i o d, i < n → ops[i]? = some o → isNew o.op = true → o.dst = some d → d < A.tmps.size)
    (hEa : ∀ w c t, E w → E (w.alloc (.cells c t))) (h : Mid P ops n A E B mkv cell typ listed a w β) {i : Nat} (hi : i < n) (hr : i ∈ Region.ready .any ops listed) {K : Act → World → Prop}
    (hK : ∀ a' w' β', Mid P ops n A E B mkv cell typ (listed.setIfInBounds i true) a' w' β' → K a' w') : wpOp P ops Q i K a w := by
  obtain ⟨hun, o, ho, hdeps⟩ := mem_ready.1 hr
  obtain ⟨⟨d, hd, hdN⟩, hback, hguard, hdist, hlook⟩ := headB_spec ho (hall i hi)
  have hag : Agree ops o a A := fun t ht => by
    refine ⟨?_, h.size⟩
    by_cases hex : ∃ j, j < n ∧ dstOf ops j = some t
    · obtain ⟨j, hj, hdj⟩ := hex
      obtain ⟨hwt, hnj⟩ := hlook j t hj hdj ht
      obtain ⟨o', ho', e, he, hb, hon⟩ := Region.waitsFor_spec hwt
      rw [ho] at ho'; cases ho'
      have hl := hdeps e he hb
      rw [hon] at hl
      cases hoj : ops[j]? with
      | none => simp [dstOf, hoj] at hdj
      | some oj => exact h.yes j oj t hj hoj (hnj oj hoj) (by simpa [dstOf, hoj] using hdj) hl
    · exact h.other t fun j hj hh => hex ⟨j, hj, hh⟩
  have hex := hag.exec (Region.noSelect_spec hsel i o · · ho)
  have hwt := hag.wanted
  unfold wpOp
  rw [ho]
  dsimp only
  cases hn : isNew o.op with
  | false =>
    have hY := (hold i o d hi ho hn hd).congr hex hwt
    rcases hY with ⟨hw, hrun⟩ | ⟨hw, hv⟩
    · rw [if_pos hw]
      refine .inl ?_
      unfold Oper.wp
      rcases hrun w h.e with hrun | ⟨f, args, hrun, hcall⟩
      · rw [hrun]
        exact hK _ _ β (h.put_old hall hi ho hn hd h.e (Nat.le_refl _) fun _ _ => rfl)
      · rw [hrun]
        refine hcall.mono ?_
        rintro e w' ⟨rfl, hE, hsz, hkeep⟩
        exact hK _ _ β (h.put_old hall hi ho hn hd hE hsz hkeep)
    · rw [if_neg (by rw [hw]; simp)]
      rw [← hv]
      exact hK _ _ β (h.put_old hall hi ho hn hd h.e (Nat.le_refl _) fun _ _ => rfl)
  | true =>
    have hw : Region.wanted o (yielded ops a.tmps) = true := by simp [Region.wanted, hguard hn]
    rw [if_pos hw]
    refine .inl ?_
    unfold Oper.wp
    have hrun := (hnew i o hi ho hn).run w
    rw [← hex] at hrun
    rw [hrun]
    exact hK _ _ _ (h.put_new hall hi ho hn hd (hbound i o d hi ho hn hd) (hEa w _ _ h.e))
end
end Go.Proofs.Ytbmpapinpnchmaa
