/- Operations that make a block, and stores: what becomes of the known blocks. -/
import Derived.Test.YtojfjcbblkiajaaRun
import Derived.Laws.MakeOwn
set_option linter.unusedVariables false
set_option linter.unusedSimpArgs false
namespace Go.Proofs.Ytojfjcbblkiajaa
variable {P : Program}

/-- the state of a call under way: from the blocks m0 in the world w0 to the blocks m in the world w -/
structure RunS (μ0 : Nat → Nat) (m0 : Mem) (w0 : World) (μ : Nat → Nat) (m : Mem) (w : World) : Prop where
  mr : MR μ m w
  len : m0.length ≤ m.length
  agree : ∀ id, id < m0.length → μ id = μ0 id
  live : ∀ id, id < m0.length → (blockOf m id).isSome = true → (blockOf m0 id).isSome = true
  fresh : ∀ id, m0.length ≤ id → (blockOf m id).isSome = true → w0.heap.size ≤ μ id
  kept : Kept μ0 m0 w0 w

theorem Kept.refl (μ : Nat → Nat) (m : Mem) (w : World) : Kept μ m w w := ⟨Nat.le_refl _, fun _ _ _ => rfl, ⟨rfl, rfl, rfl⟩, fun _ => rfl⟩

theorem RunS.start {μ : Nat → Nat} {m : Mem} {w : World} (h : MR μ m w) : RunS μ m w μ m w := by
  refine ⟨h, Nat.le_refl _, fun _ _ => rfl, fun _ _ h => h, fun id hid hs => ?_, Kept.refl _ _ _⟩
  exfalso
  have : ∀ (m : Mem) (id : Nat), m.length ≤ id → blockOf m id = none := by
    intro m
    induction m with
    | nil => intro id _; rfl
    | cons x r ih => intro id h; cases id with
      | zero => simp at h
      | succ id => simp only [blockOf]; exact ih id (by simp at h; omega)
  rw [this m id hid] at hs
  cases hs

theorem blockOf_ge : ∀ (m : Mem) (id : Nat), m.length ≤ id → blockOf m id = none := by
  intro m
  induction m with
  | nil => intro id _; rfl
  | cons x r ih => intro id h; cases id with
    | zero => simp at h
    | succ id => simp only [blockOf]; exact ih id (by simp at h; omega)
theorem blockOf_lt {m : Mem} {id : Nat} (h : (blockOf m id).isSome = true) : id < m.length := by
  rcases Nat.lt_or_ge id m.length with h' | h'
  · exact h'
  · rw [blockOf_ge m id h'] at h; cases h
theorem blockOf_append_lt : ∀ (m l : Mem) (id : Nat), id < m.length → blockOf (m ++ l) id = blockOf m id
  | [], l, id, h => by simp at h
  | x :: r, l, 0, _ => rfl
  | x :: r, l, id + 1, h => by simp only [List.cons_append, blockOf]; exact blockOf_append_lt r l id (by simp at h; omega)
theorem blockOf_append_ge : ∀ (m l : Mem) (id : Nat), blockOf (m ++ l) (m.length + id) = blockOf l id
  | [], l, id => by simp
  | x :: r, l, id => by
    rw [show (x :: r).length + id = (r.length + id) + 1 by simp; omega]
    simp only [List.cons_append, blockOf]
    exact blockOf_append_ge r l id

theorem push_old (w : World) (o : Obj) {i : Nat} (h : i < w.heap.size) : (w.alloc o).heap[i]? = w.heap[i]? := by
  show (w.heap.push o)[i]? = _
  rw [Array.getElem?_push, if_neg (by omega)]
theorem push_new (w : World) (o : Obj) : (w.alloc o).heap[w.heap.size]? = some o := by
  show (w.heap.push o)[w.heap.size]? = _
  simp
theorem push_size (w : World) (o : Obj) : (w.alloc o).heap.size = w.heap.size + 1 := by
  show (w.heap.push o).size = _
  simp

theorem push_frozen (w : World) (c : Array Value) (t : TypeId) (a : Addr) : (w.alloc (.cells c t)).frozen? a = w.frozen? a := by
  rcases Nat.lt_trichotomy a.block w.heap.size with h | h | h
  · simp only [World.frozen?, push_old w _ h]
  · simp only [World.frozen?, h, push_new]
    rw [Array.getElem?_eq_none (Nat.le_refl _)]
    simp
  · simp only [World.frozen?]
    rw [Array.getElem?_eq_none (by rw [push_size]; omega), Array.getElem?_eq_none (by omega)]

def ext (μ : Nat → Nat) (L b : Nat) : Nat → Nat := fun id => if id = L then b else μ id
theorem ext_old {μ : Nat → Nat} {L b id : Nat} (h : id < L) : ext μ L b id = μ id := by unfold ext; rw [if_neg (by omega)]
theorem ext_new {μ : Nat → Nat} {L b : Nat} : ext μ L b L = b := by unfold ext; rw [if_pos rfl]

theorem MR.lt {μ : Nat → Nat} {m : Mem} {w : World} (h : MR μ m w) {id : Nat} (hs : (blockOf m id).isSome = true) : μ id < w.heap.size := by
  cases hb : blockOf m id with
  | none => rw [hb] at hs; cases hs
  | some p =>
    obtain ⟨v, c⟩ := p
    obtain ⟨t, ex, hh, _⟩ := h.blk id v c hb
    exact (Array.getElem?_eq_some_iff.1 hh).1

theorem MR.alloc {μ : Nat → Nat} {m : Mem} {w : World} (h : MR μ m w) {v : SV} (hv : ∀ id ∈ v.ids, id < m.length) (t : TypeId) :
    MR (ext μ m.length w.heap.size) (m ++ [some (v, v.size)]) (w.alloc (.cells (flat μ v).toArray t)) := by
  refine ⟨fun id u c hb => ?_, fun i j hi hj he => ?_, fun id u c hb i hi => ?_⟩
  · rcases Nat.lt_or_ge id m.length with hlt | hge
    · rw [blockOf_append_lt m _ id hlt] at hb
      obtain ⟨t', ex, hh, hl⟩ := h.blk id u c hb
      refine ⟨t', ex, ?_, ?_⟩
      · rw [ext_old hlt, push_old w _ (Array.getElem?_eq_some_iff.1 hh).1, hh]
        rw [flat_ids (μ := μ) (μ' := ext μ m.length w.heap.size) u (fun i hi => (ext_old (h.ids id u c hb i hi)).symm)]
      · rw [flat_length] at hl ⊢; exact hl
    · obtain ⟨k, rfl⟩ : ∃ k, id = m.length + k := ⟨id - m.length, by omega⟩
      rw [blockOf_append_ge] at hb
      cases k with
      | zero =>
        simp only [blockOf] at hb
        cases hb
        refine ⟨t, [], ?_, by simp [flat_length]⟩
        rw [Nat.add_zero, ext_new, push_new]
        rw [flat_ids (μ := μ) (μ' := ext μ m.length w.heap.size) _ (fun i hi => (ext_old (hv i hi)).symm)]
        simp
      | succ k => simp only [blockOf] at hb; cases hb
  · have cases' : ∀ i, (blockOf (m ++ [some (v, v.size)]) i).isSome = true → (i < m.length ∧ (blockOf m i).isSome = true) ∨ i = m.length := by
      intro i hi
      rcases Nat.lt_or_ge i m.length with hlt | hge
      · rw [blockOf_append_lt m _ i hlt] at hi; exact .inl ⟨hlt, hi⟩
      · right
        have := blockOf_lt hi
        simp at this
        omega
    rcases cases' i hi with ⟨h1, h2⟩ | rfl <;> rcases cases' j hj with ⟨h3, h4⟩ | rfl
    · rw [ext_old h1, ext_old h3] at he; exact h.inj i j h2 h4 he
    · rw [ext_old h1, ext_new] at he; have := h.lt h2; omega
    · rw [ext_old h3, ext_new] at he; have := h.lt h4; omega
    · rfl
  · have : i < m.length := by
      rcases Nat.lt_or_ge id m.length with hlt | hge
      · rw [blockOf_append_lt m _ id hlt] at hb
        exact h.ids id u c hb i hi
      · obtain ⟨k, rfl⟩ : ∃ k, id = m.length + k := ⟨id - m.length, by omega⟩
        rw [blockOf_append_ge] at hb
        cases k with
        | zero => simp only [blockOf] at hb; cases hb; exact hv i hi
        | succ k => simp only [blockOf] at hb; cases hb
    simp; omega

theorem RunS.alloc {μ0 : Nat → Nat} {m0 : Mem} {w0 : World} {μ : Nat → Nat} {m : Mem} {w : World} (h : RunS μ0 m0 w0 μ m w) {v : SV} (hv : ∀ id ∈ v.ids, id < m.length) (t : TypeId) :
    RunS μ0 m0 w0 (ext μ m.length w.heap.size) (m ++ [some (v, v.size)]) (w.alloc (.cells (flat μ v).toArray t)) := by
  refine ⟨h.mr.alloc hv t, by simp; have := h.len; omega, fun id hid => ?_, fun id hid hs => ?_, fun id hid hs => ?_, ?_⟩
  · rw [ext_old (by have := h.len; omega)]; exact h.agree id hid
  · rw [blockOf_append_lt m _ id (by have := h.len; omega)] at hs; exact h.live id hid hs
  · rcases Nat.lt_or_ge id m.length with hlt | hge
    · rw [ext_old hlt]
      rw [blockOf_append_lt m _ id hlt] at hs
      exact h.fresh id hid hs
    · have := blockOf_lt hs
      simp at this
      obtain rfl : id = m.length := by omega
      rw [ext_new]; exact h.kept.size
  · refine ⟨?_, fun b hb hne => ?_, h.kept.rest, fun a => by rw [push_frozen]; exact h.kept.fro a⟩
    · have := h.kept.size
      rw [push_size]; omega
    · rw [push_old w _ (by have := h.kept.size; omega)]
      exact h.kept.old b hb hne

/-- a draw changes nothing of that -/
theorem RunS.drew {μ0 : Nat → Nat} {m0 : Mem} {w0 : World} {μ : Nat → Nat} {m : Mem} {w : World} (h : RunS μ0 m0 w0 μ m w) : RunS μ0 m0 w0 μ m { w with drawn := w.drawn + 1 } :=
  ⟨⟨h.mr.blk, h.mr.inj, h.mr.ids⟩, h.len, h.agree, h.live, h.fresh, ⟨h.kept.size, h.kept.old, h.kept.rest, h.kept.fro⟩⟩

theorem boxable_cells (μ : Nat → Nat) (v : SV) (h : v.boxable = true) : (toVal μ v).cells = (flat μ v).toArray := by
  by_cases hv : ∃ n g, v = .vec n g
  · obtain ⟨n, g, rfl⟩ := hv; rfl
  · refine cells_toVal μ v ?_
    cases v <;> simp_all [SV.boxable, SV.leaf]

theorem mod_len (n m j : Nat) (h : j < n * m) : 0 < m ∧ j % m < m := by
  rcases Nat.eq_zero_or_pos m with h0 | h0
  · subst h0; rw [Nat.mul_zero] at h; exact absurd h (Nat.not_lt_zero _)
  · exact ⟨h0, Nat.mod_lt _ h0⟩
theorem zeros_sound {n : Nat} {z v : SV} (h : zeros n z = some v) (μ : Nat → Nat) : v.ids = [] ∧ madeCells (toVal (fun _ => 0) z).cells (n * (toVal (fun _ => 0) z).cells.size) = (flat μ v).toArray := by
  unfold zeros at h
  split at h
  · rename_i k y
    cases h
    refine ⟨rfl, ?_⟩
    apply Array.ext_getElem?
    intro j
    by_cases hj : j < n
    · rw [show (flat μ (.ints k n fun _ => y)).toArray[j]? = some (.int k y) by rw [List.getElem?_toArray]; exact flat_ints_get μ k n _ j hj]
      simp [madeCells, toVal, scal, Value.cells, hj, Nat.mod_one]
    · rw [Array.getElem?_eq_none (by simp [madeCells, toVal, scal, Value.cells]; omega), Array.getElem?_eq_none (by simp [flat]; omega)]
  · rename_i k m f
    cases h
    refine ⟨rfl, ?_⟩
    have hc : (toVal (fun _ => 0) (.ints k m f)).cells = (flat μ (.ints k m f)).toArray := rfl
    have hl : (flat μ (.ints k m f)).toArray.size = m := by simp [flat]
    rw [hc, hl]
    apply Array.ext_getElem?
    intro j
    by_cases hj : j < n * m
    · obtain ⟨h0, h1⟩ := mod_len n m j hj
      rw [show (flat μ (.ints k (n * m) fun j => f (j % m))).toArray[j]? = some (.int k (f (j % m))) by rw [List.getElem?_toArray]; exact flat_ints_get μ k (n * m) _ j hj]
      have : (flat μ (.ints k m f))[j % m]? = some (.int k (f (j % m))) := flat_ints_get μ k m f _ h1
      unfold madeCells
      rw [Array.getElem?_map, Array.getElem?_range, hl]
      simp [hj, this]
    · rw [Array.getElem?_eq_none (by simp [madeCells]; omega), Array.getElem?_eq_none (by simp [flat]; omega)]
  · cases h
    refine ⟨?_, ?_⟩
    · simp [SV.ids, SV.ids1]
    apply Array.ext_getElem?
    intro j
    by_cases hj : j < n
    · rw [show (flat μ (.vec n fun _ => .nilsl)).toArray[j]? = some (scal μ .nilsl) by rw [List.getElem?_toArray]; exact flat_vec_get μ n _ j hj]
      simp [madeCells, toVal, scal, Value.cells, hj, Nat.mod_one]
    · rw [Array.getElem?_eq_none (by simp [madeCells, toVal, scal, Value.cells]; omega), Array.getElem?_eq_none (by simp [flat]; omega)]
  · cases h

theorem leaf_cells {v : SV} (h : v.leaf = true) (μ : Nat → Nat) : (toVal μ v).cells = #[scal μ v] := by
  cases v <;> first | rfl | cases h
theorem set_vec (μ : Nat → Nat) (n : Nat) (h : Nat → SV) (i : Nat) (v : SV) (hi : i < n) : (flat μ (.vec n h)).toArray.setIfInBounds i (scal μ v) = (flat μ (.vec n (updV h i v))).toArray := by
  apply Array.ext_getElem?
  intro j
  by_cases hj : j < n
  · rw [show (flat μ (.vec n (updV h i v))).toArray[j]? = some (scal μ (updV h i v j)) by rw [List.getElem?_toArray]; exact flat_vec_get μ n _ j hj]
    rw [Array.getElem?_setIfInBounds]
    unfold updV
    by_cases hji : i = j
    · subst hji
      simp [flat, hi]
    · rw [if_neg hji, if_neg (fun e => hji e.symm), List.getElem?_toArray]
      exact flat_vec_get μ n h j hj
  · rw [Array.getElem?_eq_none (by simp [flat]; omega), Array.getElem?_eq_none (by simp [flat]; omega)]
theorem fillV_sound (μ : Nat → Nat) (n : Nat) : ∀ (l : List (Nat × SV)) (h : Nat → SV) (K : (Nat → SV) → Prop), fillV n h l K →
    ∃ g, K g ∧ Instr.fill (fun i => some (i * 1, 1)) (flat μ (.vec n h)).toArray (l.map fun p => (p.1, toVal μ p.2)) = some (flat μ (.vec n g)).toArray ∧ ∀ L, (∀ i, i < n → ∀ id ∈ (h i).ids1, id < L) → (∀ p ∈ l, ∀ id ∈ p.2.ids, id < L) → ∀ i, i < n → ∀ id ∈ (g i).ids1, id < L
  | [], h, K, hk => ⟨h, hk, rfl, fun L h1 _ => h1⟩
  | (i, v) :: r, h, K, hk => by
    obtain ⟨hb, hk⟩ := chk_iff.1 hk
    simp only [Bool.and_eq_true] at hb
    obtain ⟨hl, hin⟩ := hb
    have hin : i < n := by simpa [Nat.blt_eq] using hin
    obtain ⟨g, hg, hr, hid⟩ := fillV_sound μ n r _ K hk
    refine ⟨g, hg, ?_, fun L h1 h2 => hid L (fun j hj id hidm => ?_) (fun p hp => h2 p (List.mem_cons_of_mem _ hp))⟩
    · rw [List.map_cons, fill_cons (off := i * 1) (size := 1) rfl (by rw [leaf_cells hl]; rfl) (by simp [flat]; omega), ← hr]
      congr 1
      rw [leaf_cells hl]
      simpa using set_vec μ n h i v hin
    · unfold updV at hidm
      split at hidm
      · rw [← leaf_ids hl] at hidm
        exact h2 (i, v) (by simp) id hidm
      · exact h1 j hj id hidm
theorem new_sound {T : Tab} (hT : TabOK P T) {N : Nat} {μ : Nat → Nat} {m : Mem} {s : Slots} {a : Act} (hs : SRel N μ m.length s a) {o : Oper} {K : SV → (Nat → SV) → Prop}
    (h : newVC T o.op s K) : ∃ v mk t, K v mk ∧ (∀ id ∈ v.ids, id < m.length) ∧ (∀ id, (mk id).ids = [id]) ∧
      ∀ w, (execOp a.eval o).run P w = .ok (.value (toVal (ext μ m.length w.heap.size) (mk m.length))) (w.alloc (.cells (flat μ v).toArray t)) := by
  obtain ⟨dst, op, type, pos, after, guard⟩ := o
  simp only at h
  unfold newVC at h
  split at h
  · split at h
    · rename_i z hz
      replace h := chk_iff.1 h; obtain ⟨hbx, h⟩ := h
      rename_i t _
      refine ⟨z, _, t, h, by rw [(hT.zero t z hz).2]; simp, fun id => rfl, fun w => ?_⟩
      have hzr := run_zero (P := P) hT hz μ w
      simp only [execOp, Instr.alloc, Sem.run_bind, hzr, Result.andThen_ok, newVar, newRow, boxable_cells μ z hbx]
      rw [show toVal (ext μ m.length w.heap.size) (.ptr m.length [] 0 0) = .pointer (some ⟨w.heap.size, 0, none⟩) by simp only [toVal, scal, ext_new]]
      rfl
    · exact h.elim
  · split at h
    · rename_i v hv
      replace h := chk_iff.1 h; obtain ⟨hbx, h⟩ := h
      have h1 := ev_sound hs hv
      rename_i t x _
      refine ⟨v, _, t, h, h1.2, fun id => rfl, fun w => ?_⟩
      simp only [execOp, Instr.box, h1.1, Sem.run_bind, newVar, newRow, boxable_cells μ v hbx]
      rw [show toVal (ext μ m.length w.heap.size) (.ptr m.length [] 0 0) = .pointer (some ⟨w.heap.size, 0, none⟩) by simp only [toVal, scal, ext_new]]
      rfl
    · exact h.elim
  · split at h
    · rename_i es k mm f l hti hz hp
      rename_i t len parts _ _ _
      replace h := chk_iff.1 h; obtain ⟨hb', h⟩ := h
      simp only [Bool.and_eq_true] at hb'
      obtain ⟨⟨g1, g2⟩, g3⟩ := hb'
      obtain rfl := beqN g1
      have hpos : 0 < mm := by simpa [Nat.blt_eq] using g2
      have hbig := Nat.le_of_ble_eq_true g3
      obtain ⟨g, hk, hf⟩ := fillA_sound μ k (len * mm) mm l _ _ h
      obtain ⟨e, d1, d2, _⟩ := hT.at hti
      obtain ⟨sv, hsv, hrow⟩ := Option.bind_eq_some_iff.1 hz
      obtain ⟨e', z1, z2⟩ := hT.elem0 t _ hsv
      obtain rfl : e = e' := by rw [d1] at z1; exact TypeDesc.slice.inj (Option.some.inj z1)
      have hps := evParts_sound hs hp
      refine ⟨_, _, e, hk, by simp [SV.ids], fun id => rfl, fun w => ?_⟩
      have hsz := run_sizeOf_of (P := P) d2 w
      have hzv : (zeroValue e).run P w = .ok (toVal (fun _ => 0) sv) w := by
        cases hq : P.info? e with
        | none => simp [hq] at z2
        | some i => simp [hq] at z2; simp [zeroValue, typeInfo, hq, z2]
      have hbase : (Array.range (len * mm)).map (fun j => (flat μ (.ints k mm f)).toArray[j % (flat μ (.ints k mm f)).toArray.size]!) = (flat μ (.ints k (len * mm) fun j => f (j % mm))).toArray := by
        apply Array.ext_getElem?
        intro j
        by_cases hj : j < len * mm
        · have hm : j % mm < mm := Nat.mod_lt _ hpos
          have hr : (flat μ (.ints k (len * mm) fun j => f (j % mm))).toArray[j]? = some (.int k (f (j % mm))) := by
            rw [List.getElem?_toArray]; exact flat_ints_get μ k (len * mm) _ j hj
          rw [hr, Array.getElem?_map, Array.getElem?_range]
          simp [hj, flat, hm]
        · rw [Array.getElem?_eq_none (by simp; omega), Array.getElem?_eq_none (by simp [flat]; omega)]
      have hno : ¬ len * mm > 2 ^ 24 := by omega
      simp only [execOp, Instr.buildSlice, Sem.run_bind, run_underlying d1 w, Result.andThen_ok, hsz, hno, if_false]
      have hz' : (toVal (fun _ => 0) sv).cells = (flat μ (.ints k mm f)).toArray := by
        cases sv <;> simp only [elemRow] at hrow <;> first | (cases hrow; done) | (cases hrow; rfl)
      have hv : toVal (ext μ m.length w.heap.size) (.sl m.length 0 len len) = .slice (some ⟨w.heap.size, 0, none⟩) len len := by simp only [toVal, scal, ext_new]
      by_cases h0 : len * mm = 0
      · have hr0 : (Array.range 0).map (fun j => (#[] : Array Value)[j % (#[] : Array Value).size]!) = (flat μ (.ints k 0 fun j => f (j % mm))).toArray := by
          simp [flat]
        rw [hv]
        rw [h0] at hf
        simp only [h0, ↓reduceIte, Sem.run_bind, Sem.run_pure, Result.andThen_ok]
        simp only [hr0, Array.toList_map, hps, hf, newRow, Sem.run_bind]
        rfl
      · rw [hv]
        simp only [h0, ↓reduceIte, Sem.run_bind, hzv, Result.andThen_ok, Sem.run_pure, hz', hbase]
        simp only [Array.toList_map, hps, hf, newRow, Sem.run_bind]
        rfl
    · rename_i es l hti hz hp
      rename_i t len parts _ _ _
      split at h
      · rename_i he0
        replace h := chk_iff.1 h; obtain ⟨hb', h⟩ := h
        simp only [Bool.and_eq_true] at hb'
        obtain ⟨he1, hbig⟩ := hb'
        obtain rfl := beqN he1
        have hbig := Nat.le_of_ble_eq_true hbig
        obtain ⟨g, hk, hf, hid⟩ := fillV_sound μ len l _ _ h
        obtain ⟨e, d1, d2, _⟩ := hT.at hti
        obtain ⟨e', z1, z2⟩ := hT.elem0 t _ he0
        obtain rfl : e = e' := by rw [d1] at z1; exact TypeDesc.slice.inj (Option.some.inj z1)
        have hps := evParts_sound hs hp
        refine ⟨_, _, e, hk, fun id hm => ?_, fun id => rfl, fun w => ?_⟩
        · obtain ⟨i, hi, him⟩ := vec_ids.1 hm
          exact hid m.length (fun _ _ id h0 => by cases h0) (evParts_ids hs hp) i hi id him
        have hsz := run_sizeOf_of (P := P) d2 w
        have hzv : (zeroValue e).run P w = .ok (toVal (fun _ => 0) .nilsl) w := by
          cases hq : P.info? e with
          | none => simp [hq] at z2
          | some i => simp [hq] at z2; simp [zeroValue, typeInfo, hq, z2]
        have hbase : (Array.range (len * 1)).map (fun j => (#[Value.slice none 0 0] : Array Value)[j % (#[Value.slice none 0 0] : Array Value).size]!) = (flat μ (.vec len fun _ => .nilsl)).toArray := by
          apply Array.ext_getElem?
          intro j
          by_cases hj : j < len
          · rw [show (flat μ (.vec len fun _ => .nilsl)).toArray[j]? = some (scal μ .nilsl) by rw [List.getElem?_toArray]; exact flat_vec_get μ len _ j hj]
            simp [hj, Nat.mod_one, scal]
          · rw [Array.getElem?_eq_none (by simp; omega), Array.getElem?_eq_none (by simp [flat]; omega)]
        have hno : ¬ len * 1 > 2 ^ 24 := by omega
        have hv : toVal (ext μ m.length w.heap.size) (.sl m.length 0 len len) = .slice (some ⟨w.heap.size, 0, none⟩) len len := by simp only [toVal, scal, ext_new]
        simp only [execOp, Instr.buildSlice, Sem.run_bind, run_underlying d1 w, Result.andThen_ok, hsz, hno, if_false]
        by_cases h0 : len * 1 = 0
        · obtain rfl : len = 0 := by omega
          have hr0 : (Array.range 0).map (fun j => (#[] : Array Value)[j % (#[] : Array Value).size]!) = (flat μ (.vec 0 fun _ => .nilsl)).toArray := by simp [flat]
          rw [hv]
          simp only [Nat.zero_mul, ↓reduceIte, Sem.run_bind, Sem.run_pure, Result.andThen_ok]
          simp only [hr0, Array.toList_map, hps, hf, newRow, Sem.run_bind]
          rfl
        · rw [hv]
          have hz' : (toVal (fun _ => 0) .nilsl).cells = #[Value.slice none 0 0] := rfl
          simp only [h0, ↓reduceIte, Sem.run_bind, hzv, Result.andThen_ok, Sem.run_pure, hz', hbase]
          simp only [Array.toList_map, hps, hf, newRow, Sem.run_bind]
          rfl
      · exact h.elim
    · exact h.elim
  · split at h
    · rename_i es by_ z k1 l k2 c hti happ hz hl hc
      split at h
      · rename_i v hv
        obtain ⟨⟨g0, g1, g2, g3⟩, h⟩ := h
        obtain ⟨e, d1, d2, _⟩ := hT.at hti
        obtain ⟨e', z', z1, z2, z3, z4⟩ := hT.app _ by_ happ
        obtain rfl : e = e' := by rw [d1] at z1; exact TypeDesc.slice.inj (Option.some.inj z1)
        obtain ⟨e', y1, y2⟩ := hT.elem0 _ _ hz
        obtain rfl : e = e' := by rw [d1] at y1; exact TypeDesc.slice.inj (Option.some.inj y1)
        obtain ⟨i, hi, hiby, hizr, hisz⟩ : ∃ i, P.info? e = some i ∧ i.bytes = by_ ∧ i.zero = some (toVal (fun _ => 0) z) ∧ i.size = (toVal (fun _ => 0) z).cells.size := by
          cases hq : P.info? e with
          | none => rw [hq] at d2; cases d2
          | some i =>
            rw [hq] at y2 z2 z3 z4
            have hz2 : i.zero = some (toVal (fun _ => 0) z) := Option.some.inj y2
            have hz3 : i.zero = some (toVal (fun _ => 0) z') := Option.some.inj z3
            rw [hz2] at hz3
            exact ⟨i, rfl, Option.some.inj z2, hz2, by rw [Option.some.inj hz3]; exact Option.some.inj z4⟩
        have h1 := ev_sound hs hl
        have h2 := ev_sound hs hc
        refine ⟨v, _, e, h, by rw [(zeros_sound hv μ).1]; simp, fun id => rfl, fun w => ?_⟩
        have hcn : (c.toNat : Int) = c := Int.toNat_of_nonneg (by omega)
        have hby : (i.bytes : Int) * c ≤ 281474976710656 := by
          rw [hiby, ← hcn, ← Int.natCast_mul]; omega
        have hr := run_make (P := P) w _ e i _ d1 hi hizr k1 k2 l c g0 g1 hby (by omega)
        rw [hisz, (zeros_sound hv μ).2] at hr
        simp only [execOp, h1.1, h2.1, toVal, scal, Sem.run_bind, hr, ext_new]
        rfl
      · exact h.elim
    · exact h.elim
  · exact h.elim
end Go.Proofs.Ytojfjcbblkiajaa
