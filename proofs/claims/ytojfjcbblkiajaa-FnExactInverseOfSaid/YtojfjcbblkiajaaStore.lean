/- Stores into known blocks. -/
import Derived.Test.YtojfjcbblkiajaaMem
set_option linter.unusedVariables false
set_option linter.unusedSimpArgs false
namespace Go.Proofs.Ytojfjcbblkiajaa
variable {P : Program}

def splice (l : List Value) (o : Nat) (cs : List Value) : List Value := l.take o ++ cs ++ l.drop (o + cs.length)

theorem splice_length {l cs : List Value} {o : Nat} (h : o + cs.length ≤ l.length) : (splice l o cs).length = l.length := by
  simp [splice]; omega

theorem setCells_heap (b : Nat) (t : TypeId) : ∀ (vs : List Value) (o : Nat) (w : World) (c : Array Value), w.heap[b]? = some (.cells c t (0, 0)) → o + vs.length ≤ c.size →
    (w.setCells b o vs).heap[b]? = some (.cells (splice c.toList o vs).toArray t (0, 0))
  | [], o, w, c, h, _ => by simp [World.setCells, h, splice]
  | v :: r, o, w, c, h, hl => by
    have h1 := heap_setCell_same w b o c t v h
    have hl' : o + 1 + r.length ≤ (c.setIfInBounds o v).size := by simp at hl ⊢; omega
    rw [World.setCells, setCells_heap b t r (o + 1) _ _ h1 hl']
    congr 3
    simp only [splice, Array.toList_setIfInBounds, List.length_cons]
    apply List.ext_getElem?
    intro i
    have hol : o < c.toList.length := by simp at hl ⊢; omega
    simp only [List.getElem?_append, List.length_append, List.length_take, List.length_set, List.length_cons]
    by_cases h1 : i < o
    · rw [if_pos (by omega), if_pos (by omega), if_pos (by omega), if_pos (by omega)]
      rw [List.getElem?_take_of_lt (by omega), List.getElem?_take_of_lt h1, List.getElem?_set_ne (by omega)]
    · by_cases h2 : i = o
      · subst h2
        rw [if_pos (by omega), if_pos (by omega), if_pos (by omega), if_neg (by omega)]
        rw [List.getElem?_take_of_lt (by omega), List.getElem?_set_self hol]
        simp [show min i c.size = i by simp at hol; omega]
      · by_cases h3 : i < o + 1 + r.length
        · rw [if_pos (by omega), if_neg (by omega), if_pos (by omega), if_neg (by omega)]
          rw [show i - min o c.toList.length = (i - min (o + 1) c.toList.length) + 1 by omega, List.getElem?_cons_succ]
        · rw [if_neg (by omega), if_neg (by omega)]
          simp only [List.getElem?_drop]
          rw [List.getElem?_set_ne (by omega)]
          congr 1
          omega

theorem setCells_other (b k : Nat) (h : k ≠ b) : ∀ (vs : List Value) (o : Nat) (w : World), (w.setCells b o vs).heap[k]? = w.heap[k]?
  | [], _, _ => rfl
  | v :: r, o, w => by rw [World.setCells, setCells_other b k h r, heap_setCell_other w _ k v h]
theorem setCells_size (b : Nat) : ∀ (vs : List Value) (o : Nat) (w : World), (w.setCells b o vs).heap.size = w.heap.size
  | [], _, _ => rfl
  | v :: r, o, w => by rw [World.setCells, setCells_size b r]; simp [World.setCell]
theorem setCells_rest (b : Nat) : ∀ (vs : List Value) (o : Nat) (w : World), (w.setCells b o vs).os = w.os ∧ (w.setCells b o vs).output = w.output ∧ (w.setCells b o vs).tape = w.tape
  | [], _, _ => ⟨rfl, rfl, rfl⟩
  | v :: r, o, w => setCells_rest b r (o + 1) _

theorem setBlock_length : ∀ (m : Mem) (id : Nat) (v : SV), (setBlock m id v).length = m.length
  | [], _, _ => rfl
  | some (_, _) :: r, 0, v => rfl
  | none :: r, 0, v => rfl
  | some _ :: r, k + 1, v => by simp [setBlock, setBlock_length r k v]
  | none :: r, k + 1, v => by simp [setBlock, setBlock_length r k v]
theorem setBlock_same : ∀ (m : Mem) (id : Nat) (v u : SV) (c : Nat), blockOf m id = some (u, c) → blockOf (setBlock m id v) id = some (v, c)
  | [], _, _, _, _, h => by cases h
  | some (_, _) :: r, 0, v, u, c, h => by cases h; rfl
  | none :: r, 0, v, u, c, h => by cases h
  | some _ :: r, k + 1, v, u, c, h => setBlock_same r k v u c h
  | none :: r, k + 1, v, u, c, h => setBlock_same r k v u c h
theorem setBlock_other : ∀ (m : Mem) (id j : Nat) (v : SV), j ≠ id → blockOf (setBlock m id v) j = blockOf m j
  | [], _, _, _, _ => rfl
  | some (_, _) :: r, 0, 0, v, h => absurd rfl h
  | some (_, _) :: r, 0, j + 1, v, h => rfl
  | none :: r, 0, j, v, h => rfl
  | some _ :: r, k + 1, 0, v, h => rfl
  | none :: r, k + 1, 0, v, h => rfl
  | some _ :: r, k + 1, j + 1, v, h => setBlock_other r k j v (by omega)
  | none :: r, k + 1, j + 1, v, h => setBlock_other r k j v (by omega)

/-- a known block's head is overwritten in part -/
theorem RunS.store {μ0 : Nat → Nat} {m0 : Mem} {w0 : World} {μ : Nat → Nat} {m : Mem} {w : World} (h : RunS μ0 m0 w0 μ m w) {id : Nat} {blk blk' : SV} {c o : Nat} {cs : List Value} (hb : blockOf m id = some (blk, c))
    (hl : o + cs.length ≤ (flat μ blk).length) (hf : flat μ blk' = splice (flat μ blk) o cs) (hi : ∀ i ∈ blk'.ids, i < m.length) :
    RunS μ0 m0 w0 μ (setBlock m id blk') (w.setCells (μ id) o cs) := by
  obtain ⟨t, ex, hh, hc⟩ := h.mr.blk id blk c hb
  have hnew : (w.setCells (μ id) o cs).heap[μ id]? = some (.cells (flat μ blk' ++ ex).toArray t (0, 0)) := by
    rw [setCells_heap (μ id) t cs o w _ hh (by simp; omega), hf]
    congr 3
    simp only [splice]
    rw [List.take_append_of_le_length (by omega), List.drop_append_of_le_length (by omega)]
    simp
  have some_iff : ∀ j, (blockOf (setBlock m id blk') j).isSome = (blockOf m j).isSome := by
    intro j
    by_cases hj : j = id
    · subst hj; rw [setBlock_same m j blk' blk c hb, hb]; rfl
    · rw [setBlock_other m id j blk' hj]
  refine ⟨⟨fun j u k hj => ?_, fun i j h1 h2 he => ?_, fun j u k hj i hi' => ?_⟩, ?_, h.agree, fun j hj hs => ?_, fun j hj hs => ?_, ?_⟩
  · by_cases hji : j = id
    · subst hji
      rw [setBlock_same m j blk' blk c hb] at hj
      cases hj
      refine ⟨t, ex, hnew, ?_⟩
      rw [hf, splice_length hl]; exact hc
    · rw [setBlock_other m id j blk' hji] at hj
      obtain ⟨t', ex', hh', hc'⟩ := h.mr.blk j u k hj
      have hne : μ j ≠ μ id := fun he => hji (h.mr.inj j id (by rw [hj]; rfl) (by rw [hb]; rfl) he)
      exact ⟨t', ex', by rw [setCells_other _ _ hne, hh'], hc'⟩
  · rw [some_iff] at h1 h2; exact h.mr.inj i j h1 h2 he
  · rw [setBlock_length]
    by_cases hji : j = id
    · subst hji
      rw [setBlock_same m j blk' blk c hb] at hj
      cases hj
      exact hi i hi'
    · rw [setBlock_other m id j blk' hji] at hj
      exact h.mr.ids j u k hj i hi'
  · rw [setBlock_length]; exact h.len
  · rw [some_iff] at hs; exact h.live j hj hs
  · rw [some_iff] at hs; exact h.fresh j hj hs
  · refine ⟨by rw [setCells_size]; exact h.kept.size, fun b hbl hne => ?_, ?_, fun a => by rw [World.frozen?_setCells]; exact h.kept.fro a⟩
    · have hne' : b ≠ μ id := by
        rintro rfl
        rcases Nat.lt_or_ge id m0.length with hlt | hge
        · exact hne id (h.live id hlt (by rw [hb]; rfl)) (h.agree id hlt).symm
        · have := h.fresh id hge (by rw [hb]; rfl); omega
      rw [setCells_other _ _ hne']
      exact h.kept.old b hbl hne
    · obtain ⟨r1, r2, r3⟩ := setCells_rest (μ id) cs o w
      rw [r1, r2, r3]; exact h.kept.rest

/-! ### parts that are put anew -/
theorem setField_flat (μ : Nat → Nat) : ∀ (v : SV) (k : Nat) (c c' : SV) (o : Nat), v.fieldOf k = some (c, o) → ∃ pre post, flat μ v = pre ++ flat μ c ++ post ∧ pre.length = o ∧ flat μ (v.setField k c') = pre ++ flat μ c' ++ post := by
  intro v
  induction v with
  | pair a b iha ihb =>
    intro k c c' o h
    cases k with
    | zero => cases h; exact ⟨[], flat μ b, by simp [flat], rfl, by simp [SV.setField, flat]⟩
    | succ k =>
      simp only [SV.fieldOf] at h
      split at h
      · rename_i c1 o' hb
        cases h
        obtain ⟨pre, post, h1, h2, h3⟩ := ihb k _ c' _ hb
        exact ⟨flat μ a ++ pre, post, by simp [flat, h1], by simp [flat_length, h2], by simp [SV.setField, flat, h3]⟩
      · cases h
  | _ => intro k c c' o h; cases k <;> simp [SV.fieldOf] at h

theorem setPart_flat (μ : Nat → Nat) : ∀ (path : List Nat) (v c c' : SV) (o : Nat), v.part path = some (c, o) → ∃ pre post, flat μ v = pre ++ flat μ c ++ post ∧ pre.length = o ∧ flat μ (v.setPart path c') = pre ++ flat μ c' ++ post
  | [], v, c, c', o, h => by cases h; exact ⟨[], [], by simp, rfl, by simp [SV.setPart]⟩
  | k :: r, v, c, c', o, h => by
    simp only [SV.part] at h
    split at h
    · rename_i c1 o1 h1
      split at h
      · rename_i d o2 h2
        cases h
        obtain ⟨p2, q2, e2, l2, f2⟩ := setPart_flat μ r _ _ c' _ h2
        obtain ⟨p1, q1, e1, l1, f1⟩ := setField_flat μ v k _ (c1.setPart r c') _ h1
        refine ⟨p1 ++ p2, q2 ++ q1, by simp [e1, e2], by simp [l1, l2], ?_⟩
        simp only [SV.setPart, h1]
        rw [f1, f2]
        simp
      · cases h
    · cases h

theorem setField_ids : ∀ (v : SV) (k : Nat) (c : SV) (i : Nat), i ∈ (v.setField k c).ids → i ∈ v.ids ∨ i ∈ c.ids := by
  intro v
  induction v with
  | pair a b iha ihb =>
    intro k c i hi
    cases k with
    | zero => simp only [SV.setField, SV.ids, List.mem_append] at hi ⊢; rcases hi with h | h; exact .inr h; exact .inl (.inr h)
    | succ k =>
      simp only [SV.setField, SV.ids, List.mem_append] at hi ⊢
      rcases hi with h | h
      · exact .inl (.inl h)
      · rcases ihb k c i h with h | h
        · exact .inl (.inr h)
        · exact .inr h
  | _ => intro k c i hi; cases k <;> exact .inl hi
theorem setPart_ids : ∀ (path : List Nat) (v c : SV) (i : Nat), i ∈ (v.setPart path c).ids → i ∈ v.ids ∨ i ∈ c.ids
  | [], v, c, i, h => .inr h
  | k :: r, v, c, i, h => by
    simp only [SV.setPart] at h
    split at h
    · rename_i x o hx
      rcases setField_ids v k _ i h with h | h
      · exact .inl h
      · rcases setPart_ids r x c i h with h | h
        · exact .inl (field_ids v k x o hx i h)
        · exact .inr h
    · exact .inl h

theorem flat_updR (μ : Nat → Nat) (k : IntKind) (n off m : Nat) (v g : Nat → Int) (h : off + m ≤ n) : flat μ (.ints k n (updR v off m g)) = splice (flat μ (.ints k n v)) off (flat μ (.ints k m g)) := by
  apply List.ext_getElem?
  intro i
  simp only [splice, List.getElem?_append, List.length_append, List.length_take]
  have l1 : (flat μ (.ints k n v)).length = n := by simp [flat]
  have l2 : (flat μ (.ints k m g)).length = m := by simp [flat]
  rw [l1, l2]
  by_cases h1 : i < off
  · rw [if_pos (by omega), if_pos (by omega), List.getElem?_take_of_lt h1, flat_ints_get μ k n _ i (by omega), flat_ints_get μ k n _ i (by omega)]
    simp [updR]; omega
  · by_cases h2 : i < off + m
    · rw [if_pos (by omega), if_neg (by omega), flat_ints_get μ k n _ i (by omega), flat_ints_get μ k m _ _ (by omega)]
      simp only [updR]
      rw [if_pos (by omega), show min off n = off by omega]
    · rw [if_neg (by omega), List.getElem?_drop]
      by_cases h3 : i < n
      · rw [flat_ints_get μ k n _ i h3, flat_ints_get μ k n _ _ (by omega)]
        simp only [updR]
        rw [if_neg (by omega)]
        congr 3
        omega
      · rw [List.getElem?_eq_none (by rw [show (flat μ (.ints k n (updR v off m g))).length = n by simp [flat]]; omega), List.getElem?_eq_none (by rw [l1]; omega)]

theorem flat_updV (μ : Nat → Nat) (n off : Nat) (h : Nat → SV) (y : SV) (hlt : off < n) : flat μ (.vec n (updV h off y)) = splice (flat μ (.vec n h)) off [scal μ y] := by
  have l1 : (flat μ (.vec n h)).length = n := by simp [flat]
  have e : splice (flat μ (.vec n h)) off [scal μ y] = (flat μ (.vec n h)).set off (scal μ y) := by
    rw [List.set_eq_take_append_cons_drop, if_pos (by rw [l1]; exact hlt)]
    simp [splice]
  rw [e]
  apply List.ext_getElem?
  intro i
  rw [List.getElem?_set]
  by_cases hi : i < n
  · rw [flat_vec_get μ n _ i hi]
    by_cases hio : off = i
    · subst hio
      rw [if_pos rfl, if_pos (by rw [l1]; exact hi)]
      simp [updV]
    · rw [if_neg hio, flat_vec_get μ n _ i hi]
      simp only [updV]
      rw [if_neg (fun e => hio e.symm)]
  · rw [List.getElem?_eq_none (by simp [flat]; omega), if_neg (by omega), List.getElem?_eq_none (by rw [l1]; omega)]

/-- what 'putAt' says: the new part is the old one with the value's cells laid in -/
theorem putAt_flat (μ : Nat → Nat) {ag : Option Nat} {sub x : SV} {off : Nat} {K : SV → Prop} (h : putAt ag sub off x K) :
    ∃ sub', K sub' ∧ flat μ sub' = splice (flat μ sub) off (flat μ x) ∧ off + (flat μ x).length ≤ (flat μ sub).length ∧ (∀ i ∈ sub'.ids, i ∈ x.ids ∨ i ∈ sub.ids) ∧
      ((∃ n, ag = some n ∧ (flat μ x).length = n ∧ toVal μ x = .agg (flat μ x).toArray) ∨ (ag = none ∧ x.leaf = true)) ∧ x.wf = true := by
  unfold putAt at h
  split at h
  · replace h := chk_iff.1 h; obtain ⟨hb, h3, h⟩ := h
    simp only [Bool.and_eq_true] at hb
    obtain rfl := ikEq_eq hb.1
    obtain rfl := beqN hb.2
    exact ⟨_, h, flat_updR μ _ _ _ _ _ _ h3, by simpa [flat] using h3, by simp [SV.ids], .inl ⟨_, rfl, by simp [flat], rfl⟩, rfl⟩
  · replace h := chk_iff.1 h; obtain ⟨hb, h3, h⟩ := h
    obtain rfl := ikEq_eq hb
    refine ⟨_, h, ?_, by simp [flat]; omega, by simp [SV.ids], .inr ⟨rfl, rfl⟩, rfl⟩
    rw [upd1_eq, flat_updR μ _ _ _ 1 _ _ (by omega)]
    rfl
  · obtain ⟨hb, hlt, h⟩ := chk_iff.1 h
    rename_i n g _
    obtain ⟨f1, f2⟩ := toVal_leaf (μ := μ) hb
    refine ⟨_, h, by rw [f1]; exact flat_updV μ n off g x hlt, by rw [f1]; simp [flat]; omega, fun i hi => ?_, .inr ⟨rfl, hb⟩, by cases x <;> simp_all [SV.leaf, SV.wf]⟩
    obtain ⟨j, hj, hji⟩ := vec_ids.1 hi
    unfold updV at hji
    by_cases hjo : j = off
    · rw [if_pos hjo] at hji; exact .inl (by rw [leaf_ids hb]; exact hji)
    · rw [if_neg hjo] at hji; exact .inr (vec_ids.2 ⟨j, hj, hji⟩)
  · replace h := chk_iff.1 h; obtain ⟨hb, h⟩ := h
    simp only [Bool.and_eq_true] at hb
    obtain ⟨⟨⟨g1, g2⟩, g3⟩, h4⟩ := hb
    obtain rfl := beqN g1
    have h2 := beqN g2
    have h3 := beqN g3
    refine ⟨_, h, ?_, by rw [flat_length, flat_length, h2, h3]; omega, fun i hi => .inl hi, .inl ⟨_, rfl, by rw [flat_length, h3], rfl⟩, h4⟩
    simp only [splice, List.take_zero, List.nil_append, Nat.zero_add]
    rw [List.drop_of_length_le (by rw [flat_length, flat_length, h2, h3]; exact Nat.le_refl _), List.append_nil]
  · replace h := chk_iff.1 h; obtain ⟨hb, h⟩ := h
    simp only [Bool.and_eq_true] at hb
    obtain ⟨⟨g1, h2⟩, h3⟩ := hb
    obtain rfl := beqN g1
    obtain ⟨f1, _⟩ := toVal_leaf (μ := μ) h2
    obtain ⟨f2, _⟩ := toVal_leaf (μ := μ) h3
    exact ⟨_, h, by rw [f1, f2]; rfl, by rw [f1, f2]; simp, fun i hi => .inl hi, .inr ⟨rfl, h3⟩, by cases x <;> simp_all [SV.leaf, SV.wf]⟩
  · exact h.elim
theorem splice_mid (pre l post cs : List Value) (off : Nat) (h : off + cs.length ≤ l.length) : splice (pre ++ l ++ post) (pre.length + off) cs = pre ++ splice l off cs ++ post := by
  simp only [splice, List.append_assoc]
  rw [List.take_append, List.drop_append, List.take_of_length_le (l := pre) (by omega), List.drop_of_length_le (l := pre) (by omega)]
  rw [show pre.length + off - pre.length = off by omega, show pre.length + off + cs.length - pre.length = off + cs.length by omega]
  rw [List.take_append_of_le_length (by omega), List.drop_append_of_le_length (by omega)]
  simp

theorem flat_one (μ : Nat → Nat) : ∀ v : SV, v.wf = true → ∀ x ∈ flat μ v, x.oneCell' = true := by
  intro v
  induction v with
  | ints k n f => intro _ x hx; simp only [flat, List.mem_map] at hx; obtain ⟨i, _, rfl⟩ := hx; rfl
  | pair a b iha ihb =>
    intro h x hx
    simp only [SV.wf, Bool.and_eq_true] at h
    simp only [flat, List.mem_append] at hx
    rcases hx with hx | hx
    · exact iha h.1 x hx
    · exact ihb h.2 x hx
  | _ => intro h x hx; simp_all [SV.wf, SV.leaf, flat, scal, Value.oneCell']

theorem there_part {μ : Nat → Nat} {m : Mem} {w : World} (hm : MR μ m w) {id : Nat} {blk : SV} {c : Nat} (hb : blockOf m id = some (blk, c)) {path : List Nat} {sub : SV} {o off n : Nat} (hp : blk.part path = some (sub, o))
    (h : off + n ≤ (flat μ sub).length) : w.there (μ id) (o + off) n := by
  intro j hj
  have hx : (flat μ sub)[off + j]? = some ((flat μ sub)[off + j]'(by omega)) := List.getElem?_eq_getElem (by omega)
  have := cell_part hm hb hp hx
  rw [Nat.add_assoc]
  exact ⟨by rw [this]; rfl, frozen_part hm hb _⟩

theorem store_sound {T : Tab} (hT : TabOK P T) {μ0 : Nat → Nat} {m0 : Mem} {w0 : World} {N : Nat} {μ : Nat → Nat} {m : Mem} {s : Slots} {a : Act} {w : World} (hs : SRel N μ m.length s a) (hr : RunS μ0 m0 w0 μ m w)
    {o : Oper} {t : Nat} {x y : Operand} (ho : o.op = .store t x y) {K : Mem → Prop} (h : storeVC T t (ev s x) (ev s y) m K) :
    ∃ m' w', K m' ∧ RunS μ0 m0 w0 μ m' w' ∧ m'.length = m.length ∧ (execOp a.eval o).run P w = .ok .skip w' := by
  obtain ⟨dst, op, type, pos, after, guard⟩ := o
  simp only at ho
  subst ho
  unfold storeVC at h
  split at h
  · rename_i id path base off v hx hv
    have h1 := ev_sound hs hx
    have h2 := ev_sound hs hv
    split at h
    · rename_i blk c hb
      split at h
      · rename_i sub oo hp
        replace h := chk_iff.1 h; obtain ⟨hb', h⟩ := h
        simp only [Bool.and_eq_true] at hb'
        obtain ⟨g1, hkn⟩ := hb'
        obtain rfl := beqN g1
        obtain ⟨sub', hk, hf, hl, hi, hcase, hwf⟩ := putAt_flat μ h
        obtain ⟨pre, post, e1, e2, e3⟩ := setPart_flat μ path blk sub sub' oo hp
        have hflat : flat μ (blk.setPart path sub') = splice (flat μ blk) (oo + off) (flat μ v) := by
          rw [e3, e1, hf, ← e2, splice_mid pre _ post _ off hl]
        have hlen : oo + off + (flat μ v).length ≤ (flat μ blk).length := by rw [e1, ← e2]; simp; omega
        have hids : ∀ i ∈ (blk.setPart path sub').ids, i < m.length := fun i hi' => by
          rcases setPart_ids path blk sub' i hi' with g | g
          · exact hr.mr.ids id blk c hb i g
          · rcases hi i g with g | g
            · exact h2.2 i g
            · exact hr.mr.ids id blk c hb i (part_ids path blk sub _ hp i g)
        refine ⟨_, _, hk, hr.store hb hlen hflat hids, setBlock_length _ _ _, ?_⟩
        have hth := there_part hr.mr hb hp hl
        have hone := flat_one μ v hwf
        rcases hcase with ⟨n, hag, hn, hval⟩ | ⟨hag, hleaf⟩
        · obtain ⟨d, d1, d2, d3⟩ := agg_row hT hag
          have := run_storeAt_mid (P := P) w (μ id) (oo + off) t (flat μ v).toArray (by simpa using hth) (by rw [d3]; simp [hn]) (all_oneCell_toArray hone)
          simp only [execOp, h1.1, h2.1, hval]
          rw [show toVal μ (.ptr id path oo off) = .pointer (some ⟨μ id, oo + off, none⟩) from rfl]
          simp only [Sem.run_bind, this]
          rfl
        · obtain ⟨d, d1, d2, d3⟩ := agg_scalar hT hag (by intro hh; rw [hh] at hkn; cases hkn)
          obtain ⟨f1, f2⟩ := toVal_leaf (μ := μ) hleaf
          have hcell := hth 0 (by rw [f1]; simp)
          simp only [Nat.add_zero] at hcell
          obtain ⟨u, hu⟩ := Option.isSome_iff_exists.1 hcell.1
          have hone' : (scal μ v).oneCell' = true := hone _ (by rw [f1]; simp)
          have hst := run_store P w ⟨μ id, oo + off, none⟩ (scal μ v) .plain hone'
          rw [hu] at hst
          simp only [hcell.2, Bool.false_eq_true, if_false] at hst
          have hcs : (scal μ v).cells = #[scal μ v] := by
            have := cells_toVal μ v (.inl hleaf)
            rw [f1, f2] at this
            simpa using this
          have hsz := run_sizeOf_of (P := P) d3 w
          simp only [execOp, h1.1, h2.1, f2]
          rw [show toVal μ (.ptr id path oo off) = .pointer (some ⟨μ id, oo + off, none⟩) from rfl]
          simp only [Instr.storeAt, Instr.sureAddr, storeVar, Sem.run_bind, Sem.run_pure, Result.andThen_ok, hsz, hcs]
          rw [f1]
          simp [storeCells, hst, World.setCells, addr_add, Sem.run_bind]
      · exact h.elim
    · exact h.elim
  · exact h.elim
end Go.Proofs.Ytojfjcbblkiajaa
