/- Families of rows: blocks whose numbers are not known one by one, and calls over them. -/
import Derived.Test.YtojfjcbblkiajaaSpec
set_option linter.unusedVariables false
set_option linter.unusedSimpArgs false
namespace Go.Proofs.Ytojfjcbblkiajaa
variable {P : Program}

/-! ### memories by their blocks -/
theorem blockOf_getElem? : ∀ (m : Mem) (i : Nat), m[i]? = if i < m.length then some (blockOf m i) else none
  | [], i => by simp
  | x :: r, 0 => by simp [blockOf]
  | x :: r, i + 1 => by
    rw [List.getElem?_cons_succ, blockOf_getElem? r i]
    simp only [List.length_cons, Nat.add_lt_add_iff_right]
    rfl
theorem mem_ext {m m' : Mem} (hl : m.length = m'.length) (h : ∀ i, i < m.length → blockOf m i = blockOf m' i) : m = m' := by
  apply List.ext_getElem?
  intro i
  rw [blockOf_getElem?, blockOf_getElem?]
  by_cases hi : i < m.length
  · rw [if_pos hi, if_pos (by omega), h i hi]
  · rw [if_neg hi, if_neg (by omega)]
theorem setBlock_pre : ∀ (A F : Mem) (i : Nat) (v : SV), setBlock (A ++ F) (A.length + i) v = A ++ setBlock F i v
  | [], F, i, v => by simp
  | x :: r, F, i, v => by
    rw [List.length_cons, show r.length + 1 + i = (r.length + i) + 1 by omega]
    simp only [List.cons_append, setBlock, setBlock_pre r F i v]
theorem setBlock_head : ∀ (A F : Mem) (i : Nat) (v : SV), i < A.length → setBlock (A ++ F) i v = setBlock A i v ++ F
  | [], F, i, v, h => by simp at h
  | x :: r, F, 0, v, h => by cases x <;> rfl
  | x :: r, F, i + 1, v, h => by
    simp only [List.cons_append, setBlock, setBlock_head r F i v (by simpa using h)]
theorem setBlock_get : ∀ (m : Mem) (i j : Nat) (v u : SV) (c : Nat), blockOf m i = some (u, c) → blockOf (setBlock m i v) j = if j = i then some (v, c) else blockOf m j
  | [], i, j, v, u, c, h => by cases h
  | x :: r, 0, j, v, u, c, h => by
    simp only [blockOf] at h
    subst h
    cases j with
    | zero => rfl
    | succ j => simp [setBlock, blockOf]
  | x :: r, i + 1, 0, v, u, c, h => by simp [setBlock, blockOf]
  | x :: r, i + 1, j + 1, v, u, c, h => by
    simp only [setBlock, blockOf, setBlock_get r i j v u c h, Nat.add_right_cancel_iff]

/-! ### rows -/
/-- n rows of w numbers each -/
def rowsM (k : IntKind) (w n : Nat) (f : Nat → Nat → Int) (c : Nat → Nat) : Mem := (List.range n).map fun i => some (.ints k w (f i), c i)
theorem rowsM_length (k : IntKind) (w n : Nat) (f : Nat → Nat → Int) (c : Nat → Nat) : (rowsM k w n f c).length = n := by simp [rowsM]
theorem rowsM_get (k : IntKind) (w n : Nat) (f : Nat → Nat → Int) (c : Nat → Nat) (i : Nat) (h : i < n) : blockOf (rowsM k w n f c) i = some (.ints k w (f i), c i) := by
  have h1 := blockOf_getElem? (rowsM k w n f c) i
  rw [rowsM_length, if_pos h] at h1
  have h2 : (rowsM k w n f c)[i]? = some (some (.ints k w (f i), c i)) := by simp [rowsM, h]
  rw [h2] at h1
  exact (Option.some.inj h1).symm
theorem rowsM_set (k : IntKind) (w n : Nat) (f : Nat → Nat → Int) (c : Nat → Nat) (i : Nat) (h : i < n) (g : Nat → Int) : setBlock (rowsM k w n f c) i (.ints k w g) = rowsM k w n (fun j => if j = i then g else f j) c := by
  refine mem_ext (by rw [setBlock_length, rowsM_length, rowsM_length]) fun j hj => ?_
  rw [setBlock_length, rowsM_length] at hj
  rw [setBlock_get _ i j _ _ _ (rowsM_get k w n f c i h), rowsM_get k w n (fun j => if j = i then g else f j) c j hj]
  by_cases hji : j = i
  · subst hji; simp
  · simp only [if_neg hji]; exact rowsM_get k w n f c j hj
theorem rowsM_snoc (k : IntKind) (w n : Nat) (f : Nat → Nat → Int) (c : Nat → Nat) (g : Nat → Int) (d : Nat) : rowsM k w n f c ++ [some (.ints k w g, d)] = rowsM k w (n + 1) (fun j => if j = n then g else f j) (fun j => if j = n then d else c j) := by
  refine mem_ext (by simp [rowsM]) fun j hj => ?_
  simp only [List.length_append, rowsM_length, List.length_singleton] at hj
  rw [rowsM_get k w (n + 1) _ _ j hj]
  by_cases hjn : j = n
  · subst hjn
    have := blockOf_append_ge (rowsM k w j f c) [some (.ints k w g, d)] 0
    rw [rowsM_length, Nat.add_zero] at this
    rw [this]; simp [blockOf]
  · rw [blockOf_append_lt _ _ j (by rw [rowsM_length]; omega), rowsM_get k w n f c j (by omega)]
    simp [hjn]
theorem pre_get (A F : Mem) (a i : Nat) (h : A.length = a) : blockOf (A ++ F) (a + i) = blockOf F i := by rw [← h]; exact blockOf_append_ge A F i

/-! ### single operations, where a block's number is not known -/
theorem opsVC_one {T : Tab} {N : Nat} {ops : Array Oper} {o : Oper} {r : List Oper} {s : Slots} {m : Mem} {K : Slots → Mem → Prop} (hg : o.guard = none)
    (h : oneVC P T N o s m fun s' m' => opsVC P T N ops r s' m' K) : opsVC P T N ops (o :: r) s m K := by
  simp only [opsVC, guardVC, hg]
  exact h
theorem readVC_load {T : Tab} {t : Nat} {a : Operand} {s : Slots} {m : Mem} {K : SV → Prop} {id off n c : Nat} {k : IntKind} {v : Nat → Int} (ha : ev s a = some (.ptr id [] 0 off)) (ht : ((T.ti t).known && (T.ti t).agg.isNone) = true)
    (hb : blockOf m id = some (.ints k n v, c)) (hlt : off < n) (h : K (.int k (v off))) : readVC T (.load t a) s m K := by
  simp only [Bool.and_eq_true, Option.isNone_iff_eq_none] at ht
  simp only [readVC, ha, hb, SV.part, ht.1, ht.2, getAt]
  exact chk_iff.2 ⟨rfl, hlt, h⟩
theorem readVC_loadV {T : Tab} {t : Nat} {a : Operand} {s : Slots} {m : Mem} {K : SV → Prop} {id off n c : Nat} {h : Nat → SV} (ha : ev s a = some (.ptr id [] 0 off)) (ht : ((T.ti t).known && (T.ti t).agg.isNone) = true)
    (hb : blockOf m id = some (.vec n h, c)) (hlt : off < n) (hl : (h off).leaf = true) (hk : K (h off)) : readVC T (.load t a) s m K := by
  simp only [Bool.and_eq_true, Option.isNone_iff_eq_none] at ht
  simp only [readVC, ha, hb, SV.part, ht.1, ht.2, getAt]
  exact chk_iff.2 ⟨rfl, hlt, hl, hk⟩
theorem readVC_loadR {T : Tab} {t l : Nat} {a : Operand} {s : Slots} {m : Mem} {K : SV → Prop} {id off n c : Nat} {k : IntKind} {v : Nat → Int} (ha : ev s a = some (.ptr id [] 0 off)) (ht : ((T.ti t).known && ((T.ti t).agg == some l)) = true)
    (hb : blockOf m id = some (.ints k n v, c)) (hlt : off + l ≤ n) (h : K (.ints k l fun j => v (j + off))) : readVC T (.load t a) s m K := by
  simp only [Bool.and_eq_true, beq_iff_eq] at ht
  simp only [readVC, ha, hb, SV.part, ht.1, ht.2, getAt]
  exact chk_iff.2 ⟨rfl, hlt, h⟩
theorem storeVC_int {T : Tab} {t : Nat} {m : Mem} {K : Mem → Prop} {id off n c : Nat} {k : IntKind} {v : Nat → Int} {y : Int} (ht : ((T.ti t).known && (T.ti t).agg.isNone) = true)
    (hb : blockOf m id = some (.ints k n v, c)) (hlt : off < n) (h : K (setBlock m id (.ints k n (upd1 v off y)))) : storeVC T t (some (.ptr id [] 0 off)) (some (.int k y)) m K := by
  simp only [Bool.and_eq_true, Option.isNone_iff_eq_none] at ht
  simp only [storeVC, hb, SV.part, ht.1, ht.2, putAt, SV.setPart]
  exact chk_iff.2 ⟨rfl, chk_iff.2 ⟨by cases k <;> rfl, hlt, h⟩⟩
theorem storeVC_vec {T : Tab} {t : Nat} {m : Mem} {K : Mem → Prop} {id off n c : Nat} {f : Nat → SV} {y : SV} (ht : ((T.ti t).known && (T.ti t).agg.isNone) = true)
    (hb : blockOf m id = some (.vec n f, c)) (hl : y.leaf = true) (hlt : off < n) (h : K (setBlock m id (.vec n (updV f off y)))) : storeVC T t (some (.ptr id [] 0 off)) (some y) m K := by
  simp only [Bool.and_eq_true, Option.isNone_iff_eq_none] at ht
  simp only [storeVC, hb, SV.part, ht.1, ht.2, putAt, SV.setPart]
  exact chk_iff.2 ⟨rfl, chk_iff.2 ⟨hl, hlt, h⟩⟩

theorem readVC_loadS {T : Tab} {t : Nat} {a : Operand} {s : Slots} {m : Mem} {K : SV → Prop} {id off n c : Nat} {h : Nat → SV} {v : SV} (ha : ev s a = some (.ptr id [] 0 off)) (ht : ((T.ti t).known && (T.ti t).agg.isNone) = true)
    (hb : blockOf m id = some (.vec n h, c)) (hlt : off < n) (hv : h off = v) (hl : v.leaf = true) (hk : K v) : readVC T (.load t a) s m K :=
  readVC_loadV ha ht hb hlt (by rw [hv]; exact hl) (by rw [hv]; exact hk)
theorem eqv_refl : ∀ v : SV, v.eqv v := by
  intro v
  induction v with
  | ints k n f => exact ⟨⟨rfl, rfl⟩, fun _ _ => rfl⟩
  | vec n h => exact ⟨rfl, fun _ _ => rfl⟩
  | pair a b iha ihb => exact ⟨iha, ihb⟩
  | tcons a b iha ihb => exact ⟨iha, ihb⟩
  | _ => exact rfl

section
variable {T : Tab} {N : Nat} {ops : Array Oper} {o : Oper} {r : List Oper} {s : Slots} {m : Mem} {K : Slots → Mem → Prop} {t : Nat} {a x : Operand} {id off n c l : Nat} {k : IntKind} {f : Nat → Int} {h : Nat → SV} {v : SV} {y : Int}
theorem opsVC_load (hg : o.guard = none) (ho : o.op = .load t a) (ha : ev s a = some (.ptr id [] 0 off)) (ht : ((T.ti t).known && (T.ti t).agg.isNone) = true)
    (hb : blockOf m id = some (.ints k n f, c)) (hlt : off < n) (hk : opsVC P T N ops r (sset N s o.dst (.int k (f off))) m K) : opsVC P T N ops (o :: r) s m K := by
  refine opsVC_one hg ?_
  simp only [oneVC, ho]
  exact readVC_load ha ht hb hlt hk
theorem opsVC_loadS (hg : o.guard = none) (ho : o.op = .load t a) (ha : ev s a = some (.ptr id [] 0 off)) (ht : ((T.ti t).known && (T.ti t).agg.isNone) = true)
    (hb : blockOf m id = some (.vec n h, c)) (hlt : off < n) (hv : h off = v) (hl : v.leaf = true) (hk : opsVC P T N ops r (sset N s o.dst v) m K) : opsVC P T N ops (o :: r) s m K := by
  refine opsVC_one hg ?_
  simp only [oneVC, ho]
  exact readVC_loadS ha ht hb hlt hv hl hk
theorem opsVC_loadR (hg : o.guard = none) (ho : o.op = .load t a) (ha : ev s a = some (.ptr id [] 0 off)) (ht : ((T.ti t).known && ((T.ti t).agg == some l)) = true)
    (hb : blockOf m id = some (.ints k n f, c)) (hlt : off + l ≤ n) (hk : opsVC P T N ops r (sset N s o.dst (.ints k l fun j => f (j + off))) m K) : opsVC P T N ops (o :: r) s m K := by
  refine opsVC_one hg ?_
  simp only [oneVC, ho]
  exact readVC_loadR ha ht hb hlt hk
theorem opsVC_storeI (hg : o.guard = none) (ho : o.op = .store t a x) (ha : ev s a = some (.ptr id [] 0 off)) (hx : ev s x = some (.int k y)) (ht : ((T.ti t).known && (T.ti t).agg.isNone) = true)
    (hb : blockOf m id = some (.ints k n f, c)) (hlt : off < n) (hk : opsVC P T N ops r (sset N s o.dst .undef) (setBlock m id (.ints k n (upd1 f off y))) K) : opsVC P T N ops (o :: r) s m K := by
  refine opsVC_one hg ?_
  simp only [oneVC, ho, ha, hx]
  exact storeVC_int ht hb hlt hk
theorem opsVC_storeV (hg : o.guard = none) (ho : o.op = .store t a x) (ha : ev s a = some (.ptr id [] 0 off)) (hx : ev s x = some v) (ht : ((T.ti t).known && (T.ti t).agg.isNone) = true)
    (hb : blockOf m id = some (.vec n h, c)) (hl : v.leaf = true) (hlt : off < n) (hk : opsVC P T N ops r (sset N s o.dst .undef) (setBlock m id (.vec n (updV h off v))) K) : opsVC P T N ops (o :: r) s m K := by
  refine opsVC_one hg ?_
  simp only [oneVC, ho, ha, hx]
  exact storeVC_vec ht hb hl hlt hk
theorem opsVC_call {cl : Call} {g : Nat} {args : List SV} (hd : T.direct g = false) (hg : o.guard = none) (ho : o.op = .call cl) (hc : cl.callee = .value x) (hx : ev s x = some (.fn g)) (ha : evs s cl.args.toList = some args)
    (hk : callVC P g args m fun r' m' => opsVC P T N ops r (sset N s o.dst r') m' K) : opsVC P T N ops (o :: r) s m K := by
  refine opsVC_one hg ?_
  simp only [oneVC, ho, hc, hx, ha, hd]
  exact hk
/-- a call over all blocks as they are -/
theorem opsVC_dir {cl : Call} {g : Nat} {args : List SV} (hd : T.direct g = true) (hg : o.guard = none) (ho : o.op = .call cl) (hc : cl.callee = .value x) (hx : ev s x = some (.fn g)) (ha : evs s cl.args.toList = some args)
    (hk : Spec P g args m fun r' m' => liveP m m' ∧ opsVC P T N ops r (sset N s o.dst r') m' K) : opsVC P T N ops (o :: r) s m K := by
  refine opsVC_one hg ?_
  simp only [oneVC, ho, hc, hx, ha, hd]
  exact hk
end

/-! ### calls -/
theorem callVC_of {f : Nat} {args : List SV} {m : Mem} {K : SV → Mem → Prop} {ids : List Nat} (hids : reach1 m (dedup [] (idsOf args)) = ids) (h : callWith P f args m K ids) : callVC P f args m K := by
  unfold callVC
  generalize dedup [] (idsOf args) = i at hids ⊢
  cases i with
  | nil =>
    simp only [reach1] at hids
    subst hids
    exact h
  | cons x r =>
    unfold callIds
    exact (forceL_iff _ _).2 ((forceM_iff _ _).2 ((forceL_iff _ _).2 (by rw [hids]; exact h)))

theorem posIn_range' : ∀ (k a x : Nat), a ≤ x → x < a + k → posIn (List.range' a k) x = x - a
  | 0, a, x, h1, h2 => by omega
  | k + 1, a, x, h1, h2 => by
    rw [List.range'_succ]
    unfold posIn
    cases hb : Nat.beq a x with
    | true => have := Nat.eq_of_beq_eq_true hb; subst this; simp
    | false =>
      have hne : ¬ a = x := by rintro rfl; rw [Nat.beq_refl] at hb; cases hb
      have := posIn_range' k (a + 1) x (by omega) (by omega)
      simp only [this]
      omega
theorem nth_range' (k a j : Nat) : nth (List.range' a k) (a + k) j = a + j := by
  rw [nth_get]
  by_cases h : j < k
  · rw [dif_pos (by simpa using h)]; simp
  · rw [dif_neg (by simpa using h)]; simp; omega
theorem subMem_range' : ∀ (F A : Mem), (∀ i, i < F.length → (blockOf F i).isSome = true) → subMem (A ++ F) (List.range' A.length F.length) = some F
  | [], A, h => rfl
  | x :: r, A, h => by
    rw [List.length_cons, List.range'_succ]
    have h0 : blockOf (A ++ x :: r) A.length = x := by have := blockOf_append_ge A (x :: r) 0; rw [Nat.add_zero] at this; rw [this]; rfl
    have hx : x.isSome = true := h 0 (by simp)
    have ih := subMem_range' r (A ++ [x]) fun i hi => h (i + 1) (by simpa using hi)
    simp only [List.append_assoc, List.singleton_append, List.length_append, List.length_singleton] at ih
    unfold subMem
    rw [h0, ih]
    cases x with
    | none => cases hx
    | some b => rfl
theorem backMem_range' (A F m' : Mem) (ρ : Nat → Nat) (hl : F.length ≤ m'.length) : backMem ρ (A ++ F) (List.range' A.length F.length) m' = A ++ m'.map (renBlk ρ) := by
  have hmem : ∀ i, i ∈ List.range' A.length F.length ↔ A.length ≤ i ∧ i < A.length + F.length := fun i => by simp [List.mem_range'_1]
  refine mem_ext ?_ fun i hi => ?_
  · simp [backMem, backGo_length]; omega
  · simp only [backMem, List.length_append, backGo_length, List.length_map, List.length_drop, List.length_range'] at hi
    rw [backMem]
    by_cases h1 : i < A.length + F.length
    · rw [blockOf_append_lt _ _ i (by rw [backGo_length]; simpa using h1), backGo_get ρ _ m' (A ++ F) 0 i (by simpa using h1), Nat.zero_add]
      by_cases h2 : i < A.length
      · rw [if_neg (fun h => by have := ((hmem i).1 h).1; omega), blockOf_append_lt _ _ i h2, blockOf_append_lt _ _ i h2]
      · rw [if_pos ((hmem i).2 ⟨by omega, h1⟩), posIn_range' _ _ _ (by omega) h1]
        have := blockOf_append_ge A (m'.map (renBlk ρ)) (i - A.length)
        rw [show A.length + (i - A.length) = i by omega] at this
        rw [this, blockOf_map]
    · have e1 := blockOf_append_ge (backGo ρ (List.range' A.length F.length) m' 0 (A ++ F)) ((m'.drop (List.range' A.length F.length).length).map (renBlk ρ)) (i - (A.length + F.length))
      rw [backGo_length, List.length_append, show A.length + F.length + (i - (A.length + F.length)) = i by omega] at e1
      rw [e1, blockOf_map, blockOf_drop, List.length_range']
      have := blockOf_append_ge A (m'.map (renBlk ρ)) (i - A.length)
      rw [show A.length + (i - A.length) = i by omega] at this
      rw [this, blockOf_map, show F.length + (i - (A.length + F.length)) = i - A.length by omega]

/-- memories with equal heads serve alike -/
theorem Spec.pre {f : Nat} {args args' : List SV} {m M : Mem} {Q : SV → Mem → Prop} (h : Spec P f args' M Q) (ha : ∀ μ, args.map (toVal μ) = args'.map (toVal μ)) (hl : m.length = M.length)
    (hm : ∀ i, match blockOf M i with | some (u, c) => ∃ v, blockOf m i = some (v, c) ∧ v.eqv u | none => blockOf m i = none) : Spec P f args m Q := by
  have fwd : ∀ i u c, blockOf M i = some (u, c) → ∃ v, blockOf m i = some (v, c) ∧ v.eqv u := fun i u c hb => by have := hm i; rw [hb] at this; exact this
  have some_ : ∀ i, (blockOf M i).isSome = (blockOf m i).isSome := fun i => by
    have := hm i
    cases hb : blockOf M i with
    | none => rw [hb] at this; rw [this]
    | some p => obtain ⟨u, c⟩ := p; rw [hb] at this; obtain ⟨v, hv, _⟩ := this; rw [hv]; rfl
  refine ⟨h.enters, fun μ w hmr => ?_⟩
  have hmr' : MR μ M w := ⟨fun id u c hb => by
      obtain ⟨v, hv, he⟩ := fwd id u c hb
      obtain ⟨t, ex, h1, h2⟩ := hmr.blk id v c hv
      rw [(eqv_flat μ v u he).1] at h1 h2
      exact ⟨t, ex, h1, h2⟩, fun i j hi hj => hmr.inj i j (by rw [← some_]; exact hi) (by rw [← some_]; exact hj), fun id u c hb i hi => by
      obtain ⟨v, hv, he⟩ := fwd id u c hb
      rw [← (eqv_flat μ v u he).2] at hi
      rw [← hl]
      exact hmr.ids id v c hv i hi⟩
  rw [ha μ]
  refine (h.run μ w hmr').mono ?_
  rintro e w' ⟨μ', r, m', rfl, hQ, hi, hag, hle, hf, hmr2, hk⟩
  exact ⟨μ', r, m', rfl, hQ, hi, fun id hid => hag id (by omega), by omega, fun id hid hs => hf id (by omega) hs, hmr2, ⟨hk.size, fun b hb hne => hk.old b hb fun id hs => hne id (by rw [← some_]; exact hs), hk.rest, hk.fro⟩⟩

/-! ### what is handed on -/
theorem dedup_nodup : ∀ (l acc : List Nat), (acc ++ l).Nodup → dedup acc l = acc ++ l
  | [], acc, h => by simp [dedup]
  | x :: r, acc, h => by
    unfold dedup
    have hx : x ∉ acc := fun hm => by
      rw [List.nodup_append] at h
      exact h.2.2 x hm x (by simp) rfl
    cases hb : memN acc x with
    | true => exact absurd ((memN_iff acc x).1 hb) hx
    | false =>
      have := dedup_nodup r (acc ++ [x]) (by simpa using h)
      simp only [this, List.append_assoc, List.singleton_append]
theorem dedup_sub : ∀ (l acc : List Nat), (∀ x ∈ l, x ∈ acc) → dedup acc l = acc
  | [], acc, h => rfl
  | x :: r, acc, h => by
    unfold dedup
    have hx : memN acc x = true := (memN_iff acc x).2 (h x (by simp))
    simp only [hx]
    exact dedup_sub r acc fun y hy => h y (by simp [hy])
theorem contIds_mem (m : Mem) : ∀ (l : List Nat) (x : Nat), x ∈ contIds m l → ∃ i ∈ l, ∃ v c, blockOf m i = some (v, c) ∧ x ∈ v.ids
  | [], x, h => by cases h
  | i :: r, x, h => by
    simp only [contIds, List.mem_append] at h
    rcases h with h | h
    · split at h
      · rename_i v c hb; exact ⟨i, by simp, v, c, hb, h⟩
      · cases h
    · obtain ⟨j, hj, v, c, hb, hx⟩ := contIds_mem m r x h
      exact ⟨j, by simp [hj], v, c, hb, hx⟩
theorem vec_ids_map (n : Nat) (h : Nat → SV) (ρ : Nat → Nat) (hh : ∀ i, i < n → (h i).ids1 = [ρ i]) : (SV.vec n h).ids = (List.range n).map ρ := by
  show (List.range n).flatMap (fun i => (h i).ids1) = _
  rw [List.flatMap_def, List.map_congr_left (g := fun i => [ρ i]) fun i hi => hh i (List.mem_range.1 hi)]
  induction List.range n with
  | nil => rfl
  | cons x r ih => simp_all
/-- a block of slices and what these lead to -/
theorem reach_vec {m : Mem} {a n c : Nat} {h : Nat → SV} {ρ : Nat → Nat} (hb : blockOf m a = some (.vec n h, c)) (hh : ∀ i, i < n → (h i).ids1 = [ρ i]) (hinj : ∀ i j, i < n → j < n → ρ i = ρ j → i = j) (hne : ∀ i, i < n → ρ i ≠ a)
    (hr : ∀ i, i < n → ∀ v d, blockOf m (ρ i) = some (v, d) → v.ids = []) : reach1 m [a] = a :: (List.range n).map ρ := by
  have hv := vec_ids_map n h ρ hh
  have hc : contIds m [a] = (List.range n).map ρ := by simp only [contIds, hb, hv, List.append_nil]
  have hnd : (a :: (List.range n).map ρ).Nodup := by
    rw [List.nodup_cons]
    refine ⟨fun hm => ?_, ?_⟩
    · obtain ⟨i, hi, e⟩ := List.mem_map.1 hm
      exact hne i (List.mem_range.1 hi) e
    · refine List.Pairwise.map ρ (R := fun i j => i < n ∧ j < n ∧ i ≠ j) (fun i j ⟨hi, hj, hij⟩ e => hij (hinj i j hi hj e)) ?_
      have h1 : (List.range n).Pairwise (· ≠ ·) := List.nodup_range
      have h2 : (List.range n).Pairwise fun i j => i < n ∧ j < n := List.pairwise_of_forall_mem_list fun i hi j hj => ⟨List.mem_range.1 hi, List.mem_range.1 hj⟩
      exact (h1.and h2).imp fun ⟨e, hi, hj⟩ => ⟨hi, hj, e⟩
  show reach2 m [a] (contIds m [a]) = _
  rw [hc]
  cases n with
  | zero => simp [reach2]
  | succ n =>
    have hd : dedup [a] ((List.range (n + 1)).map ρ) = a :: (List.range (n + 1)).map ρ := by rw [dedup_nodup _ _ (by simpa using hnd)]; simp
    have hcons : ∃ x r, (List.range (n + 1)).map ρ = x :: r := by
      cases hl : (List.range (n + 1)).map ρ with
      | nil => simp at hl
      | cons x r => exact ⟨x, r, rfl⟩
    obtain ⟨x, r, hxr⟩ := hcons
    rw [hxr] at hd ⊢
    show dedup (dedup [a] (x :: r)) (contIds m (dedup [a] (x :: r))) = _
    rw [hd]
    refine dedup_sub _ _ fun y hy => ?_
    obtain ⟨i, hi, v, d, hbi, hyv⟩ := contIds_mem m _ y hy
    rw [← hxr] at hi ⊢
    rcases List.mem_cons.1 hi with rfl | hi
    · rw [hb] at hbi
      cases hbi
      rw [hv] at hyv
      exact List.mem_cons_of_mem _ hyv
    · obtain ⟨j, hj, rfl⟩ := List.mem_map.1 hi
      rw [hr j (List.mem_range.1 hj) v d hbi] at hyv
      cases hyv

theorem Spec.len {f : Nat} {args : List SV} {m : Mem} {Q : SV → Mem → Prop} (h : Spec P f args m Q) : Spec P f args m fun r m' => Q r m' ∧ m.length ≤ m'.length :=
  ⟨h.enters, fun μ w hm => (h.run μ w hm).mono fun e w' ⟨μ', r, m', he, hQ, hi, ha, hl, hf, hmr, hk⟩ => ⟨μ', r, m', he, ⟨hQ, hl⟩, hi, ha, hl, hf, hmr, hk⟩⟩

/-- a call over the blocks behind -/
theorem callVC_tail {f : Nat} {args args' : List SV} {A F F' : Mem} {K : SV → Mem → Prop} (hids : reach1 (A ++ F) (dedup [] (idsOf args)) = List.range' A.length F.length)
    (hF : ∀ i, i < F.length → (blockOf F i).isSome = true) (hcl : closedMem (List.range' A.length F.length) F)
    (ha : ∀ μ, (args.map (SV.ren (posIn (List.range' A.length F.length)))).map (toVal μ) = args'.map (toVal μ)) (hl : F.length = F'.length)
    (hm : ∀ i u c, blockOf F' i = some (u, c) → ∃ v, blockOf F i = some (v, c) ∧ (v.ren (posIn (List.range' A.length F.length))).eqv u) (hF' : ∀ i, i < F'.length → (blockOf F' i).isSome = true)
    (h : Spec P f args' F' fun r m' => K (r.ren (A.length + ·)) (A ++ m'.map (renBlk (A.length + ·)))) : callVC P f args (A ++ F) K := by
  refine callVC_of hids ?_
  unfold callWith
  simp only [subMem_range' F A hF]
  refine ⟨hcl, ?_⟩
  have hρ : nth (List.range' A.length F.length) (A ++ F).length = (A.length + ·) := by
    funext j
    rw [List.length_append, nth_range']
  rw [hρ]
  have h1 : Spec P f (args.map (SV.ren (posIn (List.range' A.length F.length)))) (renMem (posIn (List.range' A.length F.length)) F) fun r m' => K (r.ren (A.length + ·)) (A ++ m'.map (renBlk (A.length + ·))) := by
    refine h.pre ha (by simp [renMem, hl]) fun i => ?_
    split
    · rename_i u c hb
      obtain ⟨v, hv, he⟩ := hm i u c hb
      exact ⟨_, by rw [renMem, blockOf_map, hv]; rfl, he⟩
    · rename_i hb
      rcases Nat.lt_or_ge i F'.length with hlt | hge
      · have := hF' i hlt; rw [hb] at this; cases this
      · exact blockOf_ge _ i (by simp [renMem]; omega)
  refine h1.len.mono fun r m' hq => ?_
  have hle : F.length ≤ m'.length := by simpa [renMem] using hq.2
  rw [backMem_range' A F m' _ hle]
  exact hq.1

/-- nothing has another number -/
theorem ren1_id (v : SV) : v.ren1 (fun i => i) = v := by cases v <;> rfl
theorem ren_id : ∀ v : SV, v.ren (fun i => i) = v := by
  intro v
  induction v with
  | vec n h => show SV.vec n (fun i => (h i).ren1 fun i => i) = _; exact congrArg (SV.vec n) (funext fun i => ren1_id (h i))
  | pair a b iha ihb => show SV.pair (a.ren _) (b.ren _) = _; rw [iha, ihb]
  | tcons a b iha ihb => show SV.tcons (a.ren _) (b.ren _) = _; rw [iha, ihb]
  | _ => rfl
theorem RenTo.same {own : Nat} {S : Slots} {M : Mem} {s : Slots} {m : Mem} (hs : subL S s) (hm : ∀ i u d, blockOf M i = some (u, d) → ∃ v, blockOf m i = some (v, d) ∧ v.eqv u) : RenTo own (fun i => i) S M s m :=
  ⟨fun _ _ => rfl, fun i u d hb => by rw [ren_id]; exact ⟨fun h => h, hm i u d hb⟩, fun _ _ _ _ h => h, fun t v hv => by rw [ren_id]; exact subL_get S s hs t v hv⟩

/-! ### calls on one row or two, whose numbers are not known -/
theorem backMem_same {ids : List Nat} {m m' M : Mem} {ρ : Nat → Nat} (hl : m'.length = ids.length) (hlen : M.length = m.length) (hin : ∀ i, i < m.length → i ∈ ids → renBlk ρ (blockOf m' (posIn ids i)) = blockOf M i) (hout : ∀ i, i < m.length → i ∉ ids → blockOf m i = blockOf M i) : backMem ρ m ids m' = M := by
  have hd : m'.drop ids.length = [] := by rw [List.drop_eq_nil_of_le (by omega)]
  refine mem_ext (by simp [backMem, backGo_length, hd, hlen]) fun i hi => ?_
  have hi : i < m.length := by simpa [backMem, backGo_length, hd] using hi
  rw [backMem, blockOf_append_lt _ _ i (by rw [backGo_length]; exact hi), backGo_get ρ ids m' m 0 i hi, Nat.zero_add]
  by_cases h : i ∈ ids
  · rw [if_pos h]; exact hin i hi h
  · rw [if_neg h]; exact hout i hi h

theorem callVC_row {f : Nat} {args args' : List SV} {m : Mem} {K : SV → Mem → Prop} {i c : Nat} {v : SV} (hb : blockOf m i = some (v, c)) (hv : v.ids = []) (hvr : ∀ ρ, v.ren ρ = v) (hids : idsOf args = [i]) (ha : args.map (SV.ren (posIn [i])) = args')
    (h : Spec P f args' [some (v, c)] fun r m' => ∃ v', (∀ ρ, v'.ren ρ = v') ∧ (∀ ρ, r.ren ρ = r) ∧ m' = [some (v', c)] ∧ K r (setBlock m i v')) : callVC P f args m K := by
  have hp : posIn [i] i = 0 := by unfold posIn; rw [Nat.beq_refl]
  have hcont : contIds m [i] = [] := by simp only [contIds, hb, hv, List.append_nil]
  have hr : reach1 m (dedup [] (idsOf args)) = [i] := by
    rw [hids]
    show reach2 m [i] (contIds m [i]) = _
    rw [hcont]; rfl
  refine callVC_of hr ?_
  unfold callWith
  simp only [subMem, hb]
  refine ⟨⟨by rw [hv]; rfl, trivial⟩, ?_⟩
  rw [ha]
  have hm : renMem (posIn [i]) [some (v, c)] = [some (v, c)] := by simp only [renMem, List.map_cons, List.map_nil, renBlk, hvr]
  rw [hm]
  refine h.mono ?_
  rintro r m' ⟨v', hv', hrr, rfl, hk⟩
  rw [hrr, backMem_same (M := setBlock m i v') rfl (setBlock_length _ _ _) ?_ ?_]
  · exact hk
  · intro j hj hji
    obtain rfl : j = i := by simpa using hji
    rw [hp, setBlock_get m j j v' v c hb, if_pos rfl]
    simp only [blockOf, renBlk, hv']
  · intro j hj hji
    rw [setBlock_get m i j v' v c hb, if_neg (by simpa using hji)]

theorem callVC_row2 {f : Nat} {args args' : List SV} {m : Mem} {K : SV → Mem → Prop} {i j c d : Nat} {v u : SV} (hij : i ≠ j) (hb : blockOf m i = some (v, c)) (hb2 : blockOf m j = some (u, d)) (hv : v.ids = []) (hu : u.ids = []) (hvr : ∀ ρ, v.ren ρ = v) (hur : ∀ ρ, u.ren ρ = u) (hids : idsOf args = [i, j]) (ha : args.map (SV.ren (posIn [i, j])) = args')
    (h : Spec P f args' [some (v, c), some (u, d)] fun r m' => ∃ v', (∀ ρ, v'.ren ρ = v') ∧ (∀ ρ, r.ren ρ = r) ∧ m' = [some (v', c), some (u, d)] ∧ K r (setBlock m i v')) : callVC P f args m K := by
  have hne : Nat.beq i j = false := by
    cases hb : Nat.beq i j with
    | false => rfl
    | true => exact absurd (Nat.eq_of_beq_eq_true hb) hij
  have hp : posIn [i, j] i = 0 := by unfold posIn; rw [Nat.beq_refl]
  have hp2 : posIn [i, j] j = 1 := by unfold posIn; rw [hne]; unfold posIn; rw [Nat.beq_refl]
  have hcont : contIds m [i, j] = [] := by simp only [contIds, hb, hb2, hv, hu, List.append_nil]
  have hd : dedup [] (idsOf args) = [i, j] := by
    rw [hids, dedup_nodup _ _ (by simp [hij])]
    rfl
  have hr : reach1 m (dedup [] (idsOf args)) = [i, j] := by
    rw [hd]
    show reach2 m [i, j] (contIds m [i, j]) = _
    rw [hcont]; rfl
  refine callVC_of hr ?_
  unfold callWith
  simp only [subMem, hb, hb2]
  refine ⟨⟨by rw [hv]; rfl, by rw [hu]; rfl, trivial⟩, ?_⟩
  rw [ha]
  have hm : renMem (posIn [i, j]) [some (v, c), some (u, d)] = [some (v, c), some (u, d)] := by simp only [renMem, List.map_cons, List.map_nil, renBlk, hvr, hur]
  rw [hm]
  refine h.mono ?_
  rintro r m' ⟨v', hv', hrr, rfl, hk⟩
  rw [hrr, backMem_same (M := setBlock m i v') rfl (setBlock_length _ _ _) ?_ ?_]
  · exact hk
  · intro q hq hqi
    simp only [List.mem_cons, List.not_mem_nil, or_false] at hqi
    rcases hqi with rfl | rfl
    · rw [hp, setBlock_get m q q v' v c hb, if_pos rfl]
      simp only [blockOf, renBlk, hv']
    · rw [hp2, setBlock_get m i q v' v c hb, if_neg (fun e => hij e.symm), hb2]
      simp only [blockOf, renBlk, hur]
  · intro q hq hqi
    simp only [List.mem_cons, List.not_mem_nil, or_false, not_or] at hqi
    rw [setBlock_get m i q v' v c hb, if_neg hqi.1]
end Go.Proofs.Ytojfjcbblkiajaa
