/- Calls: a callee's contract over the blocks that its arguments lead to serves a caller who knows more blocks. -/
import Derived.Test.YtojfjcbblkiajaaStore
set_option linter.unusedVariables false
set_option linter.unusedSimpArgs false
namespace Go.Proofs.Ytojfjcbblkiajaa
variable {P : Program}

theorem nodup_get : ∀ (l : List Nat), l.Nodup → ∀ j k i : Nat, l[j]? = some i → l[k]? = some i → j = k
  | [], _, j, k, i, h, _ => by simp at h
  | x :: r, hn, j, k, i, hj, hk => by
    rw [List.nodup_cons] at hn
    cases j with
    | zero => cases k with
      | zero => rfl
      | succ k =>
        simp at hj hk
        subst hj
        exact absurd (List.mem_of_getElem? hk) hn.1
    | succ j => cases k with
      | zero =>
        simp at hj hk
        subst hk
        exact absurd (List.mem_of_getElem? hj) hn.1
      | succ k =>
        simp at hj hk
        rw [nodup_get r hn.2 j k i hj hk]

theorem memN_iff : ∀ (l : List Nat) (x : Nat), memN l x = true ↔ x ∈ l
  | [], x => by simp [memN]
  | y :: r, x => by
    unfold memN
    cases hb : Nat.beq y x with
    | true => have := Nat.eq_of_beq_eq_true hb; simp [this]
    | false =>
      have hne : ¬ y = x := by rintro rfl; rw [Nat.beq_refl] at hb; cases hb
      simp only [memN_iff r x, List.mem_cons]
      constructor
      · exact fun h => .inr h
      · rintro (h | h)
        · exact absurd h.symm hne
        · exact h
theorem dedup_spec : ∀ (l acc : List Nat), acc.Nodup → (dedup acc l).Nodup ∧ ∀ x, x ∈ dedup acc l ↔ x ∈ acc ∨ x ∈ l
  | [], acc, h => ⟨h, fun x => by simp [dedup]⟩
  | y :: r, acc, h => by
    unfold dedup
    cases hb : memN acc y with
    | true =>
      have hy := (memN_iff acc y).1 hb
      obtain ⟨h1, h2⟩ := dedup_spec r acc h
      refine ⟨h1, fun x => ?_⟩
      rw [h2 x, List.mem_cons]
      constructor
      · rintro (h | h); exact .inl h; exact .inr (.inr h)
      · rintro (h | rfl | h); exact .inl h; exact .inl hy; exact .inr h
    | false =>
      have hy : y ∉ acc := fun hh => by rw [(memN_iff acc y).2 hh] at hb; cases hb
      obtain ⟨h1, h2⟩ := dedup_spec r (acc ++ [y]) (by
        rw [List.nodup_append]
        exact ⟨h, by simp, fun a ha b hb => by simp at hb; subst hb; rintro rfl; exact hy ha⟩)
      refine ⟨h1, fun x => ?_⟩
      rw [h2 x, List.mem_append, List.mem_singleton, List.mem_cons, or_assoc]

theorem posIn_get : ∀ (l : List Nat) (x : Nat), x ∈ l → l[posIn l x]? = some x
  | [], x, h => by cases h
  | y :: r, x, h => by
    unfold posIn
    cases hb : Nat.beq y x with
    | true => have := Nat.eq_of_beq_eq_true hb; simp [this]
    | false =>
      have hne : ¬ y = x := by rintro rfl; rw [Nat.beq_refl] at hb; cases hb
      simp only [List.mem_cons] at h
      rcases h with h | h
      · exact absurd h.symm hne
      · simpa using posIn_get r x h

theorem nth_get : ∀ (l : List Nat) (base j : Nat), nth l base j = if h : j < l.length then l[j] else base + (j - l.length)
  | [], base, j => by simp [nth]
  | y :: r, base, 0 => by simp [nth]
  | y :: r, base, j + 1 => by
    rw [nth, nth_get r base j]
    by_cases h : j < r.length
    · simp [h]
    · rw [dif_neg h, dif_neg (by simp; omega)]
      simp

theorem scal_ren1 (μ : Nat → Nat) (ρ : Nat → Nat) (v : SV) : scal μ (v.ren1 ρ) = scal (fun i => μ (ρ i)) v := by
  cases v <;> rfl
theorem ids1_ren (ρ : Nat → Nat) (v : SV) : (v.ren1 ρ).ids1 = v.ids1.map ρ := by
  cases v <;> rfl
theorem flat_ren (μ : Nat → Nat) (ρ : Nat → Nat) : ∀ v : SV, flat μ (v.ren ρ) = flat (fun i => μ (ρ i)) v := by
  intro v
  induction v with
  | vec n h ih => exact List.map_congr_left fun i _ => scal_ren1 μ ρ (h i)
  | _ => simp_all [SV.ren, flat, scal]
theorem tup_ren (μ : Nat → Nat) (ρ : Nat → Nat) : ∀ v : SV, toVal.tupVals μ (v.ren ρ) = toVal.tupVals (fun i => μ (ρ i)) v := by
  intro v
  induction v with
  | tcons a b iha ihb =>
    have := flat_ren μ ρ a
    simp only [SV.ren, toVal.tupVals, ihb]
    congr 1
    cases a <;> simp_all [SV.ren, flat, scal]
  | _ => rfl
theorem toVal_ren (μ : Nat → Nat) (ρ : Nat → Nat) (v : SV) : toVal μ (v.ren ρ) = toVal (fun i => μ (ρ i)) v := by
  have h1 := flat_ren μ ρ v
  have h2 := tup_ren μ ρ v
  cases v <;> simp_all [SV.ren, toVal, flat, scal]
theorem ids_ren (ρ : Nat → Nat) : ∀ v : SV, (v.ren ρ).ids = v.ids.map ρ := by
  intro v
  induction v with
  | vec n h ih =>
    show (List.range n).flatMap (fun i => ((h i).ren1 ρ).ids1) = ((List.range n).flatMap fun i => (h i).ids1).map ρ
    rw [List.map_flatMap]
    exact congrArg (fun f => List.flatMap f (List.range n)) (funext fun i => ids1_ren ρ (h i))
  | _ => simp_all [SV.ren, SV.ids]
theorem size_ren (ρ : Nat → Nat) : ∀ v : SV, (v.ren ρ).size = v.size := by
  intro v
  induction v <;> simp_all [SV.ren, SV.size]

theorem subMem_spec : ∀ (m : Mem) (ids : List Nat) (sub : Mem), subMem m ids = some sub → sub.length = ids.length ∧ ∀ j i, ids[j]? = some i → (blockOf m i).isSome = true ∧ blockOf sub j = blockOf m i
  | m, [], sub, h => by cases h; exact ⟨rfl, fun j i hj => by simp at hj⟩
  | m, i :: r, sub, h => by
    unfold subMem at h
    split at h
    · rename_i b l hb hl
      cases h
      obtain ⟨h1, h2⟩ := subMem_spec m r l hl
      refine ⟨by simp [h1], fun j k hj => ?_⟩
      cases j with
      | zero => simp at hj; subst hj; exact ⟨by rw [hb]; rfl, by rw [hb]; rfl⟩
      | succ j => simp at hj; exact h2 j k hj
    · cases h

theorem subN_spec (ids : List Nat) : ∀ l : List Nat, subN ids l = true → ∀ x ∈ l, x ∈ ids
  | [], _, x, hx => by cases hx
  | y :: r, h, x, hx => by
    unfold subN at h
    split at h
    · rename_i hm
      rcases List.mem_cons.1 hx with rfl | hx
      · exact (memN_iff ids _).1 hm
      · exact subN_spec ids r h x hx
    · cases h
theorem closed_spec (ids : List Nat) : ∀ (m : Mem), closedMem ids m → ∀ j v c, blockOf m j = some (v, c) → ∀ x ∈ v.ids, x ∈ ids
  | [], _, j, v, c, h => by cases h
  | some (u, k) :: r, hp, 0, v, c, h => by cases h; exact subN_spec ids _ hp.1
  | some (u, k) :: r, hp, j + 1, v, c, h => closed_spec ids r hp.2 j v c h
  | none :: r, hp, 0, v, c, h => by cases h
  | none :: r, hp, j + 1, v, c, h => closed_spec ids r hp j v c h
theorem reach2_spec (m : Mem) (i : List Nat) (hi : i.Nodup) : ∀ c : List Nat, (reach2 m i c).Nodup ∧ ∀ x ∈ i, x ∈ reach2 m i c
  | [] => ⟨hi, fun x hx => hx⟩
  | a :: r => by
    have h2 := dedup_spec (a :: r) i hi
    have h3 := dedup_spec (contIds m (dedup i (a :: r))) (dedup i (a :: r)) h2.1
    exact ⟨h3.1, fun x hx => (h3.2 x).2 (.inl ((h2.2 x).2 (.inl hx)))⟩
theorem reach1_spec (m : Mem) : ∀ i : List Nat, i.Nodup → (reach1 m i).Nodup ∧ ∀ x ∈ i, x ∈ reach1 m i
  | [], _ => ⟨List.nodup_nil, fun x hx => hx⟩
  | a :: r, hi => reach2_spec m (a :: r) hi _
theorem forceL_iff : ∀ (l : List Nat) (K : List Nat → Prop), forceL l K ↔ K l
  | [], K => Iff.rfl
  | x :: r, K => by unfold forceL; exact forceL_iff r _
theorem forceV_iff : ∀ (v : SV) (K : SV → Prop), forceV v K ↔ K v := by
  intro v
  induction v with
  | pair a b iha ihb => intro K; unfold forceV; rw [iha, ihb]
  | _ => intro K; exact Iff.rfl
theorem forceM_iff : ∀ (m : Mem) (K : Mem → Prop), forceM m K ↔ K m
  | [], K => Iff.rfl
  | some (v, c) :: r, K => by unfold forceM; rw [forceV_iff]; exact forceM_iff r _
  | none :: r, K => by unfold forceM; exact forceM_iff r _
theorem callVC_elim {P : Program} {f : Nat} {args : List SV} {m : Mem} {K : SV → Mem → Prop} (h : callVC P f args m K) : ∃ ids : List Nat, ids.Nodup ∧ (∀ x ∈ idsOf args, x ∈ ids) ∧ callWith P f args m K ids := by
  have h1 := dedup_spec (idsOf args) [] List.nodup_nil
  unfold callVC at h
  have hmem : ∀ x ∈ idsOf args, x ∈ dedup [] (idsOf args) := fun x hx => (h1.2 x).2 (.inr hx)
  generalize dedup [] (idsOf args) = i at h h1 hmem
  cases i with
  | nil => exact ⟨[], List.nodup_nil, hmem, h⟩
  | cons x r =>
    unfold callIds at h
    have h := (forceL_iff _ _).1 h
    have h := (forceM_iff _ _).1 h
    have h := (forceL_iff _ _).1 h
    have h2 := reach1_spec m (x :: r) h1.1
    exact ⟨_, h2.1, fun y hy => h2.2 y (hmem y hy), h⟩

theorem backGo_length (ρ : Nat → Nat) (ids : List Nat) (m' : Mem) : ∀ (m : Mem) (i : Nat), (backGo ρ ids m' i m).length = m.length
  | [], _ => rfl
  | x :: r, i => by simp [backGo, backGo_length ρ ids m' r]
theorem backGo_get (ρ : Nat → Nat) (ids : List Nat) (m' : Mem) : ∀ (m : Mem) (i j : Nat), j < m.length →
    blockOf (backGo ρ ids m' i m) j = if (i + j) ∈ ids then renBlk ρ (blockOf m' (posIn ids (i + j))) else blockOf m j
  | [], i, j, h => by simp at h
  | x :: r, i, 0, h => by
    simp only [backGo, blockOf, Nat.add_zero]
    cases hb : memN ids i with
    | true => rw [if_pos ((memN_iff ids i).1 hb)]
    | false => rw [if_neg (fun hh => by rw [(memN_iff ids i).2 hh] at hb; cases hb)]
  | x :: r, i, j + 1, h => by
    simp only [backGo, blockOf]
    rw [backGo_get ρ ids m' r (i + 1) j (by simp at h; omega), show i + 1 + j = i + (j + 1) by omega]
theorem blockOf_map (ρ : Nat → Nat) : ∀ (m : Mem) (j : Nat), blockOf (m.map (renBlk ρ)) j = renBlk ρ (blockOf m j)
  | [], j => rfl
  | x :: r, 0 => rfl
  | x :: r, j + 1 => blockOf_map ρ r j
theorem blockOf_drop : ∀ (m : Mem) (n j : Nat), blockOf (m.drop n) j = blockOf m (n + j)
  | m, 0, j => by simp
  | [], n + 1, j => rfl
  | x :: r, n + 1, j => by
    rw [List.drop_succ_cons, show n + 1 + j = (n + j) + 1 by omega]
    exact blockOf_drop r n j

theorem mem_idsOf : ∀ (l : List SV) (v : SV) (i : Nat), v ∈ l → i ∈ v.ids → i ∈ idsOf l
  | a :: r, v, i, hv, hi => by
    simp only [idsOf, List.mem_append]
    rcases List.mem_cons.1 hv with rfl | hv
    · exact .inl hi
    · exact .inr (mem_idsOf r v i hv hi)

theorem call_sound {μ0 : Nat → Nat} {m0 : Mem} {w0 : World} {μ : Nat → Nat} {m : Mem} {w : World} (h : RunS μ0 m0 w0 μ m w) {f : Nat} {args : List SV} (hargs : ∀ i ∈ idsOf args, i < m.length)
    {K : SV → Mem → Prop} (hc : callVC P f args m K) :
    Calls P f (args.map (toVal μ)).toArray w fun e w' => ∃ μ' v m', e = .returned (toVal μ' v) ∧ K v m' ∧ (∀ i ∈ v.ids, i < m'.length) ∧ (∀ id, id < m.length → μ' id = μ id) ∧ m.length ≤ m'.length ∧ RunS μ0 m0 w0 μ' m' w' := by
  obtain ⟨ids, hnd, hmem, hc⟩ := callVC_elim hc
  unfold callWith at hc
  split at hc
  case h_2 => exact hc.elim
  rename_i sub hsub
  obtain ⟨hplain, hc⟩ := hc
  obtain ⟨hsl, hsb⟩ := subMem_spec m ids sub hsub
  have hcl := closed_spec ids sub hplain
  have hrl : (renMem (posIn ids) sub).length = ids.length := by simp [renMem, hsl]
  have hrb : ∀ j, blockOf (renMem (posIn ids) sub) j = renBlk (posIn ids) (blockOf sub j) := fun j => blockOf_map _ sub j
  have hrs : ∀ j, (blockOf (renMem (posIn ids) sub) j).isSome = (blockOf sub j).isSome := fun j => by rw [hrb]; cases blockOf sub j <;> rfl
  have hidlt : ∀ j i, ids[j]? = some i → i < m.length := fun j i hj => blockOf_lt (hsb j i hj).1
  -- the callee's numbers
  let μc : Nat → Nat := fun j => μ (ids.getD j 0)
  have hμc : ∀ j i, ids[j]? = some i → μc j = μ i := fun j i hj => by show μ (ids.getD j 0) = μ i; rw [List.getD_eq_getElem?_getD, hj]; rfl
  have hget : ∀ j, j < ids.length → ∃ i, ids[j]? = some i := fun j hj => ⟨ids[j], List.getElem?_eq_getElem hj⟩
  have sub_some : ∀ j, (blockOf sub j).isSome = true → ∃ i, ids[j]? = some i := fun j hj => hget j (by have := blockOf_lt hj; omega)
  have nodup_inj : ∀ j k i : Nat, ids[j]? = some i → ids[k]? = some i → j = k := nodup_get ids hnd
  have hmr : MR μc (renMem (posIn ids) sub) w := by
    refine ⟨fun j v c hb => ?_, fun j k hj hk he => ?_, fun j v c hb i hi => ?_⟩
    · obtain ⟨i, hi⟩ := sub_some j (by rw [← hrs, hb]; rfl)
      rw [hrb] at hb
      cases hq : blockOf sub j with
      | none => rw [hq] at hb; cases hb
      | some p =>
        obtain ⟨u, d⟩ := p
        rw [hq] at hb
        cases hb
        have hb' := hq
        rw [(hsb j i hi).2] at hb'
        obtain ⟨t, ex, hh, hl⟩ := h.mr.blk i u c hb'
        have e : flat μc (u.ren (posIn ids)) = flat μ u := by
          rw [flat_ren]
          exact flat_ids u fun x hx => hμc _ x (posIn_get ids x (hcl j u c hq x hx))
        exact ⟨t, ex, by rw [hμc j i hi, hh, e], by rw [e]; exact hl⟩
    · rw [hrs] at hj hk
      obtain ⟨i, hi⟩ := sub_some j hj
      obtain ⟨i', hi'⟩ := sub_some k hk
      rw [hμc j i hi, hμc k i' hi'] at he
      have : i = i' := h.mr.inj i i' (hsb j i hi).1 (hsb k i' hi').1 he
      subst this
      exact nodup_inj j k i hi hi'
    · rw [hrb] at hb
      cases hq : blockOf sub j with
      | none => rw [hq] at hb; cases hb
      | some p =>
        obtain ⟨u, d⟩ := p
        rw [hq] at hb
        cases hb
        rw [ids_ren, List.mem_map] at hi
        obtain ⟨x, hx, rfl⟩ := hi
        have := (List.getElem?_eq_some_iff.1 (posIn_get ids x (hcl j u c hq x hx))).1
        rw [hrl]; exact this
  have hav : (args.map (SV.ren (posIn ids))).map (toVal μc) = args.map (toVal μ) := by
    rw [List.map_map]
    apply List.map_congr_left
    intro v hv
    show toVal μc (v.ren (posIn ids)) = toVal μ v
    rw [toVal_ren]
    refine toVal_ids v fun i hi => ?_
    exact hμc _ i (posIn_get ids i (hmem i (mem_idsOf args v i hv hi)))
  have hrun := hc.run μc w hmr
  rw [hav] at hrun
  refine hrun.mono ?_
  rintro e w' ⟨μ', r, m', rfl, hQ, hrid, hagree, hlen, hfresh, hmr', hkept⟩
  -- back to the caller's numbers
  let L := m.length
  let n := ids.length
  let ρ := nth ids L
  let μ2 : Nat → Nat := fun id => if id < L then μ id else μ' (n + (id - L))
  have hlow : ∀ id, id < L → μ2 id = μ id := fun id hid => by show (if id < L then _ else _) = _; rw [if_pos hid]
  have hhigh : ∀ k, μ2 (L + k) = μ' (n + k) := fun k => by show (if L + k < L then _ else _) = _; rw [if_neg (by omega), show L + k - L = k by omega]
  have hρlt : ∀ j i, ids[j]? = some i → ρ j = i := fun j i hj => by
    obtain ⟨h1, e1⟩ := List.getElem?_eq_some_iff.1 hj
    show nth ids L j = i
    rw [nth_get, dif_pos h1, e1]
  have hρge : ∀ j, n ≤ j → ρ j = L + (j - n) := fun j hj => by show nth ids L j = _; rw [nth_get, dif_neg (by omega)]
  have hcomp : ∀ j, μ2 (ρ j) = μ' j := fun j => by
    rcases Nat.lt_or_ge j n with hj | hj
    · obtain ⟨i, hi⟩ := hget j hj
      rw [hρlt j i hi, hlow i (hidlt j i hi), hagree j (by rw [hrl]; exact hj), hμc j i hi]
    · rw [hρge j hj, hhigh, show n + (j - n) = j by omega]
  have hcompf : (fun j => μ2 (ρ j)) = μ' := funext hcomp
  have hm2len : (backMem ρ m ids m').length = L + (m'.length - n) := by
    simp [backMem, backGo_length, L, n]
  have hin : ∀ j i, ids[j]? = some i → blockOf (backMem ρ m ids m') i = renBlk ρ (blockOf m' j) := fun j i hj => by
    have hlt := hidlt j i hj
    rw [backMem, blockOf_append_lt _ _ i (by rw [backGo_length]; exact hlt), backGo_get ρ ids m' m 0 i hlt, Nat.zero_add, if_pos (List.mem_of_getElem? hj)]
    rw [nodup_inj _ _ i (posIn_get ids i (List.mem_of_getElem? hj)) hj]
  have hout : ∀ i, i < L → i ∉ ids → blockOf (backMem ρ m ids m') i = blockOf m i := fun i hi hni => by
    rw [backMem, blockOf_append_lt _ _ i (by rw [backGo_length]; exact hi), backGo_get ρ ids m' m 0 i hi, Nat.zero_add, if_neg hni]
  have hnew : ∀ k, blockOf (backMem ρ m ids m') (L + k) = renBlk ρ (blockOf m' (n + k)) := fun k => by
    have := blockOf_append_ge (backGo ρ ids m' 0 m) ((m'.drop ids.length).map (renBlk ρ)) k
    rw [backGo_length] at this
    rw [backMem, this, blockOf_map, blockOf_drop]
  have ren_some : ∀ b : Option (SV × Nat), (renBlk ρ b).isSome = b.isSome := fun b => by cases b <;> rfl
  have hρbound : ∀ i, i < m'.length → ρ i < (backMem ρ m ids m').length := fun i hi => by
    rw [hm2len]
    rcases Nat.lt_or_ge i n with hj | hj
    · obtain ⟨k, hk⟩ := hget i hj
      rw [hρlt i k hk]
      have := hidlt i k hk
      omega
    · rw [hρge i hj]; omega
  have where_ : ∀ id, (∃ j, ids[j]? = some id) ∨ (id < L ∧ id ∉ ids) ∨ ∃ k, id = L + k := fun id => by
    by_cases hi : id ∈ ids
    · exact .inl (List.mem_iff_getElem?.1 hi)
    · rcases Nat.lt_or_ge id L with hl | hl
      · exact .inr (.inl ⟨hl, hi⟩)
      · exact .inr (.inr ⟨id - L, by omega⟩)
  have live_low : ∀ id, id < L → (blockOf (backMem ρ m ids m') id).isSome = true → (blockOf m id).isSome = true := fun id hid hs => by
    rcases where_ id with ⟨j, hj⟩ | ⟨_, hni⟩ | ⟨k, rfl⟩
    · exact (hsb j id hj).1
    · rw [hout id hid hni] at hs; exact hs
    · omega
  have hmr2 : MR μ2 (backMem ρ m ids m') w' := by
    refine ⟨fun id v c hb => ?_, fun i j hi hj he => ?_, fun id v c hb i hi => ?_⟩
    · rcases where_ id with ⟨j, hj⟩ | ⟨hl, hni⟩ | ⟨k, rfl⟩
      · rw [hin j id hj] at hb
        cases hb' : blockOf m' j with
        | none => rw [hb'] at hb; cases hb
        | some p =>
          obtain ⟨u, c'⟩ := p
          rw [hb'] at hb
          cases hb
          obtain ⟨t, ex, hh, hl⟩ := hmr'.blk j u c hb'
          have hjn : j < n := (List.getElem?_eq_some_iff.1 hj).1
          refine ⟨t, ex, ?_, ?_⟩
          · rw [hlow id (hidlt j id hj), ← hμc j id hj, ← hagree j (by omega), hh, flat_ren, hcompf]
          · rw [flat_ren, hcompf]; exact hl
      · rw [hout id hl hni] at hb
        obtain ⟨t, ex, hh, hl'⟩ := h.mr.blk id v c hb
        have e : flat μ2 v = flat μ v := flat_ids v fun i hi => hlow i (h.mr.ids id v c hb i hi)
        refine ⟨t, ex, ?_, by rw [e]; exact hl'⟩
        rw [hlow id hl, hkept.old (μ id) (Array.getElem?_eq_some_iff.1 hh).1, hh, e]
        intro j hj heq
        rw [hrs] at hj
        obtain ⟨i, hi⟩ := sub_some j hj
        rw [hμc j i hi] at heq
        have : i = id := h.mr.inj i id (hsb j i hi).1 (by rw [hb]; rfl) heq
        subst this
        exact hni (List.mem_of_getElem? hi)
      · rw [hnew] at hb
        cases hb' : blockOf m' (n + k) with
        | none => rw [hb'] at hb; cases hb
        | some p =>
          obtain ⟨u, c'⟩ := p
          rw [hb'] at hb
          cases hb
          obtain ⟨t, ex, hh, hl⟩ := hmr'.blk (n + k) u c hb'
          exact ⟨t, ex, by rw [hhigh, hh, flat_ren, hcompf], by rw [flat_ren, hcompf]; exact hl⟩
    · rcases Nat.lt_or_ge i L with hiL | hiL <;> rcases Nat.lt_or_ge j L with hjL | hjL
      · rw [hlow i hiL, hlow j hjL] at he
        exact h.mr.inj i j (live_low i hiL hi) (live_low j hjL hj) he
      · obtain ⟨k, rfl⟩ : ∃ k, j = L + k := ⟨j - L, by omega⟩
        rw [hnew, ren_some] at hj
        rw [hlow i hiL, hhigh] at he
        have := h.mr.lt (live_low i hiL hi)
        have := hfresh (n + k) (by omega) hj
        omega
      · obtain ⟨k, rfl⟩ : ∃ k, i = L + k := ⟨i - L, by omega⟩
        rw [hnew, ren_some] at hi
        rw [hlow j hjL, hhigh] at he
        have := h.mr.lt (live_low j hjL hj)
        have := hfresh (n + k) (by omega) hi
        omega
      · obtain ⟨k, rfl⟩ : ∃ k, i = L + k := ⟨i - L, by omega⟩
        obtain ⟨k', rfl⟩ : ∃ k, j = L + k := ⟨j - L, by omega⟩
        rw [hnew, ren_some] at hi hj
        rw [hhigh, hhigh] at he
        have := hmr'.inj _ _ hi hj he
        omega
    · rcases where_ id with ⟨j, hj⟩ | ⟨hl, hni⟩ | ⟨k, rfl⟩
      · rw [hin j id hj] at hb
        cases hb' : blockOf m' j with
        | none => rw [hb'] at hb; cases hb
        | some p =>
          obtain ⟨u, c'⟩ := p
          rw [hb'] at hb
          cases hb
          rw [ids_ren, List.mem_map] at hi
          obtain ⟨i', hi', rfl⟩ := hi
          exact hρbound i' (hmr'.ids j u c hb' i' hi')
      · rw [hout id hl hni] at hb
        have := h.mr.ids id v c hb i hi
        rw [hm2len]; omega
      · rw [hnew] at hb
        cases hb' : blockOf m' (n + k) with
        | none => rw [hb'] at hb; cases hb
        | some p =>
          obtain ⟨u, c'⟩ := p
          rw [hb'] at hb
          cases hb
          rw [ids_ren, List.mem_map] at hi
          obtain ⟨i', hi', rfl⟩ := hi
          exact hρbound i' (hmr'.ids (n + k) u c hb' i' hi')
  refine ⟨μ2, r.ren ρ, backMem ρ m ids m', ?_, hQ, fun i hi => ?_, fun id hid => hlow id hid, by rw [hm2len]; omega, ?_⟩
  · rw [toVal_ren, hcompf]
  · rw [ids_ren, List.mem_map] at hi
    obtain ⟨i', hi', rfl⟩ := hi
    exact hρbound i' (hrid i' hi')
  · refine ⟨hmr2, by rw [hm2len]; have := h.len; omega, fun id hid => ?_, fun id hid hs => ?_, fun id hid hs => ?_, ⟨Nat.le_trans h.kept.size hkept.size, fun b hb hne => ?_, ?_, fun a => by rw [hkept.fro a]; exact h.kept.fro a⟩⟩
    · rw [hlow id (by have := h.len; omega)]; exact h.agree id hid
    · exact h.live id hid (live_low id (by have := h.len; omega) hs)
    · rcases Nat.lt_or_ge id L with hl | hl
      · rw [hlow id hl]; exact h.fresh id hid (live_low id hl hs)
      · obtain ⟨k, rfl⟩ : ∃ k, id = L + k := ⟨id - L, by omega⟩
        rw [hnew, ren_some] at hs
        rw [hhigh]
        exact Nat.le_trans h.kept.size (hfresh (n + k) (by omega) hs)
    · rw [hkept.old b (by have := h.kept.size; omega) (fun j hj heq => ?_), h.kept.old b hb hne]
      rw [hrs] at hj
      obtain ⟨i, hi⟩ := sub_some j hj
      rw [hμc j i hi] at heq
      rcases Nat.lt_or_ge i m0.length with hlt | hge
      · exact hne i (h.live i hlt (hsb j i hi).1) (by rw [← h.agree i hlt]; exact heq)
      · have := h.fresh i hge (hsb j i hi).1; omega
    · obtain ⟨a1, a2, a3⟩ := hkept.rest
      obtain ⟨b1, b2, b3⟩ := h.kept.rest
      exact ⟨a1.trans b1, a2.trans b2, a3.trans b3⟩
end Go.Proofs.Ytojfjcbblkiajaa
