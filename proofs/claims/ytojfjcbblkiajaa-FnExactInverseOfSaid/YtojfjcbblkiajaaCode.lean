/- Regions in the text's order, branches, loops, and whole functions. -/
import Derived.Test.YtojfjcbblkiajaaLate
import Derived.Test.YtojfjcbblkiajaaApp
import Derived.LoopN
import Derived.Scope
set_option linter.unusedVariables false
set_option linter.unusedSimpArgs false
namespace Go.Proofs.Ytojfjcbblkiajaa
variable {P : Program}

/-- a state of the logic fits a frame and a world -/
structure Fits (μ0 : Nat → Nat) (m0 : Mem) (w0 : World) (N : Nat) (s : Slots) (m : Mem) (a : Act) (w : World) : Prop where
  fits : ∃ μ, SRel N μ m.length s a ∧ RunS μ0 m0 w0 μ m w

theorem callVC_enters {f : Nat} {args : List SV} {m : Mem} {K : SV → Mem → Prop} (h : callVC P f args m K) : ∀ args w, (callFunc f args).run P w = .ok (.enter f args) w := by
  obtain ⟨ids, _, _, h⟩ := callVC_elim h
  unfold callWith at h
  split at h
  · exact h.2.enters
  · exact h.elim

/-- a call over all blocks as they are -/
theorem direct_sound {μ0 : Nat → Nat} {m0 : Mem} {w0 : World} {μ : Nat → Nat} {m : Mem} {w : World} (h : RunS μ0 m0 w0 μ m w) {f : Nat} {args : List SV} {K : SV → Mem → Prop} (hc : Spec P f args m fun r m' => liveP m m' ∧ K r m') :
    Calls P f (args.map (toVal μ)).toArray w fun e w' => ∃ μ' v m', e = .returned (toVal μ' v) ∧ K v m' ∧ (∀ i ∈ v.ids, i < m'.length) ∧ (∀ id, id < m.length → μ' id = μ id) ∧ m.length ≤ m'.length ∧ RunS μ0 m0 w0 μ' m' w' := by
  refine (hc.run μ w h.mr).mono ?_
  rintro e w' ⟨μ', r, m', rfl, ⟨hlive, hK⟩, hi, ha, hl, hf, hmr, hk⟩
  have hlen := h.len
  refine ⟨μ', r, m', rfl, hK, hi, ha, hl, hmr, by omega, fun id hid => by rw [ha id (by omega)]; exact h.agree id hid, fun id hid hs => h.live id hid (hlive id (by omega) hs), fun id hid hs => ?_, ⟨Nat.le_trans h.kept.size hk.size, fun b hb hne => ?_, ⟨hk.rest.1.trans h.kept.rest.1, hk.rest.2.1.trans h.kept.rest.2.1, hk.rest.2.2.trans h.kept.rest.2.2⟩, fun a => (hk.fro a).trans (h.kept.fro a)⟩⟩
  · rcases Nat.lt_or_ge id m.length with hlt | hge
    · rw [ha id hlt]; exact h.fresh id hid (hlive id hlt hs)
    · exact Nat.le_trans h.kept.size (hf id hge hs)
  · rw [hk.old b (Nat.lt_of_lt_of_le hb h.kept.size) fun id hs he => ?_]
    · exact h.kept.old b hb hne
    · rcases Nat.lt_or_ge id m0.length with hlt | hge
      · exact hne id (h.live id hlt hs) (by rw [← h.agree id hlt]; exact he)
      · have := h.fresh id hge hs; omega

theorem Act.put_same {a : Act} {d : Option Tmp} {v u : Value} (h : v = u) : a.put d v = a.put d u := by rw [h]

theorem one_sound {T : Tab} (hT : TabOK P T) (hE : TabEq P T) {μ0 : Nat → Nat} {m0 : Mem} {w0 : World} {N : Nat} {o : Oper} {s : Slots} {m : Mem} {a : Act} {w : World} {K : Slots → Mem → Prop} {next : Act → World → Prop} {Q : Exit → Act → World → Prop}
    (hO : m0.length ≤ T.own) (hf : Fits μ0 m0 w0 N s m a w) (h : oneVC P T N o s m K) (hnext : ∀ s' m' a' w', Fits μ0 m0 w0 N s' m' a' w' → K s' m' → next a' w') : o.wp P a w next Q := by
  obtain ⟨μ, hs, hr⟩ := hf.fits
  have readCase : readVC T o.op s m (fun v => K (sset N s o.dst v) m) → o.wp P a w next Q := by
    intro h
    obtain ⟨v, hk, hi, hrun⟩ := read_sound hT hE hs hr.mr h
    unfold Oper.wp
    rw [hrun]
    exact hnext _ _ _ _ ⟨μ, hs.put o.dst v hi, hr⟩ hk
  have newCase : newVC T o.op s (fun v mk => K (sset N s o.dst (mk m.length)) (m ++ [some (v, v.size)])) → o.wp P a w next Q := by
    intro h
    obtain ⟨v, mk, t, hk, hi, hmk, hrun⟩ := new_sound hT hs h
    unfold Oper.wp
    rw [hrun w]
    refine hnext _ _ _ _ ⟨ext μ m.length w.heap.size, ?_, hr.alloc hi t⟩ hk
    have hs' : SRel N (ext μ m.length w.heap.size) (m ++ [some (v, v.size)]).length s a := hs.mono (by simp) fun id hid => (ext_old hid).symm
    exact hs'.put o.dst _ (by rw [hmk]; simp)
  unfold oneVC at h
  split at h
  · rename_i t x y ho
    obtain ⟨m', w', hk, hr', hl, hrun⟩ := store_sound hT hs hr ho h
    unfold Oper.wp
    rw [hrun]
    refine hnext _ _ _ _ ⟨μ, ?_, hr'⟩ hk
    rw [hl]
    exact hs.skip o.dst
  · rename_i t ho; rw [← ho] at h; exact newCase h
  · rename_i t x ho; rw [← ho] at h; exact newCase h
  · rename_i t n ps ho; rw [← ho] at h; exact newCase h
  · rename_i t l c ho; rw [← ho] at h; exact newCase h
  · rename_i c ho
    split at h
    · rename_i x hcal
      split at h
      · rename_i f args hx hargs
        have h1 := ev_sound hs hx
        have h2 := evs_sound hs hargs
        have both : (∀ args w, (callFunc f args).run P w = .ok (.enter f args) w) ∧ Calls P f (args.map (toVal μ)).toArray w fun e w' => ∃ μ' v m', e = .returned (toVal μ' v) ∧ K (sset N s o.dst v) m' ∧ (∀ i ∈ v.ids, i < m'.length) ∧ (∀ id, id < m.length → μ' id = μ id) ∧ m.length ≤ m'.length ∧ RunS μ0 m0 w0 μ' m' w' := by
          split at h
          · exact ⟨callVC_enters h, call_sound hr h2.2 h⟩
          · exact ⟨h.enters, direct_sound hr h⟩
        obtain ⟨hen, hc⟩ := both
        unfold Oper.wp
        have hav : c.args.map a.eval = (args.map (toVal μ)).toArray := by
          apply Array.ext'
          rw [Array.toList_map, h2.1]
        have hfv : a.eval x = .func (.func f) #[] #[] := h1.1
        have hrun : (execOp a.eval o).run P w = .ok (.enter f (args.map (toVal μ)).toArray) w := by
          simp only [execOp, ho, resolve, hcal, hfv, Deferred.ofValue, hav, Sem.run_bind, Sem.run_pure, Result.andThen_ok, invoke]
          simp [hen]
        rw [hrun]
        refine hc.mono ?_
        rintro e w' ⟨μ', v, m', rfl, hk, hvi, hμ, hl, hr'⟩
        refine hnext _ _ _ _ ⟨μ', ?_, hr'⟩ hk
        exact (hs.mono hl fun id hid => (hμ id hid).symm).put o.dst v hvi
      · exact h.elim
    · rename_i hcal
      split at h
      · rename_i t u a' x' hts hargs
        obtain ⟨v, s', m', μ', w', hk, hs', hr', hvi, hrun0⟩ := appAny_sound hT hs hr hO (ty := o.type) h
        have h2 := evs_sound hs hargs
        have hav : c.args.map a.eval = #[toVal μ a', toVal μ x'] := by
          apply Array.ext'
          simpa using h2.1
        have hat : c.argTypes = #[t, u] := by
          apply Array.ext'
          simpa using hts
        have hrun : (execOp a.eval o).run P w = .ok (.value (toVal μ' v)) w' := by
          simp only [execOp, ho, resolve, hcal, hav, Sem.run_bind, Sem.run_pure, Result.andThen_ok, invoke, builtin, hat, hrun0]
        unfold Oper.wp
        rw [hrun]
        exact hnext _ _ _ _ ⟨μ', hs'.put o.dst v hvi, hr'⟩ hk
      · exact h.elim
    · rw [← ho] at h; exact readCase h
  · exact readCase h

theorem ops_sound {T : Tab} (hT : TabOK P T) (hE : TabEq P T) {μ0 : Nat → Nat} {m0 : Mem} {w0 : World} {N : Nat} {ops : Array Oper} {Q : Exit → Act → World → Prop} (hO : m0.length ≤ T.own) : ∀ (l : List Oper) {s : Slots} {m : Mem} {a : Act} {w : World} {K : Slots → Mem → Prop},
    Fits μ0 m0 w0 N s m a w → opsVC P T N ops l s m K → (∀ s' m' a' w', Fits μ0 m0 w0 N s' m' a' w' → K s' m' → Q .normal a' w') → wpList P ops Q l a w
  | [], s, m, a, w, K, hf, h, hq => hq _ _ _ _ hf h
  | o :: r, s, m, a, w, K, hf, h, hq => by
    have yes : ∀ s1, Fits μ0 m0 w0 N s1 m a w → Region.wanted o (yielded ops a.tmps) = true → oneVC P T N o s1 m (fun s' m' => opsVC P T N ops r s' m' K) → wpList P ops Q (o :: r) a w := by
      intro s1 hf1 hw h
      unfold wpList
      rw [if_pos hw]
      exact .inl (one_sound hT hE hO hf1 h fun s' m' a' w' hf' hk => ops_sound hT hE hO r hf' hk hq)
    have no : ∀ s1, Fits μ0 m0 w0 N s1 m a w → Region.wanted o (yielded ops a.tmps) = false → opsVC P T N ops r (sset N s1 o.dst .undef) m K → wpList P ops Q (o :: r) a w := by
      intro s1 hf1 hw h
      unfold wpList
      rw [if_neg (by rw [hw]; simp)]
      obtain ⟨μ, hs, hr⟩ := hf1.fits
      exact ops_sound hT hE hO r ⟨μ, hs.skip o.dst, hr⟩ h hq
    unfold opsVC guardVC at h
    split at h
    · rename_i hg
      exact yes s hf (by simp [Region.wanted, hg]) h
    · rename_i g want hg
      split at h
      · rename_i t ht
        obtain ⟨μ, hs, hr⟩ := hf.fits
        split at h
        · rename_i b hb
          have h1 := hs.val t _ hb
          have hlt : t < a.tmps.size := by
            rcases Nat.lt_or_ge t a.tmps.size with h' | h'
            · exact h'
            · have := h1.1; simp [Array.getElem?_eq_none h', Go.undef, toVal, scal] at this
          have hty : yielded ops a.tmps g = some b := by
            unfold yielded
            have h2 := h1.1
            simp only [ht, Option.bind_some, Array.getElem?_eq_getElem hlt]
            simp [hlt, toVal, scal] at h2
            rw [h2]
          have hs2 : ∀ b', b' = b → Fits μ0 m0 w0 N ((t, .bool b') :: s) m a w := fun b' e => ⟨μ, ⟨hs.size, hs.defers, fun k v hk => by
            rw [lk_cons] at hk
            by_cases htk : t = k
            · subst htk
              rw [if_pos rfl] at hk
              cases hk
              rw [e]
              exact h1
            · rw [if_neg htk] at hk
              exact hs.val k v hk⟩, hr⟩
          cases b <;> cases want <;> simp only [ifVC] at h
          · exact yes _ (hs2 _ rfl) (by simp [Region.wanted, hg, hty]) h
          · exact no _ (hs2 _ rfl) (by simp [Region.wanted, hg, hty]) h
          · exact no _ (hs2 _ rfl) (by simp [Region.wanted, hg, hty]) h
          · exact yes _ (hs2 _ rfl) (by simp [Region.wanted, hg, hty]) h
        · rename_i hb
          have h1 := hs.val t _ hb
          have hty : yielded ops a.tmps g = none := by
            unfold yielded
            have h2 := h1.1
            simp only [ht, Option.bind_some]
            rcases Nat.lt_or_ge t a.tmps.size with h' | h'
            · rw [Array.getElem?_eq_getElem h']
              simp [h', toVal, scal, Go.undef] at h2
              rw [h2]
            · rw [Array.getElem?_eq_none h']
          exact no s hf (by simp [Region.wanted, hg, hty]) h
        · exact h.elim
      · exact h.elim

theorem eqv_flat (μ : Nat → Nat) : ∀ v u : SV, v.eqv u → flat μ v = flat μ u ∧ v.ids = u.ids := by
  intro v
  induction v with
  | ints k n f =>
    intro u h
    cases u <;> first | (obtain ⟨⟨rfl, rfl⟩, h⟩ := h; exact ⟨List.map_congr_left fun i hi => by rw [h i (List.mem_range.1 hi)], rfl⟩) | cases h
  | vec n f =>
    intro u h
    cases u with
    | vec n' f' =>
      obtain ⟨rfl, h⟩ := h
      refine ⟨List.map_congr_left fun i hi => by rw [h i (List.mem_range.1 hi)], ?_⟩
      show (List.range n).flatMap (fun i => (f i).ids1) = (List.range n).flatMap fun i => (f' i).ids1
      rw [List.flatMap_def, List.flatMap_def]
      exact congrArg List.flatten (List.map_congr_left fun i hi => by rw [h i (List.mem_range.1 hi)])
    | _ => cases h
  | pair a b iha ihb =>
    intro u h
    cases u <;> first | (obtain ⟨h1, h2⟩ := h; simp only [flat, SV.ids, (iha _ h1).1, (iha _ h1).2, (ihb _ h2).1, (ihb _ h2).2]; exact ⟨trivial, trivial⟩) | cases h
  | tcons a b iha ihb =>
    intro u h
    cases u <;> first | (obtain ⟨h1, h2⟩ := h; simp only [flat, scal, SV.ids, (iha _ h1).2, (ihb _ h2).2]; exact ⟨trivial, trivial⟩) | cases h
  | _ => intro u h; cases u <;> first | (cases h; exact ⟨rfl, rfl⟩) | cases h

theorem eqv_tup (μ : Nat → Nat) : ∀ v u : SV, v.eqv u → toVal.tupVals μ v = toVal.tupVals μ u := by
  intro v
  induction v with
  | tcons a b iha ihb =>
    intro u h
    cases u with
    | tcons c d =>
      obtain ⟨h1, h2⟩ := h
      have hf := (eqv_flat μ a c h1).1
      simp only [toVal.tupVals, ihb d h2]
      congr 1
      cases a <;> cases c <;> first | (cases h1; done) | (cases h1; rfl) | (simp only [hf]; done)
    | _ => cases h
  | _ => intro u h; cases u <;> first | rfl | cases h

theorem eqv_toVal (μ : Nat → Nat) (v u : SV) (h : v.eqv u) : toVal μ v = toVal μ u := by
  have hf := (eqv_flat μ v u h).1
  have ht := eqv_tup μ v u h
  cases v with
  | ints k n f => cases u <;> first | (cases h; done) | (show Value.agg _ = Value.agg _; rw [hf]; done)
  | vec n f => cases u <;> first | (cases h; done) | (show Value.agg (flat μ _).toArray = Value.agg (flat μ _).toArray; rw [hf]; done)
  | pair a b => cases u <;> first | (cases h; done) | (show Value.agg (flat μ _).toArray = Value.agg (flat μ _).toArray; rw [hf]; done)
  | tcons a b => cases u <;> first | (cases h; done) | (show Value.tuple _ = Value.tuple _; rw [ht]; done)
  | _ => cases u <;> first | (cases h; done) | (cases h; rfl)

theorem memEqv_get : ∀ (m M : Mem), memEqv m M → m.length = M.length ∧ ∀ id u c, blockOf M id = some (u, c) → ∃ v, blockOf m id = some (v, c) ∧ v.eqv u
  | [], [], _ => ⟨rfl, fun id u c h => by cases h⟩
  | [], _ :: _, h => h.elim
  | some (v, c) :: r, some (u, d) :: r', h => by
    obtain ⟨⟨h1, rfl⟩, h2⟩ := h
    obtain ⟨l, g⟩ := memEqv_get r r' h2
    refine ⟨by simp [l], fun id u' c' hb => ?_⟩
    cases id with
    | zero => cases hb; exact ⟨v, rfl, h1⟩
    | succ id => exact g id u' c' hb
  | none :: r, none :: r', h => by
    obtain ⟨l, g⟩ := memEqv_get r r' h
    refine ⟨by simp [l], fun id u' c' hb => ?_⟩
    cases id with
    | zero => cases hb
    | succ id => exact g id u' c' hb
  | some (v, c) :: r, none :: r', h => by
    obtain ⟨l, g⟩ := memEqv_get r r' h
    refine ⟨by simp [l], fun id u' c' hb => ?_⟩
    cases id with
    | zero => cases hb
    | succ id => exact g id u' c' hb
  | none :: r, some _ :: r', h => h.elim
  | _ :: _, [], h => by rename_i x r; cases x <;> exact h.elim

theorem subL_get : ∀ (S s : Slots), subL S s → ∀ t v, lk S t = some v → ∃ v', lk s t = some v' ∧ v'.eqv v
  | [], s, _, t, v, h => by cases h
  | (k, u) :: r, s, h, t, v, hv => by
    rw [lk_cons] at hv
    by_cases hkt : k = t
    · subst hkt
      rw [if_pos rfl] at hv
      cases hv
      have := h.1
      cases hl : lk s k with
      | none => rw [hl] at this; exact this.elim
      | some v' => rw [hl] at this; exact ⟨v', rfl, this⟩
    · rw [if_neg hkt] at hv
      exact subL_get r s h.2 t v hv

theorem memCut_get : ∀ (m M : Mem), memCut m M → ∀ id u c, blockOf M id = some (u, c) → ∃ v, blockOf m id = some (v, c) ∧ v.eqv u
  | m, [], _ => fun id u c h => by cases h
  | [], none :: r', h => fun id u c hb => by
    cases id with
    | zero => cases hb
    | succ id =>
      obtain ⟨v, hv, _⟩ := memCut_get [] r' (by simpa [memCut] using h) id u c hb
      cases hv
  | [], some _ :: _, h => by simp [memCut] at h
  | some (v, c) :: r, some (u, d) :: r', h => by
    obtain ⟨⟨h1, rfl⟩, h2⟩ := h
    have g := memCut_get r r' h2
    intro id u' c' hb
    cases id with
    | zero => cases hb; exact ⟨v, rfl, h1⟩
    | succ id => exact g id u' c' hb
  | none :: r, none :: r', h => by
    have g := memCut_get r r' h
    intro id u' c' hb
    cases id with
    | zero => cases hb
    | succ id => exact g id u' c' hb
  | some (v, c) :: r, none :: r', h => by
    have g := memCut_get r r' h
    intro id u' c' hb
    cases id with
    | zero => cases hb
    | succ id => exact g id u' c' hb
  | none :: r, some _ :: r', h => h.elim

theorem idsLt_iff (L : Nat) : ∀ l : List Nat, idsLt L l = true → ∀ i ∈ l, i < L
  | [], _, i, hi => by cases hi
  | x :: r, h, i, hi => by
    simp only [idsLt, Bool.and_eq_true] at h
    rcases List.mem_cons.1 hi with rfl | hi
    · simpa [Nat.blt_eq] using h.1
    · exact idsLt_iff L r h.2 i hi
theorem okSlots_get (L : Nat) : ∀ (s : Slots) (t : Nat) (v : SV), okSlots L s = true → lk s t = some v → ∀ i ∈ v.ids, i < L
  | [], t, v, _, h => by cases h
  | (k, u) :: r, t, v, ho, h => by
    simp only [okSlots, Bool.and_eq_true] at ho
    rw [lk_cons] at h
    by_cases hk : k = t
    · rw [if_pos hk] at h; cases h; exact idsLt_iff L _ ho.1
    · rw [if_neg hk] at h; exact okSlots_get L r t v ho.2 h
theorem okMem_get (L : Nat) : ∀ (m : Mem) (id : Nat) (v : SV) (c : Nat), okMem L m = true → blockOf m id = some (v, c) → ∀ i ∈ v.ids, i < L
  | [], id, v, c, _, h => by cases h
  | x :: r, 0, v, c, ho, h => by
    simp only [blockOf] at h
    subst h
    simp only [okMem, Bool.and_eq_true] at ho
    exact idsLt_iff L _ ho.1
  | x :: r, id + 1, v, c, ho, h => by
    refine okMem_get L r id v c ?_ h
    cases x with
    | none => exact ho
    | some p => simp only [okMem, Bool.and_eq_true] at ho; exact ho.2

theorem Fits.sub {μ0 : Nat → Nat} {m0 : Mem} {w0 : World} {N : Nat} {s S : Slots} {m M : Mem} {a : Act} {w : World} (h : Fits μ0 m0 w0 N s m a w) (hS : subL S s) (hM : memCut m M) {L : Nat} (hok : okB S M L = true) (hL : m0.length ≤ L) : Fits μ0 m0 w0 N S M a w := by
  obtain ⟨μ, hs, hr⟩ := h.fits
  have hg := memCut_get m M hM
  simp only [okB, Bool.and_eq_true] at hok
  obtain ⟨hok1, hok2, hok3⟩ := hok
  obtain rfl := beqN hok1
  refine ⟨μ, ⟨hs.size, hs.defers, fun t v hv => ?_⟩, ⟨⟨fun id u c hb => ?_, fun i j hi hj he => ?_, fun id u c hb i hi => ?_⟩, hL, hr.agree, fun id hid hsm => ?_, fun id hid hsm => ?_, hr.kept⟩⟩
  · obtain ⟨v', hv', he⟩ := subL_get S s hS t v hv
    exact ⟨by rw [← eqv_toVal μ v' v he]; exact (hs.val t v' hv').1, okSlots_get _ S t v hok2 hv⟩
  · obtain ⟨v, hv, he⟩ := hg id u c hb
    obtain ⟨t, ex, h1, h2⟩ := hr.mr.blk id v c hv
    rw [(eqv_flat μ v u he).1] at h1 h2
    exact ⟨t, ex, h1, h2⟩
  · have lift : ∀ i, (blockOf M i).isSome = true → (blockOf m i).isSome = true := fun i hi => by
      cases hb : blockOf M i with
      | none => rw [hb] at hi; cases hi
      | some p => obtain ⟨u, c⟩ := p; obtain ⟨v, hv, _⟩ := hg i u c hb; rw [hv]; rfl
    exact hr.mr.inj i j (lift i hi) (lift j hj) he
  · exact okMem_get _ M id u c hok3 hb i hi
  · refine hr.live id hid ?_
    cases hb : blockOf M id with
    | none => rw [hb] at hsm; cases hsm
    | some p => obtain ⟨u, c⟩ := p; obtain ⟨v, hv, _⟩ := hg id u c hb; rw [hv]; rfl
  · refine hr.fresh id (by have := hid; omega) ?_
    cases hb : blockOf M id with
    | none => rw [hb] at hsm; cases hsm
    | some p => obtain ⟨u, c⟩ := p; obtain ⟨v, hv, _⟩ := hg id u c hb; rw [hv]; rfl

theorem Fits.ren {μ0 : Nat → Nat} {m0 : Mem} {w0 : World} {N : Nat} {s S : Slots} {m M : Mem} {a : Act} {w : World} (h : Fits μ0 m0 w0 N s m a w) {own : Nat} {σ : Nat → Nat} (hR : RenTo own σ S M s m) (hO : m0.length ≤ own) (hL : own ≤ M.length) (hok : OkP S M) : Fits μ0 m0 w0 N S M a w := by
  obtain ⟨μ, hs, hr⟩ := h.fits
  have lift : ∀ i, (blockOf M i).isSome = true → (blockOf m (σ i)).isSome = true := fun i hi => by
    cases hb : blockOf M i with
    | none => rw [hb] at hi; cases hi
    | some p => obtain ⟨u, c⟩ := p; obtain ⟨_, v, hv, _⟩ := hR.blk i u c hb; rw [hv]; rfl
  refine ⟨fun i => μ (σ i), ⟨hs.size, hs.defers, fun t v hv => ?_⟩, ⟨⟨fun id u c hb => ?_, fun i j hi hj he => ?_, fun id u c hb => hok.blk id u c hb⟩, Nat.le_trans hO hL, fun id hid => ?_, fun id hid hsm => ?_, fun id hid hsm => ?_, hr.kept⟩⟩
  · obtain ⟨v', hv', he⟩ := hR.slot t v hv
    refine ⟨?_, hok.slot t v hv⟩
    rw [(hs.val t v' hv').1, eqv_toVal μ v' _ he, toVal_ren]
  · obtain ⟨_, v, hv, he⟩ := hR.blk id u c hb
    obtain ⟨t, ex, h1, h2⟩ := hr.mr.blk (σ id) v c hv
    rw [(eqv_flat μ v _ he).1, flat_ren] at h1 h2
    exact ⟨t, ex, h1, h2⟩
  · exact hR.inj i j hi hj (hr.mr.inj (σ i) (σ j) (lift i hi) (lift j hj) he)
  · show μ (σ id) = _
    rw [hR.fix id (by omega)]
    exact hr.agree id hid
  · have := lift id hsm
    rw [hR.fix id (by omega)] at this
    exact hr.live id hid this
  · refine hr.fresh (σ id) ?_ (lift id hsm)
    by_cases ho : id < own
    · rw [hR.fix id ho]; exact hid
    · cases hb : blockOf M id with
      | none => rw [hb] at hsm; cases hsm
      | some p => obtain ⟨u, c⟩ := p; exact Nat.le_trans hO ((hR.blk id u c hb).1 (by omega))

def exOf : Ex → Exit
  | .normal => .normal
  | .exit id => .exit id
  | .ret => .ret

theorem vc_sound {T : Tab} (hT : TabOK P T) (hE : TabEq P T) {μ0 : Nat → Nat} {m0 : Mem} {w0 : World} {N : Nat} (hO : m0.length ≤ T.own) : ∀ (c : Code) {s : Slots} {m : Mem} {a : Act} {w : World} {Q : Ex → Slots → Mem → Prop} {Q' : Exit → Act → World → Prop},
    Fits μ0 m0 w0 N s m a w → vc P T N c s m Q → (∀ e s' m' a' w', Fits μ0 m0 w0 N s' m' a' w' → Q e s' m' → Q' (exOf e) a' w') → c.wp P Q' a w := by
  intro c
  induction c with
  | skip => intro s m a w Q Q' hf h hq; exact wp_skip (hq .normal _ _ _ _ hf h)
  | ret => intro s m a w Q Q' hf h hq; exact wp_ret (hq .ret _ _ _ _ hf h)
  | exit id => intro s m a w Q Q' hf h hq; exact wp_exit (hq (.exit id) _ _ _ _ hf h)
  | seq x y ihx ihy =>
    intro s m a w Q Q' hf h hq
    refine wp_seq (ihx hf h fun e s' m' a' w' hf' hk => ?_)
    cases e with
    | normal => exact ihy hf' hk hq
    | exit id => exact hq (.exit id) _ _ _ _ hf' hk
    | ret => exact hq .ret _ _ _ _ hf' hk
  | cond c x y ihx ihy =>
    intro s m a w Q Q' hf h hq
    unfold vc at h
    split at h
    · rename_i t hc
      obtain ⟨μ, hs, hr⟩ := hf.fits
      have h1 := ev_sound hs hc
      cases t with
      | true => exact wp_cond_true h1.1 (ihx hf h hq)
      | false => exact wp_cond_false h1.1 (ihy hf h hq)
    · exact h.elim
  | block id c ih =>
    intro s m a w Q Q' hf h hq
    refine wp_block (ih hf h fun e s' m' a' w' hf' hk => ?_)
    cases e with
    | normal => exact hq .normal _ _ _ _ hf' hk
    | ret => exact hq .ret _ _ _ _ hf' hk
    | exit i =>
      simp only [exOf, Exit.inBlock]
      unfold blockQ at hk
      cases hb : Nat.beq i id with
      | true =>
        have := Nat.eq_of_beq_eq_true hb
        subst this
        rw [if_pos rfl]
        simp only [hb] at hk
        exact hq .normal _ _ _ _ hf' hk
      | false =>
        have hne : ¬ i = id := by rintro rfl; rw [Nat.beq_refl] at hb; cases hb
        rw [if_neg hne]
        simp only [hb] at hk
        exact hq (.exit i) _ _ _ _ hf' hk
  | loop c ih =>
    intro s m a w Q Q' hf h hq
    cases h with
    | rounds h =>
      obtain ⟨α, I, S, M, μ, L, hmL, ⟨x0, hI, hS, hM⟩, hr⟩ := h
      have hL : m0.length ≤ L := by obtain ⟨μ', _, hr'⟩ := hf.fits; exact Nat.le_trans hr'.len hmL
      refine wp_loop_rounds (μ x0 + 1) ?_
      have key : ∀ n x a w, μ x < n → I x → Fits μ0 m0 w0 N (S x) (M x) a w → Code.rounds P c Q' n a w := by
        intro n
        induction n with
        | zero => intro x a w h; omega
        | succ n ihn =>
          intro x a w hlt hx hf
          refine ih hf (hr x hx).2 fun e s' m' a' w' hf' hk => ?_
          cases e with
          | normal =>
            obtain ⟨x', h1, h2, h3, h4⟩ := hk
            exact ihn x' a' w' (by omega) h1 (hf'.sub h3 h4 (hr x' h1).1 hL)
          | exit id => exact hq (.exit id) _ _ _ _ hf' hk
          | ret => exact hq .ret _ _ _ _ hf' hk
      exact key (μ x0 + 1) x0 a w (by omega) hI (hf.sub hS hM (hr x0 hI).1 hL)
    | renamed h =>
      obtain ⟨α, I, S, M, μ, ⟨x0, σ0, hI, hR⟩, hr⟩ := h
      refine wp_loop_rounds (μ x0 + 1) ?_
      have key : ∀ n x a w, μ x < n → I x → Fits μ0 m0 w0 N (S x) (M x) a w → Code.rounds P c Q' n a w := by
        intro n
        induction n with
        | zero => intro x a w h; omega
        | succ n ihn =>
          intro x a w hlt hx hf
          refine ih hf (hr x hx).2.2 fun e s' m' a' w' hf' hk => ?_
          cases e with
          | normal =>
            obtain ⟨x', σ, h1, h2, h3⟩ := hk
            exact ihn x' a' w' (by omega) h1 (hf'.ren h3 hO (hr x' h1).1 (hr x' h1).2.1)
          | exit id => exact hq (.exit id) _ _ _ _ hf' hk
          | ret => exact hq .ret _ _ _ _ hf' hk
      exact key (μ x0 + 1) x0 a w (by omega) hI (hf.ren hR hO (hr x0 hI).1 (hr x0 hI).2.1)
  | scope c ih =>
    intro s m a w Q Q' hf h hq
    refine wp_scope_straight (ih hf h fun e s' m' a' w' hf' hk => ?_)
    cases e with
    | normal => exact hq .normal _ _ _ _ hf' hk
    | exit id => exact hq (.exit id) _ _ _ _ hf' hk
    | ret => exact hq .ret _ _ _ _ hf' hk
  | label l => intro s m a w Q Q' hf h hq; exact wp_label (hq .normal _ _ _ _ hf h)
  | region id ops draw =>
    intro s m a w Q Q' hf h hq
    cases draw with
    | true =>
      obtain ⟨n, h⟩ := h
      obtain ⟨μ, hs, hr⟩ := hf.fits
      cases hb : Nat.blt n 1000 with
      | false =>
        rw [hb] at h
        obtain ⟨hB, h⟩ := h
        exact late_sound hT hE hs hr hB h fun s' m' a' w' h1 h2 h3 => ops_sound hT hE hO _ ⟨μ, h1, h2⟩ h3 fun s' m' a' w' hf' hk => hq .normal _ _ _ _ hf' hk
      | true =>
      rw [hb] at h
      obtain ⟨hB, h⟩ := h
      exact draw_sound hT hE hs hr hB h fun μ' s' m' a' w' h1 h2 h3 => ops_sound hT hE hO _ ⟨μ', h1, h2⟩ h3 fun s' m' a' w' hf' hk => hq .normal _ _ _ _ hf' hk
    | false => exact wp_region_list (ops_sound hT hE hO ops.toList hf h fun s' m' a' w' hf' hk => hq .normal _ _ _ _ hf' hk)
  | _ => intro s m a w Q Q' hf h hq; exact h.elim

theorem result_sound {T : Tab} (hT : TabOK P T) (hE : TabEq P T) {N : Nat} {μ : Nat → Nat} {m : Mem} {s : Slots} {a : Act} {w : World} (hs : SRel N μ m.length s a) (hm : MR μ m w) {r : ResultVar} {K : SV → Prop} (h : resultVC T s m r K) :
    ∃ v, K v ∧ (∀ id ∈ v.ids, id < m.length) ∧ (match r with | .tmp t => a.tmps.getD t undef = toVal μ v | .cell ad t => ∃ x, a.tmps.getD ad undef = .pointer (some x) ∧ (loadVar t x).run P w = .ok (toVal μ v) w) := by
  cases r with
  | tmp t =>
    simp only [resultVC] at h
    split at h
    · rename_i v hv
      have := hs.val t v hv
      exact ⟨v, h, this.2, this.1⟩
    · exact h.elim
  | cell t ty =>
    simp only [resultVC] at h
    obtain ⟨v, hk, hi, hr⟩ := read_sound (o := { dst := none, op := .load ty (.tmp t), type := 0, pos := "", after := #[], guard := none }) hT hE hs hm h
    refine ⟨v, hk, hi, ?_⟩
    simp only [readVC] at h
    split at h
    · rename_i id path base off hx
      have h1 := ev_sound hs hx
      have h1' : a.tmps.getD t undef = .pointer (some ⟨μ id, base + off, none⟩) := h1.1
      simp only [execOp, Act.eval, h1', Instr.loadAt, Instr.sureAddr, Sem.run_bind, Sem.run_pure, Result.andThen_ok] at hr
      refine ⟨_, h1', ?_⟩
      cases hq : (loadVar ty ⟨μ id, base + off, none⟩).run P w with
      | ok x w' => rw [hq] at hr; simp at hr; rw [hr.1, hr.2]
      | halt x w' => rw [hq] at hr; simp [Result.andThen] at hr
    · exact h.elim
end Go.Proofs.Ytojfjcbblkiajaa
