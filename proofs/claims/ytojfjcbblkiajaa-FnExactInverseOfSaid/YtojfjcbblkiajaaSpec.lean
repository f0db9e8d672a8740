/- Contracts of whole functions, out of the logic's condition on their bodies. -/
import Derived.Test.YtojfjcbblkiajaaCode
set_option linter.unusedVariables false
set_option linter.unusedSimpArgs false
namespace Go.Proofs.Ytojfjcbblkiajaa
variable {P : Program}

theorem lk_slots0 : ∀ (l : List SV) (k t : Nat) (v : SV), lk (slots0 k l) t = some v → k ≤ t ∧ l[t - k]? = some v
  | [], k, t, v, h => by cases h
  | a :: r, k, t, v, h => by
    simp only [slots0, lk_cons] at h
    by_cases hk : k = t
    · subst hk
      rw [if_pos rfl] at h
      exact ⟨Nat.le_refl _, by simpa using h⟩
    · rw [if_neg hk] at h
      obtain ⟨h1, h2⟩ := lk_slots0 r (k + 1) t v h
      refine ⟨by omega, ?_⟩
      rw [show t - k = (t - (k + 1)) + 1 by omega]
      simpa using h2

theorem idsOf_mem : ∀ (l : List SV) (v : SV), v ∈ l → ∀ i ∈ v.ids, i ∈ idsOf l := fun l v hv i hi => mem_idsOf l v i hv hi

theorem tupVals_cons (μ : Nat → Nat) (a b : SV) (h : a.isTup = false) : toVal.tupVals μ (.tcons a b) = toVal μ a :: toVal.tupVals μ b := by
  cases a <;> first | rfl | cases h

theorem ret_sound {T : Tab} (hT : TabOK P T) (hE : TabEq P T) {μ0 : Nat → Nat} {m0 : Mem} {w0 : World} {N : Nat} {fn : Func} {s : Slots} {m : Mem} {a : Act} {w : World} {Q : SV → Mem → Prop} {e : Ex} (he : e = .normal ∨ e = .ret)
    (hf : Fits μ0 m0 w0 N s m a w) (h : retQ T fn.results.toList Q e s m) :
    ∃ μ v, Q v m ∧ (∀ i ∈ v.ids, i < m.length) ∧ RunS μ0 m0 w0 μ m w ∧ a.defers = [] ∧ (results fn a.tmps).run P w = .ok (toVal μ v) w := by
  obtain ⟨μ, hs, hr⟩ := hf.fits
  have h' : (match fn.results.toList with
    | [] => Q .tnil m
    | [r] => resultVC T s m r fun v => Q v m
    | [r1, r2] => resultVC T s m r1 fun a => resultVC T s m r2 fun b => chk (!a.isTup && !b.isTup) (Q (.tcons a (.tcons b .tnil)) m)
    | [r1, r2, r3] => resultVC T s m r1 fun a => resultVC T s m r2 fun b => resultVC T s m r3 fun c => chk (!a.isTup && !b.isTup && !c.isTup) (Q (.tcons a (.tcons b (.tcons c .tnil))) m)
    | _ => False) := by
    rcases he with rfl | rfl <;> exact h
  refine ⟨μ, ?_⟩
  split at h'
  · rename_i hl
    have hl' : fn.results = #[] := Array.toList_inj.1 hl
    exact ⟨_, h', by simp [SV.ids], hr, hs.defers, by simp [results, hl', toVal]⟩
  · rename_i r hl
    have hl' : fn.results = #[r] := Array.toList_inj.1 hl
    obtain ⟨v, hk, hi, hrun⟩ := result_sound hT hE hs hr.mr h'
    refine ⟨v, hk, hi, hr, hs.defers, ?_⟩
    simp only [results, hl']
    cases r with
    | tmp t => simp only at hrun; simp at hrun; simp [hrun]
    | cell t ty => obtain ⟨x, h1, h2⟩ := hrun; simp at h1; simp [Sem.run_bind, h1, asAddr, h2]
  · rename_i r1 r2 hl
    have hl' : fn.results = #[r1, r2] := Array.toList_inj.1 hl
    obtain ⟨v1, h', hi1, hrun1⟩ := result_sound hT hE hs hr.mr h'
    obtain ⟨v2, hck, hi2, hrun2⟩ := result_sound hT hE hs hr.mr h'
    obtain ⟨hb, hk⟩ := chk_iff.1 hck
    simp only [Bool.and_eq_true, Bool.not_eq_true'] at hb
    obtain ⟨g1, g2⟩ := hb
    refine ⟨_, hk, ?_, hr, hs.defers, ?_⟩
    · intro i hi
      simp only [SV.ids, List.mem_append, List.append_nil] at hi
      rcases hi with hi | hi
      · exact hi1 i hi
      · exact hi2 i hi
    · have e : toVal μ (.tcons v1 (.tcons v2 .tnil)) = .tuple #[toVal μ v1, toVal μ v2] := by
        show Value.tuple (toVal.tupVals μ (.tcons v1 (.tcons v2 .tnil))).toArray = _
        rw [tupVals_cons μ v1 _ g1, tupVals_cons μ v2 _ g2]
        rfl
      rw [e]
      simp only [results, hl']
      cases r1 with
      | tmp t1 => cases r2 with
        | tmp t2 => simp only at hrun1 hrun2; simp at hrun1 hrun2; simp [hrun1, hrun2]
        | cell t2 ty2 => obtain ⟨x, h1, h2⟩ := hrun2; simp only at hrun1; simp at hrun1 h1; simp [Sem.run_bind, hrun1, h1, asAddr, h2]
      | cell t1 ty1 => cases r2 with
        | tmp t2 => obtain ⟨x, h1, h2⟩ := hrun1; simp only at hrun2; simp at hrun2 h1; simp [Sem.run_bind, hrun2, h1, asAddr, h2]
        | cell t2 ty2 => obtain ⟨x, h1, h2⟩ := hrun1; obtain ⟨y, h3, h4⟩ := hrun2; simp at h1 h3; simp [Sem.run_bind, h1, asAddr, h2, h3, h4]
  · rename_i r1 r2 r3 hl
    have hl' : fn.results = #[r1, r2, r3] := Array.toList_inj.1 hl
    obtain ⟨v1, h', hi1, hrun1⟩ := result_sound hT hE hs hr.mr h'
    obtain ⟨v2, h', hi2, hrun2⟩ := result_sound hT hE hs hr.mr h'
    obtain ⟨v3, hck, hi3, hrun3⟩ := result_sound hT hE hs hr.mr h'
    obtain ⟨hb, hk⟩ := chk_iff.1 hck
    simp only [Bool.and_eq_true, Bool.not_eq_true'] at hb
    obtain ⟨⟨g1, g2⟩, g3⟩ := hb
    refine ⟨_, hk, ?_, hr, hs.defers, ?_⟩
    · intro i hi
      simp only [SV.ids, List.mem_append, List.append_nil] at hi
      rcases hi with hi | hi | hi
      · exact hi1 i hi
      · exact hi2 i hi
      · exact hi3 i hi
    · have e : toVal μ (.tcons v1 (.tcons v2 (.tcons v3 .tnil))) = .tuple #[toVal μ v1, toVal μ v2, toVal μ v3] := by
        show Value.tuple (toVal.tupVals μ (.tcons v1 (.tcons v2 (.tcons v3 .tnil)))).toArray = _
        rw [tupVals_cons μ v1 _ g1, tupVals_cons μ v2 _ g2, tupVals_cons μ v3 _ g3]
        rfl
      rw [e]
      simp only [results, hl']
      cases r1 with
      | tmp t1 =>
        cases r2 with
        | tmp t2 =>
          cases r3 with
          | tmp t3 =>
            simp only at hrun1; simp at hrun1; simp only at hrun2; simp at hrun2; simp only at hrun3; simp at hrun3; simp [Sem.run_bind, asAddr, hrun1, hrun2, hrun3]
          | cell a3 y3 =>
            simp only at hrun1; simp at hrun1; simp only at hrun2; simp at hrun2; obtain ⟨x3, p3, q3⟩ := hrun3; simp at p3; simp [Sem.run_bind, asAddr, hrun1, hrun2, p3, q3]
        | cell a2 y2 =>
          cases r3 with
          | tmp t3 =>
            simp only at hrun1; simp at hrun1; obtain ⟨x2, p2, q2⟩ := hrun2; simp at p2; simp only at hrun3; simp at hrun3; simp [Sem.run_bind, asAddr, hrun1, p2, q2, hrun3]
          | cell a3 y3 =>
            simp only at hrun1; simp at hrun1; obtain ⟨x2, p2, q2⟩ := hrun2; simp at p2; obtain ⟨x3, p3, q3⟩ := hrun3; simp at p3; simp [Sem.run_bind, asAddr, hrun1, p2, q2, p3, q3]
      | cell a1 y1 =>
        cases r2 with
        | tmp t2 =>
          cases r3 with
          | tmp t3 =>
            obtain ⟨x1, p1, q1⟩ := hrun1; simp at p1; simp only at hrun2; simp at hrun2; simp only at hrun3; simp at hrun3; simp [Sem.run_bind, asAddr, p1, q1, hrun2, hrun3]
          | cell a3 y3 =>
            obtain ⟨x1, p1, q1⟩ := hrun1; simp at p1; simp only at hrun2; simp at hrun2; obtain ⟨x3, p3, q3⟩ := hrun3; simp at p3; simp [Sem.run_bind, asAddr, p1, q1, hrun2, p3, q3]
        | cell a2 y2 =>
          cases r3 with
          | tmp t3 =>
            obtain ⟨x1, p1, q1⟩ := hrun1; simp at p1; obtain ⟨x2, p2, q2⟩ := hrun2; simp at p2; simp only at hrun3; simp at hrun3; simp [Sem.run_bind, asAddr, p1, q1, p2, q2, hrun3]
          | cell a3 y3 =>
            obtain ⟨x1, p1, q1⟩ := hrun1; simp at p1; obtain ⟨x2, p2, q2⟩ := hrun2; simp at p2; obtain ⟨x3, p3, q3⟩ := hrun3; simp at p3; simp [Sem.run_bind, asAddr, p1, q1, p2, q2, p3, q3]
  · exact h'.elim

theorem Spec.of_vc {T : Tab} (hT : TabOK P T) (hE : TabEq P T) {f : Nat} {fn : Func} {c : Code} {args : List SV} {m : Mem} {Q : SV → Mem → Prop} (hf : P.funcs[f]? = some fn) (hb : fn.body = some c)
    (hn : (fn.name == "runtime.NumGoroutine") = false) (hl : Nat.ble args.length fn.ntmps = true) (hd : ((idsOf args).all fun i => Nat.blt i m.length) = true)
    (h : vc P { T with own := m.length } fn.ntmps c (slots0 0 args) m (retQ { T with own := m.length } fn.results.toList Q)) : Spec P f args m Q := by
  replace hT := hT.owns m.length
  replace hE := hE.owns m.length
  have hn' : ¬ fn.name = "runtime.NumGoroutine" := by simpa using hn
  have hlen := Nat.le_of_ble_eq_true hl
  have hids : ∀ i ∈ idsOf args, i < m.length := fun i hi => by simpa [Nat.blt_eq] using List.all_eq_true.1 hd i hi
  refine ⟨fun as w => by simp [callFunc, Sem.run_bind, program, Sem.run, hf, hn', hb], fun μ w hm => ?_⟩
  refine calls_of_wp hf hb ?_
  have hfits : Fits μ m w fn.ntmps (slots0 0 args) m { tmps := (args.map (toVal μ)).toArray ++ Array.replicate (fn.ntmps - (args.map (toVal μ)).toArray.size) undef, defers := [] } w := by
    refine ⟨μ, ⟨by simp; omega, rfl, fun t v hv => ?_⟩, RunS.start hm⟩
    obtain ⟨_, hv⟩ := lk_slots0 args 0 t v hv
    simp only [Nat.sub_zero] at hv
    have hlt : t < args.length := (List.getElem?_eq_some_iff.1 hv).1
    refine ⟨?_, fun i hi => hids i (mem_idsOf args v i (List.mem_of_getElem? hv) hi)⟩
    rw [Array.getD_eq_getD_getElem?, Array.getElem?_append_left (by simpa using hlt)]
    simp [hv]
  refine vc_sound hT hE (Nat.le_refl _) c hfits h fun e s' m' a' w' hf' hk => ?_
  have fin : e = .normal ∨ e = .ret → bodyPost P fn (fun e w' => ∃ μ' r m', e = .returned (toVal μ' r) ∧ Q r m' ∧ (∀ i ∈ r.ids, i < m'.length) ∧ (∀ id, id < m.length → μ' id = μ id) ∧ m.length ≤ m'.length ∧ (∀ id, m.length ≤ id → (blockOf m' id).isSome = true → w.heap.size ≤ μ' id) ∧ MR μ' m' w' ∧ Kept μ m w w') (exOf e) a' w' := fun he => by
    obtain ⟨μ', v, hq, hi, hr, hd, hrun⟩ := ret_sound hT hE he hf' hk
    have : a'.defers = [] ∧ ∃ x, (results fn a'.tmps).run P w' = .ok x w' ∧ (∃ μ' r m', Ending.returned x = .returned (toVal μ' r) ∧ Q r m' ∧ (∀ i ∈ r.ids, i < m'.length) ∧ (∀ id, id < m.length → μ' id = μ id) ∧ m.length ≤ m'.length ∧ (∀ id, m.length ≤ id → (blockOf m' id).isSome = true → w.heap.size ≤ μ' id) ∧ MR μ' m' w' ∧ Kept μ m w w') :=
      ⟨hd, _, hrun, μ', v, m', rfl, hq, hi, hr.agree, hr.len, hr.fresh, hr.mr, hr.kept⟩
    rcases he with rfl | rfl <;> exact this
  cases e with
  | normal => exact fin (.inl rfl)
  | ret => exact fin (.inr rfl)
  | exit id => exact hk.elim

theorem Spec.mono {f : Nat} {args : List SV} {m : Mem} {Q R : SV → Mem → Prop} (h : Spec P f args m R) (hq : ∀ r m', R r m' → Q r m') : Spec P f args m Q :=
  ⟨h.enters, fun μ w hm => (h.run μ w hm).mono fun e w' ⟨μ', r, m', h1, h2, h3⟩ => ⟨μ', r, m', h1, hq r m' h2, h3⟩⟩

theorem ifVC_split {b : Bool} {X Y : Prop} (hx : b = true → X) (hy : b = false → Y) : ifVC b X Y := by
  cases b
  · exact hy rfl
  · exact hx rfl
theorem ifVC_true {b : Bool} {X Y : Prop} (h : b = true) (hx : X) : ifVC b X Y := by subst h; exact hx
theorem ifVC_false {b : Bool} {X Y : Prop} (h : b = false) (hy : Y) : ifVC b X Y := by subst h; exact hy

theorem LoopVC.of {own : Nat} {body : Slots → Mem → (Ex → Slots → Mem → Prop) → Prop} {Q : Ex → Slots → Mem → Prop} {s : Slots} {m : Mem} {α : Type} (I : α → Prop) (S : α → Slots) (M : α → Mem) (μ : α → Nat) (x0 : α) (h0 : I x0)
    (hs : subL (S x0) s) (hm : memCut m (M x0)) (step : ∀ x, I x → body (S x) (M x) (thenQ (fun s' m' => ∃ x', I x' ∧ μ x' < μ x ∧ subL (S x') s' ∧ memCut m' (M x')) Q)) (hok : ∀ x, I x → okB (S x) (M x) m.length = true := by intros; rfl) : LoopVC own body Q s m :=
  .rounds ⟨α, I, S, M, μ, m.length, Nat.le_refl _, ⟨x0, h0, hs, hm⟩, fun x hx => ⟨hok x hx, step x hx⟩⟩
/-- the same, with room for more blocks: L of them -/
theorem LoopVC.ofL {own : Nat} {body : Slots → Mem → (Ex → Slots → Mem → Prop) → Prop} {Q : Ex → Slots → Mem → Prop} {s : Slots} {m : Mem} {α : Type} (L : Nat) (I : α → Prop) (S : α → Slots) (M : α → Mem) (μ : α → Nat) (x0 : α) (h0 : I x0)
    (hs : subL (S x0) s) (hm : memCut m (M x0)) (step : ∀ x, I x → body (S x) (M x) (thenQ (fun s' m' => ∃ x', I x' ∧ μ x' < μ x ∧ subL (S x') s' ∧ memCut m' (M x')) Q)) (hL : Nat.ble m.length L = true := by rfl) (hok : ∀ x, I x → okB (S x) (M x) L = true := by intros; rfl) : LoopVC own body Q s m :=
  .rounds ⟨α, I, S, M, μ, L, Nat.le_of_ble_eq_true hL, ⟨x0, h0, hs, hm⟩, fun x hx => ⟨hok x hx, step x hx⟩⟩

/-- the same, where blocks may have other numbers after a round -/
theorem LoopVC.ofR {own : Nat} {body : Slots → Mem → (Ex → Slots → Mem → Prop) → Prop} {Q : Ex → Slots → Mem → Prop} {s : Slots} {m : Mem} {α : Type} (I : α → Prop) (S : α → Slots) (M : α → Mem) (μ : α → Nat) (x0 : α) (h0 : I x0) (σ0 : Nat → Nat)
    (hR : RenTo own σ0 (S x0) (M x0) s m) (hL : ∀ x, I x → own ≤ (M x).length) (hok : ∀ x, I x → OkP (S x) (M x))
    (step : ∀ x, I x → body (S x) (M x) (thenQ (fun s' m' => ∃ x' σ, I x' ∧ μ x' < μ x ∧ RenTo own σ (S x') (M x') s' m') Q)) : LoopVC own body Q s m :=
  .renamed ⟨α, I, S, M, μ, ⟨x0, σ0, h0, hR⟩, fun x hx => ⟨hL x hx, hok x hx, step x hx⟩⟩

/-- a result and blocks that are equal as the model has them -/
theorem Spec.eqv {f : Nat} {args : List SV} {m : Mem} {v : SV} {M : Mem} (h : Spec P f args m fun r m' => r.eqv v ∧ memEqv m' M) : Spec P f args m fun r m' => r = v ∧ m' = M := by
  refine ⟨h.enters, fun μ w hm => (h.run μ w hm).mono ?_⟩
  rintro e w' ⟨μ', r, m', rfl, ⟨hr, hM⟩, hi, ha, hl, hf, hmr, hk⟩
  obtain ⟨l, g⟩ := memEqv_get m' M hM
  have lift : ∀ i, (blockOf M i).isSome = true → (blockOf m' i).isSome = true := fun i hi => by
    cases hb : blockOf M i with
    | none => rw [hb] at hi; cases hi
    | some p => obtain ⟨u, c⟩ := p; obtain ⟨v, hv, _⟩ := g i u c hb; rw [hv]; rfl
  refine ⟨μ', v, M, by rw [eqv_toVal μ' r v hr], ⟨rfl, rfl⟩, fun i hi' => ?_, ha, by omega, fun id hid hs => hf id hid (lift id hs), ⟨fun id u c hb => ?_, fun i j hi hj he => hmr.inj i j (lift i hi) (lift j hj) he, fun id u c hb i hi' => ?_⟩, hk⟩
  · rw [← (eqv_flat μ' r v hr).2] at hi'; have := hi i hi'; omega
  · obtain ⟨u', hu, he⟩ := g id u c hb
    obtain ⟨t, ex, h1, h2⟩ := hmr.blk id u' c hu
    rw [(eqv_flat μ' u' u he).1] at h1 h2
    exact ⟨t, ex, h1, h2⟩
  · obtain ⟨u', hu, he⟩ := g id u c hb
    rw [← (eqv_flat μ' u' u he).2] at hi'
    have := hmr.ids id u' c hu i hi'
    omega
theorem blockOf_take : ∀ (m : Mem) (k id : Nat), (blockOf (m.take k) id).isSome = true → id < k ∧ blockOf (m.take k) id = blockOf m id
  | [], k, id, h => by simp [blockOf] at h
  | x :: r, 0, id, h => by simp [blockOf] at h
  | x :: r, k + 1, 0, h => ⟨by omega, rfl⟩
  | x :: r, k + 1, id + 1, h => by
    simp only [List.take_succ_cons, blockOf] at h ⊢
    have := blockOf_take r k id h
    exact ⟨by omega, this.2⟩

/-- a result and blocks that are equal as the model has them, the later blocks forgotten -/
theorem Spec.cut {f : Nat} {args : List SV} {m : Mem} {v : SV} {M : Mem} (hl : m.length ≤ M.length) (hv : ∀ i ∈ v.ids, i < M.length) (hMi : ∀ id u c, blockOf M id = some (u, c) → ∀ i ∈ u.ids, i < M.length)
    (h : Spec P f args m fun r m' => r.eqv v ∧ memEqv (m'.take M.length) M) : Spec P f args m fun r m' => r = v ∧ m' = M := by
  refine ⟨h.enters, fun μ w hm => (h.run μ w hm).mono ?_⟩
  rintro e w' ⟨μ', r, m', rfl, ⟨hr, hM⟩, hi, ha, hl', hf, hmr, hk⟩
  obtain ⟨l, g⟩ := memEqv_get _ M hM
  have lift : ∀ i, (blockOf M i).isSome = true → (blockOf m' i).isSome = true := fun i hi => by
    cases hb : blockOf M i with
    | none => rw [hb] at hi; cases hi
    | some p =>
      obtain ⟨u, c⟩ := p
      obtain ⟨x, hx, _⟩ := g i u c hb
      have := (blockOf_take m' M.length i (by rw [hx]; rfl)).2
      rw [← this, hx]; rfl
  refine ⟨μ', v, M, by rw [eqv_toVal μ' r v hr], ⟨rfl, rfl⟩, hv, ha, hl, fun id hid hs => hf id hid (lift id hs), ⟨fun id u c hb => ?_, fun i j hi hj he => hmr.inj i j (lift i hi) (lift j hj) he, hMi⟩, hk⟩
  obtain ⟨x, hx, he⟩ := g id u c hb
  have hx' := (blockOf_take m' M.length id (by rw [hx]; rfl)).2
  rw [hx] at hx'
  obtain ⟨t, ex, h1, h2⟩ := hmr.blk id x c hx'.symm
  rw [(eqv_flat μ' x u he).1] at h1 h2
  exact ⟨t, ex, h1, h2⟩

/-- what is returned, over no blocks -/
abbrev Ret (v : SV) : SV → Mem → Prop := fun r m => r = v ∧ m = []
theorem Spec.ret {f : Nat} {args : List SV} {v : SV} (hv : v.ids = []) (h : Spec P f args [] fun r _ => r.eqv v) : Spec P f args [] (Ret v) :=
  Spec.cut (Nat.le_refl _) (by rw [hv]; simp) (fun id u c hb => by cases hb) (h.mono fun r m' hr => ⟨hr, by simp [memEqv]⟩)

/-- a contract of the walks' kind, for a function that leaves the world alone -/
theorem Spec.of_same {f : Nat} {fn : Func} {c : Code} {args : List SV} {v : SV} (hf : P.funcs[f]? = some fn) (hb : fn.body = some c) (hn : (fn.name == "runtime.NumGoroutine") = false) (hv : v.ids = [])
    (h : ∀ μ w, Calls P f (args.map (toVal μ)).toArray w fun e w' => e = .returned (toVal μ v) ∧ w = w') : Spec P f args [] (Ret v) := by
  have hn' : ¬ fn.name = "runtime.NumGoroutine" := by simpa using hn
  refine ⟨fun as w => by simp [callFunc, Sem.run_bind, program, Sem.run, hf, hn', hb], fun μ w hm => (h μ w).mono ?_⟩
  rintro e w' ⟨rfl, rfl⟩
  exact ⟨μ, v, [], rfl, ⟨rfl, rfl⟩, by rw [hv]; simp, fun _ _ => rfl, Nat.le_refl _, fun id _ hs => (by cases hs), hm, Kept.refl _ _ _⟩

/-- what is returned stands on at most one new block, which is called the block 0 -/
theorem Spec.single {f : Nat} {args : List SV} {Q R : SV → Mem → Prop} (h : Spec P f args [] Q)
    (hq : ∀ r m', Q r m' → (R r [] ∧ r.ids = []) ∨ ∃ id v c, blockOf m' id = some (v, c) ∧ v.ids = [] ∧ (∀ j ∈ r.ids, j = id) ∧ R (r.ren fun _ => 0) [some (v, c)]) : Spec P f args [] R := by
  refine ⟨h.enters, fun μ w hm => (h.run μ w hm).mono ?_⟩
  rintro e w' ⟨μ', r, m', rfl, hQ, hi, ha, hl', hf, hmr, hk⟩
  rcases hq r m' hQ with ⟨hR, hids⟩ | ⟨id, v, c, hb, hv, hr, hR⟩
  · exact ⟨μ', r, [], rfl, hR, by rw [hids]; simp, fun id hid => ha id hid, Nat.le_refl _, fun id _ hs => (by cases hs), MR.nil μ' w', hk⟩
  · refine ⟨fun _ => μ' id, r.ren fun _ => 0, [some (v, c)], ?_, hR, fun i hi' => ?_, fun i hi' => (by cases hi'), Nat.zero_le _, fun i _ hs => ?_, ⟨fun i u k hu => ?_, fun i j hi' hj _ => ?_, fun i u k hu j hj => ?_⟩, hk⟩
    · rw [toVal_ren]
      exact congrArg Ending.returned (toVal_ids r fun i hi' => by rw [hr i hi'])
    · rw [ids_ren] at hi'
      simp only [List.mem_map] at hi'
      obtain ⟨_, _, rfl⟩ := hi'
      simp
    · exact hf id (Nat.zero_le _) (by rw [hb]; rfl)
    · cases i with
      | zero =>
        cases hu
        obtain ⟨t, ex, h1, h2⟩ := hmr.blk id v c hb
        have e : flat (fun _ => μ' id) v = flat μ' v := flat_ids v (by rw [hv]; intro i hi'; cases hi')
        exact ⟨t, ex, by rw [e]; exact h1, by rw [e]; exact h2⟩
      | succ i => cases hu
    · cases i with
      | zero =>
        cases j with
        | zero => rfl
        | succ j => cases hj
      | succ i => cases hi'
    · cases i with
      | zero => cases hu; rw [hv] at hj; cases hj
      | succ i => cases hu
end Go.Proofs.Ytojfjcbblkiajaa
