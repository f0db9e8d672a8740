/- Families of rows under a block of slices, wherever that block is: what is read and written. -/
import Derived.Test.YtcocapkdpbdmdaaRed
import Derived.Test.YtcocapkdpbdmdaaRref
set_option linter.unusedVariables false
set_option linter.unusedSimpArgs false
set_option maxRecDepth 100000
set_option maxHeartbeats 1000000
namespace Go.Proofs.Ytcocapkdpbdmdaa
open M

section
variable {P : Program} {T : Tab} {N : Nat} {ops : Array Oper} {o : Oper} {r : List Oper} {s : Slots} {m : Mem} {K : Slots → Mem → Prop} {t : Nat} {a x : Operand} {id off n c l : Nat} {k : IntKind} {f : Nat → Int} {h : Nat → SV} {v : SV} {y : Int} {g d : Nat} {w : Bool}
/-- an operation that is wanted -/
theorem opsVC_g (hg : o.guard = some (g, w)) (hd : (ops[g]?).bind (·.dst) = some d) (hl : lk s d = some (.bool w)) (hk : oneVC P T N o ((d, .bool w) :: s) m fun s' m' => opsVC P T N ops r s' m' K) : opsVC P T N ops (o :: r) s m K := by
  simp only [opsVC, guardVC, hg, hd, hl]
  cases w <;> exact hk
theorem opsVC_loadSg (hg : o.guard = some (g, w)) (hd : (ops[g]?).bind (·.dst) = some d) (hl : lk s d = some (.bool w)) (ho : o.op = .load t a) (ha : ev ((d, .bool w) :: s) a = some (.ptr id [] 0 off)) (ht : ((T.ti t).known && (T.ti t).agg.isNone) = true)
    (hb : blockOf m id = some (.vec n h, c)) (hlt : off < n) (hv : h off = v) (hlf : v.leaf = true) (hk : opsVC P T N ops r (sset N ((d, .bool w) :: s) o.dst v) m K) : opsVC P T N ops (o :: r) s m K := by
  refine opsVC_g hg hd hl ?_
  simp only [oneVC, ho]
  exact readVC_loadS ha ht hb hlt hv hlf hk
theorem opsVC_loadg (hg : o.guard = some (g, w)) (hd : (ops[g]?).bind (·.dst) = some d) (hl : lk s d = some (.bool w)) (ho : o.op = .load t a) (ha : ev ((d, .bool w) :: s) a = some (.ptr id [] 0 off)) (ht : ((T.ti t).known && (T.ti t).agg.isNone) = true)
    (hb : blockOf m id = some (.ints k n f, c)) (hlt : off < n) (hk : opsVC P T N ops r (sset N ((d, .bool w) :: s) o.dst (.int k (f off))) m K) : opsVC P T N ops (o :: r) s m K := by
  refine opsVC_g hg hd hl ?_
  simp only [oneVC, ho]
  exact readVC_load ha ht hb hlt hk
theorem opsVC_mv (hg : o.guard = none) (ho : o.op = .move x) (hx : ev s x = some v) (hk : opsVC P T N ops r (sset N s o.dst v) m K) : opsVC P T N ops (o :: r) s m K := by
  refine opsVC_one hg ?_
  simp only [oneVC, ho, readVC, hx]
  exact hk
theorem opsVC_nil (hk : K s m) : opsVC P T N ops [] s m K := hk
theorem thenQ_n {X : Slots → Mem → Prop} {Q : Ex → Slots → Mem → Prop} (h : X s m) : thenQ X Q .normal s m := h
theorem vc_seq {a b : Code} {Q : Ex → Slots → Mem → Prop} (h : vc P T N a s m (thenQ (fun s' m' => vc P T N b s' m' Q) Q)) : vc P T N (.seq a b) s m Q := h
theorem vc_region {q : Nat} {Q : Ex → Slots → Mem → Prop} (h : opsVC P T N ops ops.toList s m fun s' m' => Q .normal s' m') : vc P T N (.region q ops false) s m Q := h
theorem thenQ_x {X : Slots → Mem → Prop} {Q : Ex → Slots → Mem → Prop} {i : Nat} (h : Q (.exit i) s m) : thenQ X Q (.exit i) s m := h
theorem thenQ_r {X : Slots → Mem → Prop} {Q : Ex → Slots → Mem → Prop} (h : Q .ret s m) : thenQ X Q .ret s m := h
theorem blockQ_x {Q : Ex → Slots → Mem → Prop} {i j : Nat} (hb : Nat.beq i j = true) (h : Q .normal s m) : blockQ j Q (.exit i) s m := by
  simp only [blockQ, hb]; exact h
theorem blockQ_y {Q : Ex → Slots → Mem → Prop} {i j : Nat} (hb : Nat.beq i j = false) (h : Q (.exit i) s m) : blockQ j Q (.exit i) s m := by
  simp only [blockQ, hb]; exact h
theorem blockQ_n {Q : Ex → Slots → Mem → Prop} {j : Nat} (h : Q .normal s m) : blockQ j Q .normal s m := h
theorem blockQ_r {Q : Ex → Slots → Mem → Prop} {j : Nat} (h : Q .ret s m) : blockQ j Q .ret s m := h
theorem vc_exit {i : Nat} {Q : Ex → Slots → Mem → Prop} (h : Q (.exit i) s m) : vc P T N (.exit i) s m Q := h
theorem vc_skip {Q : Ex → Slots → Mem → Prop} (h : Q .normal s m) : vc P T N .skip s m Q := h
theorem vc_ret {Q : Ex → Slots → Mem → Prop} (h : Q .ret s m) : vc P T N .ret s m Q := h
theorem vc_block {i : Nat} {q : Code} {Q : Ex → Slots → Mem → Prop} (h : vc P T N q s m (blockQ i Q)) : vc P T N (.block i q) s m Q := h
theorem vc_scope {q : Code} {Q : Ex → Slots → Mem → Prop} (h : vc P T N q s m Q) : vc P T N (.scope q) s m Q := h
theorem vc_cond {a b : Code} {Q : Ex → Slots → Mem → Prop} {bb : Bool} (hx : ev s x = some (.bool bb)) (h1 : bb = true → vc P T N a s m Q) (h2 : bb = false → vc P T N b s m Q) : vc P T N (.cond x a b) s m Q := by
  simp only [vc, hx]
  cases bb
  · exact h2 rfl
  · exact h1 rfl
theorem opsVC_as (hg : o.guard = none) (ho : o.op = .assign x) (hx : ev s x = some v) (hk : opsVC P T N ops r (sset N s o.dst v) m K) : opsVC P T N ops (o :: r) s m K := by
  refine opsVC_one hg ?_
  simp only [oneVC, ho, readVC, hx]
  exact hk
theorem opsVC_rd (hg : o.guard = none) (h1 : ∀ K' : Slots → Mem → Prop, oneVC P T N o s m K' = readVC T o.op s m fun v => K' (sset N s o.dst v) m) (hk : readVC T o.op s m fun v => opsVC P T N ops r (sset N s o.dst v) m K) : opsVC P T N ops (o :: r) s m K := by
  refine opsVC_one hg ?_
  rw [h1]
  exact hk
theorem opsVC_new (hg : o.guard = none) (h1 : ∀ K' : Slots → Mem → Prop, oneVC P T N o s m K' = newVC T o.op s fun v mk => K' (sset N s o.dst (mk m.length)) (m ++ [some (v, v.size)])) (hk : newVC T o.op s fun v mk => opsVC P T N ops r (sset N s o.dst (mk m.length)) (m ++ [some (v, v.size)]) K) : opsVC P T N ops (o :: r) s m K := by
  refine opsVC_one hg ?_
  rw [h1]
  exact hk
theorem opsVC_storeR {u : Nat → Int} (hg : o.guard = none) (ho : o.op = .store t a x) (ha : ev s a = some (.ptr id [] 0 off)) (hx : ev s x = some (.ints k l u)) (ht : ((T.ti t).known && ((T.ti t).agg == some l)) = true)
    (hb : blockOf m id = some (.ints k n f, c)) (hlt : off + l ≤ n) (hk : opsVC P T N ops r (sset N s o.dst .undef) (setBlock m id (.ints k n (updR f off l u))) K) : opsVC P T N ops (o :: r) s m K := by
  simp only [Bool.and_eq_true, beq_iff_eq] at ht
  refine opsVC_one hg ?_
  simp only [oneVC, ho, storeVC, ha, hx, hb, SV.part, ht.1, ht.2, putAt, SV.setPart]
  exact chk_iff.2 ⟨rfl, chk_iff.2 ⟨by cases k <;> simp [ikEq, Nat.beq_refl], hlt, hk⟩⟩
theorem opsVC_build0 {ps : Array (Nat × Operand)} {len es : Nat} {ea : Bool} (hg : o.guard = none) (ho : o.op = .build t ps) (hz : T.zero t = some (.ints k n f)) (hp : evParts s ps.toList = some []) (ht : T.ti t = .arr len es ea) (hn : Nat.beq n (len * es) = true)
    (hk : opsVC P T N ops r (sset N s o.dst (.ints k n f)) m K) : opsVC P T N ops (o :: r) s m K := by
  refine opsVC_one hg ?_
  simp only [oneVC, ho, readVC, hz, hp, ht]
  exact chk_iff.2 ⟨hn, hk⟩
theorem opsVC_len (hg : o.guard = none) {cl : Call} (ho : o.op = .call cl) (hc : cl.callee = .builtin .len) (ht : cl.argTypes[0]? = some t) (hs : (match T.ti t with | .slice _ => true | _ => false) = true) (hx : evs s cl.args.toList = some [.sl id off n l]) (hk : opsVC P T N ops r (sset N s o.dst (.int .i64 n)) m K) : opsVC P T N ops (o :: r) s m K := by
  refine opsVC_one hg ?_
  simp only [oneVC, ho, hc, readVC, ht, hx]
  revert hs
  cases T.ti t <;> intro hs <;> first | exact hk | cases hs
/-- a row in a cell, and a second result -/
theorem retQ_cell {Q : SV → Mem → Prop} {rs : List ResultVar} {t1 t2 ty : Nat} {b : SV} (hr : rs = [.cell t1 ty, .tmp t2]) (h1 : lk s t1 = some (.ptr id [] 0 0)) (ht : ((T.ti ty).known && ((T.ti ty).agg == some l)) = true) (hb : blockOf m id = some (.ints k n f, c)) (hlt : 0 + l ≤ n) (h2 : lk s t2 = some b) (htup : b.isTup = false)
    (hk : Q (.tcons (.ints k l fun j => f (j + 0)) (.tcons b .tnil)) m) : retQ T rs Q .ret s m := by
  subst hr
  simp only [retQ, resultVC]
  refine readVC_loadR (a := .tmp t1) h1 ht hb hlt ?_
  simp only [h2]
  exact chk_iff.2 ⟨by rw [htup]; rfl, hk⟩
theorem retQ_cellN {Q : SV → Mem → Prop} {rs : List ResultVar} {t1 t2 ty : Nat} {b : SV} (hr : rs = [.cell t1 ty, .tmp t2]) (h1 : lk s t1 = some (.ptr id [] 0 0)) (ht : ((T.ti ty).known && ((T.ti ty).agg == some l)) = true) (hb : blockOf m id = some (.ints k n f, c)) (hlt : 0 + l ≤ n) (h2 : lk s t2 = some b) (htup : b.isTup = false)
    (hk : Q (.tcons (.ints k l fun j => f (j + 0)) (.tcons b .tnil)) m) : retQ T rs Q .normal s m := by
  subst hr
  simp only [retQ, resultVC]
  refine readVC_loadR (a := .tmp t1) h1 ht hb hlt ?_
  simp only [h2]
  exact chk_iff.2 ⟨by rw [htup]; rfl, hk⟩
theorem Spec.retE {g : Nat} {args : List SV} {Q : SV → Prop} (hQ : ∀ r, Q r → r.ids = []) (h : Spec P g args [] fun r _ => Q r) : Spec P g args [] fun r m => Q r ∧ m = [] :=
  ⟨h.enters, fun μ w hm => (h.run μ w hm).mono fun e w' ⟨μ', r, m', he, hq, hi, ha, hl, hf, hmr, hk⟩ => ⟨μ', r, [], he, ⟨hq, rfl⟩, by rw [hQ r hq]; simp, fun id hid => ha id hid, Nat.le_refl _, fun id _ hs => (by cases hs), MR.nil μ' w', hk⟩⟩
theorem headVC_mv {K : Slots → Prop} (hg : o.guard = none) (ho : o.op = .move x) (hx : ev s x = some v) (hk : headVC P T N ops m r (sset N s o.dst v) K) : headVC P T N ops m (o :: r) s K := by
  simp only [headVC, ho, isNew, isSto, Bool.or_self, guardVC, hg, readVC, hx]
  exact hk
theorem headVC_loadS {K : Slots → Prop} (hg : o.guard = none) (ho : o.op = .load t a) (ha : ev s a = some (.ptr id [] 0 off)) (ht : ((T.ti t).known && (T.ti t).agg.isNone) = true)
    (hb : blockOf m id = some (.vec n h, c)) (hlt : off < n) (hv : h off = v) (hl : v.leaf = true) (hk : headVC P T N ops m r (sset N s o.dst v) K) : headVC P T N ops m (o :: r) s K := by
  simp only [headVC, ho, isNew, isSto, Bool.or_self, guardVC, hg]
  exact readVC_loadS ha ht hb hlt hv hl hk
theorem headVC_load {K : Slots → Prop} (hg : o.guard = none) (ho : o.op = .load t a) (ha : ev s a = some (.ptr id [] 0 off)) (ht : ((T.ti t).known && (T.ti t).agg.isNone) = true)
    (hb : blockOf m id = some (.ints k n f, c)) (hlt : off < n) (hk : headVC P T N ops m r (sset N s o.dst (.int k (f off))) K) : headVC P T N ops m (o :: r) s K := by
  simp only [headVC, ho, isNew, isSto, Bool.or_self, guardVC, hg]
  exact readVC_load ha ht hb hlt hk
theorem headVC_loadR {K : Slots → Prop} (hg : o.guard = none) (ho : o.op = .load t a) (ha : ev s a = some (.ptr id [] 0 off)) (ht : ((T.ti t).known && ((T.ti t).agg == some l)) = true)
    (hb : blockOf m id = some (.ints k n f, c)) (hlt : off + l ≤ n) (hk : headVC P T N ops m r (sset N s o.dst (.ints k l fun j => f (j + off))) K) : headVC P T N ops m (o :: r) s K := by
  simp only [headVC, ho, isNew, isSto, Bool.or_self, guardVC, hg]
  exact readVC_loadR ha ht hb hlt hk
end

/-- a head that makes nothing -/
theorem newsVC_none {T : Tab} {N : Nat} {s0 : Slots} {l0 : List Oper} {K : Slots → Mem → Prop} : ∀ {l : List Oper} {s : Slots} {m : Mem}, (l.all fun o => !isNew o.op) = true → K s m → newsVC T N s0 l0 l s m K
  | [], s, m, _, hk => hk
  | o :: r, s, m, h, hk => by
    simp only [List.all_cons, Bool.and_eq_true, Bool.not_eq_true'] at h
    unfold newsVC
    rw [h.1]
    exact newsVC_none h.2 hk

/-- nothing leads behind the blocks -/
abbrev Clo (m : Mem) : Prop := ∀ id u c, blockOf m id = some (u, c) → ∀ i ∈ u.ids, i < m.length
/-- the slices off .. off + n of the block hd lead to rows of w numbers -/
structure Fam (m : Mem) (hd N c0 : Nat) (h : Nat → SV) (off n w : Nat) (ρ cp : Nat → Nat) (f : Nat → Nat → Int) (d : Nat → Nat) : Prop where
  hdr : blockOf m hd = some (.vec N h, c0)
  fit : off + n ≤ N
  sl : ∀ i, i < n → h (off + i) = .sl (ρ i) 0 w (cp i)
  row : ∀ i, i < n → blockOf m (ρ i) = some (.ints .u8 w (f i), d i)
  cap : ∀ i, i < n → w ≤ cp i
theorem Fam.lt {m : Mem} {hd N c0 : Nat} {h : Nat → SV} {off n w : Nat} {ρ cp : Nat → Nat} {f : Nat → Nat → Int} {d : Nat → Nat} (hF : Fam m hd N c0 h off n w ρ cp f d) : ∀ i, i < n → ρ i < m.length := fun i hi => blockOf_lt (by rw [hF.row i hi]; rfl)
theorem Fam.hlt {m : Mem} {hd N c0 : Nat} {h : Nat → SV} {off n w : Nat} {ρ cp : Nat → Nat} {f : Nat → Nat → Int} {d : Nat → Nat} (hF : Fam m hd N c0 h off n w ρ cp f d) : hd < m.length := blockOf_lt (by rw [hF.hdr]; rfl)
theorem Fam.ne {m : Mem} {hd N c0 : Nat} {h : Nat → SV} {off n w : Nat} {ρ cp : Nat → Nat} {f : Nat → Nat → Int} {d : Nat → Nat} (hF : Fam m hd N c0 h off n w ρ cp f d) : ∀ i, i < n → ρ i ≠ hd := fun i hi e => by
  have := hF.row i hi
  rw [e, hF.hdr] at this
  cases this

theorem slots_ok {L : Nat} : ∀ (s : Slots), (∀ p ∈ s, ∀ i ∈ p.2.ids, i < L) → ∀ t v, lk s t = some v → ∀ i ∈ v.ids, i < L
  | [], _, t, v, h => by cases h
  | (k, u) :: r, hp, t, v, h => by
    rw [lk_cons] at h
    by_cases hk : k = t
    · rw [if_pos hk] at h; cases h; exact hp (k, u) (by simp)
    · rw [if_neg hk] at h; exact slots_ok r (fun p hp' => hp p (by simp [hp'])) t v h
theorem OkP.of {s : Slots} {m : Mem} (hs : ∀ p ∈ s, ∀ i ∈ p.2.ids, i < m.length) (hm : Clo m) : OkP s m := ⟨slots_ok s hs, hm⟩

theorem setBlock_lt (m : Mem) (i : Nat) (v : SV) : (setBlock m i v).length = m.length := setBlock_length m i v
theorem setBlock_clo {m : Mem} {i c : Nat} {u v : SV} (hm : Clo m) (hb : blockOf m i = some (u, c)) (hv : ∀ j ∈ v.ids, j < m.length) : Clo (setBlock m i v) := fun id x d h j hj => by
  rw [setBlock_lt]
  rw [setBlock_get m i id v u c hb] at h
  by_cases e : id = i
  · rw [if_pos e] at h; cases h; exact hv j hj
  · rw [if_neg e] at h; exact hm id x d h j hj
theorem setBlock_live {m : Mem} {i c : Nat} {u v : SV} (hb : blockOf m i = some (u, c)) : liveP m (setBlock m i v) := fun id hid h => by
  rw [setBlock_get m i id v u c hb] at h
  by_cases e : id = i
  · rw [e, hb]; rfl
  · rw [if_neg e] at h; exact h
theorem liveP.trans {m m1 m2 : Mem} (h1 : liveP m m1) (hl : m.length ≤ m1.length) (h2 : liveP m1 m2) : liveP m m2 := fun id hid h => h1 id hid (h2 id (by omega) h)

theorem rowWithEntryF_s (m : Mem) (hd N c0 off n cap w place : Nat) (h : Nat → SV) (ρ cp : Nat → Nat) (f : Nat → Nat → Int) (d : Nat → Nat) (hF : Fam m hd N c0 h off n w ρ cp f d) (hm : Clo m) (hn : n ≤ 1000000) (hpl : place < w) (hw : w ≤ 1000000) :
    Spec Try.prog 79 [.sl hd off n cap, .int .i64 place] m (fun r m' => m' = m ∧ ((∃ k : Nat, k < n ∧ r = .int .i64 k ∧ f k place ≠ 0 ∧ ∀ i, i < k → f i place = 0) ∨ (r = .int .i64 (-1) ∧ ∀ i, i < n → f i place = 0))) := by
  refine Spec.of_vc tabOK tabEq Try.func79 rfl (by kernel_rfl) rfl (by simp [idsOf, SV.ids, Nat.blt_eq, hF.hlt]) ?_
  refine LoopVC.ofR (fun i : Nat => i ≤ n ∧ ∀ j, j < i → f j place = 0) (fun i => [(1, .int .i64 place), (7, .sl hd off n cap), (8, .int .i64 n), (9, .int .i64 i)]) (fun _ => m) (fun i => n - i) 0 ⟨by omega, fun j hj => by omega⟩ (fun i => i) (RenTo.same (And.intro rfl (And.intro rfl (And.intro rfl (And.intro rfl (trivial))))) fun i u d hb => ⟨u, hb, eqv_refl u⟩) (fun _ _ => Nat.le_refl _) ?_ ?_
  · exact fun i hi => OkP.of (by simp [SV.ids, hF.hlt]) hm
  · rintro i ⟨hi, hall⟩
    refine ifVC_split (fun hh => ?_) (fun hh => ?_)
    · have hlt := of_decide_eq_true hh
      (repeat (first | refine And.intro (by omega) ?_ | refine And.intro ⟨by omega, by omega⟩ ?_))
      refine opsVC_loadS (v := .sl (ρ i) 0 w (cp i)) rfl rfl rfl rfl hF.hdr (by have := hF.fit; omega) (by rw [show (i : Int).toNat * 1 + off = off + i by omega]; exact hF.sl i (by omega)) rfl ?_
      (repeat (first | refine And.intro (by omega) ?_ | refine And.intro ⟨by omega, by omega⟩ ?_))
      refine opsVC_load rfl rfl rfl rfl (hF.row i (by omega)) (by omega) ?_
      have hidx : (place : Int).toNat * 1 + 0 = place := by omega
      refine ifVC_split (fun hc => ?_) (fun hc => ?_)
      · have hc : f i place ≠ 0 := by
          have hc : f i ((place : Int).toNat * 1 + 0) ≠ 0 := by simpa using hc
          rw [hidx] at hc; exact hc
        exact ⟨rfl, .inl ⟨i, by omega, rfl, hc, hall⟩⟩
      · have hc : f i place = 0 := by
          have hc : f i ((place : Int).toNat * 1 + 0) = 0 := by simpa using hc
          rw [hidx] at hc; exact hc
        refine Exists.intro (i + 1) (Exists.intro (fun i => i) (And.intro ⟨by omega, fun j hj => ?_⟩ (And.intro (by omega) (RenTo.same ?_ fun i u d hb => ⟨u, hb, eqv_refl u⟩))))
        · by_cases hji : j = i
          · subst hji; exact hc
          · exact hall j (by omega)
        · exact And.intro rfl (And.intro rfl (And.intro rfl (And.intro (slotI (wrapS (by omega))) trivial)))
    · have hge := of_decide_eq_false hh
      obtain rfl : i = n := by omega
      exact ⟨rfl, .inr ⟨rfl, hall⟩⟩
end Go.Proofs.Ytcocapkdpbdmdaa
