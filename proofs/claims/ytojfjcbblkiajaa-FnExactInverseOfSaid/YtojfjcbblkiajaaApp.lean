/- Append: a row of numbers that is the function's own gets more of them. -/
import Derived.Test.YtojfjcbblkiajaaCall
import Derived.Laws.Append
import Derived.Laws.AppendOwn
import Derived.Laws.CopyRow
set_option linter.unusedVariables false
set_option linter.unusedSimpArgs false
namespace Go.Proofs.Ytojfjcbblkiajaa
variable {P : Program}

theorem putMem_length : ∀ (m : Mem) (b : Nat) (v : SV) (c : Nat), b ≤ m.length → m.length ≤ (putMem m b v c).length ∧ b < (putMem m b v c).length
  | [], b, v, c, h => by simp [putMem] at *; exact h
  | x :: r, 0, v, c, h => by simp [putMem]
  | x :: r, k + 1, v, c, h => by
    have := putMem_length r k v c (by simpa using h)
    simp [putMem]; omega
theorem putMem_same : ∀ (m : Mem) (b : Nat) (v : SV) (c : Nat), b ≤ m.length → blockOf (putMem m b v c) b = some (v, c)
  | [], b, v, c, h => by
    have : b = 0 := by simpa using h
    subst this; rfl
  | x :: r, 0, v, c, h => rfl
  | x :: r, k + 1, v, c, h => by
    simp only [putMem, blockOf]
    exact putMem_same r k v c (by simpa using h)
theorem putMem_other : ∀ (m : Mem) (b j : Nat) (v : SV) (c : Nat), b ≤ m.length → j ≠ b → blockOf (putMem m b v c) j = blockOf m j
  | [], b, j, v, c, h, hj => by
    have : b = 0 := by simpa using h
    subst this
    cases j with
    | zero => exact absurd rfl hj
    | succ j => rfl
  | x :: r, 0, j, v, c, h, hj => by
    cases j with
    | zero => exact absurd rfl hj
    | succ j => rfl
  | x :: r, k + 1, 0, v, c, h, hj => rfl
  | x :: r, k + 1, j + 1, v, c, h, hj => by
    simp only [putMem, blockOf]
    exact putMem_other r k j v c (by simpa using h) (by omega)
theorem noRef_get (b : Nat) : ∀ (m : Mem) (id : Nat) (u : SV) (c : Nat), noRef b m = true → blockOf m id = some (u, c) → b ∉ u.ids
  | [], id, u, c, _, h => by cases h
  | some (v, d) :: r, 0, u, c, hn, h => by
    cases h
    simp only [noRef, Bool.and_eq_true, Bool.not_eq_true'] at hn
    intro hi
    rw [(memN_iff _ _).2 hi] at hn
    exact absurd hn.1 (by simp)
  | none :: r, 0, u, c, hn, h => by cases h
  | some (v, d) :: r, id + 1, u, c, hn, h => by
    simp only [noRef, Bool.and_eq_true] at hn
    exact noRef_get b r id u c hn.2 h
  | none :: r, id + 1, u, c, hn, h => noRef_get b r id u c hn h
theorem freeAt_get : ∀ (m : Mem) (b : Nat), freeAt m b = true → b ≤ m.length ∧ blockOf m b = none
  | [], 0, _ => ⟨Nat.le_refl _, rfl⟩
  | [], k + 1, h => by cases h
  | none :: r, 0, _ => ⟨Nat.zero_le _, rfl⟩
  | some p :: r, 0, h => by cases h
  | none :: r, k + 1, h => by
    have := freeAt_get r k h
    exact ⟨by simp; exact this.1, this.2⟩
  | some p :: r, k + 1, h => by
    have := freeAt_get r k h
    exact ⟨by simp; exact this.1, this.2⟩
theorem dropRef_get (b : Nat) : ∀ (s : Slots) (bad : List Nat) (t : Nat) (v : SV), lk (dropRef b bad s) t = some v → t ∉ bad ∧ lk s t = some v ∧ b ∉ v.ids
  | [], bad, t, v, h => by cases h
  | (k, u) :: r, bad, t, v, h => by
    unfold dropRef at h
    split at h
    · rename_i hb
      obtain ⟨h1, h2, h3⟩ := dropRef_get b r bad t v h
      have hk : k ∈ bad := (memN_iff _ _).1 hb
      have hne : k ≠ t := by rintro rfl; exact h1 hk
      exact ⟨h1, by rw [lk_cons, if_neg hne]; exact h2, h3⟩
    · rename_i hb
      have hk : k ∉ bad := fun hk => by rw [(memN_iff _ _).2 hk] at hb; cases hb
      split at h
      · obtain ⟨h1, h2, h3⟩ := dropRef_get b r (k :: bad) t v h
        simp only [List.mem_cons, not_or] at h1
        exact ⟨h1.2, by rw [lk_cons, if_neg (fun e => h1.1 e.symm)]; exact h2, h3⟩
      · rename_i hm
        rw [lk_cons] at h
        by_cases hkt : k = t
        · subst hkt
          rw [if_pos rfl] at h
          cases h
          exact ⟨hk, by rw [lk_cons, if_pos rfl], fun hi => by rw [(memN_iff _ _).2 hi] at hm; cases hm⟩
        · rw [if_neg hkt] at h
          obtain ⟨h1, h2, h3⟩ := dropRef_get b r bad t v h
          exact ⟨h1, by rw [lk_cons, if_neg hkt]; exact h2, h3⟩

/-- a block's number stands for a block anew -/
theorem RunS.putB {μ0 : Nat → Nat} {m0 : Mem} {w0 : World} {μ : Nat → Nat} {m : Mem} {w w' : World} (h : RunS μ0 m0 w0 μ m w) {b addr c : Nat} {v : SV} (hb0 : m0.length ≤ b) (hb : b ≤ m.length) (hnr : noRef b m = true) (hv : v.ids = [])
    (hnew : ∃ t ex, w'.heap[addr]? = some (.cells (flat μ v ++ ex).toArray t (0, 0)) ∧ (flat μ v).length + ex.length = c) (hfr : w0.heap.size ≤ addr)
    (hold : ∀ i, i < w.heap.size → i ≠ addr → w'.heap[i]? = w.heap[i]?) (hdis : ∀ j, j ≠ b → (blockOf m j).isSome = true → μ j ≠ addr)
    (hsz : w.heap.size ≤ w'.heap.size) (hrest : w'.os = w.os ∧ w'.output = w.output ∧ w'.tape = w.tape) (hfro : ∀ a, w'.frozen? a = w.frozen? a) :
    RunS μ0 m0 w0 (ext μ b addr) (putMem m b v c) w' := by
  have hl := putMem_length m b v c hb
  have eo : ∀ id, id ≠ b → ext μ b addr id = μ id := fun id hid => by unfold ext; rw [if_neg hid]
  have eb : ext μ b addr b = addr := by unfold ext; rw [if_pos rfl]
  have fl : ∀ u : SV, b ∉ u.ids → flat (ext μ b addr) u = flat μ u := fun u hu => flat_ids u fun i hi => eo i (fun e => hu (e ▸ hi))
  have sm : ∀ id, id ≠ b → (blockOf (putMem m b v c) id).isSome = (blockOf m id).isSome := fun id hid => by rw [putMem_other m b id v c hb hid]
  refine ⟨⟨fun id u k hk => ?_, fun i j hi hj he => ?_, fun id u k hk i hi => ?_⟩, by have := h.len; omega, fun id hid => ?_, fun id hid hs => ?_, fun id hid hs => ?_, ⟨by have := h.kept.size; omega, fun a ha hne => ?_, ?_, fun a => by rw [hfro]; exact h.kept.fro a⟩⟩
  · by_cases hid : id = b
    · subst hid
      rw [putMem_same m id v c hb] at hk
      cases hk
      obtain ⟨t, ex, h1, h2⟩ := hnew
      exact ⟨t, ex, by rw [eb, fl v (by rw [hv]; simp)]; exact h1, by rw [fl v (by rw [hv]; simp)]; exact h2⟩
    · rw [putMem_other m b id v c hb hid] at hk
      obtain ⟨t, ex, h1, h2⟩ := h.mr.blk id u k hk
      have hnb := noRef_get b m id u k hnr hk
      have hne := hdis id hid (by rw [hk]; rfl)
      exact ⟨t, ex, by rw [eo id hid, hold _ (Array.getElem?_eq_some_iff.1 h1).1 hne, fl u hnb]; exact h1, by rw [fl u hnb]; exact h2⟩
  · by_cases hib : i = b <;> by_cases hjb : j = b
    · rw [hib, hjb]
    · subst hib
      rw [sm j hjb] at hj
      rw [eb, eo j hjb] at he
      exact absurd he.symm (hdis j hjb hj)
    · subst hjb
      rw [sm i hib] at hi
      rw [eb, eo i hib] at he
      exact absurd he (hdis i hib hi)
    · rw [sm i hib] at hi
      rw [sm j hjb] at hj
      rw [eo i hib, eo j hjb] at he
      exact h.mr.inj i j hi hj he
  · by_cases hid : id = b
    · subst hid
      rw [putMem_same m id v c hb] at hk
      cases hk
      rw [hv] at hi; cases hi
    · rw [putMem_other m b id v c hb hid] at hk
      have := h.mr.ids id u k hk i hi
      omega
  · rw [eo id (by omega)]; exact h.agree id hid
  · rw [sm id (by omega)] at hs; exact h.live id hid hs
  · by_cases hib : id = b
    · subst hib; rw [eb]; exact hfr
    · rw [sm id hib] at hs; rw [eo id hib]; exact h.fresh id hid hs
  · have hlt : a < w.heap.size := by have := h.kept.size; omega
    rw [hold a hlt (by omega)]
    exact h.kept.old a ha hne
  · obtain ⟨a1, a2, a3⟩ := h.kept.rest
    obtain ⟨b1, b2, b3⟩ := hrest
    exact ⟨b1.trans a1, b2.trans a2, b3.trans a3⟩

theorem SRel.dropRef {N : Nat} {μ : Nat → Nat} {L L' b addr : Nat} {s : Slots} {a : Act} (hs : SRel N μ L s a) (hL : L ≤ L') : SRel N (ext μ b addr) L' (Go.Proofs.Ytojfjcbblkiajaa.dropRef b [] s) a :=
  ⟨hs.size, hs.defers, fun t v h => by
    obtain ⟨_, h2, h3⟩ := dropRef_get b s [] t v h
    have := hs.val t v h2
    refine ⟨?_, fun id hid => Nat.lt_of_lt_of_le (this.2 id hid) hL⟩
    rw [this.1]
    refine toVal_ids v fun id hid => ?_
    unfold ext
    rw [if_neg (show ¬ id = b from fun e => h3 (e ▸ hid))]⟩

/-- a slice grows in its room -/
theorem run_append_in (w : World) (t ty e e' : TypeId) (i : TypeInfo) (ht : P.underlying t = some (.slice e)) (hi : P.info? e = some i)
    (g sLen sCap : Nat) (cur : Array Value) (hg : w.heap[g]? = some (.cells cur e' (0, 0)))
    (a : Addr) (m c : Nat) (news : List Value) (hl : news.length = m * i.size) (hnews : ∀ j u, news[j]? = some u → w.cell? (a.add j) = some u) (h1 : ∀ u ∈ news, u.oneCell' = true)
    (hroom : sLen + m ≤ sCap) (hfit : sLen * i.size + news.length ≤ cur.size) :
    (Builtin.append_ #[t, t] ty #[.slice (some ⟨g, 0, none⟩) sLen sCap, .slice (some a) m c]).run P w =
      .ok (.slice (some ⟨g, 0, none⟩) (sLen + m) sCap) (w.setRow g (cur.toList.take (sLen * i.size) ++ news ++ cur.toList.drop (sLen * i.size + news.length)).toArray) := by
  have hf := run_firstCells_some (P := P) w i.size m a m c news hl hnews
  have hst := run_storeCells_at P g (sLen * i.size) e' news 0 cur w hg (by simpa using hfit) h1
  simp only [Nat.add_zero] at hst
  simp [Builtin.append_, run_underlying ht, sizeOf, typeInfo, hi, Builtin.lenOf, hroom, hf, Addr.add_lit, hst]

theorem setRow_frozen {w : World} {g : Nat} {old cs : Array Value} {t : TypeId} (hg : w.heap[g]? = some (.cells old t (0, 0))) (a : Addr) : (w.setRow g cs).frozen? a = w.frozen? a := by
  by_cases h : a.block = g
  · have h1 : (w.setRow g cs).heap[a.block]? = some (.cells cs t (0, 0)) := by rw [h]; exact setRow_heap w g old cs t (0, 0) hg
    have h2 : w.heap[a.block]? = some (.cells old t (0, 0)) := by rw [h]; exact hg
    simp [World.frozen?, h1, h2]
  · simp only [World.frozen?, setRow_other w g a.block cs h]

theorem flat_take (μ : Nat → Nat) (k : IntKind) (n1 n : Nat) (f : Nat → Int) (ex : List Value) (h : n ≤ n1) : (flat μ (.ints k n1 f) ++ ex).take n = flat μ (.ints k n f) := by
  rw [List.take_append_of_le_length (by simpa [flat] using h)]
  apply List.ext_getElem?
  intro j
  by_cases hj : j < n
  · rw [List.getElem?_take_of_lt hj, flat_ints_get μ k n1 f j (by omega), flat_ints_get μ k n f j hj]
  · rw [List.getElem?_eq_none (by simp [flat]; omega), List.getElem?_eq_none (by simp [flat]; omega)]
theorem flat_app (μ : Nat → Nat) (k : IntKind) (a b off : Nat) (f g : Nat → Int) : flat μ (.ints k a f) ++ flat μ (.ints k b fun j => g (j + off)) = flat μ (.ints k (a + b) (appF f a off g)) := by
  apply List.ext_getElem?
  intro j
  have l1 : (flat μ (.ints k a f)).length = a := by simp [flat]
  by_cases hj : j < a
  · rw [List.getElem?_append_left (by omega), flat_ints_get μ k a f j hj, flat_ints_get μ k (a + b) _ j (by omega)]
    simp [appF, hj]
  · rw [List.getElem?_append_right (by omega), l1]
    by_cases hj2 : j < a + b
    · rw [flat_ints_get μ k b _ (j - a) (by omega), flat_ints_get μ k (a + b) _ j hj2]
      simp [appF, hj]
    · rw [List.getElem?_eq_none (by simp [flat]; omega), List.getElem?_eq_none (by simp [flat]; omega)]
theorem flat_one_ints (μ : Nat → Nat) (k : IntKind) (n : Nat) (f : Nat → Int) : ∀ u ∈ flat μ (.ints k n f), u.oneCell' = true := flat_one μ _ rfl

/-- a row lies in a block; all other blocks are as they were -/
structure LiesAt (w w' : World) (addr c : Nat) (cells : List Value) : Prop where
  new : ∃ t ex, w'.heap[addr]? = some (.cells (cells ++ ex).toArray t (0, 0)) ∧ cells.length + ex.length = c
  old : ∀ i, i < w.heap.size → i ≠ addr → w'.heap[i]? = w.heap[i]?
  size : w.heap.size ≤ w'.heap.size
  rest : w'.os = w.os ∧ w'.output = w.output ∧ w'.tape = w.tape
  fro : ∀ a, w'.frozen? a = w.frozen? a

theorem forget_length : ∀ (m : Mem) (b : Nat), (forget m b).length = m.length
  | [], b => by cases b <;> rfl
  | x :: r, 0 => rfl
  | x :: r, k + 1 => by simp [forget, forget_length r k]
theorem forget_same : ∀ (m : Mem) (b : Nat), blockOf (forget m b) b = none
  | [], b => by cases b <;> rfl
  | x :: r, 0 => rfl
  | x :: r, k + 1 => forget_same r k
theorem forget_other : ∀ (m : Mem) (b j : Nat), j ≠ b → blockOf (forget m b) j = blockOf m j
  | [], b, j, h => by cases b <;> rfl
  | x :: r, 0, j, h => by
    cases j with
    | zero => exact absurd rfl h
    | succ j => rfl
  | x :: r, k + 1, 0, h => rfl
  | x :: r, k + 1, j + 1, h => forget_other r k j (by omega)
theorem forget_known {m : Mem} {b j : Nat} {v : SV} {c : Nat} (h : blockOf (forget m b) j = some (v, c)) : j ≠ b ∧ blockOf m j = some (v, c) := by
  by_cases hj : j = b
  · subst hj; rw [forget_same] at h; cases h
  · rw [forget_other m b j hj] at h; exact ⟨hj, h⟩
theorem RunS.forget {μ0 : Nat → Nat} {m0 : Mem} {w0 : World} {μ : Nat → Nat} {m : Mem} {w : World} (h : RunS μ0 m0 w0 μ m w) (b : Nat) : RunS μ0 m0 w0 μ (Go.Proofs.Ytojfjcbblkiajaa.forget m b) w := by
  have lift : ∀ i, (blockOf (Go.Proofs.Ytojfjcbblkiajaa.forget m b) i).isSome = true → (blockOf m i).isSome = true := fun i hi => by
    cases hb : blockOf (Go.Proofs.Ytojfjcbblkiajaa.forget m b) i with
    | none => rw [hb] at hi; cases hi
    | some p => obtain ⟨v, c⟩ := p; rw [(forget_known hb).2]; rfl
  exact ⟨⟨fun id v c hb => h.mr.blk id v c (forget_known hb).2, fun i j hi hj => h.mr.inj i j (lift i hi) (lift j hj), fun id v c hb i hi => by rw [forget_length]; exact h.mr.ids id v c (forget_known hb).2 i hi⟩,
    by rw [forget_length]; exact h.len, h.agree, fun id hid hs => h.live id hid (lift id hs), fun id hid hs => h.fresh id hid (lift id hs), h.kept⟩
theorem noRef_of (b : Nat) : ∀ m : Mem, (∀ id v c, blockOf m id = some (v, c) → b ∉ v.ids) → noRef b m = true
  | [], _ => rfl
  | some (v, c) :: r, h => by
    have h0 := h 0 v c rfl
    simp only [noRef, Bool.and_eq_true, Bool.not_eq_true']
    refine ⟨?_, noRef_of b r fun id v c hb => h (id + 1) v c hb⟩
    cases hm : memN v.ids b with
    | false => rfl
    | true => exact absurd ((memN_iff _ _).1 hm) h0
  | none :: r, h => noRef_of b r fun id v c hb => h (id + 1) v c hb
theorem putMem_end : ∀ (m : Mem) (v : SV) (c : Nat), putMem m m.length v c = m ++ [some (v, c)]
  | [], v, c => rfl
  | x :: r, v, c => by simp [putMem, putMem_end r v c]
/-- a block behind all others -/
theorem RunS.pushB {μ0 : Nat → Nat} {m0 : Mem} {w0 : World} {μ : Nat → Nat} {m : Mem} {w w' : World} (h : RunS μ0 m0 w0 μ m w) {addr c : Nat} {v : SV} (hv : v.ids = []) (hat : LiesAt w w' addr c (flat μ v)) (hfr : w0.heap.size ≤ addr)
    (hdis : ∀ j, (blockOf m j).isSome = true → μ j ≠ addr) : RunS μ0 m0 w0 (ext μ m.length addr) (m ++ [some (v, c)]) w' := by
  have hp := h.putB (b := m.length) (addr := addr) (c := c) (v := v) (w' := w') h.len (Nat.le_refl _) (noRef_of _ m fun id u d hb hi => Nat.lt_irrefl _ (h.mr.ids id u d hb _ hi)) hv hat.new hfr hat.old (fun j _ hj => hdis j hj) hat.size hat.rest hat.fro
  rwa [putMem_end] at hp
theorem SRel.pushB {N : Nat} {μ : Nat → Nat} {L addr : Nat} {s : Slots} {a : Act} (hs : SRel N μ L s a) : SRel N (ext μ L addr) (L + 1) s a :=
  hs.mono (Nat.le_succ _) fun id hid => by unfold ext; rw [if_neg (by omega)]

/-- what append does to a slice of numbers -/
structure AppData (P : Program) (T : Tab) (m : Mem) (μ : Nat → Nat) (w : World) (t es by_ id2 off2 m2 n2 : Nat) (k : IntKind) (g : Nat → Int) : Prop where
  in_ : ∀ ty b n cap n1 f cap2, blockOf m b = some (.ints k n1 f, cap * es) → n * es ≤ n1 → n ≤ cap → (n + m2) * by_ ≤ 140737488355328 → n + m2 ≤ 4611686018427387904 →
    ∃ addr cap' w', n + m2 ≤ cap' ∧ (addr = μ b ∨ addr = w.heap.size) ∧ LiesAt w w' addr (cap' * es) (flat μ (.ints k ((n + m2) * es) (appF f (n * es) off2 g))) ∧
      (Builtin.append_ #[t, t] ty #[.slice (some ⟨μ b, 0, none⟩) n cap, .slice (some ⟨μ id2, off2, none⟩) m2 cap2]).run P w = .ok (.slice (some ⟨addr, 0, none⟩) (n + m2) cap') w'
  emp : ∀ ty a cap2, 0 < m2 → m2 * by_ ≤ 140737488355328 → m2 ≤ 4611686018427387904 → (∀ x, a = some x → ∃ b o, x = ⟨b, o, none⟩) →
    ∃ cap' w', m2 ≤ cap' ∧ LiesAt w w' w.heap.size (cap' * es) (flat μ (.ints k (m2 * es) fun j => g (j + off2))) ∧
      (Builtin.append_ #[t, t] ty #[.slice a 0 0, .slice (some ⟨μ id2, off2, none⟩) m2 cap2]).run P w = .ok (.slice (some ⟨w.heap.size, 0, none⟩) m2 cap') w'

theorem app_data {T : Tab} (hT : TabOK P T) {m : Mem} {μ : Nat → Nat} {w : World} (hm : MR μ m w) {t es by_ id2 off2 m2 n2 c2 : Nat} {k : IntKind} {g : Nat → Int} (hti : T.ti t = .slice es) (happ : T.app t = some by_)
    (hb2 : blockOf m id2 = some (.ints k n2 g, c2)) (hfit2 : off2 + m2 * es ≤ n2) : AppData P T m μ w t es by_ id2 off2 m2 n2 k g := by
  obtain ⟨e, d1, d2, _⟩ := hT.at hti
  obtain ⟨e', z, z1, z2, z3, z4⟩ := hT.app t by_ happ
  obtain rfl : e = e' := by rw [d1] at z1; exact TypeDesc.slice.inj (Option.some.inj z1)
  obtain ⟨i, hi, hisz, hiby, hizr⟩ : ∃ i, P.info? e = some i ∧ i.size = es ∧ i.bytes = by_ ∧ i.zero = some (toVal (fun _ => 0) z) := by
    cases hq : P.info? e with
    | none => rw [hq] at d2; cases d2
    | some i => rw [hq] at d2 z2 z3; exact ⟨i, rfl, Option.some.inj d2, Option.some.inj z2, Option.some.inj z3⟩
  have hzc : (toVal (fun _ => 0) z).cells.size = es := by
    rw [hi] at z4
    have h4 : i.size = (toVal (fun _ => 0) z).cells.size := Option.some.inj z4
    omega
  subst hisz
  subst hiby
  -- what is laid behind
  have hnl : (flat μ (.ints k (m2 * i.size) fun j => g (j + off2))).length = m2 * i.size := by simp [flat]
  have hnews : ∀ j u, (flat μ (.ints k (m2 * i.size) fun j => g (j + off2)))[j]? = some u → w.cell? ((⟨μ id2, off2, none⟩ : Addr).add j) = some u := fun j u hu => by
    have hj : j < m2 * i.size := by
      rcases Nat.lt_or_ge j (m2 * i.size) with h' | h'
      · exact h'
      · rw [List.getElem?_eq_none (by rw [hnl]; exact h')] at hu; cases hu
    rw [flat_ints_get μ k _ _ j hj] at hu
    cases hu
    rw [addr_add]
    have := cell_part (path := []) (sub := .ints k n2 g) (o := 0) hm hb2 rfl (j := off2 + j) (x := .int k (g (off2 + j))) (flat_ints_get μ k n2 g _ (by omega))
    rw [Nat.zero_add] at this
    rw [this, Nat.add_comm off2 j]
  have hone := flat_one_ints μ k (m2 * i.size) fun j => g (j + off2)
  have grown : ∀ (need old : Nat) (cells : List Value), (∃ n' f', n' = need * i.size ∧ cells = flat μ (.ints k n' f')) → ∃ ex : List Value, cells.toArray ++ Builtin.zeroCells (toVal (fun _ => 0) z).cells (grownCap w need old e - need) = (cells ++ ex).toArray ∧ cells.length + ex.length = grownCap w need old e * i.size := by
    rintro need old cells ⟨n', f', rfl, rfl⟩
    refine ⟨(Builtin.zeroCells (toVal (fun _ => 0) z).cells (grownCap w need old e - need)).toList, by simp, ?_⟩
    have hge := grownCap_ge w need old e
    have hl : (flat μ (.ints k (need * i.size) f')).length = need * i.size := by simp [flat]
    rw [hl, Array.length_toList, size_zeroCells, hzc, ← Nat.add_mul]
    congr 1
    omega
  have drewSz : w.drew.heap.size = w.heap.size := rfl
  have newWorld : ∀ (cs : Array Value) (ty : TypeId), (w.drew.alloc (.cells cs ty)).heap[w.heap.size]? = some (.cells cs ty (0, 0)) ∧ (∀ j, j < w.heap.size → j ≠ w.heap.size → (w.drew.alloc (.cells cs ty)).heap[j]? = w.heap[j]?) ∧
      w.heap.size ≤ (w.drew.alloc (.cells cs ty)).heap.size ∧ ((w.drew.alloc (.cells cs ty)).os = w.os ∧ (w.drew.alloc (.cells cs ty)).output = w.output ∧ (w.drew.alloc (.cells cs ty)).tape = w.tape) ∧ ∀ a, (w.drew.alloc (.cells cs ty)).frozen? a = w.frozen? a := fun cs ty =>
    ⟨push_new w.drew _, fun j hj _ => push_old w.drew _ hj, by rw [push_size w.drew]; exact Nat.le_succ _, ⟨rfl, rfl, rfl⟩, fun a => push_frozen w.drew cs ty a⟩
  refine ⟨?_, ?_⟩
  · intro ty b n cap n1 f cap2 hb hn1 hnc hby hmx
    obtain ⟨tt, ex, hh, hc⟩ := hm.blk b _ _ hb
    have hfl1 : (flat μ (.ints k n1 f)).length = n1 := by simp [flat]
    rw [hfl1] at hc
    by_cases hroom : n + m2 ≤ cap
    · have hmul : (n + m2) * i.size ≤ cap * i.size := Nat.mul_le_mul_right _ hroom
      rw [Nat.add_mul] at hmul
      have hrun := run_append_in (P := P) w t ty e tt i d1 hi (μ b) n cap _ hh ⟨μ id2, off2, none⟩ m2 cap2 _ hnl hnews hone hroom (by rw [hnl]; simp [hfl1]; omega)
      have hcells : ((flat μ (.ints k n1 f) ++ ex).toArray.toList.take (n * i.size) ++ flat μ (.ints k (m2 * i.size) fun j => g (j + off2)) ++ (flat μ (.ints k n1 f) ++ ex).toArray.toList.drop (n * i.size + (flat μ (.ints k (m2 * i.size) fun j => g (j + off2))).length)).toArray =
          (flat μ (.ints k ((n + m2) * i.size) (appF f (n * i.size) off2 g)) ++ (flat μ (.ints k n1 f) ++ ex).drop ((n + m2) * i.size)).toArray := by
        rw [hnl, ← Nat.add_mul]
        simp only [List.toList_toArray]
        rw [flat_take μ k n1 (n * i.size) f ex hn1, flat_app, ← Nat.add_mul]
      rw [hcells] at hrun
      refine ⟨μ b, cap, _, hroom, .inl rfl, ⟨⟨tt, _, setRow_heap w (μ b) _ _ tt (0, 0) hh, ?_⟩, fun j _ hj => setRow_other w (μ b) j _ hj, by simp [World.setRow], ⟨rfl, rfl, rfl⟩, setRow_frozen hh⟩, hrun⟩
      have : (flat μ (.ints k ((n + m2) * i.size) (appF f (n * i.size) off2 g))).length = (n + m2) * i.size := by simp [flat]
      rw [this, List.length_drop, List.length_append, hfl1, hc]
      have := Nat.mul_le_mul_right i.size hroom
      omega
    · have holds : ∀ j u, (flat μ (.ints k (n * i.size) f))[j]? = some u → w.cell? ((⟨μ b, 0, none⟩ : Addr).add j) = some u := fun j u hu => by
        have hj : j < n * i.size := by
          rcases Nat.lt_or_ge j (n * i.size) with h' | h'
          · exact h'
          · rw [List.getElem?_eq_none (by simpa [flat] using h')] at hu; cases hu
        rw [flat_ints_get μ k _ _ j hj] at hu
        cases hu
        rw [addr_add]
        exact cell_part (path := []) (sub := .ints k n1 f) (o := 0) hm hb rfl (j := j) (x := .int k (f j)) (flat_ints_get μ k n1 f _ (by omega))
      have hrun := run_append_grow (P := P) w t ty e i _ d1 hi hizr ⟨μ b, 0, none⟩ n cap _ (by simp [flat]) holds ⟨μ id2, off2, none⟩ m2 cap2 _ hnl hnews (by omega) (by omega) (growslice_fits (by omega) hby)
      obtain ⟨ex', hex, hexl⟩ := grown (n + m2) cap (flat μ (.ints k (n * i.size) f) ++ flat μ (.ints k (m2 * i.size) fun j => g (j + off2))) ⟨_, _, (Nat.add_mul n m2 i.size).symm, flat_app μ k (n * i.size) (m2 * i.size) off2 f g⟩
      have hcs : ((flat μ (.ints k (n * i.size) f)).toArray ++ (flat μ (.ints k (m2 * i.size) fun j => g (j + off2))).toArray ++ Builtin.zeroCells (toVal (fun _ => 0) z).cells (grownCap w (n + m2) cap e - (n + m2))) =
          (flat μ (.ints k ((n + m2) * i.size) (appF f (n * i.size) off2 g)) ++ ex').toArray := by
        have : (flat μ (.ints k (n * i.size) f)).toArray ++ (flat μ (.ints k (m2 * i.size) fun j => g (j + off2))).toArray = (flat μ (.ints k (n * i.size) f) ++ flat μ (.ints k (m2 * i.size) fun j => g (j + off2))).toArray := by simp
        rw [this, hex, flat_app, ← Nat.add_mul]
      rw [flat_app, ← Nat.add_mul] at hexl
      rw [hcs] at hrun
      obtain ⟨w1, w2, w3, w4, w5⟩ := newWorld (flat μ (.ints k ((n + m2) * i.size) (appF f (n * i.size) off2 g)) ++ ex').toArray e
      exact ⟨w.heap.size, _, _, grownCap_ge w (n + m2) cap e, .inr rfl, ⟨⟨e, ex', w1, hexl⟩, w2, w3, w4, w5⟩, hrun⟩
  · intro ty a cap2 hm0 hby hmx ha
    obtain ⟨ex', hex, hexl⟩ := grown m2 0 (flat μ (.ints k (m2 * i.size) fun j => g (j + off2))) ⟨_, _, rfl, rfl⟩
    obtain ⟨w1, w2, w3, w4, w5⟩ := newWorld (flat μ (.ints k (m2 * i.size) fun j => g (j + off2)) ++ ex').toArray e
    have hlies : LiesAt w (w.drew.alloc (.cells (flat μ (.ints k (m2 * i.size) fun j => g (j + off2)) ++ ex').toArray e)) w.heap.size (grownCap w m2 0 e * i.size) (flat μ (.ints k (m2 * i.size) fun j => g (j + off2))) := ⟨⟨e, ex', w1, hexl⟩, w2, w3, w4, w5⟩
    cases a with
    | none =>
      have hrun := run_append_nil (P := P) w t ty e i _ d1 hi hizr ⟨μ id2, off2, none⟩ m2 cap2 _ hnl hnews hm0 (by omega) (by omega)
      rw [hex] at hrun
      exact ⟨_, _, grownCap_ge w m2 0 e, hlies, hrun⟩
    | some x =>
      have hrun := run_append_grow (P := P) w t ty e i _ d1 hi hizr x 0 0 [] (by simp) (fun j u hu => by cases hu) ⟨μ id2, off2, none⟩ m2 cap2 _ hnl hnews (by omega) (by omega) (growslice_fits (by omega) (by rw [Nat.zero_add]; exact hby))
      simp only [Nat.zero_add] at hrun
      rw [show (([] : List Value).toArray ++ (flat μ (.ints k (m2 * i.size) fun j => g (j + off2))).toArray ++ Builtin.zeroCells (toVal (fun _ => 0) z).cells (grownCap w m2 0 e - m2)) = (flat μ (.ints k (m2 * i.size) fun j => g (j + off2)) ++ ex').toArray by rw [← hex]; simp] at hrun
      exact ⟨_, _, grownCap_ge w m2 0 e, hlies, hrun⟩

theorem app_sound {T : Tab} (hT : TabOK P T) {μ0 : Nat → Nat} {m0 : Mem} {w0 : World} {N : Nat} {μ : Nat → Nat} {m : Mem} {s : Slots} {a : Act} {w : World} (hs : SRel N μ m.length s a) (hr : RunS μ0 m0 w0 μ m w) (hO : m0.length ≤ T.own)
    {t ty : Nat} {x y : SV} {K : SV → Slots → Mem → Prop} (h : appVC T t x y s m K) :
    ∃ v s' m' μ' w', K v s' m' ∧ SRel N μ' m'.length s' a ∧ RunS μ0 m0 w0 μ' m' w' ∧ (∀ i ∈ v.ids, i < m'.length) ∧
      (Builtin.append_ #[t, t] ty #[toVal μ x, toVal μ y]).run P w = .ok (toVal μ' v) w' := by
  unfold appVC at h
  split at h
  case h_2 => exact h.elim
  rename_i es by_ id2 off2 m2 cap2 hti happ
  split at h
  case h_2 => exact h.elim
  rename_i k n2 g c2 hb2
  obtain ⟨hfit2, h⟩ := h
  have hD := app_data (P := P) hT hr.mr hti happ hb2 hfit2
  have hy : toVal μ (.sl id2 off2 m2 cap2) = .slice (some ⟨μ id2, off2, none⟩) m2 cap2 := rfl
  rcases h with h | h | h
  · unfold appOn at h
    split at h
    · rename_i b off n cap
      split at h
      case h_2 => exact h.elim
      rename_i k' n1 f c hb
      obtain ⟨hck, ⟨hn1, rfl, hnc, hby, hmx⟩, hK⟩ := chk_iff.1 h
      simp only [Bool.and_eq_true, Bool.not_eq_true'] at hck
      obtain ⟨⟨⟨⟨g1, g2⟩, g3⟩, g4⟩, hnr⟩ := hck
      obtain rfl := beqN g1
      obtain rfl := ikEq_eq g2
      have hbo : m0.length ≤ b := Nat.le_trans hO (Nat.le_of_ble_eq_true g4)
      have hblt : b < m.length := blockOf_lt (by rw [hb]; rfl)
      obtain ⟨addr, cap', w', hge, hadr, hat, hrun⟩ := hD.in_ ty b n cap n1 f cap2 hb hn1 hnc hby hmx
      have hfr : w0.heap.size ≤ addr := by
        rcases hadr with rfl | rfl
        · exact hr.fresh b hbo (by rw [hb]; rfl)
        · exact hr.kept.size
      refine ⟨_, _, _, ext μ b addr, w', hK cap' hge, hs.dropRef (putMem_length m b _ _ (by omega)).1, ?_, ?_, ?_⟩
      · refine hr.putB hbo (by omega) hnr rfl hat.new hfr hat.old (fun j hj hjs he => ?_) hat.size hat.rest hat.fro
        rcases hadr with rfl | rfl
        · exact hj (hr.mr.inj j b hjs (by rw [hb]; rfl) he)
        · have := hr.mr.lt hjs; omega
      · intro j hj
        have : j = b := by simpa [SV.ids] using hj
        subst this
        exact (putMem_length m j _ _ (by omega)).2
      · rw [show toVal μ (.sl b 0 n cap) = .slice (some ⟨μ b, 0, none⟩) n cap from rfl, hy, hrun]
        show _ = Result.ok (Value.slice (some ⟨ext μ b addr b, 0, none⟩) (n + m2) cap') _
        rw [show ext μ b addr b = addr by unfold ext; rw [if_pos rfl]]
    · obtain ⟨⟨hm0, hby, hmx⟩, b, hck⟩ := h
      obtain ⟨hck, hK⟩ := chk_iff.1 hck
      simp only [Bool.and_eq_true] at hck
      obtain ⟨⟨g4, hfree⟩, hnr⟩ := hck
      have hbo : m0.length ≤ b := Nat.le_trans hO (Nat.le_of_ble_eq_true g4)
      obtain ⟨hble, hbn⟩ := freeAt_get m b hfree
      obtain ⟨cap', w', hge, hat, hrun⟩ := hD.emp ty none cap2 hm0 hby hmx (fun x hx => by cases hx)
      refine ⟨_, _, _, ext μ b w.heap.size, w', hK cap' hge, hs.dropRef (putMem_length m b _ _ hble).1, ?_, ?_, ?_⟩
      · exact hr.putB hbo hble hnr rfl hat.new hr.kept.size hat.old (fun j _ hjs he => by have := hr.mr.lt hjs; omega) hat.size hat.rest hat.fro
      · intro j hj
        have : j = b := by simpa [SV.ids] using hj
        subst this
        exact (putMem_length m j _ _ hble).2
      · rw [show toVal μ .nilsl = .slice none 0 0 from rfl, hy, hrun]
        show _ = Result.ok (Value.slice (some ⟨ext μ b w.heap.size b, 0, none⟩) m2 cap') _
        rw [show ext μ b w.heap.size b = w.heap.size by unfold ext; rw [if_pos rfl]]
    · exact h.elim
  · unfold appNew at h
    split at h
    · rename_i b off n cap
      split at h
      case h_2 => exact h.elim
      rename_i k' n1 f c hb
      obtain ⟨hck, ⟨hn1, rfl, hnc, hby, hmx⟩, hK⟩ := chk_iff.1 h
      simp only [Bool.and_eq_true] at hck
      obtain ⟨⟨g1, g2⟩, g4⟩ := hck
      obtain rfl := beqN g1
      obtain rfl := ikEq_eq g2
      have hbo : m0.length ≤ b := Nat.le_trans hO (Nat.le_of_ble_eq_true g4)
      obtain ⟨addr, cap', w', hge, hadr, hat, hrun⟩ := hD.in_ ty b n cap n1 f cap2 hb hn1 hnc hby hmx
      have hfr : w0.heap.size ≤ addr := by
        rcases hadr with rfl | rfl
        · exact hr.fresh b hbo (by rw [hb]; rfl)
        · exact hr.kept.size
      refine ⟨_, _, _, ext μ m.length addr, w', hK cap' hge, ?_, ?_, ?_, ?_⟩
      · rw [List.length_append, forget_length]; exact hs.pushB
      · have hp := (hr.forget b).pushB (addr := addr) (c := cap' * es) (v := .ints k ((n + m2) * es) (appF f (n * es) off2 g)) rfl hat hfr (fun j hjs he => ?_)
        · rwa [forget_length] at hp
        · cases hj : blockOf (forget m b) j with
          | none => rw [hj] at hjs; cases hjs
          | some p =>
            obtain ⟨u, d⟩ := p
            obtain ⟨h1, h2⟩ := forget_known hj
            rcases hadr with rfl | rfl
            · exact h1 (hr.mr.inj j b (by rw [h2]; rfl) (by rw [hb]; rfl) he)
            · have := hr.mr.lt (id := j) (by rw [h2]; rfl); omega
      · intro j hj
        have : j = m.length := by simpa [SV.ids] using hj
        rw [this, List.length_append, forget_length]
        exact Nat.lt_succ_self _
      · rw [show toVal μ (.sl b 0 n cap) = .slice (some ⟨μ b, 0, none⟩) n cap from rfl, hy, hrun]
        show _ = Result.ok (Value.slice (some ⟨ext μ m.length addr m.length, 0, none⟩) (n + m2) cap') _
        rw [show ext μ m.length addr m.length = addr by unfold ext; rw [if_pos rfl]]
    · exact h.elim
  · unfold appEmp at h
    obtain ⟨hck, ⟨hm0, hby, hmx⟩, hK⟩ := chk_iff.1 h
    obtain ⟨aa, hx, haa⟩ : ∃ aa, toVal μ x = .slice aa 0 0 ∧ ∀ y, aa = some y → ∃ b o, y = ⟨b, o, none⟩ := by
      split at hck
      · rename_i b o n cap
        simp only [Bool.and_eq_true] at hck
        obtain rfl := beqN hck.1
        obtain rfl := beqN hck.2
        exact ⟨some ⟨μ b, o, none⟩, rfl, fun y hy => by cases hy; exact ⟨_, _, rfl⟩⟩
      · exact ⟨none, rfl, fun y hy => by cases hy⟩
      · cases hck
    obtain ⟨cap', w', hge, hat, hrun⟩ := hD.emp ty aa cap2 hm0 hby hmx haa
    refine ⟨_, _, _, ext μ m.length w.heap.size, w', hK cap' hge, ?_, ?_, ?_, ?_⟩
    · rw [List.length_append]; exact hs.pushB
    · exact hr.pushB rfl hat hr.kept.size fun j hjs he => by have := hr.mr.lt hjs; omega
    · intro j hj
      have : j = m.length := by simpa [SV.ids] using hj
      rw [this, List.length_append]
      exact Nat.lt_succ_self _
    · rw [hx, hy, hrun]
      show _ = Result.ok (Value.slice (some ⟨ext μ m.length w.heap.size m.length, 0, none⟩) m2 cap') _
      rw [show ext μ m.length w.heap.size m.length = w.heap.size by unfold ext; rw [if_pos rfl]]

theorem run_append_made (w : World) (t u ty e : TypeId) (i : TypeInfo) (z : Value) (k kk : IntKind) (ht : P.underlying t = some (.slice e)) (hu : P.underlying u = some (.int k)) (hi : P.info? e = some i) (hz : i.zero = some z)
    (n : Nat) (h0 : 0 < n) (h63 : n ≤ 4611686018427387904) (h47 : n * i.bytes ≤ 140737488355328) (hs : 0 < i.size) :
    (Builtin.append_ #[t, u] ty #[.slice none 0 0, .int kk n]).run P w =
      .ok (.slice (some ⟨w.heap.size, 0, none⟩) n (grownCap w n 0 e)) (w.drew.alloc (.cells (Builtin.zeroCells z.cells n ++ Builtin.zeroCells z.cells (grownCap w n 0 e - n)) e)) := by
  have hn : n ≠ 0 := by omega
  have wn : IntKind.i64.wrap (n : Int) = n := by rw [IntKind.wrap_i64]; omega
  have n1 : ¬ ((n : Int) < 0) := by omega
  have hmul : (n : Int) * (i.bytes : Int) = ((n * i.bytes : Nat) : Int) := by rw [Int.natCast_mul]
  have n2 : ¬ (281474976710656 < (n : Int) * (i.bytes : Int)) := by rw [hmul]; omega
  have n3 : ¬ (9223372036854775807 < (n : Int)) := by omega
  have n4 : ¬ (281474976710656 < Builtin.nextslicecap n 0 * i.bytes) := by rw [nextslicecap_zero h0]; omega
  have n6 : i.size ≠ 0 := by omega
  simp [Builtin.append_, run_underlying ht, run_underlying hu, Go.sizeOf, typeInfo, zeroValue, hi, hz, asInt, asIntOf, wn, n1, n2, n3, n4, hn, n6, Question.forced, run_firstCells_none, newRow, grownCap]
  exact fun hh => absurd hh (Nat.mul_ne_zero hn n6)

theorem appMake_sound {T : Tab} (hT : TabOK P T) {μ0 : Nat → Nat} {m0 : Mem} {w0 : World} {N : Nat} {μ : Nat → Nat} {m : Mem} {s : Slots} {a : Act} {w : World} (hs : SRel N μ m.length s a) (hr : RunS μ0 m0 w0 μ m w)
    {t u ty : Nat} {x y : SV} {K : SV → Slots → Mem → Prop} (h : appMake T t u x y s m K) :
    ∃ v s' m' μ' w', K v s' m' ∧ SRel N μ' m'.length s' a ∧ RunS μ0 m0 w0 μ' m' w' ∧ (∀ i ∈ v.ids, i < m'.length) ∧
      (Builtin.append_ #[t, u] ty #[toVal μ x, toVal μ y]).run P w = .ok (toVal μ' v) w' := by
  unfold appMake at h
  split at h
  case h_2 => exact h.elim
  rename_i es k by_ z kk n hti htu happ hz
  split at h
  case h_2 => exact h.elim
  rename_i v hv
  obtain ⟨⟨h0, hes, hby, hmx⟩, hK⟩ := h
  obtain ⟨e, d1, d2, _⟩ := hT.at hti
  obtain ⟨d3, _⟩ := hT.at htu
  obtain ⟨e', z', z1, z2, z3, z4⟩ := hT.app t by_ happ
  obtain rfl : e = e' := by rw [d1] at z1; exact TypeDesc.slice.inj (Option.some.inj z1)
  obtain ⟨e', y1, y2⟩ := hT.elem0 _ _ hz
  obtain rfl : e = e' := by rw [d1] at y1; exact TypeDesc.slice.inj (Option.some.inj y1)
  obtain ⟨i, hi, hisz, hiby, hizr, hic⟩ : ∃ i, P.info? e = some i ∧ i.size = es ∧ i.bytes = by_ ∧ i.zero = some (toVal (fun _ => 0) z) ∧ i.size = (toVal (fun _ => 0) z).cells.size := by
    cases hq : P.info? e with
    | none => rw [hq] at d2; cases d2
    | some i =>
      rw [hq] at d2 y2 z2 z3 z4
      have hz2 : i.zero = some (toVal (fun _ => 0) z) := Option.some.inj y2
      have hz3 : i.zero = some (toVal (fun _ => 0) z') := Option.some.inj z3
      rw [hz2] at hz3
      exact ⟨i, rfl, Option.some.inj d2, Option.some.inj z2, hz2, by rw [Option.some.inj hz3]; exact Option.some.inj z4⟩
  obtain ⟨n, rfl⟩ : ∃ q : Nat, n = q := ⟨n.toNat, by omega⟩
  have hnn : ((n : Nat) : Int).toNat = n := rfl
  rw [hnn] at hv hby hK
  have hrun := run_append_made (P := P) w t u ty e i _ k kk d1 d3 hi hizr n (by omega) (by omega) (by rw [hiby]; exact hby) (by omega)
  have hzc : Builtin.zeroCells (toVal (fun _ => 0) z).cells n = (flat μ v).toArray := (zeros_sound hv μ).2
  rw [hzc] at hrun
  have hge := grownCap_ge w n 0 e
  have hvl : (flat μ v).length = n * es := by
    have := congrArg Array.size hzc
    rw [size_zeroCells, ← hic, hisz] at this
    simpa using this.symm
  have hat : LiesAt w (w.drew.alloc (.cells ((flat μ v).toArray ++ Builtin.zeroCells (toVal (fun _ => 0) z).cells (grownCap w n 0 e - n)) e)) w.heap.size (grownCap w n 0 e * es) (flat μ v) := by
    refine ⟨⟨e, (Builtin.zeroCells (toVal (fun _ => 0) z).cells (grownCap w n 0 e - n)).toList, ?_, ?_⟩, fun j hj _ => push_old w.drew _ hj, by rw [push_size w.drew]; exact Nat.le_succ _, ⟨rfl, rfl, rfl⟩, fun a => push_frozen w.drew _ e a⟩
    · have : ((flat μ v) ++ (Builtin.zeroCells (toVal (fun _ => 0) z).cells (grownCap w n 0 e - n)).toList).toArray = (flat μ v).toArray ++ Builtin.zeroCells (toVal (fun _ => 0) z).cells (grownCap w n 0 e - n) := by simp
      rw [this]
      exact push_new w.drew _
    · rw [hvl, Array.length_toList, size_zeroCells, ← hic, hisz, ← Nat.add_mul]
      congr 1
      omega
  refine ⟨_, _, _, ext μ m.length w.heap.size, w.drew.alloc (.cells ((flat μ v).toArray ++ Builtin.zeroCells (toVal (fun _ => 0) z).cells (grownCap w n 0 e - n)) e), hK _ hge, ?_, ?_, ?_, ?_⟩
  · rw [List.length_append]; exact hs.pushB
  · exact hr.pushB (zeros_sound hv μ).1 hat hr.kept.size fun j hjs he => by have := hr.mr.lt hjs; omega
  · intro j hj
    have : j = m.length := by simpa [SV.ids] using hj
    rw [this, List.length_append]
    exact Nat.lt_succ_self _
  · rw [show toVal μ (.int kk (n : Int)) = .int kk n from rfl, show toVal μ .nilsl = .slice none 0 0 from rfl, hrun]
    show _ = Result.ok (Value.slice (some ⟨ext μ m.length w.heap.size m.length, 0, none⟩) n _) _
    rw [show ext μ m.length w.heap.size m.length = w.heap.size by unfold ext; rw [if_pos rfl]]

theorem appAny_sound {T : Tab} (hT : TabOK P T) {μ0 : Nat → Nat} {m0 : Mem} {w0 : World} {N : Nat} {μ : Nat → Nat} {m : Mem} {s : Slots} {a : Act} {w : World} (hs : SRel N μ m.length s a) (hr : RunS μ0 m0 w0 μ m w) (hO : m0.length ≤ T.own)
    {t u ty : Nat} {x y : SV} {K : SV → Slots → Mem → Prop} (h : appAny T t u x y s m K) :
    ∃ v s' m' μ' w', K v s' m' ∧ SRel N μ' m'.length s' a ∧ RunS μ0 m0 w0 μ' m' w' ∧ (∀ i ∈ v.ids, i < m'.length) ∧
      (Builtin.append_ #[t, u] ty #[toVal μ x, toVal μ y]).run P w = .ok (toVal μ' v) w' := by
  unfold appAny at h
  split at h
  · rename_i hb
    obtain rfl := beqN hb
    exact app_sound hT hs hr hO h
  · exact appMake_sound hT hs hr h
end Go.Proofs.Ytojfjcbblkiajaa
