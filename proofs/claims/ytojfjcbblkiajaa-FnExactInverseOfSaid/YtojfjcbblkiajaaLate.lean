/- Regions that draw their order, whose head ends with a store into a known block: what the store does not wait for looks at no memory. -/
import Derived.Test.YtojfjcbblkiajaaOrder
set_option linter.unusedVariables false
set_option linter.unusedSimpArgs false
namespace Go.Proofs.Ytojfjcbblkiajaa
variable {P : Program}

theorem read_pure {T : Tab} {op : Op} {s : Slots} {m : Mem} (M : Mem) {K : SV → Prop} (hp : pureOp op = true) (h : readVC T op s m K) : readVC T op s M K := by
  cases op <;> first | exact h | (cases hp; done)

theorem one_read {T : Tab} {N : Nat} {o : Oper} {s : Slots} {m : Mem} {K : Slots → Mem → Prop} (hr : readOp o.op = true) (h : oneVC P T N o s m K) : readVC T o.op s m fun v => K (sset N s o.dst v) m := by
  unfold oneVC at h
  split at h
  · rename_i ho; rw [ho] at hr; cases hr
  · rename_i ho; rw [ho] at hr; cases hr
  · rename_i ho; rw [ho] at hr; cases hr
  · rename_i ho; rw [ho] at hr; cases hr
  · rename_i ho; rw [ho] at hr; cases hr
  · rename_i c ho
    rw [ho] at hr
    split at h
    · rename_i x hc; simp [readOp, hc] at hr
    · rename_i hc; simp [readOp, hc] at hr
    · rw [ho]; exact h
  · exact h

theorem storeVC_det {T : Tab} {t : Nat} {a x : Option SV} {m : Mem} {K : Mem → Prop} (h : storeVC T t a x m K) : ∃ m1, K m1 ∧ storeVC T t a x m fun u => u = m1 := by
  unfold storeVC at h ⊢
  split at h
  · split at h
    · rename_i hb
      split at h
      · rename_i hp
        obtain ⟨hc, h⟩ := chk_iff.1 h
        obtain ⟨u, hu⟩ := putAt_iff h
        refine ⟨_, (hu _).1 h, ?_⟩
        simp only [hb, hp]
        exact chk_iff.2 ⟨hc, (hu _).2 rfl⟩
      · exact h.elim
    · exact h.elim
  · exact h.elim

theorem lateI_spec {N : Nat} {ops : Array Oper} {n i : Nat} {o : Oper} (ho : ops[i]? = some o) (h : lateI N ops n i = true) :
    (∃ d, o.dst = some d ∧ d < N) ∧ (∀ e ∈ o.after, Region.binds .any e = true → e.on < i) ∧ o.guard = none ∧ readOp o.op = true ∧ (Region.waitsFor .any ops n i = true ∨ pureOp o.op = true) ∧ (∀ j, j < n → i ≠ j → dstOf ops j ≠ dstOf ops i) ∧
      ∀ j d, j < n → dstOf ops j = some d → d ∈ o.looksAt ops → Region.waitsFor .any ops i j = true := by
  unfold lateI at h
  rw [ho] at h
  simp only [Bool.and_eq_true, Bool.or_eq_true, List.all_eq_true, List.mem_range] at h
  obtain ⟨⟨⟨⟨⟨h1, h2⟩, h3⟩, h4⟩, h5⟩, h6⟩ := h
  refine ⟨(by cases hd : o.dst with
    | none => rw [hd] at h1; cases h1
    | some d => rw [hd] at h1; exact ⟨d, rfl, by simpa using h1⟩), backB_spec h2, by simpa using h3, h4, h5, fun j hj hne heq => ?_, fun j d hj hd hl => ?_⟩
  · have := (h6 j hj).1
    simp [hne, heq] at this
  · have := (h6 j hj).2
    rw [hd] at this
    have hc : (o.looksAt ops).contains d = true := by simpa using hl
    simpa only [hc, Bool.not_true, Bool.false_or, Bool.false_eq_true, false_or] using this

theorem lateS_spec {ops : Array Oper} {n : Nat} (h : lateS ops n = true) : ∃ o t x y, ops[n]? = some o ∧ o.op = .store t x y ∧ o.dst = none ∧ o.guard = none ∧ (∀ e ∈ o.after, Region.binds .any e = true → e.on < n) ∧
      ∀ j d, j < n → dstOf ops j = some d → d ∈ o.looksAt ops → Region.waitsFor .any ops n j = true := by
  unfold lateS at h
  cases ho : ops[n]? with
  | none => rw [ho] at h; cases h
  | some o =>
    rw [ho] at h
    simp only [Bool.and_eq_true, List.all_eq_true, List.mem_range] at h
    obtain ⟨⟨⟨⟨h1, h2⟩, h3⟩, h4⟩, h5⟩ := h
    obtain ⟨t, x, y, hop⟩ : ∃ t x y, o.op = .store t x y := by
      cases hq : o.op <;> rw [hq] at h1 <;> first | exact ⟨_, _, _, rfl⟩ | cases h1
    refine ⟨o, t, x, y, rfl, hop, by simpa using h2, by simpa using h3, backB_spec h4, fun j d hj hd hl => ?_⟩
    have := h5 j hj
    rw [hd] at this
    have hc : (o.looksAt ops).contains d = true := by simpa using hl
    simpa only [hc, Bool.not_true, Bool.false_or, Bool.false_eq_true, false_or] using this

/-- whatever is ready is taken: what is kept through each step holds in the end -/
theorem any_of {ops : Array Oper} {n g : Nat} {Q : Exit → Act → World → Prop} {I : Array Bool → Act → World → Prop} (hs : Region.sinkB .any ops n = true) (hc : Region.chainB .any ops n = true) (hn : n < ops.size)
    (hback : ∀ i o, i < n → ops[i]? = some o → ∀ e ∈ o.after, Region.binds .any e = true → e.on < i)
    (step : ∀ listed a w i, HeadInv .any ops n listed → I listed a w → i < n → i ∈ Region.ready .any ops listed → ∀ K : Act → World → Prop, (∀ a' w', I (listed.setIfInBounds i true) a' w' → K a' w') → wpOp P ops Q i K a w)
    (hend : ∀ a w, I (fullTo ops n) a w → wpAny P .any ops Q g (fullTo ops n) a w) :
    ∀ (k : Nat) (l : List Nat) (listed : Array Bool) (a : Act) (w : World), l.length = k → l.Nodup → (∀ j, j ∈ l ↔ j < n ∧ listed.getD j true = false) → HeadInv .any ops n listed → I listed a w → wpAny P .any ops Q (k + g) listed a w := by
  intro k
  induction k with
  | zero =>
    intro l listed a w hk hnd hl inv hm
    have : l = [] := List.eq_nil_of_length_eq_zero hk
    subst this
    have hf := full_of inv fun j hj => by
      cases hb : listed.getD j true with
      | true => rfl
      | false => exact absurd ((hl j).2 ⟨hj, hb⟩) (by simp)
    subst hf
    rw [Nat.zero_add]
    exact hend a w hm
  | succ k ih =>
    intro l listed a w hk hnd hl inv hm
    rw [show k + 1 + g = (k + g) + 1 by omega]
    obtain ⟨i0, hi0⟩ : ∃ i, i ∈ l := by
      cases l with
      | nil => simp at hk
      | cons x r => exact ⟨x, by simp⟩
    obtain ⟨hi0n, hi0u⟩ := (hl i0).1 hi0
    obtain ⟨q, ⟨hqn, hqu⟩, hql⟩ := least_of (p := fun j => j < n ∧ listed.getD j true = false) i0 ⟨hi0n, hi0u⟩
    have hqr : q ∈ Region.ready .any ops listed := by
      have hqs : q < ops.size := by omega
      refine mem_ready.2 ⟨hqu, ops[q], Array.getElem?_eq_getElem hqs, fun e he hb => ?_⟩
      have hlt := hback q _ hqn (Array.getElem?_eq_getElem hqs) e he hb
      have := hql e.on hlt
      have hes : e.on < listed.size := by rw [inv.size]; omega
      cases hb' : listed.getD e.on false with
      | true => rfl
      | false => exact absurd ⟨by omega, getD_in hes hb'⟩ this
    refine ⟨fun h0 => (by rw [h0] at hqr; cases hqr), fun i hi => ?_⟩
    have hin : i < n := by
      rcases Nat.lt_or_ge i n with h | h
      · exact h
      · exact absurd hi (tail_waits hs hc hn inv _ i0 rfl hi0n hi0u i h)
    have hil : i ∈ l := (hl i).2 ⟨hin, (mem_ready.1 hi).1⟩
    refine step listed a w i inv hm hin hi _ fun a' w' hm' => ih (l.erase i) _ a' w' (by rw [List.length_erase_of_mem hil]; omega) (hnd.erase i) (fun j => ?_) (inv.set hi hin) hm'
    rw [hnd.mem_erase_iff, hl j]
    constructor
    · rintro ⟨h1, h2, h3⟩
      exact ⟨h2, by rw [getD_set_ne true (fun e => h1 e.symm)]; exact h3⟩
    · rintro ⟨h1, h2⟩
      have hij : i ≠ j := by
        rintro rfl
        have : i < listed.size := by rw [inv.size]; omega
        simp [this] at h2
      rw [getD_set_ne true hij] at h2
      exact ⟨fun e => hij e.symm, h1, h2⟩

/-- what such an operation yields, where it may run -/
def YlL (P : Program) (μ : Nat → Nat) (m : Mem) (o : Oper) (a : Act) (v : Value) : Prop :=
  ∀ M : Mem, M.length = m.length → (M = m ∨ pureOp o.op = true) → ∀ w, MR μ M w → (execOp a.eval o).run P w = .ok (.value v) w

theorem late_pass {T : Tab} (hT : TabOK P T) (hE : TabEq P T) {μ : Nat → Nat} {m : Mem} {w : World} (hr : MR μ m w) {N n : Nat} {ops : Array Oper} {rest : List Oper} {K : Slots → Mem → Prop}
    (hall : ∀ i, i < n → lateI N ops n i = true) (hsel : Region.noSelect ops = true) :
    ∀ (l : List Oper) (i : Nat) (s : Slots) (a : Act), (∀ j, j < l.length → l[j]? = ops[i + j]?) → i + l.length = n → SRel N μ m.length s a → opsVC P T N ops (l ++ rest) s m K →
      ∃ A s', SRel N μ m.length s' A ∧ opsVC P T N ops rest s' m K ∧ (∀ x, (∀ j, i ≤ j → j < n → dstOf ops j ≠ some x) → A.tmps.getD x undef = a.tmps.getD x undef) ∧
        ∀ j o d, i ≤ j → j < n → ops[j]? = some o → o.dst = some d → YlL P μ m o A (A.tmps.getD d undef)
  | [], i, s, a, hl, hi, hs, h => ⟨a, s, hs, h, fun _ _ => rfl, fun j o d h1 h2 => by simp at hi; omega⟩
  | o :: r, i, s, a, hl, hi, hs, h => by
    have h0 : ops[i]? = some o := by simpa using (hl 0 (by simp)).symm
    have hin : i < n := by simp only [List.length_cons] at hi; omega
    have hl' : ∀ j, j < r.length → r[j]? = ops[i + 1 + j]? := fun j hj => by have := hl (j + 1) (by simp; omega); simpa [Nat.add_assoc, Nat.add_comm 1 j] using this
    have hi' : i + 1 + r.length = n := by simp only [List.length_cons] at hi; omega
    obtain ⟨⟨d, hd, hdN⟩, hback, hguard, hread, _, hdist, hlook⟩ := lateI_spec h0 (hall i hin)
    have hdi : dstOf ops i = some d := by simp [dstOf, h0, hd]
    simp only [List.cons_append, opsVC, guardVC, hguard] at h
    have h := one_read hread h
    obtain ⟨v, h1, h2⟩ := read_det h
    obtain ⟨v', e, hids, _⟩ := read_sound hT hE hs hr h2
    subst e
    obtain ⟨A, s', g1, g2, g3, g4⟩ := late_pass hT hE hr hall hsel r (i + 1) _ (a.put o.dst (toVal μ v')) hl' hi' (hs.put o.dst v' hids) h1
    have putne : ∀ x, d ≠ x → (a.put o.dst (toVal μ v')).tmps.getD x undef = a.tmps.getD x undef := fun x hx => by rw [hd, getD_put, if_neg (fun hh => hx hh.1)]
    refine ⟨A, s', g1, g2, fun x hx => ?_, fun j oj dj hij hj hoj hdj => ?_⟩
    · rw [g3 x (fun j hj hjn => hx j (by omega) hjn)]
      exact putne x fun e => hx i (Nat.le_refl _) hin (by rw [hdi, e])
    · by_cases hji : j = i
      · subst hji
        rw [h0] at hoj; cases hoj
        rw [hd] at hdj; cases hdj
        have hval : A.tmps.getD d undef = toVal μ v' := by
          rw [g3 d (fun k hk hkn hh => hdist k hkn (by omega) (by rw [hh, hdi])), hd, getD_put, if_pos ⟨rfl, by rw [hs.size]; exact hdN⟩]
        rw [hval]
        have hag : Agree ops o A a := fun t ht => by
          refine ⟨?_, by rw [g1.size, hs.size]⟩
          by_cases hex : ∃ k, k < n ∧ dstOf ops k = some t
          · obtain ⟨k, hk, hdk⟩ := hex
            have hwt := hlook k t hk hdk ht
            obtain ⟨o', ho', e, he, hb, hon⟩ := Region.waitsFor_spec hwt
            rw [h0] at ho'; cases ho'
            have hki : k < j := by rw [← hon]; exact hback e he hb
            cases hok : ops[k]? with
            | none => simp [dstOf, hok] at hdk
            | some ok =>
              have hdk' := (lateI_spec hok (hall k hk)).2.2.2.2.2.1
              rw [g3 t (fun q hq hqn hh => hdk' q hqn (by omega) (by rw [hh, hdk]))]
              exact putne t fun e => hdk' j hin (by omega) (by rw [hdi, hdk, e])
          · rw [g3 t (fun q hq hqn hh => hex ⟨q, hqn, hh⟩)]
            exact putne t fun e => hex ⟨j, hin, by rw [hdi, e]⟩
        have hex := hag.exec (Region.noSelect_spec hsel j o · · h0)
        intro M hM hMp w' hw'
        rw [hex]
        have h2' : readVC T o.op s M fun v => v = v' := by
          rcases hMp with rfl | hp
          · exact h2
          · exact read_pure M hp h2
        obtain ⟨v'', e, _, hrun⟩ := read_sound hT hE (m := M) (by rw [hM]; exact hs) hw' h2'
        subst e
        exact hrun
      · exact g4 j oj dj (by omega) hj hoj hdj

/-- the state in the midst -/
structure LMid (μ0 : Nat → Nat) (m0 : Mem) (w0 : World) (μ : Nat → Nat) (m m1 : Mem) (ops : Array Oper) (n : Nat) (A : Act) (listed : Array Bool) (a : Act) (w : World) : Prop where
  e0 : listed.getD n false = false → RunS μ0 m0 w0 μ m w
  e1 : listed.getD n false = true → RunS μ0 m0 w0 μ m1 w
  size : a.tmps.size = A.tmps.size
  defers : a.defers = A.defers
  yes : ∀ i o d, i < n → ops[i]? = some o → o.dst = some d → listed.getD i false = true → a.tmps.getD d undef = A.tmps.getD d undef
  other : ∀ x, (∀ i, i < n → dstOf ops i ≠ some x) → a.tmps.getD x undef = A.tmps.getD x undef

theorem late_sound {T : Tab} (hT : TabOK P T) (hE : TabEq P T) {μ0 : Nat → Nat} {m0 : Mem} {w0 : World} {N n rid : Nat} {ops : Array Oper} {μ : Nat → Nat} {s : Slots} {m : Mem} {a : Act} {w : World} {K : Slots → Mem → Prop} {Q : Exit → Act → World → Prop}
    (hs : SRel N μ m.length s a) (hr : RunS μ0 m0 w0 μ m w) (hB : lateB N ops n = true) (h : opsVC P T N ops ops.toList s m K)
    (htail : ∀ s' m' a' w', SRel N μ m'.length s' a' → RunS μ0 m0 w0 μ m' w' → opsVC P T N ops (ops.toList.drop (n + 1)) s' m' K → wpList P ops Q (ops.toList.drop (n + 1)) a' w') : (Code.region rid ops true).wp P Q a w := by
  unfold lateB at hB
  simp only [Bool.and_eq_true, decide_eq_true_eq, List.all_eq_true, List.mem_range] at hB
  obtain ⟨⟨⟨⟨⟨⟨hsel, hn⟩, hsk⟩, hch⟩, hsq⟩, hsto⟩, hall⟩ := hB
  obtain ⟨o, t, x, y, ho, hop, hdn, hg, hbk, hlk⟩ := lateS_spec hsto
  have hsplit : ops.toList = ops.toList.take n ++ (o :: ops.toList.drop (n + 1)) := by
    have h1 : ops.toList[n]? = some o := by simpa using ho
    have h2 := List.getElem?_eq_some_iff.1 h1
    obtain ⟨h2, h3⟩ := h2
    rw [← h3, List.getElem_cons_drop, List.take_append_drop]
  have hlen : (ops.toList.take n).length = n := by simp; omega
  have hget : ∀ j, j < (ops.toList.take n).length → (ops.toList.take n)[j]? = ops[0 + j]? := fun j hj => by
    rw [hlen] at hj
    rw [Nat.zero_add, List.getElem?_take_of_lt hj]
    simp
  rw [hsplit] at h
  obtain ⟨A, s', hsA, h, hother, hold⟩ := late_pass hT hE hr.mr hall hsel (ops.toList.take n) 0 s a hget (by omega) hs h
  simp only [opsVC, guardVC, hg, oneVC, hop, hdn, sset] at h
  obtain ⟨m1, hk, hst⟩ := storeVC_det h
  obtain ⟨m2, w2, e2, _, hl2, _⟩ := store_sound hT hsA hr hop hst
  subst e2
  have hl1 := hl2
  have hr1 := hr.drew
  refine wp_region_any hT.mixed ?_
  have inv0 : HeadInv .any ops (n + 1) (Array.replicate ops.size false) :=
    ⟨by simp, fun j oj _ hl => (by rw [getD_replicate_false] at hl; cases hl), fun t _ ht => getD_in (by simpa using ht) (getD_replicate_false _ _)⟩
  have key := any_of (P := P) (ops := ops) (n := n + 1) (g := ops.size - (n + 1)) (Q := Q) (I := LMid μ0 m0 w0 μ m m2 ops n A) hsk hch hn
    (fun i oi hi hoi => by
      by_cases hin : i = n
      · subst hin; rw [ho] at hoi; cases hoi; exact hbk
      · exact (lateI_spec hoi (hall i (by omega))).2.1)
    (fun listed a w i inv hm hi hrd K hK => by
      obtain ⟨hun, oi, hoi, hdeps⟩ := mem_ready.1 hrd
      have his : i < listed.size := by rw [inv.size]; exact (Array.getElem?_eq_some_iff.1 hoi).1
      have hunf : listed.getD i false = false := getD_both hun
      have waited : ∀ j, Region.waitsFor .any ops i j = true → listed.getD j false = true := fun j hwt => by
        obtain ⟨o', ho', e, he, hb, hon⟩ := Region.waitsFor_spec hwt
        rw [hoi] at ho'; cases ho'
        have hl := hdeps e he hb
        rw [hon] at hl
        exact hl
      have agree : (∀ j d, j < n → dstOf ops j = some d → d ∈ oi.looksAt ops → Region.waitsFor .any ops i j = true) → Agree ops oi a A := fun hlook t ht => by
        refine ⟨?_, hm.size⟩
        by_cases hex : ∃ j, j < n ∧ dstOf ops j = some t
        · obtain ⟨j, hj, hdj⟩ := hex
          have hwt := hlook j t hj hdj ht
          cases hoj : ops[j]? with
          | none => simp [dstOf, hoj] at hdj
          | some oj => exact hm.yes j oj t hj hoj (by simpa [dstOf, hoj] using hdj) (waited j hwt)
        · exact hm.other t fun j hj hh => hex ⟨j, hj, hh⟩
      unfold wpOp
      rw [hoi]
      dsimp only
      by_cases hin : i = n
      · subst hin
        rw [ho] at hoi; cases hoi
        have hag := agree hlk
        have hex := hag.exec (Region.noSelect_spec hsel i o · · ho)
        have hw : Region.wanted o (yielded ops a.tmps) = true := by simp [Region.wanted, hg]
        rw [if_pos hw]
        refine .inl ?_
        unfold Oper.wp
        obtain ⟨m3, w3, e3, hr3, _, hrun⟩ := store_sound hT hsA (hm.e0 hunf) hop hst
        subst e3
        rw [hex, hrun]
        refine hK _ _ ⟨fun hh => ?_, fun _ => hr3, by rw [hdn]; exact hm.size, by rw [hdn]; exact hm.defers, fun j oj d hj hoj hdj hl => ?_, fun z hz => by rw [hdn]; exact hm.other z hz⟩
        · simp [his] at hh
        · rw [hdn]
          rw [getD_set_ne false (by omega)] at hl
          exact hm.yes j oj d hj hoj hdj hl
      · have hi' : i < n := by omega
        obtain ⟨⟨d, hd, hdN⟩, _, hguard, hread, hpw, hdist, hlook⟩ := lateI_spec hoi (hall i hi')
        have hag := agree hlook
        have hex := hag.exec (Region.noSelect_spec hsel i oi · · hoi)
        have hw : Region.wanted oi (yielded ops a.tmps) = true := by simp [Region.wanted, hguard]
        rw [if_pos hw]
        refine .inl ?_
        unfold Oper.wp
        have hY := hold i oi d (Nat.zero_le _) hi' hoi hd
        have hrun : (execOp A.eval oi).run P w = .ok (.value (A.tmps.getD d undef)) w := by
          cases hln : listed.getD n false with
          | false => exact hY m rfl (.inl rfl) w (hm.e0 hln).mr
          | true =>
            refine hY m2 hl1 (.inr ?_) w (hm.e1 hln).mr
            rcases hpw with hwt | hp
            · exfalso
              obtain ⟨o', ho', e, he, hb, hon⟩ := Region.waitsFor_spec hwt
              have := inv.closed n o' ho' hln e he hb
              rw [hon, hunf] at this; cases this
            · exact hp
        rw [hex, hrun]
        have hdi : dstOf ops i = some d := by simp [dstOf, hoi, hd]
        have val : ∀ z, (a.put (some d) (A.tmps.getD d undef)).tmps.getD z undef = if z = d then A.tmps.getD d undef else a.tmps.getD z undef := fun z => by
          rw [getD_put]
          by_cases hz : z = d
          · subst hz
            by_cases hlt : z < a.tmps.size
            · simp [hlt]
            · have : ¬ z < A.tmps.size := by rw [← hm.size]; exact hlt
              simp [hlt, this]
          · rw [if_neg (fun hh => hz hh.1.symm), if_neg hz]
        show K (a.put oi.dst (A.tmps.getD d undef)) w
        rw [hd]
        refine hK _ _ ⟨fun hh => hm.e0 (by rw [getD_set_ne false hin] at hh; exact hh), fun hh => hm.e1 (by rw [getD_set_ne false hin] at hh; exact hh), by simp [Act.put, hm.size], by simp [Act.put, hm.defers], fun j oj dj hj hoj hdj hl => ?_, fun z hz => ?_⟩
        · rw [val]
          by_cases hjd : dj = d
          · rw [if_pos hjd, hjd]
          · rw [if_neg hjd]
            rcases getD_set_cases hl with rfl | hl
            · rw [hoi] at hoj; cases hoj; rw [hd] at hdj; cases hdj; exact absurd rfl hjd
            · exact hm.yes j oj dj hj hoj hdj hl
        · rw [val, if_neg (fun hh => hz i hi' (by rw [hdi, hh]))]
          exact hm.other z hz)
    (fun a' w' hm => by
      have hyes : ∀ i, i < n + 1 → (fullTo ops (n + 1)).getD i false = true := fun i hi => by
        have : i < ops.size := by omega
        simp [fullTo, this, hi]
      have hrun := hm.e1 (hyes n (by omega))
      have hsr : SRel N μ m2.length s' a' := by
        refine ⟨by rw [hm.size, hsA.size], by rw [hm.defers, hsA.defers], fun t v hv => ?_⟩
        obtain ⟨h1, h2⟩ := hsA.val t v hv
        refine ⟨?_, by rw [hl1]; exact h2⟩
        rw [← h1]
        by_cases hex : ∃ j, j < n ∧ dstOf ops j = some t
        · obtain ⟨j, hj, hdj⟩ := hex
          cases hoj : ops[j]? with
          | none => simp [dstOf, hoj] at hdj
          | some oj => exact hm.yes j oj t hj hoj (by simpa [dstOf, hoj] using hdj) (hyes j (by omega))
        · exact hm.other t fun j hj hh => hex ⟨j, hj, hh⟩
      have := wpAny_of_seq (md := .any) (Q' := Q) (ops.toList.drop (n + 1)) (n + 1) (fullTo ops (n + 1)) a' w' (fun j => by simp [List.getElem?_drop]) (by simpa [fullTo] using hsq) (htail s' m2 a' w' hsr hrun hk)
      simpa using this)
    (n + 1) (List.range (n + 1)) (Array.replicate ops.size false) a { w with drawn := w.drawn + 1 } (by simp) List.nodup_range (fun j => ?_) inv0 ?_
  · rw [show n + 1 + (ops.size - (n + 1)) = ops.size by omega] at key
    exact key
  · rw [List.mem_range]
    constructor
    · intro hj
      have : j < ops.size := by omega
      exact ⟨hj, by simp [this]⟩
    · exact fun hh => hh.1
  · refine ⟨fun _ => hr1, fun hh => ?_, by rw [hs.size, hsA.size], by rw [hs.defers, hsA.defers], fun i oi d _ _ _ hl => ?_, fun z hz => (hother z fun j _ hj => hz j hj).symm⟩
    · rw [getD_replicate_false] at hh; cases hh
    · rw [getD_replicate_false] at hl; cases hl
end Go.Proofs.Ytojfjcbblkiajaa
