/- The head of a region that draws its order, taken in the text's order; what it makes is taken up afterwards; then the tail. -/
import Derived.Test.YtojfjcbblkiajaaDraw
set_option linter.unusedVariables false
set_option linter.unusedSimpArgs false
namespace Go.Proofs.Ytojfjcbblkiajaa
variable {P : Program}

/-! ### what a condition speaks of is one value -/
theorem getAt_det {ag : Option Nat} {sub : SV} {off : Nat} {K : SV → Prop} (h : getAt ag sub off K) : ∃ v, K v ∧ getAt ag sub off fun u => u = v := by
  cases sub <;> cases ag <;> simp only [getAt] at h ⊢ <;>
    first
    | exact h.elim
    | exact ⟨_, h.2.2, h.1, h.2.1, rfl⟩
    | exact ⟨_, h.2, h.1, rfl⟩
    | (obtain ⟨hb, h⟩ := chk_iff.1 h; exact ⟨_, h, chk_iff.2 ⟨hb, rfl⟩⟩)

theorem fillA_det {k : IntKind} {n es : Nat} : ∀ (l : List (Nat × SV)) {f : Nat → Int} {K : (Nat → Int) → Prop}, fillA k n es f l K → ∃ g, K g ∧ fillA k n es f l fun u => u = g
  | [], f, K, h => ⟨f, h, rfl⟩
  | (i, v) :: r, f, K, h => by
    cases v with
    | int k' y => simp only [fillA] at h ⊢; obtain ⟨hb, h⟩ := chk_iff.1 h; obtain ⟨g, h1, h2⟩ := fillA_det r h; exact ⟨g, h1, chk_iff.2 ⟨hb, h2⟩⟩
    | ints k' m g => simp only [fillA] at h ⊢; obtain ⟨hb, h⟩ := chk_iff.1 h; obtain ⟨g, h1, h2⟩ := fillA_det r h; exact ⟨g, h1, chk_iff.2 ⟨hb, h2⟩⟩
    | _ => exact h.elim

theorem fillA_mono {k : IntKind} {n es : Nat} : ∀ (l : List (Nat × SV)) {f : Nat → Int} {K K' : (Nat → Int) → Prop}, (∀ g, K g → K' g) → fillA k n es f l K → fillA k n es f l K'
  | [], f, K, K', hk, h => hk _ h
  | (i, v) :: r, f, K, K', hk, h => by
    cases v with
    | int k' y => simp only [fillA] at h ⊢; obtain ⟨hb, h⟩ := chk_iff.1 h; exact chk_iff.2 ⟨hb, fillA_mono r hk h⟩
    | ints k' m g => simp only [fillA] at h ⊢; obtain ⟨hb, h⟩ := chk_iff.1 h; exact chk_iff.2 ⟨hb, fillA_mono r hk h⟩
    | _ => exact h.elim

theorem fillP_det : ∀ (l : List (Nat × SV)) (z : SV) {K : SV → Prop}, fillP z l K → ∃ g, K g ∧ fillP z l fun u => u = g
  | [], z, K, h => ⟨z, h, rfl⟩
  | (i, v) :: r, z, K, h => by
    unfold fillP at h ⊢
    split at h
    · rename_i h1
      obtain ⟨hb, h⟩ := chk_iff.1 h
      obtain ⟨g, h2, h3⟩ := fillP_det r _ h
      exact ⟨g, h2, chk_iff.2 ⟨hb, h3⟩⟩
    · exact h.elim

theorem arith_det {op : BinOp} {k : IntKind} {a b : Int} {K : SV → Prop} (h : arith op k a b K) : ∃ v, K v ∧ arith op k a b fun u => u = v := by
  cases op <;> simp only [arith] at h ⊢ <;>
    first
    | exact h.elim
    | exact ⟨_, h, rfl⟩
    | exact ⟨_, h.2, h.1, rfl⟩

theorem eqVC_det {T : Tab} {t : Nat} {x y : SV} {K : Bool → Prop} (h : eqVC T t x y K) : ∃ b, K b ∧ eqVC T t x y fun u => u = b := by
  unfold eqVC at h ⊢
  split at h
  · split at h
    · rename_i hh
      simp only [hh]
      obtain ⟨hb, h⟩ := chk_iff.1 h
      exact ⟨_, h, chk_iff.2 ⟨hb, rfl⟩⟩
    · exact h.elim
  · split at h
    · rename_i hh
      simp only [hh]
      obtain ⟨hb, h⟩ := chk_iff.1 h
      exact ⟨_, h, chk_iff.2 ⟨hb, rfl⟩⟩
    · exact h.elim
  · split at h
    · rename_i hh
      simp only [hh]
      obtain ⟨hb, h⟩ := chk_iff.1 h
      exact ⟨_, h, chk_iff.2 ⟨hb, rfl⟩⟩
    · exact h.elim
  · split at h
    · rename_i hh
      simp only [hh]
      obtain ⟨hb, h⟩ := chk_iff.1 h
      exact ⟨_, h, chk_iff.2 ⟨hb, rfl⟩⟩
    · exact h.elim
  · split at h
    · rename_i hh
      simp only [hh]
      obtain ⟨hb, h⟩ := chk_iff.1 h
      exact ⟨_, h, chk_iff.2 ⟨hb, rfl⟩⟩
    · exact h.elim
  · exact h.elim

theorem eqVC_mono {T : Tab} {t : Nat} {x y : SV} {K K' : Bool → Prop} (hk : ∀ b, K b → K' b) (h : eqVC T t x y K) : eqVC T t x y K' := by
  unfold eqVC at h ⊢
  split at h
  · split at h
    · rename_i hh
      obtain ⟨hb, h⟩ := chk_iff.1 h
      exact chk_iff.2 ⟨hb, hk _ h⟩
    · exact h.elim
  · split at h
    · rename_i hh
      obtain ⟨hb, h⟩ := chk_iff.1 h
      exact chk_iff.2 ⟨hb, hk _ h⟩
    · exact h.elim
  · split at h
    · rename_i hh
      obtain ⟨hb, h⟩ := chk_iff.1 h
      exact chk_iff.2 ⟨hb, hk _ h⟩
    · exact h.elim
  · split at h
    · rename_i hh
      obtain ⟨hb, h⟩ := chk_iff.1 h
      exact chk_iff.2 ⟨hb, hk _ h⟩
    · exact h.elim
  · split at h
    · rename_i hh
      obtain ⟨hb, h⟩ := chk_iff.1 h
      exact chk_iff.2 ⟨hb, hk _ h⟩
    · exact h.elim
  · exact h.elim

theorem binVC_det {T : Tab} {op : BinOp} {t : Nat} {x y : SV} {K : SV → Prop} (h : binVC T op t x y K) : ∃ v, K v ∧ binVC T op t x y fun u => u = v := by
  have other : eqnVC T op t x y K → ∃ v, K v ∧ eqnVC T op t x y fun u => u = v := by
    intro h
    cases op <;> simp only [eqnVC] at h ⊢ <;> first | exact h.elim | (obtain ⟨b, h1, h2⟩ := eqVC_det (K := fun b => K (.bool b)) h; refine ⟨_, h1, ?_⟩; clear h1 h; exact eqVC_mono (fun b' e => by rw [e]) h2) | (obtain ⟨b, h1, h2⟩ := eqVC_det (K := fun b => K (.bool !b)) h; refine ⟨_, h1, ?_⟩; clear h1 h; exact eqVC_mono (fun b' e => by rw [e]) h2)
  cases x with
  | int k a =>
    cases y with
    | int k' b =>
      simp only [binVC] at h ⊢
      obtain ⟨hb, h⟩ := chk_iff.1 h
      obtain ⟨v, h1, h2⟩ := arith_det h
      exact ⟨v, h1, chk_iff.2 ⟨hb, h2⟩⟩
    | _ => exact other h
  | _ => exact other h

theorem cut_det {es : Nat} {lo hi : Option Int} {id off len cap : Nat} {K : SV → Prop} (h : cutVC es lo hi id off len cap K) : ∃ v, K v ∧ cutVC es lo hi id off len cap fun u => u = v := by
  unfold cutVC at h
  split at h
  · exact ⟨_, h, rfl⟩
  · exact ⟨_, h.2, h.1, rfl⟩
  · exact ⟨_, h.2, h.1, rfl⟩
  · exact ⟨_, h.2, h.1, rfl⟩
theorem read_det {T : Tab} {op : Op} {s : Slots} {m : Mem} {K : SV → Prop} (h : readVC T op s m K) : ∃ v, K v ∧ readVC T op s m fun u => u = v := by
  unfold readVC at h
  split at h
  -- move, assign
  · split at h
    · rename_i hv; exact ⟨_, h, by simp only [readVC, hv]⟩
    · exact h.elim
  · split at h
    · rename_i hv; exact ⟨_, h, by simp only [readVC, hv]⟩
    · exact h.elim
  -- pick
  · split at h
    · rename_i h1 h2; exact ⟨_, h, by simp only [readVC, h1, h2]⟩
    · rename_i h1 h2; exact ⟨_, h, by simp only [readVC, h1, h2]⟩
    · exact h.elim
  -- load
  · split at h
    · rename_i hx
      split at h
      · rename_i hb
        split at h
        · rename_i hp
          obtain ⟨hb', h⟩ := chk_iff.1 h
          obtain ⟨v, h1, h2⟩ := getAt_det h
          refine ⟨v, h1, ?_⟩
          simp only [readVC, hx, hb, hp]
          exact chk_iff.2 ⟨hb', h2⟩
        · exact h.elim
      · exact h.elim
    · exact h.elim
  -- nilCheck
  · split at h
    · rename_i hx; exact ⟨_, h, by simp only [readVC, hx]⟩
    · exact h.elim
  -- binOp
  · split at h
    · rename_i hx hy
      obtain ⟨v, h1, h2⟩ := binVC_det h
      exact ⟨v, h1, by simp only [readVC, hx, hy]; exact h2⟩
    · exact h.elim
  -- unOp
  · split at h
    · rename_i hx; exact ⟨_, h, by simp only [readVC, hx]⟩
    · rename_i hx; exact ⟨_, h, by simp only [readVC, hx]⟩
    · exact h.elim
  -- convert
  · split at h
    · rename_i h1 h2 h3; exact ⟨_, h, by simp only [readVC, h1, h2, h3]⟩
    · exact h.elim
  -- fieldAddr
  · split at h
    · rename_i h1 h2
      split at h
      · rename_i h3; exact ⟨_, h, by simp only [readVC, h1, h2, h3]⟩
      · exact h.elim
    · exact h.elim
  -- indexAddr
  · split at h
    · rename_i h1 h2 h3; exact ⟨_, h.2, by simp only [readVC, h1, h2, h3]; exact ⟨h.1, trivial⟩⟩
    · rename_i h1 h2 h3; exact ⟨_, h.2, by simp only [readVC, h1, h2, h3]; exact ⟨h.1, trivial⟩⟩
    · exact h.elim
  -- index
  · split at h
    · rename_i h1 h2 h3
      obtain ⟨hb, h0, h⟩ := chk_iff.1 h
      split at h
      · exact ⟨_, h, by simp only [readVC, h1, h2, h3]; exact chk_iff.2 ⟨hb, h0, trivial⟩⟩
      · obtain ⟨hb', h⟩ := chk_iff.1 h
        exact ⟨_, h, by simp only [readVC, h1, h2, h3]; exact chk_iff.2 ⟨hb, h0, chk_iff.2 ⟨hb', trivial⟩⟩⟩
    · rename_i h1 h2 h3
      obtain ⟨hb, h0, c, o, hf, hc⟩ := chk_iff.1 h
      obtain ⟨hp, hk⟩ := chk_iff.1 hc
      exact ⟨c, hk, by simp only [readVC, h1, h2, h3]; exact chk_iff.2 ⟨hb, h0, c, o, hf, chk_iff.2 ⟨hp, rfl⟩⟩⟩
    · exact h.elim
  -- extract
  · split at h
    · rename_i h1
      split at h
      · rename_i h2; exact ⟨_, h, by simp only [readVC, h1, h2]⟩
      · exact h.elim
    · exact h.elim
  -- slice
  · split at h
    · rename_i h1 h2; exact ⟨_, h, by simp only [readVC, h1, h2]⟩
    · rename_i h1 h2; exact ⟨_, h, by simp only [readVC, h1, h2]⟩
    · exact h.elim
  -- slice with bounds
  · split at h
    · rename_i h1 h2 h3 h4
      obtain ⟨v, hk, hd⟩ := cut_det h
      exact ⟨v, hk, by simp only [readVC, h1, h2, h3, h4]; exact hd⟩
    · rename_i h1 h2 h3 h4
      obtain ⟨v, hk, hd⟩ := cut_det h
      exact ⟨v, hk, by simp only [readVC, h1, h2, h3, h4]; exact hd⟩
    · rename_i h1 h2 h3 h4
      exact ⟨_, h.2, by simp only [readVC, h1, h2, h3, h4]; exact ⟨h.1, trivial⟩⟩
    · exact h.elim
  · split at h
    · rename_i h1 h2 h3 h4; exact ⟨_, h.2, by simp only [readVC, h1, h2, h3, h4]; exact ⟨h.1, trivial⟩⟩
    · exact h.elim
  · split at h
    · rename_i h1 h2; exact ⟨_, h.2, by simp only [readVC, h1, h2]; exact ⟨h.1, trivial⟩⟩
    · exact h.elim
  -- build
  · split at h
    · rename_i h1 h2
      split at h
      · rename_i h3
        obtain ⟨hb, h⟩ := chk_iff.1 h
        obtain ⟨g, h4, h5⟩ := fillA_det _ h
        refine ⟨_, h4, ?_⟩
        simp only [readVC, h1, h2, h3]
        exact chk_iff.2 ⟨hb, fillA_mono _ (fun g' e => by rw [e]) h5⟩
      · exact h.elim
    · rename_i h1 h2
      split at h
      · rename_i h3
        obtain ⟨hb, h⟩ := chk_iff.1 h
        obtain ⟨g, h4, h5⟩ := fillP_det _ _ h
        refine ⟨_, h4, ?_⟩
        simp only [readVC, h1, h2, h3]
        exact chk_iff.2 ⟨hb, h5⟩
      · rename_i hn
        split at h
        · rename_i h3
          obtain ⟨hb, h⟩ := chk_iff.1 h
          obtain ⟨g, h4, h5⟩ := fillP_det _ _ h
          refine ⟨_, h4, ?_⟩
          simp only [readVC, h1, h2, h3]
          exact chk_iff.2 ⟨hb, h5⟩
        · exact h.elim
    · exact h.elim
  -- field
  · split at h
    · rename_i h1 h2
      obtain ⟨hb, h⟩ := chk_iff.1 h
      split at h
      · rename_i h3
        refine ⟨_, h, ?_⟩
        simp only [readVC, h1, h2, h3]
        exact chk_iff.2 ⟨hb, trivial⟩
      · exact h.elim
    · exact h.elim
  -- len
  · split at h
    · rename_i h1 h2 h3
      split at h
      · rename_i h4; exact ⟨_, h, by simp only [readVC, h1, h2, h3, h4]⟩
      · rename_i h4; exact ⟨_, h, by simp only [readVC, h1, h2, h3, h4]⟩
      · exact h.elim
    · rename_i h1 h2 h3
      split at h
      · rename_i h4; exact ⟨_, h, by simp only [readVC, h1, h2, h3, h4]⟩
      · rename_i h4; exact ⟨_, h, by simp only [readVC, h1, h2, h3, h4]⟩
      · exact h.elim
    · rename_i h1 h2 h3
      exact ⟨_, h, by simp only [readVC, h1, h2, h3]⟩
    · exact h.elim
  · exact h.elim

theorem fillA_iff {k : IntKind} {n es : Nat} : ∀ (l : List (Nat × SV)) {f : Nat → Int} {K : (Nat → Int) → Prop}, fillA k n es f l K → ∃ g, ∀ K' : (Nat → Int) → Prop, fillA k n es f l K' ↔ K' g
  | [], f, K, h => ⟨f, fun K' => Iff.rfl⟩
  | (i, v) :: r, f, K, h => by
    cases v with
    | int k' y => obtain ⟨hb, h⟩ := chk_iff.1 h; obtain ⟨g, hg⟩ := fillA_iff r h; exact ⟨g, fun K' => by simp only [fillA, chk_iff, hb, true_and]; exact hg K'⟩
    | ints k' m g => obtain ⟨hb, h⟩ := chk_iff.1 h; obtain ⟨g, hg⟩ := fillA_iff r h; exact ⟨g, fun K' => by simp only [fillA, chk_iff, hb, true_and]; exact hg K'⟩
    | _ => exact h.elim

theorem fillV_iff {n : Nat} : ∀ (l : List (Nat × SV)) {h : Nat → SV} {K : (Nat → SV) → Prop}, fillV n h l K → ∃ g, ∀ K' : (Nat → SV) → Prop, fillV n h l K' ↔ K' g
  | [], h, K, _ => ⟨h, fun K' => Iff.rfl⟩
  | (i, v) :: r, h, K, hk => by
    obtain ⟨hb, hk⟩ := chk_iff.1 hk
    obtain ⟨g, hg⟩ := fillV_iff r hk
    exact ⟨g, fun K' => by simp only [fillV, chk_iff, hb, true_and]; exact hg K'⟩

theorem new_iff {T : Tab} {op : Op} {s : Slots} {K : SV → (Nat → SV) → Prop} (h : newVC T op s K) :
    ∃ v mk, (∀ K' : SV → (Nat → SV) → Prop, newVC T op s K' ↔ K' v mk) ∧ ∃ g : Nat → Value, ∀ (μ : Nat → Nat) (id : Nat), toVal μ (mk id) = g (μ id) := by
  unfold newVC at h
  split at h
  · split at h
    · rename_i z hz
      obtain ⟨hb, _⟩ := chk_iff.1 h
      exact ⟨z, fun id => .ptr id [] 0 0, fun K' => by simp only [newVC, hz, chk_iff, hb, true_and], fun b => .pointer (some ⟨b, 0, none⟩), fun μ id => rfl⟩
    · exact h.elim
  · split at h
    · rename_i z hz
      obtain ⟨hb, _⟩ := chk_iff.1 h
      exact ⟨z, fun id => .ptr id [] 0 0, fun K' => by simp only [newVC, hz, chk_iff, hb, true_and], fun b => .pointer (some ⟨b, 0, none⟩), fun μ id => rfl⟩
    · exact h.elim
  · rename_i t len parts
    split at h
    · rename_i es k mm f l hti hz hp
      obtain ⟨hb, h⟩ := chk_iff.1 h
      obtain ⟨g, hg⟩ := fillA_iff _ h
      refine ⟨.ints k (len * es) g, fun id => .sl id 0 len len, fun K' => ?_, fun b => .slice (some ⟨b, 0, none⟩) len len, fun μ id => rfl⟩
      simp only [newVC, hti, hz, hp, chk_iff, hb, true_and]
      exact hg _
    · rename_i l hti hz hp
      split at h
      · rename_i he
        obtain ⟨hb, h⟩ := chk_iff.1 h
        obtain ⟨g, hg⟩ := fillV_iff _ h
        refine ⟨.vec len g, fun id => .sl id 0 len len, fun K' => ?_, fun b => .slice (some ⟨b, 0, none⟩) len len, fun μ id => rfl⟩
        simp only [newVC, hti, hp, he, Option.bind_some, elemRow, chk_iff, hb, true_and]
        exact hg _
      · exact h.elim
    · exact h.elim
  · split at h
    · rename_i es by_ z k1 l k2 c h1 h2 h3 h4 h5
      split at h
      · rename_i v hv
        exact ⟨v, fun id => .sl id 0 l.toNat c.toNat, fun K' => by simp only [newVC, h1, h2, h3, h4, h5, hv]; exact ⟨fun hh => hh.2, fun hh => ⟨h.1, hh⟩⟩, fun b => .slice (some ⟨b, 0, none⟩) l.toNat c.toNat, fun μ id => rfl⟩
      · exact h.elim
    · exact h.elim
  · exact h.elim

/-! ### worlds of the head -/
theorem RunS.grow {μ0 : Nat → Nat} {m0 : Mem} {w0 : World} {μ : Nat → Nat} {m : Mem} {w w' : World} (h : RunS μ0 m0 w0 μ m w) (hs : w.heap.size ≤ w'.heap.size) (hk : ∀ b, b < w.heap.size → w'.heap[b]? = w.heap[b]?)
    (hr : w'.os = w.os ∧ w'.output = w.output ∧ w'.tape = w.tape) (hf : ∀ a, w'.frozen? a = w.frozen? a) : RunS μ0 m0 w0 μ m w' :=
  ⟨⟨fun id v c hb => by
      obtain ⟨t, ex, hh, hl⟩ := h.mr.blk id v c hb
      exact ⟨t, ex, by rw [hk _ (Array.getElem?_eq_some_iff.1 hh).1]; exact hh, hl⟩, h.mr.inj, h.mr.ids⟩, h.len, h.agree, h.live, h.fresh,
   ⟨Nat.le_trans h.kept.size hs, fun b hb hne => by rw [hk b (Nat.lt_of_lt_of_le hb h.kept.size)]; exact h.kept.old b hb hne,
    ⟨hr.1.trans h.kept.rest.1, hr.2.1.trans h.kept.rest.2.1, hr.2.2.trans h.kept.rest.2.2⟩, fun a => by rw [hf]; exact h.kept.fro a⟩⟩

theorem RunS.made {μ0 : Nat → Nat} {m0 : Mem} {w0 : World} {μ : Nat → Nat} {m : Mem} {w : World} (h : RunS μ0 m0 w0 μ m w) (c : Array Value) (t : TypeId) : RunS μ0 m0 w0 μ m (w.alloc (.cells c t)) :=
  h.grow (by rw [push_size]; omega) (fun b hb => push_old w _ hb) ⟨rfl, rfl, rfl⟩ fun a => push_frozen w c t a

/-- a block that lies there becomes known -/
theorem RunS.adopt {μ0 : Nat → Nat} {m0 : Mem} {w0 : World} {μ : Nat → Nat} {m : Mem} {w : World} (h : RunS μ0 m0 w0 μ m w) {v : SV} (hv : ∀ id ∈ v.ids, id < m.length) {t : TypeId} {b : Nat}
    (hb : w.heap[b]? = some (.cells (flat μ v).toArray t (0, 0))) (hne : ∀ id, (blockOf m id).isSome = true → μ id ≠ b) (h0 : w0.heap.size ≤ b) : RunS μ0 m0 w0 (ext μ m.length b) (m ++ [some (v, v.size)]) w := by
  have cases' : ∀ i, (blockOf (m ++ [some (v, v.size)]) i).isSome = true → (i < m.length ∧ (blockOf m i).isSome = true) ∨ i = m.length := by
    intro i hi
    rcases Nat.lt_or_ge i m.length with hlt | hge
    · rw [blockOf_append_lt m _ i hlt] at hi; exact .inl ⟨hlt, hi⟩
    · right
      have := blockOf_lt hi
      simp at this
      omega
  have last : ∀ u c, blockOf (m ++ [some (v, v.size)]) m.length = some (u, c) → u = v ∧ c = v.size := fun u c hh => by
    have := blockOf_append_ge m [some (v, v.size)] 0
    rw [Nat.add_zero] at this
    rw [this] at hh
    simp only [blockOf, Option.some.injEq, Prod.mk.injEq] at hh
    exact ⟨hh.1.symm, hh.2.symm⟩
  refine ⟨⟨fun id u c hbk => ?_, fun i j hi hj he => ?_, fun id u c hbk i hi => ?_⟩, by simp; have := h.len; omega, fun id hid => ?_, fun id hid hs => ?_, fun id hid hs => ?_, h.kept⟩
  · rcases cases' id (by rw [hbk]; rfl) with ⟨hlt, _⟩ | rfl
    · rw [blockOf_append_lt m _ id hlt] at hbk
      obtain ⟨t', ex, hh, hl⟩ := h.mr.blk id u c hbk
      refine ⟨t', ex, ?_, by rw [flat_length] at hl ⊢; exact hl⟩
      rw [ext_old hlt, hh, flat_ids (μ := μ) (μ' := ext μ m.length b) u (fun i hi => (ext_old (h.mr.ids id u c hbk i hi)).symm)]
    · obtain ⟨rfl, rfl⟩ := last u c hbk
      refine ⟨t, [], ?_, by simp [flat_length]⟩
      rw [ext_new, hb, flat_ids (μ := μ) (μ' := ext μ m.length b) _ (fun i hi => (ext_old (hv i hi)).symm)]
      simp
  · rcases cases' i hi with ⟨h1, h2⟩ | rfl <;> rcases cases' j hj with ⟨h3, h4⟩ | rfl
    · rw [ext_old h1, ext_old h3] at he; exact h.mr.inj i j h2 h4 he
    · rw [ext_old h1, ext_new] at he; exact absurd he (hne i h2)
    · rw [ext_old h3, ext_new] at he; exact absurd he.symm (hne j h4)
    · rfl
  · have : i < m.length := by
      rcases cases' id (by rw [hbk]; rfl) with ⟨hlt, _⟩ | rfl
      · rw [blockOf_append_lt m _ id hlt] at hbk
        exact h.mr.ids id u c hbk i hi
      · obtain ⟨rfl, rfl⟩ := last u c hbk
        exact hv i hi
    simp; omega
  · rw [ext_old (by have := h.len; omega)]; exact h.agree id hid
  · rw [blockOf_append_lt m _ id (by have := h.len; omega)] at hs; exact h.live id hid hs
  · rcases cases' id hs with ⟨hlt, h2⟩ | rfl
    · rw [ext_old hlt]; exact h.fresh id hid h2
    · rw [ext_new]; exact h0

/-- a block that is not among the known ones may change -/
theorem RunS.apart {μ0 : Nat → Nat} {m0 : Mem} {w0 : World} {μ : Nat → Nat} {m : Mem} {w w' : World} (h : RunS μ0 m0 w0 μ m w) {c : Nat} (hs : w'.heap.size = w.heap.size) (hk : ∀ b, b ≠ c → w'.heap[b]? = w.heap[b]?)
    (hc : ∀ id, (blockOf m id).isSome = true → μ id ≠ c) (h0 : w0.heap.size ≤ c) (hr : w'.os = w.os ∧ w'.output = w.output ∧ w'.tape = w.tape) (hf : ∀ a, w'.frozen? a = w.frozen? a) : RunS μ0 m0 w0 μ m w' :=
  ⟨⟨fun id v k hb => by
      obtain ⟨t, ex, hh, hl⟩ := h.mr.blk id v k hb
      exact ⟨t, ex, by rw [hk _ (hc id (by rw [hb]; rfl))]; exact hh, hl⟩, h.mr.inj, h.mr.ids⟩, h.len, h.agree, h.live, h.fresh,
   ⟨by rw [hs]; exact h.kept.size, fun b hb hne => by rw [hk b (by omega)]; exact h.kept.old b hb hne,
    ⟨hr.1.trans h.kept.rest.1, hr.2.1.trans h.kept.rest.2.1, hr.2.2.trans h.kept.rest.2.2⟩, fun a => by rw [hf]; exact h.kept.fro a⟩⟩

theorem putAt_iff {ag : Option Nat} {sub x : SV} {off : Nat} {K : SV → Prop} (h : putAt ag sub off x K) : ∃ u, ∀ K' : SV → Prop, putAt ag sub off x K' ↔ K' u := by
  cases sub <;> cases ag <;> cases x <;> simp only [putAt] at h ⊢ <;>
    first
    | exact h.elim
    | (obtain ⟨hb, h3, _⟩ := chk_iff.1 h; exact ⟨_, fun K' => by simp only [chk_iff, hb, true_and, h3]; exact Iff.rfl⟩)
    | (obtain ⟨hb, _⟩ := chk_iff.1 h; exact ⟨_, fun K' => by simp only [chk_iff, hb, true_and]; exact Iff.rfl⟩)

theorem guard_sound {N : Nat} {μ : Nat → Nat} {L : Nat} {s : Slots} {a : Act} {ops : Array Oper} {o : Oper} {X Y : Slots → Prop} (hs : SRel N μ L s a) (h : guardVC ops N o s X Y) :
    ∃ s1, SRel N μ L s1 a ∧ ((Region.wanted o (yielded ops a.tmps) = true ∧ X s1) ∨ (Region.wanted o (yielded ops a.tmps) = false ∧ Y s1)) := by
  unfold guardVC at h
  split at h
  · rename_i hg
    exact ⟨s, hs, .inl ⟨by simp [Region.wanted, hg], h⟩⟩
  · rename_i g want hg
    split at h
    · rename_i t ht
      split at h
      · rename_i b hb
        have h1 := hs.val t _ hb
        have hlt : t < a.tmps.size := by
          rcases Nat.lt_or_ge t a.tmps.size with h' | h'
          · exact h'
          · have := h1.1; simp [Array.getElem?_eq_none h', Go.undef, toVal, scal] at this
        have hty : yielded ops a.tmps g = some b := by
          unfold yielded
          have h2 := h1.1
          simp only [ht, Option.bind_some, Array.getElem?_eq_getElem hlt]
          simp [hlt, toVal, scal] at h2
          rw [h2]
        have hs2 : ∀ b', b' = b → SRel N μ L ((t, .bool b') :: s) a := fun b' e => ⟨hs.size, hs.defers, fun k v hk => by
          rw [lk_cons] at hk
          by_cases htk : t = k
          · subst htk
            rw [if_pos rfl] at hk
            cases hk
            rw [e]
            exact h1
          · rw [if_neg htk] at hk
            exact hs.val k v hk⟩
        cases b <;> cases want <;> simp only [ifVC] at h
        · exact ⟨_, hs2 _ rfl, .inl ⟨by simp [Region.wanted, hg, hty], h⟩⟩
        · exact ⟨_, hs2 _ rfl, .inr ⟨by simp [Region.wanted, hg, hty], h⟩⟩
        · exact ⟨_, hs2 _ rfl, .inr ⟨by simp [Region.wanted, hg, hty], h⟩⟩
        · exact ⟨_, hs2 _ rfl, .inl ⟨by simp [Region.wanted, hg, hty], h⟩⟩
      · rename_i hb
        have h1 := hs.val t _ hb
        have hty : yielded ops a.tmps g = none := by
          unfold yielded
          have h2 := h1.1
          simp only [ht, Option.bind_some]
          rcases Nat.lt_or_ge t a.tmps.size with h' | h'
          · rw [Array.getElem?_eq_getElem h']
            simp [h', toVal, scal, Go.undef] at h2
            rw [h2]
          · rw [Array.getElem?_eq_none h']
        exact ⟨s, hs, .inr ⟨by simp [Region.wanted, hg, hty], h⟩⟩
      · exact h.elim
    · exact h.elim

theorem MR.nil (μ : Nat → Nat) (w : World) : MR μ [] w := ⟨fun id v c h => (by cases h), fun i j h => (by cases h), fun id v c h => (by cases h)⟩

def Headed (P : Program) (ops : Array Oper) (E : World → Prop) (N n : Nat) (μ : Nat → Nat) (L i : Nat) (a : Act) (K : Slots → Prop) : Prop :=
  ∃ A s', SRel N μ L s' A ∧ K s' ∧ (∀ x, (∀ j, i ≤ j → j < n → dstOf ops j ≠ some x) → A.tmps.getD x undef = a.tmps.getD x undef) ∧
    ∀ j o d, i ≤ j → j < n → ops[j]? = some o → isNew o.op = false → o.dst = some d → Yl P ops E o A (A.tmps.getD d undef)

/-- the head in the text's order: the frame that it ends with, if what it makes is left out -/
theorem head_pass {T : Tab} (hT : TabOK P T) (hE : TabEq P T) {μ0 : Nat → Nat} {m0 : Mem} {w0 : World} {μ : Nat → Nat} {m : Mem} {w : World} (hr : RunS μ0 m0 w0 μ m w) {N n : Nat} {ops : Array Oper}
    (hall : ∀ i, i < n → headB N ops n i = true) (hsel : Region.noSelect ops = true) :
    ∀ (l : List Oper) (i : Nat) (s : Slots) (a : Act) (K : Slots → Prop), (∀ j, j < l.length → l[j]? = ops[i + j]?) → i + l.length = n → SRel N μ m.length s a → headVC P T N ops m l s K →
      Headed P ops (fun w => RunS μ0 m0 w0 μ m w) N n μ m.length i a K
  | [], i, s, a, K, hl, hi, hs, h => ⟨a, s, hs, h, fun _ _ => rfl, fun j o d h1 h2 => by simp at hi; omega⟩
  | o :: r, i, s, a, K, hl, hi, hs, h => by
    have h0 : ops[i]? = some o := by simpa using (hl 0 (by simp)).symm
    have hin : i < n := by simp only [List.length_cons] at hi; omega
    have hl' : ∀ j, j < r.length → r[j]? = ops[i + 1 + j]? := fun j hj => by have := hl (j + 1) (by simp; omega); simpa [Nat.add_assoc, Nat.add_comm 1 j] using this
    have hi' : i + 1 + r.length = n := by simp only [List.length_cons] at hi; omega
    have hback := headB_back h0 (hall i hin)
    unfold headVC at h
    split at h
    · rename_i hn
      obtain ⟨A, s', g1, g2, g3, g4⟩ := head_pass hT hE hr hall hsel r (i + 1) s a K hl' hi' hs h
      refine ⟨A, s', g1, g2, fun x hx => g3 x fun j hj hjn => hx j (by omega) hjn, fun j oj dj hij hj hoj hnj hdj => ?_⟩
      by_cases hji : j = i
      · subst hji
        rw [h0] at hoj; cases hoj
        have hsj := dst_not_sto h0 hdj (hall j hin)
        rw [hnj, hsj] at hn; cases hn
      · exact g4 j oj dj (by omega) hj hoj hnj hdj
    rename_i hno
    have hn : isNew o.op = false := by simp only [Bool.or_eq_false_iff] at hno; exact hno.1
    have hso : isSto o.op = false := by simp only [Bool.or_eq_false_iff] at hno; exact hno.2
    obtain ⟨⟨d, hd, hdN⟩, hguard, hdist, hlook⟩ := headB_spec h0 hso (hall i hin)
    have hdi : dstOf ops i = some d := by simp [dstOf, h0, hd]
    have fin : ∀ (v : Value) (s2 : Slots), isNew o.op = false → SRel N μ m.length s2 (a.put o.dst v) → headVC P T N ops m r s2 K → Yl P ops (fun w => RunS μ0 m0 w0 μ m w) o a v →
        Headed P ops (fun w => RunS μ0 m0 w0 μ m w) N n μ m.length i a K := by
      intro v s2 hn hs2 h2 hY
      obtain ⟨A, s', g1, g2, g3, g4⟩ := head_pass hT hE hr hall hsel r (i + 1) s2 (a.put o.dst v) K hl' hi' hs2 h2
      have putne : ∀ x, d ≠ x → (a.put o.dst v).tmps.getD x undef = a.tmps.getD x undef := fun x hx => by rw [hd, getD_put, if_neg (fun hh => hx hh.1)]
      refine ⟨A, s', g1, g2, fun x hx => ?_, fun j oj dj hij hj hoj hnj hdj => ?_⟩
      · rw [g3 x (fun j hj hjn => hx j (by omega) hjn)]
        exact putne x fun e => hx i (Nat.le_refl _) hin (by rw [hdi, e])
      · by_cases hji : j = i
        · subst hji
          rw [h0] at hoj; cases hoj
          rw [hd] at hdj; cases hdj
          have hval : A.tmps.getD d undef = v := by
            rw [g3 d (fun k hk hkn hh => hdist k hkn (by omega) (by rw [hh, hdi])), hd, getD_put, if_pos ⟨rfl, by rw [hs.size]; exact hdN⟩]
          rw [hval]
          have hag : Agree ops o A a := fun t ht => by
            refine ⟨?_, by rw [g1.size, hs.size]⟩
            by_cases hex : ∃ k, k < n ∧ dstOf ops k = some t
            · obtain ⟨k, hk, hdk⟩ := hex
              obtain ⟨hwt, _⟩ := hlook k t hk hdk ht
              obtain ⟨o', ho', e, he, hb, hon⟩ := Region.waitsFor_spec hwt
              rw [h0] at ho'; cases ho'
              have hki : k < j := by rw [← hon]; exact hback e he hb
              cases hok : ops[k]? with
              | none => simp [dstOf, hok] at hdk
              | some ok =>
                have hdk' := (headB_spec hok (dst_not_sto hok (by simpa [dstOf, hok] using hdk) (hall k hk)) (hall k hk)).2.2.1
                rw [g3 t (fun q hq hqn hh => hdk' q hqn (by omega) (by rw [hh, hdk]))]
                exact putne t fun e => hdk' j hin (by omega) (by rw [hdi, hdk, e])
            · rw [g3 t (fun q hq hqn hh => hex ⟨q, hqn, hh⟩)]
              exact putne t fun e => hex ⟨j, hin, by rw [hdi, e]⟩
          exact hY.congr (hag.exec (Region.noSelect_spec hsel j o · · h0)) hag.wanted
        · exact g4 j oj dj (by omega) hj hoj hnj hdj
    · obtain ⟨s1, hs1, ⟨hw, h⟩ | ⟨hw, h⟩⟩ := guard_sound hs h
      · have readCase : readVC T o.op s1 m (fun v => headVC P T N ops m r (sset N s1 o.dst v) K) → Headed P ops (fun w => RunS μ0 m0 w0 μ m w) N n μ m.length i a K := fun h => by
          obtain ⟨v, h1, h2⟩ := read_det h
          obtain ⟨v', e, hids, _⟩ := read_sound hT hE hs1 hr.mr h2
          subst e
          refine fin (toVal μ v') _ hn (hs1.put o.dst v' hids) h1 (.inl ⟨hw, fun w' hw' => .inl ?_⟩)
          obtain ⟨v'', e, _, hrun⟩ := read_sound hT hE hs1 hw'.mr h2
          subst e
          exact hrun
        split at h
        · rename_i c ho
          split at h
          · rename_i x hcal
            split at h
            · rename_i f args hx hargs
              obtain ⟨v, ⟨ha, hv, hsp⟩, h⟩ := h
              have h1 := ev_sound hs1 hx
              have h2 := evs_sound hs1 hargs
              refine fin (toVal μ v) _ hn (hs1.put o.dst v (by rw [hv]; intro id hh; cases hh)) h (.inl ⟨hw, fun w' hw' => .inr ⟨f, (args.map (toVal μ)).toArray, ?_, ?_⟩⟩)
              · have hav : c.args.map a.eval = (args.map (toVal μ)).toArray := by
                  apply Array.ext'
                  rw [Array.toList_map, h2.1]
                have hfv : a.eval x = .func (.func f) #[] #[] := h1.1
                have hen := hsp.enters
                simp only [execOp, ho, resolve, hcal, hfv, Deferred.ofValue, hav, Sem.run_bind, Sem.run_pure, Result.andThen_ok, invoke]
                simp [hen]
              · refine (hsp.run μ w' (MR.nil μ w')).mono ?_
                rintro e w'' ⟨μ', r', m', rfl, rfl, _, _, _, _, _, hk⟩
                refine ⟨by rw [toVal_ids (μ := μ') (μ' := μ) r' (by rw [hv]; intro id hh; cases hh)], hw'.grow hk.size (fun b hb => hk.old b hb fun id hh => by cases hh) hk.rest hk.fro, hk.size, fun b hb => hk.old b hb fun id hh => by cases hh⟩
            · exact h.elim
          · rw [← ho] at h; exact readCase h
        · exact readCase h
      · exact fin undef _ hn (hs1.skip o.dst) h (.inr ⟨hw, rfl⟩)
end Go.Proofs.Ytojfjcbblkiajaa
