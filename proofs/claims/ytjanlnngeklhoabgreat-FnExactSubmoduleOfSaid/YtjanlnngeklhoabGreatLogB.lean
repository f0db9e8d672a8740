/- The logic, in two files: Pass, Order, Late, Code, Spec, Eq, Fam. -/
import Derived.Test.YtjanlnngeklhoabGreatLogA
import Derived.LoopN
import Derived.Scope
/- The head of a region that draws its order, taken in the text's order; what it makes is taken up afterwards; then the tail. -/
set_option linter.unusedVariables false
set_option linter.unusedSimpArgs false
namespace Go.Proofs.YtjanlnngeklhoabGreat
variable {P : Program}

/-! ### what a condition speaks of is one value -/
theorem getAt_det {ag : Option Nat} {sub : SV} {off : Nat} {K : SV → Prop} (h : getAt ag sub off K) : ∃ v, K v ∧ getAt ag sub off fun u => u = v := by
  cases sub <;> cases ag <;> simp only [getAt] at h ⊢ <;>
    first
    | exact h.elim
    | exact ⟨_, h.2.2, h.1, h.2.1, rfl⟩
    | exact ⟨_, h.2, h.1, rfl⟩
    | (obtain ⟨hb, h⟩ := chk_iff.1 h; exact ⟨_, h, chk_iff.2 ⟨hb, rfl⟩⟩)

theorem fillA_det {k : IntKind} {n es : Nat} : ∀ (l : List (Nat × SV)) {f : Nat → Int} {K : (Nat → Int) → Prop}, fillA k n es f l K → ∃ g, K g ∧ fillA k n es f l fun u => u = g
  | [], f, K, h => ⟨f, h, rfl⟩
  | (i, v) :: r, f, K, h => by
    cases v with
    | int k' y => simp only [fillA] at h ⊢; obtain ⟨hb, h⟩ := chk_iff.1 h; obtain ⟨g, h1, h2⟩ := fillA_det r h; exact ⟨g, h1, chk_iff.2 ⟨hb, h2⟩⟩
    | ints k' m g => simp only [fillA] at h ⊢; obtain ⟨hb, h⟩ := chk_iff.1 h; obtain ⟨g, h1, h2⟩ := fillA_det r h; exact ⟨g, h1, chk_iff.2 ⟨hb, h2⟩⟩
    | _ => exact h.elim

theorem fillA_mono {k : IntKind} {n es : Nat} : ∀ (l : List (Nat × SV)) {f : Nat → Int} {K K' : (Nat → Int) → Prop}, (∀ g, K g → K' g) → fillA k n es f l K → fillA k n es f l K'
  | [], f, K, K', hk, h => hk _ h
  | (i, v) :: r, f, K, K', hk, h => by
    cases v with
    | int k' y => simp only [fillA] at h ⊢; obtain ⟨hb, h⟩ := chk_iff.1 h; exact chk_iff.2 ⟨hb, fillA_mono r hk h⟩
    | ints k' m g => simp only [fillA] at h ⊢; obtain ⟨hb, h⟩ := chk_iff.1 h; exact chk_iff.2 ⟨hb, fillA_mono r hk h⟩
    | _ => exact h.elim

theorem fillP_det : ∀ (l : List (Nat × SV)) (z : SV) {K : SV → Prop}, fillP z l K → ∃ g, K g ∧ fillP z l fun u => u = g
  | [], z, K, h => ⟨z, h, rfl⟩
  | (i, v) :: r, z, K, h => by
    unfold fillP at h ⊢
    split at h
    · rename_i h1
      obtain ⟨hb, h⟩ := chk_iff.1 h
      obtain ⟨g, h2, h3⟩ := fillP_det r _ h
      exact ⟨g, h2, chk_iff.2 ⟨hb, h3⟩⟩
    · exact h.elim

theorem arith_det {op : BinOp} {k : IntKind} {a b : Int} {K : SV → Prop} (h : arith op k a b K) : ∃ v, K v ∧ arith op k a b fun u => u = v := by
  cases op <;> simp only [arith] at h ⊢ <;>
    first
    | exact h.elim
    | exact ⟨_, h, rfl⟩
    | exact ⟨_, h.2, h.1, rfl⟩

theorem eqVC_det {T : Tab} {t : Nat} {x y : SV} {K : Bool → Prop} (h : eqVC T t x y K) : ∃ b, K b ∧ eqVC T t x y fun u => u = b := by
  unfold eqVC at h ⊢
  split at h
  · split at h
    · rename_i hh
      simp only [hh]
      obtain ⟨hb, h⟩ := chk_iff.1 h
      exact ⟨_, h, chk_iff.2 ⟨hb, rfl⟩⟩
    · exact h.elim
  · split at h
    · rename_i hh
      simp only [hh]
      obtain ⟨hb, h⟩ := chk_iff.1 h
      exact ⟨_, h, chk_iff.2 ⟨hb, rfl⟩⟩
    · exact h.elim
  · split at h
    · rename_i hh
      simp only [hh]
      obtain ⟨hb, h⟩ := chk_iff.1 h
      exact ⟨_, h, chk_iff.2 ⟨hb, rfl⟩⟩
    · exact h.elim
  · split at h
    · rename_i hh
      simp only [hh]
      obtain ⟨hb, h⟩ := chk_iff.1 h
      exact ⟨_, h, chk_iff.2 ⟨hb, rfl⟩⟩
    · exact h.elim
  · split at h
    · rename_i hh
      simp only [hh]
      obtain ⟨hb, h⟩ := chk_iff.1 h
      exact ⟨_, h, chk_iff.2 ⟨hb, rfl⟩⟩
    · exact h.elim
  · exact h.elim

theorem eqVC_mono {T : Tab} {t : Nat} {x y : SV} {K K' : Bool → Prop} (hk : ∀ b, K b → K' b) (h : eqVC T t x y K) : eqVC T t x y K' := by
  unfold eqVC at h ⊢
  split at h
  · split at h
    · rename_i hh
      obtain ⟨hb, h⟩ := chk_iff.1 h
      exact chk_iff.2 ⟨hb, hk _ h⟩
    · exact h.elim
  · split at h
    · rename_i hh
      obtain ⟨hb, h⟩ := chk_iff.1 h
      exact chk_iff.2 ⟨hb, hk _ h⟩
    · exact h.elim
  · split at h
    · rename_i hh
      obtain ⟨hb, h⟩ := chk_iff.1 h
      exact chk_iff.2 ⟨hb, hk _ h⟩
    · exact h.elim
  · split at h
    · rename_i hh
      obtain ⟨hb, h⟩ := chk_iff.1 h
      exact chk_iff.2 ⟨hb, hk _ h⟩
    · exact h.elim
  · split at h
    · rename_i hh
      obtain ⟨hb, h⟩ := chk_iff.1 h
      exact chk_iff.2 ⟨hb, hk _ h⟩
    · exact h.elim
  · exact h.elim

theorem binVC_det {T : Tab} {op : BinOp} {t : Nat} {x y : SV} {K : SV → Prop} (h : binVC T op t x y K) : ∃ v, K v ∧ binVC T op t x y fun u => u = v := by
  have other : eqnVC T op t x y K → ∃ v, K v ∧ eqnVC T op t x y fun u => u = v := by
    intro h
    cases op <;> simp only [eqnVC] at h ⊢ <;> first | exact h.elim | (obtain ⟨b, h1, h2⟩ := eqVC_det (K := fun b => K (.bool b)) h; refine ⟨_, h1, ?_⟩; clear h1 h; exact eqVC_mono (fun b' e => by rw [e]) h2) | (obtain ⟨b, h1, h2⟩ := eqVC_det (K := fun b => K (.bool !b)) h; refine ⟨_, h1, ?_⟩; clear h1 h; exact eqVC_mono (fun b' e => by rw [e]) h2)
  cases x with
  | int k a =>
    cases y with
    | int k' b =>
      simp only [binVC] at h ⊢
      obtain ⟨hb, h⟩ := chk_iff.1 h
      obtain ⟨v, h1, h2⟩ := arith_det h
      exact ⟨v, h1, chk_iff.2 ⟨hb, h2⟩⟩
    | _ => exact other h
  | _ => exact other h

theorem cut_det {es : Nat} {lo hi : Option Int} {id off len cap : Nat} {K : SV → Prop} (h : cutVC es lo hi id off len cap K) : ∃ v, K v ∧ cutVC es lo hi id off len cap fun u => u = v := by
  unfold cutVC at h
  split at h
  · exact ⟨_, h, rfl⟩
  · exact ⟨_, h.2, h.1, rfl⟩
  · exact ⟨_, h.2, h.1, rfl⟩
  · exact ⟨_, h.2, h.1, rfl⟩
theorem cutP_det {es : Nat} {lo hi : Option Int} {id base off len cap : Nat} {path : List Nat} {K : SV → Prop} (h : cutP es lo hi id path base off len cap K) : ∃ v, K v ∧ cutP es lo hi id path base off len cap fun u => u = v := by
  unfold cutP at h
  split at h
  · exact ⟨_, h.2, h.1, rfl⟩
  · exact ⟨_, h.2, h.1, rfl⟩
  · exact h.elim
theorem read_det {T : Tab} {op : Op} {s : Slots} {m : Mem} {K : SV → Prop} (h : readVC T op s m K) : ∃ v, K v ∧ readVC T op s m fun u => u = v := by
  unfold readVC at h
  split at h
  -- move, assign
  · split at h
    · rename_i hv; exact ⟨_, h, by simp only [readVC, hv]⟩
    · exact h.elim
  · split at h
    · rename_i hv; exact ⟨_, h, by simp only [readVC, hv]⟩
    · exact h.elim
  -- pick
  · split at h
    · rename_i h1 h2; exact ⟨_, h, by simp only [readVC, h1, h2]⟩
    · rename_i h1 h2; exact ⟨_, h, by simp only [readVC, h1, h2]⟩
    · exact h.elim
  -- load
  · split at h
    · rename_i hx
      split at h
      · rename_i hb
        split at h
        · rename_i hp
          obtain ⟨hb', h⟩ := chk_iff.1 h
          obtain ⟨v, h1, h2⟩ := getAt_det h
          refine ⟨v, h1, ?_⟩
          simp only [readVC, hx, hb, hp]
          exact chk_iff.2 ⟨hb', h2⟩
        · exact h.elim
      · exact h.elim
    · exact h.elim
  -- nilCheck
  · split at h
    · rename_i hx; exact ⟨_, h, by simp only [readVC, hx]⟩
    · exact h.elim
  -- binOp
  · split at h
    · rename_i hx hy
      obtain ⟨v, h1, h2⟩ := binVC_det h
      exact ⟨v, h1, by simp only [readVC, hx, hy]; exact h2⟩
    · exact h.elim
  -- unOp
  · split at h
    · rename_i hx; exact ⟨_, h, by simp only [readVC, hx]⟩
    · rename_i hx; exact ⟨_, h, by simp only [readVC, hx]⟩
    · exact h.elim
  -- convert
  · split at h
    · rename_i h1 h2 h3; exact ⟨_, h, by simp only [readVC, h1, h2, h3]⟩
    · exact h.elim
  -- fieldAddr
  · split at h
    · rename_i h1 h2
      split at h
      · rename_i h3; exact ⟨_, h, by simp only [readVC, h1, h2, h3]⟩
      · exact h.elim
    · exact h.elim
  -- indexAddr
  · split at h
    · rename_i h1 h2 h3; exact ⟨_, h.2, by simp only [readVC, h1, h2, h3]; exact ⟨h.1, trivial⟩⟩
    · rename_i h1 h2 h3; exact ⟨_, h.2, by simp only [readVC, h1, h2, h3]; exact ⟨h.1, trivial⟩⟩
    · rename_i h1 h2 h3; exact ⟨_, h.2, by simp only [readVC, h1, h2, h3]; exact ⟨h.1, trivial⟩⟩
    · rename_i h1 h2 h3; exact ⟨_, h.2, by simp only [readVC, h1, h2, h3]; exact ⟨h.1, trivial⟩⟩
    · exact h.elim
  -- index
  · split at h
    · rename_i h1 h2 h3
      obtain ⟨hb, h0, h⟩ := chk_iff.1 h
      split at h
      · exact ⟨_, h, by simp only [readVC, h1, h2, h3]; exact chk_iff.2 ⟨hb, h0, trivial⟩⟩
      · obtain ⟨hb', h⟩ := chk_iff.1 h
        exact ⟨_, h, by simp only [readVC, h1, h2, h3]; exact chk_iff.2 ⟨hb, h0, chk_iff.2 ⟨hb', trivial⟩⟩⟩
    · rename_i h1 h2 h3
      obtain ⟨hb, h0, c, o, hf, hc⟩ := chk_iff.1 h
      obtain ⟨hp, hk⟩ := chk_iff.1 hc
      exact ⟨c, hk, by simp only [readVC, h1, h2, h3]; exact chk_iff.2 ⟨hb, h0, c, o, hf, chk_iff.2 ⟨hp, rfl⟩⟩⟩
    · exact h.elim
  -- extract
  · split at h
    · rename_i h1
      split at h
      · rename_i h2; exact ⟨_, h, by simp only [readVC, h1, h2]⟩
      · exact h.elim
    · exact h.elim
  -- slice
  · split at h
    · rename_i h1 h2; exact ⟨_, h, by simp only [readVC, h1, h2]⟩
    · rename_i h1 h2; exact ⟨_, h, by simp only [readVC, h1, h2]⟩
    · exact h.elim
  -- slice with bounds
  · split at h
    · rename_i h1 h2 h3 h4
      obtain ⟨v, hk, hd⟩ := cut_det h
      exact ⟨v, hk, by simp only [readVC, h1, h2, h3, h4]; exact hd⟩
    · rename_i h1 h2 h3 h4
      obtain ⟨v, hk, hd⟩ := cut_det h
      exact ⟨v, hk, by simp only [readVC, h1, h2, h3, h4]; exact hd⟩
    · rename_i h1 h2 h3 h4
      obtain ⟨v, hk, hd⟩ := cutP_det h
      exact ⟨v, hk, by simp only [readVC, h1, h2, h3, h4]; exact hd⟩
    · rename_i h1 h2 h3 h4
      exact ⟨_, h.2, by simp only [readVC, h1, h2, h3, h4]; exact ⟨h.1, trivial⟩⟩
    · exact h.elim
  · split at h
    · rename_i h1 h2 h3 h4; exact ⟨_, h.2, by simp only [readVC, h1, h2, h3, h4]; exact ⟨h.1, trivial⟩⟩
    · rename_i h1 h2 h3 h4; exact ⟨_, h.2, by simp only [readVC, h1, h2, h3, h4]; exact ⟨h.1, trivial⟩⟩
    · exact h.elim
  · split at h
    · rename_i h1 h2; exact ⟨_, h.2, by simp only [readVC, h1, h2]; exact ⟨h.1, trivial⟩⟩
    · exact h.elim
  -- build
  · split at h
    · rename_i h1 h2
      split at h
      · rename_i h3
        obtain ⟨hb, h⟩ := chk_iff.1 h
        obtain ⟨g, h4, h5⟩ := fillA_det _ h
        refine ⟨_, h4, ?_⟩
        simp only [readVC, h1, h2, h3]
        exact chk_iff.2 ⟨hb, fillA_mono _ (fun g' e => by rw [e]) h5⟩
      · exact h.elim
    · rename_i h1 h2
      split at h
      · rename_i h3
        obtain ⟨hb, h⟩ := chk_iff.1 h
        refine ⟨_, h, ?_⟩
        simp only [readVC, h1, h2, h3]
        exact chk_iff.2 ⟨hb, trivial⟩
      · exact h.elim
    · rename_i h1 h2
      split at h
      · rename_i h3
        obtain ⟨hb, h⟩ := chk_iff.1 h
        obtain ⟨g, h4, h5⟩ := fillP_det _ _ h
        refine ⟨_, h4, ?_⟩
        simp only [readVC, h1, h2, h3]
        exact chk_iff.2 ⟨hb, h5⟩
      · rename_i hn
        split at h
        · rename_i h3
          obtain ⟨hb, h⟩ := chk_iff.1 h
          obtain ⟨g, h4, h5⟩ := fillP_det _ _ h
          refine ⟨_, h4, ?_⟩
          simp only [readVC, h1, h2, h3]
          exact chk_iff.2 ⟨hb, h5⟩
        · exact h.elim
    · exact h.elim
  -- field
  · split at h
    · rename_i h1 h2
      obtain ⟨hb, h⟩ := chk_iff.1 h
      split at h
      · rename_i h3
        refine ⟨_, h, ?_⟩
        simp only [readVC, h1, h2, h3]
        exact chk_iff.2 ⟨hb, trivial⟩
      · exact h.elim
    · exact h.elim
  -- len
  · split at h
    · rename_i h1 h2 h3
      split at h
      · rename_i h4; exact ⟨_, h, by simp only [readVC, h1, h2, h3, h4]⟩
      · rename_i h4; exact ⟨_, h, by simp only [readVC, h1, h2, h3, h4]⟩
      · rename_i h4; exact ⟨_, h, by simp only [readVC, h1, h2, h3, h4]⟩
      · rename_i h4; exact ⟨_, h, by simp only [readVC, h1, h2, h3, h4]⟩
      · rename_i h4; exact ⟨_, h, by simp only [readVC, h1, h2, h3, h4]⟩
      · exact h.elim
    · rename_i h1 h2 h3
      split at h
      · rename_i h4; exact ⟨_, h, by simp only [readVC, h1, h2, h3, h4]⟩
      · rename_i h4; exact ⟨_, h, by simp only [readVC, h1, h2, h3, h4]⟩
      · exact h.elim
    · rename_i h1 h2 h3
      exact ⟨_, h, by simp only [readVC, h1, h2, h3]⟩
    · exact h.elim
  -- makeInterface
  · split at h
    · rename_i h1 h2
      obtain ⟨hb, h⟩ := chk_iff.1 h
      exact ⟨_, h, by simp only [readVC, h1, h2]; exact chk_iff.2 ⟨hb, trivial⟩⟩
    · exact h.elim
  · split at h
    · rename_i h1 h2
      obtain ⟨hb, h⟩ := chk_iff.1 h
      exact ⟨_, h, by simp only [readVC, h1, h2]; exact chk_iff.2 ⟨hb, trivial⟩⟩
    · exact h.elim
  · exact h.elim

theorem fillP_iff : ∀ (l : List (Nat × SV)) (z : SV) {K : SV → Prop}, fillP z l K → ∃ g, ∀ K' : SV → Prop, fillP z l K' ↔ K' g
  | [], z, K, h => ⟨z, fun K' => Iff.rfl⟩
  | (i, v) :: r, z, K, h => by
    unfold fillP at h
    split at h
    · rename_i x o hx
      obtain ⟨hb, h⟩ := chk_iff.1 h
      obtain ⟨g, hg⟩ := fillP_iff r _ h
      exact ⟨g, fun K' => by simp only [fillP, hx, chk_iff, hb, true_and]; exact hg K'⟩
    · exact h.elim
theorem fillA_iff {k : IntKind} {n es : Nat} : ∀ (l : List (Nat × SV)) {f : Nat → Int} {K : (Nat → Int) → Prop}, fillA k n es f l K → ∃ g, ∀ K' : (Nat → Int) → Prop, fillA k n es f l K' ↔ K' g
  | [], f, K, h => ⟨f, fun K' => Iff.rfl⟩
  | (i, v) :: r, f, K, h => by
    cases v with
    | int k' y => obtain ⟨hb, h⟩ := chk_iff.1 h; obtain ⟨g, hg⟩ := fillA_iff r h; exact ⟨g, fun K' => by simp only [fillA, chk_iff, hb, true_and]; exact hg K'⟩
    | ints k' m g => obtain ⟨hb, h⟩ := chk_iff.1 h; obtain ⟨g, hg⟩ := fillA_iff r h; exact ⟨g, fun K' => by simp only [fillA, chk_iff, hb, true_and]; exact hg K'⟩
    | _ => exact h.elim

theorem fillV_iff {n : Nat} : ∀ (l : List (Nat × SV)) {h : Nat → SV} {K : (Nat → SV) → Prop}, fillV n h l K → ∃ g, ∀ K' : (Nat → SV) → Prop, fillV n h l K' ↔ K' g
  | [], h, K, _ => ⟨h, fun K' => Iff.rfl⟩
  | (i, v) :: r, h, K, hk => by
    obtain ⟨hb, hk⟩ := chk_iff.1 hk
    obtain ⟨g, hg⟩ := fillV_iff r hk
    exact ⟨g, fun K' => by simp only [fillV, chk_iff, hb, true_and]; exact hg K'⟩

theorem new_iff {T : Tab} {op : Op} {s : Slots} {K : SV → (Nat → SV) → Prop} (h : newVC T op s K) :
    ∃ v mk, (∀ K' : SV → (Nat → SV) → Prop, newVC T op s K' ↔ K' v mk) ∧ ∃ g : Nat → Value, ∀ (μ : Nat → Nat) (id : Nat), toVal μ (mk id) = g (μ id) := by
  unfold newVC at h
  split at h
  · split at h
    · rename_i z hz
      obtain ⟨hb, _⟩ := chk_iff.1 h
      exact ⟨z, fun id => .ptr id [] 0 0, fun K' => by simp only [newVC, hz, chk_iff, hb, true_and], fun b => .pointer (some ⟨b, 0, none⟩), fun μ id => rfl⟩
    · exact h.elim
  · split at h
    · rename_i z hz
      obtain ⟨hb, _⟩ := chk_iff.1 h
      exact ⟨z, fun id => .ptr id [] 0 0, fun K' => by simp only [newVC, hz, chk_iff, hb, true_and], fun b => .pointer (some ⟨b, 0, none⟩), fun μ id => rfl⟩
    · exact h.elim
  · rename_i t len parts
    split at h
    · rename_i es k mm f l hti hz hp
      obtain ⟨hb, h⟩ := chk_iff.1 h
      obtain ⟨g, hg⟩ := fillA_iff _ h
      refine ⟨.ints k (len * es) g, fun id => .sl id 0 len len, fun K' => ?_, fun b => .slice (some ⟨b, 0, none⟩) len len, fun μ id => rfl⟩
      simp only [newVC, hti, hz, hp, chk_iff, hb, true_and]
      exact hg _
    · rename_i l hti hz hp
      split at h
      · rename_i he
        obtain ⟨hb, h⟩ := chk_iff.1 h
        obtain ⟨g, hg⟩ := fillV_iff _ h
        refine ⟨.vec len g, fun id => .sl id 0 len len, fun K' => ?_, fun b => .slice (some ⟨b, 0, none⟩) len len, fun μ id => rfl⟩
        simp only [newVC, hti, hp, he, Option.bind_some, elemRow, chk_iff, hb, true_and]
        exact hg _
      · exact h.elim
    · rename_i es l hti hz hp
      split at h
      · rename_i za zb he
        obtain ⟨hb, h⟩ := chk_iff.1 h
        obtain ⟨g, hg⟩ := fillP_iff _ _ h
        refine ⟨g, fun id => .sl id 0 len len, fun K' => ?_, fun b => .slice (some ⟨b, 0, none⟩) len len, fun μ id => rfl⟩
        simp only [newVC, hti, hp, he, Option.bind_some, elemRow, chk_iff, hb, true_and]
        exact hg _
      · exact h.elim
    · exact h.elim
  · split at h
    · rename_i es by_ z k1 l k2 c h1 h2 h3 h4 h5
      split at h
      · rename_i v hv
        exact ⟨v, fun id => .sl id 0 l.toNat c.toNat, fun K' => by simp only [newVC, h1, h2, h3, h4, h5, hv]; exact ⟨fun hh => hh.2, fun hh => ⟨h.1, hh⟩⟩, fun b => .slice (some ⟨b, 0, none⟩) l.toNat c.toNat, fun μ id => rfl⟩
      · exact h.elim
    · exact h.elim
  · exact h.elim

/-! ### worlds of the head -/
theorem RunS.grow {μ0 : Nat → Nat} {m0 : Mem} {w0 : World} {μ : Nat → Nat} {m : Mem} {w w' : World} (h : RunS μ0 m0 w0 μ m w) (hs : w.heap.size ≤ w'.heap.size) (hk : ∀ b, b < w.heap.size → w'.heap[b]? = w.heap[b]?)
    (hr : w'.os = w.os ∧ w'.output = w.output ∧ w'.tape = w.tape) (hf : ∀ a, w'.frozen? a = w.frozen? a) : RunS μ0 m0 w0 μ m w' :=
  ⟨⟨fun id v c hb => by
      obtain ⟨t, ex, hh, hl⟩ := h.mr.blk id v c hb
      exact ⟨t, ex, by rw [hk _ (Array.getElem?_eq_some_iff.1 hh).1]; exact hh, hl⟩, h.mr.inj, h.mr.ids⟩, h.len, h.agree, h.live, h.fresh,
   ⟨Nat.le_trans h.kept.size hs, fun b hb hne => by rw [hk b (Nat.lt_of_lt_of_le hb h.kept.size)]; exact h.kept.old b hb hne,
    ⟨hr.1.trans h.kept.rest.1, hr.2.1.trans h.kept.rest.2.1, hr.2.2.trans h.kept.rest.2.2⟩, fun a => by rw [hf]; exact h.kept.fro a⟩⟩

theorem RunS.made {μ0 : Nat → Nat} {m0 : Mem} {w0 : World} {μ : Nat → Nat} {m : Mem} {w : World} (h : RunS μ0 m0 w0 μ m w) (c : Array Value) (t : TypeId) : RunS μ0 m0 w0 μ m (w.alloc (.cells c t)) :=
  h.grow (by rw [push_size]; omega) (fun b hb => push_old w _ hb) ⟨rfl, rfl, rfl⟩ fun a => push_frozen w c t a

/-- a block that lies there becomes known -/
theorem RunS.adopt {μ0 : Nat → Nat} {m0 : Mem} {w0 : World} {μ : Nat → Nat} {m : Mem} {w : World} (h : RunS μ0 m0 w0 μ m w) {v : SV} (hv : ∀ id ∈ v.ids, id < m.length) {t : TypeId} {b : Nat}
    (hb : w.heap[b]? = some (.cells (flat μ v).toArray t (0, 0))) (hne : ∀ id, (blockOf m id).isSome = true → μ id ≠ b) (h0 : w0.heap.size ≤ b) : RunS μ0 m0 w0 (ext μ m.length b) (m ++ [some (v, v.size)]) w := by
  have cases' : ∀ i, (blockOf (m ++ [some (v, v.size)]) i).isSome = true → (i < m.length ∧ (blockOf m i).isSome = true) ∨ i = m.length := by
    intro i hi
    rcases Nat.lt_or_ge i m.length with hlt | hge
    · rw [blockOf_append_lt m _ i hlt] at hi; exact .inl ⟨hlt, hi⟩
    · right
      have := blockOf_lt hi
      simp at this
      omega
  have last : ∀ u c, blockOf (m ++ [some (v, v.size)]) m.length = some (u, c) → u = v ∧ c = v.size := fun u c hh => by
    have := blockOf_append_ge m [some (v, v.size)] 0
    rw [Nat.add_zero] at this
    rw [this] at hh
    simp only [blockOf, Option.some.injEq, Prod.mk.injEq] at hh
    exact ⟨hh.1.symm, hh.2.symm⟩
  refine ⟨⟨fun id u c hbk => ?_, fun i j hi hj he => ?_, fun id u c hbk i hi => ?_⟩, by simp; have := h.len; omega, fun id hid => ?_, fun id hid hs => ?_, fun id hid hs => ?_, h.kept⟩
  · rcases cases' id (by rw [hbk]; rfl) with ⟨hlt, _⟩ | rfl
    · rw [blockOf_append_lt m _ id hlt] at hbk
      obtain ⟨t', ex, hh, hl⟩ := h.mr.blk id u c hbk
      refine ⟨t', ex, ?_, by rw [flat_length] at hl ⊢; exact hl⟩
      rw [ext_old hlt, hh, flat_ids (μ := μ) (μ' := ext μ m.length b) u (fun i hi => (ext_old (h.mr.ids id u c hbk i hi)).symm)]
    · obtain ⟨rfl, rfl⟩ := last u c hbk
      refine ⟨t, [], ?_, by simp [flat_length]⟩
      rw [ext_new, hb, flat_ids (μ := μ) (μ' := ext μ m.length b) _ (fun i hi => (ext_old (hv i hi)).symm)]
      simp
  · rcases cases' i hi with ⟨h1, h2⟩ | rfl <;> rcases cases' j hj with ⟨h3, h4⟩ | rfl
    · rw [ext_old h1, ext_old h3] at he; exact h.mr.inj i j h2 h4 he
    · rw [ext_old h1, ext_new] at he; exact absurd he (hne i h2)
    · rw [ext_old h3, ext_new] at he; exact absurd he.symm (hne j h4)
    · rfl
  · have : i < m.length := by
      rcases cases' id (by rw [hbk]; rfl) with ⟨hlt, _⟩ | rfl
      · rw [blockOf_append_lt m _ id hlt] at hbk
        exact h.mr.ids id u c hbk i hi
      · obtain ⟨rfl, rfl⟩ := last u c hbk
        exact hv i hi
    simp; omega
  · rw [ext_old (by have := h.len; omega)]; exact h.agree id hid
  · rw [blockOf_append_lt m _ id (by have := h.len; omega)] at hs; exact h.live id hid hs
  · rcases cases' id hs with ⟨hlt, h2⟩ | rfl
    · rw [ext_old hlt]; exact h.fresh id hid h2
    · rw [ext_new]; exact h0

/-- a block that is not among the known ones may change -/
theorem RunS.apart {μ0 : Nat → Nat} {m0 : Mem} {w0 : World} {μ : Nat → Nat} {m : Mem} {w w' : World} (h : RunS μ0 m0 w0 μ m w) {c : Nat} (hs : w'.heap.size = w.heap.size) (hk : ∀ b, b ≠ c → w'.heap[b]? = w.heap[b]?)
    (hc : ∀ id, (blockOf m id).isSome = true → μ id ≠ c) (h0 : w0.heap.size ≤ c) (hr : w'.os = w.os ∧ w'.output = w.output ∧ w'.tape = w.tape) (hf : ∀ a, w'.frozen? a = w.frozen? a) : RunS μ0 m0 w0 μ m w' :=
  ⟨⟨fun id v k hb => by
      obtain ⟨t, ex, hh, hl⟩ := h.mr.blk id v k hb
      exact ⟨t, ex, by rw [hk _ (hc id (by rw [hb]; rfl))]; exact hh, hl⟩, h.mr.inj, h.mr.ids⟩, h.len, h.agree, h.live, h.fresh,
   ⟨by rw [hs]; exact h.kept.size, fun b hb hne => by rw [hk b (by omega)]; exact h.kept.old b hb hne,
    ⟨hr.1.trans h.kept.rest.1, hr.2.1.trans h.kept.rest.2.1, hr.2.2.trans h.kept.rest.2.2⟩, fun a => by rw [hf]; exact h.kept.fro a⟩⟩

theorem putAt_iff {ag : Option Nat} {sub x : SV} {off : Nat} {K : SV → Prop} (h : putAt ag sub off x K) : ∃ u, ∀ K' : SV → Prop, putAt ag sub off x K' ↔ K' u := by
  cases sub <;> cases ag <;> cases x <;> simp only [putAt] at h ⊢ <;>
    first
    | exact h.elim
    | (obtain ⟨hb, h3, _⟩ := chk_iff.1 h; exact ⟨_, fun K' => by simp only [chk_iff, hb, true_and, h3]; exact Iff.rfl⟩)
    | (obtain ⟨hb, _⟩ := chk_iff.1 h; exact ⟨_, fun K' => by simp only [chk_iff, hb, true_and]; exact Iff.rfl⟩)

theorem guard_sound {N : Nat} {μ : Nat → Nat} {L : Nat} {s : Slots} {a : Act} {ops : Array Oper} {o : Oper} {X Y : Slots → Prop} (hs : SRel N μ L s a) (h : guardVC ops N o s X Y) :
    ∃ s1, SRel N μ L s1 a ∧ ((Region.wanted o (yielded ops a.tmps) = true ∧ X s1) ∨ (Region.wanted o (yielded ops a.tmps) = false ∧ Y s1)) := by
  unfold guardVC at h
  split at h
  · rename_i hg
    exact ⟨s, hs, .inl ⟨by simp [Region.wanted, hg], h⟩⟩
  · rename_i g want hg
    split at h
    · rename_i t ht
      split at h
      · rename_i b hb
        have h1 := hs.val t _ hb
        have hlt : t < a.tmps.size := by
          rcases Nat.lt_or_ge t a.tmps.size with h' | h'
          · exact h'
          · have := h1.1; simp [Array.getElem?_eq_none h', Go.undef, toVal, scal] at this
        have hty : yielded ops a.tmps g = some b := by
          unfold yielded
          have h2 := h1.1
          simp only [ht, Option.bind_some, Array.getElem?_eq_getElem hlt]
          simp [hlt, toVal, scal] at h2
          rw [h2]
        have hs2 : ∀ b', b' = b → SRel N μ L ((t, .bool b') :: s) a := fun b' e => ⟨hs.size, hs.defers, fun k v hk => by
          rw [lk_cons] at hk
          by_cases htk : t = k
          · subst htk
            rw [if_pos rfl] at hk
            cases hk
            rw [e]
            exact h1
          · rw [if_neg htk] at hk
            exact hs.val k v hk⟩
        cases b <;> cases want <;> simp only [ifVC] at h
        · exact ⟨_, hs2 _ rfl, .inl ⟨by simp [Region.wanted, hg, hty], h⟩⟩
        · exact ⟨_, hs2 _ rfl, .inr ⟨by simp [Region.wanted, hg, hty], h⟩⟩
        · exact ⟨_, hs2 _ rfl, .inr ⟨by simp [Region.wanted, hg, hty], h⟩⟩
        · exact ⟨_, hs2 _ rfl, .inl ⟨by simp [Region.wanted, hg, hty], h⟩⟩
      · rename_i hb
        have h1 := hs.val t _ hb
        have hty : yielded ops a.tmps g = none := by
          unfold yielded
          have h2 := h1.1
          simp only [ht, Option.bind_some]
          rcases Nat.lt_or_ge t a.tmps.size with h' | h'
          · rw [Array.getElem?_eq_getElem h']
            simp [h', toVal, scal, Go.undef] at h2
            rw [h2]
          · rw [Array.getElem?_eq_none h']
        exact ⟨s, hs, .inr ⟨by simp [Region.wanted, hg, hty], h⟩⟩
      · exact h.elim
    · exact h.elim

theorem MR.nil (μ : Nat → Nat) (w : World) : MR μ [] w := ⟨fun id v c h => (by cases h), fun i j h => (by cases h), fun id v c h => (by cases h)⟩

def Headed (P : Program) (ops : Array Oper) (E : World → Prop) (N n : Nat) (μ : Nat → Nat) (L i : Nat) (a : Act) (K : Slots → Prop) : Prop :=
  ∃ A s', SRel N μ L s' A ∧ K s' ∧ (∀ x, (∀ j, i ≤ j → j < n → dstOf ops j ≠ some x) → A.tmps.getD x undef = a.tmps.getD x undef) ∧
    ∀ j o d, i ≤ j → j < n → ops[j]? = some o → isNew o.op = false → o.dst = some d → Yl P ops E o A (A.tmps.getD d undef)

/-- the head in the text's order: the frame that it ends with, if what it makes is left out -/
theorem head_pass {T : Tab} (hT : TabOK P T) (hE : TabEq P T) {μ0 : Nat → Nat} {m0 : Mem} {w0 : World} {μ : Nat → Nat} {m : Mem} {w : World} (hr : RunS μ0 m0 w0 μ m w) {N n : Nat} {ops : Array Oper}
    (hall : ∀ i, i < n → headB N ops n i = true) (hsel : Region.noSelect ops = true) :
    ∀ (l : List Oper) (i : Nat) (s : Slots) (a : Act) (K : Slots → Prop), (∀ j, j < l.length → l[j]? = ops[i + j]?) → i + l.length = n → SRel N μ m.length s a → headVC P T N ops m l s K →
      Headed P ops (fun w => RunS μ0 m0 w0 μ m w) N n μ m.length i a K
  | [], i, s, a, K, hl, hi, hs, h => ⟨a, s, hs, h, fun _ _ => rfl, fun j o d h1 h2 => by simp at hi; omega⟩
  | o :: r, i, s, a, K, hl, hi, hs, h => by
    have h0 : ops[i]? = some o := by simpa using (hl 0 (by simp)).symm
    have hin : i < n := by simp only [List.length_cons] at hi; omega
    have hl' : ∀ j, j < r.length → r[j]? = ops[i + 1 + j]? := fun j hj => by have := hl (j + 1) (by simp; omega); simpa [Nat.add_assoc, Nat.add_comm 1 j] using this
    have hi' : i + 1 + r.length = n := by simp only [List.length_cons] at hi; omega
    have hback := headB_back h0 (hall i hin)
    unfold headVC at h
    split at h
    · rename_i hn
      obtain ⟨A, s', g1, g2, g3, g4⟩ := head_pass hT hE hr hall hsel r (i + 1) s a K hl' hi' hs h
      refine ⟨A, s', g1, g2, fun x hx => g3 x fun j hj hjn => hx j (by omega) hjn, fun j oj dj hij hj hoj hnj hdj => ?_⟩
      by_cases hji : j = i
      · subst hji
        rw [h0] at hoj; cases hoj
        have hsj := dst_not_sto h0 hdj (hall j hin)
        rw [hnj, hsj] at hn; cases hn
      · exact g4 j oj dj (by omega) hj hoj hnj hdj
    rename_i hno
    have hn : isNew o.op = false := by simp only [Bool.or_eq_false_iff] at hno; exact hno.1
    have hso : isSto o.op = false := by simp only [Bool.or_eq_false_iff] at hno; exact hno.2
    obtain ⟨⟨d, hd, hdN⟩, hguard, hdist, hlook⟩ := headB_spec h0 hso (hall i hin)
    have hdi : dstOf ops i = some d := by simp [dstOf, h0, hd]
    have fin : ∀ (v : Value) (s2 : Slots), isNew o.op = false → SRel N μ m.length s2 (a.put o.dst v) → headVC P T N ops m r s2 K → Yl P ops (fun w => RunS μ0 m0 w0 μ m w) o a v →
        Headed P ops (fun w => RunS μ0 m0 w0 μ m w) N n μ m.length i a K := by
      intro v s2 hn hs2 h2 hY
      obtain ⟨A, s', g1, g2, g3, g4⟩ := head_pass hT hE hr hall hsel r (i + 1) s2 (a.put o.dst v) K hl' hi' hs2 h2
      have putne : ∀ x, d ≠ x → (a.put o.dst v).tmps.getD x undef = a.tmps.getD x undef := fun x hx => by rw [hd, getD_put, if_neg (fun hh => hx hh.1)]
      refine ⟨A, s', g1, g2, fun x hx => ?_, fun j oj dj hij hj hoj hnj hdj => ?_⟩
      · rw [g3 x (fun j hj hjn => hx j (by omega) hjn)]
        exact putne x fun e => hx i (Nat.le_refl _) hin (by rw [hdi, e])
      · by_cases hji : j = i
        · subst hji
          rw [h0] at hoj; cases hoj
          rw [hd] at hdj; cases hdj
          have hval : A.tmps.getD d undef = v := by
            rw [g3 d (fun k hk hkn hh => hdist k hkn (by omega) (by rw [hh, hdi])), hd, getD_put, if_pos ⟨rfl, by rw [hs.size]; exact hdN⟩]
          rw [hval]
          have hag : Agree ops o A a := fun t ht => by
            refine ⟨?_, by rw [g1.size, hs.size]⟩
            by_cases hex : ∃ k, k < n ∧ dstOf ops k = some t
            · obtain ⟨k, hk, hdk⟩ := hex
              obtain ⟨hwt, _⟩ := hlook k t hk hdk ht
              obtain ⟨o', ho', e, he, hb, hon⟩ := Region.waitsFor_spec hwt
              rw [h0] at ho'; cases ho'
              have hki : k < j := by rw [← hon]; exact hback e he hb
              cases hok : ops[k]? with
              | none => simp [dstOf, hok] at hdk
              | some ok =>
                have hdk' := (headB_spec hok (dst_not_sto hok (by simpa [dstOf, hok] using hdk) (hall k hk)) (hall k hk)).2.2.1
                rw [g3 t (fun q hq hqn hh => hdk' q hqn (by omega) (by rw [hh, hdk]))]
                exact putne t fun e => hdk' j hin (by omega) (by rw [hdi, hdk, e])
            · rw [g3 t (fun q hq hqn hh => hex ⟨q, hqn, hh⟩)]
              exact putne t fun e => hex ⟨j, hin, by rw [hdi, e]⟩
          exact hY.congr (hag.exec (Region.noSelect_spec hsel j o · · h0)) hag.wanted
        · exact g4 j oj dj (by omega) hj hoj hnj hdj
    · obtain ⟨s1, hs1, ⟨hw, h⟩ | ⟨hw, h⟩⟩ := guard_sound hs h
      · have readCase : readVC T o.op s1 m (fun v => headVC P T N ops m r (sset N s1 o.dst v) K) → Headed P ops (fun w => RunS μ0 m0 w0 μ m w) N n μ m.length i a K := fun h => by
          obtain ⟨v, h1, h2⟩ := read_det h
          obtain ⟨v', e, hids, _⟩ := read_sound hT hE hs1 hr.mr h2
          subst e
          refine fin (toVal μ v') _ hn (hs1.put o.dst v' hids) h1 (.inl ⟨hw, fun w' hw' => .inl ?_⟩)
          obtain ⟨v'', e, _, hrun⟩ := read_sound hT hE hs1 hw'.mr h2
          subst e
          exact hrun
        split at h
        · rename_i c ho
          split at h
          · rename_i x hcal
            split at h
            · rename_i f args hx hargs
              obtain ⟨v, ⟨ha, hv, hsp⟩, h⟩ := h
              have h1 := ev_sound hs1 hx
              have h2 := evs_sound hs1 hargs
              refine fin (toVal μ v) _ hn (hs1.put o.dst v (by rw [hv]; intro id hh; cases hh)) h (.inl ⟨hw, fun w' hw' => .inr ⟨f, (args.map (toVal μ)).toArray, ?_, ?_⟩⟩)
              · have hav : c.args.map a.eval = (args.map (toVal μ)).toArray := by
                  apply Array.ext'
                  rw [Array.toList_map, h2.1]
                have hfv : a.eval x = .func (.func f) #[] #[] := h1.1
                have hen := hsp.enters
                simp only [execOp, ho, resolve, hcal, hfv, Deferred.ofValue, hav, Sem.run_bind, Sem.run_pure, Result.andThen_ok, invoke]
                simp [hen]
              · refine (hsp.run μ w' (MR.nil μ w')).mono ?_
                rintro e w'' ⟨μ', r', m', rfl, rfl, _, _, _, _, _, hk⟩
                refine ⟨by rw [toVal_ids (μ := μ') (μ' := μ) r' (by rw [hv]; intro id hh; cases hh)], hw'.grow hk.size (fun b hb => hk.old b hb fun id hh => by cases hh) hk.rest hk.fro, hk.size, fun b hb => hk.old b hb fun id hh => by cases hh⟩
            · exact h.elim
          · rw [← ho] at h; exact readCase h
        · exact readCase h
      · exact fin undef _ hn (hs1.skip o.dst) h (.inr ⟨hw, rfl⟩)
end Go.Proofs.YtjanlnngeklhoabGreat

/- Whatever order a region draws, it ends as its head in the text's order, with what it made taken up afterwards, and then its tail. -/
set_option linter.unusedVariables false
set_option linter.unusedSimpArgs false
namespace Go.Proofs.YtjanlnngeklhoabGreat
variable {P : Program}

theorem least_of {p : Nat → Prop} : ∀ i, p i → ∃ k, p k ∧ ∀ j, j < k → ¬ p j := by
  intro i
  induction i using Nat.strongRecOn with
  | _ i ih =>
    intro hi
    by_cases h : ∃ j, j < i ∧ p j
    · obtain ⟨j, hj, hp⟩ := h; exact ih j hj hp
    · exact ⟨i, hi, fun j hj hp => h ⟨j, hj, hp⟩⟩

def fullTo (ops : Array Oper) (n : Nat) : Array Bool := ((List.range ops.size).map fun i => decide (i < n)).toArray

theorem full_of {ops : Array Oper} {n : Nat} {listed : Array Bool} (inv : HeadInv .any ops n listed) (h : ∀ j, j < n → listed.getD j true = true) : listed = fullTo ops n := by
  apply Array.ext
  · simp [fullTo, inv.size]
  · intro i h1 h2
    have hi : i < ops.size := by rw [← inv.size]; exact h1
    have hr : (fullTo ops n)[i] = decide (i < n) := by simp [fullTo]
    rw [hr]
    by_cases hin : i < n
    · have := h i hin
      simp [h1] at this
      simp [this, hin]
    · have := inv.tail i (by omega) hi
      simp [h1] at this
      simp [this, hin]

section
variable {N : Nat} {ops : Array Oper} {n : Nat} {A : Act} {E : World → Prop} {B : Nat} {mkv : Nat → Nat → Value} {cell cell2 : Nat → Array Value} {typ : Nat → TypeId}

theorem mid_any {Q : Exit → Act → World → Prop} {g : Nat} (hsel : Region.noSelect ops = true) (hs : Region.sinkB .any ops n = true) (hc : Region.chainB .any ops n = true) (hn : n < ops.size) (hall : ∀ i, i < n → headB N ops n i = true)
    (hold : ∀ i o d, i < n → ops[i]? = some o → isNew o.op = false → o.dst = some d → Yl P ops E o A (A.tmps.getD d undef))
    (hnew : ∀ i o, i < n → ops[i]? = some o → isNew o.op = true → Made P o A (mkv i) (cell i) (typ i))
    (hsto : StoOK P ops n A E B mkv cell cell2 typ)
    (hbound : ∀ i o d, i < n → ops[i]? = some o → isNew o.op = true → o.dst = some d → d < A.tmps.size)
    (hEa : ∀ w c t, E w → E (w.alloc (.cells c t))) (hend : ∀ a w β, Mid P ops n A E B mkv cell cell2 typ (fullTo ops n) a w β → wpAny P .any ops Q g (fullTo ops n) a w) :
    ∀ (k : Nat) (l : List Nat) (listed : Array Bool) (a : Act) (w : World) (β : Nat → Nat), l.length = k → l.Nodup → (∀ j, j ∈ l ↔ j < n ∧ listed.getD j true = false) → HeadInv .any ops n listed →
      Mid P ops n A E B mkv cell cell2 typ listed a w β → wpAny P .any ops Q (k + g) listed a w := by
  intro k
  induction k with
  | zero =>
    intro l listed a w β hk hnd hl inv hm
    have : l = [] := List.eq_nil_of_length_eq_zero hk
    subst this
    have hf := full_of inv fun j hj => by
      cases hb : listed.getD j true with
      | true => rfl
      | false => exact absurd ((hl j).2 ⟨hj, hb⟩) (by simp)
    subst hf
    rw [Nat.zero_add]
    exact hend a w β hm
  | succ k ih =>
    intro l listed a w β hk hnd hl inv hm
    rw [show k + 1 + g = (k + g) + 1 by omega]
    obtain ⟨i0, hi0⟩ : ∃ i, i ∈ l := by
      cases l with
      | nil => simp at hk
      | cons x r => exact ⟨x, by simp⟩
    obtain ⟨hi0n, hi0u⟩ := (hl i0).1 hi0
    obtain ⟨q, ⟨hqn, hqu⟩, hql⟩ := least_of (p := fun j => j < n ∧ listed.getD j true = false) i0 ⟨hi0n, hi0u⟩
    have hqr : q ∈ Region.ready .any ops listed := by
      have hqs : q < ops.size := by omega
      refine mem_ready.2 ⟨hqu, ops[q], Array.getElem?_eq_getElem hqs, fun e he hb => ?_⟩
      have hlt := headB_back (Array.getElem?_eq_getElem hqs) (hall q hqn) e he hb
      have := hql e.on hlt
      have hes : e.on < listed.size := by rw [inv.size]; omega
      cases hb' : listed.getD e.on false with
      | true => rfl
      | false => exact absurd ⟨by omega, getD_in hes hb'⟩ this
    refine ⟨fun h0 => (by rw [h0] at hqr; cases hqr), fun i hi => ?_⟩
    have hin : i < n := by
      rcases Nat.lt_or_ge i n with h | h
      · exact h
      · exact absurd hi (tail_waits hs hc hn inv _ i0 rfl hi0n hi0u i h)
    have hil : i ∈ l := (hl i).2 ⟨hin, (mem_ready.1 hi).1⟩
    refine mid_step hsel hall hold hnew hsto hbound hEa hm hin inv.size hi fun a' w' β' hm' => ih (l.erase i) _ a' w' β' (by rw [List.length_erase_of_mem hil]; omega) (hnd.erase i) (fun j => ?_) (inv.set hi hin) hm'
    rw [hnd.mem_erase_iff, hl j]
    constructor
    · rintro ⟨h1, h2, h3⟩
      exact ⟨h2, by rw [getD_set_ne true (fun e => h1 e.symm)]; exact h3⟩
    · rintro ⟨h1, h2⟩
      have hij : i ≠ j := by
        rintro rfl
        have : i < listed.size := by rw [inv.size]; omega
        simp [this] at h2
      rw [getD_set_ne true hij] at h2
      exact ⟨fun e => hij e.symm, h1, h2⟩
end

/-- what is made by one operation: what the block holds first and in the end, and what is yielded -/
structure MB where
  v : SV
  u : SV
  sl : Nat → SV
  g : Nat → Value
  t : TypeId
/-- what is made by one operation, and stored into by another, if it is -/
structure MadeBy (P : Program) (T : Tab) (s0 : Slots) (μ : Nat → Nat) (L : Nat) (A : Act) (o : Oper) (st : Option (Nat × Operand)) (p : MB) : Prop where
  iff : ∀ K' : SV → (Nat → SV) → Prop, (newVC T o.op s0 fun v mk => stoVC T s0 st v fun u => K' u mk) ↔ K' p.u p.sl
  shape : ∀ (μ' : Nat → Nat) (id : Nat), toVal μ' (p.sl id) = p.g (μ' id)
  ids : ∀ id ∈ p.u.ids, id < L
  one : ∀ id, (p.sl id).ids = [id]
  ptr : isPtr o.op = true → ∀ b, p.g b = .pointer (some ⟨b, 0, none⟩)
  run : ∀ w, (execOp A.eval o).run P w = .ok (.value (p.g w.heap.size)) (w.alloc (.cells (flat μ p.v).toArray p.t))
  same : st = none → p.u = p.v
  sto : ∀ t y, st = some (t, y) → ∀ (a' : Act) (o' : Oper) x w b, o'.op = .store t (.tmp x) y → a'.eval (.tmp x) = .pointer (some ⟨b, 0, none⟩) → a'.eval y = A.eval y → w.heap[b]? = some (.cells (flat μ p.v).toArray p.t (0, 0)) →
    ∃ cs, (execOp a'.eval o').run P w = .ok .skip (w.setCells b 0 cs) ∧ (w.setCells b 0 cs).heap[b]? = some (.cells (flat μ p.u).toArray p.t (0, 0))

instance : Nonempty MB := ⟨⟨.unit, .unit, fun _ => .unit, fun _ => undef, (0 : Nat)⟩⟩
noncomputable def madeOf (P : Program) (T : Tab) (s0 : Slots) (μ : Nat → Nat) (L : Nat) (A : Act) (o : Oper) (st : Option (Nat × Operand)) : MB := Classical.epsilon (MadeBy P T s0 μ L A o st)

/-- a store over the head of a block that lies there -/
theorem store_fresh {T : Tab} (hT : TabOK P T) {μ : Nat → Nat} {t : Nat} {v u : SV} {K : SV → Prop} (hk : (T.ti t).known = true) (h : putAt (T.ti t).agg v 0 u K) :
    ∃ v', K v' ∧ (∀ i ∈ v'.ids, i ∈ u.ids ∨ i ∈ v.ids) ∧ ∀ (ev : Operand → Value) (o' : Oper) (x : Tmp) (y : Operand) (w : World) (b : Nat) (ty : TypeId), o'.op = .store t (.tmp x) y → ev (.tmp x) = .pointer (some ⟨b, 0, none⟩) → ev y = toVal μ u →
      w.heap[b]? = some (.cells (flat μ v).toArray ty (0, 0)) → (execOp ev o').run P w = .ok .skip (w.setCells b 0 (flat μ u)) ∧ (w.setCells b 0 (flat μ u)).heap[b]? = some (.cells (flat μ v').toArray ty (0, 0)) := by
  obtain ⟨v', hv', hf, hl, hi, hcase, hwf⟩ := putAt_flat μ h
  refine ⟨v', hv', hi, fun ev o' x y w b ty ho hx hy hb => ⟨?_, ?_⟩⟩
  · obtain ⟨dst, op, type, pos, after, guard⟩ := o'
    simp only at ho
    subst ho
    have hth : w.there b (0 + 0) (flat μ u).length := fun j hj => by
      have hj' : j < (flat μ v).length := by omega
      simp [World.cell?, World.frozen?, hb, hj']
    have hone := flat_one μ u hwf
    rcases hcase with ⟨n, hag, hn, hval⟩ | ⟨hag, hleaf⟩
    · obtain ⟨d, d1, d2, d3⟩ := agg_row hT hag
      have := run_storeAt_mid (P := P) w b 0 t (flat μ u).toArray (by simpa using hth) (by rw [d3]; simp [hn]) (all_oneCell_toArray hone)
      simp only [execOp, hx, hy, hval]
      simp only [Sem.run_bind, this]
      rfl
    · obtain ⟨d, d1, d2, d3⟩ := agg_scalar hT hag (by intro hh; rw [hh] at hk; cases hk)
      obtain ⟨f1, f2⟩ := toVal_leaf (μ := μ) hleaf
      have hcell := hth 0 (by rw [f1]; simp)
      simp only [Nat.add_zero] at hcell
      obtain ⟨c, hc⟩ := Option.isSome_iff_exists.1 hcell.1
      have hone' : (scal μ u).oneCell' = true := hone _ (by rw [f1]; simp)
      have hst := run_store P w ⟨b, 0, none⟩ (scal μ u) .plain hone'
      rw [hc] at hst
      simp only [hcell.2, Bool.false_eq_true, if_false] at hst
      have hcs : (scal μ u).cells = #[scal μ u] := by
        have := cells_toVal μ u (.inl hleaf)
        rw [f1, f2] at this
        simpa using this
      have hsz := run_sizeOf_of (P := P) d3 w
      simp only [execOp, hx, hy, f2]
      simp only [Instr.storeAt, Instr.sureAddr, storeVar, Sem.run_bind, Sem.run_pure, Result.andThen_ok, hsz, hcs]
      rw [f1]
      simp [storeCells, hst, World.setCells, addr_add, Sem.run_bind]
  · rw [setCells_heap b ty (flat μ u) 0 w _ hb (by simpa using hl), hf]

theorem madeOf_spec {T : Tab} (hT : TabOK P T) {N : Nat} {μ : Nat → Nat} {m : Mem} {s0 : Slots} {A : Act} (hs : SRel N μ m.length s0 A) {o : Oper} {st : Option (Nat × Operand)} {K : SV → (Nat → SV) → Prop} (h : newVC T o.op s0 fun v mk => stoVC T s0 st v fun u => K u mk) :
    MadeBy P T s0 μ m.length A o st (madeOf P T s0 μ m.length A o st) := by
  refine Classical.epsilon_spec (p := MadeBy P T s0 μ m.length A o st) ?_
  obtain ⟨v, mk, hi, g, hg⟩ := new_iff h
  obtain ⟨v', mk', t, hk, hids, hone, hrun⟩ := new_sound hT hs (K := fun a b => a = v ∧ b = mk) ((hi _).2 ⟨rfl, rfl⟩)
  obtain ⟨rfl, rfl⟩ := hk
  have hptr : isPtr o.op = true → ∀ b, g b = .pointer (some ⟨b, 0, none⟩) := fun hp b => by
    have e : mk' = fun id => .ptr id [] 0 0 := by
      have h2 := (hi (fun a b => b = mk')).2 rfl
      revert h2
      cases ho : o.op <;> rw [ho] at hp <;> simp only [isPtr, Bool.false_eq_true] at hp
      · simp only [newVC]
        split
        · intro h2; exact (chk_iff.1 h2).2.symm
        · exact fun h2 => h2.elim
      · simp only [newVC]
        split
        · intro h2; exact (chk_iff.1 h2).2.symm
        · exact fun h2 => h2.elim
    have := hg (fun _ => b) 0
    rw [e] at this
    exact this.symm
  have hrun' : ∀ w, (execOp A.eval o).run P w = .ok (.value (g w.heap.size)) (w.alloc (.cells (flat μ v').toArray t)) := fun w => by
    have := hrun w
    rw [hg, ext_new] at this
    exact this
  have h := (hi _).1 h
  cases st with
  | none => exact ⟨⟨v', v', mk', g, t⟩, fun K' => hi _, hg, hids, hone, hptr, hrun', fun _ => rfl, fun t y hh => by cases hh⟩
  | some ty =>
    obtain ⟨t2, y⟩ := ty
    unfold stoVC at h
    dsimp only at h
    split at h
    · rename_i u hu
      obtain ⟨hkn, h⟩ := chk_iff.1 h
      obtain ⟨v2, hv2⟩ := putAt_iff h
      obtain ⟨v3, e3, hsub, hst⟩ := store_fresh (P := P) hT (μ := μ) hkn ((hv2 (fun a => a = v2)).2 rfl)
      subst e3
      have hev := ev_sound hs hu
      refine ⟨⟨v', v3, mk', g, t⟩, fun K' => ?_, hg, fun id hid => (hsub id hid).elim (fun g => hev.2 id g) (fun g => hids id g), hone, hptr, hrun', fun hh => (by cases hh), fun t' y' hh a' o' x w b ho hx hy hb => ?_⟩
      · rw [hi]
        show stoVC T s0 (some (t2, y)) v' _ ↔ _
        unfold stoVC
        simp only [hu, chk_iff, hkn, true_and]
        exact hv2 _
      · cases hh
        exact ⟨_, hst a'.eval o' x y w b t ho hx (by rw [hy, hev.1]) hb⟩
    · exact h.elim

theorem news_each {T : Tab} {N : Nat} {s0 : Slots} {l0 : List Oper} {K : Slots → Mem → Prop} : ∀ (l : List Oper) (s : Slots) (m : Mem), newsVC T N s0 l0 l s m K → ∀ o ∈ l, isNew o.op = true → ∃ K' : SV → (Nat → SV) → Prop, newVC T o.op s0 fun v mk => stoVC T s0 (stoFor l0 o) v fun u => K' u mk
  | [], s, m, h, o, ho, hn => by cases ho
  | x :: r, s, m, h, o, ho, hn => by
    unfold newsVC at h
    split at h
    · rename_i hx
      rcases List.mem_cons.1 ho with rfl | ho
      · exact ⟨_, h⟩
      · obtain ⟨v, mk, hi, _⟩ := new_iff h
        have h := (hi _).1 h
        unfold stoVC at h
        split at h
        · exact news_each r _ _ h o ho hn
        · split at h
          · obtain ⟨_, h⟩ := chk_iff.1 h
            obtain ⟨u, hu⟩ := putAt_iff h
            exact news_each r _ _ ((hu _).1 h) o ho hn
          · exact h.elim
    · rename_i hx
      rcases List.mem_cons.1 ho with rfl | ho
      · rw [hn] at hx; cases hx
      · exact news_each r _ _ h o ho hn

theorem adopt_pass {T : Tab} {μ0 : Nat → Nat} {m0 : Mem} {w0 : World} {N n L : Nat} {ops : Array Oper} {s0 : Slots} {l0 : List Oper} {μb : Nat → Nat} {A a : Act} {w : World} {β : Nat → Nat} {K : Slots → Mem → Prop}
    (hsize : a.tmps.size = N) (hdef : a.defers = [])
    (facts : ∀ j o d, j < n → ops[j]? = some o → isNew o.op = true → o.dst = some d → d < N ∧ MadeBy P T s0 μb L A o (stoFor l0 o) (madeOf P T s0 μb L A o (stoFor l0 o)) ∧ a.tmps.getD d undef = (madeOf P T s0 μb L A o (stoFor l0 o)).g (β j) ∧
      w.heap[β j]? = some (.cells (flat μb (madeOf P T s0 μb L A o (stoFor l0 o)).u).toArray (madeOf P T s0 μb L A o (stoFor l0 o)).t (0, 0)) ∧ w0.heap.size ≤ β j)
    (hdst : ∀ j o, j < n → ops[j]? = some o → isNew o.op = true → ∃ d, o.dst = some d)
    (apart : ∀ i j o o', i < n → j < n → ops[i]? = some o → ops[j]? = some o' → isNew o.op = true → isNew o'.op = true → β i = β j → i = j) :
    ∀ (l : List Oper) (i : Nat) (s : Slots) (m : Mem) (μ : Nat → Nat), (∀ j, j < l.length → l[j]? = ops[i + j]?) → i + l.length = n → newsVC T N s0 l0 l s m K →
      (∀ t v, lk s t = some v → (∃ o ∈ l, isNew o.op = true ∧ o.dst = some t) ∨ (a.tmps.getD t undef = toVal μ v ∧ ∀ id ∈ v.ids, id < m.length)) →
      RunS μ0 m0 w0 μ m w → (∀ id, id < L → μ id = μb id) → L ≤ m.length →
      (∀ j o, i ≤ j → j < n → ops[j]? = some o → isNew o.op = true → ∀ id, (blockOf m id).isSome = true → μ id ≠ β j) →
      ∃ μ' s' m', SRel N μ' m'.length s' a ∧ RunS μ0 m0 w0 μ' m' w ∧ K s' m'
  | [], i, s, m, μ, hl, hi, h, hsl, hr, hμ, hL, hne => ⟨μ, s, m, ⟨hsize, hdef, fun t v hv => by
      rcases hsl t v hv with ⟨o, ho, _⟩ | h
      · cases ho
      · exact h⟩, hr, h⟩
  | o :: r, i, s, m, μ, hl, hi, h, hsl, hr, hμ, hL, hne => by
    have h0 : ops[i]? = some o := by simpa using (hl 0 (by simp)).symm
    have hin : i < n := by simp only [List.length_cons] at hi; omega
    have hl' : ∀ j, j < r.length → r[j]? = ops[i + 1 + j]? := fun j hj => by have := hl (j + 1) (by simp; omega); simpa [Nat.add_assoc, Nat.add_comm 1 j] using this
    have hi' : i + 1 + r.length = n := by simp only [List.length_cons] at hi; omega
    unfold newsVC at h
    split at h
    · rename_i hn
      obtain ⟨d, hd⟩ := hdst i o hin h0 hn
      obtain ⟨hdN, hp, hval, hcell, hbig⟩ := facts i o d hin h0 hn hd
      generalize madeOf P T s0 μb L A o (stoFor l0 o) = p at hp hval hcell
      have h := (hp.iff _).1 h
      have hfl : flat μ p.u = flat μb p.u := flat_ids p.u fun id hid => hμ id (hp.ids id hid)
      have hvi : ∀ id ∈ p.u.ids, id < m.length := fun id hid => Nat.lt_of_lt_of_le (hp.ids id hid) hL
      have hr' := hr.adopt hvi (t := p.t) (b := β i) (by rw [hfl]; exact hcell) (fun id hid => hne i o (Nat.le_refl _) hin h0 hn id hid) hbig
      refine adopt_pass hsize hdef facts hdst apart r (i + 1) _ _ (ext μ m.length (β i)) hl' hi' h (fun t v hv => ?_) hr' (fun id hid => by rw [ext_old (by omega)]; exact hμ id hid) (by simp; omega) fun j oj hij hj hoj hnj id hid => ?_
      · rw [hd] at hv
        have hb : Nat.blt d N = true := by simpa [Nat.blt_eq] using hdN
        simp only [sset, hb, lk_cons] at hv
        by_cases hdt : d = t
        · subst hdt
          rw [if_pos rfl] at hv
          cases hv
          refine .inr ⟨?_, fun id hid => ?_⟩
          · rw [hval, hp.shape, ext_new]
          · rw [hp.one] at hid
            simp at hid
            simp [hid]
        · rw [if_neg hdt] at hv
          rcases hsl t v hv with ⟨o', ho', hn', hd'⟩ | ⟨h1, h2⟩
          · rcases List.mem_cons.1 ho' with rfl | ho'
            · rw [hd] at hd'; cases hd'; exact absurd rfl hdt
            · exact .inl ⟨o', ho', hn', hd'⟩
          · refine .inr ⟨?_, fun id hid => by have := h2 id hid; simp; omega⟩
            rw [h1]
            exact toVal_ids v fun id hid => (ext_old (h2 id hid)).symm
      · rcases Nat.lt_or_ge id m.length with hlt | hge
        · rw [ext_old hlt]
          rw [blockOf_append_lt m _ id hlt] at hid
          exact hne j oj (by omega) hj hoj hnj id hid
        · have := blockOf_lt hid
          simp at this
          obtain rfl : id = m.length := by omega
          rw [ext_new]
          intro he
          have := apart i j o oj hin hj h0 hoj hn hnj he
          omega
    · rename_i hn
      refine adopt_pass hsize hdef facts hdst apart r (i + 1) _ _ μ hl' hi' h (fun t v hv => ?_) hr hμ hL fun j oj hij hj hoj hnj => hne j oj (by omega) hj hoj hnj
      rcases hsl t v hv with ⟨o', ho', hn', hd'⟩ | h
      · rcases List.mem_cons.1 ho' with rfl | ho'
        · rw [hn] at hn'; cases hn'
        · exact .inl ⟨o', ho', hn', hd'⟩
      · exact .inr h

theorem stoTo_some {d : Nat} {t : Nat} {y : Operand} : ∀ {l : List Oper}, stoTo d l = some (t, y) → ∃ o ∈ l, o.op = .store t (.tmp d) y
  | [], h => by cases h
  | o :: r, h => by
    unfold stoTo at h
    split at h
    · rename_i t' x y' hop
      split at h
      · rename_i hb
        have := Nat.eq_of_beq_eq_true hb
        subst this
        cases h
        exact ⟨o, by simp, hop⟩
      · obtain ⟨o', ho', hh⟩ := stoTo_some h
        exact ⟨o', by simp [ho'], hh⟩
    · obtain ⟨o', ho', hh⟩ := stoTo_some h
      exact ⟨o', by simp [ho'], hh⟩
theorem stoTo_mem {d : Nat} {t : Nat} {y : Operand} : ∀ {l : List Oper} {o : Oper}, o ∈ l → o.op = .store t (.tmp d) y → ∃ t' y', stoTo d l = some (t', y')
  | [], o, ho, _ => by cases ho
  | x :: r, o, ho, hop => by
    unfold stoTo
    rcases List.mem_cons.1 ho with rfl | ho
    · rw [hop]
      simp only [Nat.beq_refl]
      exact ⟨_, _, rfl⟩
    · split
      · split
        · exact ⟨_, _, rfl⟩
        · exact stoTo_mem ho hop
      · exact stoTo_mem ho hop

/-- a region that draws its order -/
theorem draw_sound {T : Tab} (hT : TabOK P T) (hE : TabEq P T) {μ0 : Nat → Nat} {m0 : Mem} {w0 : World} {N n rid : Nat} {ops : Array Oper} {μ : Nat → Nat} {s : Slots} {m : Mem} {a : Act} {w : World} {K : Slots → Mem → Prop} {Q : Exit → Act → World → Prop}
    (hs : SRel N μ m.length s a) (hr : RunS μ0 m0 w0 μ m w) (hB : drawB N ops n = true)
    (h : headVC P T N ops m (ops.toList.take n) s fun s' => newsVC T N s' (ops.toList.take n) (ops.toList.take n) s' m K)
    (htail : ∀ μ' s' m' a' w', SRel N μ' m'.length s' a' → RunS μ0 m0 w0 μ' m' w' → K s' m' → wpList P ops Q (ops.toList.drop n) a' w') : (Code.region rid ops true).wp P Q a w := by
  unfold drawB at hB
  simp only [Bool.and_eq_true, decide_eq_true_eq, List.all_eq_true, List.mem_range] at hB
  obtain ⟨⟨⟨⟨⟨hsel, hn⟩, hsk⟩, hch⟩, hsq⟩, hall⟩ := hB
  have hlen : (ops.toList.take n).length = n := by simp; omega
  have hget : ∀ j, j < (ops.toList.take n).length → (ops.toList.take n)[j]? = ops[0 + j]? := fun j hj => by
    rw [hlen] at hj
    rw [Nat.zero_add, List.getElem?_take_of_lt hj]
    simp
  have hr1 := hr.drew
  obtain ⟨A, s', hsA, hnews, hother, hold⟩ := head_pass hT hE hr1 hall hsel (ops.toList.take n) 0 s a _ hget (by omega) hs h
  have hmem : ∀ i o, i < n → ops[i]? = some o → o ∈ ops.toList.take n := fun i o hi ho => by
    rw [List.mem_iff_getElem?]
    exact ⟨i, by rw [hget i (by omega), Nat.zero_add]; exact ho⟩
  have hmade : ∀ i o, i < n → ops[i]? = some o → isNew o.op = true → MadeBy P T s' μ m.length A o (stoFor (ops.toList.take n) o) (madeOf P T s' μ m.length A o (stoFor (ops.toList.take n) o)) := fun i o hi ho hno => by
    obtain ⟨K', hK'⟩ := news_each _ _ _ hnews o (hmem i o hi ho) hno
    exact madeOf_spec hT hsA hK'
  let F : Nat → MB := fun i => match ops[i]? with | some o => madeOf P T s' μ m.length A o (stoFor (ops.toList.take n) o) | none => ⟨.unit, .unit, fun _ => .unit, fun _ => undef, (0 : Nat)⟩
  have hF : ∀ i o, ops[i]? = some o → F i = madeOf P T s' μ m.length A o (stoFor (ops.toList.take n) o) := fun i o ho => by simp only [F, ho]
  refine wp_region_any hT.mixed ?_
  have inv0 : HeadInv .any ops n (Array.replicate ops.size false) :=
    ⟨by simp, fun j oj _ hl => (by rw [getD_replicate_false] at hl; cases hl), fun t _ ht => getD_in (by simpa using ht) (getD_replicate_false _ _)⟩
  have hdN : ∀ i o, i < n → ops[i]? = some o → isNew o.op = true → ∃ d, o.dst = some d ∧ d < N := fun i o hi ho hno => (headB_spec ho (new_not_sto hno) (hall i hi)).1
  have hsto : StoOK P ops n A (fun w => RunS μ0 m0 w0 μ m w) w.heap.size (fun i => (F i).g) (fun i => (flat μ (F i).v).toArray) (fun i => (flat μ (F i).u).toArray) (fun i => (F i).t) := by
    intro i o t x y j oj hi ho hop hj hoj hdj hpj a' w1 b hx hy hw1 hcell hb
    have hp := hmade j oj hj hoj (ptr_new hpj)
    have hst : stoFor (ops.toList.take n) oj = some (t, y) := by
      unfold stoFor
      rw [hdj]
      dsimp only
      obtain ⟨t', y', h1⟩ := stoTo_mem (d := x) (hmem i o hi ho) hop
      obtain ⟨o', ho', hop'⟩ := stoTo_some h1
      obtain ⟨k, hk⟩ := List.mem_iff_getElem?.1 ho'
      have hkn : k < n := by
        have := (List.getElem?_eq_some_iff.1 hk).1
        omega
      have hok : ops[k]? = some o' := by rw [hget k (by omega), Nat.zero_add] at hk; exact hk
      have hki : k = i := by
        by_cases hki : k = i
        · exact hki
        · exact absurd (stoAt_of hok hop') ((stoB_spec ho hop (hall i hi)).2.2.2.1 k hkn (fun e => hki e.symm))
      subst hki
      rw [ho] at hok; cases hok
      rw [hop] at hop'
      cases hop'
      exact h1
    simp only [hF j oj hoj] at hx hcell ⊢
    rw [hp.ptr hpj] at hx
    obtain ⟨cs, hrun, hnew⟩ := hp.sto t y hst a' o x w1 b hop hx hy hcell
    refine ⟨_, hrun, hnew, setCells_size _ _ _ _, fun b' hb' => setCells_other _ _ hb' _ _ _, ?_⟩
    refine hw1.apart (c := b) (setCells_size _ _ _ _) (fun b' hb' => setCells_other _ _ hb' _ _ _) (fun id hid he => ?_) (Nat.le_trans hr.kept.size hb) (setCells_rest _ _ _ _) (fun ad => World.frozen?_setCells _ _ _ _ _)
    have := hr.mr.lt hid
    omega
  have key := mid_any (P := P) (N := N) (ops := ops) (n := n) (A := A) (E := fun w => RunS μ0 m0 w0 μ m w) (B := w.heap.size) (mkv := fun i => (F i).g) (cell := fun i => (flat μ (F i).v).toArray) (cell2 := fun i => (flat μ (F i).u).toArray) (typ := fun i => (F i).t)
    (Q := Q) (g := ops.size - n) hsel hsk hch hn hall (fun i o d hi ho hno hd => hold i o d (Nat.zero_le _) hi ho hno hd)
    (fun i o hi ho hno => ⟨fun w => by rw [hF i o ho]; exact (hmade i o hi ho hno).run w⟩) hsto
    (fun i o d hi ho hno hd => by obtain ⟨d', hd', hlt⟩ := hdN i o hi ho hno; rw [hd] at hd'; cases hd'; rw [hsA.size]; exact hlt)
    (fun w c t hw => hw.made c t) (fun a' w' β hm => ?_) n (List.range n) (Array.replicate ops.size false) a { w with drawn := w.drawn + 1 } (fun _ => 0) (by simp) List.nodup_range (fun j => ?_) inv0 ?_
  · rw [show n + (ops.size - n) = ops.size by omega] at key
    exact key
  · have hyes : ∀ i, i < n → (fullTo ops n).getD i false = true := fun i hi => by
      have : i < ops.size := by omega
      simp [fullTo, this, hi]
    have hB2 : w0.heap.size ≤ w.heap.size := hr.kept.size
    obtain ⟨μ', s2, m2, g1, g2, g3⟩ := adopt_pass (P := P) (T := T) (μ0 := μ0) (m0 := m0) (w0 := w0) (N := N) (n := n) (L := m.length) (ops := ops) (s0 := s') (l0 := ops.toList.take n) (μb := μ) (A := A) (a := a') (w := w') (β := β) (K := K)
      (by rw [hm.size, hsA.size]) (by rw [hm.defers, hsA.defers])
      (fun j o d hj ho hno hd => by
        obtain ⟨d', hd', hlt⟩ := hdN j o hj ho hno
        rw [hd] at hd'; cases hd'
        obtain ⟨h1, ⟨h2, h2'⟩, h3⟩ := hm.new j o d hj ho hno hd (hyes j hj)
        have hp := hmade j o hj ho hno
        simp only [hF j o ho] at h1 h2 h2'
        refine ⟨hlt, hp, h1, ?_, by omega⟩
        by_cases hst : Stored ops n (fullTo ops n) d
        · exact h2 hst
        · have h4 := h2' hst
          have hnone : stoFor (ops.toList.take n) o = none := by
            unfold stoFor
            rw [hd]
            dsimp only
            cases hq : stoTo d (ops.toList.take n) with
            | none => rfl
            | some ty =>
              obtain ⟨t', y'⟩ := ty
              obtain ⟨o', ho', hop'⟩ := stoTo_some hq
              obtain ⟨k, hk⟩ := List.mem_iff_getElem?.1 ho'
              have hkn : k < n := by
                have := (List.getElem?_eq_some_iff.1 hk).1
                omega
              have hok : ops[k]? = some o' := by rw [hget k (by omega), Nat.zero_add] at hk; exact hk
              exact absurd ⟨k, hkn, stoAt_of hok hop', hyes k hkn⟩ hst
          rw [hp.same hnone]
          exact h4)
      (fun j o hj ho hno => by obtain ⟨d, hd, _⟩ := hdN j o hj ho hno; exact ⟨d, hd⟩)
      (fun i j o o' hi hj ho ho' hno hno' he => hm.apart i j o o' hi hj ho ho' hno hno' (hyes i hi) (hyes j hj) he)
      (ops.toList.take n) 0 s' m μ hget (by omega) hnews
      (fun t v hv => by
        obtain ⟨h1, h2⟩ := hsA.val t v hv
        by_cases hex : ∃ o ∈ ops.toList.take n, isNew o.op = true ∧ o.dst = some t
        · exact .inl hex
        · refine .inr ⟨?_, h2⟩
          rw [← h1]
          by_cases hex2 : ∃ j, j < n ∧ dstOf ops j = some t
          · obtain ⟨j, hj, hdj⟩ := hex2
            cases hoj : ops[j]? with
            | none => simp [dstOf, hoj] at hdj
            | some oj =>
              have hdj' : oj.dst = some t := by simpa [dstOf, hoj] using hdj
              cases hno : isNew oj.op with
              | true =>
                exact absurd ⟨oj, hmem j oj hj hoj, hno, hdj'⟩ hex
              | false => exact hm.yes j oj t hj hoj hno hdj' (hyes j hj)
          · exact hm.other t fun j hj hh => hex2 ⟨j, hj, hh⟩)
      hm.e (fun _ _ => rfl) (Nat.le_refl _)
      (fun j o _ hj ho hno id hid he => by
        obtain ⟨d, hd, _⟩ := hdN j o hj ho hno
        have h3 := (hm.new j o d hj ho hno hd (hyes j hj)).2.2
        have := hr.mr.lt hid
        omega)
    have := wpAny_of_seq (md := .any) (Q' := Q) (ops.toList.drop n) n (fullTo ops n) a' w' (fun j => by simp [List.getElem?_drop]) (by simpa [fullTo] using hsq) (htail μ' s2 m2 a' w' g1 g2 g3)
    simpa using this
  · rw [List.mem_range]
    constructor
    · intro hj
      have : j < ops.size := by omega
      exact ⟨hj, by simp [this]⟩
    · exact fun hh => hh.1
  · refine ⟨hr1, Nat.le_refl _, by rw [hs.size, hsA.size], by rw [hs.defers, hsA.defers], fun i o d _ _ _ _ hl => ?_, fun x hx => (hother x fun j _ hj => hx j hj).symm, fun i o d _ _ _ _ hl => ?_, fun i j o o' _ _ _ _ _ _ hl _ _ => ?_, fun d hd => ?_⟩
    · rw [getD_replicate_false] at hl; cases hl
    · rw [getD_replicate_false] at hl; cases hl
    · rw [getD_replicate_false] at hl; cases hl
    · obtain ⟨k, hk, hs, hl⟩ := hd
      rw [getD_replicate_false] at hl; cases hl
end Go.Proofs.YtjanlnngeklhoabGreat

/- Regions that draw their order, whose head ends with a store into a known block: what the store does not wait for looks at no memory. -/
set_option linter.unusedVariables false
set_option linter.unusedSimpArgs false
namespace Go.Proofs.YtjanlnngeklhoabGreat
variable {P : Program}

theorem read_pure {T : Tab} {op : Op} {s : Slots} {m : Mem} (M : Mem) {K : SV → Prop} (hp : pureOp op = true) (h : readVC T op s m K) : readVC T op s M K := by
  cases op <;> first | exact h | (cases hp; done)

theorem one_read {T : Tab} {N : Nat} {o : Oper} {s : Slots} {m : Mem} {K : Slots → Mem → Prop} (hr : readOp o.op = true) (h : oneVC P T N o s m K) : readVC T o.op s m fun v => K (sset N s o.dst v) m := by
  unfold oneVC at h
  split at h
  · rename_i ho; rw [ho] at hr; cases hr
  · rename_i ho; rw [ho] at hr; cases hr
  · rename_i ho; rw [ho] at hr; cases hr
  · rename_i ho; rw [ho] at hr; cases hr
  · rename_i ho; rw [ho] at hr; cases hr
  · rename_i c ho
    rw [ho] at hr
    split at h
    · rename_i x hc; simp [readOp, hc] at hr
    · rename_i hc; simp [readOp, hc] at hr
    · rename_i hc; simp [readOp, hc] at hr
    · rw [ho]; exact h
  · exact h

theorem storeVC_det {T : Tab} {t : Nat} {a x : Option SV} {m : Mem} {K : Mem → Prop} (h : storeVC T t a x m K) : ∃ m1, K m1 ∧ storeVC T t a x m fun u => u = m1 := by
  unfold storeVC at h ⊢
  split at h
  · split at h
    · rename_i hb
      split at h
      · rename_i hp
        obtain ⟨hc, h⟩ := chk_iff.1 h
        obtain ⟨u, hu⟩ := putAt_iff h
        refine ⟨_, (hu _).1 h, ?_⟩
        simp only [hb, hp]
        exact chk_iff.2 ⟨hc, (hu _).2 rfl⟩
      · exact h.elim
    · exact h.elim
  · exact h.elim

theorem lateI_spec {N : Nat} {ops : Array Oper} {n i : Nat} {o : Oper} (ho : ops[i]? = some o) (h : lateI N ops n i = true) :
    (∃ d, o.dst = some d ∧ d < N) ∧ (∀ e ∈ o.after, Region.binds .any e = true → e.on < i) ∧ o.guard = none ∧ readOp o.op = true ∧ (Region.waitsFor .any ops n i = true ∨ pureOp o.op = true) ∧ (∀ j, j < n → i ≠ j → dstOf ops j ≠ dstOf ops i) ∧
      ∀ j d, j < n → dstOf ops j = some d → d ∈ o.looksAt ops → Region.waitsFor .any ops i j = true := by
  unfold lateI at h
  rw [ho] at h
  simp only [Bool.and_eq_true, Bool.or_eq_true, List.all_eq_true, List.mem_range] at h
  obtain ⟨⟨⟨⟨⟨h1, h2⟩, h3⟩, h4⟩, h5⟩, h6⟩ := h
  refine ⟨(by cases hd : o.dst with
    | none => rw [hd] at h1; cases h1
    | some d => rw [hd] at h1; exact ⟨d, rfl, by simpa using h1⟩), backB_spec h2, by simpa using h3, h4, h5, fun j hj hne heq => ?_, fun j d hj hd hl => ?_⟩
  · have := (h6 j hj).1
    simp [hne, heq] at this
  · have := (h6 j hj).2
    rw [hd] at this
    have hc : (o.looksAt ops).contains d = true := by simpa using hl
    simpa only [hc, Bool.not_true, Bool.false_or, Bool.false_eq_true, false_or] using this

theorem lateS_spec {ops : Array Oper} {n : Nat} (h : lateS ops n = true) : ∃ o t x y, ops[n]? = some o ∧ o.op = .store t x y ∧ o.dst = none ∧ o.guard = none ∧ (∀ e ∈ o.after, Region.binds .any e = true → e.on < n) ∧
      ∀ j d, j < n → dstOf ops j = some d → d ∈ o.looksAt ops → Region.waitsFor .any ops n j = true := by
  unfold lateS at h
  cases ho : ops[n]? with
  | none => rw [ho] at h; cases h
  | some o =>
    rw [ho] at h
    simp only [Bool.and_eq_true, List.all_eq_true, List.mem_range] at h
    obtain ⟨⟨⟨⟨h1, h2⟩, h3⟩, h4⟩, h5⟩ := h
    obtain ⟨t, x, y, hop⟩ : ∃ t x y, o.op = .store t x y := by
      cases hq : o.op <;> rw [hq] at h1 <;> first | exact ⟨_, _, _, rfl⟩ | cases h1
    refine ⟨o, t, x, y, rfl, hop, by simpa using h2, by simpa using h3, backB_spec h4, fun j d hj hd hl => ?_⟩
    have := h5 j hj
    rw [hd] at this
    have hc : (o.looksAt ops).contains d = true := by simpa using hl
    simpa only [hc, Bool.not_true, Bool.false_or, Bool.false_eq_true, false_or] using this

/-- whatever is ready is taken: what is kept through each step holds in the end -/
theorem any_of {ops : Array Oper} {n g : Nat} {Q : Exit → Act → World → Prop} {I : Array Bool → Act → World → Prop} (ht : (Region.sinkB .any ops n = true ∧ Region.chainB .any ops n = true ∧ n < ops.size) ∨ n = ops.size)
    (hback : ∀ i o, i < n → ops[i]? = some o → ∀ e ∈ o.after, Region.binds .any e = true → e.on < i)
    (step : ∀ listed a w i, HeadInv .any ops n listed → I listed a w → i < n → i ∈ Region.ready .any ops listed → ∀ K : Act → World → Prop, (∀ a' w', I (listed.setIfInBounds i true) a' w' → K a' w') → wpOp P ops Q i K a w)
    (hend : ∀ a w, I (fullTo ops n) a w → wpAny P .any ops Q g (fullTo ops n) a w) :
    ∀ (k : Nat) (l : List Nat) (listed : Array Bool) (a : Act) (w : World), l.length = k → l.Nodup → (∀ j, j ∈ l ↔ j < n ∧ listed.getD j true = false) → HeadInv .any ops n listed → I listed a w → wpAny P .any ops Q (k + g) listed a w := by
  intro k
  have hn : n ≤ ops.size := by rcases ht with h | h <;> omega
  induction k with
  | zero =>
    intro l listed a w hk hnd hl inv hm
    have : l = [] := List.eq_nil_of_length_eq_zero hk
    subst this
    have hf := full_of inv fun j hj => by
      cases hb : listed.getD j true with
      | true => rfl
      | false => exact absurd ((hl j).2 ⟨hj, hb⟩) (by simp)
    subst hf
    rw [Nat.zero_add]
    exact hend a w hm
  | succ k ih =>
    intro l listed a w hk hnd hl inv hm
    rw [show k + 1 + g = (k + g) + 1 by omega]
    obtain ⟨i0, hi0⟩ : ∃ i, i ∈ l := by
      cases l with
      | nil => simp at hk
      | cons x r => exact ⟨x, by simp⟩
    obtain ⟨hi0n, hi0u⟩ := (hl i0).1 hi0
    obtain ⟨q, ⟨hqn, hqu⟩, hql⟩ := least_of (p := fun j => j < n ∧ listed.getD j true = false) i0 ⟨hi0n, hi0u⟩
    have hqr : q ∈ Region.ready .any ops listed := by
      have hqs : q < ops.size := by omega
      refine mem_ready.2 ⟨hqu, ops[q], Array.getElem?_eq_getElem hqs, fun e he hb => ?_⟩
      have hlt := hback q _ hqn (Array.getElem?_eq_getElem hqs) e he hb
      have := hql e.on hlt
      have hes : e.on < listed.size := by rw [inv.size]; omega
      cases hb' : listed.getD e.on false with
      | true => rfl
      | false => exact absurd ⟨by omega, getD_in hes hb'⟩ this
    refine ⟨fun h0 => (by rw [h0] at hqr; cases hqr), fun i hi => ?_⟩
    have hin : i < n := by
      rcases Nat.lt_or_ge i n with h | h
      · exact h
      · rcases ht with ⟨hs, hc, hn⟩ | hn
        · exact absurd hi (tail_waits hs hc hn inv _ i0 rfl hi0n hi0u i h)
        · obtain ⟨_, o, ho, _⟩ := mem_ready.1 hi
          have := (Array.getElem?_eq_some_iff.1 ho).1
          omega
    have hil : i ∈ l := (hl i).2 ⟨hin, (mem_ready.1 hi).1⟩
    refine step listed a w i inv hm hin hi _ fun a' w' hm' => ih (l.erase i) _ a' w' (by rw [List.length_erase_of_mem hil]; omega) (hnd.erase i) (fun j => ?_) (inv.set hi hin) hm'
    rw [hnd.mem_erase_iff, hl j]
    constructor
    · rintro ⟨h1, h2, h3⟩
      exact ⟨h2, by rw [getD_set_ne true (fun e => h1 e.symm)]; exact h3⟩
    · rintro ⟨h1, h2⟩
      have hij : i ≠ j := by
        rintro rfl
        have : i < listed.size := by rw [inv.size]; omega
        simp [this] at h2
      rw [getD_set_ne true hij] at h2
      exact ⟨fun e => hij e.symm, h1, h2⟩

/-- what such an operation yields, where it may run -/
def YlL (P : Program) (μ : Nat → Nat) (m : Mem) (o : Oper) (a : Act) (v : Value) : Prop :=
  ∀ M : Mem, M.length = m.length → (M = m ∨ pureOp o.op = true) → ∀ w, MR μ M w → (execOp a.eval o).run P w = .ok (.value v) w

theorem late_pass {T : Tab} (hT : TabOK P T) (hE : TabEq P T) {μ : Nat → Nat} {m : Mem} {w : World} (hr : MR μ m w) {N n : Nat} {ops : Array Oper} {rest : List Oper} {K : Slots → Mem → Prop}
    (hall : ∀ i, i < n → lateI N ops n i = true) (hsel : Region.noSelect ops = true) :
    ∀ (l : List Oper) (i : Nat) (s : Slots) (a : Act), (∀ j, j < l.length → l[j]? = ops[i + j]?) → i + l.length = n → SRel N μ m.length s a → opsVC P T N ops (l ++ rest) s m K →
      ∃ A s', SRel N μ m.length s' A ∧ opsVC P T N ops rest s' m K ∧ (∀ x, (∀ j, i ≤ j → j < n → dstOf ops j ≠ some x) → A.tmps.getD x undef = a.tmps.getD x undef) ∧
        ∀ j o d, i ≤ j → j < n → ops[j]? = some o → o.dst = some d → YlL P μ m o A (A.tmps.getD d undef)
  | [], i, s, a, hl, hi, hs, h => ⟨a, s, hs, h, fun _ _ => rfl, fun j o d h1 h2 => by simp at hi; omega⟩
  | o :: r, i, s, a, hl, hi, hs, h => by
    have h0 : ops[i]? = some o := by simpa using (hl 0 (by simp)).symm
    have hin : i < n := by simp only [List.length_cons] at hi; omega
    have hl' : ∀ j, j < r.length → r[j]? = ops[i + 1 + j]? := fun j hj => by have := hl (j + 1) (by simp; omega); simpa [Nat.add_assoc, Nat.add_comm 1 j] using this
    have hi' : i + 1 + r.length = n := by simp only [List.length_cons] at hi; omega
    obtain ⟨⟨d, hd, hdN⟩, hback, hguard, hread, _, hdist, hlook⟩ := lateI_spec h0 (hall i hin)
    have hdi : dstOf ops i = some d := by simp [dstOf, h0, hd]
    simp only [List.cons_append, opsVC, guardVC, hguard] at h
    have h := one_read hread h
    obtain ⟨v, h1, h2⟩ := read_det h
    obtain ⟨v', e, hids, _⟩ := read_sound hT hE hs hr h2
    subst e
    obtain ⟨A, s', g1, g2, g3, g4⟩ := late_pass hT hE hr hall hsel r (i + 1) _ (a.put o.dst (toVal μ v')) hl' hi' (hs.put o.dst v' hids) h1
    have putne : ∀ x, d ≠ x → (a.put o.dst (toVal μ v')).tmps.getD x undef = a.tmps.getD x undef := fun x hx => by rw [hd, getD_put, if_neg (fun hh => hx hh.1)]
    refine ⟨A, s', g1, g2, fun x hx => ?_, fun j oj dj hij hj hoj hdj => ?_⟩
    · rw [g3 x (fun j hj hjn => hx j (by omega) hjn)]
      exact putne x fun e => hx i (Nat.le_refl _) hin (by rw [hdi, e])
    · by_cases hji : j = i
      · subst hji
        rw [h0] at hoj; cases hoj
        rw [hd] at hdj; cases hdj
        have hval : A.tmps.getD d undef = toVal μ v' := by
          rw [g3 d (fun k hk hkn hh => hdist k hkn (by omega) (by rw [hh, hdi])), hd, getD_put, if_pos ⟨rfl, by rw [hs.size]; exact hdN⟩]
        rw [hval]
        have hag : Agree ops o A a := fun t ht => by
          refine ⟨?_, by rw [g1.size, hs.size]⟩
          by_cases hex : ∃ k, k < n ∧ dstOf ops k = some t
          · obtain ⟨k, hk, hdk⟩ := hex
            have hwt := hlook k t hk hdk ht
            obtain ⟨o', ho', e, he, hb, hon⟩ := Region.waitsFor_spec hwt
            rw [h0] at ho'; cases ho'
            have hki : k < j := by rw [← hon]; exact hback e he hb
            cases hok : ops[k]? with
            | none => simp [dstOf, hok] at hdk
            | some ok =>
              have hdk' := (lateI_spec hok (hall k hk)).2.2.2.2.2.1
              rw [g3 t (fun q hq hqn hh => hdk' q hqn (by omega) (by rw [hh, hdk]))]
              exact putne t fun e => hdk' j hin (by omega) (by rw [hdi, hdk, e])
          · rw [g3 t (fun q hq hqn hh => hex ⟨q, hqn, hh⟩)]
            exact putne t fun e => hex ⟨j, hin, by rw [hdi, e]⟩
        have hex := hag.exec (Region.noSelect_spec hsel j o · · h0)
        intro M hM hMp w' hw'
        rw [hex]
        have h2' : readVC T o.op s M fun v => v = v' := by
          rcases hMp with rfl | hp
          · exact h2
          · exact read_pure M hp h2
        obtain ⟨v'', e, _, hrun⟩ := read_sound hT hE (m := M) (by rw [hM]; exact hs) hw' h2'
        subst e
        exact hrun
      · exact g4 j oj dj (by omega) hj hoj hdj

/-- the state in the midst -/
structure LMid (μ0 : Nat → Nat) (m0 : Mem) (w0 : World) (μ : Nat → Nat) (m m1 : Mem) (ops : Array Oper) (n : Nat) (A : Act) (listed : Array Bool) (a : Act) (w : World) : Prop where
  e0 : listed.getD n false = false → RunS μ0 m0 w0 μ m w
  e1 : listed.getD n false = true → RunS μ0 m0 w0 μ m1 w
  size : a.tmps.size = A.tmps.size
  defers : a.defers = A.defers
  yes : ∀ i o d, i < n → ops[i]? = some o → o.dst = some d → listed.getD i false = true → a.tmps.getD d undef = A.tmps.getD d undef
  other : ∀ x, (∀ i, i < n → dstOf ops i ≠ some x) → a.tmps.getD x undef = A.tmps.getD x undef

theorem late_sound {T : Tab} (hT : TabOK P T) (hE : TabEq P T) {μ0 : Nat → Nat} {m0 : Mem} {w0 : World} {N n rid : Nat} {ops : Array Oper} {μ : Nat → Nat} {s : Slots} {m : Mem} {a : Act} {w : World} {K : Slots → Mem → Prop} {Q : Exit → Act → World → Prop}
    (hs : SRel N μ m.length s a) (hr : RunS μ0 m0 w0 μ m w) (hB : lateB N ops n = true) (h : opsVC P T N ops ops.toList s m K)
    (htail : ∀ s' m' a' w', SRel N μ m'.length s' a' → RunS μ0 m0 w0 μ m' w' → opsVC P T N ops (ops.toList.drop (n + 1)) s' m' K → wpList P ops Q (ops.toList.drop (n + 1)) a' w') : (Code.region rid ops true).wp P Q a w := by
  unfold lateB at hB
  simp only [Bool.and_eq_true, decide_eq_true_eq, List.all_eq_true, List.mem_range] at hB
  obtain ⟨⟨⟨⟨⟨⟨hsel, hn⟩, hsk⟩, hch⟩, hsq⟩, hsto⟩, hall⟩ := hB
  obtain ⟨o, t, x, y, ho, hop, hdn, hg, hbk, hlk⟩ := lateS_spec hsto
  have hsplit : ops.toList = ops.toList.take n ++ (o :: ops.toList.drop (n + 1)) := by
    have h1 : ops.toList[n]? = some o := by simpa using ho
    have h2 := List.getElem?_eq_some_iff.1 h1
    obtain ⟨h2, h3⟩ := h2
    rw [← h3, List.getElem_cons_drop, List.take_append_drop]
  have hlen : (ops.toList.take n).length = n := by simp; omega
  have hget : ∀ j, j < (ops.toList.take n).length → (ops.toList.take n)[j]? = ops[0 + j]? := fun j hj => by
    rw [hlen] at hj
    rw [Nat.zero_add, List.getElem?_take_of_lt hj]
    simp
  rw [hsplit] at h
  obtain ⟨A, s', hsA, h, hother, hold⟩ := late_pass hT hE hr.mr hall hsel (ops.toList.take n) 0 s a hget (by omega) hs h
  simp only [opsVC, guardVC, hg, oneVC, hop, hdn, sset] at h
  obtain ⟨m1, hk, hst⟩ := storeVC_det h
  obtain ⟨m2, w2, e2, _, hl2, _⟩ := store_sound hT hsA hr hop hst
  subst e2
  have hl1 := hl2
  have hr1 := hr.drew
  refine wp_region_any hT.mixed ?_
  have inv0 : HeadInv .any ops (n + 1) (Array.replicate ops.size false) :=
    ⟨by simp, fun j oj _ hl => (by rw [getD_replicate_false] at hl; cases hl), fun t _ ht => getD_in (by simpa using ht) (getD_replicate_false _ _)⟩
  have key := any_of (P := P) (ops := ops) (n := n + 1) (g := ops.size - (n + 1)) (Q := Q) (I := LMid μ0 m0 w0 μ m m2 ops n A) (.inl ⟨hsk, hch, hn⟩)
    (fun i oi hi hoi => by
      by_cases hin : i = n
      · subst hin; rw [ho] at hoi; cases hoi; exact hbk
      · exact (lateI_spec hoi (hall i (by omega))).2.1)
    (fun listed a w i inv hm hi hrd K hK => by
      obtain ⟨hun, oi, hoi, hdeps⟩ := mem_ready.1 hrd
      have his : i < listed.size := by rw [inv.size]; exact (Array.getElem?_eq_some_iff.1 hoi).1
      have hunf : listed.getD i false = false := getD_both hun
      have waited : ∀ j, Region.waitsFor .any ops i j = true → listed.getD j false = true := fun j hwt => by
        obtain ⟨o', ho', e, he, hb, hon⟩ := Region.waitsFor_spec hwt
        rw [hoi] at ho'; cases ho'
        have hl := hdeps e he hb
        rw [hon] at hl
        exact hl
      have agree : (∀ j d, j < n → dstOf ops j = some d → d ∈ oi.looksAt ops → Region.waitsFor .any ops i j = true) → Agree ops oi a A := fun hlook t ht => by
        refine ⟨?_, hm.size⟩
        by_cases hex : ∃ j, j < n ∧ dstOf ops j = some t
        · obtain ⟨j, hj, hdj⟩ := hex
          have hwt := hlook j t hj hdj ht
          cases hoj : ops[j]? with
          | none => simp [dstOf, hoj] at hdj
          | some oj => exact hm.yes j oj t hj hoj (by simpa [dstOf, hoj] using hdj) (waited j hwt)
        · exact hm.other t fun j hj hh => hex ⟨j, hj, hh⟩
      unfold wpOp
      rw [hoi]
      dsimp only
      by_cases hin : i = n
      · subst hin
        rw [ho] at hoi; cases hoi
        have hag := agree hlk
        have hex := hag.exec (Region.noSelect_spec hsel i o · · ho)
        have hw : Region.wanted o (yielded ops a.tmps) = true := by simp [Region.wanted, hg]
        rw [if_pos hw]
        refine .inl ?_
        unfold Oper.wp
        obtain ⟨m3, w3, e3, hr3, _, hrun⟩ := store_sound hT hsA (hm.e0 hunf) hop hst
        subst e3
        rw [hex, hrun]
        refine hK _ _ ⟨fun hh => ?_, fun _ => hr3, by rw [hdn]; exact hm.size, by rw [hdn]; exact hm.defers, fun j oj d hj hoj hdj hl => ?_, fun z hz => by rw [hdn]; exact hm.other z hz⟩
        · simp [his] at hh
        · rw [hdn]
          rw [getD_set_ne false (by omega)] at hl
          exact hm.yes j oj d hj hoj hdj hl
      · have hi' : i < n := by omega
        obtain ⟨⟨d, hd, hdN⟩, _, hguard, hread, hpw, hdist, hlook⟩ := lateI_spec hoi (hall i hi')
        have hag := agree hlook
        have hex := hag.exec (Region.noSelect_spec hsel i oi · · hoi)
        have hw : Region.wanted oi (yielded ops a.tmps) = true := by simp [Region.wanted, hguard]
        rw [if_pos hw]
        refine .inl ?_
        unfold Oper.wp
        have hY := hold i oi d (Nat.zero_le _) hi' hoi hd
        have hrun : (execOp A.eval oi).run P w = .ok (.value (A.tmps.getD d undef)) w := by
          cases hln : listed.getD n false with
          | false => exact hY m rfl (.inl rfl) w (hm.e0 hln).mr
          | true =>
            refine hY m2 hl1 (.inr ?_) w (hm.e1 hln).mr
            rcases hpw with hwt | hp
            · exfalso
              obtain ⟨o', ho', e, he, hb, hon⟩ := Region.waitsFor_spec hwt
              have := inv.closed n o' ho' hln e he hb
              rw [hon, hunf] at this; cases this
            · exact hp
        rw [hex, hrun]
        have hdi : dstOf ops i = some d := by simp [dstOf, hoi, hd]
        have val : ∀ z, (a.put (some d) (A.tmps.getD d undef)).tmps.getD z undef = if z = d then A.tmps.getD d undef else a.tmps.getD z undef := fun z => by
          rw [getD_put]
          by_cases hz : z = d
          · subst hz
            by_cases hlt : z < a.tmps.size
            · simp [hlt]
            · have : ¬ z < A.tmps.size := by rw [← hm.size]; exact hlt
              simp [hlt, this]
          · rw [if_neg (fun hh => hz hh.1.symm), if_neg hz]
        show K (a.put oi.dst (A.tmps.getD d undef)) w
        rw [hd]
        refine hK _ _ ⟨fun hh => hm.e0 (by rw [getD_set_ne false hin] at hh; exact hh), fun hh => hm.e1 (by rw [getD_set_ne false hin] at hh; exact hh), by simp [Act.put, hm.size], by simp [Act.put, hm.defers], fun j oj dj hj hoj hdj hl => ?_, fun z hz => ?_⟩
        · rw [val]
          by_cases hjd : dj = d
          · rw [if_pos hjd, hjd]
          · rw [if_neg hjd]
            rcases getD_set_cases hl with rfl | hl
            · rw [hoi] at hoj; cases hoj; rw [hd] at hdj; cases hdj; exact absurd rfl hjd
            · exact hm.yes j oj dj hj hoj hdj hl
        · rw [val, if_neg (fun hh => hz i hi' (by rw [hdi, hh]))]
          exact hm.other z hz)
    (fun a' w' hm => by
      have hyes : ∀ i, i < n + 1 → (fullTo ops (n + 1)).getD i false = true := fun i hi => by
        have : i < ops.size := by omega
        simp [fullTo, this, hi]
      have hrun := hm.e1 (hyes n (by omega))
      have hsr : SRel N μ m2.length s' a' := by
        refine ⟨by rw [hm.size, hsA.size], by rw [hm.defers, hsA.defers], fun t v hv => ?_⟩
        obtain ⟨h1, h2⟩ := hsA.val t v hv
        refine ⟨?_, by rw [hl1]; exact h2⟩
        rw [← h1]
        by_cases hex : ∃ j, j < n ∧ dstOf ops j = some t
        · obtain ⟨j, hj, hdj⟩ := hex
          cases hoj : ops[j]? with
          | none => simp [dstOf, hoj] at hdj
          | some oj => exact hm.yes j oj t hj hoj (by simpa [dstOf, hoj] using hdj) (hyes j (by omega))
        · exact hm.other t fun j hj hh => hex ⟨j, hj, hh⟩
      have := wpAny_of_seq (md := .any) (Q' := Q) (ops.toList.drop (n + 1)) (n + 1) (fullTo ops (n + 1)) a' w' (fun j => by simp [List.getElem?_drop]) (by simpa [fullTo] using hsq) (htail s' m2 a' w' hsr hrun hk)
      simpa using this)
    (n + 1) (List.range (n + 1)) (Array.replicate ops.size false) a { w with drawn := w.drawn + 1 } (by simp) List.nodup_range (fun j => ?_) inv0 ?_
  · rw [show n + 1 + (ops.size - (n + 1)) = ops.size by omega] at key
    exact key
  · rw [List.mem_range]
    constructor
    · intro hj
      have : j < ops.size := by omega
      exact ⟨hj, by simp [this]⟩
    · exact fun hh => hh.1
  · refine ⟨fun _ => hr1, fun hh => ?_, by rw [hs.size, hsA.size], by rw [hs.defers, hsA.defers], fun i oi d _ _ _ hl => ?_, fun z hz => (hother z fun j _ hj => hz j hj).symm⟩
    · rw [getD_replicate_false] at hh; cases hh
    · rw [getD_replicate_false] at hl; cases hl

/-! ### late calls -/
theorem lateJ_spec {N : Nat} {ops : Array Oper} {n i : Nat} {o : Oper} (ho : ops[i]? = some o) (h : lateJ N ops n i = true) :
    (∃ d, o.dst = some d ∧ d < N) ∧ (∀ e ∈ o.after, Region.binds .any e = true → e.on < i) ∧ o.guard = none ∧ readOp o.op = true ∧ dstOf ops n ≠ dstOf ops i ∧ (∀ d, dstOf ops n = some d → ¬ d ∈ o.looksAt ops) ∧ (∀ j, j < n → i ≠ j → dstOf ops j ≠ dstOf ops i) ∧
      ∀ j d, j < n → dstOf ops j = some d → d ∈ o.looksAt ops → Region.waitsFor .any ops i j = true := by
  unfold lateJ at h
  rw [ho] at h
  simp only [Bool.and_eq_true, Bool.or_eq_true, List.all_eq_true, List.mem_range] at h
  obtain ⟨⟨⟨⟨⟨⟨h1, h2⟩, h3⟩, h4⟩, h5⟩, h7⟩, h6⟩ := h
  refine ⟨(by cases hd : o.dst with
    | none => rw [hd] at h1; cases h1
    | some d => rw [hd] at h1; exact ⟨d, rfl, by simpa using h1⟩), backB_spec h2, by simpa using h3, h4, by simpa using h5, fun d hd hl => ?_, fun j hj hne heq => ?_, fun j d hj hd hl => ?_⟩
  · rw [hd] at h7
    have hc : (o.looksAt ops).contains d = true := by simpa using hl
    simp only [hc, Bool.not_true] at h7
    cases h7
  · have := (h6 j hj).1
    simp [hne, heq] at this
  · have := (h6 j hj).2
    rw [hd] at this
    have hc : (o.looksAt ops).contains d = true := by simpa using hl
    simpa only [hc, Bool.not_true, Bool.false_or, Bool.false_eq_true, false_or] using this
theorem lateK_spec {N : Nat} {ops : Array Oper} {n : Nat} {o : Oper} (ho : ops[n]? = some o) (h : lateK N ops n = true) : (∃ d, o.dst = some d ∧ d < N) ∧ o.guard = none ∧ (∀ e ∈ o.after, Region.binds .any e = true → e.on < n) ∧
      ∀ j d, j < n → dstOf ops j = some d → d ∈ o.looksAt ops → Region.waitsFor .any ops n j = true := by
  unfold lateK at h
  rw [ho] at h
  simp only [Bool.and_eq_true, List.all_eq_true, List.mem_range] at h
  obtain ⟨⟨⟨h1, h3⟩, h4⟩, h5⟩ := h
  refine ⟨(by cases hd : o.dst with
    | none => rw [hd] at h1; cases h1
    | some d => rw [hd] at h1; exact ⟨d, rfl, by simpa using h1⟩), by simpa using h3, backB_spec h4, fun j d hj hd hl => ?_⟩
  have := h5 j hj
  rw [hd] at this
  have hc : (o.looksAt ops).contains d = true := by simpa using hl
  simpa only [hc, Bool.not_true, Bool.false_or, Bool.false_eq_true, false_or] using this

/-- blocks behind do not matter to those before -/
theorem MR_pre {μ μ' : Nat → Nat} {m X : Mem} {w w' : World} (h0 : MR μ m w) (h : MR μ' (m ++ X) w') (hμ : ∀ id, id < m.length → μ' id = μ id) : MR μ m w' := by
  have up : ∀ i, (blockOf m i).isSome = true → (blockOf (m ++ X) i).isSome = true := fun i hi => by rw [blockOf_append_lt _ _ i (blockOf_lt hi)]; exact hi
  refine ⟨fun id v c hb => ?_, fun i j hi hj e => h.inj i j (up i hi) (up j hj) (by rw [hμ i (blockOf_lt hi), hμ j (blockOf_lt hj)]; exact e), h0.ids⟩
  have hlt := blockOf_lt (m := m) (id := id) (by rw [hb]; rfl)
  obtain ⟨t, ex, h1, h2⟩ := h.blk id v c (by rw [blockOf_append_lt _ _ id hlt]; exact hb)
  have e : flat μ' v = flat μ v := flat_ids v fun i hi => hμ i (h0.ids id v c hb i hi)
  exact ⟨t, ex, by rw [← hμ id hlt, h1, e], by rw [← e]; exact h2⟩
theorem callVC_ent {f : Nat} {args : List SV} {m : Mem} {K : SV → Mem → Prop} (h : callVC P f args m K) : ∀ args w, (callFunc f args).run P w = .ok (.enter f args) w := by
  obtain ⟨ids, _, _, h⟩ := callVC_elim h
  unfold callWith at h
  split at h
  · exact h.2.enters
  · exact h.elim
theorem backGo_none (ρ : Nat → Nat) (m' : Mem) : ∀ (m : Mem) (i : Nat), backGo ρ [] m' i m = m
  | [], _ => rfl
  | x :: r, i => by show x :: backGo ρ [] m' (i + 1) r = x :: r; rw [backGo_none ρ m' r (i + 1)]
theorem callVC_pure {f : Nat} {args : List SV} {m : Mem} {K : SV → Mem → Prop} (hids : idsOf args = []) (h : callVC P f args m K) : callVC P f args m fun r m' => K r m' ∧ ∃ X, m' = m ++ X := by
  unfold callVC at h ⊢
  rw [hids] at h ⊢
  have h : callWith P f args m K [] := h
  show callWith P f args m (fun r m' => K r m' ∧ ∃ X, m' = m ++ X) []
  have h1 := h.1
  have h2 := h.2
  refine And.intro h1 ⟨h2.enters, fun μ w hm => (h2.run μ w hm).mono ?_⟩
  rintro e w' ⟨μ', r, m', he, hq, g⟩
  refine ⟨μ', r, m', he, ⟨hq, (m'.drop 0).map (renBlk (nth [] m.length)), ?_⟩, g⟩
  show backGo (nth [] m.length) [] m' 0 m ++ _ = m ++ _
  rw [backGo_none]
  rfl

def YlC (P : Program) (μ : Nat → Nat) (m : Mem) (o : Oper) (a : Act) (v : Value) : Prop := ∀ w, MR μ m w → (execOp a.eval o).run P w = .ok (.value v) w
theorem lateC_pass {T : Tab} (hT : TabOK P T) (hE : TabEq P T) {μ : Nat → Nat} {m : Mem} {w : World} (hr : MR μ m w) {N n : Nat} {ops : Array Oper} {K : Slots → Prop}
    (hall : ∀ i, i < n → lateJ N ops n i = true) (hsel : Region.noSelect ops = true) :
    ∀ (l : List Oper) (i : Nat) (s : Slots) (a : Act), (∀ j, j < l.length → l[j]? = ops[i + j]?) → i + l.length = n → SRel N μ m.length s a → readsVC T N m l s K →
      ∃ A s', SRel N μ m.length s' A ∧ K s' ∧ (∀ x, (∀ j, i ≤ j → j < n → dstOf ops j ≠ some x) → A.tmps.getD x undef = a.tmps.getD x undef) ∧
        ∀ j o d, i ≤ j → j < n → ops[j]? = some o → o.dst = some d → YlC P μ m o A (A.tmps.getD d undef)
  | [], i, s, a, hl, hi, hs, h => ⟨a, s, hs, h, fun _ _ => rfl, fun j o d h1 h2 => by simp at hi; omega⟩
  | o :: r, i, s, a, hl, hi, hs, h => by
    have h0 : ops[i]? = some o := by simpa using (hl 0 (by simp)).symm
    have hin : i < n := by simp only [List.length_cons] at hi; omega
    have hl' : ∀ j, j < r.length → r[j]? = ops[i + 1 + j]? := fun j hj => by have := hl (j + 1) (by simp; omega); simpa [Nat.add_assoc, Nat.add_comm 1 j] using this
    have hi' : i + 1 + r.length = n := by simp only [List.length_cons] at hi; omega
    obtain ⟨⟨d, hd, hdN⟩, hback, hguard, hread, _, _, hdist, hlook⟩ := lateJ_spec h0 (hall i hin)
    have hdi : dstOf ops i = some d := by simp [dstOf, h0, hd]
    have h : readVC T o.op s m fun v => readsVC T N m r (sset N s o.dst v) K := h
    obtain ⟨v, h1, h2⟩ := read_det h
    obtain ⟨v', e, hids, _⟩ := read_sound hT hE hs hr h2
    subst e
    obtain ⟨A, s', g1, g2, g3, g4⟩ := lateC_pass hT hE hr hall hsel r (i + 1) _ (a.put o.dst (toVal μ v')) hl' hi' (hs.put o.dst v' hids) h1
    have putne : ∀ x, d ≠ x → (a.put o.dst (toVal μ v')).tmps.getD x undef = a.tmps.getD x undef := fun x hx => by rw [hd, getD_put, if_neg (fun hh => hx hh.1)]
    refine ⟨A, s', g1, g2, fun x hx => ?_, fun j oj dj hij hj hoj hdj => ?_⟩
    · rw [g3 x (fun j hj hjn => hx j (by omega) hjn)]
      exact putne x fun e => hx i (Nat.le_refl _) hin (by rw [hdi, e])
    · by_cases hji : j = i
      · subst hji
        rw [h0] at hoj; cases hoj
        rw [hd] at hdj; cases hdj
        have hval : A.tmps.getD d undef = toVal μ v' := by
          rw [g3 d (fun k hk hkn hh => hdist k hkn (by omega) (by rw [hh, hdi])), hd, getD_put, if_pos ⟨rfl, by rw [hs.size]; exact hdN⟩]
        rw [hval]
        have hag : Agree ops o A a := fun t ht => by
          refine ⟨?_, by rw [g1.size, hs.size]⟩
          by_cases hex : ∃ k, k < n ∧ dstOf ops k = some t
          · obtain ⟨k, hk, hdk⟩ := hex
            have hwt := hlook k t hk hdk ht
            obtain ⟨o', ho', e, he, hb, hon⟩ := Region.waitsFor_spec hwt
            rw [h0] at ho'; cases ho'
            have hki : k < j := by rw [← hon]; exact hback e he hb
            cases hok : ops[k]? with
            | none => simp [dstOf, hok] at hdk
            | some ok =>
              have hdk' := (lateJ_spec hok (hall k hk)).2.2.2.2.2.2.1
              rw [g3 t (fun q hq hqn hh => hdk' q hqn (by omega) (by rw [hh, hdk]))]
              exact putne t fun e => hdk' j hin (by omega) (by rw [hdi, hdk, e])
          · rw [g3 t (fun q hq hqn hh => hex ⟨q, hqn, hh⟩)]
            exact putne t fun e => hex ⟨j, hin, by rw [hdi, e]⟩
        have hex := hag.exec (Region.noSelect_spec hsel j o · · h0)
        intro w' hw'
        rw [hex]
        obtain ⟨v'', e, _, hrun⟩ := read_sound hT hE hs hw' h2
        subst e
        exact hrun
      · exact g4 j oj dj (by omega) hj hoj hdj

/-- the state in the midst -/
structure CMid (μ0 : Nat → Nat) (m0 : Mem) (w0 : World) (μ : Nat → Nat) (m : Mem) (ops : Array Oper) (n dn : Nat) (K : SV → Mem → Prop) (A : Act) (listed : Array Bool) (a : Act) (w : World) : Prop where
  e0 : listed.getD n false = false → RunS μ0 m0 w0 μ m w
  e1 : listed.getD n false = true → MR μ m w ∧ ∃ μ' r m', RunS μ0 m0 w0 μ' m' w ∧ K r m' ∧ (∀ i ∈ r.ids, i < m'.length) ∧ (∀ id, id < m.length → μ' id = μ id) ∧ m.length ≤ m'.length ∧ a.tmps.getD dn undef = toVal μ' r
  e2 : listed.getD n false = false → a.tmps.getD dn undef = A.tmps.getD dn undef
  size : a.tmps.size = A.tmps.size
  defers : a.defers = A.defers
  yes : ∀ i o d, i < n → ops[i]? = some o → o.dst = some d → listed.getD i false = true → a.tmps.getD d undef = A.tmps.getD d undef
  other : ∀ x, (∀ i, i < n + 1 → dstOf ops i ≠ some x) → a.tmps.getD x undef = A.tmps.getD x undef

theorem lateC_sound {T : Tab} (hT : TabOK P T) (hE : TabEq P T) {μ0 : Nat → Nat} {m0 : Mem} {w0 : World} {N n rid : Nat} {ops : Array Oper} {μ : Nat → Nat} {s : Slots} {m : Mem} {a : Act} {w : World} {K : Slots → Mem → Prop} {Q : Exit → Act → World → Prop}
    (hs : SRel N μ m.length s a) (hr : RunS μ0 m0 w0 μ m w) (hB : lateC N ops n = true) (h : readsVC T N m (ops.toList.take n) s fun s' => lateCallVC P ops[n]? s' m fun d r m' => opsVC P T N ops (ops.toList.drop (n + 1)) (sset N s' d r) m' K)
    (htail : ∀ μ' s' m' a' w', SRel N μ' m'.length s' a' → RunS μ0 m0 w0 μ' m' w' → opsVC P T N ops (ops.toList.drop (n + 1)) s' m' K → wpList P ops Q (ops.toList.drop (n + 1)) a' w') : (Code.region rid ops true).wp P Q a w := by
  unfold lateC at hB
  simp only [Bool.and_eq_true, decide_eq_true_eq, List.all_eq_true, List.mem_range] at hB
  obtain ⟨⟨⟨⟨⟨⟨hsel, hn⟩, hsk⟩, hch⟩, hsq⟩, hcal⟩, hall⟩ := hB
  have hlen : (ops.toList.take n).length = n := by simp; omega
  have hget : ∀ j, j < (ops.toList.take n).length → (ops.toList.take n)[j]? = ops[0 + j]? := fun j hj => by
    rw [hlen] at hj
    rw [Nat.zero_add, List.getElem?_take_of_lt hj]
    simp
  obtain ⟨A, s', hsA, h, hother, hold⟩ := lateC_pass hT hE hr.mr hall hsel (ops.toList.take n) 0 s a hget (by omega) hs h
  unfold lateCallVC at h
  split at h
  case h_2 => exact h.elim
  rename_i o ho
  split at h
  case h_2 => exact h.elim
  rename_i c hop
  split at h
  case h_2 => exact h.elim
  rename_i x hx
  split at h
  case h_2 => exact h.elim
  rename_i f args hfx hargs
  obtain ⟨hids, hcv⟩ := h
  obtain ⟨⟨dn, hdn, hdnN⟩, hg, hbk, hlk⟩ := lateK_spec ho hcal
  rw [hdn] at hcv
  have hdnO : dstOf ops n = some dn := by simp [dstOf, ho, hdn]
  have hcv2 := callVC_pure hids hcv
  have hr1 := hr.drew
  refine wp_region_any hT.mixed ?_
  have inv0 : HeadInv .any ops (n + 1) (Array.replicate ops.size false) :=
    ⟨by simp, fun j oj _ hl => (by rw [getD_replicate_false] at hl; cases hl), fun t _ ht => getD_in (by simpa using ht) (getD_replicate_false _ _)⟩
  have key := any_of (P := P) (ops := ops) (n := n + 1) (g := ops.size - (n + 1)) (Q := Q) (I := CMid μ0 m0 w0 μ m ops n dn (fun r m' => opsVC P T N ops (ops.toList.drop (n + 1)) (sset N s' (some dn) r) m' K) A) (.inl ⟨hsk, hch, hn⟩)
    (fun i oi hi hoi => by
      by_cases hin : i = n
      · subst hin; rw [ho] at hoi; cases hoi; exact hbk
      · exact (lateJ_spec hoi (hall i (by omega))).2.1)
    (fun listed a w i inv hm hi hrd K' hK => by
      obtain ⟨hun, oi, hoi, hdeps⟩ := mem_ready.1 hrd
      have his : i < listed.size := by rw [inv.size]; exact (Array.getElem?_eq_some_iff.1 hoi).1
      have hunf : listed.getD i false = false := getD_both hun
      have waited : ∀ j, Region.waitsFor .any ops i j = true → listed.getD j false = true := fun j hwt => by
        obtain ⟨o', ho', e, he, hb, hon⟩ := Region.waitsFor_spec hwt
        rw [hoi] at ho'; cases ho'
        have hl := hdeps e he hb
        rw [hon] at hl
        exact hl
      have agree : (∀ j d, j < n → dstOf ops j = some d → d ∈ oi.looksAt ops → Region.waitsFor .any ops i j = true) → (∀ t, t ∈ oi.looksAt ops → t ≠ dn ∨ listed.getD n false = false ∧ a.tmps.getD dn undef = A.tmps.getD dn undef) → Agree ops oi a A := fun hlook hd t ht => by
        refine ⟨?_, hm.size⟩
        by_cases hex : ∃ j, j < n ∧ dstOf ops j = some t
        · obtain ⟨j, hj, hdj⟩ := hex
          have hwt := hlook j t hj hdj ht
          cases hoj : ops[j]? with
          | none => simp [dstOf, hoj] at hdj
          | some oj => exact hm.yes j oj t hj hoj (by simpa [dstOf, hoj] using hdj) (waited j hwt)
        · rcases hd t ht with h1 | ⟨_, h2⟩
          · refine hm.other t fun j hj hh => ?_
            by_cases hjn : j = n
            · subst hjn; rw [hdnO] at hh; cases hh; exact h1 rfl
            · exact hex ⟨j, by omega, hh⟩
          · by_cases htd : t = dn
            · rw [htd]; exact h2
            · refine hm.other t fun j hj hh => ?_
              by_cases hjn : j = n
              · subst hjn; rw [hdnO] at hh; cases hh; exact htd rfl
              · exact hex ⟨j, by omega, hh⟩
      unfold wpOp
      rw [hoi]
      dsimp only
      by_cases hin : i = n
      · subst hin
        rw [ho] at hoi; cases hoi
        have hag := agree hlk fun t ht => .inr ⟨hunf, hm.e2 hunf⟩
        have hex := hag.exec (Region.noSelect_spec hsel i o · · ho)
        have hw : Region.wanted o (yielded ops a.tmps) = true := by simp [Region.wanted, hg]
        rw [if_pos hw]
        refine .inl ?_
        unfold Oper.wp
        have h1 := ev_sound hsA hfx
        have h2 := evs_sound hsA hargs
        have hav : c.args.map A.eval = (args.map (toVal μ)).toArray := by
          apply Array.ext'
          rw [Array.toList_map, h2.1]
        have hfv : A.eval x = .func (.func f) #[] #[] := h1.1
        have hen := callVC_ent hcv
        have hrun : (execOp A.eval o).run P w = .ok (.enter f (args.map (toVal μ)).toArray) w := by
          simp only [execOp, hop, resolve, hx, hfv, Deferred.ofValue, hav, Sem.run_bind, Sem.run_pure, Result.andThen_ok, invoke]
          simp [hen]
        rw [hex, hrun]
        refine (call_sound (hm.e0 hunf) h2.2 hcv2).mono ?_
        rintro e w' ⟨μ', v, m', rfl, ⟨hk, X, hX⟩, hvi, hμ, hl, hr'⟩
        refine hK _ _ ⟨fun hh => ?_, fun _ => ⟨MR_pre (hm.e0 hunf).mr (by rw [← hX]; exact hr'.mr) hμ, μ', v, m', hr', hk, hvi, hμ, hl, ?_⟩, fun hh => ?_, by simp [Act.put, hdn, hm.size], by simp [Act.put, hdn, hm.defers], fun j oj d hj hoj hdj hl => ?_, fun z hz => ?_⟩
        · simp [his] at hh
        · rw [hdn, getD_put, if_pos ⟨rfl, by rw [hm.size, hsA.size]; exact hdnN⟩]
        · simp [his] at hh
        · rw [getD_set_ne false (by omega)] at hl
          rw [hdn, getD_put, if_neg (fun hh => (lateJ_spec hoj (hall j hj)).2.2.2.2.1 (by rw [hdnO]; simp [dstOf, hoj, hdj, hh.1]))]
          exact hm.yes j oj d hj hoj hdj hl
        · rw [hdn, getD_put, if_neg (fun hh => hz i (Nat.lt_succ_self _) (by rw [hdnO, hh.1]))]
          exact hm.other z hz
      · have hi' : i < n := by omega
        obtain ⟨⟨d, hd, hdN⟩, _, hguard, hread, hne, hnl, hdist, hlook⟩ := lateJ_spec hoi (hall i hi')
        have hag := agree hlook fun t ht => .inl fun e => hnl dn hdnO (by rw [← e]; exact ht)
        have hex := hag.exec (Region.noSelect_spec hsel i oi · · hoi)
        have hw : Region.wanted oi (yielded ops a.tmps) = true := by simp [Region.wanted, hguard]
        rw [if_pos hw]
        refine .inl ?_
        unfold Oper.wp
        have hY := hold i oi d (Nat.zero_le _) hi' hoi hd
        have hrun : (execOp A.eval oi).run P w = .ok (.value (A.tmps.getD d undef)) w := by
          cases hln : listed.getD n false with
          | false => exact hY w (hm.e0 hln).mr
          | true => exact hY w (hm.e1 hln).1
        rw [hex, hrun]
        have hdi : dstOf ops i = some d := by simp [dstOf, hoi, hd]
        have hddn : dn ≠ d := fun e => hne (by rw [hdnO, hdi, e])
        have val : ∀ z, (a.put (some d) (A.tmps.getD d undef)).tmps.getD z undef = if z = d then A.tmps.getD d undef else a.tmps.getD z undef := fun z => by
          rw [getD_put]
          by_cases hz : z = d
          · subst hz
            by_cases hlt : z < a.tmps.size
            · simp [hlt]
            · have : ¬ z < A.tmps.size := by rw [← hm.size]; exact hlt
              simp [hlt, this]
          · rw [if_neg (fun hh => hz hh.1.symm), if_neg hz]
        show K' (a.put oi.dst (A.tmps.getD d undef)) w
        rw [hd]
        refine hK _ _ ⟨fun hh => hm.e0 (by rw [getD_set_ne false hin] at hh; exact hh), fun hh => ?_, fun hh => by rw [val, if_neg hddn]; exact hm.e2 (by rw [getD_set_ne false hin] at hh; exact hh), by simp [Act.put, hm.size], by simp [Act.put, hm.defers], fun j oj dj hj hoj hdj hl => ?_, fun z hz => ?_⟩
        · obtain ⟨q1, μ', r, m', q2, q3, q4, q5, q6, q7⟩ := hm.e1 (by rw [getD_set_ne false hin] at hh; exact hh)
          exact ⟨q1, μ', r, m', q2, q3, q4, q5, q6, by rw [val, if_neg hddn]; exact q7⟩
        · rw [val]
          by_cases hjd : dj = d
          · rw [if_pos hjd, hjd]
          · rw [if_neg hjd]
            rcases getD_set_cases hl with rfl | hl
            · rw [hoi] at hoj; cases hoj; rw [hd] at hdj; cases hdj; exact absurd rfl hjd
            · exact hm.yes j oj dj hj hoj hdj hl
        · rw [val, if_neg (fun hh => hz i (by omega) (by rw [hdi, hh]))]
          exact hm.other z hz)
    (fun a' w' hm => by
      have hyes : ∀ i, i < n + 1 → (fullTo ops (n + 1)).getD i false = true := fun i hi => by
        have : i < ops.size := by omega
        simp [fullTo, this, hi]
      obtain ⟨_, μ', r, m', q2, q3, q4, q5, q6, q7⟩ := hm.e1 (hyes n (by omega))
      have hsr : SRel N μ' m'.length (sset N s' (some dn) r) a' := by
        have hbase := (hsA.mono q6 fun id hid => (q5 id hid).symm).put (some dn) r q4
        refine ⟨by rw [hm.size, hsA.size], by rw [hm.defers, hsA.defers], fun t v hv => ?_⟩
        obtain ⟨h1, h2⟩ := hbase.val t v hv
        refine ⟨?_, h2⟩
        rw [← h1, getD_put]
        by_cases htd : dn = t
        · subst htd
          rw [if_pos ⟨rfl, by rw [hsA.size]; exact hdnN⟩]; exact q7
        · rw [if_neg (fun hh => htd hh.1)]
          by_cases hex : ∃ j, j < n ∧ dstOf ops j = some t
          · obtain ⟨j, hj, hdj⟩ := hex
            cases hoj : ops[j]? with
            | none => simp [dstOf, hoj] at hdj
            | some oj => exact hm.yes j oj t hj hoj (by simpa [dstOf, hoj] using hdj) (hyes j (by omega))
          · refine hm.other t fun j hj hh => ?_
            by_cases hjn : j = n
            · subst hjn; rw [hdnO] at hh; cases hh; exact htd rfl
            · exact hex ⟨j, by omega, hh⟩
      have := wpAny_of_seq (md := .any) (Q' := Q) (ops.toList.drop (n + 1)) (n + 1) (fullTo ops (n + 1)) a' w' (fun j => by simp [List.getElem?_drop]) (by simpa [fullTo] using hsq) (htail μ' _ m' a' w' hsr q2 q3)
      simpa using this)
    (n + 1) (List.range (n + 1)) (Array.replicate ops.size false) a { w with drawn := w.drawn + 1 } (by simp) List.nodup_range (fun j => ?_) inv0 ?_
  · rw [show n + 1 + (ops.size - (n + 1)) = ops.size by omega] at key
    exact key
  · rw [List.mem_range]
    constructor
    · intro hj
      have : j < ops.size := by omega
      exact ⟨hj, by simp [this]⟩
    · exact fun hh => hh.1
  · refine ⟨fun _ => hr1, fun hh => ?_, fun _ => (hother dn fun j _ hj hh => ?_).symm, by rw [hs.size, hsA.size], by rw [hs.defers, hsA.defers], fun i oi d _ _ _ hl => ?_, fun z hz => (hother z fun j _ hj => hz j (by omega)).symm⟩
    · rw [getD_replicate_false] at hh; cases hh
    · cases hoj : ops[j]? with
      | none => simp [dstOf, hoj] at hh
      | some oj => exact (lateJ_spec hoj (hall j hj)).2.2.2.2.1 (by rw [hdnO, hh])
    · rw [getD_replicate_false] at hl; cases hl
end Go.Proofs.YtjanlnngeklhoabGreat

/- Regions in the text's order, branches, loops, and whole functions. -/
set_option linter.unusedVariables false
set_option maxRecDepth 100000
set_option linter.unusedSimpArgs false
namespace Go.Proofs.YtjanlnngeklhoabGreat
variable {P : Program}

/-! ### late appends -/
theorem lateR_spec {N : Nat} {ops : Array Oper} {n p i : Nat} {o : Oper} (ho : ops[i]? = some o) (h : lateR N ops n p i = true) :
    (∃ d, o.dst = some d ∧ d < N) ∧ (∀ e ∈ o.after, Region.binds .any e = true → e.on < i) ∧ o.guard = none ∧ readOp o.op = true ∧ (Region.waitsFor .any ops n i = true ∨ pureOp o.op = true) ∧ dstOf ops n ≠ dstOf ops i ∧ (∀ d, dstOf ops n = some d → ¬ d ∈ o.looksAt ops) ∧ (∀ j, j < p → i ≠ j → dstOf ops j ≠ dstOf ops i) ∧
      ∀ j d, j < p → dstOf ops j = some d → d ∈ o.looksAt ops → Region.waitsFor .any ops i j = true := by
  unfold lateR at h
  rw [ho] at h
  simp only [Bool.and_eq_true, Bool.or_eq_true, List.all_eq_true, List.mem_range] at h
  obtain ⟨⟨⟨⟨⟨⟨⟨h1, h2⟩, h3⟩, h4⟩, h8⟩, h5⟩, h7⟩, h6⟩ := h
  refine ⟨(by cases hd : o.dst with
    | none => rw [hd] at h1; cases h1
    | some d => rw [hd] at h1; exact ⟨d, rfl, by simpa using h1⟩), backB_spec h2, by simpa using h3, h4, h8.imp (fun g => g.2) id, by simpa using h5, fun d hd hl => ?_, fun j hj hne heq => ?_, fun j d hj hd hl => ?_⟩
  · rw [hd] at h7
    have hc : (o.looksAt ops).contains d = true := by simpa using hl
    simp only [hc, Bool.not_true] at h7
    cases h7
  · have := (h6 j hj).1
    simp [hne, heq] at this
  · have := (h6 j hj).2
    rw [hd] at this
    have hc : (o.looksAt ops).contains d = true := by simpa using hl
    simpa only [hc, Bool.not_true, Bool.false_or, Bool.false_eq_true, false_or] using this
theorem lateL_spec {N : Nat} {ops : Array Oper} {n p : Nat} {o : Oper} (ho : ops[n]? = some o) (h : lateL N ops n p = true) : (∃ d, o.dst = some d ∧ d < N) ∧ o.guard = none ∧ (∀ e ∈ o.after, Region.binds .any e = true → e.on < n) ∧
      ∀ j d, j < p → dstOf ops j = some d → d ∈ o.looksAt ops → Region.waitsFor .any ops n j = true := by
  unfold lateL at h
  rw [ho] at h
  simp only [Bool.and_eq_true, List.all_eq_true, List.mem_range] at h
  obtain ⟨⟨⟨h1, h3⟩, h4⟩, h5⟩ := h
  refine ⟨(by cases hd : o.dst with
    | none => rw [hd] at h1; cases h1
    | some d => rw [hd] at h1; exact ⟨d, rfl, by simpa using h1⟩), by simpa using h3, backB_spec h4, fun j d hj hd hl => ?_⟩
  have := h5 j hj
  rw [hd] at this
  have hc : (o.looksAt ops).contains d = true := by simpa using hl
  simpa only [hc, Bool.not_true, Bool.false_or, Bool.false_eq_true, false_or] using this
theorem blockOf_nones : ∀ (k id : Nat), blockOf (List.replicate k (none : Option (SV × Nat))) id = none
  | 0, _ => rfl
  | k + 1, 0 => rfl
  | k + 1, id + 1 => blockOf_nones k id
theorem MR_nones (μ : Nat → Nat) (k : Nat) (w : World) : MR μ (List.replicate k none) w :=
  ⟨fun id v c hb => (by rw [blockOf_nones] at hb; cases hb), fun i j hi _ _ => (by rw [blockOf_nones] at hi; cases hi), fun id v c hb => (by rw [blockOf_nones] at hb; cases hb)⟩

theorem lateA_pass {T : Tab} (hT : TabOK P T) (hE : TabEq P T) {μ : Nat → Nat} {m : Mem} {w : World} (hr : MR μ m w) {N n p : Nat} {ops : Array Oper} {K : Slots → Prop} (hsel : Region.noSelect ops = true) (hall : ∀ i, i < p → i ≠ n → lateR N ops n p i = true) :
    ∀ (l : List Nat) (s : Slots) (a : Act), (∀ i ∈ l, i < p ∧ i ≠ n) → l.Pairwise (· < ·) → SRel N μ m.length s a → readsAt T N m ops l s K →
      ∃ A s', SRel N μ m.length s' A ∧ K s' ∧ (∀ x, (∀ j ∈ l, dstOf ops j ≠ some x) → A.tmps.getD x undef = a.tmps.getD x undef) ∧
        ∀ j o d, j ∈ l → ops[j]? = some o → o.dst = some d → YlL P μ m o A (A.tmps.getD d undef)
  | [], s, a, hl, hp, hs, h => ⟨a, s, hs, h, fun _ _ => rfl, fun j o d h1 => by cases h1⟩
  | i :: r, s, a, hl, hp, hs, h => by
    obtain ⟨hip, hin⟩ := hl i (by simp)
    obtain ⟨hpr, hp'⟩ := List.pairwise_cons.1 hp
    unfold readsAt at h
    split at h
    case h_2 => exact h.elim
    rename_i o h0
    obtain ⟨⟨d, hd, hdN⟩, hback, hguard, hread, _, _, hnl, hdist, hlook⟩ := lateR_spec h0 (hall i hip hin)
    have hdi : dstOf ops i = some d := by simp [dstOf, h0, hd]
    obtain ⟨v, h1, h2⟩ := read_det h
    obtain ⟨v', e, hids, _⟩ := read_sound hT hE hs hr h2
    subst e
    obtain ⟨A, s', g1, g2, g3, g4⟩ := lateA_pass hT hE hr hsel hall r _ (a.put o.dst (toVal μ v')) (fun j hj => hl j (by simp [hj])) hp' (hs.put o.dst v' hids) h1
    have putne : ∀ x, d ≠ x → (a.put o.dst (toVal μ v')).tmps.getD x undef = a.tmps.getD x undef := fun x hx => by rw [hd, getD_put, if_neg (fun hh => hx hh.1)]
    refine ⟨A, s', g1, g2, fun x hx => ?_, fun j oj dj hj hoj hdj => ?_⟩
    · rw [g3 x (fun j hj => hx j (by simp [hj]))]
      exact putne x fun e => hx i (by simp) (by rw [hdi, e])
    · rcases List.mem_cons.1 hj with rfl | hj
      · rw [h0] at hoj; cases hoj
        rw [hd] at hdj; cases hdj
        have hval : A.tmps.getD d undef = toVal μ v' := by
          rw [g3 d (fun k hk hh => hdist k (hl k (by simp [hk])).1 (by have := hpr k hk; omega) (by rw [hh, hdi])), hd, getD_put, if_pos ⟨rfl, by rw [hs.size]; exact hdN⟩]
        rw [hval]
        have hag : Agree ops o A a := fun t ht => by
          refine ⟨?_, by rw [g1.size, hs.size]⟩
          by_cases hex : ∃ k, k < p ∧ dstOf ops k = some t
          · obtain ⟨k, hk, hdk⟩ := hex
            have hkn : k ≠ n := fun e => hnl t (by rw [← e]; exact hdk) ht
            have hwt := hlook k t hk hdk ht
            obtain ⟨o', ho', e, he, hb, hon⟩ := Region.waitsFor_spec hwt
            rw [h0] at ho'; cases ho'
            have hki : k < j := by rw [← hon]; exact hback e he hb
            cases hok : ops[k]? with
            | none => simp [dstOf, hok] at hdk
            | some ok =>
              have hdk' := (lateR_spec hok (hall k hk hkn)).2.2.2.2.2.2.2.1
              rw [g3 t (fun q hq hh => hdk' q (hl q (by simp [hq])).1 (by have := hpr q hq; omega) (by rw [hh, hdk]))]
              exact putne t fun e => hdk' j hip (by omega) (by rw [hdi, hdk, e])
          · rw [g3 t (fun q hq hh => hex ⟨q, (hl q (by simp [hq])).1, hh⟩)]
            exact putne t fun e => hex ⟨j, hip, by rw [hdi, e]⟩
        have hex := hag.exec (Region.noSelect_spec hsel j o · · h0)
        intro M hM hMp w' hw'
        rw [hex]
        have h2' : readVC T o.op s M fun v => v = v' := by
          rcases hMp with rfl | hpu
          · exact h2
          · exact read_pure M hpu h2
        obtain ⟨v'', e, _, hrun⟩ := read_sound hT hE (m := M) (by rw [hM]; exact hs) hw' h2'
        subst e
        exact hrun
      · exact g4 j oj dj hj hoj hdj

/-- the state in the midst -/
structure AMid (μ0 : Nat → Nat) (m0 : Mem) (w0 : World) (N : Nat) (μ : Nat → Nat) (m : Mem) (ops : Array Oper) (n p dn : Nat) (K : SV → Slots → Mem → Prop) (A : Act) (listed : Array Bool) (a : Act) (w : World) : Prop where
  e0 : listed.getD n false = false → RunS μ0 m0 w0 μ m w
  e1 : listed.getD n false = true → ∃ μ' r s'' m', RunS μ0 m0 w0 μ' m' w ∧ SRel N μ' m'.length s'' A ∧ K r s'' m' ∧ (∀ i ∈ r.ids, i < m'.length) ∧ a.tmps.getD dn undef = toVal μ' r
  e2 : listed.getD n false = false → a.tmps.getD dn undef = A.tmps.getD dn undef
  size : a.tmps.size = A.tmps.size
  defers : a.defers = A.defers
  yes : ∀ i o d, i < p → i ≠ n → ops[i]? = some o → o.dst = some d → listed.getD i false = true → a.tmps.getD d undef = A.tmps.getD d undef
  other : ∀ x, (∀ i, i < p → dstOf ops i ≠ some x) → a.tmps.getD x undef = A.tmps.getD x undef

theorem lateA_sound {T : Tab} (hT : TabOK P T) (hE : TabEq P T) {μ0 : Nat → Nat} {m0 : Mem} {w0 : World} (hO : m0.length ≤ T.own) {N n p rid : Nat} {ops : Array Oper} {μ : Nat → Nat} {s : Slots} {m : Mem} {a : Act} {w : World} {K : Slots → Mem → Prop} {Q : Exit → Act → World → Prop}
    (hs : SRel N μ m.length s a) (hr : RunS μ0 m0 w0 μ m w) (hB : lateA N ops n p = true) (hstart : readsAt T N m ops ((List.range p).filter fun i => decide (i ≠ n)) s fun s' => lateAppVC T ops[n]? s' m fun d r s'' m' => opsVC P T N ops (ops.toList.drop p) (sset N s'' d r) m' K)
    (htail : ∀ μ' s' m' a' w', SRel N μ' m'.length s' a' → RunS μ0 m0 w0 μ' m' w' → opsVC P T N ops (ops.toList.drop p) s' m' K → wpList P ops Q (ops.toList.drop p) a' w') : (Code.region rid ops true).wp P Q a w := by
  unfold lateA at hB
  simp only [Bool.and_eq_true, Bool.or_eq_true, decide_eq_true_eq, List.all_eq_true, List.mem_range] at hB
  obtain ⟨⟨⟨⟨⟨⟨⟨hsel, hn⟩, hnp⟩, hsk⟩, hch⟩, hsq⟩, hcal⟩, hall⟩ := hB
  have hall : ∀ i, i < p → i ≠ n → lateR N ops n p i = true := fun i hi hne => (hall i hi).resolve_left hne
  have hlm : ∀ i, i ∈ ((List.range p).filter fun i => decide (i ≠ n)) ↔ i < p ∧ i ≠ n := fun i => by simp [List.mem_filter]
  obtain ⟨A, s', hsA, h, hother, hold⟩ := lateA_pass hT hE hr.mr hsel hall _ s a (fun i hi => (hlm i).1 hi) (List.pairwise_lt_range.filter _) hs hstart
  unfold lateAppVC at h
  split at h
  case h_2 => exact h.elim
  rename_i o ho
  split at h
  case h_2 => exact h.elim
  rename_i c hop
  split at h
  case h_2 => exact h.elim
  rename_i hx
  split at h
  case h_2 => exact h.elim
  rename_i t u a0 x0 hts hargs
  obtain ⟨⟨dn, hdn, hdnN⟩, hg, hbk, hlk⟩ := lateL_spec ho hcal
  rw [hdn] at h
  have hdnO : dstOf ops n = some dn := by simp [dstOf, ho, hdn]
  have hr1 := hr.drew
  refine wp_region_any hT.mixed ?_
  have inv0 : HeadInv .any ops p (Array.replicate ops.size false) :=
    ⟨by simp, fun j oj _ hl => (by rw [getD_replicate_false] at hl; cases hl), fun t _ ht => getD_in (by simpa using ht) (getD_replicate_false _ _)⟩
  have key := any_of (P := P) (ops := ops) (n := p) (g := ops.size - p) (Q := Q) (I := AMid μ0 m0 w0 N μ m ops n p dn (fun r s'' m' => opsVC P T N ops (ops.toList.drop p) (sset N s'' (some dn) r) m' K) A) (.inl ⟨hsk, hch, hn⟩)
    (fun i oi hi hoi => by
      by_cases hin : i = n
      · subst hin; rw [ho] at hoi; cases hoi; exact hbk
      · exact (lateR_spec hoi (hall i hi hin)).2.1)
    (fun listed a w i inv hm hi hrd K' hK => by
      obtain ⟨hun, oi, hoi, hdeps⟩ := mem_ready.1 hrd
      have his : i < listed.size := by rw [inv.size]; exact (Array.getElem?_eq_some_iff.1 hoi).1
      have hunf : listed.getD i false = false := getD_both hun
      have waited : ∀ j, Region.waitsFor .any ops i j = true → listed.getD j false = true := fun j hwt => by
        obtain ⟨o', ho', e, he, hb, hon⟩ := Region.waitsFor_spec hwt
        rw [hoi] at ho'; cases ho'
        have hl := hdeps e he hb
        rw [hon] at hl
        exact hl
      have agree : (∀ j d, j < p → dstOf ops j = some d → d ∈ oi.looksAt ops → Region.waitsFor .any ops i j = true) → (∀ t, t ∈ oi.looksAt ops → t ≠ dn ∨ a.tmps.getD dn undef = A.tmps.getD dn undef) → Agree ops oi a A := fun hlook hd t ht => by
        refine ⟨?_, hm.size⟩
        by_cases htd : t = dn
        · subst htd
          rcases hd t ht with h1 | h2
          · exact absurd rfl h1
          · exact h2
        · by_cases hex : ∃ j, j < p ∧ dstOf ops j = some t
          · obtain ⟨j, hj, hdj⟩ := hex
            have hwt := hlook j t hj hdj ht
            cases hoj : ops[j]? with
            | none => simp [dstOf, hoj] at hdj
            | some oj => exact hm.yes j oj t hj (fun e => htd (by rw [e, hdnO] at hdj; cases hdj; rfl)) hoj (by simpa [dstOf, hoj] using hdj) (waited j hwt)
          · exact hm.other t fun j hj hh => hex ⟨j, hj, hh⟩
      unfold wpOp
      rw [hoi]
      dsimp only
      by_cases hin : i = n
      · subst hin
        rw [ho] at hoi; cases hoi
        have hag := agree hlk fun t ht => .inr (hm.e2 hunf)
        have hex := hag.exec (Region.noSelect_spec hsel i o · · ho)
        have hw : Region.wanted o (yielded ops a.tmps) = true := by simp [Region.wanted, hg]
        rw [if_pos hw]
        refine .inl ?_
        unfold Oper.wp
        obtain ⟨v, s'', m', μ', w', hk, hs', hr', hvi, hrun0⟩ := appAny_sound hT hsA (hm.e0 hunf) hO (ty := o.type) h
        have h2 := evs_sound hsA hargs
        have hav : c.args.map A.eval = #[toVal μ a0, toVal μ x0] := by
          apply Array.ext'
          simpa using h2.1
        have hat : c.argTypes = #[t, u] := by
          apply Array.ext'
          simpa using hts
        have hrun : (execOp A.eval o).run P w = .ok (.value (toVal μ' v)) w' := by
          simp only [execOp, hop, resolve, hx, hav, Sem.run_bind, Sem.run_pure, Result.andThen_ok, invoke, builtin, hat, hrun0]
        rw [hex, hrun]
        show K' (a.put o.dst (toVal μ' v)) w'
        refine hK _ _ ⟨fun hh => ?_, fun _ => ⟨μ', v, s'', m', hr', hs', hk, hvi, ?_⟩, fun hh => ?_, by simp [Act.put, hdn, hm.size], by simp [Act.put, hdn, hm.defers], fun j oj d hj hjn hoj hdj hl => ?_, fun z hz => ?_⟩
        · simp [his] at hh
        · rw [hdn, getD_put, if_pos ⟨rfl, by rw [hm.size, hsA.size]; exact hdnN⟩]
        · simp [his] at hh
        · rw [getD_set_ne false (fun e => hjn e.symm)] at hl
          rw [hdn, getD_put, if_neg (fun hh => (lateR_spec hoj (hall j hj hjn)).2.2.2.2.2.1 (by rw [hdnO]; simp [dstOf, hoj, hdj, hh.1]))]
          exact hm.yes j oj d hj hjn hoj hdj hl
        · rw [hdn, getD_put, if_neg (fun hh => hz i hnp (by rw [hdnO, hh.1]))]
          exact hm.other z hz
      · obtain ⟨⟨d, hd, hdN⟩, _, hguard, hread, hpw, hne, hnl, hdist, hlook⟩ := lateR_spec hoi (hall i hi hin)
        have hag := agree hlook fun t ht => .inl fun e => hnl dn hdnO (by rw [← e]; exact ht)
        have hex := hag.exec (Region.noSelect_spec hsel i oi · · hoi)
        have hw : Region.wanted oi (yielded ops a.tmps) = true := by simp [Region.wanted, hguard]
        rw [if_pos hw]
        refine .inl ?_
        unfold Oper.wp
        have hY := hold i oi d ((hlm i).2 ⟨hi, hin⟩) hoi hd
        have hrun : (execOp A.eval oi).run P w = .ok (.value (A.tmps.getD d undef)) w := by
          cases hln : listed.getD n false with
          | false => exact hY m rfl (.inl rfl) w (hm.e0 hln).mr
          | true =>
            refine hY (List.replicate m.length none) (by simp) (.inr ?_) w (MR_nones _ _ _)
            rcases hpw with hwt | hpu
            · exfalso
              obtain ⟨o', ho', e, he, hb, hon⟩ := Region.waitsFor_spec hwt
              have := inv.closed n o' ho' hln e he hb
              rw [hon, hunf] at this; cases this
            · exact hpu
        rw [hex, hrun]
        have hdi : dstOf ops i = some d := by simp [dstOf, hoi, hd]
        have hddn : dn ≠ d := fun e => hne (by rw [hdnO, hdi, e])
        have val : ∀ z, (a.put (some d) (A.tmps.getD d undef)).tmps.getD z undef = if z = d then A.tmps.getD d undef else a.tmps.getD z undef := fun z => by
          rw [getD_put]
          by_cases hz : z = d
          · subst hz
            by_cases hlt : z < a.tmps.size
            · simp [hlt]
            · have : ¬ z < A.tmps.size := by rw [← hm.size]; exact hlt
              simp [hlt, this]
          · rw [if_neg (fun hh => hz hh.1.symm), if_neg hz]
        show K' (a.put oi.dst (A.tmps.getD d undef)) w
        rw [hd]
        refine hK _ _ ⟨fun hh => hm.e0 (by rw [getD_set_ne false hin] at hh; exact hh), fun hh => ?_, fun hh => by rw [val, if_neg hddn]; exact hm.e2 (by rw [getD_set_ne false hin] at hh; exact hh), by simp [Act.put, hm.size], by simp [Act.put, hm.defers], fun j oj dj hj hjn hoj hdj hl => ?_, fun z hz => ?_⟩
        · obtain ⟨μ', r, s'', m', q2, q3, q4, q5, q7⟩ := hm.e1 (by rw [getD_set_ne false hin] at hh; exact hh)
          exact ⟨μ', r, s'', m', q2, q3, q4, q5, by rw [val, if_neg hddn]; exact q7⟩
        · rw [val]
          by_cases hjd : dj = d
          · rw [if_pos hjd, hjd]
          · rw [if_neg hjd]
            rcases getD_set_cases hl with rfl | hl
            · rw [hoi] at hoj; cases hoj; rw [hd] at hdj; cases hdj; exact absurd rfl hjd
            · exact hm.yes j oj dj hj hjn hoj hdj hl
        · rw [val, if_neg (fun hh => hz i hi (by rw [hdi, hh]))]
          exact hm.other z hz)
    (fun a' w' hm => by
      have hyes : ∀ i, i < p → (fullTo ops p).getD i false = true := fun i hi => by
        have : i < ops.size := by omega
        simp [fullTo, this, hi]
      obtain ⟨μ', r, s'', m', q2, q3, q4, q5, q7⟩ := hm.e1 (hyes n hnp)
      have hsr : SRel N μ' m'.length (sset N s'' (some dn) r) a' := by
        have hbase := q3.put (some dn) r q5
        refine ⟨by rw [hm.size, hsA.size], by rw [hm.defers, hsA.defers], fun t v hv => ?_⟩
        obtain ⟨h1, h2⟩ := hbase.val t v hv
        refine ⟨?_, h2⟩
        rw [← h1, getD_put]
        by_cases htd : dn = t
        · subst htd
          rw [if_pos ⟨rfl, by rw [hsA.size]; exact hdnN⟩]; exact q7
        · rw [if_neg (fun hh => htd hh.1)]
          by_cases hex : ∃ j, j < p ∧ dstOf ops j = some t
          · obtain ⟨j, hj, hdj⟩ := hex
            cases hoj : ops[j]? with
            | none => simp [dstOf, hoj] at hdj
            | some oj => exact hm.yes j oj t hj (fun e => htd (by rw [e, hdnO] at hdj; cases hdj; rfl)) hoj (by simpa [dstOf, hoj] using hdj) (hyes j hj)
          · exact hm.other t fun j hj hh => hex ⟨j, hj, hh⟩
      have := wpAny_of_seq (md := .any) (Q' := Q) (ops.toList.drop p) p (fullTo ops p) a' w' (fun j => by simp [List.getElem?_drop]) (by simpa [fullTo] using hsq) (htail μ' _ m' a' w' hsr q2 q4)
      simpa using this)
    p (List.range p) (Array.replicate ops.size false) a { w with drawn := w.drawn + 1 } (by simp) List.nodup_range (fun j => ?_) inv0 ?_
  · rw [show p + (ops.size - p) = ops.size by omega] at key
    exact key
  · rw [List.mem_range]
    constructor
    · intro hj
      have : j < ops.size := by omega
      exact ⟨hj, by simp [this]⟩
    · exact fun hh => hh.1
  · refine ⟨fun _ => hr1, fun hh => ?_, fun _ => (hother dn fun j hj hh => ?_).symm, by rw [hs.size, hsA.size], by rw [hs.defers, hsA.defers], fun i oi d _ _ _ _ hl => ?_, fun z hz => (hother z fun j hj => hz j ((hlm j).1 hj).1).symm⟩
    · rw [getD_replicate_false] at hh; cases hh
    · obtain ⟨hjp, hjn⟩ := (hlm j).1 hj
      cases hoj : ops[j]? with
      | none => simp [dstOf, hoj] at hh
      | some oj => exact (lateR_spec hoj (hall j hjp hjn)).2.2.2.2.2.1 (by rw [hdnO, hh])
    · rw [getD_replicate_false] at hl; cases hl

/-- a state of the logic fits a frame and a world -/
structure Fits (μ0 : Nat → Nat) (m0 : Mem) (w0 : World) (N : Nat) (s : Slots) (m : Mem) (a : Act) (w : World) : Prop where
  fits : ∃ μ, SRel N μ m.length s a ∧ RunS μ0 m0 w0 μ m w

theorem callVC_enters {f : Nat} {args : List SV} {m : Mem} {K : SV → Mem → Prop} (h : callVC P f args m K) : ∀ args w, (callFunc f args).run P w = .ok (.enter f args) w := by
  obtain ⟨ids, _, _, h⟩ := callVC_elim h
  unfold callWith at h
  split at h
  · exact h.2.enters
  · exact h.elim

/-- a call over all blocks as they are -/
theorem direct_sound {μ0 : Nat → Nat} {m0 : Mem} {w0 : World} {μ : Nat → Nat} {m : Mem} {w : World} (h : RunS μ0 m0 w0 μ m w) {f : Nat} {args : List SV} {K : SV → Mem → Prop} (hc : Spec P f args m fun r m' => liveP m m' ∧ K r m') :
    Calls P f (args.map (toVal μ)).toArray w fun e w' => ∃ μ' v m', e = .returned (toVal μ' v) ∧ K v m' ∧ (∀ i ∈ v.ids, i < m'.length) ∧ (∀ id, id < m.length → μ' id = μ id) ∧ m.length ≤ m'.length ∧ RunS μ0 m0 w0 μ' m' w' := by
  refine (hc.run μ w h.mr).mono ?_
  rintro e w' ⟨μ', r, m', rfl, ⟨hlive, hK⟩, hi, ha, hl, hf, hmr, hk⟩
  have hlen := h.len
  refine ⟨μ', r, m', rfl, hK, hi, ha, hl, hmr, by omega, fun id hid => by rw [ha id (by omega)]; exact h.agree id hid, fun id hid hs => h.live id hid (hlive id (by omega) hs), fun id hid hs => ?_, ⟨Nat.le_trans h.kept.size hk.size, fun b hb hne => ?_, ⟨hk.rest.1.trans h.kept.rest.1, hk.rest.2.1.trans h.kept.rest.2.1, hk.rest.2.2.trans h.kept.rest.2.2⟩, fun a => (hk.fro a).trans (h.kept.fro a)⟩⟩
  · rcases Nat.lt_or_ge id m.length with hlt | hge
    · rw [ha id hlt]; exact h.fresh id hid (hlive id hlt hs)
    · exact Nat.le_trans h.kept.size (hf id hge hs)
  · rw [hk.old b (Nat.lt_of_lt_of_le hb h.kept.size) fun id hs he => ?_]
    · exact h.kept.old b hb hne
    · rcases Nat.lt_or_ge id m0.length with hlt | hge
      · exact hne id (h.live id hlt hs) (by rw [← h.agree id hlt]; exact he)
      · have := h.fresh id hge hs; omega

theorem Act.put_same {a : Act} {d : Option Tmp} {v u : Value} (h : v = u) : a.put d v = a.put d u := by rw [h]

/-- a method by value, found -/
theorem method_run {t : Nat} {name : String} {f : Nat} (h : MethOK P t name f) (v : Value) (w : World) : (method (P.types.size + Made.depth) t v name).run P w = .ok (f, v) w := by
  obtain ⟨h1, fs, h2⟩ := h
  obtain ⟨i, hi, m, hm, hp, hf⟩ : ∃ i, P.info? t = some i ∧ ∃ m, i.methods.find? (·.name == name) = some m ∧ m.path.toList.isEmpty = true ∧ m.func = some (f, false) := by
    cases hq : P.info? t with
    | none => rw [hq] at h1; cases h1
    | some i =>
      rw [hq] at h1
      cases hm : i.methods.find? (·.name == name) with
      | none => simp [hm] at h1
      | some m => simp [hm] at h1; exact ⟨i, rfl, m, hm, by simpa using h1.1, h1.2⟩
  have hd : ∃ k, P.types.size + Made.depth = k + 1 := ⟨P.types.size + Made.depth - 1, by
    have : 0 < Made.depth := by decide
    omega⟩
  obtain ⟨k, hk⟩ := hd
  rw [hk]
  have hpl : m.path.toList = [] := by simpa using hp
  simp [method, Sem.run_bind, typeInfo, hi, hm, hpl, follow, hf, receiverAt, run_underlying h2 w, Place.get]

theorem one_sound {T : Tab} (hT : TabOK P T) (hE : TabEq P T) {μ0 : Nat → Nat} {m0 : Mem} {w0 : World} {N : Nat} {o : Oper} {s : Slots} {m : Mem} {a : Act} {w : World} {K : Slots → Mem → Prop} {next : Act → World → Prop} {Q : Exit → Act → World → Prop}
    (hO : m0.length ≤ T.own) (hf : Fits μ0 m0 w0 N s m a w) (h : oneVC P T N o s m K) (hnext : ∀ s' m' a' w', Fits μ0 m0 w0 N s' m' a' w' → K s' m' → next a' w') : o.wp P a w next Q := by
  obtain ⟨μ, hs, hr⟩ := hf.fits
  have readCase : readVC T o.op s m (fun v => K (sset N s o.dst v) m) → o.wp P a w next Q := by
    intro h
    obtain ⟨v, hk, hi, hrun⟩ := read_sound hT hE hs hr.mr h
    unfold Oper.wp
    rw [hrun]
    exact hnext _ _ _ _ ⟨μ, hs.put o.dst v hi, hr⟩ hk
  have newCase : newVC T o.op s (fun v mk => K (sset N s o.dst (mk m.length)) (m ++ [some (v, v.size)])) → o.wp P a w next Q := by
    intro h
    obtain ⟨v, mk, t, hk, hi, hmk, hrun⟩ := new_sound hT hs h
    unfold Oper.wp
    rw [hrun w]
    refine hnext _ _ _ _ ⟨ext μ m.length w.heap.size, ?_, hr.alloc hi t⟩ hk
    have hs' : SRel N (ext μ m.length w.heap.size) (m ++ [some (v, v.size)]).length s a := hs.mono (by simp) fun id hid => (ext_old hid).symm
    exact hs'.put o.dst _ (by rw [hmk]; simp)
  unfold oneVC at h
  split at h
  · rename_i t x y ho
    obtain ⟨m', w', hk, hr', hl, hrun⟩ := store_sound hT hs hr ho h
    unfold Oper.wp
    rw [hrun]
    refine hnext _ _ _ _ ⟨μ, ?_, hr'⟩ hk
    rw [hl]
    exact hs.skip o.dst
  · rename_i t ho; rw [← ho] at h; exact newCase h
  · rename_i t x ho; rw [← ho] at h; exact newCase h
  · rename_i t n ps ho; rw [← ho] at h; exact newCase h
  · rename_i t l c ho; rw [← ho] at h; exact newCase h
  · rename_i c ho
    split at h
    · rename_i x hcal
      split at h
      · rename_i f args hx hargs
        have h1 := ev_sound hs hx
        have h2 := evs_sound hs hargs
        have both : (∀ args w, (callFunc f args).run P w = .ok (.enter f args) w) ∧ Calls P f (args.map (toVal μ)).toArray w fun e w' => ∃ μ' v m', e = .returned (toVal μ' v) ∧ K (sset N s o.dst v) m' ∧ (∀ i ∈ v.ids, i < m'.length) ∧ (∀ id, id < m.length → μ' id = μ id) ∧ m.length ≤ m'.length ∧ RunS μ0 m0 w0 μ' m' w' := by
          split at h
          · exact ⟨callVC_enters h, call_sound hr h2.2 h⟩
          · exact ⟨h.enters, direct_sound hr h⟩
        obtain ⟨hen, hc⟩ := both
        unfold Oper.wp
        have hav : c.args.map a.eval = (args.map (toVal μ)).toArray := by
          apply Array.ext'
          rw [Array.toList_map, h2.1]
        have hfv : a.eval x = .func (.func f) #[] #[] := h1.1
        have hrun : (execOp a.eval o).run P w = .ok (.enter f (args.map (toVal μ)).toArray) w := by
          simp only [execOp, ho, resolve, hcal, hfv, Deferred.ofValue, hav, Sem.run_bind, Sem.run_pure, Result.andThen_ok, invoke]
          simp [hen]
        rw [hrun]
        refine hc.mono ?_
        rintro e w' ⟨μ', v, m', rfl, hk, hvi, hμ, hl, hr'⟩
        refine hnext _ _ _ _ ⟨μ', ?_, hr'⟩ hk
        exact (hs.mono hl fun id hid => (hμ id hid).symm).put o.dst v hvi
      · rename_i f v0 args hx hargs
        obtain ⟨hb, h⟩ := chk_iff.1 h
        have h1 := ev_sound hs hx
        have h2 := evs_sound hs hargs
        have hids : ∀ i ∈ idsOf (v0 :: args), i < m.length := fun i hi => by
          have : i ∈ v0.ids ++ idsOf args := hi
          rw [pure0_ids v0 hb, List.nil_append] at this
          exact h2.2 i this
        have hen := callVC_enters h
        have hc := call_sound hr hids h
        unfold Oper.wp
        have hav : c.args.map a.eval = (args.map (toVal μ)).toArray := by
          apply Array.ext'
          rw [Array.toList_map, h2.1]
        have hfv : a.eval x = .func (.func f) #[val0 v0] #[] := h1.1
        have hrun : (execOp a.eval o).run P w = .ok (.enter f ((v0 :: args).map (toVal μ)).toArray) w := by
          simp only [execOp, ho, resolve, hcal, hfv, Deferred.ofValue, hav, Sem.run_bind, Sem.run_pure, Result.andThen_ok, invoke]
          simp [hen, val0_eq μ v0 hb]
        rw [hrun]
        refine hc.mono ?_
        rintro e w' ⟨μ', v, m', rfl, hk, hvi, hμ, hl, hr'⟩
        refine hnext _ _ _ _ ⟨μ', ?_, hr'⟩ hk
        exact (hs.mono hl fun id hid => (hμ id hid).symm).put o.dst v hvi
      · exact h.elim
    · rename_i hcal
      split at h
      · rename_i t u a' x' hts hargs
        obtain ⟨v, s', m', μ', w', hk, hs', hr', hvi, hrun0⟩ := appAny_sound hT hs hr hO (ty := o.type) h
        have h2 := evs_sound hs hargs
        have hav : c.args.map a.eval = #[toVal μ a', toVal μ x'] := by
          apply Array.ext'
          simpa using h2.1
        have hat : c.argTypes = #[t, u] := by
          apply Array.ext'
          simpa using hts
        have hrun : (execOp a.eval o).run P w = .ok (.value (toVal μ' v)) w' := by
          simp only [execOp, ho, resolve, hcal, hav, Sem.run_bind, Sem.run_pure, Result.andThen_ok, invoke, builtin, hat, hrun0]
        unfold Oper.wp
        rw [hrun]
        exact hnext _ _ _ _ ⟨μ', hs'.put o.dst v hvi, hr'⟩ hk
      · exact h.elim
    · rename_i x name hcal
      split at h
      · rename_i t v0 args hx hargs
        split at h
        · rename_i f hmeth
          obtain ⟨hb, h⟩ := chk_iff.1 h
          have h1 := ev_sound hs hx
          have h2 := evs_sound hs hargs
          have hids : ∀ i ∈ idsOf (v0 :: args), i < m.length := fun i hi => by
            have : i ∈ v0.ids ++ idsOf args := hi
            rw [pure0_ids v0 hb, List.nil_append] at this
            exact h2.2 i this
          have hen := callVC_enters h
          have hc := call_sound hr hids h
          unfold Oper.wp
          have hav : c.args.map a.eval = (args.map (toVal μ)).toArray := by
            apply Array.ext'
            rw [Array.toList_map, h2.1]
          have hfv : a.eval x = .iface t (val0 v0) := h1.1
          have hrun : (execOp a.eval o).run P w = .ok (.enter f ((v0 :: args).map (toVal μ)).toArray) w := by
            have hm := method_run (hT.meth t name f hmeth) (val0 v0) w
            simp only [execOp, ho, resolve, hcal, hfv, hav, Sem.run_bind, Sem.run_pure, Result.andThen_ok, invoke]
            have hP : Sem.run P (Sem.program Sem.pure) w = .ok P w := rfl
            have htk : List.take args.length (args.map (toVal μ)) = args.map (toVal μ) := List.take_of_length_le (by simp)
            simp [callMethod, Sem.run_bind, program, hP, hm, htk, hen, val0_eq μ v0 hb]
          rw [hrun]
          refine hc.mono ?_
          rintro e w' ⟨μ', v, m', rfl, hk, hvi, hμ, hl, hr'⟩
          refine hnext _ _ _ _ ⟨μ', ?_, hr'⟩ hk
          exact (hs.mono hl fun id hid => (hμ id hid).symm).put o.dst v hvi
        · exact h.elim
      · exact h.elim
    · rw [← ho] at h; exact readCase h
  · exact readCase h

/-! ### regions in which reads come first, and the others wait for one another -/
theorem wB_spec {ops : Array Oper} {i k : Nat} (h : wB ops i k = true) : ∃ o, ops[i]? = some o ∧ ∃ e ∈ o.after, Region.binds .any e = true ∧ e.on = k := by
  unfold wB at h
  rw [Array.getElem?_toList] at h
  split at h
  · rename_i o ho
    obtain ⟨e, he, hb⟩ := List.any_eq_true.1 h
    simp only [Bool.and_eq_true] at hb
    exact ⟨o, ho, e, by simpa using he, hb.2, Nat.eq_of_beq_eq_true hb.1⟩
  · cases h
theorem reachL_closed {ops : Array Oper} {listed : Array Bool} {i : Nat} (hd : ∀ j, wB ops i j = true → listed.getD j false = true) (hc : ∀ j k, listed.getD j false = true → wB ops j k = true → listed.getD k false = true) :
    ∀ (k : Nat) (acc : List Nat), (∀ j ∈ acc, listed.getD j false = true) → ∀ j ∈ reachL ops i k acc, listed.getD j false = true
  | 0, acc, ha => ha
  | k + 1, acc, ha => by
    unfold reachL
    split
    · rename_i h
      refine reachL_closed hd hc k _ fun j hj => ?_
      rcases List.mem_cons.1 hj with rfl | hj
      · simp only [Bool.or_eq_true, List.any_eq_true] at h
        rcases h with h | ⟨q, hq, h⟩
        · exact hd _ h
        · exact hc q _ (ha q hq) h
      · exact ha j hj
    · exact reachL_closed hd hc k acc ha
theorem looksB_spec {ops : Array Oper} {p : Nat} {o : Oper} {l : List Nat} (h : looksB ops p o l = true) {j d : Nat} (hj : j < p) (hd : dstOf ops j = some d) (hl : d ∈ o.looksAt ops) : j ∈ l := by
  have := List.all_eq_true.1 h j (List.mem_range.2 hj)
  rw [hd] at this
  have hc : (o.looksAt ops).contains d = true := by simpa using hl
  simpa only [hc, Bool.not_true, Bool.false_or, List.contains_iff_mem] using this
def GoodL (ops : Array Oper) (p : Nat) : List Nat → List Nat → Prop
  | _, [] => True
  | pre, i :: r => (∃ o, ops[i]? = some o ∧ o.guard = none ∧ readOp o.op = true ∧ looksB ops p o pre = true) ∧ GoodL ops p (pre ++ [i]) r
theorem GoodL.snoc {ops : Array Oper} {p i : Nat} {o : Oper} (h0 : ops[i]? = some o) (h1 : o.guard = none) (h2 : readOp o.op = true) : ∀ (l pre : List Nat), GoodL ops p pre l → looksB ops p o (pre ++ l) = true → GoodL ops p pre (l ++ [i])
  | [], pre, _, hl => ⟨⟨o, h0, h1, h2, by simpa using hl⟩, trivial⟩
  | x :: r, pre, h, hl => ⟨h.1, GoodL.snoc h0 h1 h2 r _ h.2 (by simpa using hl)⟩
theorem gList_good (ops : Array Oper) (p : Nat) : GoodL ops p [] (gList ops p) ∧ (gList ops p).Pairwise (· < ·) ∧ ∀ i ∈ gList ops p, i < p := by
  have key : ∀ q, GoodL ops p [] ((List.range q).foldl (fun l i => match ops[i]? with | some o => (match o.guard.isNone && readOp o.op && looksB ops p o l with | true => l ++ [i] | false => l) | none => l) []) ∧
      ((List.range q).foldl (fun l i => match ops[i]? with | some o => (match o.guard.isNone && readOp o.op && looksB ops p o l with | true => l ++ [i] | false => l) | none => l) []).Pairwise (· < ·) ∧
      ∀ i ∈ (List.range q).foldl (fun l i => match ops[i]? with | some o => (match o.guard.isNone && readOp o.op && looksB ops p o l with | true => l ++ [i] | false => l) | none => l) [], i < q := fun q => by
    induction q with
    | zero => exact ⟨trivial, List.Pairwise.nil, fun i hi => by cases hi⟩
    | succ q ih =>
      rw [List.range_succ, List.foldl_append]
      obtain ⟨h1, h2, h3⟩ := ih
      generalize (List.range q).foldl _ [] = l at *
      show GoodL ops p [] (match ops[q]? with | some o => (match o.guard.isNone && readOp o.op && looksB ops p o l with | true => l ++ [q] | false => l) | none => l) ∧ List.Pairwise _ (match ops[q]? with | some o => (match o.guard.isNone && readOp o.op && looksB ops p o l with | true => l ++ [q] | false => l) | none => l) ∧ ∀ i ∈ (match ops[q]? with | some o => (match o.guard.isNone && readOp o.op && looksB ops p o l with | true => l ++ [q] | false => l) | none => l), i < q + 1
      cases h0 : ops[q]? with
      | none => exact ⟨h1, h2, fun i hi => by have := h3 i hi; omega⟩
      | some o =>
        dsimp only
        cases hb : o.guard.isNone && readOp o.op && looksB ops p o l with
        | false => exact ⟨h1, h2, fun i hi => by have := h3 i hi; omega⟩
        | true =>
          simp only [Bool.and_eq_true, Option.isNone_iff_eq_none] at hb
          refine ⟨GoodL.snoc h0 hb.1.1 hb.1.2 l [] h1 (by simpa using hb.2), ?_, fun i hi => ?_⟩
          · exact List.pairwise_append.2 ⟨h2, List.pairwise_singleton _ _, fun x hx y hy => by rw [List.mem_singleton.1 hy]; exact h3 x hx⟩
          · rcases List.mem_append.1 hi with hi | hi
            · have := h3 i hi; omega
            · rw [List.mem_singleton.1 hi]; omega
  exact key p
theorem lateGi_spec0 {N : Nat} {ops : Array Oper} {p i : Nat} {o : Oper} (ho : ops[i]? = some o) (h : lateGi N ops p i = true) :
    ((∃ d, o.dst = some d ∧ d < N) ∨ (o.dst = none ∧ stoOp o.op = true)) ∧ (∀ e ∈ o.after, Region.binds .any e = true → e.on < i) ∧ o.guard = none ∧ (∀ j, j < p → i ≠ j → dstOf ops j ≠ dstOf ops i) ∧ looksB ops p o (reachL ops i i []) = true := by
  unfold lateGi at h
  rw [ho] at h
  simp only [Bool.and_eq_true, Bool.or_eq_true, List.all_eq_true, List.mem_range] at h
  obtain ⟨⟨⟨⟨h1, h2⟩, h3⟩, h4⟩, h5⟩ := h
  refine ⟨(by
    rcases h1 with h1 | h1
    · cases hd : o.dst with
      | none => rw [hd] at h1; cases h1
      | some d => rw [hd] at h1; exact .inl ⟨d, rfl, by simpa using h1⟩
    · exact .inr ⟨by simpa using h1.1, h1.2⟩), backB_spec h2, by simpa using h3, fun j hj hne heq => ?_, h5⟩
  have := h4 j hj
  simp [hne, heq] at this
theorem lateGi_spec {N : Nat} {ops : Array Oper} {p i : Nat} {o : Oper} (ho : ops[i]? = some o) (h : lateGi N ops p i = true) (hs : o.dst.isSome = true) :
    (∃ d, o.dst = some d ∧ d < N) ∧ (∀ e ∈ o.after, Region.binds .any e = true → e.on < i) ∧ o.guard = none ∧ (∀ j, j < p → i ≠ j → dstOf ops j ≠ dstOf ops i) ∧ looksB ops p o (reachL ops i i []) = true := by
  obtain ⟨h1, h2⟩ := lateGi_spec0 ho h
  refine ⟨?_, h2⟩
  rcases h1 with h1 | h1
  · exact h1
  · rw [h1.1] at hs; cases hs
theorem read_some {N : Nat} {ops : Array Oper} {p i : Nat} {o : Oper} (ho : ops[i]? = some o) (h : lateGi N ops p i = true) (hr : readOp o.op = true) : o.dst.isSome = true := by
  rcases (lateGi_spec0 ho h).1 with ⟨d, hd, _⟩ | ⟨_, hs⟩
  · rw [hd]; rfl
  · cases ho' : o.op <;> simp_all [stoOp, readOp, pureOp]
theorem pure_read {op : Op} (h : pureOp op = true) : readOp op = true := by
  cases op <;> first | exact h | cases h | rfl

theorem lateG_pass {T : Tab} (hT : TabOK P T) (hE : TabEq P T) {μ : Nat → Nat} {m : Mem} {w : World} (hr : MR μ m w) {N p : Nat} {ops : Array Oper} {K : Slots → Prop} (hsel : Region.noSelect ops = true) (hall : ∀ i, i < p → lateGi N ops p i = true) :
    ∀ (l pre : List Nat) (s : Slots) (a : Act), GoodL ops p pre l → (∀ i ∈ l, i < p) → (∀ i ∈ pre, i ∉ l) → l.Pairwise (· < ·) → SRel N μ m.length s a → readsAt T N m ops l s K →
      ∃ A s', SRel N μ m.length s' A ∧ K s' ∧ (∀ x, (∀ j ∈ l, dstOf ops j ≠ some x) → A.tmps.getD x undef = a.tmps.getD x undef) ∧
        ∀ j o d, j ∈ l → ops[j]? = some o → o.dst = some d → YlL P μ m o A (A.tmps.getD d undef)
  | [], pre, s, a, hg, hl, hpre, hp, hs, h => ⟨a, s, hs, h, fun _ _ => rfl, fun j o d h1 => by cases h1⟩
  | i :: r, pre, s, a, hg, hl, hpre, hp, hs, h => by
    have hip := hl i (by simp)
    obtain ⟨hpr, hp'⟩ := List.pairwise_cons.1 hp
    obtain ⟨⟨o, h0, hguard, hread, hlook⟩, hg'⟩ := hg
    unfold readsAt at h
    rw [h0] at h
    dsimp only at h
    obtain ⟨⟨d, hd, hdN⟩, hback, _, hdist, _⟩ := lateGi_spec h0 (hall i hip) (read_some h0 (hall i hip) hread)
    have hdi : dstOf ops i = some d := by simp [dstOf, h0, hd]
    obtain ⟨v, h1, h2⟩ := read_det h
    obtain ⟨v', e, hids, _⟩ := read_sound hT hE hs hr h2
    subst e
    obtain ⟨A, s', g1, g2, g3, g4⟩ := lateG_pass hT hE hr hsel hall r (pre ++ [i]) _ (a.put o.dst (toVal μ v')) hg' (fun j hj => hl j (by simp [hj])) (fun j hj => by
      rcases List.mem_append.1 hj with hj | hj
      · exact fun hh => hpre j hj (by simp [hh])
      · rw [List.mem_singleton.1 hj]; exact fun hh => by have := hpr i hh; omega) hp' (hs.put o.dst v' hids) h1
    have putne : ∀ x, d ≠ x → (a.put o.dst (toVal μ v')).tmps.getD x undef = a.tmps.getD x undef := fun x hx => by rw [hd, getD_put, if_neg (fun hh => hx hh.1)]
    refine ⟨A, s', g1, g2, fun x hx => ?_, fun j oj dj hj hoj hdj => ?_⟩
    · rw [g3 x (fun j hj => hx j (by simp [hj]))]
      exact putne x fun e => hx i (by simp) (by rw [hdi, e])
    · rcases List.mem_cons.1 hj with rfl | hj
      · rw [h0] at hoj; cases hoj
        rw [hd] at hdj; cases hdj
        have hval : A.tmps.getD d undef = toVal μ v' := by
          rw [g3 d (fun k hk hh => hdist k (hl k (by simp [hk])) (by have := hpr k hk; omega) (by rw [hh, hdi])), hd, getD_put, if_pos ⟨rfl, by rw [hs.size]; exact hdN⟩]
        rw [hval]
        have hag : Agree ops o A a := fun t ht => by
          refine ⟨?_, by rw [g1.size, hs.size]⟩
          by_cases hex : ∃ k, k < p ∧ dstOf ops k = some t
          · obtain ⟨k, hk, hdk⟩ := hex
            have hkp : k ∈ pre := looksB_spec hlook hk hdk ht
            have hkj : k ≠ j := fun e => hpre k hkp (by rw [e]; simp)
            cases hok : ops[k]? with
            | none => simp [dstOf, hok] at hdk
            | some ok =>
              have hdk' := (lateGi_spec0 hok (hall k hk)).2.2.2.1
              rw [g3 t (fun q hq hh => hdk' q (hl q (by simp [hq])) (fun e => hpre k hkp (by rw [e]; simp [hq])) (by rw [hh, hdk]))]
              exact putne t fun e => hdk' j hip hkj (by rw [hdi, hdk, e])
          · rw [g3 t (fun q hq hh => hex ⟨q, hl q (by simp [hq]), hh⟩)]
            exact putne t fun e => hex ⟨j, hip, by rw [hdi, e]⟩
        have hex := hag.exec (Region.noSelect_spec hsel j o · · h0)
        intro M hM hMp w' hw'
        rw [hex]
        have h2' : readVC T o.op s M fun v => v = v' := by
          rcases hMp with rfl | hpu
          · exact h2
          · exact read_pure M hpu h2
        obtain ⟨v'', e, _, hrun⟩ := read_sound hT hE (m := M) (by rw [hM]; exact hs) hw' h2'
        subst e
        exact hrun
      · exact g4 j oj dj hj hoj hdj

theorem preM_get : ∀ (m m' : Mem), preM m m' → m.length ≤ m'.length ∧ ∀ id, id < m.length → blockOf m' id = blockOf m id
  | [], _, _ => ⟨Nat.zero_le _, fun id hid => absurd hid (Nat.not_lt_zero _)⟩
  | x :: r, y :: r', h => by
    obtain ⟨h1, h2⟩ := preM_get r r' h.2
    refine ⟨Nat.succ_le_succ h1, fun id hid => ?_⟩
    match id with
    | 0 => show y = x; exact h.1.symm
    | id + 1 => exact h2 id (Nat.lt_of_succ_lt_succ hid)
  | _ :: _, [], h => h.elim
theorem MR.pre {μ μ' : Nat → Nat} {m m' : Mem} {w : World} (h : MR μ' m' w) (hids : ∀ id v c, blockOf m id = some (v, c) → ∀ i ∈ v.ids, i < m.length) (hp : ∀ id, id < m.length → blockOf m' id = blockOf m id) (hμ : ∀ id, id < m.length → μ' id = μ id) : MR μ m w := by
  have bl : ∀ id, (blockOf m id).isSome = true → id < m.length := fun id h => blockOf_lt h
  refine ⟨fun id v c hb => ?_, fun i j hi hj he => ?_, hids⟩
  · have hlt := bl id (by rw [hb]; rfl)
    obtain ⟨t, ex, h1, h2⟩ := h.blk id v c ((hp id hlt).trans hb)
    have e : flat μ' v = flat μ v := flat_ids v fun x hx => hμ x (hids id v c hb x hx)
    exact ⟨t, ex, by rw [← hμ id hlt, ← e]; exact h1, by rw [← e]; exact h2⟩
  · have h1 := bl i hi
    have h2 := bl j hj
    exact h.inj i j (by rw [hp i h1]; exact hi) (by rw [hp j h2]; exact hj) (by rw [hμ i h1, hμ j h2]; exact he)

/-- what leaves the known blocks' numbers as they are -/
theorem nd_sound {T : Tab} (hT : TabOK P T) (hE : TabEq P T) {μ0 : Nat → Nat} {m0 : Mem} {w0 : World} {N : Nat} {o : Oper} {μ : Nat → Nat} {s : Slots} {m : Mem} {a : Act} {w : World} {K : Slots → Mem → Prop} {Q : Exit → Act → World → Prop}
    (hs : SRel N μ m.length s a) (hr : RunS μ0 m0 w0 μ m w) (hnd : ndOp o.op = true) (h : oneVC P T N o s m K) : o.wp P a w (fun a' w' => ∃ μ' s' m', SRel N μ' m'.length s' a' ∧ RunS μ0 m0 w0 μ' m' w' ∧ (∀ id, id < m.length → μ' id = μ id) ∧ K s' m') Q := by
  have readCase : readVC T o.op s m (fun v => K (sset N s o.dst v) m) → o.wp P a w (fun a' w' => ∃ μ' s' m', SRel N μ' m'.length s' a' ∧ RunS μ0 m0 w0 μ' m' w' ∧ (∀ id, id < m.length → μ' id = μ id) ∧ K s' m') Q := by
    intro h
    obtain ⟨v, hk, hi, hrun⟩ := read_sound hT hE hs hr.mr h
    unfold Oper.wp
    rw [hrun]
    exact ⟨μ, _, m, hs.put o.dst v hi, hr, fun _ _ => rfl, hk⟩
  have newCase : newVC T o.op s (fun v mk => K (sset N s o.dst (mk m.length)) (m ++ [some (v, v.size)])) → o.wp P a w (fun a' w' => ∃ μ' s' m', SRel N μ' m'.length s' a' ∧ RunS μ0 m0 w0 μ' m' w' ∧ (∀ id, id < m.length → μ' id = μ id) ∧ K s' m') Q := by
    intro h
    obtain ⟨v, mk, t, hk, hi, hmk, hrun⟩ := new_sound hT hs h
    unfold Oper.wp
    rw [hrun w]
    have hs' : SRel N (ext μ m.length w.heap.size) (m ++ [some (v, v.size)]).length s a := hs.mono (by simp) fun id hid => (ext_old hid).symm
    exact ⟨ext μ m.length w.heap.size, _, _, hs'.put o.dst _ (by rw [hmk]; simp), hr.alloc hi t, fun id hid => ext_old hid, hk⟩
  unfold oneVC at h
  split at h
  · rename_i t x y ho; rw [ho] at hnd; cases hnd
  · rename_i t ho; rw [← ho] at h; exact newCase h
  · rename_i t x ho; rw [← ho] at h; exact newCase h
  · rename_i t n ps ho; rw [← ho] at h; exact newCase h
  · rename_i t l c ho; rw [← ho] at h; exact newCase h
  · rename_i c ho
    split at h
    · rename_i x hcal
      split at h
      · rename_i f args hx hargs
        have h1 := ev_sound hs hx
        have h2 := evs_sound hs hargs
        have both : (∀ args w, (callFunc f args).run P w = .ok (.enter f args) w) ∧ Calls P f (args.map (toVal μ)).toArray w fun e w' => ∃ μ' v m', e = .returned (toVal μ' v) ∧ K (sset N s o.dst v) m' ∧ (∀ i ∈ v.ids, i < m'.length) ∧ (∀ id, id < m.length → μ' id = μ id) ∧ m.length ≤ m'.length ∧ RunS μ0 m0 w0 μ' m' w' := by
          split at h
          · exact ⟨callVC_enters h, call_sound hr h2.2 h⟩
          · exact ⟨h.enters, direct_sound hr h⟩
        obtain ⟨hen, hc⟩ := both
        unfold Oper.wp
        have hav : c.args.map a.eval = (args.map (toVal μ)).toArray := by
          apply Array.ext'
          rw [Array.toList_map, h2.1]
        have hfv : a.eval x = .func (.func f) #[] #[] := h1.1
        have hrun : (execOp a.eval o).run P w = .ok (.enter f (args.map (toVal μ)).toArray) w := by
          simp only [execOp, ho, resolve, hcal, hfv, Deferred.ofValue, hav, Sem.run_bind, Sem.run_pure, Result.andThen_ok, invoke]
          simp [hen]
        rw [hrun]
        refine hc.mono ?_
        rintro e w' ⟨μ', v, m', rfl, hk, hvi, hμ, hl, hr'⟩
        exact ⟨μ', _, m', (hs.mono hl fun id hid => (hμ id hid).symm).put o.dst v hvi, hr', hμ, hk⟩
      · rename_i f v0 args hx hargs
        obtain ⟨hb, h⟩ := chk_iff.1 h
        have h1 := ev_sound hs hx
        have h2 := evs_sound hs hargs
        have hids : ∀ i ∈ idsOf (v0 :: args), i < m.length := fun i hi => by
          have : i ∈ v0.ids ++ idsOf args := hi
          rw [pure0_ids v0 hb, List.nil_append] at this
          exact h2.2 i this
        have hen := callVC_enters h
        have hc := call_sound hr hids h
        unfold Oper.wp
        have hav : c.args.map a.eval = (args.map (toVal μ)).toArray := by
          apply Array.ext'
          rw [Array.toList_map, h2.1]
        have hfv : a.eval x = .func (.func f) #[val0 v0] #[] := h1.1
        have hrun : (execOp a.eval o).run P w = .ok (.enter f ((v0 :: args).map (toVal μ)).toArray) w := by
          simp only [execOp, ho, resolve, hcal, hfv, Deferred.ofValue, hav, Sem.run_bind, Sem.run_pure, Result.andThen_ok, invoke]
          simp [hen, val0_eq μ v0 hb]
        rw [hrun]
        refine hc.mono ?_
        rintro e w' ⟨μ', v, m', rfl, hk, hvi, hμ, hl, hr'⟩
        exact ⟨μ', _, m', (hs.mono hl fun id hid => (hμ id hid).symm).put o.dst v hvi, hr', hμ, hk⟩
      · exact h.elim
    · rename_i hcal
      rw [ho] at hnd
      simp [ndOp, hcal] at hnd
    · rename_i hcal
      rw [ho] at hnd
      simp [ndOp, hcal] at hnd
    · rw [← ho] at h; exact readCase h
  · exact readCase h

/-- an operation run in another frame that gives it the same values -/
theorem wp_swap {o : Oper} {a A : Act} {w : World} {F : Act → World → Prop} {next : Act → World → Prop} {Q : Exit → Act → World → Prop} (he : execOp a.eval o = execOp A.eval o) (h : o.wp P A w F fun _ _ _ => False) (hF : ∀ A' w', F A' w' → A'.defers = [])
    (hn : ∀ v w', F (A.put o.dst v) w' → next (a.put o.dst v) w') : o.wp P a w next Q := by
  unfold Oper.wp at h ⊢
  rw [he]
  revert h
  generalize (execOp A.eval o).run P w = res
  intro h
  unfold Oper.upon at h
  split at h
  · exact hn _ _ h
  · exact hn _ _ h
  · have := hF _ _ h
    exfalso
    revert this
    cases o.dst <;> simp [Act.put]
  · refine Calls.mono h ?_
    intro e w' h'
    cases e with
    | returned v => exact hn _ _ h'
    | panicked c => exact h'.elim
    | outgrown => obtain ⟨_, _, h'⟩ := h'; exact h'.elim
  · exact Rows.mono h fun v w' h' => hn _ _ h'
  · exact h.elim
  · exact h.elim

theorem chainL_get {ops : Array Oper} : ∀ (l : List Nat) (j i i' : Nat), chainL ops l = true → l[j]? = some i → l[j + 1]? = some i' → i ∈ reachL ops i' i' []
  | [], j, _, _, _, h, _ => by simp at h
  | [x], j, _, _, _, _, h => by simp at h
  | x :: y :: r, 0, i, i', hc, h1, h2 => by
    simp only [List.getElem?_cons_zero, Option.some.injEq, Nat.zero_add, List.getElem?_cons_succ] at h1 h2
    subst h1; subst h2
    unfold chainL at hc
    simp only [Bool.and_eq_true, List.contains_iff_mem] at hc
    exact hc.1
  | x :: y :: r, j + 1, i, i', hc, h1, h2 => by
    unfold chainL at hc
    simp only [Bool.and_eq_true] at hc
    exact chainL_get (y :: r) j i i' hc.2 (by simpa using h1) (by simpa using h2)

theorem forgetB_length (B : Option Nat) (m : Mem) : (forgetB B m).length = m.length := by
  cases B with
  | none => rfl
  | some b => exact forget_length m b
theorem MR.forgetB {μ : Nat → Nat} {m : Mem} {w : World} (h : MR μ m w) (B : Option Nat) : MR μ (Go.Proofs.YtjanlnngeklhoabGreat.forgetB B m) w := by
  cases B with
  | none => exact h
  | some b =>
    have lift : ∀ i, (blockOf (forget m b) i).isSome = true → (blockOf m i).isSome = true := fun i hi => by
      cases hb : blockOf (forget m b) i with
      | none => rw [hb] at hi; cases hi
      | some p => obtain ⟨v, c⟩ := p; rw [(forget_known hb).2]; rfl
    exact ⟨fun id v c hb => h.blk id v c (forget_known hb).2, fun i j hi hj => h.inj i j (lift i hi) (lift j hj), fun id v c hb i hi => by rw [show (Go.Proofs.YtjanlnngeklhoabGreat.forgetB (some b) m).length = m.length from forget_length m b]; exact h.ids id v c (forget_known hb).2 i hi⟩
theorem MR.preB {μ μ' : Nat → Nat} {m m' : Mem} {w : World} (B : Option Nat) (h : MR μ' m' w) (hids : ∀ id v c, blockOf m id = some (v, c) → ∀ i ∈ v.ids, i < m.length) (hp : ∀ id, id < m.length → B ≠ some id → blockOf m' id = blockOf m id) (hμ : ∀ id, id < m.length → μ' id = μ id) : MR μ (Go.Proofs.YtjanlnngeklhoabGreat.forgetB B m) w := by
  cases B with
  | none => exact h.pre hids (fun id hid => hp id hid (fun e => by cases e)) hμ
  | some b =>
    have h2 : MR μ' (forget m' b) w := h.forgetB (some b)
    refine MR.pre h2 (fun id v c hb i hi => ?_) (fun id hid => ?_) (fun id hid => hμ id ?_)
    · have := hids id v c (forget_known hb).2 i hi
      rw [show (Go.Proofs.YtjanlnngeklhoabGreat.forgetB (some b) m).length = m.length from forget_length m b]; exact this
    · have hid : id < m.length := by rw [show (Go.Proofs.YtjanlnngeklhoabGreat.forgetB (some b) m).length = m.length from forget_length m b] at hid; exact hid
      show blockOf (forget m' b) id = blockOf (forget m b) id
      by_cases e : id = b
      · subst e; rw [forget_same, forget_same]
      · rw [forget_other m' b id e, forget_other m b id e]; exact hp id hid (fun e2 => e (by cases e2; rfl))
    · rw [show (Go.Proofs.YtjanlnngeklhoabGreat.forgetB (some b) m).length = m.length from forget_length m b] at hid; exact hid
theorem storeVC_keep {T : Tab} {t b off base : Nat} {path : List Nat} {x : Option SV} {m : Mem} {K : Mem → Prop} (h : storeVC T t (some (.ptr b path base off)) x m K) : storeVC T t (some (.ptr b path base off)) x m fun u => (∀ id, id ≠ b → blockOf u id = blockOf m id) ∧ K u := by
  unfold storeVC at h ⊢
  split at h
  · rename_i hpv
    cases hpv
    split at h
    · rename_i hb
      split at h
      · rename_i hp
        obtain ⟨hc, h⟩ := chk_iff.1 h
        obtain ⟨u, hu⟩ := putAt_iff h
        simp only [hb, hp]
        exact chk_iff.2 ⟨hc, (hu _).2 ⟨fun id hid => setBlock_other m b id _ hid, (hu _).1 h⟩⟩
      · exact h.elim
    · exact h.elim
  · exact h.elim
theorem st_sound {T : Tab} (hT : TabOK P T) {μ0 : Nat → Nat} {m0 : Mem} {w0 : World} {N : Nat} {o : Oper} {μ : Nat → Nat} {s : Slots} {m : Mem} {a : Act} {w : World} {K : Slots → Mem → Prop} {Q : Exit → Act → World → Prop} {B : Option Nat}
    (hs : SRel N μ m.length s a) (hr : RunS μ0 m0 w0 μ m w) (hst : stoB B s o = true) (h : oneVC P T N o s m K) : o.wp P a w (fun a' w' => ∃ μ' s' m', SRel N μ' m'.length s' a' ∧ RunS μ0 m0 w0 μ' m' w' ∧ (∀ id, id < m.length → μ' id = μ id) ∧ (m.length ≤ m'.length ∧ ∀ id, B ≠ some id → blockOf m' id = blockOf m id) ∧ K s' m') Q := by
  unfold stoB at hst
  split at hst
  · cases hst
  · rename_i b
    split at hst
    · rename_i t x y ho
      split at hst
      · rename_i id path base off hx
        obtain rfl := beqN hst
        unfold oneVC at h
        rw [ho] at h
        simp only [hx] at h
        have h := storeVC_keep h
        rw [← hx] at h
        obtain ⟨m', w', ⟨hkeep, hk⟩, hr', hl, hrun⟩ := store_sound hT hs hr ho h
        unfold Oper.wp
        rw [hrun]
        exact ⟨μ, _, m', by rw [hl]; exact hs.skip o.dst, hr', fun _ _ => rfl, ⟨Nat.le_of_eq hl.symm, fun q hq => hkeep q fun e => hq (by rw [e])⟩, hk⟩
      · cases hst
    · cases hst

/-- the state in the midst: all reads done or to be done, so many of the others done -/
structure GMid (P : Program) (T : Tab) (μ0 : Nat → Nat) (m0 : Mem) (w0 : World) (N : Nat) (μ : Nat → Nat) (m : Mem) (B : Option Nat) (ops : Array Oper) (p : Nat) (K : Slots → Mem → Prop) (A0 : Act) (listed : Array Bool) (a : Act) (w : World) (c : Nat) (A : Act) (μ' : Nat → Nat) (s' : Slots) (m' : Mem) : Prop where
  cle : c ≤ (gRest ops p).length
  done : ∀ j i, (gRest ops p)[j]? = some i → listed.getD i false = decide (j < c)
  run : RunS μ0 m0 w0 μ' m' w
  rel : SRel N μ' m'.length s' A
  vc : restVC P T N B ops p ((gRest ops p).drop c) s' m' K
  size : a.tmps.size = A.tmps.size
  defers : a.defers = A.defers
  yes : ∀ i o d, i < p → ops[i]? = some o → o.dst = some d → listed.getD i false = true → a.tmps.getD d undef = A.tmps.getD d undef
  other : ∀ x, (∀ i, i < p → dstOf ops i ≠ some x) → a.tmps.getD x undef = A.tmps.getD x undef
  reads : ∀ i ∈ gList ops p, ∀ d, dstOf ops i = some d → A.tmps.getD d undef = A0.tmps.getD d undef
  ext : ∀ x, (∀ i, i < p → dstOf ops i ≠ some x) → A.tmps.getD x undef = A0.tmps.getD x undef
  mem : (∃ i o, i ∈ gList ops p ∧ ops[i]? = some o ∧ pureOp o.op = false ∧ listed.getD i false = false) → m.length ≤ m'.length ∧ (∀ id, id < m.length → B ≠ some id → blockOf m' id = blockOf m id) ∧ ∀ id, id < m.length → μ' id = μ id

theorem lateG_sound {T : Tab} (hT : TabOK P T) (hE : TabEq P T) {μ0 : Nat → Nat} {m0 : Mem} {w0 : World} (hO : m0.length ≤ T.own) {N p rid : Nat} {ops : Array Oper} {μ : Nat → Nat} {s : Slots} {m : Mem} {a : Act} {w : World} {K : Slots → Mem → Prop} {Q : Exit → Act → World → Prop}
    (hs : SRel N μ m.length s a) (hr : RunS μ0 m0 w0 μ m w) (hB : lateG N ops p = true) (hstart : readsAt T N m ops (gList ops p) s fun s' => restVC P T N none ops p (gRest ops p) s' m fun s'' m'' => opsVC P T N ops (ops.toList.drop p) s'' m'' K)
    (htail : ∀ μ' s' m' a' w', SRel N μ' m'.length s' a' → RunS μ0 m0 w0 μ' m' w' → opsVC P T N ops (ops.toList.drop p) s' m' K → wpList P ops Q (ops.toList.drop p) a' w') : (Code.region rid ops true).wp P Q a w := by
  unfold lateG at hB
  simp only [Bool.and_eq_true, Bool.or_eq_true, decide_eq_true_eq, List.all_eq_true, List.mem_range] at hB
  obtain ⟨⟨⟨⟨hsel, hor⟩, hsq⟩, hall0⟩, hcl⟩ := hB
  have hall : ∀ i, i < p → lateGi N ops p i = true := fun i hi => (hall0 i hi).1
  have hsome : ∀ i o, i < p → ops[i]? = some o → o.dst.isSome = true := fun i o hi ho => by
    have := (hall0 i hi).2
    simpa [dstOf, ho] using this
  have hend : (Region.sinkB .any ops p = true ∧ Region.chainB .any ops p = true ∧ p < ops.size) ∨ p = ops.size := hor.imp (fun h => ⟨h.1.2, h.2, h.1.1⟩) (fun h => Nat.eq_of_beq_eq_true h)
  have hn : p ≤ ops.size := by rcases hend with h | h <;> omega
  obtain ⟨hg1, hg2, hg3⟩ := gList_good ops p
  obtain ⟨A0, s1, hsA, h, hother, hold⟩ := lateG_pass hT hE hr.mr hsel hall _ [] s a hg1 hg3 (fun i hi => by cases hi) hg2 hs hstart
  have hmids := hr.mr.ids
  have hr1 := hr.drew
  have hrm : ∀ i, i ∈ gRest ops p ↔ i < p ∧ i ∉ gList ops p := fun i => by simp [gRest, List.mem_filter]
  have hrnd : (gRest ops p).Nodup := List.nodup_range.filter _
  have goodAt : ∀ i ∈ gList ops p, ∃ o, ops[i]? = some o ∧ readOp o.op = true := fun i hi => by
    have key : ∀ l pre, GoodL ops p pre l → i ∈ l → ∃ o, ops[i]? = some o ∧ readOp o.op = true := fun l => by
      induction l with
      | nil => intro _ _ h; cases h
      | cons x r ih =>
        intro pre hg hm
        rcases List.mem_cons.1 hm with rfl | hm
        · obtain ⟨⟨o, h0, _, h2, _⟩, _⟩ := hg; exact ⟨o, h0, h2⟩
        · exact ih _ hg.2 hm
    exact key _ _ hg1 hi
  have lookAt : ∀ i ∈ gList ops p, ∀ o, ops[i]? = some o → ∀ j d, j < p → dstOf ops j = some d → d ∈ o.looksAt ops → j ∈ gList ops p := fun i hi o ho j d hj hd hl => by
    have key : ∀ l pre, GoodL ops p pre l → (∀ x ∈ pre, x ∈ gList ops p) → (∀ x ∈ l, x ∈ gList ops p) → i ∈ l → j ∈ gList ops p := fun l => by
      induction l with
      | nil => intro _ _ _ _ h; cases h
      | cons x r ih =>
        intro pre hg h1 h2 hm
        rcases List.mem_cons.1 hm with rfl | hm
        · obtain ⟨⟨o', h0, _, _, hlk⟩, _⟩ := hg
          rw [ho] at h0; cases h0
          exact h1 j (looksB_spec hlk hj hd hl)
        · exact ih (pre ++ [x]) hg.2 (fun y hy => by
            rcases List.mem_append.1 hy with hy | hy
            · exact h1 y hy
            · rw [List.mem_singleton.1 hy]; exact h2 x (by simp)) (fun y hy => h2 y (by simp [hy])) hm
    exact key _ [] hg1 (fun x hx => by cases hx) (fun x hx => hx) hi
  refine wp_region_any hT.mixed ?_
  have inv0 : HeadInv .any ops p (Array.replicate ops.size false) :=
    ⟨by simp, fun j oj _ hl => (by rw [getD_replicate_false] at hl; cases hl), fun t _ ht => getD_in (by simpa using ht) (getD_replicate_false _ _)⟩
  have key := any_of (P := P) (ops := ops) (n := p) (g := ops.size - p) (Q := Q) (I := fun listed a w => ∃ c A μ' s' m', GMid P T μ0 m0 w0 N μ m none ops p (fun s'' m'' => opsVC P T N ops (ops.toList.drop p) s'' m'' K) A0 listed a w c A μ' s' m') hend
    (fun i oi hi hoi => (lateGi_spec0 hoi (hall i hi)).2.1)
    (fun listed a w i inv hm hi hrd K' hK => by
      obtain ⟨c, A, μ', s', m', hm⟩ := hm
      obtain ⟨hun, oi, hoi, hdeps⟩ := mem_ready.1 hrd
      have his : i < listed.size := by rw [inv.size]; exact (Array.getElem?_eq_some_iff.1 hoi).1
      have hunf : listed.getD i false = false := getD_both hun
      obtain ⟨⟨d, hd, hdN⟩, _, hguard, hdist, hlook⟩ := lateGi_spec hoi (hall i hi) (hsome i oi hi hoi)
      have hdi : dstOf ops i = some d := by simp [dstOf, hoi, hd]
      have direct : ∀ j, wB ops i j = true → listed.getD j false = true := fun j hwt => by
        obtain ⟨o', ho', e, he, hb, hon⟩ := wB_spec hwt
        rw [hoi] at ho'; cases ho'
        have hl := hdeps e he hb
        rw [hon] at hl
        exact hl
      have closed : ∀ j k, listed.getD j false = true → wB ops j k = true → listed.getD k false = true := fun j k hj hwt => by
        obtain ⟨o', ho', e, he, hb, hon⟩ := wB_spec hwt
        have := inv.closed j o' ho' hj e he hb
        rw [hon] at this
        exact this
      have waited : ∀ j ∈ reachL ops i i [], listed.getD j false = true := reachL_closed direct closed i [] fun j hj => by cases hj
      have hag : Agree ops oi a A := fun t ht => by
        refine ⟨?_, hm.size⟩
        by_cases hex : ∃ j, j < p ∧ dstOf ops j = some t
        · obtain ⟨j, hj, hdj⟩ := hex
          have hwt := waited j (looksB_spec hlook hj hdj ht)
          cases hoj : ops[j]? with
          | none => simp [dstOf, hoj] at hdj
          | some oj => exact hm.yes j oj t hj hoj (by simpa [dstOf, hoj] using hdj) hwt
        · exact hm.other t fun j hj hh => hex ⟨j, hj, hh⟩
      have hex := hag.exec (Region.noSelect_spec hsel i oi · · hoi)
      have hw : Region.wanted oi (yielded ops a.tmps) = true := by simp [Region.wanted, hguard]
      unfold wpOp
      rw [hoi]
      dsimp only
      rw [if_pos hw]
      refine .inl ?_
      by_cases hig : i ∈ gList ops p
      · -- a read
        unfold Oper.wp
        have hY := hold i oi d hig hoi hd
        have hag0 : Agree ops oi a A0 := fun t ht => by
          refine ⟨?_, by rw [hm.size, hm.rel.size, hsA.size]⟩
          rw [(hag t ht).1]
          by_cases hex : ∃ j, j < p ∧ dstOf ops j = some t
          · obtain ⟨j, hj, hdj⟩ := hex
            exact hm.reads j (lookAt i hig oi hoi j t hj hdj ht) t hdj
          · rw [hm.ext t fun j hj hh => hex ⟨j, hj, hh⟩]
        have hex0 := hag0.exec (Region.noSelect_spec hsel i oi · · hoi)
        have hv : A0.tmps.getD d undef = A.tmps.getD d undef := (hm.reads i hig d hdi).symm
        have hrun : (execOp A0.eval oi).run P w = .ok (.value (A0.tmps.getD d undef)) w := by
          cases hpu : pureOp oi.op with
          | true => exact hY (List.replicate m.length none) (by simp) (.inr hpu) w (MR_nones _ _ _)
          | false =>
            obtain ⟨_, q1, q2⟩ := hm.mem ⟨i, oi, hig, hoi, hpu, hunf⟩
            exact hY m rfl (.inl rfl) w (hm.run.mr.pre hmids (fun id hid => q1 id hid (fun e => by cases e)) q2)
        rw [hex0, hrun, hv]
        have val : ∀ z, (a.put (some d) (A.tmps.getD d undef)).tmps.getD z undef = if z = d then A.tmps.getD d undef else a.tmps.getD z undef := fun z => by
          rw [getD_put]
          by_cases hz : z = d
          · subst hz
            by_cases hlt : z < a.tmps.size
            · simp [hlt]
            · have : ¬ z < A.tmps.size := by rw [← hm.size]; exact hlt
              simp [hlt, this]
          · rw [if_neg (fun hh => hz hh.1.symm), if_neg hz]
        show K' (a.put oi.dst (A.tmps.getD d undef)) w
        rw [hd]
        refine hK _ _ ⟨c, A, μ', s', m', hm.cle, fun j i' hj => ?_, hm.run, hm.rel, hm.vc, by simp [Act.put, hm.size], by simp [Act.put, hm.defers], fun j oj dj hj hoj hdj hl => ?_, fun z hz => ?_, hm.reads, hm.ext, fun hex => ?_⟩
        · have : i ≠ i' := fun e => by
            have := (hrm i').1 (List.mem_of_getElem? hj)
            rw [← e] at this; exact this.2 hig
          rw [getD_set_ne false this]; exact hm.done j i' hj
        · rw [val]
          by_cases hjd : dj = d
          · rw [if_pos hjd, hjd]
          · rw [if_neg hjd]
            rcases getD_set_cases hl with rfl | hl
            · rw [hoi] at hoj; cases hoj; rw [hd] at hdj; cases hdj; exact absurd rfl hjd
            · exact hm.yes j oj dj hj hoj hdj hl
        · rw [val, if_neg (fun hh => hz i hi (by rw [hdi, hh]))]
          exact hm.other z hz
        · obtain ⟨i', o', h1, h2, h3, h4⟩ := hex
          refine hm.mem ⟨i', o', h1, h2, h3, ?_⟩
          by_cases e : i = i'
          · subst e; simp [his] at h4
          · rw [getD_set_ne false e] at h4; exact h4
      · -- one of the others
        obtain ⟨j, hj⟩ := List.mem_iff_getElem?.1 ((hrm i).2 ⟨hi, hig⟩)
        have hcj : ¬ j < c := by have := hm.done j i hj; rw [hunf] at this; simpa using this.symm
        have hjc : j = c := by
          by_cases e : c < j
          · obtain ⟨j', rfl⟩ : ∃ j', j = j' + 1 := ⟨j - 1, by omega⟩
            have hlt : j' < (gRest ops p).length := by have := (List.getElem?_eq_some_iff.1 hj).1; omega
            have h1 := chainL_get _ j' _ i hcl (List.getElem?_eq_getElem hlt) hj
            have h2 := waited _ h1
            rw [hm.done j' _ (List.getElem?_eq_getElem hlt)] at h2
            have : j' < c := by simpa using h2
            omega
          · omega
        subst hjc
        have hlen := (List.getElem?_eq_some_iff.1 hj).1
        have hdrop : (gRest ops p).drop j = i :: (gRest ops p).drop (j + 1) := by
          rw [List.drop_eq_getElem_cons hlen, (List.getElem?_eq_some_iff.1 hj).2]
        have hvc := hm.vc
        rw [hdrop] at hvc
        unfold restVC at hvc
        rw [hoi] at hvc
        dsimp only at hvc
        have next : ∀ (v : Value) (w' : World) (μ'' : Nat → Nat) (s'' : Slots) (m'' : Mem), SRel N μ'' m''.length s'' (A.put oi.dst v) → RunS μ0 m0 w0 μ'' m'' w' → restVC P T N none ops p ((gRest ops p).drop (j + 1)) s'' m'' (fun s'' m'' => opsVC P T N ops (ops.toList.drop p) s'' m'' K) →
            ((∃ i' o, i' ∈ gList ops p ∧ ops[i']? = some o ∧ pureOp o.op = false ∧ listed.getD i' false = false) → m.length ≤ m''.length ∧ (∀ id, id < m.length → (none : Option Nat) ≠ some id → blockOf m'' id = blockOf m id) ∧ ∀ id, id < m.length → μ'' id = μ id) → K' (a.put oi.dst v) w' := fun v w' μ'' s'' m'' g1 g2 g3 g4 => by
          have pa : ∀ z, (a.put oi.dst v).tmps.getD z undef = if z = d ∧ z < A.tmps.size then v else a.tmps.getD z undef := fun z => by
            rw [hd, getD_put, hm.size]
            by_cases hz : z = d
            · subst hz; by_cases hlt : z < A.tmps.size <;> simp [hlt]
            · rw [if_neg (fun hh => hz hh.1.symm), if_neg (fun hh => hz hh.1)]
          have pA : ∀ z, (A.put oi.dst v).tmps.getD z undef = if z = d ∧ z < A.tmps.size then v else A.tmps.getD z undef := fun z => by
            rw [hd, getD_put]
            by_cases hz : z = d
            · subst hz; by_cases hlt : z < A.tmps.size <;> simp [hlt]
            · rw [if_neg (fun hh => hz hh.1.symm), if_neg (fun hh => hz hh.1)]
          have hds : d < A.tmps.size := by rw [hm.rel.size]; exact hdN
          refine hK _ _ ⟨j + 1, A.put oi.dst v, μ'', s'', m'', by omega, fun j' i' hj' => ?_, g2, g1, g3, by simp [Act.put, hd, hm.size], by simp [Act.put, hd, hm.defers], fun j' oj dj hj' hoj hdj hl => ?_, fun z hz => ?_, fun i' hi' d' hd' => ?_, fun z hz => ?_, fun hex => g4 ?_⟩
          · by_cases e : i = i'
            · subst e
              have : j' = j := (List.getElem?_inj (List.getElem?_eq_some_iff.1 hj').1 hrnd).1 (by rw [hj', hj])
              subst this
              simp [his]
            · rw [getD_set_ne false e, hm.done j' i' hj']
              have : j' ≠ j := fun hh => e (by rw [hh] at hj'; rw [hj] at hj'; cases hj'; rfl)
              by_cases e2 : j' < j
              · simp [e2, show j' < j + 1 by omega]
              · simp [e2, show ¬ j' < j + 1 by omega]
          · rw [pa, pA]
            by_cases hjd : dj = d
            · rw [if_pos ⟨hjd, by rw [hjd]; exact hds⟩, if_pos ⟨hjd, by rw [hjd]; exact hds⟩]
            · rw [if_neg (fun hh => hjd hh.1), if_neg (fun hh => hjd hh.1)]
              rcases getD_set_cases hl with rfl | hl
              · rw [hoi] at hoj; cases hoj; rw [hd] at hdj; cases hdj; exact absurd rfl hjd
              · exact hm.yes j' oj dj hj' hoj hdj hl
          · have hzd : z ≠ d := fun hh => hz i hi (by rw [hdi, hh])
            rw [pa, pA, if_neg (fun hh => hzd hh.1), if_neg (fun hh => hzd hh.1)]
            exact hm.other z hz
          · have hdd : d' ≠ d := fun hh => hdist i' (hg3 i' hi') (fun e => hig (by rw [e]; exact hi')) (by rw [hd', hdi, hh])
            rw [pA, if_neg (fun hh => hdd hh.1)]
            exact hm.reads i' hi' d' hd'
          · have hzd : z ≠ d := fun hh => hz i hi (by rw [hdi, hh])
            rw [pA, if_neg (fun hh => hzd hh.1)]
            exact hm.ext z hz
          · obtain ⟨i', o', h1, h2, h3, h4⟩ := hex
            refine ⟨i', o', h1, h2, h3, ?_⟩
            rw [getD_set_ne false (fun e => hig (by rw [e]; exact h1))] at h4
            exact h4
        rcases hvc with ⟨hno, hvc⟩ | ⟨hfr, hvc⟩
        rotate_left
        · refine wp_swap (F := fun A'' w'' => ∃ μ'' s'' m'', SRel N μ'' m''.length s'' A'' ∧ RunS μ0 m0 w0 μ'' m'' w'' ∧ restVC P T N none ops p ((gRest ops p).drop (j + 1)) s'' m'' (fun s'' m'' => opsVC P T N ops (ops.toList.drop p) s'' m'' K)) hex
            (one_sound hT hE hO ⟨μ', hm.rel, hm.run⟩ hvc fun s'' m'' A'' w'' hf hk => by obtain ⟨μ'', g1, g2⟩ := hf.fits; exact ⟨μ'', s'', m'', g1, g2, hk⟩) (fun A'' w'' ⟨_, _, _, g, _⟩ => g.defers) fun v w' ⟨μ'', s'', m'', g1, g2, g3⟩ => ?_
          refine next v w' μ'' s'' m'' g1 g2 g3 fun ⟨i', o', h1, h2, h3, h4⟩ => ?_
          have hfr : freeB ops p i = true := by simpa [stoB] using hfr
          have := List.all_eq_true.1 hfr i' h1
          rw [h2] at this
          simp only [h3, Bool.false_or, List.contains_iff_mem] at this
          rw [waited i' this] at h4; cases h4
        · refine wp_swap hex (nd_sound hT hE hm.rel hm.run hno hvc) (fun A'' w'' ⟨_, _, _, g, _⟩ => g.defers) fun v w' ⟨μ'', s'', m'', g1, g2, g5, g6, g3⟩ => ?_
          refine next v w' μ'' s'' m'' g1 g2 g3 fun hh => ?_
          obtain ⟨q0, q1, q2⟩ := hm.mem hh
          obtain ⟨r0, r1⟩ := preM_get _ _ g6
          exact ⟨by omega, fun id hid hne => (r1 id (by omega)).trans (q1 id hid hne), fun id hid => (g5 id (by omega)).trans (q2 id hid)⟩)
    (fun a' w' hm => by
      obtain ⟨c, A, μ', s', m', hm⟩ := hm
      have hyes : ∀ i, i < p → (fullTo ops p).getD i false = true := fun i hi => by
        have : i < ops.size := by omega
        simp [fullTo, this, hi]
      have hcl : (gRest ops p).length ≤ c := by
        rcases Nat.lt_or_ge c (gRest ops p).length with hlt | hge
        · have h1 := List.getElem?_eq_getElem hlt
          have h2 := hm.done c _ h1
          rw [hyes _ ((hrm _).1 (List.mem_of_getElem? h1)).1] at h2
          simp at h2
        · exact hge
      have hvc := hm.vc
      rw [List.drop_eq_nil_of_le hcl] at hvc
      have hsr : SRel N μ' m'.length s' a' := by
        refine ⟨by rw [hm.size, hm.rel.size], by rw [hm.defers, hm.rel.defers], fun t v hv => ?_⟩
        obtain ⟨h1, h2⟩ := hm.rel.val t v hv
        refine ⟨?_, h2⟩
        rw [← h1]
        by_cases hex : ∃ j, j < p ∧ dstOf ops j = some t
        · obtain ⟨j, hj, hdj⟩ := hex
          cases hoj : ops[j]? with
          | none => simp [dstOf, hoj] at hdj
          | some oj => exact hm.yes j oj t hj hoj (by simpa [dstOf, hoj] using hdj) (hyes j hj)
        · exact hm.other t fun j hj hh => hex ⟨j, hj, hh⟩
      have := wpAny_of_seq (md := .any) (Q' := Q) (ops.toList.drop p) p (fullTo ops p) a' w' (fun j => by simp [List.getElem?_drop]) (by simpa [fullTo] using hsq) (htail μ' _ m' a' w' hsr hm.run hvc)
      simpa using this)
    p (List.range p) (Array.replicate ops.size false) a { w with drawn := w.drawn + 1 } (by simp) List.nodup_range (fun j => ?_) inv0 ?_
  · rw [show p + (ops.size - p) = ops.size by omega] at key
    exact key
  · rw [List.mem_range]
    constructor
    · intro hj
      have : j < ops.size := by omega
      exact ⟨hj, by simp [this]⟩
    · exact fun hh => hh.1
  · exact ⟨0, A0, μ, s1, m, Nat.zero_le _, fun j i hj => by rw [getD_replicate_false]; simp, hr1, hsA, h, by rw [hs.size, hsA.size], by rw [hs.defers, hsA.defers], fun i oi d _ _ _ hl => (by rw [getD_replicate_false] at hl; cases hl), fun z hz => (hother z fun j hj => hz j (hg3 j hj)).symm, fun _ _ _ _ => rfl, fun _ _ => rfl, fun _ => ⟨Nat.le_refl _, fun _ _ _ => rfl, fun _ _ => rfl⟩⟩

theorem gmid_step {T : Tab} (hT : TabOK P T) (hE : TabEq P T) {μ0 : Nat → Nat} {m0 : Mem} {w0 : World} (hO : m0.length ≤ T.own) {N q p : Nat} {ops : Array Oper} {μ : Nat → Nat} {s1 : Slots} {m : Mem} {B : Option Nat} {Kf : Slots → Mem → Prop} {A0 : Act} {Q : Exit → Act → World → Prop}
    (hsel : Region.noSelect ops = true) (hall : ∀ i, i < q → lateGi N ops q i = true) (hcl : chainL ops (gRest ops q) = true) (hmids : ∀ id v c, blockOf m id = some (v, c) → ∀ i ∈ v.ids, i < m.length) (hsA : SRel N μ m.length s1 A0)
    (hold : ∀ j o d, j ∈ gList ops q → ops[j]? = some o → o.dst = some d → YlL P μ (forgetB B m) o A0 (A0.tmps.getD d undef))
    {listed : Array Bool} {a : Act} {w : World} {i : Nat} (inv : HeadInv .any ops p listed) (hm : ∃ c A μ' s' m', GMid P T μ0 m0 w0 N μ m B ops q Kf A0 listed a w c A μ' s' m') (hi : i < q) (hrd : i ∈ Region.ready .any ops listed) (K' : Act → World → Prop)
    (hK : ∀ a' w', (∃ c A μ' s' m', GMid P T μ0 m0 w0 N μ m B ops q Kf A0 (listed.setIfInBounds i true) a' w' c A μ' s' m') → K' a' w') : wpOp P ops Q i K' a w := by
  obtain ⟨hg1, hg2, hg3⟩ := gList_good ops q
  have hrm : ∀ i, i ∈ gRest ops q ↔ i < q ∧ i ∉ gList ops q := fun i => by simp [gRest, List.mem_filter]
  have hrnd : (gRest ops q).Nodup := List.nodup_range.filter _
  have goodAt : ∀ i ∈ gList ops q, ∃ o, ops[i]? = some o ∧ readOp o.op = true := fun i hi => by
    have key : ∀ l pre, GoodL ops q pre l → i ∈ l → ∃ o, ops[i]? = some o ∧ readOp o.op = true := fun l => by
      induction l with
      | nil => intro _ _ h; cases h
      | cons x r ih =>
        intro pre hg hm
        rcases List.mem_cons.1 hm with rfl | hm
        · obtain ⟨⟨o, h0, _, h2, _⟩, _⟩ := hg; exact ⟨o, h0, h2⟩
        · exact ih _ hg.2 hm
    exact key _ _ hg1 hi
  have lookAt : ∀ i ∈ gList ops q, ∀ o, ops[i]? = some o → ∀ j d, j < q → dstOf ops j = some d → d ∈ o.looksAt ops → j ∈ gList ops q := fun i hi o ho j d hj hd hl => by
    have key : ∀ l pre, GoodL ops q pre l → (∀ x ∈ pre, x ∈ gList ops q) → (∀ x ∈ l, x ∈ gList ops q) → i ∈ l → j ∈ gList ops q := fun l => by
      induction l with
      | nil => intro _ _ _ _ h; cases h
      | cons x r ih =>
        intro pre hg h1 h2 hm
        rcases List.mem_cons.1 hm with rfl | hm
        · obtain ⟨⟨o', h0, _, _, hlk⟩, _⟩ := hg
          rw [ho] at h0; cases h0
          exact h1 j (looksB_spec hlk hj hd hl)
        · exact ih (pre ++ [x]) hg.2 (fun y hy => by
            rcases List.mem_append.1 hy with hy | hy
            · exact h1 y hy
            · rw [List.mem_singleton.1 hy]; exact h2 x (by simp)) (fun y hy => h2 y (by simp [hy])) hm
    exact key _ [] hg1 (fun x hx => by cases hx) (fun x hx => hx) hi
  obtain ⟨c, A, μ', s', m', hm⟩ := hm
  obtain ⟨hun, oi, hoi, hdeps⟩ := mem_ready.1 hrd
  have his : i < listed.size := by rw [inv.size]; exact (Array.getElem?_eq_some_iff.1 hoi).1
  have hunf : listed.getD i false = false := getD_both hun
  obtain ⟨hdst, _, hguard, hdist, hlook⟩ := lateGi_spec0 hoi (hall i hi)
  have direct : ∀ j, wB ops i j = true → listed.getD j false = true := fun j hwt => by
    obtain ⟨o', ho', e, he, hb, hon⟩ := wB_spec hwt
    rw [hoi] at ho'; cases ho'
    have hl := hdeps e he hb
    rw [hon] at hl
    exact hl
  have closed : ∀ j k, listed.getD j false = true → wB ops j k = true → listed.getD k false = true := fun j k hj hwt => by
    obtain ⟨o', ho', e, he, hb, hon⟩ := wB_spec hwt
    have := inv.closed j o' ho' hj e he hb
    rw [hon] at this
    exact this
  have waited : ∀ j ∈ reachL ops i i [], listed.getD j false = true := reachL_closed direct closed i [] fun j hj => by cases hj
  have hag : Agree ops oi a A := fun t ht => by
    refine ⟨?_, hm.size⟩
    by_cases hex : ∃ j, j < q ∧ dstOf ops j = some t
    · obtain ⟨j, hj, hdj⟩ := hex
      have hwt := waited j (looksB_spec hlook hj hdj ht)
      cases hoj : ops[j]? with
      | none => simp [dstOf, hoj] at hdj
      | some oj => exact hm.yes j oj t hj hoj (by simpa [dstOf, hoj] using hdj) hwt
    · exact hm.other t fun j hj hh => hex ⟨j, hj, hh⟩
  have hex := hag.exec (Region.noSelect_spec hsel i oi · · hoi)
  have hw : Region.wanted oi (yielded ops a.tmps) = true := by simp [Region.wanted, hguard]
  unfold wpOp
  rw [hoi]
  dsimp only
  rw [if_pos hw]
  refine .inl ?_
  by_cases hig : i ∈ gList ops q
  · -- a read
    obtain ⟨ox, hox, hrx⟩ := goodAt i hig
    rw [hoi] at hox; cases hox
    obtain ⟨⟨d, hd, hdN⟩, _⟩ := lateGi_spec hoi (hall i hi) (read_some hoi (hall i hi) hrx)
    have hdi : dstOf ops i = some d := by simp [dstOf, hoi, hd]
    unfold Oper.wp
    have hY := hold i oi d hig hoi hd
    have hag0 : Agree ops oi a A0 := fun t ht => by
      refine ⟨?_, by rw [hm.size, hm.rel.size, hsA.size]⟩
      rw [(hag t ht).1]
      by_cases hex : ∃ j, j < q ∧ dstOf ops j = some t
      · obtain ⟨j, hj, hdj⟩ := hex
        exact hm.reads j (lookAt i hig oi hoi j t hj hdj ht) t hdj
      · rw [hm.ext t fun j hj hh => hex ⟨j, hj, hh⟩]
    have hex0 := hag0.exec (Region.noSelect_spec hsel i oi · · hoi)
    have hv : A0.tmps.getD d undef = A.tmps.getD d undef := (hm.reads i hig d hdi).symm
    have hrun : (execOp A0.eval oi).run P w = .ok (.value (A0.tmps.getD d undef)) w := by
      cases hpu : pureOp oi.op with
      | true => exact hY (List.replicate m.length none) (by simp [forgetB_length]) (.inr hpu) w (MR_nones _ _ _)
      | false =>
        obtain ⟨_, q1, q2⟩ := hm.mem ⟨i, oi, hig, hoi, hpu, hunf⟩
        exact hY _ rfl (.inl rfl) w (MR.preB B hm.run.mr hmids q1 q2)
    rw [hex0, hrun, hv]
    have val : ∀ z, (a.put (some d) (A.tmps.getD d undef)).tmps.getD z undef = if z = d then A.tmps.getD d undef else a.tmps.getD z undef := fun z => by
      rw [getD_put]
      by_cases hz : z = d
      · subst hz
        by_cases hlt : z < a.tmps.size
        · simp [hlt]
        · have : ¬ z < A.tmps.size := by rw [← hm.size]; exact hlt
          simp [hlt, this]
      · rw [if_neg (fun hh => hz hh.1.symm), if_neg hz]
    show K' (a.put oi.dst (A.tmps.getD d undef)) w
    rw [hd]
    refine hK _ _ ⟨c, A, μ', s', m', hm.cle, fun j i' hj => ?_, hm.run, hm.rel, hm.vc, by simp [Act.put, hm.size], by simp [Act.put, hm.defers], fun j oj dj hj hoj hdj hl => ?_, fun z hz => ?_, hm.reads, hm.ext, fun hex => ?_⟩
    · have : i ≠ i' := fun e => by
        have := (hrm i').1 (List.mem_of_getElem? hj)
        rw [← e] at this; exact this.2 hig
      rw [getD_set_ne false this]; exact hm.done j i' hj
    · rw [val]
      by_cases hjd : dj = d
      · rw [if_pos hjd, hjd]
      · rw [if_neg hjd]
        rcases getD_set_cases hl with rfl | hl
        · rw [hoi] at hoj; cases hoj; rw [hd] at hdj; cases hdj; exact absurd rfl hjd
        · exact hm.yes j oj dj hj hoj hdj hl
    · rw [val, if_neg (fun hh => hz i hi (by rw [hdi, hh]))]
      exact hm.other z hz
    · obtain ⟨i', o', h1, h2, h3, h4⟩ := hex
      refine hm.mem ⟨i', o', h1, h2, h3, ?_⟩
      by_cases e : i = i'
      · subst e; simp [his] at h4
      · rw [getD_set_ne false e] at h4; exact h4
  · -- one of the others
    obtain ⟨j, hj⟩ := List.mem_iff_getElem?.1 ((hrm i).2 ⟨hi, hig⟩)
    have hcj : ¬ j < c := by have := hm.done j i hj; rw [hunf] at this; simpa using this.symm
    have hjc : j = c := by
      by_cases e : c < j
      · obtain ⟨j', rfl⟩ : ∃ j', j = j' + 1 := ⟨j - 1, by omega⟩
        have hlt : j' < (gRest ops q).length := by have := (List.getElem?_eq_some_iff.1 hj).1; omega
        have h1 := chainL_get _ j' _ i hcl (List.getElem?_eq_getElem hlt) hj
        have h2 := waited _ h1
        rw [hm.done j' _ (List.getElem?_eq_getElem hlt)] at h2
        have : j' < c := by simpa using h2
        omega
      · omega
    subst hjc
    have hlen := (List.getElem?_eq_some_iff.1 hj).1
    have hdrop : (gRest ops q).drop j = i :: (gRest ops q).drop (j + 1) := by
      rw [List.drop_eq_getElem_cons hlen, (List.getElem?_eq_some_iff.1 hj).2]
    have hvc := hm.vc
    rw [hdrop] at hvc
    unfold restVC at hvc
    rw [hoi] at hvc
    dsimp only at hvc
    have next : ∀ (v : Value) (w' : World) (μ'' : Nat → Nat) (s'' : Slots) (m'' : Mem), SRel N μ'' m''.length s'' (A.put oi.dst v) → RunS μ0 m0 w0 μ'' m'' w' → restVC P T N B ops q ((gRest ops q).drop (j + 1)) s'' m'' Kf →
        ((∃ i' o, i' ∈ gList ops q ∧ ops[i']? = some o ∧ pureOp o.op = false ∧ listed.getD i' false = false) → m.length ≤ m''.length ∧ (∀ id, id < m.length → B ≠ some id → blockOf m'' id = blockOf m id) ∧ ∀ id, id < m.length → μ'' id = μ id) → K' (a.put oi.dst v) w' := fun v w' μ'' s'' m'' g1 g2 g3 g4 => by
      rcases hdst with ⟨d, hd, hdN⟩ | ⟨hd, hsto⟩
      · have hdi : dstOf ops i = some d := by simp [dstOf, hoi, hd]
        have pa : ∀ z, (a.put oi.dst v).tmps.getD z undef = if z = d ∧ z < A.tmps.size then v else a.tmps.getD z undef := fun z => by
          rw [hd, getD_put, hm.size]
          by_cases hz : z = d
          · subst hz; by_cases hlt : z < A.tmps.size <;> simp [hlt]
          · rw [if_neg (fun hh => hz hh.1.symm), if_neg (fun hh => hz hh.1)]
        have pA : ∀ z, (A.put oi.dst v).tmps.getD z undef = if z = d ∧ z < A.tmps.size then v else A.tmps.getD z undef := fun z => by
          rw [hd, getD_put]
          by_cases hz : z = d
          · subst hz; by_cases hlt : z < A.tmps.size <;> simp [hlt]
          · rw [if_neg (fun hh => hz hh.1.symm), if_neg (fun hh => hz hh.1)]
        have hds : d < A.tmps.size := by rw [hm.rel.size]; exact hdN
        refine hK _ _ ⟨j + 1, A.put oi.dst v, μ'', s'', m'', by omega, fun j' i' hj' => ?_, g2, g1, g3, by simp [Act.put, hd, hm.size], by simp [Act.put, hd, hm.defers], fun j' oj dj hj' hoj hdj hl => ?_, fun z hz => ?_, fun i' hi' d' hd' => ?_, fun z hz => ?_, fun hex => g4 ?_⟩
        · by_cases e : i = i'
          · subst e
            have : j' = j := (List.getElem?_inj (List.getElem?_eq_some_iff.1 hj').1 hrnd).1 (by rw [hj', hj])
            subst this
            simp [his]
          · rw [getD_set_ne false e, hm.done j' i' hj']
            have : j' ≠ j := fun hh => e (by rw [hh] at hj'; rw [hj] at hj'; cases hj'; rfl)
            by_cases e2 : j' < j
            · simp [e2, show j' < j + 1 by omega]
            · simp [e2, show ¬ j' < j + 1 by omega]
        · rw [pa, pA]
          by_cases hjd : dj = d
          · rw [if_pos ⟨hjd, by rw [hjd]; exact hds⟩, if_pos ⟨hjd, by rw [hjd]; exact hds⟩]
          · rw [if_neg (fun hh => hjd hh.1), if_neg (fun hh => hjd hh.1)]
            rcases getD_set_cases hl with rfl | hl
            · rw [hoi] at hoj; cases hoj; rw [hd] at hdj; cases hdj; exact absurd rfl hjd
            · exact hm.yes j' oj dj hj' hoj hdj hl
        · have hzd : z ≠ d := fun hh => hz i hi (by rw [hdi, hh])
          rw [pa, pA, if_neg (fun hh => hzd hh.1), if_neg (fun hh => hzd hh.1)]
          exact hm.other z hz
        · have hdd : d' ≠ d := fun hh => hdist i' (hg3 i' hi') (fun e => hig (by rw [e]; exact hi')) (by rw [hd', hdi, hh])
          rw [pA, if_neg (fun hh => hdd hh.1)]
          exact hm.reads i' hi' d' hd'
        · have hzd : z ≠ d := fun hh => hz i hi (by rw [hdi, hh])
          rw [pA, if_neg (fun hh => hzd hh.1)]
          exact hm.ext z hz
        · obtain ⟨i', o', h1, h2, h3, h4⟩ := hex
          refine ⟨i', o', h1, h2, h3, ?_⟩
          rw [getD_set_ne false (fun e => hig (by rw [e]; exact h1))] at h4
          exact h4
      · have ea : a.put oi.dst v = a := by rw [hd]; rfl
        have eA : A.put oi.dst v = A := by rw [hd]; rfl
        rw [eA] at g1
        rw [ea]
        refine hK _ _ ⟨j + 1, A, μ'', s'', m'', by omega, fun j' i' hj' => ?_, g2, g1, g3, hm.size, hm.defers, fun j' oj dj hj' hoj hdj hl => ?_, hm.other, hm.reads, hm.ext, fun hex => g4 ?_⟩
        · by_cases e : i = i'
          · subst e
            have : j' = j := (List.getElem?_inj (List.getElem?_eq_some_iff.1 hj').1 hrnd).1 (by rw [hj', hj])
            subst this
            simp [his]
          · rw [getD_set_ne false e, hm.done j' i' hj']
            have : j' ≠ j := fun hh => e (by rw [hh] at hj'; rw [hj] at hj'; cases hj'; rfl)
            by_cases e2 : j' < j
            · simp [e2, show j' < j + 1 by omega]
            · simp [e2, show ¬ j' < j + 1 by omega]
        · rcases getD_set_cases hl with rfl | hl
          · rw [hoi] at hoj; cases hoj; rw [hd] at hdj; cases hdj
          · exact hm.yes j' oj dj hj' hoj hdj hl
        · obtain ⟨i', o', h1, h2, h3, h4⟩ := hex
          refine ⟨i', o', h1, h2, h3, ?_⟩
          rw [getD_set_ne false (fun e => hig (by rw [e]; exact h1))] at h4
          exact h4
    rcases hvc with ⟨hno, hvc⟩ | ⟨hfr, hvc⟩
    rotate_left
    · rcases Bool.or_eq_true _ _ ▸ hfr with hfr | hfr
      rotate_left
      · refine wp_swap hex (st_sound hT hm.rel hm.run hfr hvc) (fun A'' w'' ⟨_, _, _, g, _⟩ => g.defers) fun v w' ⟨μ'', s'', m'', g1, g2, g5, ⟨r0, r1⟩, g3⟩ => ?_
        refine next v w' μ'' s'' m'' g1 g2 g3 fun hh => ?_
        obtain ⟨q0, q1, q2⟩ := hm.mem hh
        exact ⟨by omega, fun id hid hne => (r1 id hne).trans (q1 id hid hne), fun id hid => (g5 id (by omega)).trans (q2 id hid)⟩
      refine wp_swap (F := fun A'' w'' => ∃ μ'' s'' m'', SRel N μ'' m''.length s'' A'' ∧ RunS μ0 m0 w0 μ'' m'' w'' ∧ restVC P T N B ops q ((gRest ops q).drop (j + 1)) s'' m'' Kf) hex
        (one_sound hT hE hO ⟨μ', hm.rel, hm.run⟩ hvc fun s'' m'' A'' w'' hf hk => by obtain ⟨μ'', g1, g2⟩ := hf.fits; exact ⟨μ'', s'', m'', g1, g2, hk⟩) (fun A'' w'' ⟨_, _, _, g, _⟩ => g.defers) fun v w' ⟨μ'', s'', m'', g1, g2, g3⟩ => ?_
      refine next v w' μ'' s'' m'' g1 g2 g3 fun ⟨i', o', h1, h2, h3, h4⟩ => ?_
      have := List.all_eq_true.1 hfr i' h1
      rw [h2] at this
      simp only [h3, Bool.false_or, List.contains_iff_mem] at this
      rw [waited i' this] at h4; cases h4
    · refine wp_swap hex (nd_sound hT hE hm.rel hm.run hno hvc) (fun A'' w'' ⟨_, _, _, g, _⟩ => g.defers) fun v w' ⟨μ'', s'', m'', g1, g2, g5, g6, g3⟩ => ?_
      refine next v w' μ'' s'' m'' g1 g2 g3 fun hh => ?_
      obtain ⟨q0, q1, q2⟩ := hm.mem hh
      obtain ⟨r0, r1⟩ := preM_get _ _ g6
      exact ⟨by omega, fun id hid hne => (r1 id (by omega)).trans (q1 id hid hne), fun id hid => (g5 id (by omega)).trans (q2 id hid)⟩

/-- the state behind the chain: what only looks at results is done or to be done -/
structure PMid (P : Program) (T : Tab) (μ0 : Nat → Nat) (m0 : Mem) (w0 : World) (N : Nat) (ops : Array Oper) (n p : Nat) (Kr : Slots → Mem → Prop) (listed : Array Bool) (a : Act) (w : World) (A : Act) (μ' : Nat → Nat) (s' : Slots) (m' : Mem) : Prop where
  head : ∀ i, i < n → listed.getD i false = true
  run : RunS μ0 m0 w0 μ' m' w
  rel : SRel N μ' m'.length s' A
  vc : Kr s' m'
  size : a.tmps.size = A.tmps.size
  defers : a.defers = A.defers
  yes : ∀ i o d, i < p → ops[i]? = some o → o.dst = some d → listed.getD i false = true → a.tmps.getD d undef = A.tmps.getD d undef
  other : ∀ x, (∀ i, i < p → dstOf ops i ≠ some x) → a.tmps.getD x undef = A.tmps.getD x undef
  hold : ∀ j o d, n ≤ j → j < p → ops[j]? = some o → o.dst = some d → YlL P μ' m' o A (A.tmps.getD d undef)

theorem valB_spec {ops : Array Oper} {n p i : Nat} (h : valB ops n p i = true) : ∃ o, ops[i]? = some o ∧ pureOp o.op = true ∧ readOp o.op = true ∧ o.guard = none ∧ looksB ops p o (List.range i) = true ∧ ∀ j, j < n → j ∈ reachL ops i i [] := by
  unfold valB at h
  split at h
  · rename_i o ho
    simp only [Bool.and_eq_true, Option.isNone_iff_eq_none, List.all_eq_true, List.mem_range, List.contains_iff_mem] at h
    obtain ⟨⟨⟨⟨h1, h2⟩, h3⟩, h4⟩, h5⟩ := h
    exact ⟨o, ho, h1, h2, h3, h4, h5⟩
  · cases h
theorem goodV {ops : Array Oper} {n p : Nat} : ∀ (k i : Nat), (∀ j, i ≤ j → j < i + k → valB ops n p j = true) → GoodL ops p (List.range i) (List.range' i k)
  | 0, i, _ => trivial
  | k + 1, i, h => by
    obtain ⟨o, h0, h1, h2, h3, h4, h5⟩ := valB_spec (h i (Nat.le_refl i) (by omega))
    refine ⟨⟨o, h0, h3, h2, h4⟩, ?_⟩
    rw [← List.range_succ]
    exact goodV k (i + 1) fun j h1 h2 => h j (by omega) (by omega)

theorem pm_of_gm {T : Tab} (hT : TabOK P T) (hE : TabEq P T) {μ0 : Nat → Nat} {m0 : Mem} {w0 : World} {N n p : Nat} {ops : Array Oper} {μ : Nat → Nat} {m : Mem} {B : Option Nat} {Kr : Slots → Mem → Prop} {A0 : Act} {listed : Array Bool} {a : Act} {w : World} {c : Nat} {A : Act} {μ' : Nat → Nat} {s' : Slots} {m' : Mem}
    (hsel : Region.noSelect ops = true) (hall : ∀ i, i < p → lateGi N ops p i = true) (hnp : n ≤ p) (hv : ∀ j, n ≤ j → j < p → valB ops n p j = true)
    (hm : GMid P T μ0 m0 w0 N μ m B ops n (fun s'' m'' => readsAt T N m'' ops (List.range' n (p - n)) s'' fun s3 => Kr s3 m'') A0 listed a w c A μ' s' m') (hl : ∀ i, i < n → listed.getD i false = true) (hu : ∀ i, n ≤ i → i < p → listed.getD i false = false) :
    ∃ A2 s2, PMid P T μ0 m0 w0 N ops n p Kr listed a w A2 μ' s2 m' := by
  have hrm : ∀ i, i ∈ gRest ops n → i < n := fun i h => by simp [gRest, List.mem_filter] at h; exact h.1
  have hcl : (gRest ops n).length ≤ c := by
    rcases Nat.lt_or_ge c (gRest ops n).length with hlt | hge
    · have h1 := List.getElem?_eq_getElem hlt
      have h2 := hm.done c _ h1
      rw [hl _ (hrm _ (List.mem_of_getElem? h1))] at h2
      simp at h2
    · exact hge
  have hvc := hm.vc
  rw [List.drop_eq_nil_of_le hcl] at hvc
  have hmem : ∀ j, j ∈ List.range' n (p - n) ↔ n ≤ j ∧ j < p := fun j => by rw [List.mem_range'_1]; omega
  obtain ⟨A2, s2, hs2, hk, ho2, hold2⟩ := lateG_pass hT hE hm.run.mr hsel hall (List.range' n (p - n)) (List.range n) s' A (goodV _ _ fun j h1 h2 => hv j h1 (by omega)) (fun i hi => ((hmem i).1 hi).2) (fun i hi hh => by rw [List.mem_range] at hi; have := ((hmem i).1 hh).1; omega) List.pairwise_lt_range' hm.rel hvc
  refine ⟨A2, s2, hl, hm.run, hs2, hk, by rw [hm.size, hm.rel.size, hs2.size], by rw [hm.defers, hm.rel.defers, hs2.defers], fun i o d hi ho hd hli => ?_, fun x hx => ?_, fun j o d h1 h2 h3 h4 => hold2 j o d ((hmem j).2 ⟨h1, h2⟩) h3 h4⟩
  · have hin : i < n := by
      refine Nat.lt_of_not_le fun hh => ?_
      rw [hu i hh hi] at hli; cases hli
    rw [hm.yes i o d hin ho hd hli]
    refine (ho2 d fun j hj hh => ?_).symm
    have hj := (hmem j).1 hj
    have := (lateGi_spec0 ho (hall i hi)).2.2.2.1 j hj.2 (by omega)
    exact this (by rw [hh]; simp [dstOf, ho, hd])
  · rw [hm.other x fun i hi => hx i (by omega)]
    exact (ho2 x fun j hj => hx j ((hmem j).1 hj).2).symm

theorem pmid_step {T : Tab} {μ0 : Nat → Nat} {m0 : Mem} {w0 : World} {N n p : Nat} {ops : Array Oper} {Kr : Slots → Mem → Prop} {Q : Exit → Act → World → Prop} (hsel : Region.noSelect ops = true) (hall : ∀ i, i < p → lateGi N ops p i = true) (hv : ∀ j, n ≤ j → j < p → valB ops n p j = true)
    {listed : Array Bool} {a : Act} {w : World} {i : Nat} (inv : HeadInv .any ops p listed) {A : Act} {μ' : Nat → Nat} {s' : Slots} {m' : Mem} (hm : PMid P T μ0 m0 w0 N ops n p Kr listed a w A μ' s' m') (hi : i < p) (hrd : i ∈ Region.ready .any ops listed) (K' : Act → World → Prop)
    (hK : ∀ a' w', PMid P T μ0 m0 w0 N ops n p Kr (listed.setIfInBounds i true) a' w' A μ' s' m' → K' a' w') : wpOp P ops Q i K' a w := by
  obtain ⟨hun, oi, hoi, hdeps⟩ := mem_ready.1 hrd
  have his : i < listed.size := by rw [inv.size]; exact (Array.getElem?_eq_some_iff.1 hoi).1
  have hunf : listed.getD i false = false := getD_both hun
  have hni : n ≤ i := Nat.le_of_not_lt fun hh => by rw [hm.head i hh] at hunf; cases hunf
  obtain ⟨o', ho', hpu, _, _, _, _⟩ := valB_spec (hv i hni hi)
  rw [hoi] at ho'; cases ho'
  obtain ⟨⟨d, hd, hdN⟩, _, hguard, hdist, hlook⟩ := lateGi_spec hoi (hall i hi) (read_some hoi (hall i hi) (pure_read hpu))
  have hdi : dstOf ops i = some d := by simp [dstOf, hoi, hd]
  have direct : ∀ j, wB ops i j = true → listed.getD j false = true := fun j hwt => by
    obtain ⟨o', ho', e, he, hb, hon⟩ := wB_spec hwt
    rw [hoi] at ho'; cases ho'
    have hl := hdeps e he hb
    rw [hon] at hl
    exact hl
  have closed : ∀ j k, listed.getD j false = true → wB ops j k = true → listed.getD k false = true := fun j k hj hwt => by
    obtain ⟨o', ho', e, he, hb, hon⟩ := wB_spec hwt
    have := inv.closed j o' ho' hj e he hb
    rw [hon] at this
    exact this
  have waited : ∀ j ∈ reachL ops i i [], listed.getD j false = true := reachL_closed direct closed i [] fun j hj => by cases hj
  have hag : Agree ops oi a A := fun t ht => by
    refine ⟨?_, hm.size⟩
    by_cases hex : ∃ j, j < p ∧ dstOf ops j = some t
    · obtain ⟨j, hj, hdj⟩ := hex
      have hwt := waited j (looksB_spec hlook hj hdj ht)
      cases hoj : ops[j]? with
      | none => simp [dstOf, hoj] at hdj
      | some oj => exact hm.yes j oj t hj hoj (by simpa [dstOf, hoj] using hdj) hwt
    · exact hm.other t fun j hj hh => hex ⟨j, hj, hh⟩
  have hex := hag.exec (Region.noSelect_spec hsel i oi · · hoi)
  have hw : Region.wanted oi (yielded ops a.tmps) = true := by simp [Region.wanted, hguard]
  have hrun : (execOp A.eval oi).run P w = .ok (.value (A.tmps.getD d undef)) w := hm.hold i oi d hni hi hoi hd (List.replicate m'.length none) (by simp) (.inr hpu) w (MR_nones _ _ _)
  unfold wpOp
  rw [hoi]
  dsimp only
  rw [if_pos hw]
  refine .inl ?_
  unfold Oper.wp
  rw [hex, hrun]
  have val : ∀ z, (a.put (some d) (A.tmps.getD d undef)).tmps.getD z undef = if z = d then A.tmps.getD d undef else a.tmps.getD z undef := fun z => by
    rw [getD_put]
    by_cases hz : z = d
    · subst hz
      by_cases hlt : z < a.tmps.size
      · simp [hlt]
      · have : ¬ z < A.tmps.size := by rw [← hm.size]; exact hlt
        simp [hlt, this]
    · rw [if_neg (fun hh => hz hh.1.symm), if_neg hz]
  show K' (a.put oi.dst (A.tmps.getD d undef)) w
  rw [hd]
  refine hK _ _ ⟨fun j hj => ?_, hm.run, hm.rel, hm.vc, by simp [Act.put, hm.size], by simp [Act.put, hm.defers], fun j oj dj hj hoj hdj hl => ?_, fun z hz => ?_, hm.hold⟩
  · rw [getD_set_ne false (by omega)]; exact hm.head j hj
  · rw [val]
    by_cases hjd : dj = d
    · rw [if_pos hjd, hjd]
    · rw [if_neg hjd]
      rcases getD_set_cases hl with rfl | hl
      · rw [hoi] at hoj; cases hoj; rw [hd] at hdj; cases hdj; exact absurd rfl hjd
      · exact hm.yes j oj dj hj hoj hdj hl
  · rw [val, if_neg (fun hh => hz i hi (by rw [hdi, hh]))]
    exact hm.other z hz

theorem lateP_sound {T : Tab} (hT : TabOK P T) (hE : TabEq P T) {μ0 : Nat → Nat} {m0 : Mem} {w0 : World} (hO : m0.length ≤ T.own) {N n p rid : Nat} {ops : Array Oper} {μ : Nat → Nat} {s : Slots} {m : Mem} {B : Option Nat} {a : Act} {w : World} {K : Slots → Mem → Prop} {Q : Exit → Act → World → Prop}
    (hs : SRel N μ m.length s a) (hr : RunS μ0 m0 w0 μ m w) (hB : lateP N ops n p = true)
    (hstart : readsAt T N (forgetB B m) ops (gList ops n) s fun s' => restVC P T N B ops n (gRest ops n) s' m fun s'' m'' => readsAt T N m'' ops (List.range' n (p - n)) s'' fun s3 => opsVC P T N ops (ops.toList.drop p) s3 m'' K)
    (htail : ∀ μ' s' m' a' w', SRel N μ' m'.length s' a' → RunS μ0 m0 w0 μ' m' w' → opsVC P T N ops (ops.toList.drop p) s' m' K → wpList P ops Q (ops.toList.drop p) a' w') : (Code.region rid ops true).wp P Q a w := by
  unfold lateP at hB
  simp only [Bool.and_eq_true, decide_eq_true_eq, List.all_eq_true, List.mem_range] at hB
  obtain ⟨⟨⟨⟨⟨⟨⟨⟨⟨hsel, hnp⟩, hn⟩, hsk⟩, hch⟩, hsq⟩, hall⟩, hall1⟩, hcl⟩, hv0⟩ := hB
  have hv : ∀ j, n ≤ j → j < p → valB ops n p j = true := fun j h1 h2 => hv0 j (by rw [List.mem_range'_1]; omega)
  obtain ⟨hg1, hg2, hg3⟩ := gList_good ops n
  obtain ⟨A0, s1, hsA, h, hother, hold⟩ := lateG_pass hT hE (hr.mr.forgetB B) hsel hall1 _ [] s a hg1 hg3 (fun i hi => by cases hi) hg2 (by rw [forgetB_length]; exact hs) hstart
  rw [forgetB_length] at hsA
  have hmids := hr.mr.ids
  have hr1 := hr.drew
  refine wp_region_any hT.mixed ?_
  have inv0 : HeadInv .any ops p (Array.replicate ops.size false) :=
    ⟨by simp, fun j oj _ hl => (by rw [getD_replicate_false] at hl; cases hl), fun t _ ht => getD_in (by simpa using ht) (getD_replicate_false _ _)⟩
  have hyes : ∀ i, i < p → (fullTo ops p).getD i false = true := fun i hi => by
    have : i < ops.size := by omega
    simp [fullTo, this, hi]
  have key := any_of (P := P) (ops := ops) (n := p) (g := ops.size - p) (Q := Q)
    (I := fun listed a w => ((∀ i, n ≤ i → i < p → listed.getD i false = false) ∧ ∃ c A μ' s' m', GMid P T μ0 m0 w0 N μ m B ops n (fun s'' m'' => readsAt T N m'' ops (List.range' n (p - n)) s'' fun s3 => opsVC P T N ops (ops.toList.drop p) s3 m'' K) A0 listed a w c A μ' s' m') ∨
      ∃ A μ' s' m', PMid P T μ0 m0 w0 N ops n p (fun s3 m'' => opsVC P T N ops (ops.toList.drop p) s3 m'' K) listed a w A μ' s' m') (.inl ⟨hsk, hch, hn⟩)
    (fun i oi hi hoi => (lateGi_spec0 hoi (hall i hi)).2.1)
    (fun listed a w i inv hm hi hrd K' hK => by
      have pstep : (∃ A μ' s' m', PMid P T μ0 m0 w0 N ops n p (fun s3 m'' => opsVC P T N ops (ops.toList.drop p) s3 m'' K) listed a w A μ' s' m') → wpOp P ops Q i K' a w := fun ⟨A, μ', s', m', hm⟩ =>
        pmid_step hsel hall hv inv hm hi hrd K' fun a' w' hm' => hK a' w' (.inr ⟨A, μ', s', m', hm'⟩)
      rcases hm with ⟨hu, c, A, μ', s', m', hm⟩ | hm
      · by_cases hin : i < n
        · exact gmid_step hT hE hO hsel hall1 hcl hmids hsA hold inv ⟨c, A, μ', s', m', hm⟩ hin hrd K' fun a' w' hm' => hK a' w' (.inl ⟨fun j h1 h2 => by rw [getD_set_ne false (by omega)]; exact hu j h1 h2, hm'⟩)
        · -- what is waited for is done
          obtain ⟨hun, oi, hoi, hdeps⟩ := mem_ready.1 hrd
          obtain ⟨_, _, _, _, _, _, hrea⟩ := valB_spec (hv i (by omega) hi)
          have direct : ∀ j, wB ops i j = true → listed.getD j false = true := fun j hwt => by
            obtain ⟨o', ho', e, he, hb, hon⟩ := wB_spec hwt
            rw [hoi] at ho'; cases ho'
            have hl := hdeps e he hb
            rw [hon] at hl
            exact hl
          have closed : ∀ j k, listed.getD j false = true → wB ops j k = true → listed.getD k false = true := fun j k hj hwt => by
            obtain ⟨o', ho', e, he, hb, hon⟩ := wB_spec hwt
            have := inv.closed j o' ho' hj e he hb
            rw [hon] at this
            exact this
          have waited : ∀ j ∈ reachL ops i i [], listed.getD j false = true := reachL_closed direct closed i [] fun j hj => by cases hj
          obtain ⟨A2, s2, hp⟩ := pm_of_gm (Kr := fun s3 m'' => opsVC P T N ops (ops.toList.drop p) s3 m'' K) hT hE hsel hall hnp hv hm (fun j hj => waited j (hrea j hj)) hu
          exact pstep ⟨A2, μ', s2, m', hp⟩
      · exact pstep hm)
    (fun a' w' hm => by
      have fin : (∃ A μ' s' m', PMid P T μ0 m0 w0 N ops n p (fun s3 m'' => opsVC P T N ops (ops.toList.drop p) s3 m'' K) (fullTo ops p) a' w' A μ' s' m') → wpAny P .any ops Q (ops.size - p) (fullTo ops p) a' w' := fun ⟨A, μ', s', m', hm⟩ => by
        have hsr : SRel N μ' m'.length s' a' := by
          refine ⟨by rw [hm.size, hm.rel.size], by rw [hm.defers, hm.rel.defers], fun t v hv => ?_⟩
          obtain ⟨h1, h2⟩ := hm.rel.val t v hv
          refine ⟨?_, h2⟩
          rw [← h1]
          by_cases hex : ∃ j, j < p ∧ dstOf ops j = some t
          · obtain ⟨j, hj, hdj⟩ := hex
            cases hoj : ops[j]? with
            | none => simp [dstOf, hoj] at hdj
            | some oj => exact hm.yes j oj t hj hoj (by simpa [dstOf, hoj] using hdj) (hyes j hj)
          · exact hm.other t fun j hj hh => hex ⟨j, hj, hh⟩
        have := wpAny_of_seq (md := .any) (Q' := Q) (ops.toList.drop p) p (fullTo ops p) a' w' (fun j => by simp [List.getElem?_drop]) (by simpa [fullTo] using hsq) (htail μ' _ m' a' w' hsr hm.run hm.vc)
        simpa using this
      rcases hm with ⟨hu, c, A, μ', s', m', hm⟩ | hm
      · obtain ⟨A2, s2, hp⟩ := pm_of_gm (Kr := fun s3 m'' => opsVC P T N ops (ops.toList.drop p) s3 m'' K) hT hE hsel hall hnp hv hm (fun j hj => hyes j (by omega)) hu
        exact fin ⟨A2, μ', s2, m', hp⟩
      · exact fin hm)
    p (List.range p) (Array.replicate ops.size false) a { w with drawn := w.drawn + 1 } (by simp) List.nodup_range (fun j => ?_) inv0 ?_
  · rw [show p + (ops.size - p) = ops.size by omega] at key
    exact key
  · rw [List.mem_range]
    constructor
    · intro hj
      have : j < ops.size := by omega
      exact ⟨hj, by simp [this]⟩
    · exact fun hh => hh.1
  · exact .inl ⟨fun j _ _ => getD_replicate_false _ _, 0, A0, μ, s1, m, Nat.zero_le _, fun j i hj => by rw [getD_replicate_false]; simp, hr1, hsA, h, by rw [hs.size, hsA.size], by rw [hs.defers, hsA.defers], fun i oi d _ _ _ hl => (by rw [getD_replicate_false] at hl; cases hl), fun z hz => (hother z fun j hj => hz j (hg3 j hj)).symm, fun _ _ _ _ => rfl, fun _ _ => rfl, fun _ => ⟨Nat.le_refl _, fun _ _ _ => rfl, fun _ _ => rfl⟩⟩

theorem ops_sound {T : Tab} (hT : TabOK P T) (hE : TabEq P T) {μ0 : Nat → Nat} {m0 : Mem} {w0 : World} {N : Nat} {ops : Array Oper} {Q : Exit → Act → World → Prop} (hO : m0.length ≤ T.own) : ∀ (l : List Oper) {s : Slots} {m : Mem} {a : Act} {w : World} {K : Slots → Mem → Prop},
    Fits μ0 m0 w0 N s m a w → opsVC P T N ops l s m K → (∀ s' m' a' w', Fits μ0 m0 w0 N s' m' a' w' → K s' m' → Q .normal a' w') → wpList P ops Q l a w
  | [], s, m, a, w, K, hf, h, hq => hq _ _ _ _ hf h
  | o :: r, s, m, a, w, K, hf, h, hq => by
    have yes : ∀ s1, Fits μ0 m0 w0 N s1 m a w → Region.wanted o (yielded ops a.tmps) = true → oneVC P T N o s1 m (fun s' m' => opsVC P T N ops r s' m' K) → wpList P ops Q (o :: r) a w := by
      intro s1 hf1 hw h
      unfold wpList
      rw [if_pos hw]
      exact .inl (one_sound hT hE hO hf1 h fun s' m' a' w' hf' hk => ops_sound hT hE hO r hf' hk hq)
    have no : ∀ s1, Fits μ0 m0 w0 N s1 m a w → Region.wanted o (yielded ops a.tmps) = false → opsVC P T N ops r (sset N s1 o.dst .undef) m K → wpList P ops Q (o :: r) a w := by
      intro s1 hf1 hw h
      unfold wpList
      rw [if_neg (by rw [hw]; simp)]
      obtain ⟨μ, hs, hr⟩ := hf1.fits
      exact ops_sound hT hE hO r ⟨μ, hs.skip o.dst, hr⟩ h hq
    unfold opsVC guardVC at h
    split at h
    · rename_i hg
      exact yes s hf (by simp [Region.wanted, hg]) h
    · rename_i g want hg
      split at h
      · rename_i t ht
        obtain ⟨μ, hs, hr⟩ := hf.fits
        split at h
        · rename_i b hb
          have h1 := hs.val t _ hb
          have hlt : t < a.tmps.size := by
            rcases Nat.lt_or_ge t a.tmps.size with h' | h'
            · exact h'
            · have := h1.1; simp [Array.getElem?_eq_none h', Go.undef, toVal, scal] at this
          have hty : yielded ops a.tmps g = some b := by
            unfold yielded
            have h2 := h1.1
            simp only [ht, Option.bind_some, Array.getElem?_eq_getElem hlt]
            simp [hlt, toVal, scal] at h2
            rw [h2]
          have hs2 : ∀ b', b' = b → Fits μ0 m0 w0 N ((t, .bool b') :: s) m a w := fun b' e => ⟨μ, ⟨hs.size, hs.defers, fun k v hk => by
            rw [lk_cons] at hk
            by_cases htk : t = k
            · subst htk
              rw [if_pos rfl] at hk
              cases hk
              rw [e]
              exact h1
            · rw [if_neg htk] at hk
              exact hs.val k v hk⟩, hr⟩
          cases b <;> cases want <;> simp only [ifVC] at h
          · exact yes _ (hs2 _ rfl) (by simp [Region.wanted, hg, hty]) h
          · exact no _ (hs2 _ rfl) (by simp [Region.wanted, hg, hty]) h
          · exact no _ (hs2 _ rfl) (by simp [Region.wanted, hg, hty]) h
          · exact yes _ (hs2 _ rfl) (by simp [Region.wanted, hg, hty]) h
        · rename_i hb
          have h1 := hs.val t _ hb
          have hty : yielded ops a.tmps g = none := by
            unfold yielded
            have h2 := h1.1
            simp only [ht, Option.bind_some]
            rcases Nat.lt_or_ge t a.tmps.size with h' | h'
            · rw [Array.getElem?_eq_getElem h']
              simp [h', toVal, scal, Go.undef] at h2
              rw [h2]
            · rw [Array.getElem?_eq_none h']
          exact no s hf (by simp [Region.wanted, hg, hty]) h
        · exact h.elim
      · exact h.elim

theorem eqv_flat (μ : Nat → Nat) : ∀ v u : SV, v.eqv u → flat μ v = flat μ u ∧ v.ids = u.ids := by
  intro v
  induction v with
  | ints k n f =>
    intro u h
    cases u <;> first | (obtain ⟨⟨rfl, rfl⟩, h⟩ := h; exact ⟨List.map_congr_left fun i hi => by rw [h i (List.mem_range.1 hi)], rfl⟩) | cases h
  | vec n f =>
    intro u h
    cases u with
    | vec n' f' =>
      obtain ⟨rfl, h⟩ := h
      refine ⟨List.map_congr_left fun i hi => by rw [h i (List.mem_range.1 hi)], ?_⟩
      show (List.range n).flatMap (fun i => (f i).ids1) = (List.range n).flatMap fun i => (f' i).ids1
      rw [List.flatMap_def, List.flatMap_def]
      exact congrArg List.flatten (List.map_congr_left fun i hi => by rw [h i (List.mem_range.1 hi)])
    | _ => cases h
  | pair a b iha ihb =>
    intro u h
    cases u <;> first | (obtain ⟨h1, h2⟩ := h; simp only [flat, SV.ids, (iha _ h1).1, (iha _ h1).2, (ihb _ h2).1, (ihb _ h2).2]; exact ⟨trivial, trivial⟩) | cases h
  | tcons a b iha ihb =>
    intro u h
    cases u <;> first | (obtain ⟨h1, h2⟩ := h; simp only [flat, scal, SV.ids, (iha _ h1).2, (ihb _ h2).2]; exact ⟨trivial, trivial⟩) | cases h
  | _ => intro u h; cases u <;> first | (cases h; exact ⟨rfl, rfl⟩) | cases h

theorem eqv_tup (μ : Nat → Nat) : ∀ v u : SV, v.eqv u → toVal.tupVals μ v = toVal.tupVals μ u := by
  intro v
  induction v with
  | tcons a b iha ihb =>
    intro u h
    cases u with
    | tcons c d =>
      obtain ⟨h1, h2⟩ := h
      have hf := (eqv_flat μ a c h1).1
      simp only [toVal.tupVals, ihb d h2]
      congr 1
      cases a <;> cases c <;> first | (cases h1; done) | (cases h1; rfl) | (simp only [hf]; done)
    | _ => cases h
  | _ => intro u h; cases u <;> first | rfl | cases h

theorem eqv_toVal (μ : Nat → Nat) (v u : SV) (h : v.eqv u) : toVal μ v = toVal μ u := by
  have hf := (eqv_flat μ v u h).1
  have ht := eqv_tup μ v u h
  cases v with
  | ints k n f => cases u <;> first | (cases h; done) | (show Value.agg _ = Value.agg _; rw [hf]; done)
  | vec n f => cases u <;> first | (cases h; done) | (show Value.agg (flat μ _).toArray = Value.agg (flat μ _).toArray; rw [hf]; done)
  | pair a b => cases u <;> first | (cases h; done) | (show Value.agg (flat μ _).toArray = Value.agg (flat μ _).toArray; rw [hf]; done)
  | tcons a b => cases u <;> first | (cases h; done) | (show Value.tuple _ = Value.tuple _; rw [ht]; done)
  | _ => cases u <;> first | (cases h; done) | (cases h; rfl)

theorem memEqv_get : ∀ (m M : Mem), memEqv m M → m.length = M.length ∧ ∀ id u c, blockOf M id = some (u, c) → ∃ v, blockOf m id = some (v, c) ∧ v.eqv u
  | [], [], _ => ⟨rfl, fun id u c h => by cases h⟩
  | [], _ :: _, h => h.elim
  | some (v, c) :: r, some (u, d) :: r', h => by
    obtain ⟨⟨h1, rfl⟩, h2⟩ := h
    obtain ⟨l, g⟩ := memEqv_get r r' h2
    refine ⟨by simp [l], fun id u' c' hb => ?_⟩
    cases id with
    | zero => cases hb; exact ⟨v, rfl, h1⟩
    | succ id => exact g id u' c' hb
  | none :: r, none :: r', h => by
    obtain ⟨l, g⟩ := memEqv_get r r' h
    refine ⟨by simp [l], fun id u' c' hb => ?_⟩
    cases id with
    | zero => cases hb
    | succ id => exact g id u' c' hb
  | some (v, c) :: r, none :: r', h => by
    obtain ⟨l, g⟩ := memEqv_get r r' h
    refine ⟨by simp [l], fun id u' c' hb => ?_⟩
    cases id with
    | zero => cases hb
    | succ id => exact g id u' c' hb
  | none :: r, some _ :: r', h => h.elim
  | _ :: _, [], h => by rename_i x r; cases x <;> exact h.elim

theorem subL_get : ∀ (S s : Slots), subL S s → ∀ t v, lk S t = some v → ∃ v', lk s t = some v' ∧ v'.eqv v
  | [], s, _, t, v, h => by cases h
  | (k, u) :: r, s, h, t, v, hv => by
    rw [lk_cons] at hv
    by_cases hkt : k = t
    · subst hkt
      rw [if_pos rfl] at hv
      cases hv
      have := h.1
      cases hl : lk s k with
      | none => rw [hl] at this; exact this.elim
      | some v' => rw [hl] at this; exact ⟨v', rfl, this⟩
    · rw [if_neg hkt] at hv
      exact subL_get r s h.2 t v hv

theorem memCut_get : ∀ (m M : Mem), memCut m M → ∀ id u c, blockOf M id = some (u, c) → ∃ v, blockOf m id = some (v, c) ∧ v.eqv u
  | m, [], _ => fun id u c h => by cases h
  | [], none :: r', h => fun id u c hb => by
    cases id with
    | zero => cases hb
    | succ id =>
      obtain ⟨v, hv, _⟩ := memCut_get [] r' (by simpa [memCut] using h) id u c hb
      cases hv
  | [], some _ :: _, h => by simp [memCut] at h
  | some (v, c) :: r, some (u, d) :: r', h => by
    obtain ⟨⟨h1, rfl⟩, h2⟩ := h
    have g := memCut_get r r' h2
    intro id u' c' hb
    cases id with
    | zero => cases hb; exact ⟨v, rfl, h1⟩
    | succ id => exact g id u' c' hb
  | none :: r, none :: r', h => by
    have g := memCut_get r r' h
    intro id u' c' hb
    cases id with
    | zero => cases hb
    | succ id => exact g id u' c' hb
  | some (v, c) :: r, none :: r', h => by
    have g := memCut_get r r' h
    intro id u' c' hb
    cases id with
    | zero => cases hb
    | succ id => exact g id u' c' hb
  | none :: r, some _ :: r', h => h.elim

theorem idsLt_iff (L : Nat) : ∀ l : List Nat, idsLt L l = true → ∀ i ∈ l, i < L
  | [], _, i, hi => by cases hi
  | x :: r, h, i, hi => by
    simp only [idsLt, Bool.and_eq_true] at h
    rcases List.mem_cons.1 hi with rfl | hi
    · simpa [Nat.blt_eq] using h.1
    · exact idsLt_iff L r h.2 i hi
theorem okSlots_get (L : Nat) : ∀ (s : Slots) (t : Nat) (v : SV), okSlots L s = true → lk s t = some v → ∀ i ∈ v.ids, i < L
  | [], t, v, _, h => by cases h
  | (k, u) :: r, t, v, ho, h => by
    simp only [okSlots, Bool.and_eq_true] at ho
    rw [lk_cons] at h
    by_cases hk : k = t
    · rw [if_pos hk] at h; cases h; exact idsLt_iff L _ ho.1
    · rw [if_neg hk] at h; exact okSlots_get L r t v ho.2 h
theorem okMem_get (L : Nat) : ∀ (m : Mem) (id : Nat) (v : SV) (c : Nat), okMem L m = true → blockOf m id = some (v, c) → ∀ i ∈ v.ids, i < L
  | [], id, v, c, _, h => by cases h
  | x :: r, 0, v, c, ho, h => by
    simp only [blockOf] at h
    subst h
    simp only [okMem, Bool.and_eq_true] at ho
    exact idsLt_iff L _ ho.1
  | x :: r, id + 1, v, c, ho, h => by
    refine okMem_get L r id v c ?_ h
    cases x with
    | none => exact ho
    | some p => simp only [okMem, Bool.and_eq_true] at ho; exact ho.2

theorem Fits.sub {μ0 : Nat → Nat} {m0 : Mem} {w0 : World} {N : Nat} {s S : Slots} {m M : Mem} {a : Act} {w : World} (h : Fits μ0 m0 w0 N s m a w) (hS : subL S s) (hM : memCut m M) {L : Nat} (hok : okB S M L = true) (hL : m0.length ≤ L) : Fits μ0 m0 w0 N S M a w := by
  obtain ⟨μ, hs, hr⟩ := h.fits
  have hg := memCut_get m M hM
  simp only [okB, Bool.and_eq_true] at hok
  obtain ⟨hok1, hok2, hok3⟩ := hok
  obtain rfl := beqN hok1
  refine ⟨μ, ⟨hs.size, hs.defers, fun t v hv => ?_⟩, ⟨⟨fun id u c hb => ?_, fun i j hi hj he => ?_, fun id u c hb i hi => ?_⟩, hL, hr.agree, fun id hid hsm => ?_, fun id hid hsm => ?_, hr.kept⟩⟩
  · obtain ⟨v', hv', he⟩ := subL_get S s hS t v hv
    exact ⟨by rw [← eqv_toVal μ v' v he]; exact (hs.val t v' hv').1, okSlots_get _ S t v hok2 hv⟩
  · obtain ⟨v, hv, he⟩ := hg id u c hb
    obtain ⟨t, ex, h1, h2⟩ := hr.mr.blk id v c hv
    rw [(eqv_flat μ v u he).1] at h1 h2
    exact ⟨t, ex, h1, h2⟩
  · have lift : ∀ i, (blockOf M i).isSome = true → (blockOf m i).isSome = true := fun i hi => by
      cases hb : blockOf M i with
      | none => rw [hb] at hi; cases hi
      | some p => obtain ⟨u, c⟩ := p; obtain ⟨v, hv, _⟩ := hg i u c hb; rw [hv]; rfl
    exact hr.mr.inj i j (lift i hi) (lift j hj) he
  · exact okMem_get _ M id u c hok3 hb i hi
  · refine hr.live id hid ?_
    cases hb : blockOf M id with
    | none => rw [hb] at hsm; cases hsm
    | some p => obtain ⟨u, c⟩ := p; obtain ⟨v, hv, _⟩ := hg id u c hb; rw [hv]; rfl
  · refine hr.fresh id (by have := hid; omega) ?_
    cases hb : blockOf M id with
    | none => rw [hb] at hsm; cases hsm
    | some p => obtain ⟨u, c⟩ := p; obtain ⟨v, hv, _⟩ := hg id u c hb; rw [hv]; rfl

theorem Fits.ren {μ0 : Nat → Nat} {m0 : Mem} {w0 : World} {N : Nat} {s S : Slots} {m M : Mem} {a : Act} {w : World} (h : Fits μ0 m0 w0 N s m a w) {own : Nat} {σ : Nat → Nat} (hR : RenTo own σ S M s m) (hO : m0.length ≤ own) (hL : own ≤ M.length) (hok : OkP S M) : Fits μ0 m0 w0 N S M a w := by
  obtain ⟨μ, hs, hr⟩ := h.fits
  have lift : ∀ i, (blockOf M i).isSome = true → (blockOf m (σ i)).isSome = true := fun i hi => by
    cases hb : blockOf M i with
    | none => rw [hb] at hi; cases hi
    | some p => obtain ⟨u, c⟩ := p; obtain ⟨_, v, hv, _⟩ := hR.blk i u c hb; rw [hv]; rfl
  refine ⟨fun i => μ (σ i), ⟨hs.size, hs.defers, fun t v hv => ?_⟩, ⟨⟨fun id u c hb => ?_, fun i j hi hj he => ?_, fun id u c hb => hok.blk id u c hb⟩, Nat.le_trans hO hL, fun id hid => ?_, fun id hid hsm => ?_, fun id hid hsm => ?_, hr.kept⟩⟩
  · obtain ⟨v', hv', he⟩ := hR.slot t v hv
    refine ⟨?_, hok.slot t v hv⟩
    rw [(hs.val t v' hv').1, eqv_toVal μ v' _ he, toVal_ren]
  · obtain ⟨_, v, hv, he⟩ := hR.blk id u c hb
    obtain ⟨t, ex, h1, h2⟩ := hr.mr.blk (σ id) v c hv
    rw [(eqv_flat μ v _ he).1, flat_ren] at h1 h2
    exact ⟨t, ex, h1, h2⟩
  · exact hR.inj i j hi hj (hr.mr.inj (σ i) (σ j) (lift i hi) (lift j hj) he)
  · show μ (σ id) = _
    rw [hR.fix id (by omega)]
    exact hr.agree id hid
  · have := lift id hsm
    rw [hR.fix id (by omega)] at this
    exact hr.live id hid this
  · refine hr.fresh (σ id) ?_ (lift id hsm)
    by_cases ho : id < own
    · rw [hR.fix id ho]; exact hid
    · cases hb : blockOf M id with
      | none => rw [hb] at hsm; cases hsm
      | some p => obtain ⟨u, c⟩ := p; exact Nat.le_trans hO ((hR.blk id u c hb).1 (by omega))

def exOf : Ex → Exit
  | .normal => .normal
  | .exit id => .exit id
  | .ret => .ret

theorem vc_sound {T : Tab} (hT : TabOK P T) (hE : TabEq P T) {μ0 : Nat → Nat} {m0 : Mem} {w0 : World} {N : Nat} (hO : m0.length ≤ T.own) : ∀ (c : Code) {s : Slots} {m : Mem} {a : Act} {w : World} {Q : Ex → Slots → Mem → Prop} {Q' : Exit → Act → World → Prop},
    Fits μ0 m0 w0 N s m a w → vc P T N c s m Q → (∀ e s' m' a' w', Fits μ0 m0 w0 N s' m' a' w' → Q e s' m' → Q' (exOf e) a' w') → c.wp P Q' a w := by
  intro c
  induction c with
  | skip => intro s m a w Q Q' hf h hq; exact wp_skip (hq .normal _ _ _ _ hf h)
  | ret => intro s m a w Q Q' hf h hq; exact wp_ret (hq .ret _ _ _ _ hf h)
  | exit id => intro s m a w Q Q' hf h hq; exact wp_exit (hq (.exit id) _ _ _ _ hf h)
  | seq x y ihx ihy =>
    intro s m a w Q Q' hf h hq
    refine wp_seq (ihx hf h fun e s' m' a' w' hf' hk => ?_)
    cases e with
    | normal => exact ihy hf' hk hq
    | exit id => exact hq (.exit id) _ _ _ _ hf' hk
    | ret => exact hq .ret _ _ _ _ hf' hk
  | cond c x y ihx ihy =>
    intro s m a w Q Q' hf h hq
    unfold vc at h
    split at h
    · rename_i t hc
      obtain ⟨μ, hs, hr⟩ := hf.fits
      have h1 := ev_sound hs hc
      cases t with
      | true => exact wp_cond_true h1.1 (ihx hf h hq)
      | false => exact wp_cond_false h1.1 (ihy hf h hq)
    · exact h.elim
  | block id c ih =>
    intro s m a w Q Q' hf h hq
    refine wp_block (ih hf h fun e s' m' a' w' hf' hk => ?_)
    cases e with
    | normal => exact hq .normal _ _ _ _ hf' hk
    | ret => exact hq .ret _ _ _ _ hf' hk
    | exit i =>
      simp only [exOf, Exit.inBlock]
      unfold blockQ at hk
      cases hb : Nat.beq i id with
      | true =>
        have := Nat.eq_of_beq_eq_true hb
        subst this
        rw [if_pos rfl]
        simp only [hb] at hk
        exact hq .normal _ _ _ _ hf' hk
      | false =>
        have hne : ¬ i = id := by rintro rfl; rw [Nat.beq_refl] at hb; cases hb
        rw [if_neg hne]
        simp only [hb] at hk
        exact hq (.exit i) _ _ _ _ hf' hk
  | loop c ih =>
    intro s m a w Q Q' hf h hq
    cases h with
    | rounds h =>
      obtain ⟨α, I, S, M, μ, L, hmL, ⟨x0, hI, hS, hM⟩, hr⟩ := h
      have hL : m0.length ≤ L := by obtain ⟨μ', _, hr'⟩ := hf.fits; exact Nat.le_trans hr'.len hmL
      refine wp_loop_rounds (μ x0 + 1) ?_
      have key : ∀ n x a w, μ x < n → I x → Fits μ0 m0 w0 N (S x) (M x) a w → Code.rounds P c Q' n a w := by
        intro n
        induction n with
        | zero => intro x a w h; omega
        | succ n ihn =>
          intro x a w hlt hx hf
          refine ih hf (hr x hx).2 fun e s' m' a' w' hf' hk => ?_
          cases e with
          | normal =>
            obtain ⟨x', h1, h2, h3, h4⟩ := hk
            exact ihn x' a' w' (by omega) h1 (hf'.sub h3 h4 (hr x' h1).1 hL)
          | exit id => exact hq (.exit id) _ _ _ _ hf' hk
          | ret => exact hq .ret _ _ _ _ hf' hk
      exact key (μ x0 + 1) x0 a w (by omega) hI (hf.sub hS hM (hr x0 hI).1 hL)
    | renamed h =>
      obtain ⟨α, I, S, M, μ, ⟨x0, σ0, hI, hR⟩, hr⟩ := h
      refine wp_loop_rounds (μ x0 + 1) ?_
      have key : ∀ n x a w, μ x < n → I x → Fits μ0 m0 w0 N (S x) (M x) a w → Code.rounds P c Q' n a w := by
        intro n
        induction n with
        | zero => intro x a w h; omega
        | succ n ihn =>
          intro x a w hlt hx hf
          refine ih hf (hr x hx).2.2 fun e s' m' a' w' hf' hk => ?_
          cases e with
          | normal =>
            obtain ⟨x', σ, h1, h2, h3⟩ := hk
            exact ihn x' a' w' (by omega) h1 (hf'.ren h3 hO (hr x' h1).1 (hr x' h1).2.1)
          | exit id => exact hq (.exit id) _ _ _ _ hf' hk
          | ret => exact hq .ret _ _ _ _ hf' hk
      exact key (μ x0 + 1) x0 a w (by omega) hI (hf.ren hR hO (hr x0 hI).1 (hr x0 hI).2.1)
  | scope c ih =>
    intro s m a w Q Q' hf h hq
    refine wp_scope_straight (ih hf h fun e s' m' a' w' hf' hk => ?_)
    cases e with
    | normal => exact hq .normal _ _ _ _ hf' hk
    | exit id => exact hq (.exit id) _ _ _ _ hf' hk
    | ret => exact hq .ret _ _ _ _ hf' hk
  | label l => intro s m a w Q Q' hf h hq; exact wp_label (hq .normal _ _ _ _ hf h)
  | region id ops draw =>
    intro s m a w Q Q' hf h hq
    cases draw with
    | true =>
      obtain ⟨n, h⟩ := h
      obtain ⟨μ, hs, hr⟩ := hf.fits
      cases hb : Nat.blt n 1000 with
      | false =>
        rw [hb] at h
        cases hb2 : Nat.blt n 2000 with
        | true =>
          rw [hb2] at h
          obtain ⟨hB, h⟩ := h
          exact late_sound hT hE hs hr hB h fun s' m' a' w' h1 h2 h3 => ops_sound hT hE hO _ ⟨μ, h1, h2⟩ h3 fun s' m' a' w' hf' hk => hq .normal _ _ _ _ hf' hk
        | false =>
          rw [hb2] at h
          cases hb3 : Nat.blt n 3000 with
          | true =>
            rw [hb3] at h
            obtain ⟨hB, h⟩ := h
            generalize n - 2000 = k at hB h
            exact lateC_sound (n := k) hT hE hs hr hB h fun μ' s' m' a' w' h1 h2 h3 => ops_sound hT hE hO _ ⟨μ', h1, h2⟩ h3 fun s' m' a' w' hf' hk => hq .normal _ _ _ _ hf' hk
          | false =>
           rw [hb3] at h
           cases hb4 : Nat.blt n 20000 with
           | false =>
            rw [hb4] at h
            cases hb6 : Nat.blt n 1000000 with
            | true =>
              rw [hb6] at h
              obtain ⟨hB, h⟩ := h
              generalize n - 20000 = p at hB h
              exact lateG_sound (p := p) hT hE hO hs hr hB h fun μ' s' m' a' w' h1 h2 h3 => ops_sound hT hE hO _ ⟨μ', h1, h2⟩ h3 fun s' m' a' w' hf' hk => hq .normal _ _ _ _ hf' hk
            | false =>
              rw [hb6] at h
              obtain ⟨hB, h⟩ := h
              generalize (n - 1000000) / 10000 = b at h
              generalize (n - 1000000) / 100 % 100 = k at hB h
              generalize (n - 1000000) % 100 = p at hB h
              exact lateP_sound (n := k) (p := p) (B := some b) hT hE hO hs hr hB h fun μ' s' m' a' w' h1 h2 h3 => ops_sound hT hE hO _ ⟨μ', h1, h2⟩ h3 fun s' m' a' w' hf' hk => hq .normal _ _ _ _ hf' hk
           | true =>
            rw [hb4] at h
            cases hb5 : Nat.blt n 10000 with
            | true =>
              rw [hb5] at h
              obtain ⟨hB, h⟩ := h
              generalize (n - 3000) / 100 = k at hB h
              generalize (n - 3000) % 100 = p at hB h
              exact lateA_sound (n := k) (p := p) hT hE hO hs hr hB h fun μ' s' m' a' w' h1 h2 h3 => ops_sound hT hE hO _ ⟨μ', h1, h2⟩ h3 fun s' m' a' w' hf' hk => hq .normal _ _ _ _ hf' hk
            | false =>
              rw [hb5] at h
              obtain ⟨hB, h⟩ := h
              generalize (n - 10000) / 100 = k at hB h
              generalize (n - 10000) % 100 = p at hB h
              exact lateP_sound (n := k) (p := p) (B := none) hT hE hO hs hr hB h fun μ' s' m' a' w' h1 h2 h3 => ops_sound hT hE hO _ ⟨μ', h1, h2⟩ h3 fun s' m' a' w' hf' hk => hq .normal _ _ _ _ hf' hk
      | true =>
      rw [hb] at h
      obtain ⟨hB, h⟩ := h
      exact draw_sound hT hE hs hr hB h fun μ' s' m' a' w' h1 h2 h3 => ops_sound hT hE hO _ ⟨μ', h1, h2⟩ h3 fun s' m' a' w' hf' hk => hq .normal _ _ _ _ hf' hk
    | false => exact wp_region_list (ops_sound hT hE hO ops.toList hf h fun s' m' a' w' hf' hk => hq .normal _ _ _ _ hf' hk)
  | _ => intro s m a w Q Q' hf h hq; exact h.elim

theorem result_sound {T : Tab} (hT : TabOK P T) (hE : TabEq P T) {N : Nat} {μ : Nat → Nat} {m : Mem} {s : Slots} {a : Act} {w : World} (hs : SRel N μ m.length s a) (hm : MR μ m w) {r : ResultVar} {K : SV → Prop} (h : resultVC T s m r K) :
    ∃ v, K v ∧ (∀ id ∈ v.ids, id < m.length) ∧ (match r with | .tmp t => a.tmps.getD t undef = toVal μ v | .cell ad t => ∃ x, a.tmps.getD ad undef = .pointer (some x) ∧ (loadVar t x).run P w = .ok (toVal μ v) w) := by
  cases r with
  | tmp t =>
    simp only [resultVC] at h
    split at h
    · rename_i v hv
      have := hs.val t v hv
      exact ⟨v, h, this.2, this.1⟩
    · exact h.elim
  | cell t ty =>
    simp only [resultVC] at h
    obtain ⟨v, hk, hi, hr⟩ := read_sound (o := { dst := none, op := .load ty (.tmp t), type := 0, pos := "", after := #[], guard := none }) hT hE hs hm h
    refine ⟨v, hk, hi, ?_⟩
    simp only [readVC] at h
    split at h
    · rename_i id path base off hx
      have h1 := ev_sound hs hx
      have h1' : a.tmps.getD t undef = .pointer (some ⟨μ id, base + off, none⟩) := h1.1
      simp only [execOp, Act.eval, h1', Instr.loadAt, Instr.sureAddr, Sem.run_bind, Sem.run_pure, Result.andThen_ok] at hr
      refine ⟨_, h1', ?_⟩
      cases hq : (loadVar ty ⟨μ id, base + off, none⟩).run P w with
      | ok x w' => rw [hq] at hr; simp at hr; rw [hr.1, hr.2]
      | halt x w' => rw [hq] at hr; simp [Result.andThen] at hr
    · exact h.elim
end Go.Proofs.YtjanlnngeklhoabGreat

/- Contracts of whole functions, out of the logic's condition on their bodies. -/
set_option linter.unusedVariables false
set_option linter.unusedSimpArgs false
namespace Go.Proofs.YtjanlnngeklhoabGreat
variable {P : Program}

theorem lk_slots0 : ∀ (l : List SV) (k t : Nat) (v : SV), lk (slots0 k l) t = some v → k ≤ t ∧ l[t - k]? = some v
  | [], k, t, v, h => by cases h
  | a :: r, k, t, v, h => by
    simp only [slots0, lk_cons] at h
    by_cases hk : k = t
    · subst hk
      rw [if_pos rfl] at h
      exact ⟨Nat.le_refl _, by simpa using h⟩
    · rw [if_neg hk] at h
      obtain ⟨h1, h2⟩ := lk_slots0 r (k + 1) t v h
      refine ⟨by omega, ?_⟩
      rw [show t - k = (t - (k + 1)) + 1 by omega]
      simpa using h2

theorem idsOf_mem : ∀ (l : List SV) (v : SV), v ∈ l → ∀ i ∈ v.ids, i ∈ idsOf l := fun l v hv i hi => mem_idsOf l v i hv hi

theorem tupVals_cons (μ : Nat → Nat) (a b : SV) (h : a.isTup = false) : toVal.tupVals μ (.tcons a b) = toVal μ a :: toVal.tupVals μ b := by
  cases a <;> first | rfl | cases h

theorem ret_sound {T : Tab} (hT : TabOK P T) (hE : TabEq P T) {μ0 : Nat → Nat} {m0 : Mem} {w0 : World} {N : Nat} {fn : Func} {s : Slots} {m : Mem} {a : Act} {w : World} {Q : SV → Mem → Prop} {e : Ex} (he : e = .normal ∨ e = .ret)
    (hf : Fits μ0 m0 w0 N s m a w) (h : retQ T fn.results.toList Q e s m) :
    ∃ μ v, Q v m ∧ (∀ i ∈ v.ids, i < m.length) ∧ RunS μ0 m0 w0 μ m w ∧ a.defers = [] ∧ (results fn a.tmps).run P w = .ok (toVal μ v) w := by
  obtain ⟨μ, hs, hr⟩ := hf.fits
  have h' : (match fn.results.toList with
    | [] => Q .tnil m
    | [r] => resultVC T s m r fun v => Q v m
    | [r1, r2] => resultVC T s m r1 fun a => resultVC T s m r2 fun b => chk (!a.isTup && !b.isTup) (Q (.tcons a (.tcons b .tnil)) m)
    | [r1, r2, r3] => resultVC T s m r1 fun a => resultVC T s m r2 fun b => resultVC T s m r3 fun c => chk (!a.isTup && !b.isTup && !c.isTup) (Q (.tcons a (.tcons b (.tcons c .tnil))) m)
    | _ => False) := by
    rcases he with rfl | rfl <;> exact h
  refine ⟨μ, ?_⟩
  split at h'
  · rename_i hl
    have hl' : fn.results = #[] := Array.toList_inj.1 hl
    exact ⟨_, h', by simp [SV.ids], hr, hs.defers, by simp [results, hl', toVal]⟩
  · rename_i r hl
    have hl' : fn.results = #[r] := Array.toList_inj.1 hl
    obtain ⟨v, hk, hi, hrun⟩ := result_sound hT hE hs hr.mr h'
    refine ⟨v, hk, hi, hr, hs.defers, ?_⟩
    simp only [results, hl']
    cases r with
    | tmp t => simp only at hrun; simp at hrun; simp [hrun]
    | cell t ty => obtain ⟨x, h1, h2⟩ := hrun; simp at h1; simp [Sem.run_bind, h1, asAddr, h2]
  · rename_i r1 r2 hl
    have hl' : fn.results = #[r1, r2] := Array.toList_inj.1 hl
    obtain ⟨v1, h', hi1, hrun1⟩ := result_sound hT hE hs hr.mr h'
    obtain ⟨v2, hck, hi2, hrun2⟩ := result_sound hT hE hs hr.mr h'
    obtain ⟨hb, hk⟩ := chk_iff.1 hck
    simp only [Bool.and_eq_true, Bool.not_eq_true'] at hb
    obtain ⟨g1, g2⟩ := hb
    refine ⟨_, hk, ?_, hr, hs.defers, ?_⟩
    · intro i hi
      simp only [SV.ids, List.mem_append, List.append_nil] at hi
      rcases hi with hi | hi
      · exact hi1 i hi
      · exact hi2 i hi
    · have e : toVal μ (.tcons v1 (.tcons v2 .tnil)) = .tuple #[toVal μ v1, toVal μ v2] := by
        show Value.tuple (toVal.tupVals μ (.tcons v1 (.tcons v2 .tnil))).toArray = _
        rw [tupVals_cons μ v1 _ g1, tupVals_cons μ v2 _ g2]
        rfl
      rw [e]
      simp only [results, hl']
      cases r1 with
      | tmp t1 => cases r2 with
        | tmp t2 => simp only at hrun1 hrun2; simp at hrun1 hrun2; simp [hrun1, hrun2]
        | cell t2 ty2 => obtain ⟨x, h1, h2⟩ := hrun2; simp only at hrun1; simp at hrun1 h1; simp [Sem.run_bind, hrun1, h1, asAddr, h2]
      | cell t1 ty1 => cases r2 with
        | tmp t2 => obtain ⟨x, h1, h2⟩ := hrun1; simp only at hrun2; simp at hrun2 h1; simp [Sem.run_bind, hrun2, h1, asAddr, h2]
        | cell t2 ty2 => obtain ⟨x, h1, h2⟩ := hrun1; obtain ⟨y, h3, h4⟩ := hrun2; simp at h1 h3; simp [Sem.run_bind, h1, asAddr, h2, h3, h4]
  · rename_i r1 r2 r3 hl
    have hl' : fn.results = #[r1, r2, r3] := Array.toList_inj.1 hl
    obtain ⟨v1, h', hi1, hrun1⟩ := result_sound hT hE hs hr.mr h'
    obtain ⟨v2, h', hi2, hrun2⟩ := result_sound hT hE hs hr.mr h'
    obtain ⟨v3, hck, hi3, hrun3⟩ := result_sound hT hE hs hr.mr h'
    obtain ⟨hb, hk⟩ := chk_iff.1 hck
    simp only [Bool.and_eq_true, Bool.not_eq_true'] at hb
    obtain ⟨⟨g1, g2⟩, g3⟩ := hb
    refine ⟨_, hk, ?_, hr, hs.defers, ?_⟩
    · intro i hi
      simp only [SV.ids, List.mem_append, List.append_nil] at hi
      rcases hi with hi | hi | hi
      · exact hi1 i hi
      · exact hi2 i hi
      · exact hi3 i hi
    · have e : toVal μ (.tcons v1 (.tcons v2 (.tcons v3 .tnil))) = .tuple #[toVal μ v1, toVal μ v2, toVal μ v3] := by
        show Value.tuple (toVal.tupVals μ (.tcons v1 (.tcons v2 (.tcons v3 .tnil)))).toArray = _
        rw [tupVals_cons μ v1 _ g1, tupVals_cons μ v2 _ g2, tupVals_cons μ v3 _ g3]
        rfl
      rw [e]
      simp only [results, hl']
      cases r1 with
      | tmp t1 =>
        cases r2 with
        | tmp t2 =>
          cases r3 with
          | tmp t3 =>
            simp only at hrun1; simp at hrun1; simp only at hrun2; simp at hrun2; simp only at hrun3; simp at hrun3; simp [Sem.run_bind, asAddr, hrun1, hrun2, hrun3]
          | cell a3 y3 =>
            simp only at hrun1; simp at hrun1; simp only at hrun2; simp at hrun2; obtain ⟨x3, p3, q3⟩ := hrun3; simp at p3; simp [Sem.run_bind, asAddr, hrun1, hrun2, p3, q3]
        | cell a2 y2 =>
          cases r3 with
          | tmp t3 =>
            simp only at hrun1; simp at hrun1; obtain ⟨x2, p2, q2⟩ := hrun2; simp at p2; simp only at hrun3; simp at hrun3; simp [Sem.run_bind, asAddr, hrun1, p2, q2, hrun3]
          | cell a3 y3 =>
            simp only at hrun1; simp at hrun1; obtain ⟨x2, p2, q2⟩ := hrun2; simp at p2; obtain ⟨x3, p3, q3⟩ := hrun3; simp at p3; simp [Sem.run_bind, asAddr, hrun1, p2, q2, p3, q3]
      | cell a1 y1 =>
        cases r2 with
        | tmp t2 =>
          cases r3 with
          | tmp t3 =>
            obtain ⟨x1, p1, q1⟩ := hrun1; simp at p1; simp only at hrun2; simp at hrun2; simp only at hrun3; simp at hrun3; simp [Sem.run_bind, asAddr, p1, q1, hrun2, hrun3]
          | cell a3 y3 =>
            obtain ⟨x1, p1, q1⟩ := hrun1; simp at p1; simp only at hrun2; simp at hrun2; obtain ⟨x3, p3, q3⟩ := hrun3; simp at p3; simp [Sem.run_bind, asAddr, p1, q1, hrun2, p3, q3]
        | cell a2 y2 =>
          cases r3 with
          | tmp t3 =>
            obtain ⟨x1, p1, q1⟩ := hrun1; simp at p1; obtain ⟨x2, p2, q2⟩ := hrun2; simp at p2; simp only at hrun3; simp at hrun3; simp [Sem.run_bind, asAddr, p1, q1, p2, q2, hrun3]
          | cell a3 y3 =>
            obtain ⟨x1, p1, q1⟩ := hrun1; simp at p1; obtain ⟨x2, p2, q2⟩ := hrun2; simp at p2; obtain ⟨x3, p3, q3⟩ := hrun3; simp at p3; simp [Sem.run_bind, asAddr, p1, q1, p2, q2, p3, q3]
  · exact h'.elim

theorem Spec.of_vc {T : Tab} (hT : TabOK P T) (hE : TabEq P T) {f : Nat} {fn : Func} {c : Code} {args : List SV} {m : Mem} {Q : SV → Mem → Prop} (hf : P.funcs[f]? = some fn) (hb : fn.body = some c)
    (hn : (fn.name == "runtime.NumGoroutine") = false) (hl : Nat.ble args.length fn.ntmps = true) (hd : ((idsOf args).all fun i => Nat.blt i m.length) = true)
    (h : vc P { T with own := m.length } fn.ntmps c (slots0 0 args) m (retQ { T with own := m.length } fn.results.toList Q)) : Spec P f args m Q := by
  replace hT := hT.owns m.length
  replace hE := hE.owns m.length
  have hn' : ¬ fn.name = "runtime.NumGoroutine" := by simpa using hn
  have hlen := Nat.le_of_ble_eq_true hl
  have hids : ∀ i ∈ idsOf args, i < m.length := fun i hi => by simpa [Nat.blt_eq] using List.all_eq_true.1 hd i hi
  refine ⟨fun as w => by simp [callFunc, Sem.run_bind, program, Sem.run, hf, hn', hb], fun μ w hm => ?_⟩
  refine calls_of_wp hf hb ?_
  have hfits : Fits μ m w fn.ntmps (slots0 0 args) m { tmps := (args.map (toVal μ)).toArray ++ Array.replicate (fn.ntmps - (args.map (toVal μ)).toArray.size) undef, defers := [] } w := by
    refine ⟨μ, ⟨by simp; omega, rfl, fun t v hv => ?_⟩, RunS.start hm⟩
    obtain ⟨_, hv⟩ := lk_slots0 args 0 t v hv
    simp only [Nat.sub_zero] at hv
    have hlt : t < args.length := (List.getElem?_eq_some_iff.1 hv).1
    refine ⟨?_, fun i hi => hids i (mem_idsOf args v i (List.mem_of_getElem? hv) hi)⟩
    rw [Array.getD_eq_getD_getElem?, Array.getElem?_append_left (by simpa using hlt)]
    simp [hv]
  refine vc_sound hT hE (Nat.le_refl _) c hfits h fun e s' m' a' w' hf' hk => ?_
  have fin : e = .normal ∨ e = .ret → bodyPost P fn (fun e w' => ∃ μ' r m', e = .returned (toVal μ' r) ∧ Q r m' ∧ (∀ i ∈ r.ids, i < m'.length) ∧ (∀ id, id < m.length → μ' id = μ id) ∧ m.length ≤ m'.length ∧ (∀ id, m.length ≤ id → (blockOf m' id).isSome = true → w.heap.size ≤ μ' id) ∧ MR μ' m' w' ∧ Kept μ m w w') (exOf e) a' w' := fun he => by
    obtain ⟨μ', v, hq, hi, hr, hd, hrun⟩ := ret_sound hT hE he hf' hk
    have : a'.defers = [] ∧ ∃ x, (results fn a'.tmps).run P w' = .ok x w' ∧ (∃ μ' r m', Ending.returned x = .returned (toVal μ' r) ∧ Q r m' ∧ (∀ i ∈ r.ids, i < m'.length) ∧ (∀ id, id < m.length → μ' id = μ id) ∧ m.length ≤ m'.length ∧ (∀ id, m.length ≤ id → (blockOf m' id).isSome = true → w.heap.size ≤ μ' id) ∧ MR μ' m' w' ∧ Kept μ m w w') :=
      ⟨hd, _, hrun, μ', v, m', rfl, hq, hi, hr.agree, hr.len, hr.fresh, hr.mr, hr.kept⟩
    rcases he with rfl | rfl <;> exact this
  cases e with
  | normal => exact fin (.inl rfl)
  | ret => exact fin (.inr rfl)
  | exit id => exact hk.elim

theorem Spec.mono {f : Nat} {args : List SV} {m : Mem} {Q R : SV → Mem → Prop} (h : Spec P f args m R) (hq : ∀ r m', R r m' → Q r m') : Spec P f args m Q :=
  ⟨h.enters, fun μ w hm => (h.run μ w hm).mono fun e w' ⟨μ', r, m', h1, h2, h3⟩ => ⟨μ', r, m', h1, hq r m' h2, h3⟩⟩

theorem ifVC_split {b : Bool} {X Y : Prop} (hx : b = true → X) (hy : b = false → Y) : ifVC b X Y := by
  cases b
  · exact hy rfl
  · exact hx rfl
theorem ifVC_true {b : Bool} {X Y : Prop} (h : b = true) (hx : X) : ifVC b X Y := by subst h; exact hx
theorem ifVC_false {b : Bool} {X Y : Prop} (h : b = false) (hy : Y) : ifVC b X Y := by subst h; exact hy

theorem LoopVC.of {own : Nat} {body : Slots → Mem → (Ex → Slots → Mem → Prop) → Prop} {Q : Ex → Slots → Mem → Prop} {s : Slots} {m : Mem} {α : Type} (I : α → Prop) (S : α → Slots) (M : α → Mem) (μ : α → Nat) (x0 : α) (h0 : I x0)
    (hs : subL (S x0) s) (hm : memCut m (M x0)) (step : ∀ x, I x → body (S x) (M x) (thenQ (fun s' m' => ∃ x', I x' ∧ μ x' < μ x ∧ subL (S x') s' ∧ memCut m' (M x')) Q)) (hok : ∀ x, I x → okB (S x) (M x) m.length = true := by intros; rfl) : LoopVC own body Q s m :=
  .rounds ⟨α, I, S, M, μ, m.length, Nat.le_refl _, ⟨x0, h0, hs, hm⟩, fun x hx => ⟨hok x hx, step x hx⟩⟩
/-- the same, with room for more blocks: L of them -/
theorem LoopVC.ofL {own : Nat} {body : Slots → Mem → (Ex → Slots → Mem → Prop) → Prop} {Q : Ex → Slots → Mem → Prop} {s : Slots} {m : Mem} {α : Type} (L : Nat) (I : α → Prop) (S : α → Slots) (M : α → Mem) (μ : α → Nat) (x0 : α) (h0 : I x0)
    (hs : subL (S x0) s) (hm : memCut m (M x0)) (step : ∀ x, I x → body (S x) (M x) (thenQ (fun s' m' => ∃ x', I x' ∧ μ x' < μ x ∧ subL (S x') s' ∧ memCut m' (M x')) Q)) (hL : Nat.ble m.length L = true := by rfl) (hok : ∀ x, I x → okB (S x) (M x) L = true := by intros; rfl) : LoopVC own body Q s m :=
  .rounds ⟨α, I, S, M, μ, L, Nat.le_of_ble_eq_true hL, ⟨x0, h0, hs, hm⟩, fun x hx => ⟨hok x hx, step x hx⟩⟩

/-- the same, where blocks may have other numbers after a round -/
theorem LoopVC.ofR {own : Nat} {body : Slots → Mem → (Ex → Slots → Mem → Prop) → Prop} {Q : Ex → Slots → Mem → Prop} {s : Slots} {m : Mem} {α : Type} (I : α → Prop) (S : α → Slots) (M : α → Mem) (μ : α → Nat) (x0 : α) (h0 : I x0) (σ0 : Nat → Nat)
    (hR : RenTo own σ0 (S x0) (M x0) s m) (hL : ∀ x, I x → own ≤ (M x).length) (hok : ∀ x, I x → OkP (S x) (M x))
    (step : ∀ x, I x → body (S x) (M x) (thenQ (fun s' m' => ∃ x' σ, I x' ∧ μ x' < μ x ∧ RenTo own σ (S x') (M x') s' m') Q)) : LoopVC own body Q s m :=
  .renamed ⟨α, I, S, M, μ, ⟨x0, σ0, h0, hR⟩, fun x hx => ⟨hL x hx, hok x hx, step x hx⟩⟩

/-- a result and blocks that are equal as the model has them -/
theorem Spec.eqv {f : Nat} {args : List SV} {m : Mem} {v : SV} {M : Mem} (h : Spec P f args m fun r m' => r.eqv v ∧ memEqv m' M) : Spec P f args m fun r m' => r = v ∧ m' = M := by
  refine ⟨h.enters, fun μ w hm => (h.run μ w hm).mono ?_⟩
  rintro e w' ⟨μ', r, m', rfl, ⟨hr, hM⟩, hi, ha, hl, hf, hmr, hk⟩
  obtain ⟨l, g⟩ := memEqv_get m' M hM
  have lift : ∀ i, (blockOf M i).isSome = true → (blockOf m' i).isSome = true := fun i hi => by
    cases hb : blockOf M i with
    | none => rw [hb] at hi; cases hi
    | some p => obtain ⟨u, c⟩ := p; obtain ⟨v, hv, _⟩ := g i u c hb; rw [hv]; rfl
  refine ⟨μ', v, M, by rw [eqv_toVal μ' r v hr], ⟨rfl, rfl⟩, fun i hi' => ?_, ha, by omega, fun id hid hs => hf id hid (lift id hs), ⟨fun id u c hb => ?_, fun i j hi hj he => hmr.inj i j (lift i hi) (lift j hj) he, fun id u c hb i hi' => ?_⟩, hk⟩
  · rw [← (eqv_flat μ' r v hr).2] at hi'; have := hi i hi'; omega
  · obtain ⟨u', hu, he⟩ := g id u c hb
    obtain ⟨t, ex, h1, h2⟩ := hmr.blk id u' c hu
    rw [(eqv_flat μ' u' u he).1] at h1 h2
    exact ⟨t, ex, h1, h2⟩
  · obtain ⟨u', hu, he⟩ := g id u c hb
    rw [← (eqv_flat μ' u' u he).2] at hi'
    have := hmr.ids id u' c hu i hi'
    omega
theorem blockOf_take : ∀ (m : Mem) (k id : Nat), (blockOf (m.take k) id).isSome = true → id < k ∧ blockOf (m.take k) id = blockOf m id
  | [], k, id, h => by simp [blockOf] at h
  | x :: r, 0, id, h => by simp [blockOf] at h
  | x :: r, k + 1, 0, h => ⟨by omega, rfl⟩
  | x :: r, k + 1, id + 1, h => by
    simp only [List.take_succ_cons, blockOf] at h ⊢
    have := blockOf_take r k id h
    exact ⟨by omega, this.2⟩

/-- a result and blocks that are equal as the model has them, the later blocks forgotten -/
theorem Spec.cut {f : Nat} {args : List SV} {m : Mem} {v : SV} {M : Mem} (hl : m.length ≤ M.length) (hv : ∀ i ∈ v.ids, i < M.length) (hMi : ∀ id u c, blockOf M id = some (u, c) → ∀ i ∈ u.ids, i < M.length)
    (h : Spec P f args m fun r m' => r.eqv v ∧ memEqv (m'.take M.length) M) : Spec P f args m fun r m' => r = v ∧ m' = M := by
  refine ⟨h.enters, fun μ w hm => (h.run μ w hm).mono ?_⟩
  rintro e w' ⟨μ', r, m', rfl, ⟨hr, hM⟩, hi, ha, hl', hf, hmr, hk⟩
  obtain ⟨l, g⟩ := memEqv_get _ M hM
  have lift : ∀ i, (blockOf M i).isSome = true → (blockOf m' i).isSome = true := fun i hi => by
    cases hb : blockOf M i with
    | none => rw [hb] at hi; cases hi
    | some p =>
      obtain ⟨u, c⟩ := p
      obtain ⟨x, hx, _⟩ := g i u c hb
      have := (blockOf_take m' M.length i (by rw [hx]; rfl)).2
      rw [← this, hx]; rfl
  refine ⟨μ', v, M, by rw [eqv_toVal μ' r v hr], ⟨rfl, rfl⟩, hv, ha, hl, fun id hid hs => hf id hid (lift id hs), ⟨fun id u c hb => ?_, fun i j hi hj he => hmr.inj i j (lift i hi) (lift j hj) he, hMi⟩, hk⟩
  obtain ⟨x, hx, he⟩ := g id u c hb
  have hx' := (blockOf_take m' M.length id (by rw [hx]; rfl)).2
  rw [hx] at hx'
  obtain ⟨t, ex, h1, h2⟩ := hmr.blk id x c hx'.symm
  rw [(eqv_flat μ' x u he).1] at h1 h2
  exact ⟨t, ex, h1, h2⟩

/-- what is returned, over no blocks -/
abbrev Ret (v : SV) : SV → Mem → Prop := fun r m => r = v ∧ m = []
theorem Spec.ret {f : Nat} {args : List SV} {v : SV} (hv : v.ids = []) (h : Spec P f args [] fun r _ => r.eqv v) : Spec P f args [] (Ret v) :=
  Spec.cut (Nat.le_refl _) (by rw [hv]; simp) (fun id u c hb => by cases hb) (h.mono fun r m' hr => ⟨hr, by simp [memEqv]⟩)

/-- a contract of the walks' kind, for a function that leaves the world alone -/
theorem Spec.of_same {f : Nat} {fn : Func} {c : Code} {args : List SV} {v : SV} (hf : P.funcs[f]? = some fn) (hb : fn.body = some c) (hn : (fn.name == "runtime.NumGoroutine") = false) (hv : v.ids = [])
    (h : ∀ μ w, Calls P f (args.map (toVal μ)).toArray w fun e w' => e = .returned (toVal μ v) ∧ w = w') : Spec P f args [] (Ret v) := by
  have hn' : ¬ fn.name = "runtime.NumGoroutine" := by simpa using hn
  refine ⟨fun as w => by simp [callFunc, Sem.run_bind, program, Sem.run, hf, hn', hb], fun μ w hm => (h μ w).mono ?_⟩
  rintro e w' ⟨rfl, rfl⟩
  exact ⟨μ, v, [], rfl, ⟨rfl, rfl⟩, by rw [hv]; simp, fun _ _ => rfl, Nat.le_refl _, fun id _ hs => (by cases hs), hm, Kept.refl _ _ _⟩

/-- what is returned stands on at most one new block, which is called the block 0 -/
theorem Spec.single {f : Nat} {args : List SV} {Q R : SV → Mem → Prop} (h : Spec P f args [] Q)
    (hq : ∀ r m', Q r m' → (R r [] ∧ r.ids = []) ∨ ∃ id v c, blockOf m' id = some (v, c) ∧ v.ids = [] ∧ (∀ j ∈ r.ids, j = id) ∧ R (r.ren fun _ => 0) [some (v, c)]) : Spec P f args [] R := by
  refine ⟨h.enters, fun μ w hm => (h.run μ w hm).mono ?_⟩
  rintro e w' ⟨μ', r, m', rfl, hQ, hi, ha, hl', hf, hmr, hk⟩
  rcases hq r m' hQ with ⟨hR, hids⟩ | ⟨id, v, c, hb, hv, hr, hR⟩
  · exact ⟨μ', r, [], rfl, hR, by rw [hids]; simp, fun id hid => ha id hid, Nat.le_refl _, fun id _ hs => (by cases hs), MR.nil μ' w', hk⟩
  · refine ⟨fun _ => μ' id, r.ren fun _ => 0, [some (v, c)], ?_, hR, fun i hi' => ?_, fun i hi' => (by cases hi'), Nat.zero_le _, fun i _ hs => ?_, ⟨fun i u k hu => ?_, fun i j hi' hj _ => ?_, fun i u k hu j hj => ?_⟩, hk⟩
    · rw [toVal_ren]
      exact congrArg Ending.returned (toVal_ids r fun i hi' => by rw [hr i hi'])
    · rw [ids_ren] at hi'
      simp only [List.mem_map] at hi'
      obtain ⟨_, _, rfl⟩ := hi'
      simp
    · exact hf id (Nat.zero_le _) (by rw [hb]; rfl)
    · cases i with
      | zero =>
        cases hu
        obtain ⟨t, ex, h1, h2⟩ := hmr.blk id v c hb
        have e : flat (fun _ => μ' id) v = flat μ' v := flat_ids v (by rw [hv]; intro i hi'; cases hi')
        exact ⟨t, ex, by rw [e]; exact h1, by rw [e]; exact h2⟩
      | succ i => cases hu
    · cases i with
      | zero =>
        cases j with
        | zero => rfl
        | succ j => cases hj
      | succ i => cases hi'
    · cases i with
      | zero => cases hu; rw [hv] at hj; cases hj
      | succ i => cases hu
end Go.Proofs.YtjanlnngeklhoabGreat

/- Comparisons: rows of numbers, bools, slices against nil. -/
set_option linter.unusedVariables false
set_option linter.unusedSimpArgs false
namespace Go.Proofs.YtjanlnngeklhoabGreat
variable {P : Program}

theorem allEq_iff (n : Nat) (v u : Nat → Int) : allEq n v u = true ↔ ∀ i, i < n → v i = u i := by
  simp [allEq]

theorem run_forIn_all {f : Nat → Sem (ForInStep (Option Bool × Unit))} {p : Nat → Bool} (w : World) : ∀ (l : List Nat), (∀ i ∈ l, (f i).run P w = .ok (if p i then .yield (none, ()) else .done (some false, ())) w) →
    (forIn l ((none, ()) : Option Bool × Unit) (fun i _ => f i)).run P w = .ok (if l.all p then (none, ()) else (some false, ())) w
  | [], _ => by simp
  | i :: r, h => by
    have h1 := h i (by simp)
    have ih := run_forIn_all w r (fun j hj => h j (by simp [hj]))
    simp only [List.forIn_cons, Sem.run_bind, h1, Result.andThen_ok]
    by_cases hp : p i = true
    · simp only [hp, if_true, List.all_cons, Bool.true_and]; exact ih
    · simp [hp]

theorem allEq_split (len m : Nat) (v u : Nat → Int) : allEq (len * m) v u = (List.range len).all fun i => allEq m (fun j => v (j + i * m)) (fun j => u (j + i * m)) := by
  rw [Bool.eq_iff_iff, allEq_iff]
  simp only [List.all_eq_true, List.mem_range, allEq_iff]
  constructor
  · intro h i hi j hj
    refine h _ ?_
    have : i * m + m ≤ len * m := by rw [← Nat.succ_mul]; exact Nat.mul_le_mul_right _ hi
    omega
  · intro h i hi
    have hm : 0 < m := Nat.pos_of_ne_zero (by rintro rfl; simp at hi)
    have h1 : i / m < len := (Nat.div_lt_iff_lt_mul hm).2 hi
    have := h (i / m) h1 (i % m) (Nat.mod_lt _ hm)
    have e : i % m + i / m * m = i := by rw [Nat.mul_comm]; exact Nat.mod_add_div i m
    rw [e] at this
    exact this

theorem range_all (n : Nat) : List.range' [:n].start [:n].size [:n].step = List.range n := by
  simp [List.range_eq_range', Std.Legacy.Range.size]

theorem run_rows {e : TypeId} {m len fuel : Nat} {xs ys : Array Value} {p : Nat → Bool} (w : World)
    (h : ∀ i, i < len → ∃ x y, (part e xs (i * m)).run P w = .ok x w ∧ (part e ys (i * m)).run P w = .ok y w ∧ (Op.equalIn fuel e x y).run P w = .ok (p i) w) {t : TypeId} (ht : P.underlying t = some (.array len e)) (hs : (P.info? e).map (·.size) = some m) :
    (Op.equalIn (fuel + 1) t (.agg xs) (.agg ys)).run P w = .ok ((List.range len).all p) w := by
  have hsz := run_sizeOf_of (P := P) hs w
  unfold Op.equalIn
  simp only [Sem.run_bind, run_underlying ht w, Result.andThen_ok, hsz]
  rw [Std.Legacy.Range.forIn_eq_forIn_range', range_all]
  have := run_forIn_all (P := P) (p := p) (f := fun i => do
      if !(← Op.equalIn fuel e (← part e xs (i * m)) (← part e ys (i * m))) then pure (.done (some false, ())) else pure (.yield (none, ()))) w (List.range len) (fun i hi => by
    obtain ⟨x, y, h1, h2, h3⟩ := h i (List.mem_range.1 hi)
    simp only [Sem.run_bind, h1, h2, h3, Result.andThen_ok]
    by_cases hp : p i = true
    · simp [hp]
    · simp [hp])
  rw [this]
  by_cases hall : (List.range len).all p = true
  · simp only [hall, if_true, Result.andThen_ok, Sem.run_pure]
  · simp only [Bool.not_eq_true] at hall
    simp only [hall, Bool.false_eq_true, if_false, Result.andThen_ok, Sem.run_pure]

theorem run_equal_row {t : TypeId} {k : IntKind} {n d : Nat} (h : RowT P t k n d) : ∀ (fuel : Nat), d < fuel → ∀ (μ : Nat → Nat) (q : IntKind) (v u : Nat → Int) (w : World),
    (Op.equalIn fuel t (.agg (flat μ (.ints q n v)).toArray) (.agg (flat μ (.ints q n u)).toArray)).run P w = .ok (allEq n v u) w := by
  induction h with
  | @one t e k len h he hs =>
    intro fuel hf μ q v u w
    obtain ⟨fuel, rfl⟩ : ∃ g, fuel = g + 2 := ⟨fuel - 2, by omega⟩
    have ha := run_isAgg_of (P := P) he w
    have hpart : ∀ (x : Nat → Int) i, i < len → (part e (flat μ (.ints q len x)).toArray (i * 1)).run P w = .ok (.int q (x i)) w := fun x i hi => by
      have hg : (flat μ (.ints q len x)).toArray[i * 1]? = some (.int q (x i)) := by rw [List.getElem?_toArray, Nat.mul_one]; exact flat_ints_get μ q len x i hi
      simp only [part, Sem.run_bind, ha, Result.andThen_ok, Bool.false_eq_true, if_false, hg]
      rfl
    exact run_rows (P := P) (p := fun i => v i == u i) w (fun i hi => ⟨_, _, hpart v i hi, hpart u i hi, run_equalIn_int w fuel e q k (v i) (u i) he⟩) h hs
  | @more t e k len m d h he hs ih =>
    intro fuel hf μ q v u w
    obtain ⟨fuel, rfl⟩ : ∃ g, fuel = g + 1 := ⟨fuel - 1, by omega⟩
    obtain ⟨x, hx, hrow⟩ := he.row
    have ha := run_isAgg_of (P := P) hx w
    rw [hrow] at ha
    have hsz := run_sizeOf_of (P := P) hs w
    have hpart : ∀ (x : Nat → Int) i, i < len → (part e (flat μ (.ints q (len * m) x)).toArray (i * m)).run P w = .ok (.agg (flat μ (.ints q m fun j => x (j + i * m))).toArray) w := fun x i hi => by
      have hle : i * m + m ≤ len * m := by rw [← Nat.succ_mul]; exact Nat.mul_le_mul_right _ hi
      have hx := extract_ints μ q (len * m) (i * m) m x hle
      simp only [part, Sem.run_bind, ha, Result.andThen_ok, if_true, hsz, hx]
      rfl
    rw [allEq_split]
    exact run_rows (P := P) w (fun i hi => ⟨_, _, hpart v i hi, hpart u i hi, ih fuel (by omega) μ q _ _ w⟩) h hs

theorem cmpRun_agg {t : Nat} (hg : P.eqGuardType P.depth t = false) (X Y : Operand) (xs ys : Array Value) {b : Bool} {w : World} (h : (Op.equal t (.agg xs) (.agg ys)).run P w = .ok b w) :
    cmpRun P .eql t X Y (.agg xs) (.agg ys) w = .ok (.bool b) w ∧ cmpRun P .neq t X Y (.agg xs) (.agg ys) w = .ok (.bool (!b)) w := by
  have g := fun op => run_eqGuard_agg (P := P) w op t X Y xs ys hg
  constructor
  · unfold cmpRun
    simp only [Sem.run_bind, g, Result.andThen_ok, Go.binOp, h, Sem.run_pure]
  · unfold cmpRun
    simp only [Sem.run_bind, g, Result.andThen_ok, Go.binOp, h, Sem.run_pure]

theorem EqOK.row {T : Tab} {t : TypeId} {k : IntKind} {n d : Nat} (h : RowT P t k n d) (hd : d < 10000) (hg : P.eqGuardType P.depth t = false) (hti : (T.ti t).agg = some n) : EqOK P T t := by
  refine ⟨fun X Y a b w hs => ?_, fun X Y μ k' n' v u w hn => ?_, fun X Y a b c w es hs => ?_⟩
  · rw [hs] at hti; cases hti
  · rw [hti] at hn
    cases hn
    exact cmpRun_agg hg X Y _ _ (run_equal_row h 10000 hd μ k' v u w)
  · rw [hs] at hti; cases hti

theorem EqOK.bool {T : Tab} {t : TypeId} (h : P.underlying t = some .bool) (hti : T.ti t = .scalar) : EqOK P T t := by
  refine ⟨fun X Y a b w hs => ?_, fun X Y μ k' n' v u w hn => ?_, fun X Y a b c w es hs => ?_⟩
  · have : (Op.equalIn 10000 t (.bool a) (.bool b)).run P w = .ok (a == b) w := run_equalIn_bool' (P := P) w 9999 t a b h
    constructor
    · unfold cmpRun
      simp only [eqGuard, Sem.run_bind, Go.binOp, Op.equal, Op.maxDepth]
      simp [this]
    · unfold cmpRun
      simp only [eqGuard, Sem.run_bind, Go.binOp, Op.equal, Op.maxDepth]
      simp [this]
  · rw [hti] at hn; cases hn
  · rw [hti] at hs; cases hs

theorem equalIn_sl1 {t e : TypeId} (h : P.underlying t = some (.slice e)) (d : Nat) (a : Addr) (b c : Nat) (w : World) : (Op.equalIn (d + 1) t (.slice (some a) b c) (.slice none 0 0)).run P w = .ok false w := by
  simp [Op.equalIn, Sem.run_bind, run_underlying h w]
theorem equalIn_sl2 {t e : TypeId} (h : P.underlying t = some (.slice e)) (d : Nat) (w : World) : (Op.equalIn (d + 1) t (.slice none 0 0) (.slice none 0 0)).run P w = .ok true w := by
  simp [Op.equalIn, Sem.run_bind, run_underlying h w]

theorem EqOK.slice {T : Tab} {t e : TypeId} {es : Nat} (h : P.underlying t = some (.slice e)) (hti : T.ti t = .slice es) : EqOK P T t := by
  refine ⟨fun X Y a b w hs => ?_, fun X Y μ k' n' v u w hn => ?_, fun X Y a b c w es hs => ?_⟩
  · rw [hti] at hs; cases hs
  · rw [hti] at hn; cases hn
  · have e1 : (Op.equalIn 10000 t (.slice (some a) b c) (.slice none 0 0)).run P w = .ok false w := equalIn_sl1 h 9999 a b c w
    have e2 : (Op.equalIn 10000 t (.slice none 0 0) (.slice none 0 0)).run P w = .ok true w := equalIn_sl2 h 9999 w
    refine ⟨?_, ?_, ?_, ?_⟩
    · unfold cmpRun
      simp only [eqGuard, Sem.run_bind, Go.binOp, Op.equal, Op.maxDepth]
      simp [e1]
    · unfold cmpRun
      simp only [eqGuard, Sem.run_bind, Go.binOp, Op.equal, Op.maxDepth]
      simp [e1]
    · unfold cmpRun
      simp only [eqGuard, Sem.run_bind, Go.binOp, Op.equal, Op.maxDepth]
      simp [e2]
    · unfold cmpRun
      simp only [eqGuard, Sem.run_bind, Go.binOp, Op.equal, Op.maxDepth]
      simp [e2]

/-! ### structs -/
theorem eqFields_sound {o : Nat} {fs : List Field} {ks : List FK} (h : FldsT P o fs ks) (μ : Nat → Nat) (w : World) : ∀ (v u : SV) (p q : List Value), p.length = o → q.length = o → fitsF ks v = true → fitsF ks u = true →
    (Op.eqFields 9999 (p ++ flat μ v).toArray (q ++ flat μ u).toArray fs).run P w = .ok (eqP v u) w := by
  induction h with
  | nil =>
    intro v u p q hp hq hv hu
    obtain rfl := fits_nil hv
    obtain rfl := fits_nil hu
    simp [Op.eqFields, eqP]
  | @int o f fs ks k hn ho hty hs r ih =>
    intro v u p q hp hq hv hu
    obtain ⟨x, b, rfl, hb⟩ := fits_int hv
    obtain ⟨y, c, rfl, hc⟩ := fits_int hu
    have h1 := part_int hty p (flat μ b) (.int k x) o hp w
    have h2 := part_int hty q (flat μ c) (.int k y) o hq w
    have h3 := run_equalIn_int (P := P) w 9998 f.type k k x y hty
    have ih := ih b c (p ++ [.int k x]) (q ++ [.int k y]) (by simp [hp]) (by simp [hq]) hb hc
    simp only [List.append_assoc, List.singleton_append] at ih
    have e1 : flat μ (.pair (.int k x) b) = .int k x :: flat μ b := rfl
    have e2 : flat μ (.pair (.int k y) c) = .int k y :: flat μ c := rfl
    rw [e1, e2]
    unfold Op.eqFields
    rw [if_pos hn, ho]
    simp only [Sem.run_bind, h1, h2, h3, Result.andThen_ok]
    by_cases hxy : x = y
    · subst hxy
      simp only [beq_self_eq_true, Bool.not_true, Bool.false_eq_true, if_false, ih, eqP, Bool.true_and]
    · have : (x == y) = false := by simpa using hxy
      simp only [this, Bool.not_false, if_true, Sem.run_pure, eqP, Bool.false_and]
  | @row o n d f fs ks k hn ho hr hd hs r ih =>
    intro v u p q hp hq hv hu
    obtain ⟨x, b, rfl, hb⟩ := fits_row hv
    obtain ⟨y, c, rfl, hc⟩ := fits_row hu
    have h1 := part_row hr hs p (flat μ (.ints k n x)) (flat μ b) o hp (by simp [flat]) w
    have h2 := part_row hr hs q (flat μ (.ints k n y)) (flat μ c) o hq (by simp [flat]) w
    have h3 := run_equal_row hr 9999 hd μ k x y w
    have ih := ih b c (p ++ flat μ (.ints k n x)) (q ++ flat μ (.ints k n y)) (by simp [hp, flat]) (by simp [hq, flat]) hb hc
    simp only [List.append_assoc] at ih
    have e1 : flat μ (.pair (.ints k n x) b) = flat μ (.ints k n x) ++ flat μ b := rfl
    have e2 : flat μ (.pair (.ints k n y) c) = flat μ (.ints k n y) ++ flat μ c := rfl
    rw [e1, e2]
    unfold Op.eqFields
    rw [if_pos hn, ho]
    simp only [Sem.run_bind, h1, h2, h3, Result.andThen_ok]
    cases hxy : allEq n x y with
    | true => simp only [Bool.not_true, Bool.false_eq_true, if_false, ih, eqP, hxy, Bool.true_and]
    | false => simp only [Bool.not_false, if_true, Sem.run_pure, eqP, hxy, Bool.false_and]
  | slice => intro v u p q hp hq hv hu; exact (fits_slice hv).elim
  | scal => intro v u p q hp hq hv hu; exact (fits_scal hv).elim
  | agg => intro v u p q hp hq hv hu; exact (fits_agg' hv).elim

theorem PairOK.slice {t : TypeId} : ∀ {ks : List FK}, (ks.any fun k => match k with | .slice | .scal => true | _ => false) = true → ∀ v, fitsF ks v = false
  | [], h => by simp at h
  | .slice :: r, _ => fun v => by cases hv : fitsF (.slice :: r) v with | false => rfl | true => exact (fits_slice hv).elim
  | .scal :: r, _ => fun v => by cases hv : fitsF (.scal :: r) v with | false => rfl | true => exact (fits_scal hv).elim
  | .agg n :: r, _ => fun v => by cases hv : fitsF (.agg n :: r) v with | false => rfl | true => exact (fits_agg' hv).elim
  | .int k :: r, h => fun v => by
    cases hv : fitsF (.int k :: r) v with
    | false => rfl
    | true => obtain ⟨x, b, rfl, hb⟩ := fits_int hv; rw [PairOK.slice (t := t) (ks := r) (by simpa using h)] at hb; cases hb
  | .row k n :: r, h => fun v => by
    cases hv : fitsF (.row k n :: r) v with
    | false => rfl
    | true => obtain ⟨x, b, rfl, hb⟩ := fits_row hv; rw [PairOK.slice (t := t) (ks := r) (by simpa using h)] at hb; cases hb
theorem PairOK.none {t : TypeId} {ks : List FK} (h : (ks.any fun k => match k with | .slice | .scal => true | _ => false) = true) : PairOK P t ks := by
  intro X Y μ a b c d w h1 h2
  rw [PairOK.slice (t := t) h] at h1
  cases h1

theorem PairOK.of {t : TypeId} {fs : Array Field} {ks : List FK} (h : P.underlying t = some (.struct fs)) (hf : FldsT P 0 fs.toList ks) (hs : P.stoodInHeld t = false) (hg : P.eqGuardType P.depth t = false) : PairOK P t ks := by
  intro X Y μ a b c d w h1 h2
  have hfo : P.fieldsOf t = fs := by simp [Program.fieldsOf, h]
  have hu : P.underlying t = some (.struct (P.fieldsOf t)) := by rw [hfo, h]
  have e : (Op.equal t (.agg (flat μ (.pair a b)).toArray) (.agg (flat μ (.pair c d)).toArray)).run P w = .ok (eqP (.pair a b) (.pair c d)) w := by
    have := eqFields_sound hf μ w (.pair a b) (.pair c d) [] [] rfl rfl h1 h2
    simp only [List.nil_append] at this
    have r := run_equalIn_struct (P := P) w 9999 t (flat μ (.pair a b)).toArray (flat μ (.pair c d)).toArray hu hs
    rw [hfo, this] at r
    exact r
  exact cmpRun_agg hg X Y _ _ e
end Go.Proofs.YtjanlnngeklhoabGreat

/- Families of rows: blocks whose numbers are not known one by one, and calls over them. -/
set_option linter.unusedVariables false
set_option linter.unusedSimpArgs false
namespace Go.Proofs.YtjanlnngeklhoabGreat
variable {P : Program}

/-! ### memories by their blocks -/
theorem blockOf_getElem? : ∀ (m : Mem) (i : Nat), m[i]? = if i < m.length then some (blockOf m i) else none
  | [], i => by simp
  | x :: r, 0 => by simp [blockOf]
  | x :: r, i + 1 => by
    rw [List.getElem?_cons_succ, blockOf_getElem? r i]
    simp only [List.length_cons, Nat.add_lt_add_iff_right]
    rfl
theorem mem_ext {m m' : Mem} (hl : m.length = m'.length) (h : ∀ i, i < m.length → blockOf m i = blockOf m' i) : m = m' := by
  apply List.ext_getElem?
  intro i
  rw [blockOf_getElem?, blockOf_getElem?]
  by_cases hi : i < m.length
  · rw [if_pos hi, if_pos (by omega), h i hi]
  · rw [if_neg hi, if_neg (by omega)]
theorem setBlock_pre : ∀ (A F : Mem) (i : Nat) (v : SV), setBlock (A ++ F) (A.length + i) v = A ++ setBlock F i v
  | [], F, i, v => by simp
  | x :: r, F, i, v => by
    rw [List.length_cons, show r.length + 1 + i = (r.length + i) + 1 by omega]
    simp only [List.cons_append, setBlock, setBlock_pre r F i v]
theorem setBlock_head : ∀ (A F : Mem) (i : Nat) (v : SV), i < A.length → setBlock (A ++ F) i v = setBlock A i v ++ F
  | [], F, i, v, h => by simp at h
  | x :: r, F, 0, v, h => by cases x <;> rfl
  | x :: r, F, i + 1, v, h => by
    simp only [List.cons_append, setBlock, setBlock_head r F i v (by simpa using h)]
theorem setBlock_get : ∀ (m : Mem) (i j : Nat) (v u : SV) (c : Nat), blockOf m i = some (u, c) → blockOf (setBlock m i v) j = if j = i then some (v, c) else blockOf m j
  | [], i, j, v, u, c, h => by cases h
  | x :: r, 0, j, v, u, c, h => by
    simp only [blockOf] at h
    subst h
    cases j with
    | zero => rfl
    | succ j => simp [setBlock, blockOf]
  | x :: r, i + 1, 0, v, u, c, h => by simp [setBlock, blockOf]
  | x :: r, i + 1, j + 1, v, u, c, h => by
    simp only [setBlock, blockOf, setBlock_get r i j v u c h, Nat.add_right_cancel_iff]

/-! ### rows -/
/-- n rows of w numbers each -/
def rowsM (k : IntKind) (w n : Nat) (f : Nat → Nat → Int) (c : Nat → Nat) : Mem := (List.range n).map fun i => some (.ints k w (f i), c i)
theorem rowsM_length (k : IntKind) (w n : Nat) (f : Nat → Nat → Int) (c : Nat → Nat) : (rowsM k w n f c).length = n := by simp [rowsM]
theorem rowsM_get (k : IntKind) (w n : Nat) (f : Nat → Nat → Int) (c : Nat → Nat) (i : Nat) (h : i < n) : blockOf (rowsM k w n f c) i = some (.ints k w (f i), c i) := by
  have h1 := blockOf_getElem? (rowsM k w n f c) i
  rw [rowsM_length, if_pos h] at h1
  have h2 : (rowsM k w n f c)[i]? = some (some (.ints k w (f i), c i)) := by simp [rowsM, h]
  rw [h2] at h1
  exact (Option.some.inj h1).symm
theorem rowsM_set (k : IntKind) (w n : Nat) (f : Nat → Nat → Int) (c : Nat → Nat) (i : Nat) (h : i < n) (g : Nat → Int) : setBlock (rowsM k w n f c) i (.ints k w g) = rowsM k w n (fun j => if j = i then g else f j) c := by
  refine mem_ext (by rw [setBlock_length, rowsM_length, rowsM_length]) fun j hj => ?_
  rw [setBlock_length, rowsM_length] at hj
  rw [setBlock_get _ i j _ _ _ (rowsM_get k w n f c i h), rowsM_get k w n (fun j => if j = i then g else f j) c j hj]
  by_cases hji : j = i
  · subst hji; simp
  · simp only [if_neg hji]; exact rowsM_get k w n f c j hj
theorem rowsM_snoc (k : IntKind) (w n : Nat) (f : Nat → Nat → Int) (c : Nat → Nat) (g : Nat → Int) (d : Nat) : rowsM k w n f c ++ [some (.ints k w g, d)] = rowsM k w (n + 1) (fun j => if j = n then g else f j) (fun j => if j = n then d else c j) := by
  refine mem_ext (by simp [rowsM]) fun j hj => ?_
  simp only [List.length_append, rowsM_length, List.length_singleton] at hj
  rw [rowsM_get k w (n + 1) _ _ j hj]
  by_cases hjn : j = n
  · subst hjn
    have := blockOf_append_ge (rowsM k w j f c) [some (.ints k w g, d)] 0
    rw [rowsM_length, Nat.add_zero] at this
    rw [this]; simp [blockOf]
  · rw [blockOf_append_lt _ _ j (by rw [rowsM_length]; omega), rowsM_get k w n f c j (by omega)]
    simp [hjn]
theorem pre_get (A F : Mem) (a i : Nat) (h : A.length = a) : blockOf (A ++ F) (a + i) = blockOf F i := by rw [← h]; exact blockOf_append_ge A F i

/-! ### single operations, where a block's number is not known -/
theorem opsVC_one {T : Tab} {N : Nat} {ops : Array Oper} {o : Oper} {r : List Oper} {s : Slots} {m : Mem} {K : Slots → Mem → Prop} (hg : o.guard = none)
    (h : oneVC P T N o s m fun s' m' => opsVC P T N ops r s' m' K) : opsVC P T N ops (o :: r) s m K := by
  simp only [opsVC, guardVC, hg]
  exact h
theorem readVC_load {T : Tab} {t : Nat} {a : Operand} {s : Slots} {m : Mem} {K : SV → Prop} {id off n c : Nat} {k : IntKind} {v : Nat → Int} (ha : ev s a = some (.ptr id [] 0 off)) (ht : ((T.ti t).known && (T.ti t).agg.isNone) = true)
    (hb : blockOf m id = some (.ints k n v, c)) (hlt : off < n) (h : K (.int k (v off))) : readVC T (.load t a) s m K := by
  simp only [Bool.and_eq_true, Option.isNone_iff_eq_none] at ht
  simp only [readVC, ha, hb, SV.part, ht.1, ht.2, getAt]
  exact chk_iff.2 ⟨rfl, hlt, h⟩
theorem readVC_loadV {T : Tab} {t : Nat} {a : Operand} {s : Slots} {m : Mem} {K : SV → Prop} {id off n c : Nat} {h : Nat → SV} (ha : ev s a = some (.ptr id [] 0 off)) (ht : ((T.ti t).known && (T.ti t).agg.isNone) = true)
    (hb : blockOf m id = some (.vec n h, c)) (hlt : off < n) (hl : (h off).leaf = true) (hk : K (h off)) : readVC T (.load t a) s m K := by
  simp only [Bool.and_eq_true, Option.isNone_iff_eq_none] at ht
  simp only [readVC, ha, hb, SV.part, ht.1, ht.2, getAt]
  exact chk_iff.2 ⟨rfl, hlt, hl, hk⟩
theorem readVC_loadR {T : Tab} {t l : Nat} {a : Operand} {s : Slots} {m : Mem} {K : SV → Prop} {id off n c : Nat} {k : IntKind} {v : Nat → Int} (ha : ev s a = some (.ptr id [] 0 off)) (ht : ((T.ti t).known && ((T.ti t).agg == some l)) = true)
    (hb : blockOf m id = some (.ints k n v, c)) (hlt : off + l ≤ n) (h : K (.ints k l fun j => v (j + off))) : readVC T (.load t a) s m K := by
  simp only [Bool.and_eq_true, beq_iff_eq] at ht
  simp only [readVC, ha, hb, SV.part, ht.1, ht.2, getAt]
  exact chk_iff.2 ⟨rfl, hlt, h⟩
theorem storeVC_int {T : Tab} {t : Nat} {m : Mem} {K : Mem → Prop} {id off n c : Nat} {k : IntKind} {v : Nat → Int} {y : Int} (ht : ((T.ti t).known && (T.ti t).agg.isNone) = true)
    (hb : blockOf m id = some (.ints k n v, c)) (hlt : off < n) (h : K (setBlock m id (.ints k n (upd1 v off y)))) : storeVC T t (some (.ptr id [] 0 off)) (some (.int k y)) m K := by
  simp only [Bool.and_eq_true, Option.isNone_iff_eq_none] at ht
  simp only [storeVC, hb, SV.part, ht.1, ht.2, putAt, SV.setPart]
  exact chk_iff.2 ⟨rfl, chk_iff.2 ⟨by cases k <;> rfl, hlt, h⟩⟩
theorem storeVC_vec {T : Tab} {t : Nat} {m : Mem} {K : Mem → Prop} {id off n c : Nat} {f : Nat → SV} {y : SV} (ht : ((T.ti t).known && (T.ti t).agg.isNone) = true)
    (hb : blockOf m id = some (.vec n f, c)) (hl : y.leaf = true) (hlt : off < n) (h : K (setBlock m id (.vec n (updV f off y)))) : storeVC T t (some (.ptr id [] 0 off)) (some y) m K := by
  simp only [Bool.and_eq_true, Option.isNone_iff_eq_none] at ht
  simp only [storeVC, hb, SV.part, ht.1, ht.2, putAt, SV.setPart]
  exact chk_iff.2 ⟨rfl, chk_iff.2 ⟨hl, hlt, h⟩⟩

theorem readVC_loadS {T : Tab} {t : Nat} {a : Operand} {s : Slots} {m : Mem} {K : SV → Prop} {id off n c : Nat} {h : Nat → SV} {v : SV} (ha : ev s a = some (.ptr id [] 0 off)) (ht : ((T.ti t).known && (T.ti t).agg.isNone) = true)
    (hb : blockOf m id = some (.vec n h, c)) (hlt : off < n) (hv : h off = v) (hl : v.leaf = true) (hk : K v) : readVC T (.load t a) s m K :=
  readVC_loadV ha ht hb hlt (by rw [hv]; exact hl) (by rw [hv]; exact hk)
theorem eqv_refl : ∀ v : SV, v.eqv v := by
  intro v
  induction v with
  | ints k n f => exact ⟨⟨rfl, rfl⟩, fun _ _ => rfl⟩
  | vec n h => exact ⟨rfl, fun _ _ => rfl⟩
  | pair a b iha ihb => exact ⟨iha, ihb⟩
  | tcons a b iha ihb => exact ⟨iha, ihb⟩
  | _ => exact rfl

section
variable {T : Tab} {N : Nat} {ops : Array Oper} {o : Oper} {r : List Oper} {s : Slots} {m : Mem} {K : Slots → Mem → Prop} {t : Nat} {a x : Operand} {id off n c l : Nat} {k : IntKind} {f : Nat → Int} {h : Nat → SV} {v : SV} {y : Int}
theorem opsVC_load (hg : o.guard = none) (ho : o.op = .load t a) (ha : ev s a = some (.ptr id [] 0 off)) (ht : ((T.ti t).known && (T.ti t).agg.isNone) = true)
    (hb : blockOf m id = some (.ints k n f, c)) (hlt : off < n) (hk : opsVC P T N ops r (sset N s o.dst (.int k (f off))) m K) : opsVC P T N ops (o :: r) s m K := by
  refine opsVC_one hg ?_
  simp only [oneVC, ho]
  exact readVC_load ha ht hb hlt hk
theorem opsVC_loadS (hg : o.guard = none) (ho : o.op = .load t a) (ha : ev s a = some (.ptr id [] 0 off)) (ht : ((T.ti t).known && (T.ti t).agg.isNone) = true)
    (hb : blockOf m id = some (.vec n h, c)) (hlt : off < n) (hv : h off = v) (hl : v.leaf = true) (hk : opsVC P T N ops r (sset N s o.dst v) m K) : opsVC P T N ops (o :: r) s m K := by
  refine opsVC_one hg ?_
  simp only [oneVC, ho]
  exact readVC_loadS ha ht hb hlt hv hl hk
theorem opsVC_loadR (hg : o.guard = none) (ho : o.op = .load t a) (ha : ev s a = some (.ptr id [] 0 off)) (ht : ((T.ti t).known && ((T.ti t).agg == some l)) = true)
    (hb : blockOf m id = some (.ints k n f, c)) (hlt : off + l ≤ n) (hk : opsVC P T N ops r (sset N s o.dst (.ints k l fun j => f (j + off))) m K) : opsVC P T N ops (o :: r) s m K := by
  refine opsVC_one hg ?_
  simp only [oneVC, ho]
  exact readVC_loadR ha ht hb hlt hk
theorem opsVC_storeI (hg : o.guard = none) (ho : o.op = .store t a x) (ha : ev s a = some (.ptr id [] 0 off)) (hx : ev s x = some (.int k y)) (ht : ((T.ti t).known && (T.ti t).agg.isNone) = true)
    (hb : blockOf m id = some (.ints k n f, c)) (hlt : off < n) (hk : opsVC P T N ops r (sset N s o.dst .undef) (setBlock m id (.ints k n (upd1 f off y))) K) : opsVC P T N ops (o :: r) s m K := by
  refine opsVC_one hg ?_
  simp only [oneVC, ho, ha, hx]
  exact storeVC_int ht hb hlt hk
theorem opsVC_storeV (hg : o.guard = none) (ho : o.op = .store t a x) (ha : ev s a = some (.ptr id [] 0 off)) (hx : ev s x = some v) (ht : ((T.ti t).known && (T.ti t).agg.isNone) = true)
    (hb : blockOf m id = some (.vec n h, c)) (hl : v.leaf = true) (hlt : off < n) (hk : opsVC P T N ops r (sset N s o.dst .undef) (setBlock m id (.vec n (updV h off v))) K) : opsVC P T N ops (o :: r) s m K := by
  refine opsVC_one hg ?_
  simp only [oneVC, ho, ha, hx]
  exact storeVC_vec ht hb hl hlt hk
theorem opsVC_call {cl : Call} {g : Nat} {args : List SV} (hd : T.direct g = false) (hg : o.guard = none) (ho : o.op = .call cl) (hc : cl.callee = .value x) (hx : ev s x = some (.fn g)) (ha : evs s cl.args.toList = some args)
    (hk : callVC P g args m fun r' m' => opsVC P T N ops r (sset N s o.dst r') m' K) : opsVC P T N ops (o :: r) s m K := by
  refine opsVC_one hg ?_
  simp only [oneVC, ho, hc, hx, ha, hd]
  exact hk
/-- a call over all blocks as they are -/
theorem opsVC_dir {cl : Call} {g : Nat} {args : List SV} (hd : T.direct g = true) (hg : o.guard = none) (ho : o.op = .call cl) (hc : cl.callee = .value x) (hx : ev s x = some (.fn g)) (ha : evs s cl.args.toList = some args)
    (hk : Spec P g args m fun r' m' => liveP m m' ∧ opsVC P T N ops r (sset N s o.dst r') m' K) : opsVC P T N ops (o :: r) s m K := by
  refine opsVC_one hg ?_
  simp only [oneVC, ho, hc, hx, ha, hd]
  exact hk
end

/-! ### calls -/
theorem callVC_of {f : Nat} {args : List SV} {m : Mem} {K : SV → Mem → Prop} {ids : List Nat} (hids : reach1 m (dedup [] (idsOf args)) = ids) (h : callWith P f args m K ids) : callVC P f args m K := by
  unfold callVC
  generalize dedup [] (idsOf args) = i at hids ⊢
  cases i with
  | nil =>
    simp only [reach1] at hids
    subst hids
    exact h
  | cons x r =>
    unfold callIds
    exact (forceL_iff _ _).2 ((forceM_iff _ _).2 ((forceL_iff _ _).2 (by rw [hids]; exact h)))

theorem posIn_range' : ∀ (k a x : Nat), a ≤ x → x < a + k → posIn (List.range' a k) x = x - a
  | 0, a, x, h1, h2 => by omega
  | k + 1, a, x, h1, h2 => by
    rw [List.range'_succ]
    unfold posIn
    cases hb : Nat.beq a x with
    | true => have := Nat.eq_of_beq_eq_true hb; subst this; simp
    | false =>
      have hne : ¬ a = x := by rintro rfl; rw [Nat.beq_refl] at hb; cases hb
      have := posIn_range' k (a + 1) x (by omega) (by omega)
      simp only [this]
      omega
theorem nth_range' (k a j : Nat) : nth (List.range' a k) (a + k) j = a + j := by
  rw [nth_get]
  by_cases h : j < k
  · rw [dif_pos (by simpa using h)]; simp
  · rw [dif_neg (by simpa using h)]; simp; omega
theorem subMem_range' : ∀ (F A : Mem), (∀ i, i < F.length → (blockOf F i).isSome = true) → subMem (A ++ F) (List.range' A.length F.length) = some F
  | [], A, h => rfl
  | x :: r, A, h => by
    rw [List.length_cons, List.range'_succ]
    have h0 : blockOf (A ++ x :: r) A.length = x := by have := blockOf_append_ge A (x :: r) 0; rw [Nat.add_zero] at this; rw [this]; rfl
    have hx : x.isSome = true := h 0 (by simp)
    have ih := subMem_range' r (A ++ [x]) fun i hi => h (i + 1) (by simpa using hi)
    simp only [List.append_assoc, List.singleton_append, List.length_append, List.length_singleton] at ih
    unfold subMem
    rw [h0, ih]
    cases x with
    | none => cases hx
    | some b => rfl
theorem backMem_range' (A F m' : Mem) (ρ : Nat → Nat) (hl : F.length ≤ m'.length) : backMem ρ (A ++ F) (List.range' A.length F.length) m' = A ++ m'.map (renBlk ρ) := by
  have hmem : ∀ i, i ∈ List.range' A.length F.length ↔ A.length ≤ i ∧ i < A.length + F.length := fun i => by simp [List.mem_range'_1]
  refine mem_ext ?_ fun i hi => ?_
  · simp [backMem, backGo_length]; omega
  · simp only [backMem, List.length_append, backGo_length, List.length_map, List.length_drop, List.length_range'] at hi
    rw [backMem]
    by_cases h1 : i < A.length + F.length
    · rw [blockOf_append_lt _ _ i (by rw [backGo_length]; simpa using h1), backGo_get ρ _ m' (A ++ F) 0 i (by simpa using h1), Nat.zero_add]
      by_cases h2 : i < A.length
      · rw [if_neg (fun h => by have := ((hmem i).1 h).1; omega), blockOf_append_lt _ _ i h2, blockOf_append_lt _ _ i h2]
      · rw [if_pos ((hmem i).2 ⟨by omega, h1⟩), posIn_range' _ _ _ (by omega) h1]
        have := blockOf_append_ge A (m'.map (renBlk ρ)) (i - A.length)
        rw [show A.length + (i - A.length) = i by omega] at this
        rw [this, blockOf_map]
    · have e1 := blockOf_append_ge (backGo ρ (List.range' A.length F.length) m' 0 (A ++ F)) ((m'.drop (List.range' A.length F.length).length).map (renBlk ρ)) (i - (A.length + F.length))
      rw [backGo_length, List.length_append, show A.length + F.length + (i - (A.length + F.length)) = i by omega] at e1
      rw [e1, blockOf_map, blockOf_drop, List.length_range']
      have := blockOf_append_ge A (m'.map (renBlk ρ)) (i - A.length)
      rw [show A.length + (i - A.length) = i by omega] at this
      rw [this, blockOf_map, show F.length + (i - (A.length + F.length)) = i - A.length by omega]

/-- memories with equal heads serve alike -/
theorem Spec.pre {f : Nat} {args args' : List SV} {m M : Mem} {Q : SV → Mem → Prop} (h : Spec P f args' M Q) (ha : ∀ μ, args.map (toVal μ) = args'.map (toVal μ)) (hl : m.length = M.length)
    (hm : ∀ i, match blockOf M i with | some (u, c) => ∃ v, blockOf m i = some (v, c) ∧ v.eqv u | none => blockOf m i = none) : Spec P f args m Q := by
  have fwd : ∀ i u c, blockOf M i = some (u, c) → ∃ v, blockOf m i = some (v, c) ∧ v.eqv u := fun i u c hb => by have := hm i; rw [hb] at this; exact this
  have some_ : ∀ i, (blockOf M i).isSome = (blockOf m i).isSome := fun i => by
    have := hm i
    cases hb : blockOf M i with
    | none => rw [hb] at this; rw [this]
    | some p => obtain ⟨u, c⟩ := p; rw [hb] at this; obtain ⟨v, hv, _⟩ := this; rw [hv]; rfl
  refine ⟨h.enters, fun μ w hmr => ?_⟩
  have hmr' : MR μ M w := ⟨fun id u c hb => by
      obtain ⟨v, hv, he⟩ := fwd id u c hb
      obtain ⟨t, ex, h1, h2⟩ := hmr.blk id v c hv
      rw [(eqv_flat μ v u he).1] at h1 h2
      exact ⟨t, ex, h1, h2⟩, fun i j hi hj => hmr.inj i j (by rw [← some_]; exact hi) (by rw [← some_]; exact hj), fun id u c hb i hi => by
      obtain ⟨v, hv, he⟩ := fwd id u c hb
      rw [← (eqv_flat μ v u he).2] at hi
      rw [← hl]
      exact hmr.ids id v c hv i hi⟩
  rw [ha μ]
  refine (h.run μ w hmr').mono ?_
  rintro e w' ⟨μ', r, m', rfl, hQ, hi, hag, hle, hf, hmr2, hk⟩
  exact ⟨μ', r, m', rfl, hQ, hi, fun id hid => hag id (by omega), by omega, fun id hid hs => hf id (by omega) hs, hmr2, ⟨hk.size, fun b hb hne => hk.old b hb fun id hs => hne id (by rw [← some_]; exact hs), hk.rest, hk.fro⟩⟩

/-! ### what is handed on -/
theorem dedup_nodup : ∀ (l acc : List Nat), (acc ++ l).Nodup → dedup acc l = acc ++ l
  | [], acc, h => by simp [dedup]
  | x :: r, acc, h => by
    unfold dedup
    have hx : x ∉ acc := fun hm => by
      rw [List.nodup_append] at h
      exact h.2.2 x hm x (by simp) rfl
    cases hb : memN acc x with
    | true => exact absurd ((memN_iff acc x).1 hb) hx
    | false =>
      have := dedup_nodup r (acc ++ [x]) (by simpa using h)
      simp only [this, List.append_assoc, List.singleton_append]
theorem dedup_sub : ∀ (l acc : List Nat), (∀ x ∈ l, x ∈ acc) → dedup acc l = acc
  | [], acc, h => rfl
  | x :: r, acc, h => by
    unfold dedup
    have hx : memN acc x = true := (memN_iff acc x).2 (h x (by simp))
    simp only [hx]
    exact dedup_sub r acc fun y hy => h y (by simp [hy])
theorem contIds_mem (m : Mem) : ∀ (l : List Nat) (x : Nat), x ∈ contIds m l → ∃ i ∈ l, ∃ v c, blockOf m i = some (v, c) ∧ x ∈ v.ids
  | [], x, h => by cases h
  | i :: r, x, h => by
    simp only [contIds, List.mem_append] at h
    rcases h with h | h
    · split at h
      · rename_i v c hb; exact ⟨i, by simp, v, c, hb, h⟩
      · cases h
    · obtain ⟨j, hj, v, c, hb, hx⟩ := contIds_mem m r x h
      exact ⟨j, by simp [hj], v, c, hb, hx⟩
theorem vec_ids_map (n : Nat) (h : Nat → SV) (ρ : Nat → Nat) (hh : ∀ i, i < n → (h i).ids1 = [ρ i]) : (SV.vec n h).ids = (List.range n).map ρ := by
  show (List.range n).flatMap (fun i => (h i).ids1) = _
  rw [List.flatMap_def, List.map_congr_left (g := fun i => [ρ i]) fun i hi => hh i (List.mem_range.1 hi)]
  induction List.range n with
  | nil => rfl
  | cons x r ih => simp_all
/-- a block of slices and what these lead to -/
theorem reach_vec {m : Mem} {a n c : Nat} {h : Nat → SV} {ρ : Nat → Nat} (hb : blockOf m a = some (.vec n h, c)) (hh : ∀ i, i < n → (h i).ids1 = [ρ i]) (hinj : ∀ i j, i < n → j < n → ρ i = ρ j → i = j) (hne : ∀ i, i < n → ρ i ≠ a)
    (hr : ∀ i, i < n → ∀ v d, blockOf m (ρ i) = some (v, d) → v.ids = []) : reach1 m [a] = a :: (List.range n).map ρ := by
  have hv := vec_ids_map n h ρ hh
  have hc : contIds m [a] = (List.range n).map ρ := by simp only [contIds, hb, hv, List.append_nil]
  have hnd : (a :: (List.range n).map ρ).Nodup := by
    rw [List.nodup_cons]
    refine ⟨fun hm => ?_, ?_⟩
    · obtain ⟨i, hi, e⟩ := List.mem_map.1 hm
      exact hne i (List.mem_range.1 hi) e
    · refine List.Pairwise.map ρ (R := fun i j => i < n ∧ j < n ∧ i ≠ j) (fun i j ⟨hi, hj, hij⟩ e => hij (hinj i j hi hj e)) ?_
      have h1 : (List.range n).Pairwise (· ≠ ·) := List.nodup_range
      have h2 : (List.range n).Pairwise fun i j => i < n ∧ j < n := List.pairwise_of_forall_mem_list fun i hi j hj => ⟨List.mem_range.1 hi, List.mem_range.1 hj⟩
      exact (h1.and h2).imp fun ⟨e, hi, hj⟩ => ⟨hi, hj, e⟩
  show reach2 m [a] (contIds m [a]) = _
  rw [hc]
  cases n with
  | zero => simp [reach2]
  | succ n =>
    have hd : dedup [a] ((List.range (n + 1)).map ρ) = a :: (List.range (n + 1)).map ρ := by rw [dedup_nodup _ _ (by simpa using hnd)]; simp
    have hcons : ∃ x r, (List.range (n + 1)).map ρ = x :: r := by
      cases hl : (List.range (n + 1)).map ρ with
      | nil => simp at hl
      | cons x r => exact ⟨x, r, rfl⟩
    obtain ⟨x, r, hxr⟩ := hcons
    rw [hxr] at hd ⊢
    show dedup (dedup [a] (x :: r)) (contIds m (dedup [a] (x :: r))) = _
    rw [hd]
    refine dedup_sub _ _ fun y hy => ?_
    obtain ⟨i, hi, v, d, hbi, hyv⟩ := contIds_mem m _ y hy
    rw [← hxr] at hi ⊢
    rcases List.mem_cons.1 hi with rfl | hi
    · rw [hb] at hbi
      cases hbi
      rw [hv] at hyv
      exact List.mem_cons_of_mem _ hyv
    · obtain ⟨j, hj, rfl⟩ := List.mem_map.1 hi
      rw [hr j (List.mem_range.1 hj) v d hbi] at hyv
      cases hyv

theorem Spec.len {f : Nat} {args : List SV} {m : Mem} {Q : SV → Mem → Prop} (h : Spec P f args m Q) : Spec P f args m fun r m' => Q r m' ∧ m.length ≤ m'.length :=
  ⟨h.enters, fun μ w hm => (h.run μ w hm).mono fun e w' ⟨μ', r, m', he, hQ, hi, ha, hl, hf, hmr, hk⟩ => ⟨μ', r, m', he, ⟨hQ, hl⟩, hi, ha, hl, hf, hmr, hk⟩⟩

/-- a call over the blocks behind -/
theorem callVC_tail {f : Nat} {args args' : List SV} {A F F' : Mem} {K : SV → Mem → Prop} (hids : reach1 (A ++ F) (dedup [] (idsOf args)) = List.range' A.length F.length)
    (hF : ∀ i, i < F.length → (blockOf F i).isSome = true) (hcl : closedMem (List.range' A.length F.length) F)
    (ha : ∀ μ, (args.map (SV.ren (posIn (List.range' A.length F.length)))).map (toVal μ) = args'.map (toVal μ)) (hl : F.length = F'.length)
    (hm : ∀ i u c, blockOf F' i = some (u, c) → ∃ v, blockOf F i = some (v, c) ∧ (v.ren (posIn (List.range' A.length F.length))).eqv u) (hF' : ∀ i, i < F'.length → (blockOf F' i).isSome = true)
    (h : Spec P f args' F' fun r m' => K (r.ren (A.length + ·)) (A ++ m'.map (renBlk (A.length + ·)))) : callVC P f args (A ++ F) K := by
  refine callVC_of hids ?_
  unfold callWith
  simp only [subMem_range' F A hF]
  refine ⟨hcl, ?_⟩
  have hρ : nth (List.range' A.length F.length) (A ++ F).length = (A.length + ·) := by
    funext j
    rw [List.length_append, nth_range']
  rw [hρ]
  have h1 : Spec P f (args.map (SV.ren (posIn (List.range' A.length F.length)))) (renMem (posIn (List.range' A.length F.length)) F) fun r m' => K (r.ren (A.length + ·)) (A ++ m'.map (renBlk (A.length + ·))) := by
    refine h.pre ha (by simp [renMem, hl]) fun i => ?_
    split
    · rename_i u c hb
      obtain ⟨v, hv, he⟩ := hm i u c hb
      exact ⟨_, by rw [renMem, blockOf_map, hv]; rfl, he⟩
    · rename_i hb
      rcases Nat.lt_or_ge i F'.length with hlt | hge
      · have := hF' i hlt; rw [hb] at this; cases this
      · exact blockOf_ge _ i (by simp [renMem]; omega)
  refine h1.len.mono fun r m' hq => ?_
  have hle : F.length ≤ m'.length := by simpa [renMem] using hq.2
  rw [backMem_range' A F m' _ hle]
  exact hq.1

/-- nothing has another number -/
theorem ren1_id (v : SV) : v.ren1 (fun i => i) = v := by cases v <;> rfl
theorem ren_id : ∀ v : SV, v.ren (fun i => i) = v := by
  intro v
  induction v with
  | vec n h => show SV.vec n (fun i => (h i).ren1 fun i => i) = _; exact congrArg (SV.vec n) (funext fun i => ren1_id (h i))
  | pair a b iha ihb => show SV.pair (a.ren _) (b.ren _) = _; rw [iha, ihb]
  | tcons a b iha ihb => show SV.tcons (a.ren _) (b.ren _) = _; rw [iha, ihb]
  | _ => rfl
theorem RenTo.same {own : Nat} {S : Slots} {M : Mem} {s : Slots} {m : Mem} (hs : subL S s) (hm : ∀ i u d, blockOf M i = some (u, d) → ∃ v, blockOf m i = some (v, d) ∧ v.eqv u) : RenTo own (fun i => i) S M s m :=
  ⟨fun _ _ => rfl, fun i u d hb => by rw [ren_id]; exact ⟨fun h => h, hm i u d hb⟩, fun _ _ _ _ h => h, fun t v hv => by rw [ren_id]; exact subL_get S s hs t v hv⟩

/-! ### calls on one row or two, whose numbers are not known -/
theorem backMem_same {ids : List Nat} {m m' M : Mem} {ρ : Nat → Nat} (hl : m'.length = ids.length) (hlen : M.length = m.length) (hin : ∀ i, i < m.length → i ∈ ids → renBlk ρ (blockOf m' (posIn ids i)) = blockOf M i) (hout : ∀ i, i < m.length → i ∉ ids → blockOf m i = blockOf M i) : backMem ρ m ids m' = M := by
  have hd : m'.drop ids.length = [] := by rw [List.drop_eq_nil_of_le (by omega)]
  refine mem_ext (by simp [backMem, backGo_length, hd, hlen]) fun i hi => ?_
  have hi : i < m.length := by simpa [backMem, backGo_length, hd] using hi
  rw [backMem, blockOf_append_lt _ _ i (by rw [backGo_length]; exact hi), backGo_get ρ ids m' m 0 i hi, Nat.zero_add]
  by_cases h : i ∈ ids
  · rw [if_pos h]; exact hin i hi h
  · rw [if_neg h]; exact hout i hi h

theorem callVC_row {f : Nat} {args args' : List SV} {m : Mem} {K : SV → Mem → Prop} {i c : Nat} {v : SV} (hb : blockOf m i = some (v, c)) (hv : v.ids = []) (hvr : ∀ ρ, v.ren ρ = v) (hids : idsOf args = [i]) (ha : args.map (SV.ren (posIn [i])) = args')
    (h : Spec P f args' [some (v, c)] fun r m' => ∃ v', (∀ ρ, v'.ren ρ = v') ∧ (∀ ρ, r.ren ρ = r) ∧ m' = [some (v', c)] ∧ K r (setBlock m i v')) : callVC P f args m K := by
  have hp : posIn [i] i = 0 := by unfold posIn; rw [Nat.beq_refl]
  have hcont : contIds m [i] = [] := by simp only [contIds, hb, hv, List.append_nil]
  have hr : reach1 m (dedup [] (idsOf args)) = [i] := by
    rw [hids]
    show reach2 m [i] (contIds m [i]) = _
    rw [hcont]; rfl
  refine callVC_of hr ?_
  unfold callWith
  simp only [subMem, hb]
  refine ⟨⟨by rw [hv]; rfl, trivial⟩, ?_⟩
  rw [ha]
  have hm : renMem (posIn [i]) [some (v, c)] = [some (v, c)] := by simp only [renMem, List.map_cons, List.map_nil, renBlk, hvr]
  rw [hm]
  refine h.mono ?_
  rintro r m' ⟨v', hv', hrr, rfl, hk⟩
  rw [hrr, backMem_same (M := setBlock m i v') rfl (setBlock_length _ _ _) ?_ ?_]
  · exact hk
  · intro j hj hji
    obtain rfl : j = i := by simpa using hji
    rw [hp, setBlock_get m j j v' v c hb, if_pos rfl]
    simp only [blockOf, renBlk, hv']
  · intro j hj hji
    rw [setBlock_get m i j v' v c hb, if_neg (by simpa using hji)]

theorem callVC_row2 {f : Nat} {args args' : List SV} {m : Mem} {K : SV → Mem → Prop} {i j c d : Nat} {v u : SV} (hij : i ≠ j) (hb : blockOf m i = some (v, c)) (hb2 : blockOf m j = some (u, d)) (hv : v.ids = []) (hu : u.ids = []) (hvr : ∀ ρ, v.ren ρ = v) (hur : ∀ ρ, u.ren ρ = u) (hids : idsOf args = [i, j]) (ha : args.map (SV.ren (posIn [i, j])) = args')
    (h : Spec P f args' [some (v, c), some (u, d)] fun r m' => ∃ v', (∀ ρ, v'.ren ρ = v') ∧ (∀ ρ, r.ren ρ = r) ∧ m' = [some (v', c), some (u, d)] ∧ K r (setBlock m i v')) : callVC P f args m K := by
  have hne : Nat.beq i j = false := by
    cases hb : Nat.beq i j with
    | false => rfl
    | true => exact absurd (Nat.eq_of_beq_eq_true hb) hij
  have hp : posIn [i, j] i = 0 := by unfold posIn; rw [Nat.beq_refl]
  have hp2 : posIn [i, j] j = 1 := by unfold posIn; rw [hne]; unfold posIn; rw [Nat.beq_refl]
  have hcont : contIds m [i, j] = [] := by simp only [contIds, hb, hb2, hv, hu, List.append_nil]
  have hd : dedup [] (idsOf args) = [i, j] := by
    rw [hids, dedup_nodup _ _ (by simp [hij])]
    rfl
  have hr : reach1 m (dedup [] (idsOf args)) = [i, j] := by
    rw [hd]
    show reach2 m [i, j] (contIds m [i, j]) = _
    rw [hcont]; rfl
  refine callVC_of hr ?_
  unfold callWith
  simp only [subMem, hb, hb2]
  refine ⟨⟨by rw [hv]; rfl, by rw [hu]; rfl, trivial⟩, ?_⟩
  rw [ha]
  have hm : renMem (posIn [i, j]) [some (v, c), some (u, d)] = [some (v, c), some (u, d)] := by simp only [renMem, List.map_cons, List.map_nil, renBlk, hvr, hur]
  rw [hm]
  refine h.mono ?_
  rintro r m' ⟨v', hv', hrr, rfl, hk⟩
  rw [hrr, backMem_same (M := setBlock m i v') rfl (setBlock_length _ _ _) ?_ ?_]
  · exact hk
  · intro q hq hqi
    simp only [List.mem_cons, List.not_mem_nil, or_false] at hqi
    rcases hqi with rfl | rfl
    · rw [hp, setBlock_get m q q v' v c hb, if_pos rfl]
      simp only [blockOf, renBlk, hv']
    · rw [hp2, setBlock_get m i q v' v c hb, if_neg (fun e => hij e.symm), hb2]
      simp only [blockOf, renBlk, hur]
  · intro q hq hqi
    simp only [List.mem_cons, List.not_mem_nil, or_false, not_or] at hqi
    rw [setBlock_get m i q v' v c hb, if_neg hqi.1]
end Go.Proofs.YtjanlnngeklhoabGreat
