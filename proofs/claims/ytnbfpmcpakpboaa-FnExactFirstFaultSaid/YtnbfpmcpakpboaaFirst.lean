/- The first fault of an algebra, on both sides, and the law; lists of numbers compared, marked and held. -/
import Derived.Test.YtnbfpmcpakpboaaIsAlg
import Derived.Test.YtnbfpmcpakpboaaInts
set_option linter.unusedVariables false
set_option maxRecDepth 100000
set_option maxHeartbeats 4000000
namespace Go.Proofs.Ytnbfpmcpakpboaa
open M

theorem fault_unique {p : Int} {n : Nat} {T g h : Nat → Int} (h1 : faultAt p n T g) (h2 : faultAt p n T h) : ∀ q, q < 3 → g q = h q := by
  obtain ⟨i, j, k, hi, hj, hk, hf, hmin, g0, g1, g2⟩ := h1
  obtain ⟨a, b, c, ha, hb, hc, hf', hmin', h0, h1, h2⟩ := h2
  have n1 : ¬ (i < a ∨ (i = a ∧ j < b) ∨ (i = a ∧ j = b ∧ k < c)) := fun hh => by rw [hmin' i j k hi hj hk hh] at hf; cases hf
  have n2 : ¬ (a < i ∨ (a = i ∧ b < j) ∨ (a = i ∧ b = j ∧ c < k)) := fun hh => by rw [hmin a b c ha hb hc hh] at hf'; cases hf'
  have e1 : i = a := by omega
  have e2 : j = b := by omega
  have e3 : k = c := by omega
  subst e1; subst e2; subst e3
  intro q hq
  rcases q with _ | _ | _ | q
  · rw [g0, h0]
  · rw [g1, h1]
  · rw [g2, h2]
  · omega

theorem back_new (m m' : Mem) {k : IntKind} {n c id : Nat} {g : Nat → Int} (hb : blockOf m' id = some (.ints k n g, c)) : blockOf (backMem (nth [] m.length) m [] m') (nth [] m.length id) = some (.ints k n g, c) := by
  have hl : (backGo (nth [] m.length) [] m' 0 m).length = m.length := backGo_length _ _ _ m 0
  show blockOf (backGo (nth [] m.length) [] m' 0 m ++ (m'.drop 0).map (renBlk (nth [] m.length))) (m.length + id) = _
  have := blockOf_append_ge (backGo (nth [] m.length) [] m' 0 m) ((m'.drop 0).map (renBlk (nth [] m.length))) id
  rw [hl] at this
  rw [this, blockOf_map, List.drop_zero, hb]
  rfl

def First0 (p n : Int) (U T : Nat → Int) (r : SV) (m : Mem) : Prop :=
  (shapeB p n U T = false ∧ r = .tcons .nilsl (.tcons (.int .i64 1) .tnil)) ∨ (shapeB p n U T = true ∧ assB p n.toNat T ∧ r = .tcons .nilsl (.tcons (.int .i64 4) .tnil)) ∨
    (shapeB p n U T = true ∧ ∃ id g, faultAt p n.toNat T g ∧ r = .tcons (.sl id 0 3 3) (.tcons (.int .i64 0) .tnil) ∧ blockOf m id = some (.ints .i64 3 g, 3))
theorem First0.bad {p n : Int} {U T : Nat → Int} {m : Mem} (h : shapeB p n U T = false) : First0 p n U T (.tcons .nilsl (.tcons (.int .i64 1) .tnil)) m := .inl ⟨h, rfl⟩
theorem First0.none {p n : Int} {U T : Nat → Int} {m : Mem} (h : shapeB p n U T = true) (h' : assB p n.toNat T) : First0 p n U T (.tcons .nilsl (.tcons (.int .i64 4) .tnil)) m := .inr (.inl ⟨h, h', rfl⟩)
theorem First0.some {p n : Int} {U T g : Nat → Int} {m : Mem} {id : Nat} (h : shapeB p n U T = true) (h' : faultAt p n.toNat T g) (hb : blockOf m id = some (.ints .i64 3 g, 3)) : First0 p n U T (.tcons (.sl id 0 3 3) (.tcons (.int .i64 0) .tnil)) m := .inr (.inr ⟨h, id, g, h', rfl, hb⟩)

theorem implFirst0_s (p n : Int) (U T : Nat → Int) (hU : isU8 8 U) (hT : isU8 512 T) : Spec Try.prog 26 [algV p n U T] [] (First0 p n U T) := by
  refine (Spec.of_vc tabOK tabEq Try.func26 rfl (by kernel_rfl) rfl rfl ?_)
  refine And.intro trivial (Spec.mono (isShaped_s p n U T hU hT) ?_)
  rintro r m ⟨rfl, rfl⟩
  refine ifVC_split (fun hs => ?_) (fun hs => ?_)
  · exact First0.bad (by simpa using hs)
  have hs : shapeB p n U T = true := by simpa using hs
  obtain ⟨n, rfl⟩ : ∃ k : Nat, n = k := ⟨n.toNat, by have := (field_bounds (shape_field hs)).2; omega⟩
  have hV := valid_of hU hT hs
  refine And.intro trivial (Spec.mono (faultIn_s p n U T hV hU hT) ?_)
  rintro r m (⟨hass, rfl⟩ | ⟨id, g, hf, rfl, hb⟩)
  · exact First0.none hs hass
  · exact First0.some hs hf (back_new [some (algV p n U T, 522)] m hb)

theorem specFirst0_s (p n : Int) (U T : Nat → Int) (hU : isU8 8 U) (hT : isU8 512 T) : Spec Try.prog 25 [algV p n U T] [] (First0 p n U T) := by
  refine (Spec.of_vc tabOK tabEq Try.func25 rfl (by kernel_rfl) rfl rfl ?_)
  refine And.intro trivial (Spec.mono (l01Shape_s p n U T hU hT) ?_)
  rintro r m ⟨rfl, rfl⟩
  refine ifVC_split (fun hs => ?_) (fun hs => ?_)
  · exact First0.bad (by simpa using hs)
  have hs : shapeB p n U T = true := by simpa using hs
  obtain ⟨n, rfl⟩ : ∃ k : Nat, n = k := ⟨n.toNat, by have := (field_bounds (shape_field hs)).2; omega⟩
  have hV := valid_of hU hT hs
  refine And.intro trivial (Spec.mono (l01Fault_s p n U T hV hT) ?_)
  rintro r m (⟨hass, rfl⟩ | ⟨id, g, hf, rfl, hb⟩)
  · exact First0.none hs hass
  · exact First0.some hs hf (back_new [some (algV p n U T, 522)] m hb)

def FirstQ (p n : Int) (U T : Nat → Int) (r : SV) (m : Mem) : Prop :=
  (shapeB p n U T = false ∧ r = .tcons .nilsl (.tcons (.int .i64 1) .tnil) ∧ m = []) ∨ (shapeB p n U T = true ∧ assB p n.toNat T ∧ r = .tcons .nilsl (.tcons (.int .i64 4) .tnil) ∧ m = []) ∨
    (shapeB p n U T = true ∧ ∃ g, faultAt p n.toNat T g ∧ r = .tcons (.sl 0 0 3 3) (.tcons (.int .i64 0) .tnil) ∧ m = [some (.ints .i64 3 g, 3)])
theorem First0.one {P : Program} {f : Nat} {args : List SV} {p n : Int} {U T : Nat → Int} (h : Spec P f args [] (First0 p n U T)) : Spec P f args [] (FirstQ p n U T) := by
  refine Spec.single h ?_
  rintro r m' (⟨h1, rfl⟩ | ⟨h1, h2, rfl⟩ | ⟨h1, id, g, h2, rfl, hb⟩)
  · exact .inl ⟨.inl ⟨h1, rfl, rfl⟩, rfl⟩
  · exact .inl ⟨.inr (.inl ⟨h1, h2, rfl, rfl⟩), rfl⟩
  · exact .inr ⟨id, _, _, hb, rfl, by simp [SV.ids], .inr (.inr ⟨h1, g, h2, rfl, rfl⟩)⟩
theorem implFirst_s (p n : Int) (U T : Nat → Int) (hU : isU8 8 U) (hT : isU8 512 T) : Spec Try.prog 26 [algV p n U T] [] (FirstQ p n U T) := First0.one (implFirst0_s p n U T hU hT)
theorem specFirst_s (p n : Int) (U T : Nat → Int) (hU : isU8 8 U) (hT : isU8 512 T) : Spec Try.prog 25 [algV p n U T] [] (FirstQ p n U T) := First0.one (specFirst0_s p n U T hU hT)

/-- a list of three numbers and its code, twice made alike, are held apart -/
theorem lawFirst_s (p n : Int) (U T : Nat → Int) (hU : isU8 8 U) (hT : isU8 512 T) : Spec Try.prog 9 [algV p n U T] [] (Ret (.bool true)) := by
  refine Spec.ret rfl (Spec.of_vc tabOK tabEq Try.func9 rfl (by kernel_rfl) rfl rfl ?_)
  refine And.intro trivial (Spec.mono (toAlgebra_s p n U T) ?_)
  rintro r m ⟨rfl, rfl⟩
  refine And.intro trivial (Spec.mono (specFirst_s p n U T hU hT) ?_)
  rintro r m (⟨h1, rfl, rfl⟩ | ⟨h1, h2, rfl, rfl⟩ | ⟨h1, g, h2, rfl, rfl⟩)
  · refine And.intro trivial (Spec.mono (toAlgebra_s p n U T) ?_)
    rintro r m ⟨rfl, rfl⟩
    refine And.intro trivial (Spec.mono (implFirst_s p n U T hU hT) ?_)
    rintro r m (⟨_, rfl, rfl⟩ | ⟨h1', _⟩ | ⟨h1', _⟩)
    rotate_left
    · rw [h1] at h1'; cases h1'
    · rw [h1] at h1'; cases h1'
    refine And.intro trivial (Spec.mono eqNil_s ?_)
    rintro r m ⟨rfl, rfl⟩
    refine And.intro trivial (Spec.mono (markNil_s 101) ?_)
    rintro r m ⟨rfl, rfl⟩
    refine And.intro trivial (Spec.mono (heldNil_s 101) ?_)
    rintro r m ⟨rfl, rfl⟩
    refine And.intro trivial (Spec.mono (toAlgebra_s p n U T) ?_)
    rintro r m ⟨rfl, rfl⟩
    refine And.intro trivial (Spec.mono (implFirst_s p n U T hU hT) ?_)
    rintro r m (⟨_, rfl, rfl⟩ | ⟨h1', _⟩ | ⟨h1', _⟩)
    rotate_left
    · rw [h1] at h1'; cases h1'
    · rw [h1] at h1'; cases h1'
    refine And.intro trivial (Spec.mono eqNil_s ?_)
    rintro r m ⟨rfl, rfl⟩
    refine And.intro trivial (Spec.mono (heldNil_s 101) ?_)
    rintro r m ⟨rfl, rfl⟩
    exact boolEq rfl
  · have no : ∀ g, faultAt p n.toNat T g → False := fun g hg => by
      obtain ⟨i, j, k, hi, hj, hk, hf, _⟩ := hg
      rw [h2 i j k hi hj hk] at hf; cases hf
    refine And.intro trivial (Spec.mono (toAlgebra_s p n U T) ?_)
    rintro r m ⟨rfl, rfl⟩
    refine And.intro trivial (Spec.mono (implFirst_s p n U T hU hT) ?_)
    rintro r m (⟨h1', _⟩ | ⟨_, _, rfl, rfl⟩ | ⟨_, g, hg, _⟩)
    · rw [h1] at h1'; cases h1'
    rotate_left
    · exact (no g hg).elim
    refine And.intro trivial (Spec.mono eqNil_s ?_)
    rintro r m ⟨rfl, rfl⟩
    refine And.intro trivial (Spec.mono (markNil_s 101) ?_)
    rintro r m ⟨rfl, rfl⟩
    refine And.intro trivial (Spec.mono (heldNil_s 101) ?_)
    rintro r m ⟨rfl, rfl⟩
    refine And.intro trivial (Spec.mono (toAlgebra_s p n U T) ?_)
    rintro r m ⟨rfl, rfl⟩
    refine And.intro trivial (Spec.mono (implFirst_s p n U T hU hT) ?_)
    rintro r m (⟨h1', _⟩ | ⟨_, _, rfl, rfl⟩ | ⟨_, g, hg, _⟩)
    · rw [h1] at h1'; cases h1'
    rotate_left
    · exact (no g hg).elim
    refine And.intro trivial (Spec.mono eqNil_s ?_)
    rintro r m ⟨rfl, rfl⟩
    refine And.intro trivial (Spec.mono (heldNil_s 101) ?_)
    rintro r m ⟨rfl, rfl⟩
    exact boolEq rfl
  · have no : assB p n.toNat T → False := fun hh => by
      obtain ⟨i, j, k, hi, hj, hk, hf, _⟩ := h2
      rw [hh i j k hi hj hk] at hf; cases hf
    have same : ∀ g', faultAt p n.toNat T g' → allEq 3 g' g = true := fun g' hg' => List.all_eq_true.2 fun q hq => by simp [fault_unique hg' h2 q (List.mem_range.1 hq)]
    refine And.intro trivial (Spec.mono (toAlgebra_s p n U T) ?_)
    rintro r m ⟨rfl, rfl⟩
    change opsVC _ _ _ _ _ _ [some (algV p n U T, 522), some (.ints .i64 3 g, 3)] _
    refine And.intro trivial (Spec.mono (implFirst_s p n U T hU hT) ?_)
    rintro r m (⟨h1', _⟩ | ⟨_, hh, _⟩ | ⟨_, g1, hg1, rfl, rfl⟩)
    · rw [h1] at h1'; cases h1'
    · exact (no hh).elim
    change opsVC _ _ _ _ _ _ [some (algV p n U T, 522), some (.ints .i64 3 g, 3), some (.ints .i64 3 g1, 3)] _
    refine And.intro (And.intro rfl (And.intro rfl trivial)) (Spec.mono (eqInts_s 3 g1 g (by omega)) ?_)
    rintro r m ⟨rfl, rfl⟩
    change opsVC _ _ _ _ _ _ [some (algV p n U T, 522), some (.ints .i64 3 g, 3), some (.ints .i64 3 g1, 3)] _
    refine ifVC_false (by simp [same g1 hg1]) ?_
    refine And.intro (And.intro rfl trivial) (Spec.mono (markInts_s 3 101 g1 (by omega) (by omega)) ?_)
    rintro r m ⟨rfl, rfl⟩
    change opsVC _ _ _ _ _ _ [some (algV p n U T, 522), some (.ints .i64 3 g, 3), some (.ints .i64 3 fun j => 101 + j, 3)] _
    refine And.intro (And.intro rfl trivial) (Spec.mono (heldInts_s 3 101 (by omega) (by omega)) ?_)
    rintro r m ⟨rfl, rfl⟩
    change opsVC _ _ _ _ _ _ [some (algV p n U T, 522), some (.ints .i64 3 g, 3), some (.ints .i64 3 fun j => 101 + j, 3)] _
    refine And.intro trivial (Spec.mono (toAlgebra_s p n U T) ?_)
    rintro r m ⟨rfl, rfl⟩
    change opsVC _ _ _ _ _ _ [some (algV p n U T, 522), some (.ints .i64 3 g, 3), some (.ints .i64 3 fun j => 101 + j, 3)] _
    refine And.intro trivial (Spec.mono (implFirst_s p n U T hU hT) ?_)
    rintro r m (⟨h1', _⟩ | ⟨_, hh, _⟩ | ⟨_, g2, hg2, rfl, rfl⟩)
    · rw [h1] at h1'; cases h1'
    · exact (no hh).elim
    change opsVC _ _ _ _ _ _ [some (algV p n U T, 522), some (.ints .i64 3 g, 3), some (.ints .i64 3 fun j => 101 + j, 3), some (.ints .i64 3 g2, 3)] _
    refine And.intro (And.intro rfl (And.intro rfl trivial)) (Spec.mono (eqInts_s 3 g2 g (by omega)) ?_)
    rintro r m ⟨rfl, rfl⟩
    change opsVC _ _ _ _ _ _ [some (algV p n U T, 522), some (.ints .i64 3 g, 3), some (.ints .i64 3 fun j => 101 + j, 3), some (.ints .i64 3 g2, 3)] _
    refine ifVC_false (by simp [same g2 hg2]) ?_
    refine And.intro (And.intro rfl trivial) (Spec.mono (heldInts_s 3 101 (by omega) (by omega)) ?_)
    rintro r m ⟨rfl, rfl⟩
    change opsVC _ _ _ _ _ _ [some (algV p n U T, 522), some (.ints .i64 3 g, 3), some (.ints .i64 3 fun j => 101 + j, 3), some (.ints .i64 3 g2, 3)] _
    exact boolEq rfl
end Go.Proofs.Ytnbfpmcpakpboaa
