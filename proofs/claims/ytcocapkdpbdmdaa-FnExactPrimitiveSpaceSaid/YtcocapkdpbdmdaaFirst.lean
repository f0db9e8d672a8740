/- The first fault of an algebra, on both sides, and the law; lists of numbers compared, marked and held. -/
import Derived.Test.YtcocapkdpbdmdaaIsAlg
import Derived.Test.YtcocapkdpbdmdaaInts
set_option linter.unusedVariables false
set_option linter.unusedSimpArgs false
set_option maxRecDepth 100000
set_option maxHeartbeats 4000000
namespace Go.Proofs.Ytcocapkdpbdmdaa
open M

theorem fault_unique {p : Int} {n : Nat} {T g h : Nat → Int} (h1 : faultAt p n T g) (h2 : faultAt p n T h) : ∀ q, q < 3 → g q = h q := by
  obtain ⟨i, j, k, hi, hj, hk, hf, hmin, g0, g1, g2⟩ := h1
  obtain ⟨a, b, c, ha, hb, hc, hf', hmin', h0, h1, h2⟩ := h2
  have n1 : ¬ (i < a ∨ (i = a ∧ j < b) ∨ (i = a ∧ j = b ∧ k < c)) := fun hh => by rw [hmin' i j k hi hj hk hh] at hf; cases hf
  have n2 : ¬ (a < i ∨ (a = i ∧ b < j) ∨ (a = i ∧ b = j ∧ c < k)) := fun hh => by rw [hmin a b c ha hb hc hh] at hf'; cases hf'
  have e1 : i = a := by omega
  have e2 : j = b := by omega
  have e3 : k = c := by omega
  subst e1; subst e2; subst e3
  intro q hq
  rcases q with _ | _ | _ | q
  · rw [g0, h0]
  · rw [g1, h1]
  · rw [g2, h2]
  · omega

theorem back_new (m m' : Mem) {k : IntKind} {n c id : Nat} {g : Nat → Int} (hb : blockOf m' id = some (.ints k n g, c)) : blockOf (backMem (nth [] m.length) m [] m') (nth [] m.length id) = some (.ints k n g, c) := by
  have hl : (backGo (nth [] m.length) [] m' 0 m).length = m.length := backGo_length _ _ _ m 0
  show blockOf (backGo (nth [] m.length) [] m' 0 m ++ (m'.drop 0).map (renBlk (nth [] m.length))) (m.length + id) = _
  have := blockOf_append_ge (backGo (nth [] m.length) [] m' 0 m) ((m'.drop 0).map (renBlk (nth [] m.length))) id
  rw [hl] at this
  rw [this, blockOf_map, List.drop_zero, hb]
  rfl

def First0 (p n : Int) (U T : Nat → Int) (r : SV) (m : Mem) : Prop :=
  (shapeB p n U T = false ∧ r = .tcons .nilsl (.tcons (.int .i64 1) .tnil)) ∨ (shapeB p n U T = true ∧ assB p n.toNat T ∧ r = .tcons .nilsl (.tcons (.int .i64 4) .tnil)) ∨
    (shapeB p n U T = true ∧ ∃ id g, faultAt p n.toNat T g ∧ r = .tcons (.sl id 0 3 3) (.tcons (.int .i64 0) .tnil) ∧ blockOf m id = some (.ints .i64 3 g, 3))
theorem First0.bad {p n : Int} {U T : Nat → Int} {m : Mem} (h : shapeB p n U T = false) : First0 p n U T (.tcons .nilsl (.tcons (.int .i64 1) .tnil)) m := .inl ⟨h, rfl⟩
theorem First0.none {p n : Int} {U T : Nat → Int} {m : Mem} (h : shapeB p n U T = true) (h' : assB p n.toNat T) : First0 p n U T (.tcons .nilsl (.tcons (.int .i64 4) .tnil)) m := .inr (.inl ⟨h, h', rfl⟩)
theorem First0.some {p n : Int} {U T g : Nat → Int} {m : Mem} {id : Nat} (h : shapeB p n U T = true) (h' : faultAt p n.toNat T g) (hb : blockOf m id = some (.ints .i64 3 g, 3)) : First0 p n U T (.tcons (.sl id 0 3 3) (.tcons (.int .i64 0) .tnil)) m := .inr (.inr ⟨h, id, g, h', rfl, hb⟩)

def FirstQ (p n : Int) (U T : Nat → Int) (r : SV) (m : Mem) : Prop :=
  (shapeB p n U T = false ∧ r = .tcons .nilsl (.tcons (.int .i64 1) .tnil) ∧ m = []) ∨ (shapeB p n U T = true ∧ assB p n.toNat T ∧ r = .tcons .nilsl (.tcons (.int .i64 4) .tnil) ∧ m = []) ∨
    (shapeB p n U T = true ∧ ∃ g, faultAt p n.toNat T g ∧ r = .tcons (.sl 0 0 3 3) (.tcons (.int .i64 0) .tnil) ∧ m = [some (.ints .i64 3 g, 3)])
theorem First0.one {P : Program} {f : Nat} {args : List SV} {p n : Int} {U T : Nat → Int} (h : Spec P f args [] (First0 p n U T)) : Spec P f args [] (FirstQ p n U T) := by
  refine Spec.single h ?_
  rintro r m' (⟨h1, rfl⟩ | ⟨h1, h2, rfl⟩ | ⟨h1, id, g, h2, rfl, hb⟩)
  · exact .inl ⟨.inl ⟨h1, rfl, rfl⟩, rfl⟩
  · exact .inl ⟨.inr (.inl ⟨h1, h2, rfl, rfl⟩), rfl⟩
  · exact .inr ⟨id, _, _, hb, rfl, by simp [SV.ids], .inr (.inr ⟨h1, g, h2, rfl, rfl⟩)⟩
end Go.Proofs.Ytcocapkdpbdmdaa
