/- The first fault of a coalgebra: the functions and the law on FirstCoFault. -/
import Derived.Test.YtnbfpmcpakpboabCoFirst
set_option linter.unusedVariables false
set_option maxRecDepth 100000
set_option maxHeartbeats 2000000
namespace Go.Proofs.Ytnbfpmcpakpboab
open M

theorem coFault_unique {p : Int} {n : Nat} {C g h : Nat → Int} (h1 : coFaultAt p n C g) (h2 : coFaultAt p n C h) : ∀ q, q < 4 → g q = h q := by
  obtain ⟨i, j, k, l, hi, hj, hk, hl, hf, hmin, g0, g1, g2, g3⟩ := h1
  obtain ⟨a, b, c, d, ha, hb, hc, hd, hf', hmin', h0, h1, h2, h3⟩ := h2
  have n1 : ¬ (i < a ∨ (i = a ∧ j < b) ∨ (i = a ∧ j = b ∧ k < c) ∨ (i = a ∧ j = b ∧ k = c ∧ l < d)) := fun hh => by rw [hmin' i j k l hi hj hk hl hh] at hf; cases hf
  have n2 : ¬ (a < i ∨ (a = i ∧ b < j) ∨ (a = i ∧ b = j ∧ c < k) ∨ (a = i ∧ b = j ∧ c = k ∧ d < l)) := fun hh => by rw [hmin a b c d ha hb hc hd hh] at hf'; cases hf'
  have e1 : i = a := by omega
  have e2 : j = b := by omega
  have e3 : k = c := by omega
  have e4 : l = d := by omega
  subst e1; subst e2; subst e3; subst e4
  intro q hq
  rcases q with _ | _ | _ | _ | q
  · rw [g0, h0]
  · rw [g1, h1]
  · rw [g2, h2]
  · rw [g3, h3]
  · omega

def CoFirst0 (p n : Int) (U C : Nat → Int) (r : SV) (m : Mem) : Prop :=
  (shapeB p n U C = false ∧ r = .tcons .nilsl (.tcons (.int .i64 1) .tnil)) ∨ (shapeB p n U C = true ∧ coAss p n.toNat C ∧ r = .tcons .nilsl (.tcons (.int .i64 4) .tnil)) ∨
    (shapeB p n U C = true ∧ ∃ id g, coFaultAt p n.toNat C g ∧ r = .tcons (.sl id 0 4 4) (.tcons (.int .i64 0) .tnil) ∧ blockOf m id = some (.ints .i64 4 g, 4))
theorem CoFirst0.bad {p n : Int} {U C : Nat → Int} {m : Mem} (h : shapeB p n U C = false) : CoFirst0 p n U C (.tcons .nilsl (.tcons (.int .i64 1) .tnil)) m := .inl ⟨h, rfl⟩
theorem CoFirst0.none {p n : Int} {U C : Nat → Int} {m : Mem} (h : shapeB p n U C = true) (h' : coAss p n.toNat C) : CoFirst0 p n U C (.tcons .nilsl (.tcons (.int .i64 4) .tnil)) m := .inr (.inl ⟨h, h', rfl⟩)
theorem CoFirst0.some {p n : Int} {U C g : Nat → Int} {m : Mem} {id : Nat} (h : shapeB p n U C = true) (h' : coFaultAt p n.toNat C g) (hb : blockOf m id = some (.ints .i64 4 g, 4)) : CoFirst0 p n U C (.tcons (.sl id 0 4 4) (.tcons (.int .i64 0) .tnil)) m := .inr (.inr ⟨h, id, g, h', rfl, hb⟩)

theorem implCoFirst0_s (p n : Int) (U C : Nat → Int) (hU : isU8 8 U) (hC : isU8 512 C) : Spec Try.prog 44 [algV p n U C] [] (CoFirst0 p n U C) := by
  refine (Spec.of_vc tabOK tabEq Try.func44 rfl (by kernel_rfl) rfl rfl ?_)
  refine And.intro trivial (Spec.mono (dualAlgebra_s p n U C) ?_)
  rintro r m ⟨rfl, rfl⟩
  refine And.intro trivial (Spec.mono (isShaped_s p n U _ hU (dual_u8 hC)) ?_)
  rintro r m ⟨rfl, rfl⟩
  refine ifVC_split (fun hs => ?_) (fun hs => ?_)
  · exact CoFirst0.bad (by rw [shape_dual] at hs; simpa using hs)
  have hs : shapeB p n U C = true := by rw [shape_dual] at hs; simpa using hs
  obtain ⟨n, rfl⟩ : ∃ k : Nat, n = k := ⟨n.toNat, by have := (field_bounds (shape_field hs)).2; omega⟩
  have hV := valid_co hU hC hs
  refine And.intro trivial (Spec.mono (coFaultIn_s p n U C hV hU hC) ?_)
  rintro r m (⟨hass, rfl⟩ | ⟨id, g, hf, rfl, hb⟩)
  · exact CoFirst0.none hs hass
  · exact CoFirst0.some hs hf (back_new [some (algV p n U C, 522)] m hb)

theorem specCoFirst0_s (p n : Int) (U C : Nat → Int) (hU : isU8 8 U) (hC : isU8 512 C) : Spec Try.prog 43 [algV p n U C] [] (CoFirst0 p n U C) := by
  refine (Spec.of_vc tabOK tabEq Try.func43 rfl (by kernel_rfl) rfl rfl ?_)
  refine And.intro trivial (Spec.mono (l02Shape_s p n U C hU hC) ?_)
  rintro r m ⟨rfl, rfl⟩
  refine ifVC_split (fun hs => ?_) (fun hs => ?_)
  · exact CoFirst0.bad (by simpa using hs)
  have hs : shapeB p n U C = true := by simpa using hs
  have hfb := field_bounds (shape_field hs)
  obtain ⟨n, rfl⟩ : ∃ k : Nat, n = k := ⟨n.toNat, by have := hfb.2; omega⟩
  have hV := valid_co hU hC hs
  refine And.intro trivial (Spec.mono (l02Fault_s p n U C hV.hp hV.hn (by have := hfb.2; omega) hC) ?_)
  rintro r m (⟨hass, rfl⟩ | ⟨id, g, hf, rfl, hb⟩)
  · exact CoFirst0.none hs hass
  · exact CoFirst0.some hs hf (back_new [some (algV p n U C, 522)] m hb)

def CoFirstQ (p n : Int) (U C : Nat → Int) (r : SV) (m : Mem) : Prop :=
  (shapeB p n U C = false ∧ r = .tcons .nilsl (.tcons (.int .i64 1) .tnil) ∧ m = []) ∨ (shapeB p n U C = true ∧ coAss p n.toNat C ∧ r = .tcons .nilsl (.tcons (.int .i64 4) .tnil) ∧ m = []) ∨
    (shapeB p n U C = true ∧ ∃ g, coFaultAt p n.toNat C g ∧ r = .tcons (.sl 0 0 4 4) (.tcons (.int .i64 0) .tnil) ∧ m = [some (.ints .i64 4 g, 4)])
theorem CoFirst0.one {P : Program} {f : Nat} {args : List SV} {p n : Int} {U C : Nat → Int} (h : Spec P f args [] (CoFirst0 p n U C)) : Spec P f args [] (CoFirstQ p n U C) := by
  refine Spec.single h ?_
  rintro r m' (⟨h1, rfl⟩ | ⟨h1, h2, rfl⟩ | ⟨h1, id, g, h2, rfl, hb⟩)
  · exact .inl ⟨.inl ⟨h1, rfl, rfl⟩, rfl⟩
  · exact .inl ⟨.inr (.inl ⟨h1, h2, rfl, rfl⟩), rfl⟩
  · exact .inr ⟨id, _, _, hb, rfl, by simp [SV.ids], .inr (.inr ⟨h1, g, h2, rfl, rfl⟩)⟩
theorem implCoFirst_s (p n : Int) (U C : Nat → Int) (hU : isU8 8 U) (hC : isU8 512 C) : Spec Try.prog 44 [algV p n U C] [] (CoFirstQ p n U C) := CoFirst0.one (implCoFirst0_s p n U C hU hC)
theorem specCoFirst_s (p n : Int) (U C : Nat → Int) (hU : isU8 8 U) (hC : isU8 512 C) : Spec Try.prog 43 [algV p n U C] [] (CoFirstQ p n U C) := CoFirst0.one (specCoFirst0_s p n U C hU hC)

/-- a list of three numbers and its code, twice made alike, are held apart -/
theorem lawCoFirst_s (p n : Int) (U C : Nat → Int) (hU : isU8 8 U) (hC : isU8 512 C) : Spec Try.prog 12 [algV p n U C] [] (Ret (.bool true)) := by
  refine Spec.ret rfl (Spec.of_vc tabOK tabEq Try.func12 rfl (by kernel_rfl) rfl rfl ?_)
  refine And.intro trivial (Spec.mono (toCoalgebra_s p n U C) ?_)
  rintro r m ⟨rfl, rfl⟩
  refine And.intro trivial (Spec.mono (specCoFirst_s p n U C hU hC) ?_)
  rintro r m (⟨h1, rfl, rfl⟩ | ⟨h1, h2, rfl, rfl⟩ | ⟨h1, g, h2, rfl, rfl⟩)
  · refine And.intro trivial (Spec.mono (toCoalgebra_s p n U C) ?_)
    rintro r m ⟨rfl, rfl⟩
    refine And.intro trivial (Spec.mono (implCoFirst_s p n U C hU hC) ?_)
    rintro r m (⟨_, rfl, rfl⟩ | ⟨h1', _⟩ | ⟨h1', _⟩)
    rotate_left
    · rw [h1] at h1'; cases h1'
    · rw [h1] at h1'; cases h1'
    refine And.intro trivial (Spec.mono eqNil_s ?_)
    rintro r m ⟨rfl, rfl⟩
    refine And.intro trivial (Spec.mono (markNil_s 101) ?_)
    rintro r m ⟨rfl, rfl⟩
    refine And.intro trivial (Spec.mono (heldNil_s 101) ?_)
    rintro r m ⟨rfl, rfl⟩
    refine And.intro trivial (Spec.mono (toCoalgebra_s p n U C) ?_)
    rintro r m ⟨rfl, rfl⟩
    refine And.intro trivial (Spec.mono (implCoFirst_s p n U C hU hC) ?_)
    rintro r m (⟨_, rfl, rfl⟩ | ⟨h1', _⟩ | ⟨h1', _⟩)
    rotate_left
    · rw [h1] at h1'; cases h1'
    · rw [h1] at h1'; cases h1'
    refine And.intro trivial (Spec.mono eqNil_s ?_)
    rintro r m ⟨rfl, rfl⟩
    refine And.intro trivial (Spec.mono (heldNil_s 101) ?_)
    rintro r m ⟨rfl, rfl⟩
    exact boolEq rfl
  · have no : ∀ g, coFaultAt p n.toNat C g → False := fun g hg => by
      obtain ⟨i, j, k, l, hi, hj, hk, hl, hf, _⟩ := hg
      rw [h2 i j k l hi hj hk hl] at hf; cases hf
    refine And.intro trivial (Spec.mono (toCoalgebra_s p n U C) ?_)
    rintro r m ⟨rfl, rfl⟩
    refine And.intro trivial (Spec.mono (implCoFirst_s p n U C hU hC) ?_)
    rintro r m (⟨h1', _⟩ | ⟨_, _, rfl, rfl⟩ | ⟨_, g, hg, _⟩)
    · rw [h1] at h1'; cases h1'
    rotate_left
    · exact (no g hg).elim
    refine And.intro trivial (Spec.mono eqNil_s ?_)
    rintro r m ⟨rfl, rfl⟩
    refine And.intro trivial (Spec.mono (markNil_s 101) ?_)
    rintro r m ⟨rfl, rfl⟩
    refine And.intro trivial (Spec.mono (heldNil_s 101) ?_)
    rintro r m ⟨rfl, rfl⟩
    refine And.intro trivial (Spec.mono (toCoalgebra_s p n U C) ?_)
    rintro r m ⟨rfl, rfl⟩
    refine And.intro trivial (Spec.mono (implCoFirst_s p n U C hU hC) ?_)
    rintro r m (⟨h1', _⟩ | ⟨_, _, rfl, rfl⟩ | ⟨_, g, hg, _⟩)
    · rw [h1] at h1'; cases h1'
    rotate_left
    · exact (no g hg).elim
    refine And.intro trivial (Spec.mono eqNil_s ?_)
    rintro r m ⟨rfl, rfl⟩
    refine And.intro trivial (Spec.mono (heldNil_s 101) ?_)
    rintro r m ⟨rfl, rfl⟩
    exact boolEq rfl
  · have no : coAss p n.toNat C → False := fun hh => by
      obtain ⟨i, j, k, l, hi, hj, hk, hl, hf, _⟩ := h2
      rw [hh i j k l hi hj hk hl] at hf; cases hf
    have same : ∀ g', coFaultAt p n.toNat C g' → allEq 4 g' g = true := fun g' hg' => List.all_eq_true.2 fun q hq => by simp [coFault_unique hg' h2 q (List.mem_range.1 hq)]
    refine And.intro trivial (Spec.mono (toCoalgebra_s p n U C) ?_)
    rintro r m ⟨rfl, rfl⟩
    change opsVC _ _ _ _ _ _ [some (algV p n U C, 522), some (.ints .i64 4 g, 4)] _
    refine And.intro trivial (Spec.mono (implCoFirst_s p n U C hU hC) ?_)
    rintro r m (⟨h1', _⟩ | ⟨_, hh, _⟩ | ⟨_, g1, hg1, rfl, rfl⟩)
    · rw [h1] at h1'; cases h1'
    · exact (no hh).elim
    change opsVC _ _ _ _ _ _ [some (algV p n U C, 522), some (.ints .i64 4 g, 4), some (.ints .i64 4 g1, 4)] _
    refine And.intro (And.intro rfl (And.intro rfl trivial)) (Spec.mono (eqInts_s 4 g1 g (by omega)) ?_)
    rintro r m ⟨rfl, rfl⟩
    change opsVC _ _ _ _ _ _ [some (algV p n U C, 522), some (.ints .i64 4 g, 4), some (.ints .i64 4 g1, 4)] _
    refine ifVC_false (by simp [same g1 hg1]) ?_
    refine And.intro (And.intro rfl trivial) (Spec.mono (markInts_s 4 101 g1 (by omega) (by omega)) ?_)
    rintro r m ⟨rfl, rfl⟩
    change opsVC _ _ _ _ _ _ [some (algV p n U C, 522), some (.ints .i64 4 g, 4), some (.ints .i64 4 fun j => 101 + j, 4)] _
    refine And.intro (And.intro rfl trivial) (Spec.mono (heldInts_s 4 101 (by omega) (by omega)) ?_)
    rintro r m ⟨rfl, rfl⟩
    change opsVC _ _ _ _ _ _ [some (algV p n U C, 522), some (.ints .i64 4 g, 4), some (.ints .i64 4 fun j => 101 + j, 4)] _
    refine And.intro trivial (Spec.mono (toCoalgebra_s p n U C) ?_)
    rintro r m ⟨rfl, rfl⟩
    change opsVC _ _ _ _ _ _ [some (algV p n U C, 522), some (.ints .i64 4 g, 4), some (.ints .i64 4 fun j => 101 + j, 4)] _
    refine And.intro trivial (Spec.mono (implCoFirst_s p n U C hU hC) ?_)
    rintro r m (⟨h1', _⟩ | ⟨_, hh, _⟩ | ⟨_, g2, hg2, rfl, rfl⟩)
    · rw [h1] at h1'; cases h1'
    · exact (no hh).elim
    change opsVC _ _ _ _ _ _ [some (algV p n U C, 522), some (.ints .i64 4 g, 4), some (.ints .i64 4 fun j => 101 + j, 4), some (.ints .i64 4 g2, 4)] _
    refine And.intro (And.intro rfl (And.intro rfl trivial)) (Spec.mono (eqInts_s 4 g2 g (by omega)) ?_)
    rintro r m ⟨rfl, rfl⟩
    change opsVC _ _ _ _ _ _ [some (algV p n U C, 522), some (.ints .i64 4 g, 4), some (.ints .i64 4 fun j => 101 + j, 4), some (.ints .i64 4 g2, 4)] _
    refine ifVC_false (by simp [same g2 hg2]) ?_
    refine And.intro (And.intro rfl trivial) (Spec.mono (heldInts_s 4 101 (by omega) (by omega)) ?_)
    rintro r m ⟨rfl, rfl⟩
    change opsVC _ _ _ _ _ _ [some (algV p n U C, 522), some (.ints .i64 4 g, 4), some (.ints .i64 4 fun j => 101 + j, 4), some (.ints .i64 4 g2, 4)] _
    exact boolEq rfl
end Go.Proofs.Ytnbfpmcpakpboab
