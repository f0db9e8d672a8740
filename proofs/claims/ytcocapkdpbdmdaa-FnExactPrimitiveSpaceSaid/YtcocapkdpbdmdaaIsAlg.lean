/- Both checks of algebras, and the law on IsAlgebra. -/
import Derived.Test.YtcocapkdpbdmdaaFault
set_option linter.unusedVariables false
set_option linter.unusedSimpArgs false
set_option maxRecDepth 100000
namespace Go.Proofs.Ytcocapkdpbdmdaa
open M

def assL (p : Int) (n : Nat) (T : Nat → Int) : Bool := (List.range n).all fun i => (List.range n).all fun j => (List.range n).all fun k => okF p T i j k
theorem assL_yes {p : Int} {n : Nat} {T : Nat → Int} (h : assB p n T) : assL p n T = true :=
  List.all_eq_true.2 fun i hi => List.all_eq_true.2 fun j hj => List.all_eq_true.2 fun k hk => h i j k (List.mem_range.1 hi) (List.mem_range.1 hj) (List.mem_range.1 hk)
theorem assL_no {p : Int} {n : Nat} {T g : Nat → Int} (h : faultAt p n T g) : assL p n T = false := by
  obtain ⟨i, j, k, hi, hj, hk, hf, _⟩ := h
  cases hb : assL p n T with
  | false => rfl
  | true =>
    have := List.all_eq_true.1 (List.all_eq_true.1 (List.all_eq_true.1 hb i (List.mem_range.2 hi)) j (List.mem_range.2 hj)) k (List.mem_range.2 hk)
    rw [hf] at this; cases this
def algB (p n : Int) (U T : Nat → Int) : Bool := shapeB p n U T && (assL p n.toNat T && unitB p n.toNat U T)

theorem shape_field {p n : Int} {U T : Nat → Int} (h : shapeB p n U T = true) : fieldB p n = true := by
  unfold shapeB vectorB at h; simp only [Bool.and_eq_true] at h; exact h.1.1

theorem isAlgebra_s (p n : Int) (U T : Nat → Int) (hU : isU8 8 U) (hT : isU8 512 T) : Spec Try.prog 74 [algV p n U T] [] (Ret (.bool (algB p n U T))) := by
  refine Spec.ret rfl (Spec.of_vc tabOK tabEq Try.func74 rfl (by kernel_rfl) rfl rfl ?_)
  refine And.intro trivial (Spec.mono (isShaped_s p n U T hU hT) ?_)
  rintro r m ⟨rfl, rfl⟩
  refine ifVC_split (fun hs => ?_) (fun hs => ?_)
  · obtain ⟨n, rfl⟩ : ∃ k : Nat, n = k := ⟨n.toNat, by have := (field_bounds (shape_field hs)).2; omega⟩
    have hV := valid_of hU hT hs
    refine And.intro trivial (Spec.mono (faultIn_s p n U T hV hU hT) ?_)
    rintro r m (⟨hass, rfl⟩ | ⟨id, g, hf, rfl, hb⟩)
    · refine And.intro trivial (Spec.mono (hasUnit_s p n U T hV hU hT) ?_)
      rintro r m ⟨rfl, rfl⟩
      exact boolEq (by simp [algB, hs, assL_yes hass])
    · exact boolEq (by simp [algB, assL_no hf])
  · exact boolEq (by simp [algB, hs])

def FaultQ2 (p : Int) (n : Nat) (T : Nat → Int) (r : SV) (m : Mem) : Prop :=
  (assB p n T ∧ r = .tcons .nilsl (.tcons (.bool false) .tnil)) ∨ ∃ id g, faultAt p n T g ∧ r = .tcons (.sl id 0 3 3) (.tcons (.bool true) .tnil) ∧ blockOf m id = some (.ints .i64 3 g, 3)
theorem FaultQ2.yes {p : Int} {n : Nat} {T : Nat → Int} {m : Mem} (h : assB p n T) : FaultQ2 p n T (.tcons .nilsl (.tcons (.bool false) .tnil)) m := .inl ⟨h, rfl⟩
theorem FaultQ2.no {p : Int} {n : Nat} {T g : Nat → Int} {m : Mem} {id : Nat} (h : faultAt p n T g) (hb : blockOf m id = some (.ints .i64 3 g, 3)) : FaultQ2 p n T (.tcons (.sl id 0 3 3) (.tcons (.bool true) .tnil)) m := .inr ⟨id, g, h, rfl, hb⟩

theorem unitV_u8 (i n : Nat) : isU8 n (unitV i) := fun j _ => by unfold unitV; split <;> omega

end Go.Proofs.Ytcocapkdpbdmdaa
