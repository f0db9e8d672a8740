/- The table of this translation's types, and that it is right: closed facts alone. -/
import Derived.Test.YtbmpapinpnchmaaEq
import Derived.Test.YtbmpapinpnchmaaProg
import Derived.KernelRfl
set_option linter.unusedVariables false
set_option maxRecDepth 100000
namespace Go.Proofs.Ytbmpapinpnchmaa

def tiOf : List (Nat × TI) → Nat → TI
  | [], _ => .other
  | (k, x) :: r, t => match Nat.beq k t with | true => x | false => tiOf r t
def zOf : List (Nat × SV) → Nat → Option SV
  | [], _ => none
  | (k, x) :: r, t => match Nat.beq k t with | true => some x | false => zOf r t
theorem tiOf_ok {P : Program} : ∀ (l : List (Nat × TI)), (∀ p ∈ l, TIok P p.1 p.2) → ∀ t, TIok P t (tiOf l t)
  | [], _, t => trivial
  | (k, x) :: r, h, t => by
    unfold tiOf
    cases hb : Nat.beq k t with
    | true => have := Nat.eq_of_beq_eq_true hb; subst this; exact h (k, x) (by simp)
    | false => exact tiOf_ok r (fun p hp => h p (by simp [hp])) t
theorem zOf_ok {R : Nat → SV → Prop} : ∀ (l : List (Nat × SV)), (∀ p ∈ l, R p.1 p.2) → ∀ t z, zOf l t = some z → R t z
  | [], _, t, z, h => by cases h
  | (k, x) :: r, h, t, z, hz => by
    unfold zOf at hz
    cases hb : Nat.beq k t with
    | true =>
      have := Nat.eq_of_beq_eq_true hb
      subst this
      simp only [hb] at hz
      cases hz
      exact h (k, x) (by simp)
    | false => simp only [hb] at hz; exact zOf_ok r (fun p hp => h p (by simp [hp])) t z hz

def tiList : List (Nat × TI) := [(2, .int .i64), (3, .int .i64), (4, .scalar), (5, .int .u8), (6, .int .u8), (7, .struct [0, 1, 2, 3] 4), (8, .struct [0, 1, 2, 3] 4), (9, .scalar), (10, .scalar), (11, .scalar), (12, .int .u64), (13, .struct [0, 1] 2), (14, .struct [0, 1] 2), (21, .int .i32), (22, .slice 1), (24, .arr 8 1 false), (25, .arr 8 1 false), (26, .arr 8 8 true), (27, .arr 8 8 true), (28, .arr 8 64 true), (29, .arr 8 64 true), (30, .struct [0, 1, 2, 10] 522), (31, .struct [0, 1, 2, 10] 522), (36, .slice 8), (45, .slice 1), (55, .arr 8 8 true), (56, .arr 8 64 true), (57, .struct [0, 1, 2, 10] 522), (58, .struct [0, 1, 2, 10] 522), (77, .slice 1), (104, .int .u64), (105, .struct [0, 1, 2] 3), (106, .struct [0, 1, 2] 3), (115, .int .u64), (116, .slice 522), (146, .int .u32), (147, .int .u8), (148, .int .u8), (151, .int .i32), (152, .int .i32)]
def zList : List (Nat × SV) := [(2, (.int .i64 0)), (3, (.int .i64 0)), (4, (.bool false)), (5, (.int .u8 0)), (6, (.int .u8 0)), (7, (.pair (.int .i64 0) (.pair (.int .i64 0) (.pair (.bool false) (.pair (.int .u8 0) .unit))))), (8, (.pair (.int .i64 0) (.pair (.int .i64 0) (.pair (.bool false) (.pair (.int .u8 0) .unit))))), (12, (.int .u64 0)), (13, (.pair (.str ByteArray.empty) (.pair (.int .u64 0) .unit))), (14, (.pair (.str ByteArray.empty) (.pair (.int .u64 0) .unit))), (21, (.int .i32 0)), (22, .nilsl), (24, (.ints .u8 8 fun _ => 0)), (25, (.ints .u8 8 fun _ => 0)), (26, (.ints .u8 64 fun _ => 0)), (27, (.ints .u8 64 fun _ => 0)), (28, (.ints .u8 512 fun _ => 0)), (29, (.ints .u8 512 fun _ => 0)), (30, (.pair (.int .i64 0) (.pair (.int .i64 0) (.pair (.ints .u8 8 fun _ => 0) (.pair (.ints .u8 512 fun _ => 0) .unit))))), (31, (.pair (.int .i64 0) (.pair (.int .i64 0) (.pair (.ints .u8 8 fun _ => 0) (.pair (.ints .u8 512 fun _ => 0) .unit))))), (36, .nilsl), (45, .nilsl), (55, (.ints .u8 64 fun _ => 0)), (56, (.ints .u8 512 fun _ => 0)), (57, (.pair (.int .i64 0) (.pair (.int .i64 0) (.pair (.ints .u8 8 fun _ => 0) (.pair (.ints .u8 512 fun _ => 0) .unit))))), (58, (.pair (.int .i64 0) (.pair (.int .i64 0) (.pair (.ints .u8 8 fun _ => 0) (.pair (.ints .u8 512 fun _ => 0) .unit))))), (77, .nilsl), (104, (.int .u64 0)), (105, (.pair .nilsl (.pair (.int .i64 0) (.pair (.int .u64 0) .unit)))), (106, (.pair .nilsl (.pair (.int .i64 0) (.pair (.int .u64 0) .unit)))), (115, (.int .u64 0)), (116, .nilsl), (146, (.int .u32 0)), (147, (.int .u8 0)), (148, (.int .u8 0)), (151, (.int .i32 0)), (152, (.int .i32 0))]
def e0List : List (Nat × SV) := [(22, .int .u8 0), (36, .ints .u8 8 fun _ => 0), (45, .int .i64 0)]
theorem ti_2 : TIok Go.Proofs.Try.prog 2 (.int .i64) := ⟨Go.Proofs.Try.underlying2, by kernel_rfl⟩
theorem ti_3 : TIok Go.Proofs.Try.prog 3 (.int .i64) := ⟨Go.Proofs.Try.underlying3, by kernel_rfl⟩
theorem ti_4 : TIok Go.Proofs.Try.prog 4 (.scalar) := ⟨⟨_, Go.Proofs.Try.underlying4, rfl⟩, by kernel_rfl⟩
theorem ti_5 : TIok Go.Proofs.Try.prog 5 (.int .u8) := ⟨Go.Proofs.Try.underlying5, by kernel_rfl⟩
theorem ti_6 : TIok Go.Proofs.Try.prog 6 (.int .u8) := ⟨Go.Proofs.Try.underlying6, by kernel_rfl⟩
theorem ti_7 : TIok Go.Proofs.Try.prog 7 (.struct [0, 1, 2, 3] 4) := by
  refine ⟨_, Go.Proofs.Try.underlying7, by kernel_rfl, by rfl, ?_⟩
  intro f hf
  simp only [List.mem_cons, List.not_mem_nil, or_false] at hf
  rcases hf with rfl | hf
  · exact ⟨0, by kernel_rfl⟩
  rcases hf with rfl | hf
  · exact ⟨0, by kernel_rfl⟩
  rcases hf with rfl | hf
  · exact ⟨0, by kernel_rfl⟩
  subst hf
  exact ⟨0, by kernel_rfl⟩
theorem ti_8 : TIok Go.Proofs.Try.prog 8 (.struct [0, 1, 2, 3] 4) := by
  refine ⟨_, Go.Proofs.Try.underlying8, by kernel_rfl, by rfl, ?_⟩
  intro f hf
  simp only [List.mem_cons, List.not_mem_nil, or_false] at hf
  rcases hf with rfl | hf
  · exact ⟨0, by kernel_rfl⟩
  rcases hf with rfl | hf
  · exact ⟨0, by kernel_rfl⟩
  rcases hf with rfl | hf
  · exact ⟨0, by kernel_rfl⟩
  subst hf
  exact ⟨0, by kernel_rfl⟩
theorem ti_9 : TIok Go.Proofs.Try.prog 9 (.scalar) := ⟨⟨_, Go.Proofs.Try.underlying9, rfl⟩, by kernel_rfl⟩
theorem ti_10 : TIok Go.Proofs.Try.prog 10 (.scalar) := ⟨⟨_, Go.Proofs.Try.underlying10, rfl⟩, by kernel_rfl⟩
theorem ti_11 : TIok Go.Proofs.Try.prog 11 (.scalar) := ⟨⟨_, Go.Proofs.Try.underlying11, rfl⟩, by kernel_rfl⟩
theorem ti_12 : TIok Go.Proofs.Try.prog 12 (.int .u64) := ⟨Go.Proofs.Try.underlying12, by kernel_rfl⟩
theorem ti_13 : TIok Go.Proofs.Try.prog 13 (.struct [0, 1] 2) := by
  refine ⟨_, Go.Proofs.Try.underlying13, by kernel_rfl, by rfl, ?_⟩
  intro f hf
  simp only [List.mem_cons, List.not_mem_nil, or_false] at hf
  rcases hf with rfl | hf
  · exact ⟨0, by kernel_rfl⟩
  subst hf
  exact ⟨0, by kernel_rfl⟩
theorem ti_14 : TIok Go.Proofs.Try.prog 14 (.struct [0, 1] 2) := by
  refine ⟨_, Go.Proofs.Try.underlying14, by kernel_rfl, by rfl, ?_⟩
  intro f hf
  simp only [List.mem_cons, List.not_mem_nil, or_false] at hf
  rcases hf with rfl | hf
  · exact ⟨0, by kernel_rfl⟩
  subst hf
  exact ⟨0, by kernel_rfl⟩
theorem ti_21 : TIok Go.Proofs.Try.prog 21 (.int .i32) := ⟨Go.Proofs.Try.underlying21, by kernel_rfl⟩
theorem ti_22 : TIok Go.Proofs.Try.prog 22 (.slice 1) := ⟨5, Go.Proofs.Try.underlying22, by kernel_rfl, by kernel_rfl⟩
theorem ti_24 : TIok Go.Proofs.Try.prog 24 (.arr 8 1 false) := ⟨5, _, Go.Proofs.Try.underlying24, by kernel_rfl, by kernel_rfl, Go.Proofs.Try.underlying5, rfl, by omega⟩
theorem ti_25 : TIok Go.Proofs.Try.prog 25 (.arr 8 1 false) := ⟨5, _, Go.Proofs.Try.underlying25, by kernel_rfl, by kernel_rfl, Go.Proofs.Try.underlying5, rfl, by omega⟩
theorem ti_26 : TIok Go.Proofs.Try.prog 26 (.arr 8 8 true) := ⟨25, _, Go.Proofs.Try.underlying26, by kernel_rfl, by kernel_rfl, Go.Proofs.Try.underlying25, rfl, by omega⟩
theorem ti_27 : TIok Go.Proofs.Try.prog 27 (.arr 8 8 true) := ⟨25, _, Go.Proofs.Try.underlying27, by kernel_rfl, by kernel_rfl, Go.Proofs.Try.underlying25, rfl, by omega⟩
theorem ti_28 : TIok Go.Proofs.Try.prog 28 (.arr 8 64 true) := ⟨27, _, Go.Proofs.Try.underlying28, by kernel_rfl, by kernel_rfl, Go.Proofs.Try.underlying27, rfl, by omega⟩
theorem ti_29 : TIok Go.Proofs.Try.prog 29 (.arr 8 64 true) := ⟨27, _, Go.Proofs.Try.underlying29, by kernel_rfl, by kernel_rfl, Go.Proofs.Try.underlying27, rfl, by omega⟩
theorem ti_30 : TIok Go.Proofs.Try.prog 30 (.struct [0, 1, 2, 10] 522) := by
  refine ⟨_, Go.Proofs.Try.underlying30, by kernel_rfl, by rfl, ?_⟩
  intro f hf
  simp only [List.mem_cons, List.not_mem_nil, or_false] at hf
  rcases hf with rfl | hf
  · exact ⟨0, by kernel_rfl⟩
  rcases hf with rfl | hf
  · exact ⟨0, by kernel_rfl⟩
  rcases hf with rfl | hf
  · exact ⟨7, by kernel_rfl⟩
  subst hf
  exact ⟨511, by kernel_rfl⟩
theorem ti_31 : TIok Go.Proofs.Try.prog 31 (.struct [0, 1, 2, 10] 522) := by
  refine ⟨_, Go.Proofs.Try.underlying31, by kernel_rfl, by rfl, ?_⟩
  intro f hf
  simp only [List.mem_cons, List.not_mem_nil, or_false] at hf
  rcases hf with rfl | hf
  · exact ⟨0, by kernel_rfl⟩
  rcases hf with rfl | hf
  · exact ⟨0, by kernel_rfl⟩
  rcases hf with rfl | hf
  · exact ⟨7, by kernel_rfl⟩
  subst hf
  exact ⟨511, by kernel_rfl⟩
theorem ti_36 : TIok Go.Proofs.Try.prog 36 (.slice 8) := ⟨25, Go.Proofs.Try.underlying36, by kernel_rfl, by kernel_rfl⟩
theorem ti_45 : TIok Go.Proofs.Try.prog 45 (.slice 1) := ⟨2, Go.Proofs.Try.underlying45, by kernel_rfl, by kernel_rfl⟩
theorem ti_55 : TIok Go.Proofs.Try.prog 55 (.arr 8 8 true) := ⟨24, _, Go.Proofs.Try.underlying55, by kernel_rfl, by kernel_rfl, Go.Proofs.Try.underlying24, rfl, by omega⟩
theorem ti_56 : TIok Go.Proofs.Try.prog 56 (.arr 8 64 true) := ⟨55, _, Go.Proofs.Try.underlying56, by kernel_rfl, by kernel_rfl, Go.Proofs.Try.underlying55, rfl, by omega⟩
theorem ti_57 : TIok Go.Proofs.Try.prog 57 (.struct [0, 1, 2, 10] 522) := by
  refine ⟨_, Go.Proofs.Try.underlying57, by kernel_rfl, by rfl, ?_⟩
  intro f hf
  simp only [List.mem_cons, List.not_mem_nil, or_false] at hf
  rcases hf with rfl | hf
  · exact ⟨0, by kernel_rfl⟩
  rcases hf with rfl | hf
  · exact ⟨0, by kernel_rfl⟩
  rcases hf with rfl | hf
  · exact ⟨7, by kernel_rfl⟩
  subst hf
  exact ⟨511, by kernel_rfl⟩
theorem ti_58 : TIok Go.Proofs.Try.prog 58 (.struct [0, 1, 2, 10] 522) := by
  refine ⟨_, Go.Proofs.Try.underlying58, by kernel_rfl, by rfl, ?_⟩
  intro f hf
  simp only [List.mem_cons, List.not_mem_nil, or_false] at hf
  rcases hf with rfl | hf
  · exact ⟨0, by kernel_rfl⟩
  rcases hf with rfl | hf
  · exact ⟨0, by kernel_rfl⟩
  rcases hf with rfl | hf
  · exact ⟨7, by kernel_rfl⟩
  subst hf
  exact ⟨511, by kernel_rfl⟩
theorem ti_77 : TIok Go.Proofs.Try.prog 77 (.slice 1) := ⟨22, Go.Proofs.Try.underlying77, by kernel_rfl, by kernel_rfl⟩
theorem ti_104 : TIok Go.Proofs.Try.prog 104 (.int .u64) := ⟨Go.Proofs.Try.underlying104, by kernel_rfl⟩
theorem ti_105 : TIok Go.Proofs.Try.prog 105 (.struct [0, 1, 2] 3) := by
  refine ⟨_, Go.Proofs.Try.underlying105, by kernel_rfl, by rfl, ?_⟩
  intro f hf
  simp only [List.mem_cons, List.not_mem_nil, or_false] at hf
  rcases hf with rfl | hf
  · exact ⟨0, by kernel_rfl⟩
  rcases hf with rfl | hf
  · exact ⟨0, by kernel_rfl⟩
  subst hf
  exact ⟨0, by kernel_rfl⟩
theorem ti_106 : TIok Go.Proofs.Try.prog 106 (.struct [0, 1, 2] 3) := by
  refine ⟨_, Go.Proofs.Try.underlying106, by kernel_rfl, by rfl, ?_⟩
  intro f hf
  simp only [List.mem_cons, List.not_mem_nil, or_false] at hf
  rcases hf with rfl | hf
  · exact ⟨0, by kernel_rfl⟩
  rcases hf with rfl | hf
  · exact ⟨0, by kernel_rfl⟩
  subst hf
  exact ⟨0, by kernel_rfl⟩
theorem ti_115 : TIok Go.Proofs.Try.prog 115 (.int .u64) := ⟨Go.Proofs.Try.underlying115, by kernel_rfl⟩
theorem ti_116 : TIok Go.Proofs.Try.prog 116 (.slice 522) := ⟨31, Go.Proofs.Try.underlying116, by kernel_rfl, by kernel_rfl⟩
theorem ti_146 : TIok Go.Proofs.Try.prog 146 (.int .u32) := ⟨Go.Proofs.Try.underlying146, by kernel_rfl⟩
theorem ti_147 : TIok Go.Proofs.Try.prog 147 (.int .u8) := ⟨Go.Proofs.Try.underlying147, by kernel_rfl⟩
theorem ti_148 : TIok Go.Proofs.Try.prog 148 (.int .u8) := ⟨Go.Proofs.Try.underlying148, by kernel_rfl⟩
theorem ti_151 : TIok Go.Proofs.Try.prog 151 (.int .i32) := ⟨Go.Proofs.Try.underlying151, by kernel_rfl⟩
theorem ti_152 : TIok Go.Proofs.Try.prog 152 (.int .i32) := ⟨Go.Proofs.Try.underlying152, by kernel_rfl⟩
theorem z_2 : (Go.Proofs.Try.prog.info? 2).map (·.zero) = some (some (toVal (fun _ => 0) (.int .i64 0))) := by kernel_rfl
theorem z_3 : (Go.Proofs.Try.prog.info? 3).map (·.zero) = some (some (toVal (fun _ => 0) (.int .i64 0))) := by kernel_rfl
theorem z_4 : (Go.Proofs.Try.prog.info? 4).map (·.zero) = some (some (toVal (fun _ => 0) (.bool false))) := by kernel_rfl
theorem z_5 : (Go.Proofs.Try.prog.info? 5).map (·.zero) = some (some (toVal (fun _ => 0) (.int .u8 0))) := by kernel_rfl
theorem z_6 : (Go.Proofs.Try.prog.info? 6).map (·.zero) = some (some (toVal (fun _ => 0) (.int .u8 0))) := by kernel_rfl
theorem z_7 : (Go.Proofs.Try.prog.info? 7).map (·.zero) = some (some (toVal (fun _ => 0) (.pair (.int .i64 0) (.pair (.int .i64 0) (.pair (.bool false) (.pair (.int .u8 0) .unit)))))) := by kernel_rfl
theorem z_8 : (Go.Proofs.Try.prog.info? 8).map (·.zero) = some (some (toVal (fun _ => 0) (.pair (.int .i64 0) (.pair (.int .i64 0) (.pair (.bool false) (.pair (.int .u8 0) .unit)))))) := by kernel_rfl
theorem z_12 : (Go.Proofs.Try.prog.info? 12).map (·.zero) = some (some (toVal (fun _ => 0) (.int .u64 0))) := by kernel_rfl
theorem z_13 : (Go.Proofs.Try.prog.info? 13).map (·.zero) = some (some (toVal (fun _ => 0) (.pair (.str ByteArray.empty) (.pair (.int .u64 0) .unit)))) := by kernel_rfl
theorem z_14 : (Go.Proofs.Try.prog.info? 14).map (·.zero) = some (some (toVal (fun _ => 0) (.pair (.str ByteArray.empty) (.pair (.int .u64 0) .unit)))) := by kernel_rfl
theorem z_21 : (Go.Proofs.Try.prog.info? 21).map (·.zero) = some (some (toVal (fun _ => 0) (.int .i32 0))) := by kernel_rfl
theorem z_22 : (Go.Proofs.Try.prog.info? 22).map (·.zero) = some (some (toVal (fun _ => 0) .nilsl)) := by kernel_rfl
theorem z_24 : (Go.Proofs.Try.prog.info? 24).map (·.zero) = some (some (toVal (fun _ => 0) (.ints .u8 8 fun _ => 0))) := by kernel_rfl
theorem z_25 : (Go.Proofs.Try.prog.info? 25).map (·.zero) = some (some (toVal (fun _ => 0) (.ints .u8 8 fun _ => 0))) := by kernel_rfl
theorem z_26 : (Go.Proofs.Try.prog.info? 26).map (·.zero) = some (some (toVal (fun _ => 0) (.ints .u8 64 fun _ => 0))) := by kernel_rfl
theorem z_27 : (Go.Proofs.Try.prog.info? 27).map (·.zero) = some (some (toVal (fun _ => 0) (.ints .u8 64 fun _ => 0))) := by kernel_rfl
theorem z_28 : (Go.Proofs.Try.prog.info? 28).map (·.zero) = some (some (toVal (fun _ => 0) (.ints .u8 512 fun _ => 0))) := by kernel_rfl
theorem z_29 : (Go.Proofs.Try.prog.info? 29).map (·.zero) = some (some (toVal (fun _ => 0) (.ints .u8 512 fun _ => 0))) := by kernel_rfl
theorem z_30 : (Go.Proofs.Try.prog.info? 30).map (·.zero) = some (some (toVal (fun _ => 0) (.pair (.int .i64 0) (.pair (.int .i64 0) (.pair (.ints .u8 8 fun _ => 0) (.pair (.ints .u8 512 fun _ => 0) .unit)))))) := by kernel_rfl
theorem z_31 : (Go.Proofs.Try.prog.info? 31).map (·.zero) = some (some (toVal (fun _ => 0) (.pair (.int .i64 0) (.pair (.int .i64 0) (.pair (.ints .u8 8 fun _ => 0) (.pair (.ints .u8 512 fun _ => 0) .unit)))))) := by kernel_rfl
theorem z_36 : (Go.Proofs.Try.prog.info? 36).map (·.zero) = some (some (toVal (fun _ => 0) .nilsl)) := by kernel_rfl
theorem z_45 : (Go.Proofs.Try.prog.info? 45).map (·.zero) = some (some (toVal (fun _ => 0) .nilsl)) := by kernel_rfl
theorem z_55 : (Go.Proofs.Try.prog.info? 55).map (·.zero) = some (some (toVal (fun _ => 0) (.ints .u8 64 fun _ => 0))) := by kernel_rfl
theorem z_56 : (Go.Proofs.Try.prog.info? 56).map (·.zero) = some (some (toVal (fun _ => 0) (.ints .u8 512 fun _ => 0))) := by kernel_rfl
theorem z_57 : (Go.Proofs.Try.prog.info? 57).map (·.zero) = some (some (toVal (fun _ => 0) (.pair (.int .i64 0) (.pair (.int .i64 0) (.pair (.ints .u8 8 fun _ => 0) (.pair (.ints .u8 512 fun _ => 0) .unit)))))) := by kernel_rfl
theorem z_58 : (Go.Proofs.Try.prog.info? 58).map (·.zero) = some (some (toVal (fun _ => 0) (.pair (.int .i64 0) (.pair (.int .i64 0) (.pair (.ints .u8 8 fun _ => 0) (.pair (.ints .u8 512 fun _ => 0) .unit)))))) := by kernel_rfl
theorem z_77 : (Go.Proofs.Try.prog.info? 77).map (·.zero) = some (some (toVal (fun _ => 0) .nilsl)) := by kernel_rfl
theorem z_104 : (Go.Proofs.Try.prog.info? 104).map (·.zero) = some (some (toVal (fun _ => 0) (.int .u64 0))) := by kernel_rfl
theorem z_105 : (Go.Proofs.Try.prog.info? 105).map (·.zero) = some (some (toVal (fun _ => 0) (.pair .nilsl (.pair (.int .i64 0) (.pair (.int .u64 0) .unit))))) := by kernel_rfl
theorem z_106 : (Go.Proofs.Try.prog.info? 106).map (·.zero) = some (some (toVal (fun _ => 0) (.pair .nilsl (.pair (.int .i64 0) (.pair (.int .u64 0) .unit))))) := by kernel_rfl
theorem z_115 : (Go.Proofs.Try.prog.info? 115).map (·.zero) = some (some (toVal (fun _ => 0) (.int .u64 0))) := by kernel_rfl
theorem z_116 : (Go.Proofs.Try.prog.info? 116).map (·.zero) = some (some (toVal (fun _ => 0) .nilsl)) := by kernel_rfl
theorem z_146 : (Go.Proofs.Try.prog.info? 146).map (·.zero) = some (some (toVal (fun _ => 0) (.int .u32 0))) := by kernel_rfl
theorem z_147 : (Go.Proofs.Try.prog.info? 147).map (·.zero) = some (some (toVal (fun _ => 0) (.int .u8 0))) := by kernel_rfl
theorem z_148 : (Go.Proofs.Try.prog.info? 148).map (·.zero) = some (some (toVal (fun _ => 0) (.int .u8 0))) := by kernel_rfl
theorem z_151 : (Go.Proofs.Try.prog.info? 151).map (·.zero) = some (some (toVal (fun _ => 0) (.int .i32 0))) := by kernel_rfl
theorem z_152 : (Go.Proofs.Try.prog.info? 152).map (·.zero) = some (some (toVal (fun _ => 0) (.int .i32 0))) := by kernel_rfl

theorem tiAll : ∀ p ∈ tiList, TIok Go.Proofs.Try.prog p.1 p.2 := by
  intro p hp
  simp only [tiList, List.mem_cons, List.not_mem_nil, or_false] at hp
  rcases hp with rfl | rfl | rfl | rfl | rfl | rfl | rfl | rfl | rfl | rfl | rfl | rfl | rfl | rfl | rfl | rfl | rfl | rfl | rfl | rfl | rfl | rfl | rfl | rfl | rfl | rfl | rfl | rfl | rfl | rfl | rfl | rfl | rfl | rfl | rfl | rfl | rfl | rfl | rfl | rfl
  · exact ti_2
  · exact ti_3
  · exact ti_4
  · exact ti_5
  · exact ti_6
  · exact ti_7
  · exact ti_8
  · exact ti_9
  · exact ti_10
  · exact ti_11
  · exact ti_12
  · exact ti_13
  · exact ti_14
  · exact ti_21
  · exact ti_22
  · exact ti_24
  · exact ti_25
  · exact ti_26
  · exact ti_27
  · exact ti_28
  · exact ti_29
  · exact ti_30
  · exact ti_31
  · exact ti_36
  · exact ti_45
  · exact ti_55
  · exact ti_56
  · exact ti_57
  · exact ti_58
  · exact ti_77
  · exact ti_104
  · exact ti_105
  · exact ti_106
  · exact ti_115
  · exact ti_116
  · exact ti_146
  · exact ti_147
  · exact ti_148
  · exact ti_151
  · exact ti_152
theorem zAll : ∀ p ∈ zList, (Go.Proofs.Try.prog.info? p.1).map (·.zero) = some (some (toVal (fun _ => 0) p.2)) ∧ p.2.ids = [] := by
  intro p hp
  simp only [zList, List.mem_cons, List.not_mem_nil, or_false] at hp
  rcases hp with rfl | rfl | rfl | rfl | rfl | rfl | rfl | rfl | rfl | rfl | rfl | rfl | rfl | rfl | rfl | rfl | rfl | rfl | rfl | rfl | rfl | rfl | rfl | rfl | rfl | rfl | rfl | rfl | rfl | rfl | rfl | rfl | rfl | rfl | rfl | rfl | rfl
  · exact ⟨z_2, rfl⟩
  · exact ⟨z_3, rfl⟩
  · exact ⟨z_4, rfl⟩
  · exact ⟨z_5, rfl⟩
  · exact ⟨z_6, rfl⟩
  · exact ⟨z_7, rfl⟩
  · exact ⟨z_8, rfl⟩
  · exact ⟨z_12, rfl⟩
  · exact ⟨z_13, rfl⟩
  · exact ⟨z_14, rfl⟩
  · exact ⟨z_21, rfl⟩
  · exact ⟨z_22, rfl⟩
  · exact ⟨z_24, rfl⟩
  · exact ⟨z_25, rfl⟩
  · exact ⟨z_26, rfl⟩
  · exact ⟨z_27, rfl⟩
  · exact ⟨z_28, rfl⟩
  · exact ⟨z_29, rfl⟩
  · exact ⟨z_30, rfl⟩
  · exact ⟨z_31, rfl⟩
  · exact ⟨z_36, rfl⟩
  · exact ⟨z_45, rfl⟩
  · exact ⟨z_55, rfl⟩
  · exact ⟨z_56, rfl⟩
  · exact ⟨z_57, rfl⟩
  · exact ⟨z_58, rfl⟩
  · exact ⟨z_77, rfl⟩
  · exact ⟨z_104, rfl⟩
  · exact ⟨z_105, rfl⟩
  · exact ⟨z_106, rfl⟩
  · exact ⟨z_115, rfl⟩
  · exact ⟨z_116, rfl⟩
  · exact ⟨z_146, rfl⟩
  · exact ⟨z_147, rfl⟩
  · exact ⟨z_148, rfl⟩
  · exact ⟨z_151, rfl⟩
  · exact ⟨z_152, rfl⟩
theorem eAll : ∀ p ∈ e0List, ∃ e, Go.Proofs.Try.prog.underlying p.1 = some (.slice e) ∧ (Go.Proofs.Try.prog.info? e).map (·.zero) = some (some (toVal (fun _ => 0) p.2)) := by
  intro p hp
  simp only [e0List, List.mem_cons, List.not_mem_nil, or_false] at hp
  rcases hp with rfl | rfl | rfl
  · exact ⟨5, Go.Proofs.Try.underlying22, z_5⟩
  · exact ⟨25, Go.Proofs.Try.underlying36, z_25⟩
  · exact ⟨2, Go.Proofs.Try.underlying45, z_2⟩
theorem row_24 : RowT Go.Proofs.Try.prog 24 .u8 8 1 := .one Go.Proofs.Try.underlying24 Go.Proofs.Try.underlying5 (by kernel_rfl)
theorem row_25 : RowT Go.Proofs.Try.prog 25 .u8 8 1 := .one Go.Proofs.Try.underlying25 Go.Proofs.Try.underlying5 (by kernel_rfl)
theorem row_26 : RowT Go.Proofs.Try.prog 26 .u8 64 2 := .more Go.Proofs.Try.underlying26 row_25 (by kernel_rfl)
theorem row_27 : RowT Go.Proofs.Try.prog 27 .u8 64 2 := .more Go.Proofs.Try.underlying27 row_25 (by kernel_rfl)
theorem row_28 : RowT Go.Proofs.Try.prog 28 .u8 512 3 := .more Go.Proofs.Try.underlying28 row_27 (by kernel_rfl)
theorem row_29 : RowT Go.Proofs.Try.prog 29 .u8 512 3 := .more Go.Proofs.Try.underlying29 row_27 (by kernel_rfl)
theorem row_55 : RowT Go.Proofs.Try.prog 55 .u8 64 2 := .more Go.Proofs.Try.underlying55 row_24 (by kernel_rfl)
theorem row_56 : RowT Go.Proofs.Try.prog 56 .u8 512 3 := .more Go.Proofs.Try.underlying56 row_55 (by kernel_rfl)

def eqList : List Nat := [4, 22, 24, 25, 26, 27, 28, 29, 36, 45, 55, 56, 77, 116]
def tab : Tab where
  ti := tiOf tiList
  zero := zOf zList
  eqs := memN eqList
  elem0 := zOf e0List
theorem tabOK : TabOK Go.Proofs.Try.prog tab where
  mixed := by kernel_rfl
  ok := tiOf_ok tiList tiAll
  zero := fun t z h => zOf_ok (R := fun t z => (Go.Proofs.Try.prog.info? t).map (·.zero) = some (some (toVal (fun _ => 0) z)) ∧ z.ids = []) zList zAll t z h
  elem0 := fun t z h => zOf_ok (R := fun t z => ∃ e, Go.Proofs.Try.prog.underlying t = some (.slice e) ∧ (Go.Proofs.Try.prog.info? e).map (·.zero) = some (some (toVal (fun _ => 0) z))) e0List eAll t z h
theorem eq_4 : EqOK Go.Proofs.Try.prog tab 4 := .bool Go.Proofs.Try.underlying4 rfl
theorem eq_22 : EqOK Go.Proofs.Try.prog tab 22 := .slice Go.Proofs.Try.underlying22 rfl
theorem eq_24 : EqOK Go.Proofs.Try.prog tab 24 := .row row_24 (by omega) (by kernel_rfl) rfl
theorem eq_25 : EqOK Go.Proofs.Try.prog tab 25 := .row row_25 (by omega) (by kernel_rfl) rfl
theorem eq_26 : EqOK Go.Proofs.Try.prog tab 26 := .row row_26 (by omega) (by kernel_rfl) rfl
theorem eq_27 : EqOK Go.Proofs.Try.prog tab 27 := .row row_27 (by omega) (by kernel_rfl) rfl
theorem eq_28 : EqOK Go.Proofs.Try.prog tab 28 := .row row_28 (by omega) (by kernel_rfl) rfl
theorem eq_29 : EqOK Go.Proofs.Try.prog tab 29 := .row row_29 (by omega) (by kernel_rfl) rfl
theorem eq_36 : EqOK Go.Proofs.Try.prog tab 36 := .slice Go.Proofs.Try.underlying36 rfl
theorem eq_45 : EqOK Go.Proofs.Try.prog tab 45 := .slice Go.Proofs.Try.underlying45 rfl
theorem eq_55 : EqOK Go.Proofs.Try.prog tab 55 := .row row_55 (by omega) (by kernel_rfl) rfl
theorem eq_56 : EqOK Go.Proofs.Try.prog tab 56 := .row row_56 (by omega) (by kernel_rfl) rfl
theorem eq_77 : EqOK Go.Proofs.Try.prog tab 77 := .slice Go.Proofs.Try.underlying77 rfl
theorem eq_116 : EqOK Go.Proofs.Try.prog tab 116 := .slice Go.Proofs.Try.underlying116 rfl
theorem tabEq : TabEq Go.Proofs.Try.prog tab where
  eqs := fun t h => by
    have h := (memN_iff eqList t).1 h
    simp only [eqList, List.mem_cons, List.not_mem_nil, or_false] at h
    rcases h with rfl | rfl | rfl | rfl | rfl | rfl | rfl | rfl | rfl | rfl | rfl | rfl | rfl | rfl
    · exact eq_4
    · exact eq_22
    · exact eq_24
    · exact eq_25
    · exact eq_26
    · exact eq_27
    · exact eq_28
    · exact eq_29
    · exact eq_36
    · exact eq_45
    · exact eq_55
    · exact eq_56
    · exact eq_77
    · exact eq_116
end Go.Proofs.Ytbmpapinpnchmaa
