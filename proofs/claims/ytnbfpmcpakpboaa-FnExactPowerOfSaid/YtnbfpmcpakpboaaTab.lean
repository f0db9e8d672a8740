/- The table of this translation's types, and that it is right: closed facts alone. -/
import Derived.Test.YtnbfpmcpakpboaaEq
import Derived.Test.YtnbfpmcpakpboaaProg
import Derived.KernelRfl
set_option linter.unusedVariables false
set_option maxRecDepth 100000
namespace Go.Proofs.Ytnbfpmcpakpboaa

def tiOf : List (Nat × TI) → Nat → TI
  | [], _ => .other
  | (k, x) :: r, t => match Nat.beq k t with | true => x | false => tiOf r t
def zOf : List (Nat × SV) → Nat → Option SV
  | [], _ => none
  | (k, x) :: r, t => match Nat.beq k t with | true => some x | false => zOf r t
theorem tiOf_ok {P : Program} : ∀ (l : List (Nat × TI)), (∀ p ∈ l, TIok P p.1 p.2) → ∀ t, TIok P t (tiOf l t)
  | [], _, t => trivial
  | (k, x) :: r, h, t => by
    unfold tiOf
    cases hb : Nat.beq k t with
    | true => have := Nat.eq_of_beq_eq_true hb; subst this; exact h (k, x) (by simp)
    | false => exact tiOf_ok r (fun p hp => h p (by simp [hp])) t
theorem zOf_ok {R : Nat → SV → Prop} : ∀ (l : List (Nat × SV)), (∀ p ∈ l, R p.1 p.2) → ∀ t z, zOf l t = some z → R t z
  | [], _, t, z, h => by cases h
  | (k, x) :: r, h, t, z, hz => by
    unfold zOf at hz
    cases hb : Nat.beq k t with
    | true =>
      have := Nat.eq_of_beq_eq_true hb
      subst this
      simp only [hb] at hz
      cases hz
      exact h (k, x) (by simp)
    | false => simp only [hb] at hz; exact zOf_ok r (fun p hp => h p (by simp [hp])) t z hz

def tiList : List (Nat × TI) := [(2, .int .i64), (3, .int .i64), (4, .scalar), (5, .int .u8), (6, .int .u8), (7, .struct [0, 1, 2, 3] 4), (8, .struct [0, 1, 2, 3] 4), (9, .scalar), (10, .scalar), (11, .scalar), (12, .int .u64), (13, .struct [0, 1] 2), (14, .struct [0, 1] 2), (21, .int .i32), (22, .slice 1), (24, .arr 8 1 false), (25, .arr 8 1 false), (26, .arr 8 8 true), (27, .arr 8 8 true), (28, .arr 8 64 true), (29, .arr 8 64 true), (30, .struct [0, 1, 2, 10] 522), (31, .struct [0, 1, 2, 10] 522), (36, .slice 8), (45, .slice 1), (52, .struct [0, 1, 2, 10] 522), (53, .struct [0, 1, 2, 10] 522), (70, .int .u64), (82, .arr 8 8 true), (83, .arr 8 64 true), (84, .struct [0, 1, 2, 10] 522), (85, .struct [0, 1, 2, 10] 522), (101, .slice 1), (127, .struct [0, 1, 2] 3), (128, .struct [0, 1, 2] 3), (140, .struct [0, 1, 2] 3), (141, .struct [0, 1, 2] 3), (150, .int .u64), (151, .slice 522), (166, .slice 64), (190, .int .u32), (191, .int .u8), (192, .int .u8), (195, .int .i32), (196, .int .i32)]
def zList : List (Nat × SV) := [(2, (.int .i64 0)), (3, (.int .i64 0)), (4, (.bool false)), (5, (.int .u8 0)), (6, (.int .u8 0)), (7, (.pair (.int .i64 0) (.pair (.int .i64 0) (.pair (.bool false) (.pair (.int .u8 0) .unit))))), (8, (.pair (.int .i64 0) (.pair (.int .i64 0) (.pair (.bool false) (.pair (.int .u8 0) .unit))))), (12, (.int .u64 0)), (13, (.pair (.str ByteArray.empty) (.pair (.int .u64 0) .unit))), (14, (.pair (.str ByteArray.empty) (.pair (.int .u64 0) .unit))), (21, (.int .i32 0)), (22, .nilsl), (24, (.ints .u8 8 fun _ => 0)), (25, (.ints .u8 8 fun _ => 0)), (26, (.ints .u8 64 fun _ => 0)), (27, (.ints .u8 64 fun _ => 0)), (28, (.ints .u8 512 fun _ => 0)), (29, (.ints .u8 512 fun _ => 0)), (30, (.pair (.int .i64 0) (.pair (.int .i64 0) (.pair (.ints .u8 8 fun _ => 0) (.pair (.ints .u8 512 fun _ => 0) .unit))))), (31, (.pair (.int .i64 0) (.pair (.int .i64 0) (.pair (.ints .u8 8 fun _ => 0) (.pair (.ints .u8 512 fun _ => 0) .unit))))), (36, .nilsl), (45, .nilsl), (52, (.pair (.int .i64 0) (.pair (.int .i64 0) (.pair (.ints .u8 8 fun _ => 0) (.pair (.ints .u8 512 fun _ => 0) .unit))))), (53, (.pair (.int .i64 0) (.pair (.int .i64 0) (.pair (.ints .u8 8 fun _ => 0) (.pair (.ints .u8 512 fun _ => 0) .unit))))), (70, (.int .u64 0)), (82, (.ints .u8 64 fun _ => 0)), (83, (.ints .u8 512 fun _ => 0)), (84, (.pair (.int .i64 0) (.pair (.int .i64 0) (.pair (.ints .u8 8 fun _ => 0) (.pair (.ints .u8 512 fun _ => 0) .unit))))), (85, (.pair (.int .i64 0) (.pair (.int .i64 0) (.pair (.ints .u8 8 fun _ => 0) (.pair (.ints .u8 512 fun _ => 0) .unit))))), (101, .nilsl), (127, (.pair .nilsl (.pair (.int .i64 0) (.pair (.int .u64 0) .unit)))), (128, (.pair .nilsl (.pair (.int .i64 0) (.pair (.int .u64 0) .unit)))), (140, (.pair .nilsl (.pair (.int .i64 0) (.pair (.int .u64 0) .unit)))), (141, (.pair .nilsl (.pair (.int .i64 0) (.pair (.int .u64 0) .unit)))), (150, (.int .u64 0)), (151, .nilsl), (166, .nilsl), (190, (.int .u32 0)), (191, (.int .u8 0)), (192, (.int .u8 0)), (195, (.int .i32 0)), (196, (.int .i32 0))]
def e0List : List (Nat × SV) := [(22, .int .u8 0), (36, .ints .u8 8 fun _ => 0), (45, .int .i64 0), (166, .ints .u8 64 fun _ => 0)]
theorem ti_2 : TIok Go.Proofs.Try.prog 2 (.int .i64) := ⟨Go.Proofs.Try.underlying2, by kernel_rfl⟩
theorem ti_3 : TIok Go.Proofs.Try.prog 3 (.int .i64) := ⟨Go.Proofs.Try.underlying3, by kernel_rfl⟩
theorem ti_4 : TIok Go.Proofs.Try.prog 4 (.scalar) := ⟨⟨_, Go.Proofs.Try.underlying4, rfl⟩, by kernel_rfl⟩
theorem ti_5 : TIok Go.Proofs.Try.prog 5 (.int .u8) := ⟨Go.Proofs.Try.underlying5, by kernel_rfl⟩
theorem ti_6 : TIok Go.Proofs.Try.prog 6 (.int .u8) := ⟨Go.Proofs.Try.underlying6, by kernel_rfl⟩
theorem ti_7 : TIok Go.Proofs.Try.prog 7 (.struct [0, 1, 2, 3] 4) := by
  refine ⟨_, Go.Proofs.Try.underlying7, by kernel_rfl, by rfl, ?_⟩
  intro f hf
  simp only [List.mem_cons, List.not_mem_nil, or_false] at hf
  rcases hf with rfl | hf
  · exact ⟨0, by kernel_rfl⟩
  rcases hf with rfl | hf
  · exact ⟨0, by kernel_rfl⟩
  rcases hf with rfl | hf
  · exact ⟨0, by kernel_rfl⟩
  subst hf
  exact ⟨0, by kernel_rfl⟩
theorem ti_8 : TIok Go.Proofs.Try.prog 8 (.struct [0, 1, 2, 3] 4) := by
  refine ⟨_, Go.Proofs.Try.underlying8, by kernel_rfl, by rfl, ?_⟩
  intro f hf
  simp only [List.mem_cons, List.not_mem_nil, or_false] at hf
  rcases hf with rfl | hf
  · exact ⟨0, by kernel_rfl⟩
  rcases hf with rfl | hf
  · exact ⟨0, by kernel_rfl⟩
  rcases hf with rfl | hf
  · exact ⟨0, by kernel_rfl⟩
  subst hf
  exact ⟨0, by kernel_rfl⟩
theorem ti_9 : TIok Go.Proofs.Try.prog 9 (.scalar) := ⟨⟨_, Go.Proofs.Try.underlying9, rfl⟩, by kernel_rfl⟩
theorem ti_10 : TIok Go.Proofs.Try.prog 10 (.scalar) := ⟨⟨_, Go.Proofs.Try.underlying10, rfl⟩, by kernel_rfl⟩
theorem ti_11 : TIok Go.Proofs.Try.prog 11 (.scalar) := ⟨⟨_, Go.Proofs.Try.underlying11, rfl⟩, by kernel_rfl⟩
theorem ti_12 : TIok Go.Proofs.Try.prog 12 (.int .u64) := ⟨Go.Proofs.Try.underlying12, by kernel_rfl⟩
theorem ti_13 : TIok Go.Proofs.Try.prog 13 (.struct [0, 1] 2) := by
  refine ⟨_, Go.Proofs.Try.underlying13, by kernel_rfl, by rfl, ?_⟩
  intro f hf
  simp only [List.mem_cons, List.not_mem_nil, or_false] at hf
  rcases hf with rfl | hf
  · exact ⟨0, by kernel_rfl⟩
  subst hf
  exact ⟨0, by kernel_rfl⟩
theorem ti_14 : TIok Go.Proofs.Try.prog 14 (.struct [0, 1] 2) := by
  refine ⟨_, Go.Proofs.Try.underlying14, by kernel_rfl, by rfl, ?_⟩
  intro f hf
  simp only [List.mem_cons, List.not_mem_nil, or_false] at hf
  rcases hf with rfl | hf
  · exact ⟨0, by kernel_rfl⟩
  subst hf
  exact ⟨0, by kernel_rfl⟩
theorem ti_21 : TIok Go.Proofs.Try.prog 21 (.int .i32) := ⟨Go.Proofs.Try.underlying21, by kernel_rfl⟩
theorem ti_22 : TIok Go.Proofs.Try.prog 22 (.slice 1) := ⟨5, Go.Proofs.Try.underlying22, by kernel_rfl, by kernel_rfl⟩
theorem ti_24 : TIok Go.Proofs.Try.prog 24 (.arr 8 1 false) := ⟨5, _, Go.Proofs.Try.underlying24, by kernel_rfl, by kernel_rfl, Go.Proofs.Try.underlying5, rfl, by omega⟩
theorem ti_25 : TIok Go.Proofs.Try.prog 25 (.arr 8 1 false) := ⟨5, _, Go.Proofs.Try.underlying25, by kernel_rfl, by kernel_rfl, Go.Proofs.Try.underlying5, rfl, by omega⟩
theorem ti_26 : TIok Go.Proofs.Try.prog 26 (.arr 8 8 true) := ⟨25, _, Go.Proofs.Try.underlying26, by kernel_rfl, by kernel_rfl, Go.Proofs.Try.underlying25, rfl, by omega⟩
theorem ti_27 : TIok Go.Proofs.Try.prog 27 (.arr 8 8 true) := ⟨25, _, Go.Proofs.Try.underlying27, by kernel_rfl, by kernel_rfl, Go.Proofs.Try.underlying25, rfl, by omega⟩
theorem ti_28 : TIok Go.Proofs.Try.prog 28 (.arr 8 64 true) := ⟨27, _, Go.Proofs.Try.underlying28, by kernel_rfl, by kernel_rfl, Go.Proofs.Try.underlying27, rfl, by omega⟩
theorem ti_29 : TIok Go.Proofs.Try.prog 29 (.arr 8 64 true) := ⟨27, _, Go.Proofs.Try.underlying29, by kernel_rfl, by kernel_rfl, Go.Proofs.Try.underlying27, rfl, by omega⟩
theorem ti_30 : TIok Go.Proofs.Try.prog 30 (.struct [0, 1, 2, 10] 522) := by
  refine ⟨_, Go.Proofs.Try.underlying30, by kernel_rfl, by rfl, ?_⟩
  intro f hf
  simp only [List.mem_cons, List.not_mem_nil, or_false] at hf
  rcases hf with rfl | hf
  · exact ⟨0, by kernel_rfl⟩
  rcases hf with rfl | hf
  · exact ⟨0, by kernel_rfl⟩
  rcases hf with rfl | hf
  · exact ⟨7, by kernel_rfl⟩
  subst hf
  exact ⟨511, by kernel_rfl⟩
theorem ti_31 : TIok Go.Proofs.Try.prog 31 (.struct [0, 1, 2, 10] 522) := by
  refine ⟨_, Go.Proofs.Try.underlying31, by kernel_rfl, by rfl, ?_⟩
  intro f hf
  simp only [List.mem_cons, List.not_mem_nil, or_false] at hf
  rcases hf with rfl | hf
  · exact ⟨0, by kernel_rfl⟩
  rcases hf with rfl | hf
  · exact ⟨0, by kernel_rfl⟩
  rcases hf with rfl | hf
  · exact ⟨7, by kernel_rfl⟩
  subst hf
  exact ⟨511, by kernel_rfl⟩
theorem ti_36 : TIok Go.Proofs.Try.prog 36 (.slice 8) := ⟨25, Go.Proofs.Try.underlying36, by kernel_rfl, by kernel_rfl⟩
theorem ti_45 : TIok Go.Proofs.Try.prog 45 (.slice 1) := ⟨2, Go.Proofs.Try.underlying45, by kernel_rfl, by kernel_rfl⟩
theorem ti_52 : TIok Go.Proofs.Try.prog 52 (.struct [0, 1, 2, 10] 522) := by
  refine ⟨_, Go.Proofs.Try.underlying52, by kernel_rfl, by rfl, ?_⟩
  intro f hf
  simp only [List.mem_cons, List.not_mem_nil, or_false] at hf
  rcases hf with rfl | hf
  · exact ⟨0, by kernel_rfl⟩
  rcases hf with rfl | hf
  · exact ⟨0, by kernel_rfl⟩
  rcases hf with rfl | hf
  · exact ⟨7, by kernel_rfl⟩
  subst hf
  exact ⟨511, by kernel_rfl⟩
theorem ti_53 : TIok Go.Proofs.Try.prog 53 (.struct [0, 1, 2, 10] 522) := by
  refine ⟨_, Go.Proofs.Try.underlying53, by kernel_rfl, by rfl, ?_⟩
  intro f hf
  simp only [List.mem_cons, List.not_mem_nil, or_false] at hf
  rcases hf with rfl | hf
  · exact ⟨0, by kernel_rfl⟩
  rcases hf with rfl | hf
  · exact ⟨0, by kernel_rfl⟩
  rcases hf with rfl | hf
  · exact ⟨7, by kernel_rfl⟩
  subst hf
  exact ⟨511, by kernel_rfl⟩
theorem ti_70 : TIok Go.Proofs.Try.prog 70 (.int .u64) := ⟨Go.Proofs.Try.underlying70, by kernel_rfl⟩
theorem ti_82 : TIok Go.Proofs.Try.prog 82 (.arr 8 8 true) := ⟨24, _, Go.Proofs.Try.underlying82, by kernel_rfl, by kernel_rfl, Go.Proofs.Try.underlying24, rfl, by omega⟩
theorem ti_83 : TIok Go.Proofs.Try.prog 83 (.arr 8 64 true) := ⟨82, _, Go.Proofs.Try.underlying83, by kernel_rfl, by kernel_rfl, Go.Proofs.Try.underlying82, rfl, by omega⟩
theorem ti_84 : TIok Go.Proofs.Try.prog 84 (.struct [0, 1, 2, 10] 522) := by
  refine ⟨_, Go.Proofs.Try.underlying84, by kernel_rfl, by rfl, ?_⟩
  intro f hf
  simp only [List.mem_cons, List.not_mem_nil, or_false] at hf
  rcases hf with rfl | hf
  · exact ⟨0, by kernel_rfl⟩
  rcases hf with rfl | hf
  · exact ⟨0, by kernel_rfl⟩
  rcases hf with rfl | hf
  · exact ⟨7, by kernel_rfl⟩
  subst hf
  exact ⟨511, by kernel_rfl⟩
theorem ti_85 : TIok Go.Proofs.Try.prog 85 (.struct [0, 1, 2, 10] 522) := by
  refine ⟨_, Go.Proofs.Try.underlying85, by kernel_rfl, by rfl, ?_⟩
  intro f hf
  simp only [List.mem_cons, List.not_mem_nil, or_false] at hf
  rcases hf with rfl | hf
  · exact ⟨0, by kernel_rfl⟩
  rcases hf with rfl | hf
  · exact ⟨0, by kernel_rfl⟩
  rcases hf with rfl | hf
  · exact ⟨7, by kernel_rfl⟩
  subst hf
  exact ⟨511, by kernel_rfl⟩
theorem ti_101 : TIok Go.Proofs.Try.prog 101 (.slice 1) := ⟨22, Go.Proofs.Try.underlying101, by kernel_rfl, by kernel_rfl⟩
theorem ti_127 : TIok Go.Proofs.Try.prog 127 (.struct [0, 1, 2] 3) := by
  refine ⟨_, Go.Proofs.Try.underlying127, by kernel_rfl, by rfl, ?_⟩
  intro f hf
  simp only [List.mem_cons, List.not_mem_nil, or_false] at hf
  rcases hf with rfl | hf
  · exact ⟨0, by kernel_rfl⟩
  rcases hf with rfl | hf
  · exact ⟨0, by kernel_rfl⟩
  subst hf
  exact ⟨0, by kernel_rfl⟩
theorem ti_128 : TIok Go.Proofs.Try.prog 128 (.struct [0, 1, 2] 3) := by
  refine ⟨_, Go.Proofs.Try.underlying128, by kernel_rfl, by rfl, ?_⟩
  intro f hf
  simp only [List.mem_cons, List.not_mem_nil, or_false] at hf
  rcases hf with rfl | hf
  · exact ⟨0, by kernel_rfl⟩
  rcases hf with rfl | hf
  · exact ⟨0, by kernel_rfl⟩
  subst hf
  exact ⟨0, by kernel_rfl⟩
theorem ti_140 : TIok Go.Proofs.Try.prog 140 (.struct [0, 1, 2] 3) := by
  refine ⟨_, Go.Proofs.Try.underlying140, by kernel_rfl, by rfl, ?_⟩
  intro f hf
  simp only [List.mem_cons, List.not_mem_nil, or_false] at hf
  rcases hf with rfl | hf
  · exact ⟨0, by kernel_rfl⟩
  rcases hf with rfl | hf
  · exact ⟨0, by kernel_rfl⟩
  subst hf
  exact ⟨0, by kernel_rfl⟩
theorem ti_141 : TIok Go.Proofs.Try.prog 141 (.struct [0, 1, 2] 3) := by
  refine ⟨_, Go.Proofs.Try.underlying141, by kernel_rfl, by rfl, ?_⟩
  intro f hf
  simp only [List.mem_cons, List.not_mem_nil, or_false] at hf
  rcases hf with rfl | hf
  · exact ⟨0, by kernel_rfl⟩
  rcases hf with rfl | hf
  · exact ⟨0, by kernel_rfl⟩
  subst hf
  exact ⟨0, by kernel_rfl⟩
theorem ti_150 : TIok Go.Proofs.Try.prog 150 (.int .u64) := ⟨Go.Proofs.Try.underlying150, by kernel_rfl⟩
theorem ti_151 : TIok Go.Proofs.Try.prog 151 (.slice 522) := ⟨31, Go.Proofs.Try.underlying151, by kernel_rfl, by kernel_rfl⟩
theorem ti_166 : TIok Go.Proofs.Try.prog 166 (.slice 64) := ⟨27, Go.Proofs.Try.underlying166, by kernel_rfl, by kernel_rfl⟩
theorem ti_190 : TIok Go.Proofs.Try.prog 190 (.int .u32) := ⟨Go.Proofs.Try.underlying190, by kernel_rfl⟩
theorem ti_191 : TIok Go.Proofs.Try.prog 191 (.int .u8) := ⟨Go.Proofs.Try.underlying191, by kernel_rfl⟩
theorem ti_192 : TIok Go.Proofs.Try.prog 192 (.int .u8) := ⟨Go.Proofs.Try.underlying192, by kernel_rfl⟩
theorem ti_195 : TIok Go.Proofs.Try.prog 195 (.int .i32) := ⟨Go.Proofs.Try.underlying195, by kernel_rfl⟩
theorem ti_196 : TIok Go.Proofs.Try.prog 196 (.int .i32) := ⟨Go.Proofs.Try.underlying196, by kernel_rfl⟩
theorem z_2 : (Go.Proofs.Try.prog.info? 2).map (·.zero) = some (some (toVal (fun _ => 0) (.int .i64 0))) := by kernel_rfl
theorem z_3 : (Go.Proofs.Try.prog.info? 3).map (·.zero) = some (some (toVal (fun _ => 0) (.int .i64 0))) := by kernel_rfl
theorem z_4 : (Go.Proofs.Try.prog.info? 4).map (·.zero) = some (some (toVal (fun _ => 0) (.bool false))) := by kernel_rfl
theorem z_5 : (Go.Proofs.Try.prog.info? 5).map (·.zero) = some (some (toVal (fun _ => 0) (.int .u8 0))) := by kernel_rfl
theorem z_6 : (Go.Proofs.Try.prog.info? 6).map (·.zero) = some (some (toVal (fun _ => 0) (.int .u8 0))) := by kernel_rfl
theorem z_7 : (Go.Proofs.Try.prog.info? 7).map (·.zero) = some (some (toVal (fun _ => 0) (.pair (.int .i64 0) (.pair (.int .i64 0) (.pair (.bool false) (.pair (.int .u8 0) .unit)))))) := by kernel_rfl
theorem z_8 : (Go.Proofs.Try.prog.info? 8).map (·.zero) = some (some (toVal (fun _ => 0) (.pair (.int .i64 0) (.pair (.int .i64 0) (.pair (.bool false) (.pair (.int .u8 0) .unit)))))) := by kernel_rfl
theorem z_12 : (Go.Proofs.Try.prog.info? 12).map (·.zero) = some (some (toVal (fun _ => 0) (.int .u64 0))) := by kernel_rfl
theorem z_13 : (Go.Proofs.Try.prog.info? 13).map (·.zero) = some (some (toVal (fun _ => 0) (.pair (.str ByteArray.empty) (.pair (.int .u64 0) .unit)))) := by kernel_rfl
theorem z_14 : (Go.Proofs.Try.prog.info? 14).map (·.zero) = some (some (toVal (fun _ => 0) (.pair (.str ByteArray.empty) (.pair (.int .u64 0) .unit)))) := by kernel_rfl
theorem z_21 : (Go.Proofs.Try.prog.info? 21).map (·.zero) = some (some (toVal (fun _ => 0) (.int .i32 0))) := by kernel_rfl
theorem z_22 : (Go.Proofs.Try.prog.info? 22).map (·.zero) = some (some (toVal (fun _ => 0) .nilsl)) := by kernel_rfl
theorem z_24 : (Go.Proofs.Try.prog.info? 24).map (·.zero) = some (some (toVal (fun _ => 0) (.ints .u8 8 fun _ => 0))) := by kernel_rfl
theorem z_25 : (Go.Proofs.Try.prog.info? 25).map (·.zero) = some (some (toVal (fun _ => 0) (.ints .u8 8 fun _ => 0))) := by kernel_rfl
theorem z_26 : (Go.Proofs.Try.prog.info? 26).map (·.zero) = some (some (toVal (fun _ => 0) (.ints .u8 64 fun _ => 0))) := by kernel_rfl
theorem z_27 : (Go.Proofs.Try.prog.info? 27).map (·.zero) = some (some (toVal (fun _ => 0) (.ints .u8 64 fun _ => 0))) := by kernel_rfl
theorem z_28 : (Go.Proofs.Try.prog.info? 28).map (·.zero) = some (some (toVal (fun _ => 0) (.ints .u8 512 fun _ => 0))) := by kernel_rfl
theorem z_29 : (Go.Proofs.Try.prog.info? 29).map (·.zero) = some (some (toVal (fun _ => 0) (.ints .u8 512 fun _ => 0))) := by kernel_rfl
theorem z_30 : (Go.Proofs.Try.prog.info? 30).map (·.zero) = some (some (toVal (fun _ => 0) (.pair (.int .i64 0) (.pair (.int .i64 0) (.pair (.ints .u8 8 fun _ => 0) (.pair (.ints .u8 512 fun _ => 0) .unit)))))) := by kernel_rfl
theorem z_31 : (Go.Proofs.Try.prog.info? 31).map (·.zero) = some (some (toVal (fun _ => 0) (.pair (.int .i64 0) (.pair (.int .i64 0) (.pair (.ints .u8 8 fun _ => 0) (.pair (.ints .u8 512 fun _ => 0) .unit)))))) := by kernel_rfl
theorem z_36 : (Go.Proofs.Try.prog.info? 36).map (·.zero) = some (some (toVal (fun _ => 0) .nilsl)) := by kernel_rfl
theorem z_45 : (Go.Proofs.Try.prog.info? 45).map (·.zero) = some (some (toVal (fun _ => 0) .nilsl)) := by kernel_rfl
theorem z_52 : (Go.Proofs.Try.prog.info? 52).map (·.zero) = some (some (toVal (fun _ => 0) (.pair (.int .i64 0) (.pair (.int .i64 0) (.pair (.ints .u8 8 fun _ => 0) (.pair (.ints .u8 512 fun _ => 0) .unit)))))) := by kernel_rfl
theorem z_53 : (Go.Proofs.Try.prog.info? 53).map (·.zero) = some (some (toVal (fun _ => 0) (.pair (.int .i64 0) (.pair (.int .i64 0) (.pair (.ints .u8 8 fun _ => 0) (.pair (.ints .u8 512 fun _ => 0) .unit)))))) := by kernel_rfl
theorem z_70 : (Go.Proofs.Try.prog.info? 70).map (·.zero) = some (some (toVal (fun _ => 0) (.int .u64 0))) := by kernel_rfl
theorem z_82 : (Go.Proofs.Try.prog.info? 82).map (·.zero) = some (some (toVal (fun _ => 0) (.ints .u8 64 fun _ => 0))) := by kernel_rfl
theorem z_83 : (Go.Proofs.Try.prog.info? 83).map (·.zero) = some (some (toVal (fun _ => 0) (.ints .u8 512 fun _ => 0))) := by kernel_rfl
theorem z_84 : (Go.Proofs.Try.prog.info? 84).map (·.zero) = some (some (toVal (fun _ => 0) (.pair (.int .i64 0) (.pair (.int .i64 0) (.pair (.ints .u8 8 fun _ => 0) (.pair (.ints .u8 512 fun _ => 0) .unit)))))) := by kernel_rfl
theorem z_85 : (Go.Proofs.Try.prog.info? 85).map (·.zero) = some (some (toVal (fun _ => 0) (.pair (.int .i64 0) (.pair (.int .i64 0) (.pair (.ints .u8 8 fun _ => 0) (.pair (.ints .u8 512 fun _ => 0) .unit)))))) := by kernel_rfl
theorem z_101 : (Go.Proofs.Try.prog.info? 101).map (·.zero) = some (some (toVal (fun _ => 0) .nilsl)) := by kernel_rfl
theorem z_127 : (Go.Proofs.Try.prog.info? 127).map (·.zero) = some (some (toVal (fun _ => 0) (.pair .nilsl (.pair (.int .i64 0) (.pair (.int .u64 0) .unit))))) := by kernel_rfl
theorem z_128 : (Go.Proofs.Try.prog.info? 128).map (·.zero) = some (some (toVal (fun _ => 0) (.pair .nilsl (.pair (.int .i64 0) (.pair (.int .u64 0) .unit))))) := by kernel_rfl
theorem z_140 : (Go.Proofs.Try.prog.info? 140).map (·.zero) = some (some (toVal (fun _ => 0) (.pair .nilsl (.pair (.int .i64 0) (.pair (.int .u64 0) .unit))))) := by kernel_rfl
theorem z_141 : (Go.Proofs.Try.prog.info? 141).map (·.zero) = some (some (toVal (fun _ => 0) (.pair .nilsl (.pair (.int .i64 0) (.pair (.int .u64 0) .unit))))) := by kernel_rfl
theorem z_150 : (Go.Proofs.Try.prog.info? 150).map (·.zero) = some (some (toVal (fun _ => 0) (.int .u64 0))) := by kernel_rfl
theorem z_151 : (Go.Proofs.Try.prog.info? 151).map (·.zero) = some (some (toVal (fun _ => 0) .nilsl)) := by kernel_rfl
theorem z_166 : (Go.Proofs.Try.prog.info? 166).map (·.zero) = some (some (toVal (fun _ => 0) .nilsl)) := by kernel_rfl
theorem z_190 : (Go.Proofs.Try.prog.info? 190).map (·.zero) = some (some (toVal (fun _ => 0) (.int .u32 0))) := by kernel_rfl
theorem z_191 : (Go.Proofs.Try.prog.info? 191).map (·.zero) = some (some (toVal (fun _ => 0) (.int .u8 0))) := by kernel_rfl
theorem z_192 : (Go.Proofs.Try.prog.info? 192).map (·.zero) = some (some (toVal (fun _ => 0) (.int .u8 0))) := by kernel_rfl
theorem z_195 : (Go.Proofs.Try.prog.info? 195).map (·.zero) = some (some (toVal (fun _ => 0) (.int .i32 0))) := by kernel_rfl
theorem z_196 : (Go.Proofs.Try.prog.info? 196).map (·.zero) = some (some (toVal (fun _ => 0) (.int .i32 0))) := by kernel_rfl

theorem tiAll : ∀ p ∈ tiList, TIok Go.Proofs.Try.prog p.1 p.2 := by
  intro p hp
  simp only [tiList, List.mem_cons, List.not_mem_nil, or_false] at hp
  rcases hp with rfl | rfl | rfl | rfl | rfl | rfl | rfl | rfl | rfl | rfl | rfl | rfl | rfl | rfl | rfl | rfl | rfl | rfl | rfl | rfl | rfl | rfl | rfl | rfl | rfl | rfl | rfl | rfl | rfl | rfl | rfl | rfl | rfl | rfl | rfl | rfl | rfl | rfl | rfl | rfl | rfl | rfl | rfl | rfl | rfl
  · exact ti_2
  · exact ti_3
  · exact ti_4
  · exact ti_5
  · exact ti_6
  · exact ti_7
  · exact ti_8
  · exact ti_9
  · exact ti_10
  · exact ti_11
  · exact ti_12
  · exact ti_13
  · exact ti_14
  · exact ti_21
  · exact ti_22
  · exact ti_24
  · exact ti_25
  · exact ti_26
  · exact ti_27
  · exact ti_28
  · exact ti_29
  · exact ti_30
  · exact ti_31
  · exact ti_36
  · exact ti_45
  · exact ti_52
  · exact ti_53
  · exact ti_70
  · exact ti_82
  · exact ti_83
  · exact ti_84
  · exact ti_85
  · exact ti_101
  · exact ti_127
  · exact ti_128
  · exact ti_140
  · exact ti_141
  · exact ti_150
  · exact ti_151
  · exact ti_166
  · exact ti_190
  · exact ti_191
  · exact ti_192
  · exact ti_195
  · exact ti_196
theorem zAll : ∀ p ∈ zList, (Go.Proofs.Try.prog.info? p.1).map (·.zero) = some (some (toVal (fun _ => 0) p.2)) ∧ p.2.ids = [] := by
  intro p hp
  simp only [zList, List.mem_cons, List.not_mem_nil, or_false] at hp
  rcases hp with rfl | rfl | rfl | rfl | rfl | rfl | rfl | rfl | rfl | rfl | rfl | rfl | rfl | rfl | rfl | rfl | rfl | rfl | rfl | rfl | rfl | rfl | rfl | rfl | rfl | rfl | rfl | rfl | rfl | rfl | rfl | rfl | rfl | rfl | rfl | rfl | rfl | rfl | rfl | rfl | rfl | rfl
  · exact ⟨z_2, rfl⟩
  · exact ⟨z_3, rfl⟩
  · exact ⟨z_4, rfl⟩
  · exact ⟨z_5, rfl⟩
  · exact ⟨z_6, rfl⟩
  · exact ⟨z_7, rfl⟩
  · exact ⟨z_8, rfl⟩
  · exact ⟨z_12, rfl⟩
  · exact ⟨z_13, rfl⟩
  · exact ⟨z_14, rfl⟩
  · exact ⟨z_21, rfl⟩
  · exact ⟨z_22, rfl⟩
  · exact ⟨z_24, rfl⟩
  · exact ⟨z_25, rfl⟩
  · exact ⟨z_26, rfl⟩
  · exact ⟨z_27, rfl⟩
  · exact ⟨z_28, rfl⟩
  · exact ⟨z_29, rfl⟩
  · exact ⟨z_30, rfl⟩
  · exact ⟨z_31, rfl⟩
  · exact ⟨z_36, rfl⟩
  · exact ⟨z_45, rfl⟩
  · exact ⟨z_52, rfl⟩
  · exact ⟨z_53, rfl⟩
  · exact ⟨z_70, rfl⟩
  · exact ⟨z_82, rfl⟩
  · exact ⟨z_83, rfl⟩
  · exact ⟨z_84, rfl⟩
  · exact ⟨z_85, rfl⟩
  · exact ⟨z_101, rfl⟩
  · exact ⟨z_127, rfl⟩
  · exact ⟨z_128, rfl⟩
  · exact ⟨z_140, rfl⟩
  · exact ⟨z_141, rfl⟩
  · exact ⟨z_150, rfl⟩
  · exact ⟨z_151, rfl⟩
  · exact ⟨z_166, rfl⟩
  · exact ⟨z_190, rfl⟩
  · exact ⟨z_191, rfl⟩
  · exact ⟨z_192, rfl⟩
  · exact ⟨z_195, rfl⟩
  · exact ⟨z_196, rfl⟩
theorem eAll : ∀ p ∈ e0List, ∃ e, Go.Proofs.Try.prog.underlying p.1 = some (.slice e) ∧ (Go.Proofs.Try.prog.info? e).map (·.zero) = some (some (toVal (fun _ => 0) p.2)) := by
  intro p hp
  simp only [e0List, List.mem_cons, List.not_mem_nil, or_false] at hp
  rcases hp with rfl | rfl | rfl | rfl
  · exact ⟨5, Go.Proofs.Try.underlying22, z_5⟩
  · exact ⟨25, Go.Proofs.Try.underlying36, z_25⟩
  · exact ⟨2, Go.Proofs.Try.underlying45, z_2⟩
  · exact ⟨27, Go.Proofs.Try.underlying166, z_27⟩
theorem row_24 : RowT Go.Proofs.Try.prog 24 .u8 8 1 := .one Go.Proofs.Try.underlying24 Go.Proofs.Try.underlying5 (by kernel_rfl)
theorem row_25 : RowT Go.Proofs.Try.prog 25 .u8 8 1 := .one Go.Proofs.Try.underlying25 Go.Proofs.Try.underlying5 (by kernel_rfl)
theorem row_26 : RowT Go.Proofs.Try.prog 26 .u8 64 2 := .more Go.Proofs.Try.underlying26 row_25 (by kernel_rfl)
theorem row_27 : RowT Go.Proofs.Try.prog 27 .u8 64 2 := .more Go.Proofs.Try.underlying27 row_25 (by kernel_rfl)
theorem row_28 : RowT Go.Proofs.Try.prog 28 .u8 512 3 := .more Go.Proofs.Try.underlying28 row_27 (by kernel_rfl)
theorem row_29 : RowT Go.Proofs.Try.prog 29 .u8 512 3 := .more Go.Proofs.Try.underlying29 row_27 (by kernel_rfl)
theorem row_82 : RowT Go.Proofs.Try.prog 82 .u8 64 2 := .more Go.Proofs.Try.underlying82 row_24 (by kernel_rfl)
theorem row_83 : RowT Go.Proofs.Try.prog 83 .u8 512 3 := .more Go.Proofs.Try.underlying83 row_82 (by kernel_rfl)
theorem flt_30 : ∃ fs : Array Field, Go.Proofs.Try.prog.underlying 30 = some (.struct fs) ∧ FldsT Go.Proofs.Try.prog 0 fs.toList [.int .i64, .int .i64, .row .u8 8, .row .u8 512] := ⟨_, Go.Proofs.Try.underlying30, .int (by decide) rfl Go.Proofs.Try.underlying2 (by kernel_rfl) (.int (by decide) rfl Go.Proofs.Try.underlying2 (by kernel_rfl) (.row (by decide) rfl row_25 (by omega) (by kernel_rfl) (.row (by decide) rfl row_29 (by omega) (by kernel_rfl) (.nil))))⟩
theorem fl_30 : PairOK Go.Proofs.Try.prog 30 [.int .i64, .int .i64, .row .u8 8, .row .u8 512] := by
  obtain ⟨fs, h1, h2⟩ := flt_30
  exact .of h1 h2 (by kernel_rfl) (by kernel_rfl)
theorem flt_31 : ∃ fs : Array Field, Go.Proofs.Try.prog.underlying 31 = some (.struct fs) ∧ FldsT Go.Proofs.Try.prog 0 fs.toList [.int .i64, .int .i64, .row .u8 8, .row .u8 512] := ⟨_, Go.Proofs.Try.underlying31, .int (by decide) rfl Go.Proofs.Try.underlying2 (by kernel_rfl) (.int (by decide) rfl Go.Proofs.Try.underlying2 (by kernel_rfl) (.row (by decide) rfl row_25 (by omega) (by kernel_rfl) (.row (by decide) rfl row_29 (by omega) (by kernel_rfl) (.nil))))⟩
theorem fl_31 : PairOK Go.Proofs.Try.prog 31 [.int .i64, .int .i64, .row .u8 8, .row .u8 512] := by
  obtain ⟨fs, h1, h2⟩ := flt_31
  exact .of h1 h2 (by kernel_rfl) (by kernel_rfl)
theorem flt_52 : ∃ fs : Array Field, Go.Proofs.Try.prog.underlying 52 = some (.struct fs) ∧ FldsT Go.Proofs.Try.prog 0 fs.toList [.int .i64, .int .i64, .row .u8 8, .row .u8 512] := ⟨_, Go.Proofs.Try.underlying52, .int (by decide) rfl Go.Proofs.Try.underlying2 (by kernel_rfl) (.int (by decide) rfl Go.Proofs.Try.underlying2 (by kernel_rfl) (.row (by decide) rfl row_25 (by omega) (by kernel_rfl) (.row (by decide) rfl row_29 (by omega) (by kernel_rfl) (.nil))))⟩
theorem fl_52 : PairOK Go.Proofs.Try.prog 52 [.int .i64, .int .i64, .row .u8 8, .row .u8 512] := by
  obtain ⟨fs, h1, h2⟩ := flt_52
  exact .of h1 h2 (by kernel_rfl) (by kernel_rfl)
theorem flt_53 : ∃ fs : Array Field, Go.Proofs.Try.prog.underlying 53 = some (.struct fs) ∧ FldsT Go.Proofs.Try.prog 0 fs.toList [.int .i64, .int .i64, .row .u8 8, .row .u8 512] := ⟨_, Go.Proofs.Try.underlying53, .int (by decide) rfl Go.Proofs.Try.underlying2 (by kernel_rfl) (.int (by decide) rfl Go.Proofs.Try.underlying2 (by kernel_rfl) (.row (by decide) rfl row_25 (by omega) (by kernel_rfl) (.row (by decide) rfl row_29 (by omega) (by kernel_rfl) (.nil))))⟩
theorem fl_53 : PairOK Go.Proofs.Try.prog 53 [.int .i64, .int .i64, .row .u8 8, .row .u8 512] := by
  obtain ⟨fs, h1, h2⟩ := flt_53
  exact .of h1 h2 (by kernel_rfl) (by kernel_rfl)
theorem flt_84 : ∃ fs : Array Field, Go.Proofs.Try.prog.underlying 84 = some (.struct fs) ∧ FldsT Go.Proofs.Try.prog 0 fs.toList [.int .i64, .int .i64, .row .u8 8, .row .u8 512] := ⟨_, Go.Proofs.Try.underlying84, .int (by decide) rfl Go.Proofs.Try.underlying2 (by kernel_rfl) (.int (by decide) rfl Go.Proofs.Try.underlying2 (by kernel_rfl) (.row (by decide) rfl row_24 (by omega) (by kernel_rfl) (.row (by decide) rfl row_83 (by omega) (by kernel_rfl) (.nil))))⟩
theorem fl_84 : PairOK Go.Proofs.Try.prog 84 [.int .i64, .int .i64, .row .u8 8, .row .u8 512] := by
  obtain ⟨fs, h1, h2⟩ := flt_84
  exact .of h1 h2 (by kernel_rfl) (by kernel_rfl)
theorem flt_85 : ∃ fs : Array Field, Go.Proofs.Try.prog.underlying 85 = some (.struct fs) ∧ FldsT Go.Proofs.Try.prog 0 fs.toList [.int .i64, .int .i64, .row .u8 8, .row .u8 512] := ⟨_, Go.Proofs.Try.underlying85, .int (by decide) rfl Go.Proofs.Try.underlying2 (by kernel_rfl) (.int (by decide) rfl Go.Proofs.Try.underlying2 (by kernel_rfl) (.row (by decide) rfl row_24 (by omega) (by kernel_rfl) (.row (by decide) rfl row_83 (by omega) (by kernel_rfl) (.nil))))⟩
theorem fl_85 : PairOK Go.Proofs.Try.prog 85 [.int .i64, .int .i64, .row .u8 8, .row .u8 512] := by
  obtain ⟨fs, h1, h2⟩ := flt_85
  exact .of h1 h2 (by kernel_rfl) (by kernel_rfl)
def flList : List (Nat × List FK) := [(30, [.int .i64, .int .i64, .row .u8 8, .row .u8 512]), (31, [.int .i64, .int .i64, .row .u8 8, .row .u8 512]), (52, [.int .i64, .int .i64, .row .u8 8, .row .u8 512]), (53, [.int .i64, .int .i64, .row .u8 8, .row .u8 512]), (84, [.int .i64, .int .i64, .row .u8 8, .row .u8 512]), (85, [.int .i64, .int .i64, .row .u8 8, .row .u8 512])]
def flOf : List (Nat × List FK) → Nat → Option (List FK)
  | [], _ => none
  | (k, x) :: r, t => match Nat.beq k t with | true => some x | false => flOf r t
theorem flOf_ok {R : Nat → List FK → Prop} : ∀ (l : List (Nat × List FK)), (∀ p ∈ l, R p.1 p.2) → ∀ t z, flOf l t = some z → R t z
  | [], _, t, z, h => by cases h
  | (k, x) :: r, h, t, z, hz => by
    unfold flOf at hz
    cases hb : Nat.beq k t with
    | true =>
      have := Nat.eq_of_beq_eq_true hb
      subst this
      simp only [hb] at hz
      cases hz
      exact h (k, x) (by simp)
    | false => simp only [hb] at hz; exact flOf_ok r (fun p hp => h p (by simp [hp])) t z hz
theorem flAll : ∀ p ∈ flList, PairOK Go.Proofs.Try.prog p.1 p.2 := by
  intro p hp
  simp only [flList, List.mem_cons, List.not_mem_nil, or_false] at hp
  rcases hp with rfl | rfl | rfl | rfl | rfl | rfl
  · exact fl_30
  · exact fl_31
  · exact fl_52
  · exact fl_53
  · exact fl_84
  · exact fl_85
theorem fltAll : ∀ p ∈ flList, ∃ fs : Array Field, Go.Proofs.Try.prog.underlying p.1 = some (.struct fs) ∧ FldsT Go.Proofs.Try.prog 0 fs.toList p.2 := by
  intro p hp
  simp only [flList, List.mem_cons, List.not_mem_nil, or_false] at hp
  rcases hp with rfl | rfl | rfl | rfl | rfl | rfl
  · exact flt_30
  · exact flt_31
  · exact flt_52
  · exact flt_53
  · exact flt_84
  · exact flt_85

def eqList : List Nat := [4, 22, 24, 25, 26, 27, 28, 29, 36, 45, 82, 83, 101, 151, 166]
def tab : Tab where
  ti := tiOf tiList
  zero := zOf zList
  eqs := memN eqList
  elem0 := zOf e0List
  flds := flOf flList
theorem tabOK : TabOK Go.Proofs.Try.prog tab where
  mixed := by kernel_rfl
  ok := tiOf_ok tiList tiAll
  zero := fun t z h => zOf_ok (R := fun t z => (Go.Proofs.Try.prog.info? t).map (·.zero) = some (some (toVal (fun _ => 0) z)) ∧ z.ids = []) zList zAll t z h
  elem0 := fun t z h => zOf_ok (R := fun t z => ∃ e, Go.Proofs.Try.prog.underlying t = some (.slice e) ∧ (Go.Proofs.Try.prog.info? e).map (·.zero) = some (some (toVal (fun _ => 0) z))) e0List eAll t z h
  flds := fun t ks h => flOf_ok (R := fun t ks => ∃ fs : Array Field, Go.Proofs.Try.prog.underlying t = some (.struct fs) ∧ FldsT Go.Proofs.Try.prog 0 fs.toList ks) flList fltAll t ks h
theorem eq_4 : EqOK Go.Proofs.Try.prog tab 4 := .bool Go.Proofs.Try.underlying4 rfl
theorem eq_22 : EqOK Go.Proofs.Try.prog tab 22 := .slice Go.Proofs.Try.underlying22 rfl
theorem eq_24 : EqOK Go.Proofs.Try.prog tab 24 := .row row_24 (by omega) (by kernel_rfl) rfl
theorem eq_25 : EqOK Go.Proofs.Try.prog tab 25 := .row row_25 (by omega) (by kernel_rfl) rfl
theorem eq_26 : EqOK Go.Proofs.Try.prog tab 26 := .row row_26 (by omega) (by kernel_rfl) rfl
theorem eq_27 : EqOK Go.Proofs.Try.prog tab 27 := .row row_27 (by omega) (by kernel_rfl) rfl
theorem eq_28 : EqOK Go.Proofs.Try.prog tab 28 := .row row_28 (by omega) (by kernel_rfl) rfl
theorem eq_29 : EqOK Go.Proofs.Try.prog tab 29 := .row row_29 (by omega) (by kernel_rfl) rfl
theorem eq_36 : EqOK Go.Proofs.Try.prog tab 36 := .slice Go.Proofs.Try.underlying36 rfl
theorem eq_45 : EqOK Go.Proofs.Try.prog tab 45 := .slice Go.Proofs.Try.underlying45 rfl
theorem eq_82 : EqOK Go.Proofs.Try.prog tab 82 := .row row_82 (by omega) (by kernel_rfl) rfl
theorem eq_83 : EqOK Go.Proofs.Try.prog tab 83 := .row row_83 (by omega) (by kernel_rfl) rfl
theorem eq_101 : EqOK Go.Proofs.Try.prog tab 101 := .slice Go.Proofs.Try.underlying101 rfl
theorem eq_151 : EqOK Go.Proofs.Try.prog tab 151 := .slice Go.Proofs.Try.underlying151 rfl
theorem eq_166 : EqOK Go.Proofs.Try.prog tab 166 := .slice Go.Proofs.Try.underlying166 rfl
theorem tabEq : TabEq Go.Proofs.Try.prog tab where
  eqs := fun t h => by
    have h := (memN_iff eqList t).1 h
    simp only [eqList, List.mem_cons, List.not_mem_nil, or_false] at h
    rcases h with rfl | rfl | rfl | rfl | rfl | rfl | rfl | rfl | rfl | rfl | rfl | rfl | rfl | rfl | rfl
    · exact eq_4
    · exact eq_22
    · exact eq_24
    · exact eq_25
    · exact eq_26
    · exact eq_27
    · exact eq_28
    · exact eq_29
    · exact eq_36
    · exact eq_45
    · exact eq_82
    · exact eq_83
    · exact eq_101
    · exact eq_151
    · exact eq_166
  flds := fun t fs h => flOf_ok flList flAll t fs h
end Go.Proofs.Ytnbfpmcpakpboaa
