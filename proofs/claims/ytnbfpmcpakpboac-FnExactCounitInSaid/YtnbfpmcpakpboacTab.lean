/- The table of this translation's types, and that it is right: closed facts alone. -/
import Derived.Test.YtnbfpmcpakpboacEq
import Derived.Test.YtnbfpmcpakpboacProg
import Derived.KernelRfl
set_option linter.unusedVariables false
set_option maxRecDepth 100000
namespace Go.Proofs.Ytnbfpmcpakpboac

def tiOf : List (Nat × TI) → Nat → TI
  | [], _ => .other
  | (k, x) :: r, t => match Nat.beq k t with | true => x | false => tiOf r t
def zOf : List (Nat × SV) → Nat → Option SV
  | [], _ => none
  | (k, x) :: r, t => match Nat.beq k t with | true => some x | false => zOf r t
theorem tiOf_ok {P : Program} : ∀ (l : List (Nat × TI)), (∀ p ∈ l, TIok P p.1 p.2) → ∀ t, TIok P t (tiOf l t)
  | [], _, t => trivial
  | (k, x) :: r, h, t => by
    unfold tiOf
    cases hb : Nat.beq k t with
    | true => have := Nat.eq_of_beq_eq_true hb; subst this; exact h (k, x) (by simp)
    | false => exact tiOf_ok r (fun p hp => h p (by simp [hp])) t
theorem zOf_ok {R : Nat → SV → Prop} : ∀ (l : List (Nat × SV)), (∀ p ∈ l, R p.1 p.2) → ∀ t z, zOf l t = some z → R t z
  | [], _, t, z, h => by cases h
  | (k, x) :: r, h, t, z, hz => by
    unfold zOf at hz
    cases hb : Nat.beq k t with
    | true =>
      have := Nat.eq_of_beq_eq_true hb
      subst this
      simp only [hb] at hz
      cases hz
      exact h (k, x) (by simp)
    | false => simp only [hb] at hz; exact zOf_ok r (fun p hp => h p (by simp [hp])) t z hz

def tiList : List (Nat × TI) := [(2, .int .i64), (3, .int .i64), (4, .scalar), (5, .int .u8), (6, .int .u8), (7, .struct [0, 1, 2, 3] 4), (8, .struct [0, 1, 2, 3] 4), (9, .scalar), (10, .scalar), (11, .scalar), (12, .int .u64), (13, .struct [0, 1] 2), (14, .struct [0, 1] 2), (21, .int .i32), (22, .arr 8 1 false), (23, .arr 8 8 true), (24, .arr 8 64 true), (25, .struct [0, 1, 2, 10] 522), (26, .struct [0, 1, 2, 10] 522), (27, .arr 8 1 false), (28, .arr 8 8 true), (29, .arr 8 8 true), (32, .arr 8 64 true), (33, .arr 8 64 true), (34, .struct [0, 1, 2, 10] 522), (35, .struct [0, 1, 2, 10] 522), (42, .struct [0, 1, 2, 10] 522), (43, .struct [0, 1, 2, 10] 522), (46, .struct [0, 1, 2, 10] 522), (47, .struct [0, 1, 2, 10] 522), (60, .slice 8), (68, .slice 8), (91, .slice 1), (94, .slice 1), (109, .slice 1), (114, .slice 64), (136, .slice 522), (155, .int .u32), (156, .int .u8), (157, .int .u8), (160, .int .i32), (161, .int .i32)]
def zList : List (Nat × SV) := [(2, (.int .i64 0)), (3, (.int .i64 0)), (4, (.bool false)), (5, (.int .u8 0)), (6, (.int .u8 0)), (7, (.pair (.int .i64 0) (.pair (.int .i64 0) (.pair (.bool false) (.pair (.int .u8 0) .unit))))), (8, (.pair (.int .i64 0) (.pair (.int .i64 0) (.pair (.bool false) (.pair (.int .u8 0) .unit))))), (12, (.int .u64 0)), (13, (.pair (.str ByteArray.empty) (.pair (.int .u64 0) .unit))), (14, (.pair (.str ByteArray.empty) (.pair (.int .u64 0) .unit))), (21, (.int .i32 0)), (22, (.ints .u8 8 fun _ => 0)), (23, (.ints .u8 64 fun _ => 0)), (24, (.ints .u8 512 fun _ => 0)), (25, (.pair (.int .i64 0) (.pair (.int .i64 0) (.pair (.ints .u8 8 fun _ => 0) (.pair (.ints .u8 512 fun _ => 0) .unit))))), (26, (.pair (.int .i64 0) (.pair (.int .i64 0) (.pair (.ints .u8 8 fun _ => 0) (.pair (.ints .u8 512 fun _ => 0) .unit))))), (27, (.ints .u8 8 fun _ => 0)), (28, (.ints .u8 64 fun _ => 0)), (29, (.ints .u8 64 fun _ => 0)), (32, (.ints .u8 512 fun _ => 0)), (33, (.ints .u8 512 fun _ => 0)), (34, (.pair (.int .i64 0) (.pair (.int .i64 0) (.pair (.ints .u8 8 fun _ => 0) (.pair (.ints .u8 512 fun _ => 0) .unit))))), (35, (.pair (.int .i64 0) (.pair (.int .i64 0) (.pair (.ints .u8 8 fun _ => 0) (.pair (.ints .u8 512 fun _ => 0) .unit))))), (42, (.pair (.int .i64 0) (.pair (.int .i64 0) (.pair (.ints .u8 8 fun _ => 0) (.pair (.ints .u8 512 fun _ => 0) .unit))))), (43, (.pair (.int .i64 0) (.pair (.int .i64 0) (.pair (.ints .u8 8 fun _ => 0) (.pair (.ints .u8 512 fun _ => 0) .unit))))), (46, (.pair (.int .i64 0) (.pair (.int .i64 0) (.pair (.ints .u8 8 fun _ => 0) (.pair (.ints .u8 512 fun _ => 0) .unit))))), (47, (.pair (.int .i64 0) (.pair (.int .i64 0) (.pair (.ints .u8 8 fun _ => 0) (.pair (.ints .u8 512 fun _ => 0) .unit))))), (60, .nilsl), (68, .nilsl), (91, .nilsl), (94, .nilsl), (109, .nilsl), (114, .nilsl), (136, .nilsl), (155, (.int .u32 0)), (156, (.int .u8 0)), (157, (.int .u8 0)), (160, (.int .i32 0)), (161, (.int .i32 0))]
def e0List : List (Nat × SV) := [(60, .ints .u8 8 fun _ => 0), (68, .ints .u8 8 fun _ => 0), (91, .int .u8 0), (109, .int .i64 0), (114, .ints .u8 64 fun _ => 0)]
theorem ti_2 : TIok Go.Proofs.Try.prog 2 (.int .i64) := ⟨Go.Proofs.Try.underlying2, by kernel_rfl⟩
theorem ti_3 : TIok Go.Proofs.Try.prog 3 (.int .i64) := ⟨Go.Proofs.Try.underlying3, by kernel_rfl⟩
theorem ti_4 : TIok Go.Proofs.Try.prog 4 (.scalar) := ⟨⟨_, Go.Proofs.Try.underlying4, rfl⟩, by kernel_rfl⟩
theorem ti_5 : TIok Go.Proofs.Try.prog 5 (.int .u8) := ⟨Go.Proofs.Try.underlying5, by kernel_rfl⟩
theorem ti_6 : TIok Go.Proofs.Try.prog 6 (.int .u8) := ⟨Go.Proofs.Try.underlying6, by kernel_rfl⟩
theorem ti_7 : TIok Go.Proofs.Try.prog 7 (.struct [0, 1, 2, 3] 4) := by
  refine ⟨_, Go.Proofs.Try.underlying7, by kernel_rfl, by rfl, ?_⟩
  intro f hf
  simp only [List.mem_cons, List.not_mem_nil, or_false] at hf
  rcases hf with rfl | hf
  · exact ⟨0, by kernel_rfl⟩
  rcases hf with rfl | hf
  · exact ⟨0, by kernel_rfl⟩
  rcases hf with rfl | hf
  · exact ⟨0, by kernel_rfl⟩
  subst hf
  exact ⟨0, by kernel_rfl⟩
theorem ti_8 : TIok Go.Proofs.Try.prog 8 (.struct [0, 1, 2, 3] 4) := by
  refine ⟨_, Go.Proofs.Try.underlying8, by kernel_rfl, by rfl, ?_⟩
  intro f hf
  simp only [List.mem_cons, List.not_mem_nil, or_false] at hf
  rcases hf with rfl | hf
  · exact ⟨0, by kernel_rfl⟩
  rcases hf with rfl | hf
  · exact ⟨0, by kernel_rfl⟩
  rcases hf with rfl | hf
  · exact ⟨0, by kernel_rfl⟩
  subst hf
  exact ⟨0, by kernel_rfl⟩
theorem ti_9 : TIok Go.Proofs.Try.prog 9 (.scalar) := ⟨⟨_, Go.Proofs.Try.underlying9, rfl⟩, by kernel_rfl⟩
theorem ti_10 : TIok Go.Proofs.Try.prog 10 (.scalar) := ⟨⟨_, Go.Proofs.Try.underlying10, rfl⟩, by kernel_rfl⟩
theorem ti_11 : TIok Go.Proofs.Try.prog 11 (.scalar) := ⟨⟨_, Go.Proofs.Try.underlying11, rfl⟩, by kernel_rfl⟩
theorem ti_12 : TIok Go.Proofs.Try.prog 12 (.int .u64) := ⟨Go.Proofs.Try.underlying12, by kernel_rfl⟩
theorem ti_13 : TIok Go.Proofs.Try.prog 13 (.struct [0, 1] 2) := by
  refine ⟨_, Go.Proofs.Try.underlying13, by kernel_rfl, by rfl, ?_⟩
  intro f hf
  simp only [List.mem_cons, List.not_mem_nil, or_false] at hf
  rcases hf with rfl | hf
  · exact ⟨0, by kernel_rfl⟩
  subst hf
  exact ⟨0, by kernel_rfl⟩
theorem ti_14 : TIok Go.Proofs.Try.prog 14 (.struct [0, 1] 2) := by
  refine ⟨_, Go.Proofs.Try.underlying14, by kernel_rfl, by rfl, ?_⟩
  intro f hf
  simp only [List.mem_cons, List.not_mem_nil, or_false] at hf
  rcases hf with rfl | hf
  · exact ⟨0, by kernel_rfl⟩
  subst hf
  exact ⟨0, by kernel_rfl⟩
theorem ti_21 : TIok Go.Proofs.Try.prog 21 (.int .i32) := ⟨Go.Proofs.Try.underlying21, by kernel_rfl⟩
theorem ti_22 : TIok Go.Proofs.Try.prog 22 (.arr 8 1 false) := ⟨5, _, Go.Proofs.Try.underlying22, by kernel_rfl, by kernel_rfl, Go.Proofs.Try.underlying5, rfl, by omega⟩
theorem ti_23 : TIok Go.Proofs.Try.prog 23 (.arr 8 8 true) := ⟨22, _, Go.Proofs.Try.underlying23, by kernel_rfl, by kernel_rfl, Go.Proofs.Try.underlying22, rfl, by omega⟩
theorem ti_24 : TIok Go.Proofs.Try.prog 24 (.arr 8 64 true) := ⟨23, _, Go.Proofs.Try.underlying24, by kernel_rfl, by kernel_rfl, Go.Proofs.Try.underlying23, rfl, by omega⟩
theorem ti_25 : TIok Go.Proofs.Try.prog 25 (.struct [0, 1, 2, 10] 522) := by
  refine ⟨_, Go.Proofs.Try.underlying25, by kernel_rfl, by rfl, ?_⟩
  intro f hf
  simp only [List.mem_cons, List.not_mem_nil, or_false] at hf
  rcases hf with rfl | hf
  · exact ⟨0, by kernel_rfl⟩
  rcases hf with rfl | hf
  · exact ⟨0, by kernel_rfl⟩
  rcases hf with rfl | hf
  · exact ⟨7, by kernel_rfl⟩
  subst hf
  exact ⟨511, by kernel_rfl⟩
theorem ti_26 : TIok Go.Proofs.Try.prog 26 (.struct [0, 1, 2, 10] 522) := by
  refine ⟨_, Go.Proofs.Try.underlying26, by kernel_rfl, by rfl, ?_⟩
  intro f hf
  simp only [List.mem_cons, List.not_mem_nil, or_false] at hf
  rcases hf with rfl | hf
  · exact ⟨0, by kernel_rfl⟩
  rcases hf with rfl | hf
  · exact ⟨0, by kernel_rfl⟩
  rcases hf with rfl | hf
  · exact ⟨7, by kernel_rfl⟩
  subst hf
  exact ⟨511, by kernel_rfl⟩
theorem ti_27 : TIok Go.Proofs.Try.prog 27 (.arr 8 1 false) := ⟨5, _, Go.Proofs.Try.underlying27, by kernel_rfl, by kernel_rfl, Go.Proofs.Try.underlying5, rfl, by omega⟩
theorem ti_28 : TIok Go.Proofs.Try.prog 28 (.arr 8 8 true) := ⟨27, _, Go.Proofs.Try.underlying28, by kernel_rfl, by kernel_rfl, Go.Proofs.Try.underlying27, rfl, by omega⟩
theorem ti_29 : TIok Go.Proofs.Try.prog 29 (.arr 8 8 true) := ⟨27, _, Go.Proofs.Try.underlying29, by kernel_rfl, by kernel_rfl, Go.Proofs.Try.underlying27, rfl, by omega⟩
theorem ti_32 : TIok Go.Proofs.Try.prog 32 (.arr 8 64 true) := ⟨29, _, Go.Proofs.Try.underlying32, by kernel_rfl, by kernel_rfl, Go.Proofs.Try.underlying29, rfl, by omega⟩
theorem ti_33 : TIok Go.Proofs.Try.prog 33 (.arr 8 64 true) := ⟨29, _, Go.Proofs.Try.underlying33, by kernel_rfl, by kernel_rfl, Go.Proofs.Try.underlying29, rfl, by omega⟩
theorem ti_34 : TIok Go.Proofs.Try.prog 34 (.struct [0, 1, 2, 10] 522) := by
  refine ⟨_, Go.Proofs.Try.underlying34, by kernel_rfl, by rfl, ?_⟩
  intro f hf
  simp only [List.mem_cons, List.not_mem_nil, or_false] at hf
  rcases hf with rfl | hf
  · exact ⟨0, by kernel_rfl⟩
  rcases hf with rfl | hf
  · exact ⟨0, by kernel_rfl⟩
  rcases hf with rfl | hf
  · exact ⟨7, by kernel_rfl⟩
  subst hf
  exact ⟨511, by kernel_rfl⟩
theorem ti_35 : TIok Go.Proofs.Try.prog 35 (.struct [0, 1, 2, 10] 522) := by
  refine ⟨_, Go.Proofs.Try.underlying35, by kernel_rfl, by rfl, ?_⟩
  intro f hf
  simp only [List.mem_cons, List.not_mem_nil, or_false] at hf
  rcases hf with rfl | hf
  · exact ⟨0, by kernel_rfl⟩
  rcases hf with rfl | hf
  · exact ⟨0, by kernel_rfl⟩
  rcases hf with rfl | hf
  · exact ⟨7, by kernel_rfl⟩
  subst hf
  exact ⟨511, by kernel_rfl⟩
theorem ti_42 : TIok Go.Proofs.Try.prog 42 (.struct [0, 1, 2, 10] 522) := by
  refine ⟨_, Go.Proofs.Try.underlying42, by kernel_rfl, by rfl, ?_⟩
  intro f hf
  simp only [List.mem_cons, List.not_mem_nil, or_false] at hf
  rcases hf with rfl | hf
  · exact ⟨0, by kernel_rfl⟩
  rcases hf with rfl | hf
  · exact ⟨0, by kernel_rfl⟩
  rcases hf with rfl | hf
  · exact ⟨7, by kernel_rfl⟩
  subst hf
  exact ⟨511, by kernel_rfl⟩
theorem ti_43 : TIok Go.Proofs.Try.prog 43 (.struct [0, 1, 2, 10] 522) := by
  refine ⟨_, Go.Proofs.Try.underlying43, by kernel_rfl, by rfl, ?_⟩
  intro f hf
  simp only [List.mem_cons, List.not_mem_nil, or_false] at hf
  rcases hf with rfl | hf
  · exact ⟨0, by kernel_rfl⟩
  rcases hf with rfl | hf
  · exact ⟨0, by kernel_rfl⟩
  rcases hf with rfl | hf
  · exact ⟨7, by kernel_rfl⟩
  subst hf
  exact ⟨511, by kernel_rfl⟩
theorem ti_46 : TIok Go.Proofs.Try.prog 46 (.struct [0, 1, 2, 10] 522) := by
  refine ⟨_, Go.Proofs.Try.underlying46, by kernel_rfl, by rfl, ?_⟩
  intro f hf
  simp only [List.mem_cons, List.not_mem_nil, or_false] at hf
  rcases hf with rfl | hf
  · exact ⟨0, by kernel_rfl⟩
  rcases hf with rfl | hf
  · exact ⟨0, by kernel_rfl⟩
  rcases hf with rfl | hf
  · exact ⟨7, by kernel_rfl⟩
  subst hf
  exact ⟨511, by kernel_rfl⟩
theorem ti_47 : TIok Go.Proofs.Try.prog 47 (.struct [0, 1, 2, 10] 522) := by
  refine ⟨_, Go.Proofs.Try.underlying47, by kernel_rfl, by rfl, ?_⟩
  intro f hf
  simp only [List.mem_cons, List.not_mem_nil, or_false] at hf
  rcases hf with rfl | hf
  · exact ⟨0, by kernel_rfl⟩
  rcases hf with rfl | hf
  · exact ⟨0, by kernel_rfl⟩
  rcases hf with rfl | hf
  · exact ⟨7, by kernel_rfl⟩
  subst hf
  exact ⟨511, by kernel_rfl⟩
theorem ti_60 : TIok Go.Proofs.Try.prog 60 (.slice 8) := ⟨27, Go.Proofs.Try.underlying60, by kernel_rfl, by kernel_rfl⟩
theorem ti_68 : TIok Go.Proofs.Try.prog 68 (.slice 8) := ⟨22, Go.Proofs.Try.underlying68, by kernel_rfl, by kernel_rfl⟩
theorem ti_91 : TIok Go.Proofs.Try.prog 91 (.slice 1) := ⟨5, Go.Proofs.Try.underlying91, by kernel_rfl, by kernel_rfl⟩
theorem ti_94 : TIok Go.Proofs.Try.prog 94 (.slice 1) := ⟨91, Go.Proofs.Try.underlying94, by kernel_rfl, by kernel_rfl⟩
theorem ti_109 : TIok Go.Proofs.Try.prog 109 (.slice 1) := ⟨2, Go.Proofs.Try.underlying109, by kernel_rfl, by kernel_rfl⟩
theorem ti_114 : TIok Go.Proofs.Try.prog 114 (.slice 64) := ⟨29, Go.Proofs.Try.underlying114, by kernel_rfl, by kernel_rfl⟩
theorem ti_136 : TIok Go.Proofs.Try.prog 136 (.slice 522) := ⟨47, Go.Proofs.Try.underlying136, by kernel_rfl, by kernel_rfl⟩
theorem ti_155 : TIok Go.Proofs.Try.prog 155 (.int .u32) := ⟨Go.Proofs.Try.underlying155, by kernel_rfl⟩
theorem ti_156 : TIok Go.Proofs.Try.prog 156 (.int .u8) := ⟨Go.Proofs.Try.underlying156, by kernel_rfl⟩
theorem ti_157 : TIok Go.Proofs.Try.prog 157 (.int .u8) := ⟨Go.Proofs.Try.underlying157, by kernel_rfl⟩
theorem ti_160 : TIok Go.Proofs.Try.prog 160 (.int .i32) := ⟨Go.Proofs.Try.underlying160, by kernel_rfl⟩
theorem ti_161 : TIok Go.Proofs.Try.prog 161 (.int .i32) := ⟨Go.Proofs.Try.underlying161, by kernel_rfl⟩
theorem z_2 : (Go.Proofs.Try.prog.info? 2).map (·.zero) = some (some (toVal (fun _ => 0) (.int .i64 0))) := by kernel_rfl
theorem z_3 : (Go.Proofs.Try.prog.info? 3).map (·.zero) = some (some (toVal (fun _ => 0) (.int .i64 0))) := by kernel_rfl
theorem z_4 : (Go.Proofs.Try.prog.info? 4).map (·.zero) = some (some (toVal (fun _ => 0) (.bool false))) := by kernel_rfl
theorem z_5 : (Go.Proofs.Try.prog.info? 5).map (·.zero) = some (some (toVal (fun _ => 0) (.int .u8 0))) := by kernel_rfl
theorem z_6 : (Go.Proofs.Try.prog.info? 6).map (·.zero) = some (some (toVal (fun _ => 0) (.int .u8 0))) := by kernel_rfl
theorem z_7 : (Go.Proofs.Try.prog.info? 7).map (·.zero) = some (some (toVal (fun _ => 0) (.pair (.int .i64 0) (.pair (.int .i64 0) (.pair (.bool false) (.pair (.int .u8 0) .unit)))))) := by kernel_rfl
theorem z_8 : (Go.Proofs.Try.prog.info? 8).map (·.zero) = some (some (toVal (fun _ => 0) (.pair (.int .i64 0) (.pair (.int .i64 0) (.pair (.bool false) (.pair (.int .u8 0) .unit)))))) := by kernel_rfl
theorem z_12 : (Go.Proofs.Try.prog.info? 12).map (·.zero) = some (some (toVal (fun _ => 0) (.int .u64 0))) := by kernel_rfl
theorem z_13 : (Go.Proofs.Try.prog.info? 13).map (·.zero) = some (some (toVal (fun _ => 0) (.pair (.str ByteArray.empty) (.pair (.int .u64 0) .unit)))) := by kernel_rfl
theorem z_14 : (Go.Proofs.Try.prog.info? 14).map (·.zero) = some (some (toVal (fun _ => 0) (.pair (.str ByteArray.empty) (.pair (.int .u64 0) .unit)))) := by kernel_rfl
theorem z_21 : (Go.Proofs.Try.prog.info? 21).map (·.zero) = some (some (toVal (fun _ => 0) (.int .i32 0))) := by kernel_rfl
theorem z_22 : (Go.Proofs.Try.prog.info? 22).map (·.zero) = some (some (toVal (fun _ => 0) (.ints .u8 8 fun _ => 0))) := by kernel_rfl
theorem z_23 : (Go.Proofs.Try.prog.info? 23).map (·.zero) = some (some (toVal (fun _ => 0) (.ints .u8 64 fun _ => 0))) := by kernel_rfl
theorem z_24 : (Go.Proofs.Try.prog.info? 24).map (·.zero) = some (some (toVal (fun _ => 0) (.ints .u8 512 fun _ => 0))) := by kernel_rfl
theorem z_25 : (Go.Proofs.Try.prog.info? 25).map (·.zero) = some (some (toVal (fun _ => 0) (.pair (.int .i64 0) (.pair (.int .i64 0) (.pair (.ints .u8 8 fun _ => 0) (.pair (.ints .u8 512 fun _ => 0) .unit)))))) := by kernel_rfl
theorem z_26 : (Go.Proofs.Try.prog.info? 26).map (·.zero) = some (some (toVal (fun _ => 0) (.pair (.int .i64 0) (.pair (.int .i64 0) (.pair (.ints .u8 8 fun _ => 0) (.pair (.ints .u8 512 fun _ => 0) .unit)))))) := by kernel_rfl
theorem z_27 : (Go.Proofs.Try.prog.info? 27).map (·.zero) = some (some (toVal (fun _ => 0) (.ints .u8 8 fun _ => 0))) := by kernel_rfl
theorem z_28 : (Go.Proofs.Try.prog.info? 28).map (·.zero) = some (some (toVal (fun _ => 0) (.ints .u8 64 fun _ => 0))) := by kernel_rfl
theorem z_29 : (Go.Proofs.Try.prog.info? 29).map (·.zero) = some (some (toVal (fun _ => 0) (.ints .u8 64 fun _ => 0))) := by kernel_rfl
theorem z_32 : (Go.Proofs.Try.prog.info? 32).map (·.zero) = some (some (toVal (fun _ => 0) (.ints .u8 512 fun _ => 0))) := by kernel_rfl
theorem z_33 : (Go.Proofs.Try.prog.info? 33).map (·.zero) = some (some (toVal (fun _ => 0) (.ints .u8 512 fun _ => 0))) := by kernel_rfl
theorem z_34 : (Go.Proofs.Try.prog.info? 34).map (·.zero) = some (some (toVal (fun _ => 0) (.pair (.int .i64 0) (.pair (.int .i64 0) (.pair (.ints .u8 8 fun _ => 0) (.pair (.ints .u8 512 fun _ => 0) .unit)))))) := by kernel_rfl
theorem z_35 : (Go.Proofs.Try.prog.info? 35).map (·.zero) = some (some (toVal (fun _ => 0) (.pair (.int .i64 0) (.pair (.int .i64 0) (.pair (.ints .u8 8 fun _ => 0) (.pair (.ints .u8 512 fun _ => 0) .unit)))))) := by kernel_rfl
theorem z_42 : (Go.Proofs.Try.prog.info? 42).map (·.zero) = some (some (toVal (fun _ => 0) (.pair (.int .i64 0) (.pair (.int .i64 0) (.pair (.ints .u8 8 fun _ => 0) (.pair (.ints .u8 512 fun _ => 0) .unit)))))) := by kernel_rfl
theorem z_43 : (Go.Proofs.Try.prog.info? 43).map (·.zero) = some (some (toVal (fun _ => 0) (.pair (.int .i64 0) (.pair (.int .i64 0) (.pair (.ints .u8 8 fun _ => 0) (.pair (.ints .u8 512 fun _ => 0) .unit)))))) := by kernel_rfl
theorem z_46 : (Go.Proofs.Try.prog.info? 46).map (·.zero) = some (some (toVal (fun _ => 0) (.pair (.int .i64 0) (.pair (.int .i64 0) (.pair (.ints .u8 8 fun _ => 0) (.pair (.ints .u8 512 fun _ => 0) .unit)))))) := by kernel_rfl
theorem z_47 : (Go.Proofs.Try.prog.info? 47).map (·.zero) = some (some (toVal (fun _ => 0) (.pair (.int .i64 0) (.pair (.int .i64 0) (.pair (.ints .u8 8 fun _ => 0) (.pair (.ints .u8 512 fun _ => 0) .unit)))))) := by kernel_rfl
theorem z_60 : (Go.Proofs.Try.prog.info? 60).map (·.zero) = some (some (toVal (fun _ => 0) .nilsl)) := by kernel_rfl
theorem z_68 : (Go.Proofs.Try.prog.info? 68).map (·.zero) = some (some (toVal (fun _ => 0) .nilsl)) := by kernel_rfl
theorem z_91 : (Go.Proofs.Try.prog.info? 91).map (·.zero) = some (some (toVal (fun _ => 0) .nilsl)) := by kernel_rfl
theorem z_94 : (Go.Proofs.Try.prog.info? 94).map (·.zero) = some (some (toVal (fun _ => 0) .nilsl)) := by kernel_rfl
theorem z_109 : (Go.Proofs.Try.prog.info? 109).map (·.zero) = some (some (toVal (fun _ => 0) .nilsl)) := by kernel_rfl
theorem z_114 : (Go.Proofs.Try.prog.info? 114).map (·.zero) = some (some (toVal (fun _ => 0) .nilsl)) := by kernel_rfl
theorem z_136 : (Go.Proofs.Try.prog.info? 136).map (·.zero) = some (some (toVal (fun _ => 0) .nilsl)) := by kernel_rfl
theorem z_155 : (Go.Proofs.Try.prog.info? 155).map (·.zero) = some (some (toVal (fun _ => 0) (.int .u32 0))) := by kernel_rfl
theorem z_156 : (Go.Proofs.Try.prog.info? 156).map (·.zero) = some (some (toVal (fun _ => 0) (.int .u8 0))) := by kernel_rfl
theorem z_157 : (Go.Proofs.Try.prog.info? 157).map (·.zero) = some (some (toVal (fun _ => 0) (.int .u8 0))) := by kernel_rfl
theorem z_160 : (Go.Proofs.Try.prog.info? 160).map (·.zero) = some (some (toVal (fun _ => 0) (.int .i32 0))) := by kernel_rfl
theorem z_161 : (Go.Proofs.Try.prog.info? 161).map (·.zero) = some (some (toVal (fun _ => 0) (.int .i32 0))) := by kernel_rfl

theorem tiAll : ∀ p ∈ tiList, TIok Go.Proofs.Try.prog p.1 p.2 := by
  intro p hp
  simp only [tiList, List.mem_cons, List.not_mem_nil, or_false] at hp
  rcases hp with rfl | rfl | rfl | rfl | rfl | rfl | rfl | rfl | rfl | rfl | rfl | rfl | rfl | rfl | rfl | rfl | rfl | rfl | rfl | rfl | rfl | rfl | rfl | rfl | rfl | rfl | rfl | rfl | rfl | rfl | rfl | rfl | rfl | rfl | rfl | rfl | rfl | rfl | rfl | rfl | rfl | rfl
  · exact ti_2
  · exact ti_3
  · exact ti_4
  · exact ti_5
  · exact ti_6
  · exact ti_7
  · exact ti_8
  · exact ti_9
  · exact ti_10
  · exact ti_11
  · exact ti_12
  · exact ti_13
  · exact ti_14
  · exact ti_21
  · exact ti_22
  · exact ti_23
  · exact ti_24
  · exact ti_25
  · exact ti_26
  · exact ti_27
  · exact ti_28
  · exact ti_29
  · exact ti_32
  · exact ti_33
  · exact ti_34
  · exact ti_35
  · exact ti_42
  · exact ti_43
  · exact ti_46
  · exact ti_47
  · exact ti_60
  · exact ti_68
  · exact ti_91
  · exact ti_94
  · exact ti_109
  · exact ti_114
  · exact ti_136
  · exact ti_155
  · exact ti_156
  · exact ti_157
  · exact ti_160
  · exact ti_161
theorem zAll : ∀ p ∈ zList, (Go.Proofs.Try.prog.info? p.1).map (·.zero) = some (some (toVal (fun _ => 0) p.2)) ∧ p.2.ids = [] := by
  intro p hp
  simp only [zList, List.mem_cons, List.not_mem_nil, or_false] at hp
  rcases hp with rfl | rfl | rfl | rfl | rfl | rfl | rfl | rfl | rfl | rfl | rfl | rfl | rfl | rfl | rfl | rfl | rfl | rfl | rfl | rfl | rfl | rfl | rfl | rfl | rfl | rfl | rfl | rfl | rfl | rfl | rfl | rfl | rfl | rfl | rfl | rfl | rfl | rfl | rfl
  · exact ⟨z_2, rfl⟩
  · exact ⟨z_3, rfl⟩
  · exact ⟨z_4, rfl⟩
  · exact ⟨z_5, rfl⟩
  · exact ⟨z_6, rfl⟩
  · exact ⟨z_7, rfl⟩
  · exact ⟨z_8, rfl⟩
  · exact ⟨z_12, rfl⟩
  · exact ⟨z_13, rfl⟩
  · exact ⟨z_14, rfl⟩
  · exact ⟨z_21, rfl⟩
  · exact ⟨z_22, rfl⟩
  · exact ⟨z_23, rfl⟩
  · exact ⟨z_24, rfl⟩
  · exact ⟨z_25, rfl⟩
  · exact ⟨z_26, rfl⟩
  · exact ⟨z_27, rfl⟩
  · exact ⟨z_28, rfl⟩
  · exact ⟨z_29, rfl⟩
  · exact ⟨z_32, rfl⟩
  · exact ⟨z_33, rfl⟩
  · exact ⟨z_34, rfl⟩
  · exact ⟨z_35, rfl⟩
  · exact ⟨z_42, rfl⟩
  · exact ⟨z_43, rfl⟩
  · exact ⟨z_46, rfl⟩
  · exact ⟨z_47, rfl⟩
  · exact ⟨z_60, rfl⟩
  · exact ⟨z_68, rfl⟩
  · exact ⟨z_91, rfl⟩
  · exact ⟨z_94, rfl⟩
  · exact ⟨z_109, rfl⟩
  · exact ⟨z_114, rfl⟩
  · exact ⟨z_136, rfl⟩
  · exact ⟨z_155, rfl⟩
  · exact ⟨z_156, rfl⟩
  · exact ⟨z_157, rfl⟩
  · exact ⟨z_160, rfl⟩
  · exact ⟨z_161, rfl⟩
theorem eAll : ∀ p ∈ e0List, ∃ e, Go.Proofs.Try.prog.underlying p.1 = some (.slice e) ∧ (Go.Proofs.Try.prog.info? e).map (·.zero) = some (some (toVal (fun _ => 0) p.2)) := by
  intro p hp
  simp only [e0List, List.mem_cons, List.not_mem_nil, or_false] at hp
  rcases hp with rfl | rfl | rfl | rfl | rfl
  · exact ⟨27, Go.Proofs.Try.underlying60, z_27⟩
  · exact ⟨22, Go.Proofs.Try.underlying68, z_22⟩
  · exact ⟨5, Go.Proofs.Try.underlying91, z_5⟩
  · exact ⟨2, Go.Proofs.Try.underlying109, z_2⟩
  · exact ⟨29, Go.Proofs.Try.underlying114, z_29⟩
theorem row_22 : RowT Go.Proofs.Try.prog 22 .u8 8 1 := .one Go.Proofs.Try.underlying22 Go.Proofs.Try.underlying5 (by kernel_rfl)
theorem row_23 : RowT Go.Proofs.Try.prog 23 .u8 64 2 := .more Go.Proofs.Try.underlying23 row_22 (by kernel_rfl)
theorem row_24 : RowT Go.Proofs.Try.prog 24 .u8 512 3 := .more Go.Proofs.Try.underlying24 row_23 (by kernel_rfl)
theorem row_27 : RowT Go.Proofs.Try.prog 27 .u8 8 1 := .one Go.Proofs.Try.underlying27 Go.Proofs.Try.underlying5 (by kernel_rfl)
theorem row_28 : RowT Go.Proofs.Try.prog 28 .u8 64 2 := .more Go.Proofs.Try.underlying28 row_27 (by kernel_rfl)
theorem row_29 : RowT Go.Proofs.Try.prog 29 .u8 64 2 := .more Go.Proofs.Try.underlying29 row_27 (by kernel_rfl)
theorem row_32 : RowT Go.Proofs.Try.prog 32 .u8 512 3 := .more Go.Proofs.Try.underlying32 row_29 (by kernel_rfl)
theorem row_33 : RowT Go.Proofs.Try.prog 33 .u8 512 3 := .more Go.Proofs.Try.underlying33 row_29 (by kernel_rfl)
theorem flt_25 : ∃ fs : Array Field, Go.Proofs.Try.prog.underlying 25 = some (.struct fs) ∧ FldsT Go.Proofs.Try.prog 0 fs.toList [.int .i64, .int .i64, .row .u8 8, .row .u8 512] := ⟨_, Go.Proofs.Try.underlying25, .int (by decide) rfl Go.Proofs.Try.underlying2 (by kernel_rfl) (.int (by decide) rfl Go.Proofs.Try.underlying2 (by kernel_rfl) (.row (by decide) rfl row_22 (by omega) (by kernel_rfl) (.row (by decide) rfl row_24 (by omega) (by kernel_rfl) (.nil))))⟩
theorem fl_25 : PairOK Go.Proofs.Try.prog 25 [.int .i64, .int .i64, .row .u8 8, .row .u8 512] := by
  obtain ⟨fs, h1, h2⟩ := flt_25
  exact .of h1 h2 (by kernel_rfl) (by kernel_rfl)
theorem flt_26 : ∃ fs : Array Field, Go.Proofs.Try.prog.underlying 26 = some (.struct fs) ∧ FldsT Go.Proofs.Try.prog 0 fs.toList [.int .i64, .int .i64, .row .u8 8, .row .u8 512] := ⟨_, Go.Proofs.Try.underlying26, .int (by decide) rfl Go.Proofs.Try.underlying2 (by kernel_rfl) (.int (by decide) rfl Go.Proofs.Try.underlying2 (by kernel_rfl) (.row (by decide) rfl row_22 (by omega) (by kernel_rfl) (.row (by decide) rfl row_24 (by omega) (by kernel_rfl) (.nil))))⟩
theorem fl_26 : PairOK Go.Proofs.Try.prog 26 [.int .i64, .int .i64, .row .u8 8, .row .u8 512] := by
  obtain ⟨fs, h1, h2⟩ := flt_26
  exact .of h1 h2 (by kernel_rfl) (by kernel_rfl)
theorem flt_34 : ∃ fs : Array Field, Go.Proofs.Try.prog.underlying 34 = some (.struct fs) ∧ FldsT Go.Proofs.Try.prog 0 fs.toList [.int .i64, .int .i64, .row .u8 8, .row .u8 512] := ⟨_, Go.Proofs.Try.underlying34, .int (by decide) rfl Go.Proofs.Try.underlying2 (by kernel_rfl) (.int (by decide) rfl Go.Proofs.Try.underlying2 (by kernel_rfl) (.row (by decide) rfl row_27 (by omega) (by kernel_rfl) (.row (by decide) rfl row_33 (by omega) (by kernel_rfl) (.nil))))⟩
theorem fl_34 : PairOK Go.Proofs.Try.prog 34 [.int .i64, .int .i64, .row .u8 8, .row .u8 512] := by
  obtain ⟨fs, h1, h2⟩ := flt_34
  exact .of h1 h2 (by kernel_rfl) (by kernel_rfl)
theorem flt_35 : ∃ fs : Array Field, Go.Proofs.Try.prog.underlying 35 = some (.struct fs) ∧ FldsT Go.Proofs.Try.prog 0 fs.toList [.int .i64, .int .i64, .row .u8 8, .row .u8 512] := ⟨_, Go.Proofs.Try.underlying35, .int (by decide) rfl Go.Proofs.Try.underlying2 (by kernel_rfl) (.int (by decide) rfl Go.Proofs.Try.underlying2 (by kernel_rfl) (.row (by decide) rfl row_27 (by omega) (by kernel_rfl) (.row (by decide) rfl row_33 (by omega) (by kernel_rfl) (.nil))))⟩
theorem fl_35 : PairOK Go.Proofs.Try.prog 35 [.int .i64, .int .i64, .row .u8 8, .row .u8 512] := by
  obtain ⟨fs, h1, h2⟩ := flt_35
  exact .of h1 h2 (by kernel_rfl) (by kernel_rfl)
theorem flt_42 : ∃ fs : Array Field, Go.Proofs.Try.prog.underlying 42 = some (.struct fs) ∧ FldsT Go.Proofs.Try.prog 0 fs.toList [.int .i64, .int .i64, .row .u8 8, .row .u8 512] := ⟨_, Go.Proofs.Try.underlying42, .int (by decide) rfl Go.Proofs.Try.underlying2 (by kernel_rfl) (.int (by decide) rfl Go.Proofs.Try.underlying2 (by kernel_rfl) (.row (by decide) rfl row_22 (by omega) (by kernel_rfl) (.row (by decide) rfl row_24 (by omega) (by kernel_rfl) (.nil))))⟩
theorem fl_42 : PairOK Go.Proofs.Try.prog 42 [.int .i64, .int .i64, .row .u8 8, .row .u8 512] := by
  obtain ⟨fs, h1, h2⟩ := flt_42
  exact .of h1 h2 (by kernel_rfl) (by kernel_rfl)
theorem flt_43 : ∃ fs : Array Field, Go.Proofs.Try.prog.underlying 43 = some (.struct fs) ∧ FldsT Go.Proofs.Try.prog 0 fs.toList [.int .i64, .int .i64, .row .u8 8, .row .u8 512] := ⟨_, Go.Proofs.Try.underlying43, .int (by decide) rfl Go.Proofs.Try.underlying2 (by kernel_rfl) (.int (by decide) rfl Go.Proofs.Try.underlying2 (by kernel_rfl) (.row (by decide) rfl row_22 (by omega) (by kernel_rfl) (.row (by decide) rfl row_24 (by omega) (by kernel_rfl) (.nil))))⟩
theorem fl_43 : PairOK Go.Proofs.Try.prog 43 [.int .i64, .int .i64, .row .u8 8, .row .u8 512] := by
  obtain ⟨fs, h1, h2⟩ := flt_43
  exact .of h1 h2 (by kernel_rfl) (by kernel_rfl)
theorem flt_46 : ∃ fs : Array Field, Go.Proofs.Try.prog.underlying 46 = some (.struct fs) ∧ FldsT Go.Proofs.Try.prog 0 fs.toList [.int .i64, .int .i64, .row .u8 8, .row .u8 512] := ⟨_, Go.Proofs.Try.underlying46, .int (by decide) rfl Go.Proofs.Try.underlying2 (by kernel_rfl) (.int (by decide) rfl Go.Proofs.Try.underlying2 (by kernel_rfl) (.row (by decide) rfl row_27 (by omega) (by kernel_rfl) (.row (by decide) rfl row_33 (by omega) (by kernel_rfl) (.nil))))⟩
theorem fl_46 : PairOK Go.Proofs.Try.prog 46 [.int .i64, .int .i64, .row .u8 8, .row .u8 512] := by
  obtain ⟨fs, h1, h2⟩ := flt_46
  exact .of h1 h2 (by kernel_rfl) (by kernel_rfl)
theorem flt_47 : ∃ fs : Array Field, Go.Proofs.Try.prog.underlying 47 = some (.struct fs) ∧ FldsT Go.Proofs.Try.prog 0 fs.toList [.int .i64, .int .i64, .row .u8 8, .row .u8 512] := ⟨_, Go.Proofs.Try.underlying47, .int (by decide) rfl Go.Proofs.Try.underlying2 (by kernel_rfl) (.int (by decide) rfl Go.Proofs.Try.underlying2 (by kernel_rfl) (.row (by decide) rfl row_27 (by omega) (by kernel_rfl) (.row (by decide) rfl row_33 (by omega) (by kernel_rfl) (.nil))))⟩
theorem fl_47 : PairOK Go.Proofs.Try.prog 47 [.int .i64, .int .i64, .row .u8 8, .row .u8 512] := by
  obtain ⟨fs, h1, h2⟩ := flt_47
  exact .of h1 h2 (by kernel_rfl) (by kernel_rfl)
def flList : List (Nat × List FK) := [(25, [.int .i64, .int .i64, .row .u8 8, .row .u8 512]), (26, [.int .i64, .int .i64, .row .u8 8, .row .u8 512]), (34, [.int .i64, .int .i64, .row .u8 8, .row .u8 512]), (35, [.int .i64, .int .i64, .row .u8 8, .row .u8 512]), (42, [.int .i64, .int .i64, .row .u8 8, .row .u8 512]), (43, [.int .i64, .int .i64, .row .u8 8, .row .u8 512]), (46, [.int .i64, .int .i64, .row .u8 8, .row .u8 512]), (47, [.int .i64, .int .i64, .row .u8 8, .row .u8 512])]
def flOf : List (Nat × List FK) → Nat → Option (List FK)
  | [], _ => none
  | (k, x) :: r, t => match Nat.beq k t with | true => some x | false => flOf r t
theorem flOf_ok {R : Nat → List FK → Prop} : ∀ (l : List (Nat × List FK)), (∀ p ∈ l, R p.1 p.2) → ∀ t z, flOf l t = some z → R t z
  | [], _, t, z, h => by cases h
  | (k, x) :: r, h, t, z, hz => by
    unfold flOf at hz
    cases hb : Nat.beq k t with
    | true =>
      have := Nat.eq_of_beq_eq_true hb
      subst this
      simp only [hb] at hz
      cases hz
      exact h (k, x) (by simp)
    | false => simp only [hb] at hz; exact flOf_ok r (fun p hp => h p (by simp [hp])) t z hz
theorem flAll : ∀ p ∈ flList, PairOK Go.Proofs.Try.prog p.1 p.2 := by
  intro p hp
  simp only [flList, List.mem_cons, List.not_mem_nil, or_false] at hp
  rcases hp with rfl | rfl | rfl | rfl | rfl | rfl | rfl | rfl
  · exact fl_25
  · exact fl_26
  · exact fl_34
  · exact fl_35
  · exact fl_42
  · exact fl_43
  · exact fl_46
  · exact fl_47
theorem fltAll : ∀ p ∈ flList, ∃ fs : Array Field, Go.Proofs.Try.prog.underlying p.1 = some (.struct fs) ∧ FldsT Go.Proofs.Try.prog 0 fs.toList p.2 := by
  intro p hp
  simp only [flList, List.mem_cons, List.not_mem_nil, or_false] at hp
  rcases hp with rfl | rfl | rfl | rfl | rfl | rfl | rfl | rfl
  · exact flt_25
  · exact flt_26
  · exact flt_34
  · exact flt_35
  · exact flt_42
  · exact flt_43
  · exact flt_46
  · exact flt_47

def eqList : List Nat := [4, 22, 23, 24, 27, 28, 29, 32, 33, 60, 68, 91, 94, 109, 114, 136]
def tab : Tab where
  ti := tiOf tiList
  zero := zOf zList
  eqs := memN eqList
  elem0 := zOf e0List
  flds := flOf flList
theorem tabOK : TabOK Go.Proofs.Try.prog tab where
  mixed := by kernel_rfl
  ok := tiOf_ok tiList tiAll
  zero := fun t z h => zOf_ok (R := fun t z => (Go.Proofs.Try.prog.info? t).map (·.zero) = some (some (toVal (fun _ => 0) z)) ∧ z.ids = []) zList zAll t z h
  elem0 := fun t z h => zOf_ok (R := fun t z => ∃ e, Go.Proofs.Try.prog.underlying t = some (.slice e) ∧ (Go.Proofs.Try.prog.info? e).map (·.zero) = some (some (toVal (fun _ => 0) z))) e0List eAll t z h
  flds := fun t ks h => flOf_ok (R := fun t ks => ∃ fs : Array Field, Go.Proofs.Try.prog.underlying t = some (.struct fs) ∧ FldsT Go.Proofs.Try.prog 0 fs.toList ks) flList fltAll t ks h
theorem eq_4 : EqOK Go.Proofs.Try.prog tab 4 := .bool Go.Proofs.Try.underlying4 rfl
theorem eq_22 : EqOK Go.Proofs.Try.prog tab 22 := .row row_22 (by omega) (by kernel_rfl) rfl
theorem eq_23 : EqOK Go.Proofs.Try.prog tab 23 := .row row_23 (by omega) (by kernel_rfl) rfl
theorem eq_24 : EqOK Go.Proofs.Try.prog tab 24 := .row row_24 (by omega) (by kernel_rfl) rfl
theorem eq_27 : EqOK Go.Proofs.Try.prog tab 27 := .row row_27 (by omega) (by kernel_rfl) rfl
theorem eq_28 : EqOK Go.Proofs.Try.prog tab 28 := .row row_28 (by omega) (by kernel_rfl) rfl
theorem eq_29 : EqOK Go.Proofs.Try.prog tab 29 := .row row_29 (by omega) (by kernel_rfl) rfl
theorem eq_32 : EqOK Go.Proofs.Try.prog tab 32 := .row row_32 (by omega) (by kernel_rfl) rfl
theorem eq_33 : EqOK Go.Proofs.Try.prog tab 33 := .row row_33 (by omega) (by kernel_rfl) rfl
theorem eq_60 : EqOK Go.Proofs.Try.prog tab 60 := .slice Go.Proofs.Try.underlying60 rfl
theorem eq_68 : EqOK Go.Proofs.Try.prog tab 68 := .slice Go.Proofs.Try.underlying68 rfl
theorem eq_91 : EqOK Go.Proofs.Try.prog tab 91 := .slice Go.Proofs.Try.underlying91 rfl
theorem eq_94 : EqOK Go.Proofs.Try.prog tab 94 := .slice Go.Proofs.Try.underlying94 rfl
theorem eq_109 : EqOK Go.Proofs.Try.prog tab 109 := .slice Go.Proofs.Try.underlying109 rfl
theorem eq_114 : EqOK Go.Proofs.Try.prog tab 114 := .slice Go.Proofs.Try.underlying114 rfl
theorem eq_136 : EqOK Go.Proofs.Try.prog tab 136 := .slice Go.Proofs.Try.underlying136 rfl
theorem tabEq : TabEq Go.Proofs.Try.prog tab where
  eqs := fun t h => by
    have h := (memN_iff eqList t).1 h
    simp only [eqList, List.mem_cons, List.not_mem_nil, or_false] at h
    rcases h with rfl | rfl | rfl | rfl | rfl | rfl | rfl | rfl | rfl | rfl | rfl | rfl | rfl | rfl | rfl | rfl
    · exact eq_4
    · exact eq_22
    · exact eq_23
    · exact eq_24
    · exact eq_27
    · exact eq_28
    · exact eq_29
    · exact eq_32
    · exact eq_33
    · exact eq_60
    · exact eq_68
    · exact eq_91
    · exact eq_94
    · exact eq_109
    · exact eq_114
    · exact eq_136
  flds := fun t fs h => flOf_ok flList flAll t fs h
end Go.Proofs.Ytnbfpmcpakpboac
