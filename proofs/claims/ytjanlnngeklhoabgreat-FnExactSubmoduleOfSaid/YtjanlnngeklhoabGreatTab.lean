/- The table of this translation's types, and that it is right: closed facts alone. -/
import Derived.Test.YtjanlnngeklhoabGreatIfc
import Derived.Test.YtjanlnngeklhoabGreatProg
import Derived.KernelRfl
set_option linter.unusedVariables false
set_option maxRecDepth 100000
namespace Go.Proofs.YtjanlnngeklhoabGreat

def tiOf : List (Nat × TI) → Nat → TI
  | [], _ => .other
  | (k, x) :: r, t => match Nat.beq k t with | true => x | false => tiOf r t
def zOf : List (Nat × SV) → Nat → Option SV
  | [], _ => none
  | (k, x) :: r, t => match Nat.beq k t with | true => some x | false => zOf r t
theorem tiOf_ok {P : Program} : ∀ (l : List (Nat × TI)), (∀ p ∈ l, TIok P p.1 p.2) → ∀ t, TIok P t (tiOf l t)
  | [], _, t => trivial
  | (k, x) :: r, h, t => by
    unfold tiOf
    cases hb : Nat.beq k t with
    | true => have := Nat.eq_of_beq_eq_true hb; subst this; exact h (k, x) (by simp)
    | false => exact tiOf_ok r (fun p hp => h p (by simp [hp])) t
theorem zOf_ok {R : Nat → SV → Prop} : ∀ (l : List (Nat × SV)), (∀ p ∈ l, R p.1 p.2) → ∀ t z, zOf l t = some z → R t z
  | [], _, t, z, h => by cases h
  | (k, x) :: r, h, t, z, hz => by
    unfold zOf at hz
    cases hb : Nat.beq k t with
    | true =>
      have := Nat.eq_of_beq_eq_true hb
      subst this
      simp only [hb] at hz
      cases hz
      exact h (k, x) (by simp)
    | false => simp only [hb] at hz; exact zOf_ok r (fun p hp => h p (by simp [hp])) t z hz

def tiList : List (Nat × TI) := [(1, .scalar), (2, .int .i64), (3, .int .i64), (4, .scalar), (5, .int .u8), (6, .int .u8), (7, .struct [0, 1, 2, 3] 4), (8, .struct [0, 1, 2, 3] 4), (9, .scalar), (10, .scalar), (11, .scalar), (12, .int .u64), (13, .struct [0, 1] 2), (14, .struct [0, 1] 2), (21, .int .i32), (22, .arr 8 1 false), (23, .arr 8 8 true), (24, .arr 8 64 true), (25, .struct [0, 1, 2, 10, 522, 530, 1042] 1106), (26, .struct [0, 1, 2, 10, 522, 530, 1042] 1106), (27, .struct [0, 1] 513), (28, .struct [0, 1] 513), (29, .slice 8), (31, .scalar), (32, .arr 8 1 false), (33, .arr 8 8 true), (34, .arr 8 8 true), (35, .arr 8 64 true), (36, .arr 8 64 true), (37, .struct [0, 1, 2, 10, 522, 530, 1042] 1106), (38, .struct [0, 1, 2, 10, 522, 530, 1042] 1106), (39, .scalar), (40, .struct [0, 1] 513), (41, .struct [0, 1] 513), (42, .scalar), (43, .scalar), (44, .scalar), (45, .scalar), (46, .scalar), (47, .scalar), (48, .scalar), (49, .scalar), (50, .scalar), (51, .scalar), (52, .scalar), (53, .scalar), (54, .scalar), (55, .scalar), (56, .slice 64), (57, .struct [0, 1, 2] 3), (58, .struct [0, 1, 2] 3), (59, .scalar), (60, .scalar), (61, .scalar), (62, .scalar), (63, .scalar), (64, .scalar), (65, .scalar), (66, .scalar), (67, .scalar), (68, .scalar), (69, .sliceP 513), (70, .scalar), (71, .scalar), (72, .scalar), (73, .scalar), (74, .scalar), (75, .slice 1), (76, .scalar), (77, .scalar), (78, .scalar), (79, .slice 1), (80, .scalar), (81, .scalar), (82, .scalar), (83, .scalar), (84, .scalar), (85, .scalar), (86, .scalar), (87, .scalar), (88, .scalar), (89, .scalar), (90, .scalar), (91, .scalar), (92, .scalar), (93, .scalar), (94, .arr 8 1 false), (95, .scalar), (96, .scalar), (97, .scalar), (98, .scalar), (99, .scalar), (100, .scalar), (101, .scalar), (102, .scalar), (103, .scalar), (104, .scalar), (105, .struct [0, 1, 2, 10] 522), (106, .struct [0, 1, 2, 10] 522), (107, .scalar), (108, .scalar), (109, .scalar), (110, .scalar), (111, .struct [0, 1, 2, 10] 522), (112, .struct [0, 1, 2, 10] 522), (113, .scalar), (114, .scalar), (115, .struct [0, 1] 2), (116, .struct [0, 1] 2), (117, .scalar), (118, .arr 7 2 true), (119, .scalar), (120, .scalar), (121, .scalar), (122, .scalar), (123, .scalar), (124, .scalar), (125, .scalar), (126, .scalar), (127, .slice 1), (128, .scalar), (129, .scalar), (130, .scalar), (131, .scalar), (132, .scalar), (133, .scalar), (134, .scalar), (135, .scalar), (136, .scalar), (138, .scalar), (139, .scalar), (140, .scalar), (141, .scalar), (142, .scalar), (144, .scalar), (145, .scalar), (151, .scalar), (152, .int .u32), (153, .int .u8), (154, .int .u8), (155, .scalar), (157, .int .i32), (158, .int .i32), (161, .scalar)]
def zList : List (Nat × SV) := [(1, .nilf), (2, (.int .i64 0)), (3, (.int .i64 0)), (4, (.bool false)), (5, (.int .u8 0)), (6, (.int .u8 0)), (7, (.pair (.int .i64 0) (.pair (.int .i64 0) (.pair (.bool false) (.pair (.int .u8 0) .unit))))), (8, (.pair (.int .i64 0) (.pair (.int .i64 0) (.pair (.bool false) (.pair (.int .u8 0) .unit))))), (12, (.int .u64 0)), (13, (.pair (.str ByteArray.empty) (.pair (.int .u64 0) .unit))), (14, (.pair (.str ByteArray.empty) (.pair (.int .u64 0) .unit))), (21, (.int .i32 0)), (22, (.ints .u8 8 fun _ => 0)), (23, (.ints .u8 64 fun _ => 0)), (24, (.ints .u8 512 fun _ => 0)), (25, (.pair (.int .i64 0) (.pair (.int .i64 0) (.pair (.ints .u8 8 fun _ => 0) (.pair (.ints .u8 512 fun _ => 0) (.pair (.ints .u8 8 fun _ => 0) (.pair (.ints .u8 512 fun _ => 0) (.pair (.ints .u8 64 fun _ => 0) .unit)))))))), (26, (.pair (.int .i64 0) (.pair (.int .i64 0) (.pair (.ints .u8 8 fun _ => 0) (.pair (.ints .u8 512 fun _ => 0) (.pair (.ints .u8 8 fun _ => 0) (.pair (.ints .u8 512 fun _ => 0) (.pair (.ints .u8 64 fun _ => 0) .unit)))))))), (27, (.pair (.int .i64 0) (.pair (.ints .u8 512 fun _ => 0) .unit))), (28, (.pair (.int .i64 0) (.pair (.ints .u8 512 fun _ => 0) .unit))), (29, .nilsl), (31, .nilf), (32, (.ints .u8 8 fun _ => 0)), (33, (.ints .u8 64 fun _ => 0)), (34, (.ints .u8 64 fun _ => 0)), (35, (.ints .u8 512 fun _ => 0)), (36, (.ints .u8 512 fun _ => 0)), (37, (.pair (.int .i64 0) (.pair (.int .i64 0) (.pair (.ints .u8 8 fun _ => 0) (.pair (.ints .u8 512 fun _ => 0) (.pair (.ints .u8 8 fun _ => 0) (.pair (.ints .u8 512 fun _ => 0) (.pair (.ints .u8 64 fun _ => 0) .unit)))))))), (38, (.pair (.int .i64 0) (.pair (.int .i64 0) (.pair (.ints .u8 8 fun _ => 0) (.pair (.ints .u8 512 fun _ => 0) (.pair (.ints .u8 8 fun _ => 0) (.pair (.ints .u8 512 fun _ => 0) (.pair (.ints .u8 64 fun _ => 0) .unit)))))))), (39, .nilf), (40, (.pair (.int .i64 0) (.pair (.ints .u8 512 fun _ => 0) .unit))), (41, (.pair (.int .i64 0) (.pair (.ints .u8 512 fun _ => 0) .unit))), (42, .nilf), (43, .nilf), (44, .nilf), (45, .nilf), (46, .nilf), (47, .nilf), (48, .nilf), (49, .nilf), (50, .nilf), (51, .nilf), (52, .nilf), (53, .nilf), (54, .nilf), (55, .nilf), (56, .nilsl), (57, (.pair (.int .i64 0) (.pair .nilsl (.pair .nilf .unit)))), (58, (.pair (.int .i64 0) (.pair .nilsl (.pair .nilf .unit)))), (59, .nilf), (60, .nilf), (61, .nilf), (62, .nilf), (63, .nilf), (64, .nilf), (65, .nilf), (66, .nilf), (67, .nilf), (68, .nilf), (69, .nilsl), (70, .nilf), (71, .nilf), (72, .nilf), (73, .nilf), (74, .nilf), (75, .nilsl), (76, .nilf), (77, .nilf), (78, .nilf), (79, .nilsl), (80, .nilf), (81, .nilf), (82, .nilf), (83, .nilf), (84, .nilf), (85, .nilf), (86, .nilf), (87, .nilf), (88, .nilf), (89, .nilf), (90, .nilf), (91, .nilf), (92, .nilf), (93, .nilf), (94, (.vec 8 fun _ => .bool false)), (95, .nilf), (96, .nilf), (97, .nilf), (98, .nilf), (99, .nilf), (100, .nilf), (101, .nilf), (102, .nilf), (103, .nilf), (104, .nilf), (105, (.pair (.int .i64 0) (.pair (.int .i64 0) (.pair (.ints .u8 8 fun _ => 0) (.pair (.ints .u8 512 fun _ => 0) .unit))))), (106, (.pair (.int .i64 0) (.pair (.int .i64 0) (.pair (.ints .u8 8 fun _ => 0) (.pair (.ints .u8 512 fun _ => 0) .unit))))), (107, .nilf), (108, .nilf), (109, .nilf), (110, .nilf), (111, (.pair (.int .i64 0) (.pair (.int .i64 0) (.pair (.ints .u8 8 fun _ => 0) (.pair (.ints .u8 512 fun _ => 0) .unit))))), (112, (.pair (.int .i64 0) (.pair (.int .i64 0) (.pair (.ints .u8 8 fun _ => 0) (.pair (.ints .u8 512 fun _ => 0) .unit))))), (113, .nilf), (114, .nilf), (115, (.pair (.bool false) (.pair .nilf .unit))), (116, (.pair (.bool false) (.pair .nilf .unit))), (117, .nilf), (118, (.pair (.pair (.bool false) (.pair .nilf .unit)) (.pair (.pair (.bool false) (.pair .nilf .unit)) (.pair (.pair (.bool false) (.pair .nilf .unit)) (.pair (.pair (.bool false) (.pair .nilf .unit)) (.pair (.pair (.bool false) (.pair .nilf .unit)) (.pair (.pair (.bool false) (.pair .nilf .unit)) (.pair (.pair (.bool false) (.pair .nilf .unit)) .unit)))))))), (119, .nilf), (120, .nilf), (121, .nilf), (122, .nilf), (123, .nilf), (124, .nilf), (125, .nilf), (126, .nilf), (127, .nilsl), (128, .nilf), (129, .nilf), (130, .nilf), (131, .nilf), (132, .nilf), (133, .nilf), (134, .nilf), (135, .nilf), (136, .nilf), (138, .nilf), (139, .nilf), (140, .nilf), (141, .nilf), (142, .nilf), (144, .nilf), (145, .nilf), (151, .nilf), (152, (.int .u32 0)), (153, (.int .u8 0)), (154, (.int .u8 0)), (155, .nilf), (157, (.int .i32 0)), (158, (.int .i32 0)), (161, .nilf)]
def e0List : List (Nat × SV) := [(29, .ints .u8 8 fun _ => 0), (56, .ints .u8 64 fun _ => 0), (69, (.pair (.int .i64 0) (.pair (.ints .u8 512 fun _ => 0) .unit))), (75, .int .u8 0), (79, .nilsl), (127, .int .i64 0)]
def appList : List (Nat × Nat) := [(29, 8), (56, 64), (75, 1), (79, 24), (127, 8)]
theorem ti_1 : TIok Go.Proofs.Tryz.prog 1 (.scalar) := ⟨⟨_, Go.Proofs.Tryz.underlying1, rfl⟩, by kernel_rfl⟩
theorem ti_2 : TIok Go.Proofs.Tryz.prog 2 (.int .i64) := ⟨Go.Proofs.Tryz.underlying2, by kernel_rfl⟩
theorem ti_3 : TIok Go.Proofs.Tryz.prog 3 (.int .i64) := ⟨Go.Proofs.Tryz.underlying3, by kernel_rfl⟩
theorem ti_4 : TIok Go.Proofs.Tryz.prog 4 (.scalar) := ⟨⟨_, Go.Proofs.Tryz.underlying4, rfl⟩, by kernel_rfl⟩
theorem ti_5 : TIok Go.Proofs.Tryz.prog 5 (.int .u8) := ⟨Go.Proofs.Tryz.underlying5, by kernel_rfl⟩
theorem ti_6 : TIok Go.Proofs.Tryz.prog 6 (.int .u8) := ⟨Go.Proofs.Tryz.underlying6, by kernel_rfl⟩
theorem ti_7 : TIok Go.Proofs.Tryz.prog 7 (.struct [0, 1, 2, 3] 4) := by
  refine ⟨_, Go.Proofs.Tryz.underlying7, by kernel_rfl, by rfl, ?_⟩
  intro f hf
  simp only [List.mem_cons, List.not_mem_nil, or_false] at hf
  rcases hf with rfl | hf
  · exact ⟨0, by kernel_rfl⟩
  rcases hf with rfl | hf
  · exact ⟨0, by kernel_rfl⟩
  rcases hf with rfl | hf
  · exact ⟨0, by kernel_rfl⟩
  subst hf
  exact ⟨0, by kernel_rfl⟩
theorem ti_8 : TIok Go.Proofs.Tryz.prog 8 (.struct [0, 1, 2, 3] 4) := by
  refine ⟨_, Go.Proofs.Tryz.underlying8, by kernel_rfl, by rfl, ?_⟩
  intro f hf
  simp only [List.mem_cons, List.not_mem_nil, or_false] at hf
  rcases hf with rfl | hf
  · exact ⟨0, by kernel_rfl⟩
  rcases hf with rfl | hf
  · exact ⟨0, by kernel_rfl⟩
  rcases hf with rfl | hf
  · exact ⟨0, by kernel_rfl⟩
  subst hf
  exact ⟨0, by kernel_rfl⟩
theorem ti_9 : TIok Go.Proofs.Tryz.prog 9 (.scalar) := ⟨⟨_, Go.Proofs.Tryz.underlying9, rfl⟩, by kernel_rfl⟩
theorem ti_10 : TIok Go.Proofs.Tryz.prog 10 (.scalar) := ⟨⟨_, Go.Proofs.Tryz.underlying10, rfl⟩, by kernel_rfl⟩
theorem ti_11 : TIok Go.Proofs.Tryz.prog 11 (.scalar) := ⟨⟨_, Go.Proofs.Tryz.underlying11, rfl⟩, by kernel_rfl⟩
theorem ti_12 : TIok Go.Proofs.Tryz.prog 12 (.int .u64) := ⟨Go.Proofs.Tryz.underlying12, by kernel_rfl⟩
theorem ti_13 : TIok Go.Proofs.Tryz.prog 13 (.struct [0, 1] 2) := by
  refine ⟨_, Go.Proofs.Tryz.underlying13, by kernel_rfl, by rfl, ?_⟩
  intro f hf
  simp only [List.mem_cons, List.not_mem_nil, or_false] at hf
  rcases hf with rfl | hf
  · exact ⟨0, by kernel_rfl⟩
  subst hf
  exact ⟨0, by kernel_rfl⟩
theorem ti_14 : TIok Go.Proofs.Tryz.prog 14 (.struct [0, 1] 2) := by
  refine ⟨_, Go.Proofs.Tryz.underlying14, by kernel_rfl, by rfl, ?_⟩
  intro f hf
  simp only [List.mem_cons, List.not_mem_nil, or_false] at hf
  rcases hf with rfl | hf
  · exact ⟨0, by kernel_rfl⟩
  subst hf
  exact ⟨0, by kernel_rfl⟩
theorem ti_21 : TIok Go.Proofs.Tryz.prog 21 (.int .i32) := ⟨Go.Proofs.Tryz.underlying21, by kernel_rfl⟩
theorem ti_22 : TIok Go.Proofs.Tryz.prog 22 (.arr 8 1 false) := ⟨5, _, Go.Proofs.Tryz.underlying22, by kernel_rfl, by kernel_rfl, Go.Proofs.Tryz.underlying5, rfl, by omega⟩
theorem ti_23 : TIok Go.Proofs.Tryz.prog 23 (.arr 8 8 true) := ⟨22, _, Go.Proofs.Tryz.underlying23, by kernel_rfl, by kernel_rfl, Go.Proofs.Tryz.underlying22, rfl, by omega⟩
theorem ti_24 : TIok Go.Proofs.Tryz.prog 24 (.arr 8 64 true) := ⟨23, _, Go.Proofs.Tryz.underlying24, by kernel_rfl, by kernel_rfl, Go.Proofs.Tryz.underlying23, rfl, by omega⟩
theorem ti_25 : TIok Go.Proofs.Tryz.prog 25 (.struct [0, 1, 2, 10, 522, 530, 1042] 1106) := by
  refine ⟨_, Go.Proofs.Tryz.underlying25, by kernel_rfl, by rfl, ?_⟩
  intro f hf
  simp only [List.mem_cons, List.not_mem_nil, or_false] at hf
  rcases hf with rfl | hf
  · exact ⟨0, by kernel_rfl⟩
  rcases hf with rfl | hf
  · exact ⟨0, by kernel_rfl⟩
  rcases hf with rfl | hf
  · exact ⟨7, by kernel_rfl⟩
  rcases hf with rfl | hf
  · exact ⟨511, by kernel_rfl⟩
  rcases hf with rfl | hf
  · exact ⟨7, by kernel_rfl⟩
  rcases hf with rfl | hf
  · exact ⟨511, by kernel_rfl⟩
  subst hf
  exact ⟨63, by kernel_rfl⟩
theorem ti_26 : TIok Go.Proofs.Tryz.prog 26 (.struct [0, 1, 2, 10, 522, 530, 1042] 1106) := by
  refine ⟨_, Go.Proofs.Tryz.underlying26, by kernel_rfl, by rfl, ?_⟩
  intro f hf
  simp only [List.mem_cons, List.not_mem_nil, or_false] at hf
  rcases hf with rfl | hf
  · exact ⟨0, by kernel_rfl⟩
  rcases hf with rfl | hf
  · exact ⟨0, by kernel_rfl⟩
  rcases hf with rfl | hf
  · exact ⟨7, by kernel_rfl⟩
  rcases hf with rfl | hf
  · exact ⟨511, by kernel_rfl⟩
  rcases hf with rfl | hf
  · exact ⟨7, by kernel_rfl⟩
  rcases hf with rfl | hf
  · exact ⟨511, by kernel_rfl⟩
  subst hf
  exact ⟨63, by kernel_rfl⟩
theorem ti_27 : TIok Go.Proofs.Tryz.prog 27 (.struct [0, 1] 513) := by
  refine ⟨_, Go.Proofs.Tryz.underlying27, by kernel_rfl, by rfl, ?_⟩
  intro f hf
  simp only [List.mem_cons, List.not_mem_nil, or_false] at hf
  rcases hf with rfl | hf
  · exact ⟨0, by kernel_rfl⟩
  subst hf
  exact ⟨511, by kernel_rfl⟩
theorem ti_28 : TIok Go.Proofs.Tryz.prog 28 (.struct [0, 1] 513) := by
  refine ⟨_, Go.Proofs.Tryz.underlying28, by kernel_rfl, by rfl, ?_⟩
  intro f hf
  simp only [List.mem_cons, List.not_mem_nil, or_false] at hf
  rcases hf with rfl | hf
  · exact ⟨0, by kernel_rfl⟩
  subst hf
  exact ⟨511, by kernel_rfl⟩
theorem ti_29 : TIok Go.Proofs.Tryz.prog 29 (.slice 8) := ⟨32, Go.Proofs.Tryz.underlying29, by kernel_rfl, by kernel_rfl⟩
theorem ti_31 : TIok Go.Proofs.Tryz.prog 31 (.scalar) := ⟨⟨_, Go.Proofs.Tryz.underlying31, rfl⟩, by kernel_rfl⟩
theorem ti_32 : TIok Go.Proofs.Tryz.prog 32 (.arr 8 1 false) := ⟨5, _, Go.Proofs.Tryz.underlying32, by kernel_rfl, by kernel_rfl, Go.Proofs.Tryz.underlying5, rfl, by omega⟩
theorem ti_33 : TIok Go.Proofs.Tryz.prog 33 (.arr 8 8 true) := ⟨32, _, Go.Proofs.Tryz.underlying33, by kernel_rfl, by kernel_rfl, Go.Proofs.Tryz.underlying32, rfl, by omega⟩
theorem ti_34 : TIok Go.Proofs.Tryz.prog 34 (.arr 8 8 true) := ⟨32, _, Go.Proofs.Tryz.underlying34, by kernel_rfl, by kernel_rfl, Go.Proofs.Tryz.underlying32, rfl, by omega⟩
theorem ti_35 : TIok Go.Proofs.Tryz.prog 35 (.arr 8 64 true) := ⟨34, _, Go.Proofs.Tryz.underlying35, by kernel_rfl, by kernel_rfl, Go.Proofs.Tryz.underlying34, rfl, by omega⟩
theorem ti_36 : TIok Go.Proofs.Tryz.prog 36 (.arr 8 64 true) := ⟨34, _, Go.Proofs.Tryz.underlying36, by kernel_rfl, by kernel_rfl, Go.Proofs.Tryz.underlying34, rfl, by omega⟩
theorem ti_37 : TIok Go.Proofs.Tryz.prog 37 (.struct [0, 1, 2, 10, 522, 530, 1042] 1106) := by
  refine ⟨_, Go.Proofs.Tryz.underlying37, by kernel_rfl, by rfl, ?_⟩
  intro f hf
  simp only [List.mem_cons, List.not_mem_nil, or_false] at hf
  rcases hf with rfl | hf
  · exact ⟨0, by kernel_rfl⟩
  rcases hf with rfl | hf
  · exact ⟨0, by kernel_rfl⟩
  rcases hf with rfl | hf
  · exact ⟨7, by kernel_rfl⟩
  rcases hf with rfl | hf
  · exact ⟨511, by kernel_rfl⟩
  rcases hf with rfl | hf
  · exact ⟨7, by kernel_rfl⟩
  rcases hf with rfl | hf
  · exact ⟨511, by kernel_rfl⟩
  subst hf
  exact ⟨63, by kernel_rfl⟩
theorem ti_38 : TIok Go.Proofs.Tryz.prog 38 (.struct [0, 1, 2, 10, 522, 530, 1042] 1106) := by
  refine ⟨_, Go.Proofs.Tryz.underlying38, by kernel_rfl, by rfl, ?_⟩
  intro f hf
  simp only [List.mem_cons, List.not_mem_nil, or_false] at hf
  rcases hf with rfl | hf
  · exact ⟨0, by kernel_rfl⟩
  rcases hf with rfl | hf
  · exact ⟨0, by kernel_rfl⟩
  rcases hf with rfl | hf
  · exact ⟨7, by kernel_rfl⟩
  rcases hf with rfl | hf
  · exact ⟨511, by kernel_rfl⟩
  rcases hf with rfl | hf
  · exact ⟨7, by kernel_rfl⟩
  rcases hf with rfl | hf
  · exact ⟨511, by kernel_rfl⟩
  subst hf
  exact ⟨63, by kernel_rfl⟩
theorem ti_39 : TIok Go.Proofs.Tryz.prog 39 (.scalar) := ⟨⟨_, Go.Proofs.Tryz.underlying39, rfl⟩, by kernel_rfl⟩
theorem ti_40 : TIok Go.Proofs.Tryz.prog 40 (.struct [0, 1] 513) := by
  refine ⟨_, Go.Proofs.Tryz.underlying40, by kernel_rfl, by rfl, ?_⟩
  intro f hf
  simp only [List.mem_cons, List.not_mem_nil, or_false] at hf
  rcases hf with rfl | hf
  · exact ⟨0, by kernel_rfl⟩
  subst hf
  exact ⟨511, by kernel_rfl⟩
theorem ti_41 : TIok Go.Proofs.Tryz.prog 41 (.struct [0, 1] 513) := by
  refine ⟨_, Go.Proofs.Tryz.underlying41, by kernel_rfl, by rfl, ?_⟩
  intro f hf
  simp only [List.mem_cons, List.not_mem_nil, or_false] at hf
  rcases hf with rfl | hf
  · exact ⟨0, by kernel_rfl⟩
  subst hf
  exact ⟨511, by kernel_rfl⟩
theorem ti_42 : TIok Go.Proofs.Tryz.prog 42 (.scalar) := ⟨⟨_, Go.Proofs.Tryz.underlying42, rfl⟩, by kernel_rfl⟩
theorem ti_43 : TIok Go.Proofs.Tryz.prog 43 (.scalar) := ⟨⟨_, Go.Proofs.Tryz.underlying43, rfl⟩, by kernel_rfl⟩
theorem ti_44 : TIok Go.Proofs.Tryz.prog 44 (.scalar) := ⟨⟨_, Go.Proofs.Tryz.underlying44, rfl⟩, by kernel_rfl⟩
theorem ti_45 : TIok Go.Proofs.Tryz.prog 45 (.scalar) := ⟨⟨_, Go.Proofs.Tryz.underlying45, rfl⟩, by kernel_rfl⟩
theorem ti_46 : TIok Go.Proofs.Tryz.prog 46 (.scalar) := ⟨⟨_, Go.Proofs.Tryz.underlying46, rfl⟩, by kernel_rfl⟩
theorem ti_47 : TIok Go.Proofs.Tryz.prog 47 (.scalar) := ⟨⟨_, Go.Proofs.Tryz.underlying47, rfl⟩, by kernel_rfl⟩
theorem ti_48 : TIok Go.Proofs.Tryz.prog 48 (.scalar) := ⟨⟨_, Go.Proofs.Tryz.underlying48, rfl⟩, by kernel_rfl⟩
theorem ti_49 : TIok Go.Proofs.Tryz.prog 49 (.scalar) := ⟨⟨_, Go.Proofs.Tryz.underlying49, rfl⟩, by kernel_rfl⟩
theorem ti_50 : TIok Go.Proofs.Tryz.prog 50 (.scalar) := ⟨⟨_, Go.Proofs.Tryz.underlying50, rfl⟩, by kernel_rfl⟩
theorem ti_51 : TIok Go.Proofs.Tryz.prog 51 (.scalar) := ⟨⟨_, Go.Proofs.Tryz.underlying51, rfl⟩, by kernel_rfl⟩
theorem ti_52 : TIok Go.Proofs.Tryz.prog 52 (.scalar) := ⟨⟨_, Go.Proofs.Tryz.underlying52, rfl⟩, by kernel_rfl⟩
theorem ti_53 : TIok Go.Proofs.Tryz.prog 53 (.scalar) := ⟨⟨_, Go.Proofs.Tryz.underlying53, rfl⟩, by kernel_rfl⟩
theorem ti_54 : TIok Go.Proofs.Tryz.prog 54 (.scalar) := ⟨⟨_, Go.Proofs.Tryz.underlying54, rfl⟩, by kernel_rfl⟩
theorem ti_55 : TIok Go.Proofs.Tryz.prog 55 (.scalar) := ⟨⟨_, Go.Proofs.Tryz.underlying55, rfl⟩, by kernel_rfl⟩
theorem ti_56 : TIok Go.Proofs.Tryz.prog 56 (.slice 64) := ⟨34, Go.Proofs.Tryz.underlying56, by kernel_rfl, by kernel_rfl⟩
theorem ti_57 : TIok Go.Proofs.Tryz.prog 57 (.struct [0, 1, 2] 3) := by
  refine ⟨_, Go.Proofs.Tryz.underlying57, by kernel_rfl, by rfl, ?_⟩
  intro f hf
  simp only [List.mem_cons, List.not_mem_nil, or_false] at hf
  rcases hf with rfl | hf
  · exact ⟨0, by kernel_rfl⟩
  rcases hf with rfl | hf
  · exact ⟨0, by kernel_rfl⟩
  subst hf
  exact ⟨0, by kernel_rfl⟩
theorem ti_58 : TIok Go.Proofs.Tryz.prog 58 (.struct [0, 1, 2] 3) := by
  refine ⟨_, Go.Proofs.Tryz.underlying58, by kernel_rfl, by rfl, ?_⟩
  intro f hf
  simp only [List.mem_cons, List.not_mem_nil, or_false] at hf
  rcases hf with rfl | hf
  · exact ⟨0, by kernel_rfl⟩
  rcases hf with rfl | hf
  · exact ⟨0, by kernel_rfl⟩
  subst hf
  exact ⟨0, by kernel_rfl⟩
theorem ti_59 : TIok Go.Proofs.Tryz.prog 59 (.scalar) := ⟨⟨_, Go.Proofs.Tryz.underlying59, rfl⟩, by kernel_rfl⟩
theorem ti_60 : TIok Go.Proofs.Tryz.prog 60 (.scalar) := ⟨⟨_, Go.Proofs.Tryz.underlying60, rfl⟩, by kernel_rfl⟩
theorem ti_61 : TIok Go.Proofs.Tryz.prog 61 (.scalar) := ⟨⟨_, Go.Proofs.Tryz.underlying61, rfl⟩, by kernel_rfl⟩
theorem ti_62 : TIok Go.Proofs.Tryz.prog 62 (.scalar) := ⟨⟨_, Go.Proofs.Tryz.underlying62, rfl⟩, by kernel_rfl⟩
theorem ti_63 : TIok Go.Proofs.Tryz.prog 63 (.scalar) := ⟨⟨_, Go.Proofs.Tryz.underlying63, rfl⟩, by kernel_rfl⟩
theorem ti_64 : TIok Go.Proofs.Tryz.prog 64 (.scalar) := ⟨⟨_, Go.Proofs.Tryz.underlying64, rfl⟩, by kernel_rfl⟩
theorem ti_65 : TIok Go.Proofs.Tryz.prog 65 (.scalar) := ⟨⟨_, Go.Proofs.Tryz.underlying65, rfl⟩, by kernel_rfl⟩
theorem ti_66 : TIok Go.Proofs.Tryz.prog 66 (.scalar) := ⟨⟨_, Go.Proofs.Tryz.underlying66, rfl⟩, by kernel_rfl⟩
theorem ti_67 : TIok Go.Proofs.Tryz.prog 67 (.scalar) := ⟨⟨_, Go.Proofs.Tryz.underlying67, rfl⟩, by kernel_rfl⟩
theorem ti_68 : TIok Go.Proofs.Tryz.prog 68 (.scalar) := ⟨⟨_, Go.Proofs.Tryz.underlying68, rfl⟩, by kernel_rfl⟩
theorem ti_69 : TIok Go.Proofs.Tryz.prog 69 (.sliceP 513) := ⟨41, Go.Proofs.Tryz.underlying69, by kernel_rfl, by kernel_rfl⟩
theorem ti_70 : TIok Go.Proofs.Tryz.prog 70 (.scalar) := ⟨⟨_, Go.Proofs.Tryz.underlying70, rfl⟩, by kernel_rfl⟩
theorem ti_71 : TIok Go.Proofs.Tryz.prog 71 (.scalar) := ⟨⟨_, Go.Proofs.Tryz.underlying71, rfl⟩, by kernel_rfl⟩
theorem ti_72 : TIok Go.Proofs.Tryz.prog 72 (.scalar) := ⟨⟨_, Go.Proofs.Tryz.underlying72, rfl⟩, by kernel_rfl⟩
theorem ti_73 : TIok Go.Proofs.Tryz.prog 73 (.scalar) := ⟨⟨_, Go.Proofs.Tryz.underlying73, rfl⟩, by kernel_rfl⟩
theorem ti_74 : TIok Go.Proofs.Tryz.prog 74 (.scalar) := ⟨⟨_, Go.Proofs.Tryz.underlying74, rfl⟩, by kernel_rfl⟩
theorem ti_75 : TIok Go.Proofs.Tryz.prog 75 (.slice 1) := ⟨5, Go.Proofs.Tryz.underlying75, by kernel_rfl, by kernel_rfl⟩
theorem ti_76 : TIok Go.Proofs.Tryz.prog 76 (.scalar) := ⟨⟨_, Go.Proofs.Tryz.underlying76, rfl⟩, by kernel_rfl⟩
theorem ti_77 : TIok Go.Proofs.Tryz.prog 77 (.scalar) := ⟨⟨_, Go.Proofs.Tryz.underlying77, rfl⟩, by kernel_rfl⟩
theorem ti_78 : TIok Go.Proofs.Tryz.prog 78 (.scalar) := ⟨⟨_, Go.Proofs.Tryz.underlying78, rfl⟩, by kernel_rfl⟩
theorem ti_79 : TIok Go.Proofs.Tryz.prog 79 (.slice 1) := ⟨75, Go.Proofs.Tryz.underlying79, by kernel_rfl, by kernel_rfl⟩
theorem ti_80 : TIok Go.Proofs.Tryz.prog 80 (.scalar) := ⟨⟨_, Go.Proofs.Tryz.underlying80, rfl⟩, by kernel_rfl⟩
theorem ti_81 : TIok Go.Proofs.Tryz.prog 81 (.scalar) := ⟨⟨_, Go.Proofs.Tryz.underlying81, rfl⟩, by kernel_rfl⟩
theorem ti_82 : TIok Go.Proofs.Tryz.prog 82 (.scalar) := ⟨⟨_, Go.Proofs.Tryz.underlying82, rfl⟩, by kernel_rfl⟩
theorem ti_83 : TIok Go.Proofs.Tryz.prog 83 (.scalar) := ⟨⟨_, Go.Proofs.Tryz.underlying83, rfl⟩, by kernel_rfl⟩
theorem ti_84 : TIok Go.Proofs.Tryz.prog 84 (.scalar) := ⟨⟨_, Go.Proofs.Tryz.underlying84, rfl⟩, by kernel_rfl⟩
theorem ti_85 : TIok Go.Proofs.Tryz.prog 85 (.scalar) := ⟨⟨_, Go.Proofs.Tryz.underlying85, rfl⟩, by kernel_rfl⟩
theorem ti_86 : TIok Go.Proofs.Tryz.prog 86 (.scalar) := ⟨⟨_, Go.Proofs.Tryz.underlying86, rfl⟩, by kernel_rfl⟩
theorem ti_87 : TIok Go.Proofs.Tryz.prog 87 (.scalar) := ⟨⟨_, Go.Proofs.Tryz.underlying87, rfl⟩, by kernel_rfl⟩
theorem ti_88 : TIok Go.Proofs.Tryz.prog 88 (.scalar) := ⟨⟨_, Go.Proofs.Tryz.underlying88, rfl⟩, by kernel_rfl⟩
theorem ti_89 : TIok Go.Proofs.Tryz.prog 89 (.scalar) := ⟨⟨_, Go.Proofs.Tryz.underlying89, rfl⟩, by kernel_rfl⟩
theorem ti_90 : TIok Go.Proofs.Tryz.prog 90 (.scalar) := ⟨⟨_, Go.Proofs.Tryz.underlying90, rfl⟩, by kernel_rfl⟩
theorem ti_91 : TIok Go.Proofs.Tryz.prog 91 (.scalar) := ⟨⟨_, Go.Proofs.Tryz.underlying91, rfl⟩, by kernel_rfl⟩
theorem ti_92 : TIok Go.Proofs.Tryz.prog 92 (.scalar) := ⟨⟨_, Go.Proofs.Tryz.underlying92, rfl⟩, by kernel_rfl⟩
theorem ti_93 : TIok Go.Proofs.Tryz.prog 93 (.scalar) := ⟨⟨_, Go.Proofs.Tryz.underlying93, rfl⟩, by kernel_rfl⟩
theorem ti_94 : TIok Go.Proofs.Tryz.prog 94 (.arr 8 1 false) := ⟨4, _, Go.Proofs.Tryz.underlying94, by kernel_rfl, by kernel_rfl, Go.Proofs.Tryz.underlying4, rfl, by omega⟩
theorem ti_95 : TIok Go.Proofs.Tryz.prog 95 (.scalar) := ⟨⟨_, Go.Proofs.Tryz.underlying95, rfl⟩, by kernel_rfl⟩
theorem ti_96 : TIok Go.Proofs.Tryz.prog 96 (.scalar) := ⟨⟨_, Go.Proofs.Tryz.underlying96, rfl⟩, by kernel_rfl⟩
theorem ti_97 : TIok Go.Proofs.Tryz.prog 97 (.scalar) := ⟨⟨_, Go.Proofs.Tryz.underlying97, rfl⟩, by kernel_rfl⟩
theorem ti_98 : TIok Go.Proofs.Tryz.prog 98 (.scalar) := ⟨⟨_, Go.Proofs.Tryz.underlying98, rfl⟩, by kernel_rfl⟩
theorem ti_99 : TIok Go.Proofs.Tryz.prog 99 (.scalar) := ⟨⟨_, Go.Proofs.Tryz.underlying99, rfl⟩, by kernel_rfl⟩
theorem ti_100 : TIok Go.Proofs.Tryz.prog 100 (.scalar) := ⟨⟨_, Go.Proofs.Tryz.underlying100, rfl⟩, by kernel_rfl⟩
theorem ti_101 : TIok Go.Proofs.Tryz.prog 101 (.scalar) := ⟨⟨_, Go.Proofs.Tryz.underlying101, rfl⟩, by kernel_rfl⟩
theorem ti_102 : TIok Go.Proofs.Tryz.prog 102 (.scalar) := ⟨⟨_, Go.Proofs.Tryz.underlying102, rfl⟩, by kernel_rfl⟩
theorem ti_103 : TIok Go.Proofs.Tryz.prog 103 (.scalar) := ⟨⟨_, Go.Proofs.Tryz.underlying103, rfl⟩, by kernel_rfl⟩
theorem ti_104 : TIok Go.Proofs.Tryz.prog 104 (.scalar) := ⟨⟨_, Go.Proofs.Tryz.underlying104, rfl⟩, by kernel_rfl⟩
theorem ti_105 : TIok Go.Proofs.Tryz.prog 105 (.struct [0, 1, 2, 10] 522) := by
  refine ⟨_, Go.Proofs.Tryz.underlying105, by kernel_rfl, by rfl, ?_⟩
  intro f hf
  simp only [List.mem_cons, List.not_mem_nil, or_false] at hf
  rcases hf with rfl | hf
  · exact ⟨0, by kernel_rfl⟩
  rcases hf with rfl | hf
  · exact ⟨0, by kernel_rfl⟩
  rcases hf with rfl | hf
  · exact ⟨7, by kernel_rfl⟩
  subst hf
  exact ⟨511, by kernel_rfl⟩
theorem ti_106 : TIok Go.Proofs.Tryz.prog 106 (.struct [0, 1, 2, 10] 522) := by
  refine ⟨_, Go.Proofs.Tryz.underlying106, by kernel_rfl, by rfl, ?_⟩
  intro f hf
  simp only [List.mem_cons, List.not_mem_nil, or_false] at hf
  rcases hf with rfl | hf
  · exact ⟨0, by kernel_rfl⟩
  rcases hf with rfl | hf
  · exact ⟨0, by kernel_rfl⟩
  rcases hf with rfl | hf
  · exact ⟨7, by kernel_rfl⟩
  subst hf
  exact ⟨511, by kernel_rfl⟩
theorem ti_107 : TIok Go.Proofs.Tryz.prog 107 (.scalar) := ⟨⟨_, Go.Proofs.Tryz.underlying107, rfl⟩, by kernel_rfl⟩
theorem ti_108 : TIok Go.Proofs.Tryz.prog 108 (.scalar) := ⟨⟨_, Go.Proofs.Tryz.underlying108, rfl⟩, by kernel_rfl⟩
theorem ti_109 : TIok Go.Proofs.Tryz.prog 109 (.scalar) := ⟨⟨_, Go.Proofs.Tryz.underlying109, rfl⟩, by kernel_rfl⟩
theorem ti_110 : TIok Go.Proofs.Tryz.prog 110 (.scalar) := ⟨⟨_, Go.Proofs.Tryz.underlying110, rfl⟩, by kernel_rfl⟩
theorem ti_111 : TIok Go.Proofs.Tryz.prog 111 (.struct [0, 1, 2, 10] 522) := by
  refine ⟨_, Go.Proofs.Tryz.underlying111, by kernel_rfl, by rfl, ?_⟩
  intro f hf
  simp only [List.mem_cons, List.not_mem_nil, or_false] at hf
  rcases hf with rfl | hf
  · exact ⟨0, by kernel_rfl⟩
  rcases hf with rfl | hf
  · exact ⟨0, by kernel_rfl⟩
  rcases hf with rfl | hf
  · exact ⟨7, by kernel_rfl⟩
  subst hf
  exact ⟨511, by kernel_rfl⟩
theorem ti_112 : TIok Go.Proofs.Tryz.prog 112 (.struct [0, 1, 2, 10] 522) := by
  refine ⟨_, Go.Proofs.Tryz.underlying112, by kernel_rfl, by rfl, ?_⟩
  intro f hf
  simp only [List.mem_cons, List.not_mem_nil, or_false] at hf
  rcases hf with rfl | hf
  · exact ⟨0, by kernel_rfl⟩
  rcases hf with rfl | hf
  · exact ⟨0, by kernel_rfl⟩
  rcases hf with rfl | hf
  · exact ⟨7, by kernel_rfl⟩
  subst hf
  exact ⟨511, by kernel_rfl⟩
theorem ti_113 : TIok Go.Proofs.Tryz.prog 113 (.scalar) := ⟨⟨_, Go.Proofs.Tryz.underlying113, rfl⟩, by kernel_rfl⟩
theorem ti_114 : TIok Go.Proofs.Tryz.prog 114 (.scalar) := ⟨⟨_, Go.Proofs.Tryz.underlying114, rfl⟩, by kernel_rfl⟩
theorem ti_115 : TIok Go.Proofs.Tryz.prog 115 (.struct [0, 1] 2) := by
  refine ⟨_, Go.Proofs.Tryz.underlying115, by kernel_rfl, by rfl, ?_⟩
  intro f hf
  simp only [List.mem_cons, List.not_mem_nil, or_false] at hf
  rcases hf with rfl | hf
  · exact ⟨0, by kernel_rfl⟩
  subst hf
  exact ⟨0, by kernel_rfl⟩
theorem ti_116 : TIok Go.Proofs.Tryz.prog 116 (.struct [0, 1] 2) := by
  refine ⟨_, Go.Proofs.Tryz.underlying116, by kernel_rfl, by rfl, ?_⟩
  intro f hf
  simp only [List.mem_cons, List.not_mem_nil, or_false] at hf
  rcases hf with rfl | hf
  · exact ⟨0, by kernel_rfl⟩
  subst hf
  exact ⟨0, by kernel_rfl⟩
theorem ti_117 : TIok Go.Proofs.Tryz.prog 117 (.scalar) := ⟨⟨_, Go.Proofs.Tryz.underlying117, rfl⟩, by kernel_rfl⟩
theorem ti_118 : TIok Go.Proofs.Tryz.prog 118 (.arr 7 2 true) := ⟨116, _, Go.Proofs.Tryz.underlying118, by kernel_rfl, by kernel_rfl, Go.Proofs.Tryz.underlying116, rfl, by omega⟩
theorem ti_119 : TIok Go.Proofs.Tryz.prog 119 (.scalar) := ⟨⟨_, Go.Proofs.Tryz.underlying119, rfl⟩, by kernel_rfl⟩
theorem ti_120 : TIok Go.Proofs.Tryz.prog 120 (.scalar) := ⟨⟨_, Go.Proofs.Tryz.underlying120, rfl⟩, by kernel_rfl⟩
theorem ti_121 : TIok Go.Proofs.Tryz.prog 121 (.scalar) := ⟨⟨_, Go.Proofs.Tryz.underlying121, rfl⟩, by kernel_rfl⟩
theorem ti_122 : TIok Go.Proofs.Tryz.prog 122 (.scalar) := ⟨⟨_, Go.Proofs.Tryz.underlying122, rfl⟩, by kernel_rfl⟩
theorem ti_123 : TIok Go.Proofs.Tryz.prog 123 (.scalar) := ⟨⟨_, Go.Proofs.Tryz.underlying123, rfl⟩, by kernel_rfl⟩
theorem ti_124 : TIok Go.Proofs.Tryz.prog 124 (.scalar) := ⟨⟨_, Go.Proofs.Tryz.underlying124, rfl⟩, by kernel_rfl⟩
theorem ti_125 : TIok Go.Proofs.Tryz.prog 125 (.scalar) := ⟨⟨_, Go.Proofs.Tryz.underlying125, rfl⟩, by kernel_rfl⟩
theorem ti_126 : TIok Go.Proofs.Tryz.prog 126 (.scalar) := ⟨⟨_, Go.Proofs.Tryz.underlying126, rfl⟩, by kernel_rfl⟩
theorem ti_127 : TIok Go.Proofs.Tryz.prog 127 (.slice 1) := ⟨2, Go.Proofs.Tryz.underlying127, by kernel_rfl, by kernel_rfl⟩
theorem ti_128 : TIok Go.Proofs.Tryz.prog 128 (.scalar) := ⟨⟨_, Go.Proofs.Tryz.underlying128, rfl⟩, by kernel_rfl⟩
theorem ti_129 : TIok Go.Proofs.Tryz.prog 129 (.scalar) := ⟨⟨_, Go.Proofs.Tryz.underlying129, rfl⟩, by kernel_rfl⟩
theorem ti_130 : TIok Go.Proofs.Tryz.prog 130 (.scalar) := ⟨⟨_, Go.Proofs.Tryz.underlying130, rfl⟩, by kernel_rfl⟩
theorem ti_131 : TIok Go.Proofs.Tryz.prog 131 (.scalar) := ⟨⟨_, Go.Proofs.Tryz.underlying131, rfl⟩, by kernel_rfl⟩
theorem ti_132 : TIok Go.Proofs.Tryz.prog 132 (.scalar) := ⟨⟨_, Go.Proofs.Tryz.underlying132, rfl⟩, by kernel_rfl⟩
theorem ti_133 : TIok Go.Proofs.Tryz.prog 133 (.scalar) := ⟨⟨_, Go.Proofs.Tryz.underlying133, rfl⟩, by kernel_rfl⟩
theorem ti_134 : TIok Go.Proofs.Tryz.prog 134 (.scalar) := ⟨⟨_, Go.Proofs.Tryz.underlying134, rfl⟩, by kernel_rfl⟩
theorem ti_135 : TIok Go.Proofs.Tryz.prog 135 (.scalar) := ⟨⟨_, Go.Proofs.Tryz.underlying135, rfl⟩, by kernel_rfl⟩
theorem ti_136 : TIok Go.Proofs.Tryz.prog 136 (.scalar) := ⟨⟨_, Go.Proofs.Tryz.underlying136, rfl⟩, by kernel_rfl⟩
theorem ti_138 : TIok Go.Proofs.Tryz.prog 138 (.scalar) := ⟨⟨_, Go.Proofs.Tryz.underlying138, rfl⟩, by kernel_rfl⟩
theorem ti_139 : TIok Go.Proofs.Tryz.prog 139 (.scalar) := ⟨⟨_, Go.Proofs.Tryz.underlying139, rfl⟩, by kernel_rfl⟩
theorem ti_140 : TIok Go.Proofs.Tryz.prog 140 (.scalar) := ⟨⟨_, Go.Proofs.Tryz.underlying140, rfl⟩, by kernel_rfl⟩
theorem ti_141 : TIok Go.Proofs.Tryz.prog 141 (.scalar) := ⟨⟨_, Go.Proofs.Tryz.underlying141, rfl⟩, by kernel_rfl⟩
theorem ti_142 : TIok Go.Proofs.Tryz.prog 142 (.scalar) := ⟨⟨_, Go.Proofs.Tryz.underlying142, rfl⟩, by kernel_rfl⟩
theorem ti_144 : TIok Go.Proofs.Tryz.prog 144 (.scalar) := ⟨⟨_, Go.Proofs.Tryz.underlying144, rfl⟩, by kernel_rfl⟩
theorem ti_145 : TIok Go.Proofs.Tryz.prog 145 (.scalar) := ⟨⟨_, Go.Proofs.Tryz.underlying145, rfl⟩, by kernel_rfl⟩
theorem ti_151 : TIok Go.Proofs.Tryz.prog 151 (.scalar) := ⟨⟨_, Go.Proofs.Tryz.underlying151, rfl⟩, by kernel_rfl⟩
theorem ti_152 : TIok Go.Proofs.Tryz.prog 152 (.int .u32) := ⟨Go.Proofs.Tryz.underlying152, by kernel_rfl⟩
theorem ti_153 : TIok Go.Proofs.Tryz.prog 153 (.int .u8) := ⟨Go.Proofs.Tryz.underlying153, by kernel_rfl⟩
theorem ti_154 : TIok Go.Proofs.Tryz.prog 154 (.int .u8) := ⟨Go.Proofs.Tryz.underlying154, by kernel_rfl⟩
theorem ti_155 : TIok Go.Proofs.Tryz.prog 155 (.scalar) := ⟨⟨_, Go.Proofs.Tryz.underlying155, rfl⟩, by kernel_rfl⟩
theorem ti_157 : TIok Go.Proofs.Tryz.prog 157 (.int .i32) := ⟨Go.Proofs.Tryz.underlying157, by kernel_rfl⟩
theorem ti_158 : TIok Go.Proofs.Tryz.prog 158 (.int .i32) := ⟨Go.Proofs.Tryz.underlying158, by kernel_rfl⟩
theorem ti_161 : TIok Go.Proofs.Tryz.prog 161 (.scalar) := ⟨⟨_, Go.Proofs.Tryz.underlying161, rfl⟩, by kernel_rfl⟩
theorem z_1 : (Go.Proofs.Tryz.prog.info? 1).map (·.zero) = some (some (toVal (fun _ => 0) .nilf)) := by kernel_rfl
theorem z_2 : (Go.Proofs.Tryz.prog.info? 2).map (·.zero) = some (some (toVal (fun _ => 0) (.int .i64 0))) := by kernel_rfl
theorem z_3 : (Go.Proofs.Tryz.prog.info? 3).map (·.zero) = some (some (toVal (fun _ => 0) (.int .i64 0))) := by kernel_rfl
theorem z_4 : (Go.Proofs.Tryz.prog.info? 4).map (·.zero) = some (some (toVal (fun _ => 0) (.bool false))) := by kernel_rfl
theorem z_5 : (Go.Proofs.Tryz.prog.info? 5).map (·.zero) = some (some (toVal (fun _ => 0) (.int .u8 0))) := by kernel_rfl
theorem z_6 : (Go.Proofs.Tryz.prog.info? 6).map (·.zero) = some (some (toVal (fun _ => 0) (.int .u8 0))) := by kernel_rfl
theorem z_7 : (Go.Proofs.Tryz.prog.info? 7).map (·.zero) = some (some (toVal (fun _ => 0) (.pair (.int .i64 0) (.pair (.int .i64 0) (.pair (.bool false) (.pair (.int .u8 0) .unit)))))) := by kernel_rfl
theorem z_8 : (Go.Proofs.Tryz.prog.info? 8).map (·.zero) = some (some (toVal (fun _ => 0) (.pair (.int .i64 0) (.pair (.int .i64 0) (.pair (.bool false) (.pair (.int .u8 0) .unit)))))) := by kernel_rfl
theorem z_12 : (Go.Proofs.Tryz.prog.info? 12).map (·.zero) = some (some (toVal (fun _ => 0) (.int .u64 0))) := by kernel_rfl
theorem z_13 : (Go.Proofs.Tryz.prog.info? 13).map (·.zero) = some (some (toVal (fun _ => 0) (.pair (.str ByteArray.empty) (.pair (.int .u64 0) .unit)))) := by kernel_rfl
theorem z_14 : (Go.Proofs.Tryz.prog.info? 14).map (·.zero) = some (some (toVal (fun _ => 0) (.pair (.str ByteArray.empty) (.pair (.int .u64 0) .unit)))) := by kernel_rfl
theorem z_21 : (Go.Proofs.Tryz.prog.info? 21).map (·.zero) = some (some (toVal (fun _ => 0) (.int .i32 0))) := by kernel_rfl
theorem z_22 : (Go.Proofs.Tryz.prog.info? 22).map (·.zero) = some (some (toVal (fun _ => 0) (.ints .u8 8 fun _ => 0))) := by kernel_rfl
theorem z_23 : (Go.Proofs.Tryz.prog.info? 23).map (·.zero) = some (some (toVal (fun _ => 0) (.ints .u8 64 fun _ => 0))) := by kernel_rfl
theorem z_24 : (Go.Proofs.Tryz.prog.info? 24).map (·.zero) = some (some (toVal (fun _ => 0) (.ints .u8 512 fun _ => 0))) := by kernel_rfl
theorem z_25 : (Go.Proofs.Tryz.prog.info? 25).map (·.zero) = some (some (toVal (fun _ => 0) (.pair (.int .i64 0) (.pair (.int .i64 0) (.pair (.ints .u8 8 fun _ => 0) (.pair (.ints .u8 512 fun _ => 0) (.pair (.ints .u8 8 fun _ => 0) (.pair (.ints .u8 512 fun _ => 0) (.pair (.ints .u8 64 fun _ => 0) .unit))))))))) := by kernel_rfl
theorem z_26 : (Go.Proofs.Tryz.prog.info? 26).map (·.zero) = some (some (toVal (fun _ => 0) (.pair (.int .i64 0) (.pair (.int .i64 0) (.pair (.ints .u8 8 fun _ => 0) (.pair (.ints .u8 512 fun _ => 0) (.pair (.ints .u8 8 fun _ => 0) (.pair (.ints .u8 512 fun _ => 0) (.pair (.ints .u8 64 fun _ => 0) .unit))))))))) := by kernel_rfl
theorem z_27 : (Go.Proofs.Tryz.prog.info? 27).map (·.zero) = some (some (toVal (fun _ => 0) (.pair (.int .i64 0) (.pair (.ints .u8 512 fun _ => 0) .unit)))) := by kernel_rfl
theorem z_28 : (Go.Proofs.Tryz.prog.info? 28).map (·.zero) = some (some (toVal (fun _ => 0) (.pair (.int .i64 0) (.pair (.ints .u8 512 fun _ => 0) .unit)))) := by kernel_rfl
theorem z_29 : (Go.Proofs.Tryz.prog.info? 29).map (·.zero) = some (some (toVal (fun _ => 0) .nilsl)) := by kernel_rfl
theorem z_31 : (Go.Proofs.Tryz.prog.info? 31).map (·.zero) = some (some (toVal (fun _ => 0) .nilf)) := by kernel_rfl
theorem z_32 : (Go.Proofs.Tryz.prog.info? 32).map (·.zero) = some (some (toVal (fun _ => 0) (.ints .u8 8 fun _ => 0))) := by kernel_rfl
theorem z_33 : (Go.Proofs.Tryz.prog.info? 33).map (·.zero) = some (some (toVal (fun _ => 0) (.ints .u8 64 fun _ => 0))) := by kernel_rfl
theorem z_34 : (Go.Proofs.Tryz.prog.info? 34).map (·.zero) = some (some (toVal (fun _ => 0) (.ints .u8 64 fun _ => 0))) := by kernel_rfl
theorem z_35 : (Go.Proofs.Tryz.prog.info? 35).map (·.zero) = some (some (toVal (fun _ => 0) (.ints .u8 512 fun _ => 0))) := by kernel_rfl
theorem z_36 : (Go.Proofs.Tryz.prog.info? 36).map (·.zero) = some (some (toVal (fun _ => 0) (.ints .u8 512 fun _ => 0))) := by kernel_rfl
theorem z_37 : (Go.Proofs.Tryz.prog.info? 37).map (·.zero) = some (some (toVal (fun _ => 0) (.pair (.int .i64 0) (.pair (.int .i64 0) (.pair (.ints .u8 8 fun _ => 0) (.pair (.ints .u8 512 fun _ => 0) (.pair (.ints .u8 8 fun _ => 0) (.pair (.ints .u8 512 fun _ => 0) (.pair (.ints .u8 64 fun _ => 0) .unit))))))))) := by kernel_rfl
theorem z_38 : (Go.Proofs.Tryz.prog.info? 38).map (·.zero) = some (some (toVal (fun _ => 0) (.pair (.int .i64 0) (.pair (.int .i64 0) (.pair (.ints .u8 8 fun _ => 0) (.pair (.ints .u8 512 fun _ => 0) (.pair (.ints .u8 8 fun _ => 0) (.pair (.ints .u8 512 fun _ => 0) (.pair (.ints .u8 64 fun _ => 0) .unit))))))))) := by kernel_rfl
theorem z_39 : (Go.Proofs.Tryz.prog.info? 39).map (·.zero) = some (some (toVal (fun _ => 0) .nilf)) := by kernel_rfl
theorem z_40 : (Go.Proofs.Tryz.prog.info? 40).map (·.zero) = some (some (toVal (fun _ => 0) (.pair (.int .i64 0) (.pair (.ints .u8 512 fun _ => 0) .unit)))) := by kernel_rfl
theorem z_41 : (Go.Proofs.Tryz.prog.info? 41).map (·.zero) = some (some (toVal (fun _ => 0) (.pair (.int .i64 0) (.pair (.ints .u8 512 fun _ => 0) .unit)))) := by kernel_rfl
theorem z_42 : (Go.Proofs.Tryz.prog.info? 42).map (·.zero) = some (some (toVal (fun _ => 0) .nilf)) := by kernel_rfl
theorem z_43 : (Go.Proofs.Tryz.prog.info? 43).map (·.zero) = some (some (toVal (fun _ => 0) .nilf)) := by kernel_rfl
theorem z_44 : (Go.Proofs.Tryz.prog.info? 44).map (·.zero) = some (some (toVal (fun _ => 0) .nilf)) := by kernel_rfl
theorem z_45 : (Go.Proofs.Tryz.prog.info? 45).map (·.zero) = some (some (toVal (fun _ => 0) .nilf)) := by kernel_rfl
theorem z_46 : (Go.Proofs.Tryz.prog.info? 46).map (·.zero) = some (some (toVal (fun _ => 0) .nilf)) := by kernel_rfl
theorem z_47 : (Go.Proofs.Tryz.prog.info? 47).map (·.zero) = some (some (toVal (fun _ => 0) .nilf)) := by kernel_rfl
theorem z_48 : (Go.Proofs.Tryz.prog.info? 48).map (·.zero) = some (some (toVal (fun _ => 0) .nilf)) := by kernel_rfl
theorem z_49 : (Go.Proofs.Tryz.prog.info? 49).map (·.zero) = some (some (toVal (fun _ => 0) .nilf)) := by kernel_rfl
theorem z_50 : (Go.Proofs.Tryz.prog.info? 50).map (·.zero) = some (some (toVal (fun _ => 0) .nilf)) := by kernel_rfl
theorem z_51 : (Go.Proofs.Tryz.prog.info? 51).map (·.zero) = some (some (toVal (fun _ => 0) .nilf)) := by kernel_rfl
theorem z_52 : (Go.Proofs.Tryz.prog.info? 52).map (·.zero) = some (some (toVal (fun _ => 0) .nilf)) := by kernel_rfl
theorem z_53 : (Go.Proofs.Tryz.prog.info? 53).map (·.zero) = some (some (toVal (fun _ => 0) .nilf)) := by kernel_rfl
theorem z_54 : (Go.Proofs.Tryz.prog.info? 54).map (·.zero) = some (some (toVal (fun _ => 0) .nilf)) := by kernel_rfl
theorem z_55 : (Go.Proofs.Tryz.prog.info? 55).map (·.zero) = some (some (toVal (fun _ => 0) .nilf)) := by kernel_rfl
theorem z_56 : (Go.Proofs.Tryz.prog.info? 56).map (·.zero) = some (some (toVal (fun _ => 0) .nilsl)) := by kernel_rfl
theorem z_57 : (Go.Proofs.Tryz.prog.info? 57).map (·.zero) = some (some (toVal (fun _ => 0) (.pair (.int .i64 0) (.pair .nilsl (.pair .nilf .unit))))) := by kernel_rfl
theorem z_58 : (Go.Proofs.Tryz.prog.info? 58).map (·.zero) = some (some (toVal (fun _ => 0) (.pair (.int .i64 0) (.pair .nilsl (.pair .nilf .unit))))) := by kernel_rfl
theorem z_59 : (Go.Proofs.Tryz.prog.info? 59).map (·.zero) = some (some (toVal (fun _ => 0) .nilf)) := by kernel_rfl
theorem z_60 : (Go.Proofs.Tryz.prog.info? 60).map (·.zero) = some (some (toVal (fun _ => 0) .nilf)) := by kernel_rfl
theorem z_61 : (Go.Proofs.Tryz.prog.info? 61).map (·.zero) = some (some (toVal (fun _ => 0) .nilf)) := by kernel_rfl
theorem z_62 : (Go.Proofs.Tryz.prog.info? 62).map (·.zero) = some (some (toVal (fun _ => 0) .nilf)) := by kernel_rfl
theorem z_63 : (Go.Proofs.Tryz.prog.info? 63).map (·.zero) = some (some (toVal (fun _ => 0) .nilf)) := by kernel_rfl
theorem z_64 : (Go.Proofs.Tryz.prog.info? 64).map (·.zero) = some (some (toVal (fun _ => 0) .nilf)) := by kernel_rfl
theorem z_65 : (Go.Proofs.Tryz.prog.info? 65).map (·.zero) = some (some (toVal (fun _ => 0) .nilf)) := by kernel_rfl
theorem z_66 : (Go.Proofs.Tryz.prog.info? 66).map (·.zero) = some (some (toVal (fun _ => 0) .nilf)) := by kernel_rfl
theorem z_67 : (Go.Proofs.Tryz.prog.info? 67).map (·.zero) = some (some (toVal (fun _ => 0) .nilf)) := by kernel_rfl
theorem z_68 : (Go.Proofs.Tryz.prog.info? 68).map (·.zero) = some (some (toVal (fun _ => 0) .nilf)) := by kernel_rfl
theorem z_69 : (Go.Proofs.Tryz.prog.info? 69).map (·.zero) = some (some (toVal (fun _ => 0) .nilsl)) := by kernel_rfl
theorem z_70 : (Go.Proofs.Tryz.prog.info? 70).map (·.zero) = some (some (toVal (fun _ => 0) .nilf)) := by kernel_rfl
theorem z_71 : (Go.Proofs.Tryz.prog.info? 71).map (·.zero) = some (some (toVal (fun _ => 0) .nilf)) := by kernel_rfl
theorem z_72 : (Go.Proofs.Tryz.prog.info? 72).map (·.zero) = some (some (toVal (fun _ => 0) .nilf)) := by kernel_rfl
theorem z_73 : (Go.Proofs.Tryz.prog.info? 73).map (·.zero) = some (some (toVal (fun _ => 0) .nilf)) := by kernel_rfl
theorem z_74 : (Go.Proofs.Tryz.prog.info? 74).map (·.zero) = some (some (toVal (fun _ => 0) .nilf)) := by kernel_rfl
theorem z_75 : (Go.Proofs.Tryz.prog.info? 75).map (·.zero) = some (some (toVal (fun _ => 0) .nilsl)) := by kernel_rfl
theorem z_76 : (Go.Proofs.Tryz.prog.info? 76).map (·.zero) = some (some (toVal (fun _ => 0) .nilf)) := by kernel_rfl
theorem z_77 : (Go.Proofs.Tryz.prog.info? 77).map (·.zero) = some (some (toVal (fun _ => 0) .nilf)) := by kernel_rfl
theorem z_78 : (Go.Proofs.Tryz.prog.info? 78).map (·.zero) = some (some (toVal (fun _ => 0) .nilf)) := by kernel_rfl
theorem z_79 : (Go.Proofs.Tryz.prog.info? 79).map (·.zero) = some (some (toVal (fun _ => 0) .nilsl)) := by kernel_rfl
theorem z_80 : (Go.Proofs.Tryz.prog.info? 80).map (·.zero) = some (some (toVal (fun _ => 0) .nilf)) := by kernel_rfl
theorem z_81 : (Go.Proofs.Tryz.prog.info? 81).map (·.zero) = some (some (toVal (fun _ => 0) .nilf)) := by kernel_rfl
theorem z_82 : (Go.Proofs.Tryz.prog.info? 82).map (·.zero) = some (some (toVal (fun _ => 0) .nilf)) := by kernel_rfl
theorem z_83 : (Go.Proofs.Tryz.prog.info? 83).map (·.zero) = some (some (toVal (fun _ => 0) .nilf)) := by kernel_rfl
theorem z_84 : (Go.Proofs.Tryz.prog.info? 84).map (·.zero) = some (some (toVal (fun _ => 0) .nilf)) := by kernel_rfl
theorem z_85 : (Go.Proofs.Tryz.prog.info? 85).map (·.zero) = some (some (toVal (fun _ => 0) .nilf)) := by kernel_rfl
theorem z_86 : (Go.Proofs.Tryz.prog.info? 86).map (·.zero) = some (some (toVal (fun _ => 0) .nilf)) := by kernel_rfl
theorem z_87 : (Go.Proofs.Tryz.prog.info? 87).map (·.zero) = some (some (toVal (fun _ => 0) .nilf)) := by kernel_rfl
theorem z_88 : (Go.Proofs.Tryz.prog.info? 88).map (·.zero) = some (some (toVal (fun _ => 0) .nilf)) := by kernel_rfl
theorem z_89 : (Go.Proofs.Tryz.prog.info? 89).map (·.zero) = some (some (toVal (fun _ => 0) .nilf)) := by kernel_rfl
theorem z_90 : (Go.Proofs.Tryz.prog.info? 90).map (·.zero) = some (some (toVal (fun _ => 0) .nilf)) := by kernel_rfl
theorem z_91 : (Go.Proofs.Tryz.prog.info? 91).map (·.zero) = some (some (toVal (fun _ => 0) .nilf)) := by kernel_rfl
theorem z_92 : (Go.Proofs.Tryz.prog.info? 92).map (·.zero) = some (some (toVal (fun _ => 0) .nilf)) := by kernel_rfl
theorem z_93 : (Go.Proofs.Tryz.prog.info? 93).map (·.zero) = some (some (toVal (fun _ => 0) .nilf)) := by kernel_rfl
theorem z_94 : (Go.Proofs.Tryz.prog.info? 94).map (·.zero) = some (some (toVal (fun _ => 0) (.vec 8 fun _ => .bool false))) := by kernel_rfl
theorem z_95 : (Go.Proofs.Tryz.prog.info? 95).map (·.zero) = some (some (toVal (fun _ => 0) .nilf)) := by kernel_rfl
theorem z_96 : (Go.Proofs.Tryz.prog.info? 96).map (·.zero) = some (some (toVal (fun _ => 0) .nilf)) := by kernel_rfl
theorem z_97 : (Go.Proofs.Tryz.prog.info? 97).map (·.zero) = some (some (toVal (fun _ => 0) .nilf)) := by kernel_rfl
theorem z_98 : (Go.Proofs.Tryz.prog.info? 98).map (·.zero) = some (some (toVal (fun _ => 0) .nilf)) := by kernel_rfl
theorem z_99 : (Go.Proofs.Tryz.prog.info? 99).map (·.zero) = some (some (toVal (fun _ => 0) .nilf)) := by kernel_rfl
theorem z_100 : (Go.Proofs.Tryz.prog.info? 100).map (·.zero) = some (some (toVal (fun _ => 0) .nilf)) := by kernel_rfl
theorem z_101 : (Go.Proofs.Tryz.prog.info? 101).map (·.zero) = some (some (toVal (fun _ => 0) .nilf)) := by kernel_rfl
theorem z_102 : (Go.Proofs.Tryz.prog.info? 102).map (·.zero) = some (some (toVal (fun _ => 0) .nilf)) := by kernel_rfl
theorem z_103 : (Go.Proofs.Tryz.prog.info? 103).map (·.zero) = some (some (toVal (fun _ => 0) .nilf)) := by kernel_rfl
theorem z_104 : (Go.Proofs.Tryz.prog.info? 104).map (·.zero) = some (some (toVal (fun _ => 0) .nilf)) := by kernel_rfl
theorem z_105 : (Go.Proofs.Tryz.prog.info? 105).map (·.zero) = some (some (toVal (fun _ => 0) (.pair (.int .i64 0) (.pair (.int .i64 0) (.pair (.ints .u8 8 fun _ => 0) (.pair (.ints .u8 512 fun _ => 0) .unit)))))) := by kernel_rfl
theorem z_106 : (Go.Proofs.Tryz.prog.info? 106).map (·.zero) = some (some (toVal (fun _ => 0) (.pair (.int .i64 0) (.pair (.int .i64 0) (.pair (.ints .u8 8 fun _ => 0) (.pair (.ints .u8 512 fun _ => 0) .unit)))))) := by kernel_rfl
theorem z_107 : (Go.Proofs.Tryz.prog.info? 107).map (·.zero) = some (some (toVal (fun _ => 0) .nilf)) := by kernel_rfl
theorem z_108 : (Go.Proofs.Tryz.prog.info? 108).map (·.zero) = some (some (toVal (fun _ => 0) .nilf)) := by kernel_rfl
theorem z_109 : (Go.Proofs.Tryz.prog.info? 109).map (·.zero) = some (some (toVal (fun _ => 0) .nilf)) := by kernel_rfl
theorem z_110 : (Go.Proofs.Tryz.prog.info? 110).map (·.zero) = some (some (toVal (fun _ => 0) .nilf)) := by kernel_rfl
theorem z_111 : (Go.Proofs.Tryz.prog.info? 111).map (·.zero) = some (some (toVal (fun _ => 0) (.pair (.int .i64 0) (.pair (.int .i64 0) (.pair (.ints .u8 8 fun _ => 0) (.pair (.ints .u8 512 fun _ => 0) .unit)))))) := by kernel_rfl
theorem z_112 : (Go.Proofs.Tryz.prog.info? 112).map (·.zero) = some (some (toVal (fun _ => 0) (.pair (.int .i64 0) (.pair (.int .i64 0) (.pair (.ints .u8 8 fun _ => 0) (.pair (.ints .u8 512 fun _ => 0) .unit)))))) := by kernel_rfl
theorem z_113 : (Go.Proofs.Tryz.prog.info? 113).map (·.zero) = some (some (toVal (fun _ => 0) .nilf)) := by kernel_rfl
theorem z_114 : (Go.Proofs.Tryz.prog.info? 114).map (·.zero) = some (some (toVal (fun _ => 0) .nilf)) := by kernel_rfl
theorem z_115 : (Go.Proofs.Tryz.prog.info? 115).map (·.zero) = some (some (toVal (fun _ => 0) (.pair (.bool false) (.pair .nilf .unit)))) := by kernel_rfl
theorem z_116 : (Go.Proofs.Tryz.prog.info? 116).map (·.zero) = some (some (toVal (fun _ => 0) (.pair (.bool false) (.pair .nilf .unit)))) := by kernel_rfl
theorem z_117 : (Go.Proofs.Tryz.prog.info? 117).map (·.zero) = some (some (toVal (fun _ => 0) .nilf)) := by kernel_rfl
theorem z_118 : (Go.Proofs.Tryz.prog.info? 118).map (·.zero) = some (some (toVal (fun _ => 0) (.pair (.pair (.bool false) (.pair .nilf .unit)) (.pair (.pair (.bool false) (.pair .nilf .unit)) (.pair (.pair (.bool false) (.pair .nilf .unit)) (.pair (.pair (.bool false) (.pair .nilf .unit)) (.pair (.pair (.bool false) (.pair .nilf .unit)) (.pair (.pair (.bool false) (.pair .nilf .unit)) (.pair (.pair (.bool false) (.pair .nilf .unit)) .unit))))))))) := by kernel_rfl
theorem z_119 : (Go.Proofs.Tryz.prog.info? 119).map (·.zero) = some (some (toVal (fun _ => 0) .nilf)) := by kernel_rfl
theorem z_120 : (Go.Proofs.Tryz.prog.info? 120).map (·.zero) = some (some (toVal (fun _ => 0) .nilf)) := by kernel_rfl
theorem z_121 : (Go.Proofs.Tryz.prog.info? 121).map (·.zero) = some (some (toVal (fun _ => 0) .nilf)) := by kernel_rfl
theorem z_122 : (Go.Proofs.Tryz.prog.info? 122).map (·.zero) = some (some (toVal (fun _ => 0) .nilf)) := by kernel_rfl
theorem z_123 : (Go.Proofs.Tryz.prog.info? 123).map (·.zero) = some (some (toVal (fun _ => 0) .nilf)) := by kernel_rfl
theorem z_124 : (Go.Proofs.Tryz.prog.info? 124).map (·.zero) = some (some (toVal (fun _ => 0) .nilf)) := by kernel_rfl
theorem z_125 : (Go.Proofs.Tryz.prog.info? 125).map (·.zero) = some (some (toVal (fun _ => 0) .nilf)) := by kernel_rfl
theorem z_126 : (Go.Proofs.Tryz.prog.info? 126).map (·.zero) = some (some (toVal (fun _ => 0) .nilf)) := by kernel_rfl
theorem z_127 : (Go.Proofs.Tryz.prog.info? 127).map (·.zero) = some (some (toVal (fun _ => 0) .nilsl)) := by kernel_rfl
theorem z_128 : (Go.Proofs.Tryz.prog.info? 128).map (·.zero) = some (some (toVal (fun _ => 0) .nilf)) := by kernel_rfl
theorem z_129 : (Go.Proofs.Tryz.prog.info? 129).map (·.zero) = some (some (toVal (fun _ => 0) .nilf)) := by kernel_rfl
theorem z_130 : (Go.Proofs.Tryz.prog.info? 130).map (·.zero) = some (some (toVal (fun _ => 0) .nilf)) := by kernel_rfl
theorem z_131 : (Go.Proofs.Tryz.prog.info? 131).map (·.zero) = some (some (toVal (fun _ => 0) .nilf)) := by kernel_rfl
theorem z_132 : (Go.Proofs.Tryz.prog.info? 132).map (·.zero) = some (some (toVal (fun _ => 0) .nilf)) := by kernel_rfl
theorem z_133 : (Go.Proofs.Tryz.prog.info? 133).map (·.zero) = some (some (toVal (fun _ => 0) .nilf)) := by kernel_rfl
theorem z_134 : (Go.Proofs.Tryz.prog.info? 134).map (·.zero) = some (some (toVal (fun _ => 0) .nilf)) := by kernel_rfl
theorem z_135 : (Go.Proofs.Tryz.prog.info? 135).map (·.zero) = some (some (toVal (fun _ => 0) .nilf)) := by kernel_rfl
theorem z_136 : (Go.Proofs.Tryz.prog.info? 136).map (·.zero) = some (some (toVal (fun _ => 0) .nilf)) := by kernel_rfl
theorem z_138 : (Go.Proofs.Tryz.prog.info? 138).map (·.zero) = some (some (toVal (fun _ => 0) .nilf)) := by kernel_rfl
theorem z_139 : (Go.Proofs.Tryz.prog.info? 139).map (·.zero) = some (some (toVal (fun _ => 0) .nilf)) := by kernel_rfl
theorem z_140 : (Go.Proofs.Tryz.prog.info? 140).map (·.zero) = some (some (toVal (fun _ => 0) .nilf)) := by kernel_rfl
theorem z_141 : (Go.Proofs.Tryz.prog.info? 141).map (·.zero) = some (some (toVal (fun _ => 0) .nilf)) := by kernel_rfl
theorem z_142 : (Go.Proofs.Tryz.prog.info? 142).map (·.zero) = some (some (toVal (fun _ => 0) .nilf)) := by kernel_rfl
theorem z_144 : (Go.Proofs.Tryz.prog.info? 144).map (·.zero) = some (some (toVal (fun _ => 0) .nilf)) := by kernel_rfl
theorem z_145 : (Go.Proofs.Tryz.prog.info? 145).map (·.zero) = some (some (toVal (fun _ => 0) .nilf)) := by kernel_rfl
theorem z_151 : (Go.Proofs.Tryz.prog.info? 151).map (·.zero) = some (some (toVal (fun _ => 0) .nilf)) := by kernel_rfl
theorem z_152 : (Go.Proofs.Tryz.prog.info? 152).map (·.zero) = some (some (toVal (fun _ => 0) (.int .u32 0))) := by kernel_rfl
theorem z_153 : (Go.Proofs.Tryz.prog.info? 153).map (·.zero) = some (some (toVal (fun _ => 0) (.int .u8 0))) := by kernel_rfl
theorem z_154 : (Go.Proofs.Tryz.prog.info? 154).map (·.zero) = some (some (toVal (fun _ => 0) (.int .u8 0))) := by kernel_rfl
theorem z_155 : (Go.Proofs.Tryz.prog.info? 155).map (·.zero) = some (some (toVal (fun _ => 0) .nilf)) := by kernel_rfl
theorem z_157 : (Go.Proofs.Tryz.prog.info? 157).map (·.zero) = some (some (toVal (fun _ => 0) (.int .i32 0))) := by kernel_rfl
theorem z_158 : (Go.Proofs.Tryz.prog.info? 158).map (·.zero) = some (some (toVal (fun _ => 0) (.int .i32 0))) := by kernel_rfl
theorem z_161 : (Go.Proofs.Tryz.prog.info? 161).map (·.zero) = some (some (toVal (fun _ => 0) .nilf)) := by kernel_rfl

theorem tiAll : ∀ p ∈ tiList, TIok Go.Proofs.Tryz.prog p.1 p.2 := by
  intro p hp
  simp only [tiList, List.mem_cons, List.not_mem_nil, or_false] at hp
  rcases hp with rfl | rfl | rfl | rfl | rfl | rfl | rfl | rfl | rfl | rfl | rfl | rfl | rfl | rfl | rfl | rfl | rfl | rfl | rfl | rfl | rfl | rfl | rfl | rfl | rfl | rfl | rfl | rfl | rfl | rfl | rfl | rfl | rfl | rfl | rfl | rfl | rfl | rfl | rfl | rfl | rfl | rfl | rfl | rfl | rfl | rfl | rfl | rfl | rfl | rfl | rfl | rfl | rfl | rfl | rfl | rfl | rfl | rfl | rfl | rfl | rfl | rfl | rfl | rfl | rfl | rfl | rfl | rfl | rfl | rfl | rfl | rfl | rfl | rfl | rfl | rfl | rfl | rfl | rfl | rfl | rfl | rfl | rfl | rfl | rfl | rfl | rfl | rfl | rfl | rfl | rfl | rfl | rfl | rfl | rfl | rfl | rfl | rfl | rfl | rfl | rfl | rfl | rfl | rfl | rfl | rfl | rfl | rfl | rfl | rfl | rfl | rfl | rfl | rfl | rfl | rfl | rfl | rfl | rfl | rfl | rfl | rfl | rfl | rfl | rfl | rfl | rfl | rfl | rfl | rfl | rfl | rfl | rfl | rfl | rfl | rfl | rfl | rfl | rfl | rfl | rfl | rfl | rfl | rfl
  · exact ti_1
  · exact ti_2
  · exact ti_3
  · exact ti_4
  · exact ti_5
  · exact ti_6
  · exact ti_7
  · exact ti_8
  · exact ti_9
  · exact ti_10
  · exact ti_11
  · exact ti_12
  · exact ti_13
  · exact ti_14
  · exact ti_21
  · exact ti_22
  · exact ti_23
  · exact ti_24
  · exact ti_25
  · exact ti_26
  · exact ti_27
  · exact ti_28
  · exact ti_29
  · exact ti_31
  · exact ti_32
  · exact ti_33
  · exact ti_34
  · exact ti_35
  · exact ti_36
  · exact ti_37
  · exact ti_38
  · exact ti_39
  · exact ti_40
  · exact ti_41
  · exact ti_42
  · exact ti_43
  · exact ti_44
  · exact ti_45
  · exact ti_46
  · exact ti_47
  · exact ti_48
  · exact ti_49
  · exact ti_50
  · exact ti_51
  · exact ti_52
  · exact ti_53
  · exact ti_54
  · exact ti_55
  · exact ti_56
  · exact ti_57
  · exact ti_58
  · exact ti_59
  · exact ti_60
  · exact ti_61
  · exact ti_62
  · exact ti_63
  · exact ti_64
  · exact ti_65
  · exact ti_66
  · exact ti_67
  · exact ti_68
  · exact ti_69
  · exact ti_70
  · exact ti_71
  · exact ti_72
  · exact ti_73
  · exact ti_74
  · exact ti_75
  · exact ti_76
  · exact ti_77
  · exact ti_78
  · exact ti_79
  · exact ti_80
  · exact ti_81
  · exact ti_82
  · exact ti_83
  · exact ti_84
  · exact ti_85
  · exact ti_86
  · exact ti_87
  · exact ti_88
  · exact ti_89
  · exact ti_90
  · exact ti_91
  · exact ti_92
  · exact ti_93
  · exact ti_94
  · exact ti_95
  · exact ti_96
  · exact ti_97
  · exact ti_98
  · exact ti_99
  · exact ti_100
  · exact ti_101
  · exact ti_102
  · exact ti_103
  · exact ti_104
  · exact ti_105
  · exact ti_106
  · exact ti_107
  · exact ti_108
  · exact ti_109
  · exact ti_110
  · exact ti_111
  · exact ti_112
  · exact ti_113
  · exact ti_114
  · exact ti_115
  · exact ti_116
  · exact ti_117
  · exact ti_118
  · exact ti_119
  · exact ti_120
  · exact ti_121
  · exact ti_122
  · exact ti_123
  · exact ti_124
  · exact ti_125
  · exact ti_126
  · exact ti_127
  · exact ti_128
  · exact ti_129
  · exact ti_130
  · exact ti_131
  · exact ti_132
  · exact ti_133
  · exact ti_134
  · exact ti_135
  · exact ti_136
  · exact ti_138
  · exact ti_139
  · exact ti_140
  · exact ti_141
  · exact ti_142
  · exact ti_144
  · exact ti_145
  · exact ti_151
  · exact ti_152
  · exact ti_153
  · exact ti_154
  · exact ti_155
  · exact ti_157
  · exact ti_158
  · exact ti_161
theorem zAll : ∀ p ∈ zList, (Go.Proofs.Tryz.prog.info? p.1).map (·.zero) = some (some (toVal (fun _ => 0) p.2)) ∧ p.2.ids = [] := by
  intro p hp
  simp only [zList, List.mem_cons, List.not_mem_nil, or_false] at hp
  rcases hp with rfl | rfl | rfl | rfl | rfl | rfl | rfl | rfl | rfl | rfl | rfl | rfl | rfl | rfl | rfl | rfl | rfl | rfl | rfl | rfl | rfl | rfl | rfl | rfl | rfl | rfl | rfl | rfl | rfl | rfl | rfl | rfl | rfl | rfl | rfl | rfl | rfl | rfl | rfl | rfl | rfl | rfl | rfl | rfl | rfl | rfl | rfl | rfl | rfl | rfl | rfl | rfl | rfl | rfl | rfl | rfl | rfl | rfl | rfl | rfl | rfl | rfl | rfl | rfl | rfl | rfl | rfl | rfl | rfl | rfl | rfl | rfl | rfl | rfl | rfl | rfl | rfl | rfl | rfl | rfl | rfl | rfl | rfl | rfl | rfl | rfl | rfl | rfl | rfl | rfl | rfl | rfl | rfl | rfl | rfl | rfl | rfl | rfl | rfl | rfl | rfl | rfl | rfl | rfl | rfl | rfl | rfl | rfl | rfl | rfl | rfl | rfl | rfl | rfl | rfl | rfl | rfl | rfl | rfl | rfl | rfl | rfl | rfl | rfl | rfl | rfl | rfl | rfl | rfl | rfl | rfl | rfl | rfl | rfl | rfl | rfl | rfl | rfl | rfl | rfl | rfl
  · exact ⟨z_1, rfl⟩
  · exact ⟨z_2, rfl⟩
  · exact ⟨z_3, rfl⟩
  · exact ⟨z_4, rfl⟩
  · exact ⟨z_5, rfl⟩
  · exact ⟨z_6, rfl⟩
  · exact ⟨z_7, rfl⟩
  · exact ⟨z_8, rfl⟩
  · exact ⟨z_12, rfl⟩
  · exact ⟨z_13, rfl⟩
  · exact ⟨z_14, rfl⟩
  · exact ⟨z_21, rfl⟩
  · exact ⟨z_22, rfl⟩
  · exact ⟨z_23, rfl⟩
  · exact ⟨z_24, rfl⟩
  · exact ⟨z_25, rfl⟩
  · exact ⟨z_26, rfl⟩
  · exact ⟨z_27, rfl⟩
  · exact ⟨z_28, rfl⟩
  · exact ⟨z_29, rfl⟩
  · exact ⟨z_31, rfl⟩
  · exact ⟨z_32, rfl⟩
  · exact ⟨z_33, rfl⟩
  · exact ⟨z_34, rfl⟩
  · exact ⟨z_35, rfl⟩
  · exact ⟨z_36, rfl⟩
  · exact ⟨z_37, rfl⟩
  · exact ⟨z_38, rfl⟩
  · exact ⟨z_39, rfl⟩
  · exact ⟨z_40, rfl⟩
  · exact ⟨z_41, rfl⟩
  · exact ⟨z_42, rfl⟩
  · exact ⟨z_43, rfl⟩
  · exact ⟨z_44, rfl⟩
  · exact ⟨z_45, rfl⟩
  · exact ⟨z_46, rfl⟩
  · exact ⟨z_47, rfl⟩
  · exact ⟨z_48, rfl⟩
  · exact ⟨z_49, rfl⟩
  · exact ⟨z_50, rfl⟩
  · exact ⟨z_51, rfl⟩
  · exact ⟨z_52, rfl⟩
  · exact ⟨z_53, rfl⟩
  · exact ⟨z_54, rfl⟩
  · exact ⟨z_55, rfl⟩
  · exact ⟨z_56, rfl⟩
  · exact ⟨z_57, rfl⟩
  · exact ⟨z_58, rfl⟩
  · exact ⟨z_59, rfl⟩
  · exact ⟨z_60, rfl⟩
  · exact ⟨z_61, rfl⟩
  · exact ⟨z_62, rfl⟩
  · exact ⟨z_63, rfl⟩
  · exact ⟨z_64, rfl⟩
  · exact ⟨z_65, rfl⟩
  · exact ⟨z_66, rfl⟩
  · exact ⟨z_67, rfl⟩
  · exact ⟨z_68, rfl⟩
  · exact ⟨z_69, rfl⟩
  · exact ⟨z_70, rfl⟩
  · exact ⟨z_71, rfl⟩
  · exact ⟨z_72, rfl⟩
  · exact ⟨z_73, rfl⟩
  · exact ⟨z_74, rfl⟩
  · exact ⟨z_75, rfl⟩
  · exact ⟨z_76, rfl⟩
  · exact ⟨z_77, rfl⟩
  · exact ⟨z_78, rfl⟩
  · exact ⟨z_79, rfl⟩
  · exact ⟨z_80, rfl⟩
  · exact ⟨z_81, rfl⟩
  · exact ⟨z_82, rfl⟩
  · exact ⟨z_83, rfl⟩
  · exact ⟨z_84, rfl⟩
  · exact ⟨z_85, rfl⟩
  · exact ⟨z_86, rfl⟩
  · exact ⟨z_87, rfl⟩
  · exact ⟨z_88, rfl⟩
  · exact ⟨z_89, rfl⟩
  · exact ⟨z_90, rfl⟩
  · exact ⟨z_91, rfl⟩
  · exact ⟨z_92, rfl⟩
  · exact ⟨z_93, rfl⟩
  · exact ⟨z_94, rfl⟩
  · exact ⟨z_95, rfl⟩
  · exact ⟨z_96, rfl⟩
  · exact ⟨z_97, rfl⟩
  · exact ⟨z_98, rfl⟩
  · exact ⟨z_99, rfl⟩
  · exact ⟨z_100, rfl⟩
  · exact ⟨z_101, rfl⟩
  · exact ⟨z_102, rfl⟩
  · exact ⟨z_103, rfl⟩
  · exact ⟨z_104, rfl⟩
  · exact ⟨z_105, rfl⟩
  · exact ⟨z_106, rfl⟩
  · exact ⟨z_107, rfl⟩
  · exact ⟨z_108, rfl⟩
  · exact ⟨z_109, rfl⟩
  · exact ⟨z_110, rfl⟩
  · exact ⟨z_111, rfl⟩
  · exact ⟨z_112, rfl⟩
  · exact ⟨z_113, rfl⟩
  · exact ⟨z_114, rfl⟩
  · exact ⟨z_115, rfl⟩
  · exact ⟨z_116, rfl⟩
  · exact ⟨z_117, rfl⟩
  · exact ⟨z_118, rfl⟩
  · exact ⟨z_119, rfl⟩
  · exact ⟨z_120, rfl⟩
  · exact ⟨z_121, rfl⟩
  · exact ⟨z_122, rfl⟩
  · exact ⟨z_123, rfl⟩
  · exact ⟨z_124, rfl⟩
  · exact ⟨z_125, rfl⟩
  · exact ⟨z_126, rfl⟩
  · exact ⟨z_127, rfl⟩
  · exact ⟨z_128, rfl⟩
  · exact ⟨z_129, rfl⟩
  · exact ⟨z_130, rfl⟩
  · exact ⟨z_131, rfl⟩
  · exact ⟨z_132, rfl⟩
  · exact ⟨z_133, rfl⟩
  · exact ⟨z_134, rfl⟩
  · exact ⟨z_135, rfl⟩
  · exact ⟨z_136, rfl⟩
  · exact ⟨z_138, rfl⟩
  · exact ⟨z_139, rfl⟩
  · exact ⟨z_140, rfl⟩
  · exact ⟨z_141, rfl⟩
  · exact ⟨z_142, rfl⟩
  · exact ⟨z_144, rfl⟩
  · exact ⟨z_145, rfl⟩
  · exact ⟨z_151, rfl⟩
  · exact ⟨z_152, rfl⟩
  · exact ⟨z_153, rfl⟩
  · exact ⟨z_154, rfl⟩
  · exact ⟨z_155, rfl⟩
  · exact ⟨z_157, rfl⟩
  · exact ⟨z_158, rfl⟩
  · exact ⟨z_161, rfl⟩
theorem eAll : ∀ p ∈ e0List, ∃ e, Go.Proofs.Tryz.prog.underlying p.1 = some (.slice e) ∧ (Go.Proofs.Tryz.prog.info? e).map (·.zero) = some (some (toVal (fun _ => 0) p.2)) := by
  intro p hp
  simp only [e0List, List.mem_cons, List.not_mem_nil, or_false] at hp
  rcases hp with rfl | rfl | rfl | rfl | rfl | rfl
  · exact ⟨32, Go.Proofs.Tryz.underlying29, z_32⟩
  · exact ⟨34, Go.Proofs.Tryz.underlying56, z_34⟩
  · exact ⟨41, Go.Proofs.Tryz.underlying69, z_41⟩
  · exact ⟨5, Go.Proofs.Tryz.underlying75, z_5⟩
  · exact ⟨75, Go.Proofs.Tryz.underlying79, z_75⟩
  · exact ⟨2, Go.Proofs.Tryz.underlying127, z_2⟩
def nOf : List (Nat × Nat) → Nat → Option Nat
  | [], _ => none
  | (k, x) :: r, t => match Nat.beq k t with | true => some x | false => nOf r t
theorem nOf_ok {R : Nat → Nat → Prop} : ∀ (l : List (Nat × Nat)), (∀ p ∈ l, R p.1 p.2) → ∀ t z, nOf l t = some z → R t z
  | [], _, t, z, h => by cases h
  | (k, x) :: r, h, t, z, hz => by
    unfold nOf at hz
    cases hb : Nat.beq k t with
    | true =>
      have := Nat.eq_of_beq_eq_true hb
      subst this
      simp only [hb] at hz
      cases hz
      exact h (k, x) (by simp)
    | false => simp only [hb] at hz; exact nOf_ok r (fun p hp => h p (by simp [hp])) t z hz
theorem aAll : ∀ p ∈ appList, ∃ e z, Go.Proofs.Tryz.prog.underlying p.1 = some (.slice e) ∧ (Go.Proofs.Tryz.prog.info? e).map (·.bytes) = some p.2 ∧ (Go.Proofs.Tryz.prog.info? e).map (·.zero) = some (some (toVal (fun _ => 0) z)) ∧ (Go.Proofs.Tryz.prog.info? e).map (·.size) = some (toVal (fun _ => 0) z).cells.size := by
  intro p hp
  simp only [appList, List.mem_cons, List.not_mem_nil, or_false] at hp
  rcases hp with rfl | rfl | rfl | rfl | rfl
  · exact ⟨32, (.ints .u8 8 fun _ => 0), Go.Proofs.Tryz.underlying29, by kernel_rfl, z_32, by kernel_rfl⟩
  · exact ⟨34, (.ints .u8 64 fun _ => 0), Go.Proofs.Tryz.underlying56, by kernel_rfl, z_34, by kernel_rfl⟩
  · exact ⟨5, (.int .u8 0), Go.Proofs.Tryz.underlying75, by kernel_rfl, z_5, by kernel_rfl⟩
  · exact ⟨75, (.nilsl), Go.Proofs.Tryz.underlying79, by kernel_rfl, z_75, by kernel_rfl⟩
  · exact ⟨2, (.int .i64 0), Go.Proofs.Tryz.underlying127, by kernel_rfl, z_2, by kernel_rfl⟩
theorem row_22 : RowT Go.Proofs.Tryz.prog 22 .u8 8 1 := .one Go.Proofs.Tryz.underlying22 Go.Proofs.Tryz.underlying5 (by kernel_rfl)
theorem row_23 : RowT Go.Proofs.Tryz.prog 23 .u8 64 2 := .more Go.Proofs.Tryz.underlying23 row_22 (by kernel_rfl)
theorem row_24 : RowT Go.Proofs.Tryz.prog 24 .u8 512 3 := .more Go.Proofs.Tryz.underlying24 row_23 (by kernel_rfl)
theorem row_32 : RowT Go.Proofs.Tryz.prog 32 .u8 8 1 := .one Go.Proofs.Tryz.underlying32 Go.Proofs.Tryz.underlying5 (by kernel_rfl)
theorem row_33 : RowT Go.Proofs.Tryz.prog 33 .u8 64 2 := .more Go.Proofs.Tryz.underlying33 row_32 (by kernel_rfl)
theorem row_34 : RowT Go.Proofs.Tryz.prog 34 .u8 64 2 := .more Go.Proofs.Tryz.underlying34 row_32 (by kernel_rfl)
theorem row_35 : RowT Go.Proofs.Tryz.prog 35 .u8 512 3 := .more Go.Proofs.Tryz.underlying35 row_34 (by kernel_rfl)
theorem row_36 : RowT Go.Proofs.Tryz.prog 36 .u8 512 3 := .more Go.Proofs.Tryz.underlying36 row_34 (by kernel_rfl)
theorem flt_7 : ∃ fs : Array Field, Go.Proofs.Tryz.prog.underlying 7 = some (.struct fs) ∧ FldsT Go.Proofs.Tryz.prog 0 fs.toList [.int .i64, .int .i64, .scal, .int .u8] := ⟨_, Go.Proofs.Tryz.underlying7, .int (by decide) rfl Go.Proofs.Tryz.underlying2 (by kernel_rfl) (.int (by decide) rfl Go.Proofs.Tryz.underlying3 (by kernel_rfl) (.scal (by decide) rfl Go.Proofs.Tryz.underlying4 rfl (by kernel_rfl) (.int (by decide) rfl Go.Proofs.Tryz.underlying6 (by kernel_rfl) (.nil))))⟩
theorem fl_7 : PairOK Go.Proofs.Tryz.prog 7 [.int .i64, .int .i64, .scal, .int .u8] := .never (by decide)
theorem flt_8 : ∃ fs : Array Field, Go.Proofs.Tryz.prog.underlying 8 = some (.struct fs) ∧ FldsT Go.Proofs.Tryz.prog 0 fs.toList [.int .i64, .int .i64, .scal, .int .u8] := ⟨_, Go.Proofs.Tryz.underlying8, .int (by decide) rfl Go.Proofs.Tryz.underlying2 (by kernel_rfl) (.int (by decide) rfl Go.Proofs.Tryz.underlying3 (by kernel_rfl) (.scal (by decide) rfl Go.Proofs.Tryz.underlying4 rfl (by kernel_rfl) (.int (by decide) rfl Go.Proofs.Tryz.underlying6 (by kernel_rfl) (.nil))))⟩
theorem fl_8 : PairOK Go.Proofs.Tryz.prog 8 [.int .i64, .int .i64, .scal, .int .u8] := .never (by decide)
theorem flt_13 : ∃ fs : Array Field, Go.Proofs.Tryz.prog.underlying 13 = some (.struct fs) ∧ FldsT Go.Proofs.Tryz.prog 0 fs.toList [.scal, .int .u64] := ⟨_, Go.Proofs.Tryz.underlying13, .scal (by decide) rfl Go.Proofs.Tryz.underlying9 rfl (by kernel_rfl) (.int (by decide) rfl Go.Proofs.Tryz.underlying12 (by kernel_rfl) (.nil))⟩
theorem fl_13 : PairOK Go.Proofs.Tryz.prog 13 [.scal, .int .u64] := .never (by decide)
theorem flt_14 : ∃ fs : Array Field, Go.Proofs.Tryz.prog.underlying 14 = some (.struct fs) ∧ FldsT Go.Proofs.Tryz.prog 0 fs.toList [.scal, .int .u64] := ⟨_, Go.Proofs.Tryz.underlying14, .scal (by decide) rfl Go.Proofs.Tryz.underlying9 rfl (by kernel_rfl) (.int (by decide) rfl Go.Proofs.Tryz.underlying12 (by kernel_rfl) (.nil))⟩
theorem fl_14 : PairOK Go.Proofs.Tryz.prog 14 [.scal, .int .u64] := .never (by decide)
theorem flt_25 : ∃ fs : Array Field, Go.Proofs.Tryz.prog.underlying 25 = some (.struct fs) ∧ FldsT Go.Proofs.Tryz.prog 0 fs.toList [.int .i64, .int .i64, .row .u8 8, .row .u8 512, .row .u8 8, .row .u8 512, .row .u8 64] := ⟨_, Go.Proofs.Tryz.underlying25, .int (by decide) rfl Go.Proofs.Tryz.underlying2 (by kernel_rfl) (.int (by decide) rfl Go.Proofs.Tryz.underlying2 (by kernel_rfl) (.row (by decide) rfl row_22 (by omega) (by kernel_rfl) (.row (by decide) rfl row_24 (by omega) (by kernel_rfl) (.row (by decide) rfl row_22 (by omega) (by kernel_rfl) (.row (by decide) rfl row_24 (by omega) (by kernel_rfl) (.row (by decide) rfl row_23 (by omega) (by kernel_rfl) (.nil)))))))⟩
theorem fl_25 : PairOK Go.Proofs.Tryz.prog 25 [.int .i64, .int .i64, .row .u8 8, .row .u8 512, .row .u8 8, .row .u8 512, .row .u8 64] := by
  obtain ⟨fs, h1, h2⟩ := flt_25
  exact .of h1 h2 (by kernel_rfl) (by kernel_rfl)
theorem flt_26 : ∃ fs : Array Field, Go.Proofs.Tryz.prog.underlying 26 = some (.struct fs) ∧ FldsT Go.Proofs.Tryz.prog 0 fs.toList [.int .i64, .int .i64, .row .u8 8, .row .u8 512, .row .u8 8, .row .u8 512, .row .u8 64] := ⟨_, Go.Proofs.Tryz.underlying26, .int (by decide) rfl Go.Proofs.Tryz.underlying2 (by kernel_rfl) (.int (by decide) rfl Go.Proofs.Tryz.underlying2 (by kernel_rfl) (.row (by decide) rfl row_22 (by omega) (by kernel_rfl) (.row (by decide) rfl row_24 (by omega) (by kernel_rfl) (.row (by decide) rfl row_22 (by omega) (by kernel_rfl) (.row (by decide) rfl row_24 (by omega) (by kernel_rfl) (.row (by decide) rfl row_23 (by omega) (by kernel_rfl) (.nil)))))))⟩
theorem fl_26 : PairOK Go.Proofs.Tryz.prog 26 [.int .i64, .int .i64, .row .u8 8, .row .u8 512, .row .u8 8, .row .u8 512, .row .u8 64] := by
  obtain ⟨fs, h1, h2⟩ := flt_26
  exact .of h1 h2 (by kernel_rfl) (by kernel_rfl)
theorem flt_27 : ∃ fs : Array Field, Go.Proofs.Tryz.prog.underlying 27 = some (.struct fs) ∧ FldsT Go.Proofs.Tryz.prog 0 fs.toList [.int .i64, .row .u8 512] := ⟨_, Go.Proofs.Tryz.underlying27, .int (by decide) rfl Go.Proofs.Tryz.underlying2 (by kernel_rfl) (.row (by decide) rfl row_24 (by omega) (by kernel_rfl) (.nil))⟩
theorem fl_27 : PairOK Go.Proofs.Tryz.prog 27 [.int .i64, .row .u8 512] := by
  obtain ⟨fs, h1, h2⟩ := flt_27
  exact .of h1 h2 (by kernel_rfl) (by kernel_rfl)
theorem flt_28 : ∃ fs : Array Field, Go.Proofs.Tryz.prog.underlying 28 = some (.struct fs) ∧ FldsT Go.Proofs.Tryz.prog 0 fs.toList [.int .i64, .row .u8 512] := ⟨_, Go.Proofs.Tryz.underlying28, .int (by decide) rfl Go.Proofs.Tryz.underlying2 (by kernel_rfl) (.row (by decide) rfl row_24 (by omega) (by kernel_rfl) (.nil))⟩
theorem fl_28 : PairOK Go.Proofs.Tryz.prog 28 [.int .i64, .row .u8 512] := by
  obtain ⟨fs, h1, h2⟩ := flt_28
  exact .of h1 h2 (by kernel_rfl) (by kernel_rfl)
theorem flt_37 : ∃ fs : Array Field, Go.Proofs.Tryz.prog.underlying 37 = some (.struct fs) ∧ FldsT Go.Proofs.Tryz.prog 0 fs.toList [.int .i64, .int .i64, .row .u8 8, .row .u8 512, .row .u8 8, .row .u8 512, .row .u8 64] := ⟨_, Go.Proofs.Tryz.underlying37, .int (by decide) rfl Go.Proofs.Tryz.underlying2 (by kernel_rfl) (.int (by decide) rfl Go.Proofs.Tryz.underlying2 (by kernel_rfl) (.row (by decide) rfl row_32 (by omega) (by kernel_rfl) (.row (by decide) rfl row_36 (by omega) (by kernel_rfl) (.row (by decide) rfl row_32 (by omega) (by kernel_rfl) (.row (by decide) rfl row_36 (by omega) (by kernel_rfl) (.row (by decide) rfl row_34 (by omega) (by kernel_rfl) (.nil)))))))⟩
theorem fl_37 : PairOK Go.Proofs.Tryz.prog 37 [.int .i64, .int .i64, .row .u8 8, .row .u8 512, .row .u8 8, .row .u8 512, .row .u8 64] := by
  obtain ⟨fs, h1, h2⟩ := flt_37
  exact .of h1 h2 (by kernel_rfl) (by kernel_rfl)
theorem flt_38 : ∃ fs : Array Field, Go.Proofs.Tryz.prog.underlying 38 = some (.struct fs) ∧ FldsT Go.Proofs.Tryz.prog 0 fs.toList [.int .i64, .int .i64, .row .u8 8, .row .u8 512, .row .u8 8, .row .u8 512, .row .u8 64] := ⟨_, Go.Proofs.Tryz.underlying38, .int (by decide) rfl Go.Proofs.Tryz.underlying2 (by kernel_rfl) (.int (by decide) rfl Go.Proofs.Tryz.underlying2 (by kernel_rfl) (.row (by decide) rfl row_32 (by omega) (by kernel_rfl) (.row (by decide) rfl row_36 (by omega) (by kernel_rfl) (.row (by decide) rfl row_32 (by omega) (by kernel_rfl) (.row (by decide) rfl row_36 (by omega) (by kernel_rfl) (.row (by decide) rfl row_34 (by omega) (by kernel_rfl) (.nil)))))))⟩
theorem fl_38 : PairOK Go.Proofs.Tryz.prog 38 [.int .i64, .int .i64, .row .u8 8, .row .u8 512, .row .u8 8, .row .u8 512, .row .u8 64] := by
  obtain ⟨fs, h1, h2⟩ := flt_38
  exact .of h1 h2 (by kernel_rfl) (by kernel_rfl)
theorem flt_40 : ∃ fs : Array Field, Go.Proofs.Tryz.prog.underlying 40 = some (.struct fs) ∧ FldsT Go.Proofs.Tryz.prog 0 fs.toList [.int .i64, .row .u8 512] := ⟨_, Go.Proofs.Tryz.underlying40, .int (by decide) rfl Go.Proofs.Tryz.underlying2 (by kernel_rfl) (.row (by decide) rfl row_35 (by omega) (by kernel_rfl) (.nil))⟩
theorem fl_40 : PairOK Go.Proofs.Tryz.prog 40 [.int .i64, .row .u8 512] := by
  obtain ⟨fs, h1, h2⟩ := flt_40
  exact .of h1 h2 (by kernel_rfl) (by kernel_rfl)
theorem flt_41 : ∃ fs : Array Field, Go.Proofs.Tryz.prog.underlying 41 = some (.struct fs) ∧ FldsT Go.Proofs.Tryz.prog 0 fs.toList [.int .i64, .row .u8 512] := ⟨_, Go.Proofs.Tryz.underlying41, .int (by decide) rfl Go.Proofs.Tryz.underlying2 (by kernel_rfl) (.row (by decide) rfl row_35 (by omega) (by kernel_rfl) (.nil))⟩
theorem fl_41 : PairOK Go.Proofs.Tryz.prog 41 [.int .i64, .row .u8 512] := by
  obtain ⟨fs, h1, h2⟩ := flt_41
  exact .of h1 h2 (by kernel_rfl) (by kernel_rfl)
theorem flt_57 : ∃ fs : Array Field, Go.Proofs.Tryz.prog.underlying 57 = some (.struct fs) ∧ FldsT Go.Proofs.Tryz.prog 0 fs.toList [.int .i64, .slice, .scal] := ⟨_, Go.Proofs.Tryz.underlying57, .int (by decide) rfl Go.Proofs.Tryz.underlying2 (by kernel_rfl) (.slice (by decide) rfl Go.Proofs.Tryz.underlying56 (by kernel_rfl) (.scal (by decide) rfl Go.Proofs.Tryz.underlying55 rfl (by kernel_rfl) (.nil)))⟩
theorem fl_57 : PairOK Go.Proofs.Tryz.prog 57 [.int .i64, .slice, .scal] := .never (by decide)
theorem flt_58 : ∃ fs : Array Field, Go.Proofs.Tryz.prog.underlying 58 = some (.struct fs) ∧ FldsT Go.Proofs.Tryz.prog 0 fs.toList [.int .i64, .slice, .scal] := ⟨_, Go.Proofs.Tryz.underlying58, .int (by decide) rfl Go.Proofs.Tryz.underlying2 (by kernel_rfl) (.slice (by decide) rfl Go.Proofs.Tryz.underlying56 (by kernel_rfl) (.scal (by decide) rfl Go.Proofs.Tryz.underlying55 rfl (by kernel_rfl) (.nil)))⟩
theorem fl_58 : PairOK Go.Proofs.Tryz.prog 58 [.int .i64, .slice, .scal] := .never (by decide)
theorem flt_105 : ∃ fs : Array Field, Go.Proofs.Tryz.prog.underlying 105 = some (.struct fs) ∧ FldsT Go.Proofs.Tryz.prog 0 fs.toList [.int .i64, .int .i64, .row .u8 8, .row .u8 512] := ⟨_, Go.Proofs.Tryz.underlying105, .int (by decide) rfl Go.Proofs.Tryz.underlying2 (by kernel_rfl) (.int (by decide) rfl Go.Proofs.Tryz.underlying2 (by kernel_rfl) (.row (by decide) rfl row_32 (by omega) (by kernel_rfl) (.row (by decide) rfl row_36 (by omega) (by kernel_rfl) (.nil))))⟩
theorem fl_105 : PairOK Go.Proofs.Tryz.prog 105 [.int .i64, .int .i64, .row .u8 8, .row .u8 512] := by
  obtain ⟨fs, h1, h2⟩ := flt_105
  exact .of h1 h2 (by kernel_rfl) (by kernel_rfl)
theorem flt_106 : ∃ fs : Array Field, Go.Proofs.Tryz.prog.underlying 106 = some (.struct fs) ∧ FldsT Go.Proofs.Tryz.prog 0 fs.toList [.int .i64, .int .i64, .row .u8 8, .row .u8 512] := ⟨_, Go.Proofs.Tryz.underlying106, .int (by decide) rfl Go.Proofs.Tryz.underlying2 (by kernel_rfl) (.int (by decide) rfl Go.Proofs.Tryz.underlying2 (by kernel_rfl) (.row (by decide) rfl row_32 (by omega) (by kernel_rfl) (.row (by decide) rfl row_36 (by omega) (by kernel_rfl) (.nil))))⟩
theorem fl_106 : PairOK Go.Proofs.Tryz.prog 106 [.int .i64, .int .i64, .row .u8 8, .row .u8 512] := by
  obtain ⟨fs, h1, h2⟩ := flt_106
  exact .of h1 h2 (by kernel_rfl) (by kernel_rfl)
theorem flt_111 : ∃ fs : Array Field, Go.Proofs.Tryz.prog.underlying 111 = some (.struct fs) ∧ FldsT Go.Proofs.Tryz.prog 0 fs.toList [.int .i64, .int .i64, .row .u8 8, .row .u8 512] := ⟨_, Go.Proofs.Tryz.underlying111, .int (by decide) rfl Go.Proofs.Tryz.underlying2 (by kernel_rfl) (.int (by decide) rfl Go.Proofs.Tryz.underlying2 (by kernel_rfl) (.row (by decide) rfl row_32 (by omega) (by kernel_rfl) (.row (by decide) rfl row_36 (by omega) (by kernel_rfl) (.nil))))⟩
theorem fl_111 : PairOK Go.Proofs.Tryz.prog 111 [.int .i64, .int .i64, .row .u8 8, .row .u8 512] := by
  obtain ⟨fs, h1, h2⟩ := flt_111
  exact .of h1 h2 (by kernel_rfl) (by kernel_rfl)
theorem flt_112 : ∃ fs : Array Field, Go.Proofs.Tryz.prog.underlying 112 = some (.struct fs) ∧ FldsT Go.Proofs.Tryz.prog 0 fs.toList [.int .i64, .int .i64, .row .u8 8, .row .u8 512] := ⟨_, Go.Proofs.Tryz.underlying112, .int (by decide) rfl Go.Proofs.Tryz.underlying2 (by kernel_rfl) (.int (by decide) rfl Go.Proofs.Tryz.underlying2 (by kernel_rfl) (.row (by decide) rfl row_32 (by omega) (by kernel_rfl) (.row (by decide) rfl row_36 (by omega) (by kernel_rfl) (.nil))))⟩
theorem fl_112 : PairOK Go.Proofs.Tryz.prog 112 [.int .i64, .int .i64, .row .u8 8, .row .u8 512] := by
  obtain ⟨fs, h1, h2⟩ := flt_112
  exact .of h1 h2 (by kernel_rfl) (by kernel_rfl)
theorem flt_115 : ∃ fs : Array Field, Go.Proofs.Tryz.prog.underlying 115 = some (.struct fs) ∧ FldsT Go.Proofs.Tryz.prog 0 fs.toList [.scal, .scal] := ⟨_, Go.Proofs.Tryz.underlying115, .scal (by decide) rfl Go.Proofs.Tryz.underlying4 rfl (by kernel_rfl) (.scal (by decide) rfl Go.Proofs.Tryz.underlying114 rfl (by kernel_rfl) (.nil))⟩
theorem fl_115 : PairOK Go.Proofs.Tryz.prog 115 [.scal, .scal] := .never (by decide)
theorem flt_116 : ∃ fs : Array Field, Go.Proofs.Tryz.prog.underlying 116 = some (.struct fs) ∧ FldsT Go.Proofs.Tryz.prog 0 fs.toList [.scal, .scal] := ⟨_, Go.Proofs.Tryz.underlying116, .scal (by decide) rfl Go.Proofs.Tryz.underlying4 rfl (by kernel_rfl) (.scal (by decide) rfl Go.Proofs.Tryz.underlying114 rfl (by kernel_rfl) (.nil))⟩
theorem fl_116 : PairOK Go.Proofs.Tryz.prog 116 [.scal, .scal] := .never (by decide)
def flList : List (Nat × List FK) := [(7, [.int .i64, .int .i64, .scal, .int .u8]), (8, [.int .i64, .int .i64, .scal, .int .u8]), (13, [.scal, .int .u64]), (14, [.scal, .int .u64]), (25, [.int .i64, .int .i64, .row .u8 8, .row .u8 512, .row .u8 8, .row .u8 512, .row .u8 64]), (26, [.int .i64, .int .i64, .row .u8 8, .row .u8 512, .row .u8 8, .row .u8 512, .row .u8 64]), (27, [.int .i64, .row .u8 512]), (28, [.int .i64, .row .u8 512]), (37, [.int .i64, .int .i64, .row .u8 8, .row .u8 512, .row .u8 8, .row .u8 512, .row .u8 64]), (38, [.int .i64, .int .i64, .row .u8 8, .row .u8 512, .row .u8 8, .row .u8 512, .row .u8 64]), (40, [.int .i64, .row .u8 512]), (41, [.int .i64, .row .u8 512]), (57, [.int .i64, .slice, .scal]), (58, [.int .i64, .slice, .scal]), (105, [.int .i64, .int .i64, .row .u8 8, .row .u8 512]), (106, [.int .i64, .int .i64, .row .u8 8, .row .u8 512]), (111, [.int .i64, .int .i64, .row .u8 8, .row .u8 512]), (112, [.int .i64, .int .i64, .row .u8 8, .row .u8 512]), (115, [.scal, .scal]), (116, [.scal, .scal])]
def flOf : List (Nat × List FK) → Nat → Option (List FK)
  | [], _ => none
  | (k, x) :: r, t => match Nat.beq k t with | true => some x | false => flOf r t
theorem flOf_ok {R : Nat → List FK → Prop} : ∀ (l : List (Nat × List FK)), (∀ p ∈ l, R p.1 p.2) → ∀ t z, flOf l t = some z → R t z
  | [], _, t, z, h => by cases h
  | (k, x) :: r, h, t, z, hz => by
    unfold flOf at hz
    cases hb : Nat.beq k t with
    | true =>
      have := Nat.eq_of_beq_eq_true hb
      subst this
      simp only [hb] at hz
      cases hz
      exact h (k, x) (by simp)
    | false => simp only [hb] at hz; exact flOf_ok r (fun p hp => h p (by simp [hp])) t z hz
theorem flAll : ∀ p ∈ flList, PairOK Go.Proofs.Tryz.prog p.1 p.2 := by
  intro p hp
  simp only [flList, List.mem_cons, List.not_mem_nil, or_false] at hp
  rcases hp with rfl | rfl | rfl | rfl | rfl | rfl | rfl | rfl | rfl | rfl | rfl | rfl | rfl | rfl | rfl | rfl | rfl | rfl | rfl | rfl
  · exact fl_7
  · exact fl_8
  · exact fl_13
  · exact fl_14
  · exact fl_25
  · exact fl_26
  · exact fl_27
  · exact fl_28
  · exact fl_37
  · exact fl_38
  · exact fl_40
  · exact fl_41
  · exact fl_57
  · exact fl_58
  · exact fl_105
  · exact fl_106
  · exact fl_111
  · exact fl_112
  · exact fl_115
  · exact fl_116
theorem fltAll : ∀ p ∈ flList, ∃ fs : Array Field, Go.Proofs.Tryz.prog.underlying p.1 = some (.struct fs) ∧ FldsT Go.Proofs.Tryz.prog 0 fs.toList p.2 := by
  intro p hp
  simp only [flList, List.mem_cons, List.not_mem_nil, or_false] at hp
  rcases hp with rfl | rfl | rfl | rfl | rfl | rfl | rfl | rfl | rfl | rfl | rfl | rfl | rfl | rfl | rfl | rfl | rfl | rfl | rfl | rfl
  · exact flt_7
  · exact flt_8
  · exact flt_13
  · exact flt_14
  · exact flt_25
  · exact flt_26
  · exact flt_27
  · exact flt_28
  · exact flt_37
  · exact flt_38
  · exact flt_40
  · exact flt_41
  · exact flt_57
  · exact flt_58
  · exact flt_105
  · exact flt_106
  · exact flt_111
  · exact flt_112
  · exact flt_115
  · exact flt_116
def methList : List (Nat × String × Nat) := [(8, "Error", 120), (8, "RuntimeError", 121), (14, "Error", 126), (14, "RuntimeError", 127), (58, "loop.example/g01230/impl.rank", 135), (58, "loop.example/g01230/impl.relations", 24), (58, "loop.example/g01230/impl.rows", 42)]
def methGo : List (Nat × String × Nat) → Nat → String → Option Nat
  | [], _, _ => none
  | (k, x, f) :: r, t, n => match Nat.beq k t && decide (x = n) with | true => some f | false => methGo r t n
theorem methGo_ok {R : Nat → String → Nat → Prop} : ∀ (l : List (Nat × String × Nat)), (∀ p ∈ l, R p.1 p.2.1 p.2.2) → ∀ t n f, methGo l t n = some f → R t n f
  | [], _, t, n, f, h => by cases h
  | (k, x, g) :: r, h, t, n, f, hz => by
    unfold methGo at hz
    cases hb : (Nat.beq k t && decide (x = n)) with
    | true =>
      simp only [Bool.and_eq_true, decide_eq_true_eq] at hb
      obtain ⟨h1, h2⟩ := hb
      have := Nat.eq_of_beq_eq_true h1
      subst this h2
      simp only [Nat.beq_refl, decide_true, Bool.and_self] at hz
      cases hz
      exact h (k, x, g) (by simp)
    | false => simp only [hb] at hz; exact methGo_ok r (fun p hp => h p (by simp [hp])) t n f hz
theorem meth_0 : MethOK Go.Proofs.Tryz.prog 8 "Error" 120 := ⟨by kernel_rfl, _, Go.Proofs.Tryz.underlying8⟩
theorem meth_1 : MethOK Go.Proofs.Tryz.prog 8 "RuntimeError" 121 := ⟨by kernel_rfl, _, Go.Proofs.Tryz.underlying8⟩
theorem meth_2 : MethOK Go.Proofs.Tryz.prog 14 "Error" 126 := ⟨by kernel_rfl, _, Go.Proofs.Tryz.underlying14⟩
theorem meth_3 : MethOK Go.Proofs.Tryz.prog 14 "RuntimeError" 127 := ⟨by kernel_rfl, _, Go.Proofs.Tryz.underlying14⟩
theorem meth_4 : MethOK Go.Proofs.Tryz.prog 58 "loop.example/g01230/impl.rank" 135 := ⟨by kernel_rfl, _, Go.Proofs.Tryz.underlying58⟩
theorem meth_5 : MethOK Go.Proofs.Tryz.prog 58 "loop.example/g01230/impl.relations" 24 := ⟨by kernel_rfl, _, Go.Proofs.Tryz.underlying58⟩
theorem meth_6 : MethOK Go.Proofs.Tryz.prog 58 "loop.example/g01230/impl.rows" 42 := ⟨by kernel_rfl, _, Go.Proofs.Tryz.underlying58⟩
theorem methAll : ∀ p ∈ methList, MethOK Go.Proofs.Tryz.prog p.1 p.2.1 p.2.2 := by
  intro p hp
  simp only [methList, List.mem_cons, List.not_mem_nil, or_false] at hp
  rcases hp with rfl | rfl | rfl | rfl | rfl | rfl | rfl
  · exact meth_0
  · exact meth_1
  · exact meth_2
  · exact meth_3
  · exact meth_4
  · exact meth_5
  · exact meth_6

def eqList : List Nat := [4, 22, 23, 24, 29, 32, 33, 34, 35, 36, 56, 75, 79, 127]
def tab : Tab where
  ti := tiOf tiList
  zero := zOf zList
  eqs := memN eqList
  elem0 := zOf e0List
  flds := flOf flList
  app := nOf appList
  meth := methGo methList
theorem tabOK : TabOK Go.Proofs.Tryz.prog tab where
  mixed := by kernel_rfl
  ok := tiOf_ok tiList tiAll
  zero := fun t z h => zOf_ok (R := fun t z => (Go.Proofs.Tryz.prog.info? t).map (·.zero) = some (some (toVal (fun _ => 0) z)) ∧ z.ids = []) zList zAll t z h
  elem0 := fun t z h => zOf_ok (R := fun t z => ∃ e, Go.Proofs.Tryz.prog.underlying t = some (.slice e) ∧ (Go.Proofs.Tryz.prog.info? e).map (·.zero) = some (some (toVal (fun _ => 0) z))) e0List eAll t z h
  flds := fun t ks h => flOf_ok (R := fun t ks => ∃ fs : Array Field, Go.Proofs.Tryz.prog.underlying t = some (.struct fs) ∧ FldsT Go.Proofs.Tryz.prog 0 fs.toList ks) flList fltAll t ks h
  meth := fun t n f h => methGo_ok (R := fun t n f => MethOK Go.Proofs.Tryz.prog t n f) methList methAll t n f h
  app := fun t b h => nOf_ok (R := fun t b => ∃ e z, Go.Proofs.Tryz.prog.underlying t = some (.slice e) ∧ (Go.Proofs.Tryz.prog.info? e).map (·.bytes) = some b ∧ (Go.Proofs.Tryz.prog.info? e).map (·.zero) = some (some (toVal (fun _ => 0) z)) ∧ (Go.Proofs.Tryz.prog.info? e).map (·.size) = some (toVal (fun _ => 0) z).cells.size) appList aAll t b h
theorem eq_4 : EqOK Go.Proofs.Tryz.prog tab 4 := .bool Go.Proofs.Tryz.underlying4 rfl
theorem eq_22 : EqOK Go.Proofs.Tryz.prog tab 22 := .row row_22 (by omega) (by kernel_rfl) rfl
theorem eq_23 : EqOK Go.Proofs.Tryz.prog tab 23 := .row row_23 (by omega) (by kernel_rfl) rfl
theorem eq_24 : EqOK Go.Proofs.Tryz.prog tab 24 := .row row_24 (by omega) (by kernel_rfl) rfl
theorem eq_29 : EqOK Go.Proofs.Tryz.prog tab 29 := .slice Go.Proofs.Tryz.underlying29 rfl
theorem eq_32 : EqOK Go.Proofs.Tryz.prog tab 32 := .row row_32 (by omega) (by kernel_rfl) rfl
theorem eq_33 : EqOK Go.Proofs.Tryz.prog tab 33 := .row row_33 (by omega) (by kernel_rfl) rfl
theorem eq_34 : EqOK Go.Proofs.Tryz.prog tab 34 := .row row_34 (by omega) (by kernel_rfl) rfl
theorem eq_35 : EqOK Go.Proofs.Tryz.prog tab 35 := .row row_35 (by omega) (by kernel_rfl) rfl
theorem eq_36 : EqOK Go.Proofs.Tryz.prog tab 36 := .row row_36 (by omega) (by kernel_rfl) rfl
theorem eq_56 : EqOK Go.Proofs.Tryz.prog tab 56 := .slice Go.Proofs.Tryz.underlying56 rfl
theorem eq_75 : EqOK Go.Proofs.Tryz.prog tab 75 := .slice Go.Proofs.Tryz.underlying75 rfl
theorem eq_79 : EqOK Go.Proofs.Tryz.prog tab 79 := .slice Go.Proofs.Tryz.underlying79 rfl
theorem eq_127 : EqOK Go.Proofs.Tryz.prog tab 127 := .slice Go.Proofs.Tryz.underlying127 rfl
theorem tabEq : TabEq Go.Proofs.Tryz.prog tab where
  eqs := fun t h => by
    have h := (memN_iff eqList t).1 h
    simp only [eqList, List.mem_cons, List.not_mem_nil, or_false] at h
    rcases h with rfl | rfl | rfl | rfl | rfl | rfl | rfl | rfl | rfl | rfl | rfl | rfl | rfl | rfl
    · exact eq_4
    · exact eq_22
    · exact eq_23
    · exact eq_24
    · exact eq_29
    · exact eq_32
    · exact eq_33
    · exact eq_34
    · exact eq_35
    · exact eq_36
    · exact eq_56
    · exact eq_75
    · exact eq_79
    · exact eq_127
  flds := fun t fs h => flOf_ok flList flAll t fs h
end Go.Proofs.YtjanlnngeklhoabGreat
