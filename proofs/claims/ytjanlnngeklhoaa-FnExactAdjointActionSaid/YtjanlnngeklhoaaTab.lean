/- The table of this translation's types, and that it is right: closed facts alone. -/
import Derived.Test.YtjanlnngeklhoaaIfc
import Derived.Test.YtjanlnngeklhoaaProg
import Derived.KernelRfl
set_option linter.unusedVariables false
set_option maxRecDepth 100000
namespace Go.Proofs.Ytjanlnngeklhoaa

def tiOf : List (Nat × TI) → Nat → TI
  | [], _ => .other
  | (k, x) :: r, t => match Nat.beq k t with | true => x | false => tiOf r t
def zOf : List (Nat × SV) → Nat → Option SV
  | [], _ => none
  | (k, x) :: r, t => match Nat.beq k t with | true => some x | false => zOf r t
theorem tiOf_ok {P : Program} : ∀ (l : List (Nat × TI)), (∀ p ∈ l, TIok P p.1 p.2) → ∀ t, TIok P t (tiOf l t)
  | [], _, t => trivial
  | (k, x) :: r, h, t => by
    unfold tiOf
    cases hb : Nat.beq k t with
    | true => have := Nat.eq_of_beq_eq_true hb; subst this; exact h (k, x) (by simp)
    | false => exact tiOf_ok r (fun p hp => h p (by simp [hp])) t
theorem zOf_ok {R : Nat → SV → Prop} : ∀ (l : List (Nat × SV)), (∀ p ∈ l, R p.1 p.2) → ∀ t z, zOf l t = some z → R t z
  | [], _, t, z, h => by cases h
  | (k, x) :: r, h, t, z, hz => by
    unfold zOf at hz
    cases hb : Nat.beq k t with
    | true =>
      have := Nat.eq_of_beq_eq_true hb
      subst this
      simp only [hb] at hz
      cases hz
      exact h (k, x) (by simp)
    | false => simp only [hb] at hz; exact zOf_ok r (fun p hp => h p (by simp [hp])) t z hz

def tiList : List (Nat × TI) := [(1, .scalar), (2, .int .i64), (3, .int .i64), (4, .scalar), (5, .int .u8), (6, .int .u8), (7, .struct [0, 1, 2, 3] 4), (8, .struct [0, 1, 2, 3] 4), (9, .scalar), (10, .scalar), (11, .scalar), (12, .int .u64), (13, .struct [0, 1] 2), (14, .struct [0, 1] 2), (21, .int .i32), (22, .arr 8 1 false), (23, .arr 8 8 true), (24, .arr 8 64 true), (25, .struct [0, 1, 2, 10, 522, 530, 1042] 1106), (26, .struct [0, 1, 2, 10, 522, 530, 1042] 1106), (27, .arr 8 1 false), (29, .scalar), (30, .arr 8 8 true), (31, .arr 8 8 true), (32, .arr 8 64 true), (33, .arr 8 64 true), (34, .struct [0, 1, 2, 10, 522, 530, 1042] 1106), (35, .struct [0, 1, 2, 10, 522, 530, 1042] 1106), (36, .scalar), (37, .scalar), (38, .scalar), (39, .scalar), (40, .slice 8), (42, .scalar), (43, .scalar), (44, .scalar), (45, .scalar), (46, .scalar), (47, .scalar), (48, .scalar), (49, .scalar), (50, .scalar), (51, .scalar), (52, .scalar), (53, .scalar), (54, .scalar), (55, .scalar), (56, .scalar), (57, .scalar), (58, .scalar), (59, .scalar), (60, .scalar), (61, .scalar), (62, .struct [0, 1, 2, 10] 522), (63, .struct [0, 1, 2, 10] 522), (64, .scalar), (65, .scalar), (66, .scalar), (67, .scalar), (68, .scalar), (69, .scalar), (70, .struct [0, 1, 2, 10] 522), (71, .struct [0, 1, 2, 10] 522), (72, .scalar), (73, .scalar), (74, .scalar), (75, .scalar), (76, .slice 1), (77, .slice 1), (78, .scalar), (79, .scalar), (80, .scalar), (81, .scalar), (82, .scalar), (83, .scalar), (84, .scalar), (85, .scalar), (86, .scalar), (87, .scalar), (88, .scalar), (89, .scalar), (90, .scalar), (91, .scalar), (92, .scalar), (93, .scalar), (94, .scalar), (95, .scalar), (96, .scalar), (97, .scalar), (98, .scalar), (100, .scalar), (101, .scalar), (102, .scalar), (103, .scalar), (104, .struct [0, 1] 2), (105, .struct [0, 1] 2), (106, .scalar), (107, .arr 7 2 true), (108, .scalar), (109, .scalar), (110, .scalar), (111, .scalar), (112, .scalar), (113, .scalar), (114, .scalar), (115, .scalar), (116, .slice 1), (117, .scalar), (118, .scalar), (119, .scalar), (120, .scalar), (121, .scalar), (122, .scalar), (124, .scalar), (125, .scalar), (126, .scalar), (128, .scalar), (129, .scalar), (135, .scalar), (136, .int .u32), (137, .int .u8), (138, .int .u8), (139, .scalar), (141, .int .i32), (142, .int .i32)]
def zList : List (Nat × SV) := [(1, .nilf), (2, (.int .i64 0)), (3, (.int .i64 0)), (4, (.bool false)), (5, (.int .u8 0)), (6, (.int .u8 0)), (7, (.pair (.int .i64 0) (.pair (.int .i64 0) (.pair (.bool false) (.pair (.int .u8 0) .unit))))), (8, (.pair (.int .i64 0) (.pair (.int .i64 0) (.pair (.bool false) (.pair (.int .u8 0) .unit))))), (12, (.int .u64 0)), (13, (.pair (.str ByteArray.empty) (.pair (.int .u64 0) .unit))), (14, (.pair (.str ByteArray.empty) (.pair (.int .u64 0) .unit))), (21, (.int .i32 0)), (22, (.ints .u8 8 fun _ => 0)), (23, (.ints .u8 64 fun _ => 0)), (24, (.ints .u8 512 fun _ => 0)), (25, (.pair (.int .i64 0) (.pair (.int .i64 0) (.pair (.ints .u8 8 fun _ => 0) (.pair (.ints .u8 512 fun _ => 0) (.pair (.ints .u8 8 fun _ => 0) (.pair (.ints .u8 512 fun _ => 0) (.pair (.ints .u8 64 fun _ => 0) .unit)))))))), (26, (.pair (.int .i64 0) (.pair (.int .i64 0) (.pair (.ints .u8 8 fun _ => 0) (.pair (.ints .u8 512 fun _ => 0) (.pair (.ints .u8 8 fun _ => 0) (.pair (.ints .u8 512 fun _ => 0) (.pair (.ints .u8 64 fun _ => 0) .unit)))))))), (27, (.ints .u8 8 fun _ => 0)), (29, .nilf), (30, (.ints .u8 64 fun _ => 0)), (31, (.ints .u8 64 fun _ => 0)), (32, (.ints .u8 512 fun _ => 0)), (33, (.ints .u8 512 fun _ => 0)), (34, (.pair (.int .i64 0) (.pair (.int .i64 0) (.pair (.ints .u8 8 fun _ => 0) (.pair (.ints .u8 512 fun _ => 0) (.pair (.ints .u8 8 fun _ => 0) (.pair (.ints .u8 512 fun _ => 0) (.pair (.ints .u8 64 fun _ => 0) .unit)))))))), (35, (.pair (.int .i64 0) (.pair (.int .i64 0) (.pair (.ints .u8 8 fun _ => 0) (.pair (.ints .u8 512 fun _ => 0) (.pair (.ints .u8 8 fun _ => 0) (.pair (.ints .u8 512 fun _ => 0) (.pair (.ints .u8 64 fun _ => 0) .unit)))))))), (36, .nilf), (37, .nilf), (38, .nilf), (39, .nilf), (40, .nilsl), (42, .nilf), (43, .nilf), (44, .nilf), (45, .nilf), (46, .nilf), (47, .nilf), (48, .nilf), (49, .nilf), (50, .nilf), (51, .nilf), (52, .nilf), (53, .nilf), (54, .nilf), (55, .nilf), (56, .nilf), (57, .nilf), (58, .nilf), (59, .nilf), (60, .nilf), (61, .nilf), (62, (.pair (.int .i64 0) (.pair (.int .i64 0) (.pair (.ints .u8 8 fun _ => 0) (.pair (.ints .u8 512 fun _ => 0) .unit))))), (63, (.pair (.int .i64 0) (.pair (.int .i64 0) (.pair (.ints .u8 8 fun _ => 0) (.pair (.ints .u8 512 fun _ => 0) .unit))))), (64, .nilf), (65, .nilf), (66, .nilf), (67, .nilf), (68, .nilf), (69, .nilf), (70, (.pair (.int .i64 0) (.pair (.int .i64 0) (.pair (.ints .u8 8 fun _ => 0) (.pair (.ints .u8 512 fun _ => 0) .unit))))), (71, (.pair (.int .i64 0) (.pair (.int .i64 0) (.pair (.ints .u8 8 fun _ => 0) (.pair (.ints .u8 512 fun _ => 0) .unit))))), (72, .nilf), (73, .nilf), (74, .nilf), (75, .nilf), (76, .nilsl), (77, .nilsl), (78, .nilf), (79, .nilf), (80, .nilf), (81, .nilf), (82, .nilf), (83, .nilf), (84, .nilf), (85, .nilf), (86, .nilf), (87, .nilf), (88, .nilf), (89, .nilf), (90, .nilf), (91, .nilf), (92, .nilf), (93, .nilf), (94, .nilf), (95, .nilf), (96, .nilf), (97, .nilf), (98, .nilf), (100, .nilf), (101, .nilf), (102, .nilf), (103, .nilf), (104, (.pair (.bool false) (.pair .nilf .unit))), (105, (.pair (.bool false) (.pair .nilf .unit))), (106, .nilf), (107, (.pair (.pair (.bool false) (.pair .nilf .unit)) (.pair (.pair (.bool false) (.pair .nilf .unit)) (.pair (.pair (.bool false) (.pair .nilf .unit)) (.pair (.pair (.bool false) (.pair .nilf .unit)) (.pair (.pair (.bool false) (.pair .nilf .unit)) (.pair (.pair (.bool false) (.pair .nilf .unit)) (.pair (.pair (.bool false) (.pair .nilf .unit)) .unit)))))))), (108, .nilf), (109, .nilf), (110, .nilf), (111, .nilf), (112, .nilf), (113, .nilf), (114, .nilf), (115, .nilf), (116, .nilsl), (117, .nilf), (118, .nilf), (119, .nilf), (120, .nilf), (121, .nilf), (122, .nilf), (124, .nilf), (125, .nilf), (126, .nilf), (128, .nilf), (129, .nilf), (135, .nilf), (136, (.int .u32 0)), (137, (.int .u8 0)), (138, (.int .u8 0)), (139, .nilf), (141, (.int .i32 0)), (142, (.int .i32 0))]
def e0List : List (Nat × SV) := [(40, .ints .u8 8 fun _ => 0), (76, .nilsl), (77, .int .u8 0), (116, .int .i64 0)]
def appList : List (Nat × Nat) := [(40, 8), (76, 24), (77, 1), (116, 8)]
theorem ti_1 : TIok Go.Proofs.Try.prog 1 (.scalar) := ⟨⟨_, Go.Proofs.Try.underlying1, rfl⟩, by kernel_rfl⟩
theorem ti_2 : TIok Go.Proofs.Try.prog 2 (.int .i64) := ⟨Go.Proofs.Try.underlying2, by kernel_rfl⟩
theorem ti_3 : TIok Go.Proofs.Try.prog 3 (.int .i64) := ⟨Go.Proofs.Try.underlying3, by kernel_rfl⟩
theorem ti_4 : TIok Go.Proofs.Try.prog 4 (.scalar) := ⟨⟨_, Go.Proofs.Try.underlying4, rfl⟩, by kernel_rfl⟩
theorem ti_5 : TIok Go.Proofs.Try.prog 5 (.int .u8) := ⟨Go.Proofs.Try.underlying5, by kernel_rfl⟩
theorem ti_6 : TIok Go.Proofs.Try.prog 6 (.int .u8) := ⟨Go.Proofs.Try.underlying6, by kernel_rfl⟩
theorem ti_7 : TIok Go.Proofs.Try.prog 7 (.struct [0, 1, 2, 3] 4) := by
  refine ⟨_, Go.Proofs.Try.underlying7, by kernel_rfl, by rfl, ?_⟩
  intro f hf
  simp only [List.mem_cons, List.not_mem_nil, or_false] at hf
  rcases hf with rfl | hf
  · exact ⟨0, by kernel_rfl⟩
  rcases hf with rfl | hf
  · exact ⟨0, by kernel_rfl⟩
  rcases hf with rfl | hf
  · exact ⟨0, by kernel_rfl⟩
  subst hf
  exact ⟨0, by kernel_rfl⟩
theorem ti_8 : TIok Go.Proofs.Try.prog 8 (.struct [0, 1, 2, 3] 4) := by
  refine ⟨_, Go.Proofs.Try.underlying8, by kernel_rfl, by rfl, ?_⟩
  intro f hf
  simp only [List.mem_cons, List.not_mem_nil, or_false] at hf
  rcases hf with rfl | hf
  · exact ⟨0, by kernel_rfl⟩
  rcases hf with rfl | hf
  · exact ⟨0, by kernel_rfl⟩
  rcases hf with rfl | hf
  · exact ⟨0, by kernel_rfl⟩
  subst hf
  exact ⟨0, by kernel_rfl⟩
theorem ti_9 : TIok Go.Proofs.Try.prog 9 (.scalar) := ⟨⟨_, Go.Proofs.Try.underlying9, rfl⟩, by kernel_rfl⟩
theorem ti_10 : TIok Go.Proofs.Try.prog 10 (.scalar) := ⟨⟨_, Go.Proofs.Try.underlying10, rfl⟩, by kernel_rfl⟩
theorem ti_11 : TIok Go.Proofs.Try.prog 11 (.scalar) := ⟨⟨_, Go.Proofs.Try.underlying11, rfl⟩, by kernel_rfl⟩
theorem ti_12 : TIok Go.Proofs.Try.prog 12 (.int .u64) := ⟨Go.Proofs.Try.underlying12, by kernel_rfl⟩
theorem ti_13 : TIok Go.Proofs.Try.prog 13 (.struct [0, 1] 2) := by
  refine ⟨_, Go.Proofs.Try.underlying13, by kernel_rfl, by rfl, ?_⟩
  intro f hf
  simp only [List.mem_cons, List.not_mem_nil, or_false] at hf
  rcases hf with rfl | hf
  · exact ⟨0, by kernel_rfl⟩
  subst hf
  exact ⟨0, by kernel_rfl⟩
theorem ti_14 : TIok Go.Proofs.Try.prog 14 (.struct [0, 1] 2) := by
  refine ⟨_, Go.Proofs.Try.underlying14, by kernel_rfl, by rfl, ?_⟩
  intro f hf
  simp only [List.mem_cons, List.not_mem_nil, or_false] at hf
  rcases hf with rfl | hf
  · exact ⟨0, by kernel_rfl⟩
  subst hf
  exact ⟨0, by kernel_rfl⟩
theorem ti_21 : TIok Go.Proofs.Try.prog 21 (.int .i32) := ⟨Go.Proofs.Try.underlying21, by kernel_rfl⟩
theorem ti_22 : TIok Go.Proofs.Try.prog 22 (.arr 8 1 false) := ⟨5, _, Go.Proofs.Try.underlying22, by kernel_rfl, by kernel_rfl, Go.Proofs.Try.underlying5, rfl, by omega⟩
theorem ti_23 : TIok Go.Proofs.Try.prog 23 (.arr 8 8 true) := ⟨22, _, Go.Proofs.Try.underlying23, by kernel_rfl, by kernel_rfl, Go.Proofs.Try.underlying22, rfl, by omega⟩
theorem ti_24 : TIok Go.Proofs.Try.prog 24 (.arr 8 64 true) := ⟨23, _, Go.Proofs.Try.underlying24, by kernel_rfl, by kernel_rfl, Go.Proofs.Try.underlying23, rfl, by omega⟩
theorem ti_25 : TIok Go.Proofs.Try.prog 25 (.struct [0, 1, 2, 10, 522, 530, 1042] 1106) := by
  refine ⟨_, Go.Proofs.Try.underlying25, by kernel_rfl, by rfl, ?_⟩
  intro f hf
  simp only [List.mem_cons, List.not_mem_nil, or_false] at hf
  rcases hf with rfl | hf
  · exact ⟨0, by kernel_rfl⟩
  rcases hf with rfl | hf
  · exact ⟨0, by kernel_rfl⟩
  rcases hf with rfl | hf
  · exact ⟨7, by kernel_rfl⟩
  rcases hf with rfl | hf
  · exact ⟨511, by kernel_rfl⟩
  rcases hf with rfl | hf
  · exact ⟨7, by kernel_rfl⟩
  rcases hf with rfl | hf
  · exact ⟨511, by kernel_rfl⟩
  subst hf
  exact ⟨63, by kernel_rfl⟩
theorem ti_26 : TIok Go.Proofs.Try.prog 26 (.struct [0, 1, 2, 10, 522, 530, 1042] 1106) := by
  refine ⟨_, Go.Proofs.Try.underlying26, by kernel_rfl, by rfl, ?_⟩
  intro f hf
  simp only [List.mem_cons, List.not_mem_nil, or_false] at hf
  rcases hf with rfl | hf
  · exact ⟨0, by kernel_rfl⟩
  rcases hf with rfl | hf
  · exact ⟨0, by kernel_rfl⟩
  rcases hf with rfl | hf
  · exact ⟨7, by kernel_rfl⟩
  rcases hf with rfl | hf
  · exact ⟨511, by kernel_rfl⟩
  rcases hf with rfl | hf
  · exact ⟨7, by kernel_rfl⟩
  rcases hf with rfl | hf
  · exact ⟨511, by kernel_rfl⟩
  subst hf
  exact ⟨63, by kernel_rfl⟩
theorem ti_27 : TIok Go.Proofs.Try.prog 27 (.arr 8 1 false) := ⟨5, _, Go.Proofs.Try.underlying27, by kernel_rfl, by kernel_rfl, Go.Proofs.Try.underlying5, rfl, by omega⟩
theorem ti_29 : TIok Go.Proofs.Try.prog 29 (.scalar) := ⟨⟨_, Go.Proofs.Try.underlying29, rfl⟩, by kernel_rfl⟩
theorem ti_30 : TIok Go.Proofs.Try.prog 30 (.arr 8 8 true) := ⟨27, _, Go.Proofs.Try.underlying30, by kernel_rfl, by kernel_rfl, Go.Proofs.Try.underlying27, rfl, by omega⟩
theorem ti_31 : TIok Go.Proofs.Try.prog 31 (.arr 8 8 true) := ⟨27, _, Go.Proofs.Try.underlying31, by kernel_rfl, by kernel_rfl, Go.Proofs.Try.underlying27, rfl, by omega⟩
theorem ti_32 : TIok Go.Proofs.Try.prog 32 (.arr 8 64 true) := ⟨31, _, Go.Proofs.Try.underlying32, by kernel_rfl, by kernel_rfl, Go.Proofs.Try.underlying31, rfl, by omega⟩
theorem ti_33 : TIok Go.Proofs.Try.prog 33 (.arr 8 64 true) := ⟨31, _, Go.Proofs.Try.underlying33, by kernel_rfl, by kernel_rfl, Go.Proofs.Try.underlying31, rfl, by omega⟩
theorem ti_34 : TIok Go.Proofs.Try.prog 34 (.struct [0, 1, 2, 10, 522, 530, 1042] 1106) := by
  refine ⟨_, Go.Proofs.Try.underlying34, by kernel_rfl, by rfl, ?_⟩
  intro f hf
  simp only [List.mem_cons, List.not_mem_nil, or_false] at hf
  rcases hf with rfl | hf
  · exact ⟨0, by kernel_rfl⟩
  rcases hf with rfl | hf
  · exact ⟨0, by kernel_rfl⟩
  rcases hf with rfl | hf
  · exact ⟨7, by kernel_rfl⟩
  rcases hf with rfl | hf
  · exact ⟨511, by kernel_rfl⟩
  rcases hf with rfl | hf
  · exact ⟨7, by kernel_rfl⟩
  rcases hf with rfl | hf
  · exact ⟨511, by kernel_rfl⟩
  subst hf
  exact ⟨63, by kernel_rfl⟩
theorem ti_35 : TIok Go.Proofs.Try.prog 35 (.struct [0, 1, 2, 10, 522, 530, 1042] 1106) := by
  refine ⟨_, Go.Proofs.Try.underlying35, by kernel_rfl, by rfl, ?_⟩
  intro f hf
  simp only [List.mem_cons, List.not_mem_nil, or_false] at hf
  rcases hf with rfl | hf
  · exact ⟨0, by kernel_rfl⟩
  rcases hf with rfl | hf
  · exact ⟨0, by kernel_rfl⟩
  rcases hf with rfl | hf
  · exact ⟨7, by kernel_rfl⟩
  rcases hf with rfl | hf
  · exact ⟨511, by kernel_rfl⟩
  rcases hf with rfl | hf
  · exact ⟨7, by kernel_rfl⟩
  rcases hf with rfl | hf
  · exact ⟨511, by kernel_rfl⟩
  subst hf
  exact ⟨63, by kernel_rfl⟩
theorem ti_36 : TIok Go.Proofs.Try.prog 36 (.scalar) := ⟨⟨_, Go.Proofs.Try.underlying36, rfl⟩, by kernel_rfl⟩
theorem ti_37 : TIok Go.Proofs.Try.prog 37 (.scalar) := ⟨⟨_, Go.Proofs.Try.underlying37, rfl⟩, by kernel_rfl⟩
theorem ti_38 : TIok Go.Proofs.Try.prog 38 (.scalar) := ⟨⟨_, Go.Proofs.Try.underlying38, rfl⟩, by kernel_rfl⟩
theorem ti_39 : TIok Go.Proofs.Try.prog 39 (.scalar) := ⟨⟨_, Go.Proofs.Try.underlying39, rfl⟩, by kernel_rfl⟩
theorem ti_40 : TIok Go.Proofs.Try.prog 40 (.slice 8) := ⟨27, Go.Proofs.Try.underlying40, by kernel_rfl, by kernel_rfl⟩
theorem ti_42 : TIok Go.Proofs.Try.prog 42 (.scalar) := ⟨⟨_, Go.Proofs.Try.underlying42, rfl⟩, by kernel_rfl⟩
theorem ti_43 : TIok Go.Proofs.Try.prog 43 (.scalar) := ⟨⟨_, Go.Proofs.Try.underlying43, rfl⟩, by kernel_rfl⟩
theorem ti_44 : TIok Go.Proofs.Try.prog 44 (.scalar) := ⟨⟨_, Go.Proofs.Try.underlying44, rfl⟩, by kernel_rfl⟩
theorem ti_45 : TIok Go.Proofs.Try.prog 45 (.scalar) := ⟨⟨_, Go.Proofs.Try.underlying45, rfl⟩, by kernel_rfl⟩
theorem ti_46 : TIok Go.Proofs.Try.prog 46 (.scalar) := ⟨⟨_, Go.Proofs.Try.underlying46, rfl⟩, by kernel_rfl⟩
theorem ti_47 : TIok Go.Proofs.Try.prog 47 (.scalar) := ⟨⟨_, Go.Proofs.Try.underlying47, rfl⟩, by kernel_rfl⟩
theorem ti_48 : TIok Go.Proofs.Try.prog 48 (.scalar) := ⟨⟨_, Go.Proofs.Try.underlying48, rfl⟩, by kernel_rfl⟩
theorem ti_49 : TIok Go.Proofs.Try.prog 49 (.scalar) := ⟨⟨_, Go.Proofs.Try.underlying49, rfl⟩, by kernel_rfl⟩
theorem ti_50 : TIok Go.Proofs.Try.prog 50 (.scalar) := ⟨⟨_, Go.Proofs.Try.underlying50, rfl⟩, by kernel_rfl⟩
theorem ti_51 : TIok Go.Proofs.Try.prog 51 (.scalar) := ⟨⟨_, Go.Proofs.Try.underlying51, rfl⟩, by kernel_rfl⟩
theorem ti_52 : TIok Go.Proofs.Try.prog 52 (.scalar) := ⟨⟨_, Go.Proofs.Try.underlying52, rfl⟩, by kernel_rfl⟩
theorem ti_53 : TIok Go.Proofs.Try.prog 53 (.scalar) := ⟨⟨_, Go.Proofs.Try.underlying53, rfl⟩, by kernel_rfl⟩
theorem ti_54 : TIok Go.Proofs.Try.prog 54 (.scalar) := ⟨⟨_, Go.Proofs.Try.underlying54, rfl⟩, by kernel_rfl⟩
theorem ti_55 : TIok Go.Proofs.Try.prog 55 (.scalar) := ⟨⟨_, Go.Proofs.Try.underlying55, rfl⟩, by kernel_rfl⟩
theorem ti_56 : TIok Go.Proofs.Try.prog 56 (.scalar) := ⟨⟨_, Go.Proofs.Try.underlying56, rfl⟩, by kernel_rfl⟩
theorem ti_57 : TIok Go.Proofs.Try.prog 57 (.scalar) := ⟨⟨_, Go.Proofs.Try.underlying57, rfl⟩, by kernel_rfl⟩
theorem ti_58 : TIok Go.Proofs.Try.prog 58 (.scalar) := ⟨⟨_, Go.Proofs.Try.underlying58, rfl⟩, by kernel_rfl⟩
theorem ti_59 : TIok Go.Proofs.Try.prog 59 (.scalar) := ⟨⟨_, Go.Proofs.Try.underlying59, rfl⟩, by kernel_rfl⟩
theorem ti_60 : TIok Go.Proofs.Try.prog 60 (.scalar) := ⟨⟨_, Go.Proofs.Try.underlying60, rfl⟩, by kernel_rfl⟩
theorem ti_61 : TIok Go.Proofs.Try.prog 61 (.scalar) := ⟨⟨_, Go.Proofs.Try.underlying61, rfl⟩, by kernel_rfl⟩
theorem ti_62 : TIok Go.Proofs.Try.prog 62 (.struct [0, 1, 2, 10] 522) := by
  refine ⟨_, Go.Proofs.Try.underlying62, by kernel_rfl, by rfl, ?_⟩
  intro f hf
  simp only [List.mem_cons, List.not_mem_nil, or_false] at hf
  rcases hf with rfl | hf
  · exact ⟨0, by kernel_rfl⟩
  rcases hf with rfl | hf
  · exact ⟨0, by kernel_rfl⟩
  rcases hf with rfl | hf
  · exact ⟨7, by kernel_rfl⟩
  subst hf
  exact ⟨511, by kernel_rfl⟩
theorem ti_63 : TIok Go.Proofs.Try.prog 63 (.struct [0, 1, 2, 10] 522) := by
  refine ⟨_, Go.Proofs.Try.underlying63, by kernel_rfl, by rfl, ?_⟩
  intro f hf
  simp only [List.mem_cons, List.not_mem_nil, or_false] at hf
  rcases hf with rfl | hf
  · exact ⟨0, by kernel_rfl⟩
  rcases hf with rfl | hf
  · exact ⟨0, by kernel_rfl⟩
  rcases hf with rfl | hf
  · exact ⟨7, by kernel_rfl⟩
  subst hf
  exact ⟨511, by kernel_rfl⟩
theorem ti_64 : TIok Go.Proofs.Try.prog 64 (.scalar) := ⟨⟨_, Go.Proofs.Try.underlying64, rfl⟩, by kernel_rfl⟩
theorem ti_65 : TIok Go.Proofs.Try.prog 65 (.scalar) := ⟨⟨_, Go.Proofs.Try.underlying65, rfl⟩, by kernel_rfl⟩
theorem ti_66 : TIok Go.Proofs.Try.prog 66 (.scalar) := ⟨⟨_, Go.Proofs.Try.underlying66, rfl⟩, by kernel_rfl⟩
theorem ti_67 : TIok Go.Proofs.Try.prog 67 (.scalar) := ⟨⟨_, Go.Proofs.Try.underlying67, rfl⟩, by kernel_rfl⟩
theorem ti_68 : TIok Go.Proofs.Try.prog 68 (.scalar) := ⟨⟨_, Go.Proofs.Try.underlying68, rfl⟩, by kernel_rfl⟩
theorem ti_69 : TIok Go.Proofs.Try.prog 69 (.scalar) := ⟨⟨_, Go.Proofs.Try.underlying69, rfl⟩, by kernel_rfl⟩
theorem ti_70 : TIok Go.Proofs.Try.prog 70 (.struct [0, 1, 2, 10] 522) := by
  refine ⟨_, Go.Proofs.Try.underlying70, by kernel_rfl, by rfl, ?_⟩
  intro f hf
  simp only [List.mem_cons, List.not_mem_nil, or_false] at hf
  rcases hf with rfl | hf
  · exact ⟨0, by kernel_rfl⟩
  rcases hf with rfl | hf
  · exact ⟨0, by kernel_rfl⟩
  rcases hf with rfl | hf
  · exact ⟨7, by kernel_rfl⟩
  subst hf
  exact ⟨511, by kernel_rfl⟩
theorem ti_71 : TIok Go.Proofs.Try.prog 71 (.struct [0, 1, 2, 10] 522) := by
  refine ⟨_, Go.Proofs.Try.underlying71, by kernel_rfl, by rfl, ?_⟩
  intro f hf
  simp only [List.mem_cons, List.not_mem_nil, or_false] at hf
  rcases hf with rfl | hf
  · exact ⟨0, by kernel_rfl⟩
  rcases hf with rfl | hf
  · exact ⟨0, by kernel_rfl⟩
  rcases hf with rfl | hf
  · exact ⟨7, by kernel_rfl⟩
  subst hf
  exact ⟨511, by kernel_rfl⟩
theorem ti_72 : TIok Go.Proofs.Try.prog 72 (.scalar) := ⟨⟨_, Go.Proofs.Try.underlying72, rfl⟩, by kernel_rfl⟩
theorem ti_73 : TIok Go.Proofs.Try.prog 73 (.scalar) := ⟨⟨_, Go.Proofs.Try.underlying73, rfl⟩, by kernel_rfl⟩
theorem ti_74 : TIok Go.Proofs.Try.prog 74 (.scalar) := ⟨⟨_, Go.Proofs.Try.underlying74, rfl⟩, by kernel_rfl⟩
theorem ti_75 : TIok Go.Proofs.Try.prog 75 (.scalar) := ⟨⟨_, Go.Proofs.Try.underlying75, rfl⟩, by kernel_rfl⟩
theorem ti_76 : TIok Go.Proofs.Try.prog 76 (.slice 1) := ⟨77, Go.Proofs.Try.underlying76, by kernel_rfl, by kernel_rfl⟩
theorem ti_77 : TIok Go.Proofs.Try.prog 77 (.slice 1) := ⟨5, Go.Proofs.Try.underlying77, by kernel_rfl, by kernel_rfl⟩
theorem ti_78 : TIok Go.Proofs.Try.prog 78 (.scalar) := ⟨⟨_, Go.Proofs.Try.underlying78, rfl⟩, by kernel_rfl⟩
theorem ti_79 : TIok Go.Proofs.Try.prog 79 (.scalar) := ⟨⟨_, Go.Proofs.Try.underlying79, rfl⟩, by kernel_rfl⟩
theorem ti_80 : TIok Go.Proofs.Try.prog 80 (.scalar) := ⟨⟨_, Go.Proofs.Try.underlying80, rfl⟩, by kernel_rfl⟩
theorem ti_81 : TIok Go.Proofs.Try.prog 81 (.scalar) := ⟨⟨_, Go.Proofs.Try.underlying81, rfl⟩, by kernel_rfl⟩
theorem ti_82 : TIok Go.Proofs.Try.prog 82 (.scalar) := ⟨⟨_, Go.Proofs.Try.underlying82, rfl⟩, by kernel_rfl⟩
theorem ti_83 : TIok Go.Proofs.Try.prog 83 (.scalar) := ⟨⟨_, Go.Proofs.Try.underlying83, rfl⟩, by kernel_rfl⟩
theorem ti_84 : TIok Go.Proofs.Try.prog 84 (.scalar) := ⟨⟨_, Go.Proofs.Try.underlying84, rfl⟩, by kernel_rfl⟩
theorem ti_85 : TIok Go.Proofs.Try.prog 85 (.scalar) := ⟨⟨_, Go.Proofs.Try.underlying85, rfl⟩, by kernel_rfl⟩
theorem ti_86 : TIok Go.Proofs.Try.prog 86 (.scalar) := ⟨⟨_, Go.Proofs.Try.underlying86, rfl⟩, by kernel_rfl⟩
theorem ti_87 : TIok Go.Proofs.Try.prog 87 (.scalar) := ⟨⟨_, Go.Proofs.Try.underlying87, rfl⟩, by kernel_rfl⟩
theorem ti_88 : TIok Go.Proofs.Try.prog 88 (.scalar) := ⟨⟨_, Go.Proofs.Try.underlying88, rfl⟩, by kernel_rfl⟩
theorem ti_89 : TIok Go.Proofs.Try.prog 89 (.scalar) := ⟨⟨_, Go.Proofs.Try.underlying89, rfl⟩, by kernel_rfl⟩
theorem ti_90 : TIok Go.Proofs.Try.prog 90 (.scalar) := ⟨⟨_, Go.Proofs.Try.underlying90, rfl⟩, by kernel_rfl⟩
theorem ti_91 : TIok Go.Proofs.Try.prog 91 (.scalar) := ⟨⟨_, Go.Proofs.Try.underlying91, rfl⟩, by kernel_rfl⟩
theorem ti_92 : TIok Go.Proofs.Try.prog 92 (.scalar) := ⟨⟨_, Go.Proofs.Try.underlying92, rfl⟩, by kernel_rfl⟩
theorem ti_93 : TIok Go.Proofs.Try.prog 93 (.scalar) := ⟨⟨_, Go.Proofs.Try.underlying93, rfl⟩, by kernel_rfl⟩
theorem ti_94 : TIok Go.Proofs.Try.prog 94 (.scalar) := ⟨⟨_, Go.Proofs.Try.underlying94, rfl⟩, by kernel_rfl⟩
theorem ti_95 : TIok Go.Proofs.Try.prog 95 (.scalar) := ⟨⟨_, Go.Proofs.Try.underlying95, rfl⟩, by kernel_rfl⟩
theorem ti_96 : TIok Go.Proofs.Try.prog 96 (.scalar) := ⟨⟨_, Go.Proofs.Try.underlying96, rfl⟩, by kernel_rfl⟩
theorem ti_97 : TIok Go.Proofs.Try.prog 97 (.scalar) := ⟨⟨_, Go.Proofs.Try.underlying97, rfl⟩, by kernel_rfl⟩
theorem ti_98 : TIok Go.Proofs.Try.prog 98 (.scalar) := ⟨⟨_, Go.Proofs.Try.underlying98, rfl⟩, by kernel_rfl⟩
theorem ti_100 : TIok Go.Proofs.Try.prog 100 (.scalar) := ⟨⟨_, Go.Proofs.Try.underlying100, rfl⟩, by kernel_rfl⟩
theorem ti_101 : TIok Go.Proofs.Try.prog 101 (.scalar) := ⟨⟨_, Go.Proofs.Try.underlying101, rfl⟩, by kernel_rfl⟩
theorem ti_102 : TIok Go.Proofs.Try.prog 102 (.scalar) := ⟨⟨_, Go.Proofs.Try.underlying102, rfl⟩, by kernel_rfl⟩
theorem ti_103 : TIok Go.Proofs.Try.prog 103 (.scalar) := ⟨⟨_, Go.Proofs.Try.underlying103, rfl⟩, by kernel_rfl⟩
theorem ti_104 : TIok Go.Proofs.Try.prog 104 (.struct [0, 1] 2) := by
  refine ⟨_, Go.Proofs.Try.underlying104, by kernel_rfl, by rfl, ?_⟩
  intro f hf
  simp only [List.mem_cons, List.not_mem_nil, or_false] at hf
  rcases hf with rfl | hf
  · exact ⟨0, by kernel_rfl⟩
  subst hf
  exact ⟨0, by kernel_rfl⟩
theorem ti_105 : TIok Go.Proofs.Try.prog 105 (.struct [0, 1] 2) := by
  refine ⟨_, Go.Proofs.Try.underlying105, by kernel_rfl, by rfl, ?_⟩
  intro f hf
  simp only [List.mem_cons, List.not_mem_nil, or_false] at hf
  rcases hf with rfl | hf
  · exact ⟨0, by kernel_rfl⟩
  subst hf
  exact ⟨0, by kernel_rfl⟩
theorem ti_106 : TIok Go.Proofs.Try.prog 106 (.scalar) := ⟨⟨_, Go.Proofs.Try.underlying106, rfl⟩, by kernel_rfl⟩
theorem ti_107 : TIok Go.Proofs.Try.prog 107 (.arr 7 2 true) := ⟨105, _, Go.Proofs.Try.underlying107, by kernel_rfl, by kernel_rfl, Go.Proofs.Try.underlying105, rfl, by omega⟩
theorem ti_108 : TIok Go.Proofs.Try.prog 108 (.scalar) := ⟨⟨_, Go.Proofs.Try.underlying108, rfl⟩, by kernel_rfl⟩
theorem ti_109 : TIok Go.Proofs.Try.prog 109 (.scalar) := ⟨⟨_, Go.Proofs.Try.underlying109, rfl⟩, by kernel_rfl⟩
theorem ti_110 : TIok Go.Proofs.Try.prog 110 (.scalar) := ⟨⟨_, Go.Proofs.Try.underlying110, rfl⟩, by kernel_rfl⟩
theorem ti_111 : TIok Go.Proofs.Try.prog 111 (.scalar) := ⟨⟨_, Go.Proofs.Try.underlying111, rfl⟩, by kernel_rfl⟩
theorem ti_112 : TIok Go.Proofs.Try.prog 112 (.scalar) := ⟨⟨_, Go.Proofs.Try.underlying112, rfl⟩, by kernel_rfl⟩
theorem ti_113 : TIok Go.Proofs.Try.prog 113 (.scalar) := ⟨⟨_, Go.Proofs.Try.underlying113, rfl⟩, by kernel_rfl⟩
theorem ti_114 : TIok Go.Proofs.Try.prog 114 (.scalar) := ⟨⟨_, Go.Proofs.Try.underlying114, rfl⟩, by kernel_rfl⟩
theorem ti_115 : TIok Go.Proofs.Try.prog 115 (.scalar) := ⟨⟨_, Go.Proofs.Try.underlying115, rfl⟩, by kernel_rfl⟩
theorem ti_116 : TIok Go.Proofs.Try.prog 116 (.slice 1) := ⟨2, Go.Proofs.Try.underlying116, by kernel_rfl, by kernel_rfl⟩
theorem ti_117 : TIok Go.Proofs.Try.prog 117 (.scalar) := ⟨⟨_, Go.Proofs.Try.underlying117, rfl⟩, by kernel_rfl⟩
theorem ti_118 : TIok Go.Proofs.Try.prog 118 (.scalar) := ⟨⟨_, Go.Proofs.Try.underlying118, rfl⟩, by kernel_rfl⟩
theorem ti_119 : TIok Go.Proofs.Try.prog 119 (.scalar) := ⟨⟨_, Go.Proofs.Try.underlying119, rfl⟩, by kernel_rfl⟩
theorem ti_120 : TIok Go.Proofs.Try.prog 120 (.scalar) := ⟨⟨_, Go.Proofs.Try.underlying120, rfl⟩, by kernel_rfl⟩
theorem ti_121 : TIok Go.Proofs.Try.prog 121 (.scalar) := ⟨⟨_, Go.Proofs.Try.underlying121, rfl⟩, by kernel_rfl⟩
theorem ti_122 : TIok Go.Proofs.Try.prog 122 (.scalar) := ⟨⟨_, Go.Proofs.Try.underlying122, rfl⟩, by kernel_rfl⟩
theorem ti_124 : TIok Go.Proofs.Try.prog 124 (.scalar) := ⟨⟨_, Go.Proofs.Try.underlying124, rfl⟩, by kernel_rfl⟩
theorem ti_125 : TIok Go.Proofs.Try.prog 125 (.scalar) := ⟨⟨_, Go.Proofs.Try.underlying125, rfl⟩, by kernel_rfl⟩
theorem ti_126 : TIok Go.Proofs.Try.prog 126 (.scalar) := ⟨⟨_, Go.Proofs.Try.underlying126, rfl⟩, by kernel_rfl⟩
theorem ti_128 : TIok Go.Proofs.Try.prog 128 (.scalar) := ⟨⟨_, Go.Proofs.Try.underlying128, rfl⟩, by kernel_rfl⟩
theorem ti_129 : TIok Go.Proofs.Try.prog 129 (.scalar) := ⟨⟨_, Go.Proofs.Try.underlying129, rfl⟩, by kernel_rfl⟩
theorem ti_135 : TIok Go.Proofs.Try.prog 135 (.scalar) := ⟨⟨_, Go.Proofs.Try.underlying135, rfl⟩, by kernel_rfl⟩
theorem ti_136 : TIok Go.Proofs.Try.prog 136 (.int .u32) := ⟨Go.Proofs.Try.underlying136, by kernel_rfl⟩
theorem ti_137 : TIok Go.Proofs.Try.prog 137 (.int .u8) := ⟨Go.Proofs.Try.underlying137, by kernel_rfl⟩
theorem ti_138 : TIok Go.Proofs.Try.prog 138 (.int .u8) := ⟨Go.Proofs.Try.underlying138, by kernel_rfl⟩
theorem ti_139 : TIok Go.Proofs.Try.prog 139 (.scalar) := ⟨⟨_, Go.Proofs.Try.underlying139, rfl⟩, by kernel_rfl⟩
theorem ti_141 : TIok Go.Proofs.Try.prog 141 (.int .i32) := ⟨Go.Proofs.Try.underlying141, by kernel_rfl⟩
theorem ti_142 : TIok Go.Proofs.Try.prog 142 (.int .i32) := ⟨Go.Proofs.Try.underlying142, by kernel_rfl⟩
theorem z_1 : (Go.Proofs.Try.prog.info? 1).map (·.zero) = some (some (toVal (fun _ => 0) .nilf)) := by kernel_rfl
theorem z_2 : (Go.Proofs.Try.prog.info? 2).map (·.zero) = some (some (toVal (fun _ => 0) (.int .i64 0))) := by kernel_rfl
theorem z_3 : (Go.Proofs.Try.prog.info? 3).map (·.zero) = some (some (toVal (fun _ => 0) (.int .i64 0))) := by kernel_rfl
theorem z_4 : (Go.Proofs.Try.prog.info? 4).map (·.zero) = some (some (toVal (fun _ => 0) (.bool false))) := by kernel_rfl
theorem z_5 : (Go.Proofs.Try.prog.info? 5).map (·.zero) = some (some (toVal (fun _ => 0) (.int .u8 0))) := by kernel_rfl
theorem z_6 : (Go.Proofs.Try.prog.info? 6).map (·.zero) = some (some (toVal (fun _ => 0) (.int .u8 0))) := by kernel_rfl
theorem z_7 : (Go.Proofs.Try.prog.info? 7).map (·.zero) = some (some (toVal (fun _ => 0) (.pair (.int .i64 0) (.pair (.int .i64 0) (.pair (.bool false) (.pair (.int .u8 0) .unit)))))) := by kernel_rfl
theorem z_8 : (Go.Proofs.Try.prog.info? 8).map (·.zero) = some (some (toVal (fun _ => 0) (.pair (.int .i64 0) (.pair (.int .i64 0) (.pair (.bool false) (.pair (.int .u8 0) .unit)))))) := by kernel_rfl
theorem z_12 : (Go.Proofs.Try.prog.info? 12).map (·.zero) = some (some (toVal (fun _ => 0) (.int .u64 0))) := by kernel_rfl
theorem z_13 : (Go.Proofs.Try.prog.info? 13).map (·.zero) = some (some (toVal (fun _ => 0) (.pair (.str ByteArray.empty) (.pair (.int .u64 0) .unit)))) := by kernel_rfl
theorem z_14 : (Go.Proofs.Try.prog.info? 14).map (·.zero) = some (some (toVal (fun _ => 0) (.pair (.str ByteArray.empty) (.pair (.int .u64 0) .unit)))) := by kernel_rfl
theorem z_21 : (Go.Proofs.Try.prog.info? 21).map (·.zero) = some (some (toVal (fun _ => 0) (.int .i32 0))) := by kernel_rfl
theorem z_22 : (Go.Proofs.Try.prog.info? 22).map (·.zero) = some (some (toVal (fun _ => 0) (.ints .u8 8 fun _ => 0))) := by kernel_rfl
theorem z_23 : (Go.Proofs.Try.prog.info? 23).map (·.zero) = some (some (toVal (fun _ => 0) (.ints .u8 64 fun _ => 0))) := by kernel_rfl
theorem z_24 : (Go.Proofs.Try.prog.info? 24).map (·.zero) = some (some (toVal (fun _ => 0) (.ints .u8 512 fun _ => 0))) := by kernel_rfl
theorem z_25 : (Go.Proofs.Try.prog.info? 25).map (·.zero) = some (some (toVal (fun _ => 0) (.pair (.int .i64 0) (.pair (.int .i64 0) (.pair (.ints .u8 8 fun _ => 0) (.pair (.ints .u8 512 fun _ => 0) (.pair (.ints .u8 8 fun _ => 0) (.pair (.ints .u8 512 fun _ => 0) (.pair (.ints .u8 64 fun _ => 0) .unit))))))))) := by kernel_rfl
theorem z_26 : (Go.Proofs.Try.prog.info? 26).map (·.zero) = some (some (toVal (fun _ => 0) (.pair (.int .i64 0) (.pair (.int .i64 0) (.pair (.ints .u8 8 fun _ => 0) (.pair (.ints .u8 512 fun _ => 0) (.pair (.ints .u8 8 fun _ => 0) (.pair (.ints .u8 512 fun _ => 0) (.pair (.ints .u8 64 fun _ => 0) .unit))))))))) := by kernel_rfl
theorem z_27 : (Go.Proofs.Try.prog.info? 27).map (·.zero) = some (some (toVal (fun _ => 0) (.ints .u8 8 fun _ => 0))) := by kernel_rfl
theorem z_29 : (Go.Proofs.Try.prog.info? 29).map (·.zero) = some (some (toVal (fun _ => 0) .nilf)) := by kernel_rfl
theorem z_30 : (Go.Proofs.Try.prog.info? 30).map (·.zero) = some (some (toVal (fun _ => 0) (.ints .u8 64 fun _ => 0))) := by kernel_rfl
theorem z_31 : (Go.Proofs.Try.prog.info? 31).map (·.zero) = some (some (toVal (fun _ => 0) (.ints .u8 64 fun _ => 0))) := by kernel_rfl
theorem z_32 : (Go.Proofs.Try.prog.info? 32).map (·.zero) = some (some (toVal (fun _ => 0) (.ints .u8 512 fun _ => 0))) := by kernel_rfl
theorem z_33 : (Go.Proofs.Try.prog.info? 33).map (·.zero) = some (some (toVal (fun _ => 0) (.ints .u8 512 fun _ => 0))) := by kernel_rfl
theorem z_34 : (Go.Proofs.Try.prog.info? 34).map (·.zero) = some (some (toVal (fun _ => 0) (.pair (.int .i64 0) (.pair (.int .i64 0) (.pair (.ints .u8 8 fun _ => 0) (.pair (.ints .u8 512 fun _ => 0) (.pair (.ints .u8 8 fun _ => 0) (.pair (.ints .u8 512 fun _ => 0) (.pair (.ints .u8 64 fun _ => 0) .unit))))))))) := by kernel_rfl
theorem z_35 : (Go.Proofs.Try.prog.info? 35).map (·.zero) = some (some (toVal (fun _ => 0) (.pair (.int .i64 0) (.pair (.int .i64 0) (.pair (.ints .u8 8 fun _ => 0) (.pair (.ints .u8 512 fun _ => 0) (.pair (.ints .u8 8 fun _ => 0) (.pair (.ints .u8 512 fun _ => 0) (.pair (.ints .u8 64 fun _ => 0) .unit))))))))) := by kernel_rfl
theorem z_36 : (Go.Proofs.Try.prog.info? 36).map (·.zero) = some (some (toVal (fun _ => 0) .nilf)) := by kernel_rfl
theorem z_37 : (Go.Proofs.Try.prog.info? 37).map (·.zero) = some (some (toVal (fun _ => 0) .nilf)) := by kernel_rfl
theorem z_38 : (Go.Proofs.Try.prog.info? 38).map (·.zero) = some (some (toVal (fun _ => 0) .nilf)) := by kernel_rfl
theorem z_39 : (Go.Proofs.Try.prog.info? 39).map (·.zero) = some (some (toVal (fun _ => 0) .nilf)) := by kernel_rfl
theorem z_40 : (Go.Proofs.Try.prog.info? 40).map (·.zero) = some (some (toVal (fun _ => 0) .nilsl)) := by kernel_rfl
theorem z_42 : (Go.Proofs.Try.prog.info? 42).map (·.zero) = some (some (toVal (fun _ => 0) .nilf)) := by kernel_rfl
theorem z_43 : (Go.Proofs.Try.prog.info? 43).map (·.zero) = some (some (toVal (fun _ => 0) .nilf)) := by kernel_rfl
theorem z_44 : (Go.Proofs.Try.prog.info? 44).map (·.zero) = some (some (toVal (fun _ => 0) .nilf)) := by kernel_rfl
theorem z_45 : (Go.Proofs.Try.prog.info? 45).map (·.zero) = some (some (toVal (fun _ => 0) .nilf)) := by kernel_rfl
theorem z_46 : (Go.Proofs.Try.prog.info? 46).map (·.zero) = some (some (toVal (fun _ => 0) .nilf)) := by kernel_rfl
theorem z_47 : (Go.Proofs.Try.prog.info? 47).map (·.zero) = some (some (toVal (fun _ => 0) .nilf)) := by kernel_rfl
theorem z_48 : (Go.Proofs.Try.prog.info? 48).map (·.zero) = some (some (toVal (fun _ => 0) .nilf)) := by kernel_rfl
theorem z_49 : (Go.Proofs.Try.prog.info? 49).map (·.zero) = some (some (toVal (fun _ => 0) .nilf)) := by kernel_rfl
theorem z_50 : (Go.Proofs.Try.prog.info? 50).map (·.zero) = some (some (toVal (fun _ => 0) .nilf)) := by kernel_rfl
theorem z_51 : (Go.Proofs.Try.prog.info? 51).map (·.zero) = some (some (toVal (fun _ => 0) .nilf)) := by kernel_rfl
theorem z_52 : (Go.Proofs.Try.prog.info? 52).map (·.zero) = some (some (toVal (fun _ => 0) .nilf)) := by kernel_rfl
theorem z_53 : (Go.Proofs.Try.prog.info? 53).map (·.zero) = some (some (toVal (fun _ => 0) .nilf)) := by kernel_rfl
theorem z_54 : (Go.Proofs.Try.prog.info? 54).map (·.zero) = some (some (toVal (fun _ => 0) .nilf)) := by kernel_rfl
theorem z_55 : (Go.Proofs.Try.prog.info? 55).map (·.zero) = some (some (toVal (fun _ => 0) .nilf)) := by kernel_rfl
theorem z_56 : (Go.Proofs.Try.prog.info? 56).map (·.zero) = some (some (toVal (fun _ => 0) .nilf)) := by kernel_rfl
theorem z_57 : (Go.Proofs.Try.prog.info? 57).map (·.zero) = some (some (toVal (fun _ => 0) .nilf)) := by kernel_rfl
theorem z_58 : (Go.Proofs.Try.prog.info? 58).map (·.zero) = some (some (toVal (fun _ => 0) .nilf)) := by kernel_rfl
theorem z_59 : (Go.Proofs.Try.prog.info? 59).map (·.zero) = some (some (toVal (fun _ => 0) .nilf)) := by kernel_rfl
theorem z_60 : (Go.Proofs.Try.prog.info? 60).map (·.zero) = some (some (toVal (fun _ => 0) .nilf)) := by kernel_rfl
theorem z_61 : (Go.Proofs.Try.prog.info? 61).map (·.zero) = some (some (toVal (fun _ => 0) .nilf)) := by kernel_rfl
theorem z_62 : (Go.Proofs.Try.prog.info? 62).map (·.zero) = some (some (toVal (fun _ => 0) (.pair (.int .i64 0) (.pair (.int .i64 0) (.pair (.ints .u8 8 fun _ => 0) (.pair (.ints .u8 512 fun _ => 0) .unit)))))) := by kernel_rfl
theorem z_63 : (Go.Proofs.Try.prog.info? 63).map (·.zero) = some (some (toVal (fun _ => 0) (.pair (.int .i64 0) (.pair (.int .i64 0) (.pair (.ints .u8 8 fun _ => 0) (.pair (.ints .u8 512 fun _ => 0) .unit)))))) := by kernel_rfl
theorem z_64 : (Go.Proofs.Try.prog.info? 64).map (·.zero) = some (some (toVal (fun _ => 0) .nilf)) := by kernel_rfl
theorem z_65 : (Go.Proofs.Try.prog.info? 65).map (·.zero) = some (some (toVal (fun _ => 0) .nilf)) := by kernel_rfl
theorem z_66 : (Go.Proofs.Try.prog.info? 66).map (·.zero) = some (some (toVal (fun _ => 0) .nilf)) := by kernel_rfl
theorem z_67 : (Go.Proofs.Try.prog.info? 67).map (·.zero) = some (some (toVal (fun _ => 0) .nilf)) := by kernel_rfl
theorem z_68 : (Go.Proofs.Try.prog.info? 68).map (·.zero) = some (some (toVal (fun _ => 0) .nilf)) := by kernel_rfl
theorem z_69 : (Go.Proofs.Try.prog.info? 69).map (·.zero) = some (some (toVal (fun _ => 0) .nilf)) := by kernel_rfl
theorem z_70 : (Go.Proofs.Try.prog.info? 70).map (·.zero) = some (some (toVal (fun _ => 0) (.pair (.int .i64 0) (.pair (.int .i64 0) (.pair (.ints .u8 8 fun _ => 0) (.pair (.ints .u8 512 fun _ => 0) .unit)))))) := by kernel_rfl
theorem z_71 : (Go.Proofs.Try.prog.info? 71).map (·.zero) = some (some (toVal (fun _ => 0) (.pair (.int .i64 0) (.pair (.int .i64 0) (.pair (.ints .u8 8 fun _ => 0) (.pair (.ints .u8 512 fun _ => 0) .unit)))))) := by kernel_rfl
theorem z_72 : (Go.Proofs.Try.prog.info? 72).map (·.zero) = some (some (toVal (fun _ => 0) .nilf)) := by kernel_rfl
theorem z_73 : (Go.Proofs.Try.prog.info? 73).map (·.zero) = some (some (toVal (fun _ => 0) .nilf)) := by kernel_rfl
theorem z_74 : (Go.Proofs.Try.prog.info? 74).map (·.zero) = some (some (toVal (fun _ => 0) .nilf)) := by kernel_rfl
theorem z_75 : (Go.Proofs.Try.prog.info? 75).map (·.zero) = some (some (toVal (fun _ => 0) .nilf)) := by kernel_rfl
theorem z_76 : (Go.Proofs.Try.prog.info? 76).map (·.zero) = some (some (toVal (fun _ => 0) .nilsl)) := by kernel_rfl
theorem z_77 : (Go.Proofs.Try.prog.info? 77).map (·.zero) = some (some (toVal (fun _ => 0) .nilsl)) := by kernel_rfl
theorem z_78 : (Go.Proofs.Try.prog.info? 78).map (·.zero) = some (some (toVal (fun _ => 0) .nilf)) := by kernel_rfl
theorem z_79 : (Go.Proofs.Try.prog.info? 79).map (·.zero) = some (some (toVal (fun _ => 0) .nilf)) := by kernel_rfl
theorem z_80 : (Go.Proofs.Try.prog.info? 80).map (·.zero) = some (some (toVal (fun _ => 0) .nilf)) := by kernel_rfl
theorem z_81 : (Go.Proofs.Try.prog.info? 81).map (·.zero) = some (some (toVal (fun _ => 0) .nilf)) := by kernel_rfl
theorem z_82 : (Go.Proofs.Try.prog.info? 82).map (·.zero) = some (some (toVal (fun _ => 0) .nilf)) := by kernel_rfl
theorem z_83 : (Go.Proofs.Try.prog.info? 83).map (·.zero) = some (some (toVal (fun _ => 0) .nilf)) := by kernel_rfl
theorem z_84 : (Go.Proofs.Try.prog.info? 84).map (·.zero) = some (some (toVal (fun _ => 0) .nilf)) := by kernel_rfl
theorem z_85 : (Go.Proofs.Try.prog.info? 85).map (·.zero) = some (some (toVal (fun _ => 0) .nilf)) := by kernel_rfl
theorem z_86 : (Go.Proofs.Try.prog.info? 86).map (·.zero) = some (some (toVal (fun _ => 0) .nilf)) := by kernel_rfl
theorem z_87 : (Go.Proofs.Try.prog.info? 87).map (·.zero) = some (some (toVal (fun _ => 0) .nilf)) := by kernel_rfl
theorem z_88 : (Go.Proofs.Try.prog.info? 88).map (·.zero) = some (some (toVal (fun _ => 0) .nilf)) := by kernel_rfl
theorem z_89 : (Go.Proofs.Try.prog.info? 89).map (·.zero) = some (some (toVal (fun _ => 0) .nilf)) := by kernel_rfl
theorem z_90 : (Go.Proofs.Try.prog.info? 90).map (·.zero) = some (some (toVal (fun _ => 0) .nilf)) := by kernel_rfl
theorem z_91 : (Go.Proofs.Try.prog.info? 91).map (·.zero) = some (some (toVal (fun _ => 0) .nilf)) := by kernel_rfl
theorem z_92 : (Go.Proofs.Try.prog.info? 92).map (·.zero) = some (some (toVal (fun _ => 0) .nilf)) := by kernel_rfl
theorem z_93 : (Go.Proofs.Try.prog.info? 93).map (·.zero) = some (some (toVal (fun _ => 0) .nilf)) := by kernel_rfl
theorem z_94 : (Go.Proofs.Try.prog.info? 94).map (·.zero) = some (some (toVal (fun _ => 0) .nilf)) := by kernel_rfl
theorem z_95 : (Go.Proofs.Try.prog.info? 95).map (·.zero) = some (some (toVal (fun _ => 0) .nilf)) := by kernel_rfl
theorem z_96 : (Go.Proofs.Try.prog.info? 96).map (·.zero) = some (some (toVal (fun _ => 0) .nilf)) := by kernel_rfl
theorem z_97 : (Go.Proofs.Try.prog.info? 97).map (·.zero) = some (some (toVal (fun _ => 0) .nilf)) := by kernel_rfl
theorem z_98 : (Go.Proofs.Try.prog.info? 98).map (·.zero) = some (some (toVal (fun _ => 0) .nilf)) := by kernel_rfl
theorem z_100 : (Go.Proofs.Try.prog.info? 100).map (·.zero) = some (some (toVal (fun _ => 0) .nilf)) := by kernel_rfl
theorem z_101 : (Go.Proofs.Try.prog.info? 101).map (·.zero) = some (some (toVal (fun _ => 0) .nilf)) := by kernel_rfl
theorem z_102 : (Go.Proofs.Try.prog.info? 102).map (·.zero) = some (some (toVal (fun _ => 0) .nilf)) := by kernel_rfl
theorem z_103 : (Go.Proofs.Try.prog.info? 103).map (·.zero) = some (some (toVal (fun _ => 0) .nilf)) := by kernel_rfl
theorem z_104 : (Go.Proofs.Try.prog.info? 104).map (·.zero) = some (some (toVal (fun _ => 0) (.pair (.bool false) (.pair .nilf .unit)))) := by kernel_rfl
theorem z_105 : (Go.Proofs.Try.prog.info? 105).map (·.zero) = some (some (toVal (fun _ => 0) (.pair (.bool false) (.pair .nilf .unit)))) := by kernel_rfl
theorem z_106 : (Go.Proofs.Try.prog.info? 106).map (·.zero) = some (some (toVal (fun _ => 0) .nilf)) := by kernel_rfl
theorem z_107 : (Go.Proofs.Try.prog.info? 107).map (·.zero) = some (some (toVal (fun _ => 0) (.pair (.pair (.bool false) (.pair .nilf .unit)) (.pair (.pair (.bool false) (.pair .nilf .unit)) (.pair (.pair (.bool false) (.pair .nilf .unit)) (.pair (.pair (.bool false) (.pair .nilf .unit)) (.pair (.pair (.bool false) (.pair .nilf .unit)) (.pair (.pair (.bool false) (.pair .nilf .unit)) (.pair (.pair (.bool false) (.pair .nilf .unit)) .unit))))))))) := by kernel_rfl
theorem z_108 : (Go.Proofs.Try.prog.info? 108).map (·.zero) = some (some (toVal (fun _ => 0) .nilf)) := by kernel_rfl
theorem z_109 : (Go.Proofs.Try.prog.info? 109).map (·.zero) = some (some (toVal (fun _ => 0) .nilf)) := by kernel_rfl
theorem z_110 : (Go.Proofs.Try.prog.info? 110).map (·.zero) = some (some (toVal (fun _ => 0) .nilf)) := by kernel_rfl
theorem z_111 : (Go.Proofs.Try.prog.info? 111).map (·.zero) = some (some (toVal (fun _ => 0) .nilf)) := by kernel_rfl
theorem z_112 : (Go.Proofs.Try.prog.info? 112).map (·.zero) = some (some (toVal (fun _ => 0) .nilf)) := by kernel_rfl
theorem z_113 : (Go.Proofs.Try.prog.info? 113).map (·.zero) = some (some (toVal (fun _ => 0) .nilf)) := by kernel_rfl
theorem z_114 : (Go.Proofs.Try.prog.info? 114).map (·.zero) = some (some (toVal (fun _ => 0) .nilf)) := by kernel_rfl
theorem z_115 : (Go.Proofs.Try.prog.info? 115).map (·.zero) = some (some (toVal (fun _ => 0) .nilf)) := by kernel_rfl
theorem z_116 : (Go.Proofs.Try.prog.info? 116).map (·.zero) = some (some (toVal (fun _ => 0) .nilsl)) := by kernel_rfl
theorem z_117 : (Go.Proofs.Try.prog.info? 117).map (·.zero) = some (some (toVal (fun _ => 0) .nilf)) := by kernel_rfl
theorem z_118 : (Go.Proofs.Try.prog.info? 118).map (·.zero) = some (some (toVal (fun _ => 0) .nilf)) := by kernel_rfl
theorem z_119 : (Go.Proofs.Try.prog.info? 119).map (·.zero) = some (some (toVal (fun _ => 0) .nilf)) := by kernel_rfl
theorem z_120 : (Go.Proofs.Try.prog.info? 120).map (·.zero) = some (some (toVal (fun _ => 0) .nilf)) := by kernel_rfl
theorem z_121 : (Go.Proofs.Try.prog.info? 121).map (·.zero) = some (some (toVal (fun _ => 0) .nilf)) := by kernel_rfl
theorem z_122 : (Go.Proofs.Try.prog.info? 122).map (·.zero) = some (some (toVal (fun _ => 0) .nilf)) := by kernel_rfl
theorem z_124 : (Go.Proofs.Try.prog.info? 124).map (·.zero) = some (some (toVal (fun _ => 0) .nilf)) := by kernel_rfl
theorem z_125 : (Go.Proofs.Try.prog.info? 125).map (·.zero) = some (some (toVal (fun _ => 0) .nilf)) := by kernel_rfl
theorem z_126 : (Go.Proofs.Try.prog.info? 126).map (·.zero) = some (some (toVal (fun _ => 0) .nilf)) := by kernel_rfl
theorem z_128 : (Go.Proofs.Try.prog.info? 128).map (·.zero) = some (some (toVal (fun _ => 0) .nilf)) := by kernel_rfl
theorem z_129 : (Go.Proofs.Try.prog.info? 129).map (·.zero) = some (some (toVal (fun _ => 0) .nilf)) := by kernel_rfl
theorem z_135 : (Go.Proofs.Try.prog.info? 135).map (·.zero) = some (some (toVal (fun _ => 0) .nilf)) := by kernel_rfl
theorem z_136 : (Go.Proofs.Try.prog.info? 136).map (·.zero) = some (some (toVal (fun _ => 0) (.int .u32 0))) := by kernel_rfl
theorem z_137 : (Go.Proofs.Try.prog.info? 137).map (·.zero) = some (some (toVal (fun _ => 0) (.int .u8 0))) := by kernel_rfl
theorem z_138 : (Go.Proofs.Try.prog.info? 138).map (·.zero) = some (some (toVal (fun _ => 0) (.int .u8 0))) := by kernel_rfl
theorem z_139 : (Go.Proofs.Try.prog.info? 139).map (·.zero) = some (some (toVal (fun _ => 0) .nilf)) := by kernel_rfl
theorem z_141 : (Go.Proofs.Try.prog.info? 141).map (·.zero) = some (some (toVal (fun _ => 0) (.int .i32 0))) := by kernel_rfl
theorem z_142 : (Go.Proofs.Try.prog.info? 142).map (·.zero) = some (some (toVal (fun _ => 0) (.int .i32 0))) := by kernel_rfl

theorem tiAll : ∀ p ∈ tiList, TIok Go.Proofs.Try.prog p.1 p.2 := by
  intro p hp
  simp only [tiList, List.mem_cons, List.not_mem_nil, or_false] at hp
  rcases hp with rfl | rfl | rfl | rfl | rfl | rfl | rfl | rfl | rfl | rfl | rfl | rfl | rfl | rfl | rfl | rfl | rfl | rfl | rfl | rfl | rfl | rfl | rfl | rfl | rfl | rfl | rfl | rfl | rfl | rfl | rfl | rfl | rfl | rfl | rfl | rfl | rfl | rfl | rfl | rfl | rfl | rfl | rfl | rfl | rfl | rfl | rfl | rfl | rfl | rfl | rfl | rfl | rfl | rfl | rfl | rfl | rfl | rfl | rfl | rfl | rfl | rfl | rfl | rfl | rfl | rfl | rfl | rfl | rfl | rfl | rfl | rfl | rfl | rfl | rfl | rfl | rfl | rfl | rfl | rfl | rfl | rfl | rfl | rfl | rfl | rfl | rfl | rfl | rfl | rfl | rfl | rfl | rfl | rfl | rfl | rfl | rfl | rfl | rfl | rfl | rfl | rfl | rfl | rfl | rfl | rfl | rfl | rfl | rfl | rfl | rfl | rfl | rfl | rfl | rfl | rfl | rfl | rfl | rfl | rfl | rfl | rfl | rfl | rfl | rfl
  · exact ti_1
  · exact ti_2
  · exact ti_3
  · exact ti_4
  · exact ti_5
  · exact ti_6
  · exact ti_7
  · exact ti_8
  · exact ti_9
  · exact ti_10
  · exact ti_11
  · exact ti_12
  · exact ti_13
  · exact ti_14
  · exact ti_21
  · exact ti_22
  · exact ti_23
  · exact ti_24
  · exact ti_25
  · exact ti_26
  · exact ti_27
  · exact ti_29
  · exact ti_30
  · exact ti_31
  · exact ti_32
  · exact ti_33
  · exact ti_34
  · exact ti_35
  · exact ti_36
  · exact ti_37
  · exact ti_38
  · exact ti_39
  · exact ti_40
  · exact ti_42
  · exact ti_43
  · exact ti_44
  · exact ti_45
  · exact ti_46
  · exact ti_47
  · exact ti_48
  · exact ti_49
  · exact ti_50
  · exact ti_51
  · exact ti_52
  · exact ti_53
  · exact ti_54
  · exact ti_55
  · exact ti_56
  · exact ti_57
  · exact ti_58
  · exact ti_59
  · exact ti_60
  · exact ti_61
  · exact ti_62
  · exact ti_63
  · exact ti_64
  · exact ti_65
  · exact ti_66
  · exact ti_67
  · exact ti_68
  · exact ti_69
  · exact ti_70
  · exact ti_71
  · exact ti_72
  · exact ti_73
  · exact ti_74
  · exact ti_75
  · exact ti_76
  · exact ti_77
  · exact ti_78
  · exact ti_79
  · exact ti_80
  · exact ti_81
  · exact ti_82
  · exact ti_83
  · exact ti_84
  · exact ti_85
  · exact ti_86
  · exact ti_87
  · exact ti_88
  · exact ti_89
  · exact ti_90
  · exact ti_91
  · exact ti_92
  · exact ti_93
  · exact ti_94
  · exact ti_95
  · exact ti_96
  · exact ti_97
  · exact ti_98
  · exact ti_100
  · exact ti_101
  · exact ti_102
  · exact ti_103
  · exact ti_104
  · exact ti_105
  · exact ti_106
  · exact ti_107
  · exact ti_108
  · exact ti_109
  · exact ti_110
  · exact ti_111
  · exact ti_112
  · exact ti_113
  · exact ti_114
  · exact ti_115
  · exact ti_116
  · exact ti_117
  · exact ti_118
  · exact ti_119
  · exact ti_120
  · exact ti_121
  · exact ti_122
  · exact ti_124
  · exact ti_125
  · exact ti_126
  · exact ti_128
  · exact ti_129
  · exact ti_135
  · exact ti_136
  · exact ti_137
  · exact ti_138
  · exact ti_139
  · exact ti_141
  · exact ti_142
theorem zAll : ∀ p ∈ zList, (Go.Proofs.Try.prog.info? p.1).map (·.zero) = some (some (toVal (fun _ => 0) p.2)) ∧ p.2.ids = [] := by
  intro p hp
  simp only [zList, List.mem_cons, List.not_mem_nil, or_false] at hp
  rcases hp with rfl | rfl | rfl | rfl | rfl | rfl | rfl | rfl | rfl | rfl | rfl | rfl | rfl | rfl | rfl | rfl | rfl | rfl | rfl | rfl | rfl | rfl | rfl | rfl | rfl | rfl | rfl | rfl | rfl | rfl | rfl | rfl | rfl | rfl | rfl | rfl | rfl | rfl | rfl | rfl | rfl | rfl | rfl | rfl | rfl | rfl | rfl | rfl | rfl | rfl | rfl | rfl | rfl | rfl | rfl | rfl | rfl | rfl | rfl | rfl | rfl | rfl | rfl | rfl | rfl | rfl | rfl | rfl | rfl | rfl | rfl | rfl | rfl | rfl | rfl | rfl | rfl | rfl | rfl | rfl | rfl | rfl | rfl | rfl | rfl | rfl | rfl | rfl | rfl | rfl | rfl | rfl | rfl | rfl | rfl | rfl | rfl | rfl | rfl | rfl | rfl | rfl | rfl | rfl | rfl | rfl | rfl | rfl | rfl | rfl | rfl | rfl | rfl | rfl | rfl | rfl | rfl | rfl | rfl | rfl | rfl | rfl
  · exact ⟨z_1, rfl⟩
  · exact ⟨z_2, rfl⟩
  · exact ⟨z_3, rfl⟩
  · exact ⟨z_4, rfl⟩
  · exact ⟨z_5, rfl⟩
  · exact ⟨z_6, rfl⟩
  · exact ⟨z_7, rfl⟩
  · exact ⟨z_8, rfl⟩
  · exact ⟨z_12, rfl⟩
  · exact ⟨z_13, rfl⟩
  · exact ⟨z_14, rfl⟩
  · exact ⟨z_21, rfl⟩
  · exact ⟨z_22, rfl⟩
  · exact ⟨z_23, rfl⟩
  · exact ⟨z_24, rfl⟩
  · exact ⟨z_25, rfl⟩
  · exact ⟨z_26, rfl⟩
  · exact ⟨z_27, rfl⟩
  · exact ⟨z_29, rfl⟩
  · exact ⟨z_30, rfl⟩
  · exact ⟨z_31, rfl⟩
  · exact ⟨z_32, rfl⟩
  · exact ⟨z_33, rfl⟩
  · exact ⟨z_34, rfl⟩
  · exact ⟨z_35, rfl⟩
  · exact ⟨z_36, rfl⟩
  · exact ⟨z_37, rfl⟩
  · exact ⟨z_38, rfl⟩
  · exact ⟨z_39, rfl⟩
  · exact ⟨z_40, rfl⟩
  · exact ⟨z_42, rfl⟩
  · exact ⟨z_43, rfl⟩
  · exact ⟨z_44, rfl⟩
  · exact ⟨z_45, rfl⟩
  · exact ⟨z_46, rfl⟩
  · exact ⟨z_47, rfl⟩
  · exact ⟨z_48, rfl⟩
  · exact ⟨z_49, rfl⟩
  · exact ⟨z_50, rfl⟩
  · exact ⟨z_51, rfl⟩
  · exact ⟨z_52, rfl⟩
  · exact ⟨z_53, rfl⟩
  · exact ⟨z_54, rfl⟩
  · exact ⟨z_55, rfl⟩
  · exact ⟨z_56, rfl⟩
  · exact ⟨z_57, rfl⟩
  · exact ⟨z_58, rfl⟩
  · exact ⟨z_59, rfl⟩
  · exact ⟨z_60, rfl⟩
  · exact ⟨z_61, rfl⟩
  · exact ⟨z_62, rfl⟩
  · exact ⟨z_63, rfl⟩
  · exact ⟨z_64, rfl⟩
  · exact ⟨z_65, rfl⟩
  · exact ⟨z_66, rfl⟩
  · exact ⟨z_67, rfl⟩
  · exact ⟨z_68, rfl⟩
  · exact ⟨z_69, rfl⟩
  · exact ⟨z_70, rfl⟩
  · exact ⟨z_71, rfl⟩
  · exact ⟨z_72, rfl⟩
  · exact ⟨z_73, rfl⟩
  · exact ⟨z_74, rfl⟩
  · exact ⟨z_75, rfl⟩
  · exact ⟨z_76, rfl⟩
  · exact ⟨z_77, rfl⟩
  · exact ⟨z_78, rfl⟩
  · exact ⟨z_79, rfl⟩
  · exact ⟨z_80, rfl⟩
  · exact ⟨z_81, rfl⟩
  · exact ⟨z_82, rfl⟩
  · exact ⟨z_83, rfl⟩
  · exact ⟨z_84, rfl⟩
  · exact ⟨z_85, rfl⟩
  · exact ⟨z_86, rfl⟩
  · exact ⟨z_87, rfl⟩
  · exact ⟨z_88, rfl⟩
  · exact ⟨z_89, rfl⟩
  · exact ⟨z_90, rfl⟩
  · exact ⟨z_91, rfl⟩
  · exact ⟨z_92, rfl⟩
  · exact ⟨z_93, rfl⟩
  · exact ⟨z_94, rfl⟩
  · exact ⟨z_95, rfl⟩
  · exact ⟨z_96, rfl⟩
  · exact ⟨z_97, rfl⟩
  · exact ⟨z_98, rfl⟩
  · exact ⟨z_100, rfl⟩
  · exact ⟨z_101, rfl⟩
  · exact ⟨z_102, rfl⟩
  · exact ⟨z_103, rfl⟩
  · exact ⟨z_104, rfl⟩
  · exact ⟨z_105, rfl⟩
  · exact ⟨z_106, rfl⟩
  · exact ⟨z_107, rfl⟩
  · exact ⟨z_108, rfl⟩
  · exact ⟨z_109, rfl⟩
  · exact ⟨z_110, rfl⟩
  · exact ⟨z_111, rfl⟩
  · exact ⟨z_112, rfl⟩
  · exact ⟨z_113, rfl⟩
  · exact ⟨z_114, rfl⟩
  · exact ⟨z_115, rfl⟩
  · exact ⟨z_116, rfl⟩
  · exact ⟨z_117, rfl⟩
  · exact ⟨z_118, rfl⟩
  · exact ⟨z_119, rfl⟩
  · exact ⟨z_120, rfl⟩
  · exact ⟨z_121, rfl⟩
  · exact ⟨z_122, rfl⟩
  · exact ⟨z_124, rfl⟩
  · exact ⟨z_125, rfl⟩
  · exact ⟨z_126, rfl⟩
  · exact ⟨z_128, rfl⟩
  · exact ⟨z_129, rfl⟩
  · exact ⟨z_135, rfl⟩
  · exact ⟨z_136, rfl⟩
  · exact ⟨z_137, rfl⟩
  · exact ⟨z_138, rfl⟩
  · exact ⟨z_139, rfl⟩
  · exact ⟨z_141, rfl⟩
  · exact ⟨z_142, rfl⟩
theorem eAll : ∀ p ∈ e0List, ∃ e, Go.Proofs.Try.prog.underlying p.1 = some (.slice e) ∧ (Go.Proofs.Try.prog.info? e).map (·.zero) = some (some (toVal (fun _ => 0) p.2)) := by
  intro p hp
  simp only [e0List, List.mem_cons, List.not_mem_nil, or_false] at hp
  rcases hp with rfl | rfl | rfl | rfl
  · exact ⟨27, Go.Proofs.Try.underlying40, z_27⟩
  · exact ⟨77, Go.Proofs.Try.underlying76, z_77⟩
  · exact ⟨5, Go.Proofs.Try.underlying77, z_5⟩
  · exact ⟨2, Go.Proofs.Try.underlying116, z_2⟩
def nOf : List (Nat × Nat) → Nat → Option Nat
  | [], _ => none
  | (k, x) :: r, t => match Nat.beq k t with | true => some x | false => nOf r t
theorem nOf_ok {R : Nat → Nat → Prop} : ∀ (l : List (Nat × Nat)), (∀ p ∈ l, R p.1 p.2) → ∀ t z, nOf l t = some z → R t z
  | [], _, t, z, h => by cases h
  | (k, x) :: r, h, t, z, hz => by
    unfold nOf at hz
    cases hb : Nat.beq k t with
    | true =>
      have := Nat.eq_of_beq_eq_true hb
      subst this
      simp only [hb] at hz
      cases hz
      exact h (k, x) (by simp)
    | false => simp only [hb] at hz; exact nOf_ok r (fun p hp => h p (by simp [hp])) t z hz
theorem aAll : ∀ p ∈ appList, ∃ e z, Go.Proofs.Try.prog.underlying p.1 = some (.slice e) ∧ (Go.Proofs.Try.prog.info? e).map (·.bytes) = some p.2 ∧ (Go.Proofs.Try.prog.info? e).map (·.zero) = some (some (toVal (fun _ => 0) z)) ∧ (Go.Proofs.Try.prog.info? e).map (·.size) = some (toVal (fun _ => 0) z).cells.size := by
  intro p hp
  simp only [appList, List.mem_cons, List.not_mem_nil, or_false] at hp
  rcases hp with rfl | rfl | rfl | rfl
  · exact ⟨27, (.ints .u8 8 fun _ => 0), Go.Proofs.Try.underlying40, by kernel_rfl, z_27, by kernel_rfl⟩
  · exact ⟨77, (.nilsl), Go.Proofs.Try.underlying76, by kernel_rfl, z_77, by kernel_rfl⟩
  · exact ⟨5, (.int .u8 0), Go.Proofs.Try.underlying77, by kernel_rfl, z_5, by kernel_rfl⟩
  · exact ⟨2, (.int .i64 0), Go.Proofs.Try.underlying116, by kernel_rfl, z_2, by kernel_rfl⟩
theorem row_22 : RowT Go.Proofs.Try.prog 22 .u8 8 1 := .one Go.Proofs.Try.underlying22 Go.Proofs.Try.underlying5 (by kernel_rfl)
theorem row_23 : RowT Go.Proofs.Try.prog 23 .u8 64 2 := .more Go.Proofs.Try.underlying23 row_22 (by kernel_rfl)
theorem row_24 : RowT Go.Proofs.Try.prog 24 .u8 512 3 := .more Go.Proofs.Try.underlying24 row_23 (by kernel_rfl)
theorem row_27 : RowT Go.Proofs.Try.prog 27 .u8 8 1 := .one Go.Proofs.Try.underlying27 Go.Proofs.Try.underlying5 (by kernel_rfl)
theorem row_30 : RowT Go.Proofs.Try.prog 30 .u8 64 2 := .more Go.Proofs.Try.underlying30 row_27 (by kernel_rfl)
theorem row_31 : RowT Go.Proofs.Try.prog 31 .u8 64 2 := .more Go.Proofs.Try.underlying31 row_27 (by kernel_rfl)
theorem row_32 : RowT Go.Proofs.Try.prog 32 .u8 512 3 := .more Go.Proofs.Try.underlying32 row_31 (by kernel_rfl)
theorem row_33 : RowT Go.Proofs.Try.prog 33 .u8 512 3 := .more Go.Proofs.Try.underlying33 row_31 (by kernel_rfl)
theorem flt_7 : ∃ fs : Array Field, Go.Proofs.Try.prog.underlying 7 = some (.struct fs) ∧ FldsT Go.Proofs.Try.prog 0 fs.toList [.int .i64, .int .i64, .scal, .int .u8] := ⟨_, Go.Proofs.Try.underlying7, .int (by decide) rfl Go.Proofs.Try.underlying2 (by kernel_rfl) (.int (by decide) rfl Go.Proofs.Try.underlying3 (by kernel_rfl) (.scal (by decide) rfl Go.Proofs.Try.underlying4 rfl (by kernel_rfl) (.int (by decide) rfl Go.Proofs.Try.underlying6 (by kernel_rfl) (.nil))))⟩
theorem fl_7 : PairOK Go.Proofs.Try.prog 7 [.int .i64, .int .i64, .scal, .int .u8] := .never (by decide)
theorem flt_8 : ∃ fs : Array Field, Go.Proofs.Try.prog.underlying 8 = some (.struct fs) ∧ FldsT Go.Proofs.Try.prog 0 fs.toList [.int .i64, .int .i64, .scal, .int .u8] := ⟨_, Go.Proofs.Try.underlying8, .int (by decide) rfl Go.Proofs.Try.underlying2 (by kernel_rfl) (.int (by decide) rfl Go.Proofs.Try.underlying3 (by kernel_rfl) (.scal (by decide) rfl Go.Proofs.Try.underlying4 rfl (by kernel_rfl) (.int (by decide) rfl Go.Proofs.Try.underlying6 (by kernel_rfl) (.nil))))⟩
theorem fl_8 : PairOK Go.Proofs.Try.prog 8 [.int .i64, .int .i64, .scal, .int .u8] := .never (by decide)
theorem flt_13 : ∃ fs : Array Field, Go.Proofs.Try.prog.underlying 13 = some (.struct fs) ∧ FldsT Go.Proofs.Try.prog 0 fs.toList [.scal, .int .u64] := ⟨_, Go.Proofs.Try.underlying13, .scal (by decide) rfl Go.Proofs.Try.underlying9 rfl (by kernel_rfl) (.int (by decide) rfl Go.Proofs.Try.underlying12 (by kernel_rfl) (.nil))⟩
theorem fl_13 : PairOK Go.Proofs.Try.prog 13 [.scal, .int .u64] := .never (by decide)
theorem flt_14 : ∃ fs : Array Field, Go.Proofs.Try.prog.underlying 14 = some (.struct fs) ∧ FldsT Go.Proofs.Try.prog 0 fs.toList [.scal, .int .u64] := ⟨_, Go.Proofs.Try.underlying14, .scal (by decide) rfl Go.Proofs.Try.underlying9 rfl (by kernel_rfl) (.int (by decide) rfl Go.Proofs.Try.underlying12 (by kernel_rfl) (.nil))⟩
theorem fl_14 : PairOK Go.Proofs.Try.prog 14 [.scal, .int .u64] := .never (by decide)
theorem flt_25 : ∃ fs : Array Field, Go.Proofs.Try.prog.underlying 25 = some (.struct fs) ∧ FldsT Go.Proofs.Try.prog 0 fs.toList [.int .i64, .int .i64, .row .u8 8, .row .u8 512, .row .u8 8, .row .u8 512, .row .u8 64] := ⟨_, Go.Proofs.Try.underlying25, .int (by decide) rfl Go.Proofs.Try.underlying2 (by kernel_rfl) (.int (by decide) rfl Go.Proofs.Try.underlying2 (by kernel_rfl) (.row (by decide) rfl row_22 (by omega) (by kernel_rfl) (.row (by decide) rfl row_24 (by omega) (by kernel_rfl) (.row (by decide) rfl row_22 (by omega) (by kernel_rfl) (.row (by decide) rfl row_24 (by omega) (by kernel_rfl) (.row (by decide) rfl row_23 (by omega) (by kernel_rfl) (.nil)))))))⟩
theorem fl_25 : PairOK Go.Proofs.Try.prog 25 [.int .i64, .int .i64, .row .u8 8, .row .u8 512, .row .u8 8, .row .u8 512, .row .u8 64] := by
  obtain ⟨fs, h1, h2⟩ := flt_25
  exact .of h1 h2 (by kernel_rfl) (by kernel_rfl)
theorem flt_26 : ∃ fs : Array Field, Go.Proofs.Try.prog.underlying 26 = some (.struct fs) ∧ FldsT Go.Proofs.Try.prog 0 fs.toList [.int .i64, .int .i64, .row .u8 8, .row .u8 512, .row .u8 8, .row .u8 512, .row .u8 64] := ⟨_, Go.Proofs.Try.underlying26, .int (by decide) rfl Go.Proofs.Try.underlying2 (by kernel_rfl) (.int (by decide) rfl Go.Proofs.Try.underlying2 (by kernel_rfl) (.row (by decide) rfl row_22 (by omega) (by kernel_rfl) (.row (by decide) rfl row_24 (by omega) (by kernel_rfl) (.row (by decide) rfl row_22 (by omega) (by kernel_rfl) (.row (by decide) rfl row_24 (by omega) (by kernel_rfl) (.row (by decide) rfl row_23 (by omega) (by kernel_rfl) (.nil)))))))⟩
theorem fl_26 : PairOK Go.Proofs.Try.prog 26 [.int .i64, .int .i64, .row .u8 8, .row .u8 512, .row .u8 8, .row .u8 512, .row .u8 64] := by
  obtain ⟨fs, h1, h2⟩ := flt_26
  exact .of h1 h2 (by kernel_rfl) (by kernel_rfl)
theorem flt_34 : ∃ fs : Array Field, Go.Proofs.Try.prog.underlying 34 = some (.struct fs) ∧ FldsT Go.Proofs.Try.prog 0 fs.toList [.int .i64, .int .i64, .row .u8 8, .row .u8 512, .row .u8 8, .row .u8 512, .row .u8 64] := ⟨_, Go.Proofs.Try.underlying34, .int (by decide) rfl Go.Proofs.Try.underlying2 (by kernel_rfl) (.int (by decide) rfl Go.Proofs.Try.underlying2 (by kernel_rfl) (.row (by decide) rfl row_27 (by omega) (by kernel_rfl) (.row (by decide) rfl row_33 (by omega) (by kernel_rfl) (.row (by decide) rfl row_27 (by omega) (by kernel_rfl) (.row (by decide) rfl row_33 (by omega) (by kernel_rfl) (.row (by decide) rfl row_31 (by omega) (by kernel_rfl) (.nil)))))))⟩
theorem fl_34 : PairOK Go.Proofs.Try.prog 34 [.int .i64, .int .i64, .row .u8 8, .row .u8 512, .row .u8 8, .row .u8 512, .row .u8 64] := by
  obtain ⟨fs, h1, h2⟩ := flt_34
  exact .of h1 h2 (by kernel_rfl) (by kernel_rfl)
theorem flt_35 : ∃ fs : Array Field, Go.Proofs.Try.prog.underlying 35 = some (.struct fs) ∧ FldsT Go.Proofs.Try.prog 0 fs.toList [.int .i64, .int .i64, .row .u8 8, .row .u8 512, .row .u8 8, .row .u8 512, .row .u8 64] := ⟨_, Go.Proofs.Try.underlying35, .int (by decide) rfl Go.Proofs.Try.underlying2 (by kernel_rfl) (.int (by decide) rfl Go.Proofs.Try.underlying2 (by kernel_rfl) (.row (by decide) rfl row_27 (by omega) (by kernel_rfl) (.row (by decide) rfl row_33 (by omega) (by kernel_rfl) (.row (by decide) rfl row_27 (by omega) (by kernel_rfl) (.row (by decide) rfl row_33 (by omega) (by kernel_rfl) (.row (by decide) rfl row_31 (by omega) (by kernel_rfl) (.nil)))))))⟩
theorem fl_35 : PairOK Go.Proofs.Try.prog 35 [.int .i64, .int .i64, .row .u8 8, .row .u8 512, .row .u8 8, .row .u8 512, .row .u8 64] := by
  obtain ⟨fs, h1, h2⟩ := flt_35
  exact .of h1 h2 (by kernel_rfl) (by kernel_rfl)
theorem flt_62 : ∃ fs : Array Field, Go.Proofs.Try.prog.underlying 62 = some (.struct fs) ∧ FldsT Go.Proofs.Try.prog 0 fs.toList [.int .i64, .int .i64, .row .u8 8, .row .u8 512] := ⟨_, Go.Proofs.Try.underlying62, .int (by decide) rfl Go.Proofs.Try.underlying2 (by kernel_rfl) (.int (by decide) rfl Go.Proofs.Try.underlying2 (by kernel_rfl) (.row (by decide) rfl row_27 (by omega) (by kernel_rfl) (.row (by decide) rfl row_33 (by omega) (by kernel_rfl) (.nil))))⟩
theorem fl_62 : PairOK Go.Proofs.Try.prog 62 [.int .i64, .int .i64, .row .u8 8, .row .u8 512] := by
  obtain ⟨fs, h1, h2⟩ := flt_62
  exact .of h1 h2 (by kernel_rfl) (by kernel_rfl)
theorem flt_63 : ∃ fs : Array Field, Go.Proofs.Try.prog.underlying 63 = some (.struct fs) ∧ FldsT Go.Proofs.Try.prog 0 fs.toList [.int .i64, .int .i64, .row .u8 8, .row .u8 512] := ⟨_, Go.Proofs.Try.underlying63, .int (by decide) rfl Go.Proofs.Try.underlying2 (by kernel_rfl) (.int (by decide) rfl Go.Proofs.Try.underlying2 (by kernel_rfl) (.row (by decide) rfl row_27 (by omega) (by kernel_rfl) (.row (by decide) rfl row_33 (by omega) (by kernel_rfl) (.nil))))⟩
theorem fl_63 : PairOK Go.Proofs.Try.prog 63 [.int .i64, .int .i64, .row .u8 8, .row .u8 512] := by
  obtain ⟨fs, h1, h2⟩ := flt_63
  exact .of h1 h2 (by kernel_rfl) (by kernel_rfl)
theorem flt_70 : ∃ fs : Array Field, Go.Proofs.Try.prog.underlying 70 = some (.struct fs) ∧ FldsT Go.Proofs.Try.prog 0 fs.toList [.int .i64, .int .i64, .row .u8 8, .row .u8 512] := ⟨_, Go.Proofs.Try.underlying70, .int (by decide) rfl Go.Proofs.Try.underlying2 (by kernel_rfl) (.int (by decide) rfl Go.Proofs.Try.underlying2 (by kernel_rfl) (.row (by decide) rfl row_27 (by omega) (by kernel_rfl) (.row (by decide) rfl row_33 (by omega) (by kernel_rfl) (.nil))))⟩
theorem fl_70 : PairOK Go.Proofs.Try.prog 70 [.int .i64, .int .i64, .row .u8 8, .row .u8 512] := by
  obtain ⟨fs, h1, h2⟩ := flt_70
  exact .of h1 h2 (by kernel_rfl) (by kernel_rfl)
theorem flt_71 : ∃ fs : Array Field, Go.Proofs.Try.prog.underlying 71 = some (.struct fs) ∧ FldsT Go.Proofs.Try.prog 0 fs.toList [.int .i64, .int .i64, .row .u8 8, .row .u8 512] := ⟨_, Go.Proofs.Try.underlying71, .int (by decide) rfl Go.Proofs.Try.underlying2 (by kernel_rfl) (.int (by decide) rfl Go.Proofs.Try.underlying2 (by kernel_rfl) (.row (by decide) rfl row_27 (by omega) (by kernel_rfl) (.row (by decide) rfl row_33 (by omega) (by kernel_rfl) (.nil))))⟩
theorem fl_71 : PairOK Go.Proofs.Try.prog 71 [.int .i64, .int .i64, .row .u8 8, .row .u8 512] := by
  obtain ⟨fs, h1, h2⟩ := flt_71
  exact .of h1 h2 (by kernel_rfl) (by kernel_rfl)
theorem flt_104 : ∃ fs : Array Field, Go.Proofs.Try.prog.underlying 104 = some (.struct fs) ∧ FldsT Go.Proofs.Try.prog 0 fs.toList [.scal, .scal] := ⟨_, Go.Proofs.Try.underlying104, .scal (by decide) rfl Go.Proofs.Try.underlying4 rfl (by kernel_rfl) (.scal (by decide) rfl Go.Proofs.Try.underlying103 rfl (by kernel_rfl) (.nil))⟩
theorem fl_104 : PairOK Go.Proofs.Try.prog 104 [.scal, .scal] := .never (by decide)
theorem flt_105 : ∃ fs : Array Field, Go.Proofs.Try.prog.underlying 105 = some (.struct fs) ∧ FldsT Go.Proofs.Try.prog 0 fs.toList [.scal, .scal] := ⟨_, Go.Proofs.Try.underlying105, .scal (by decide) rfl Go.Proofs.Try.underlying4 rfl (by kernel_rfl) (.scal (by decide) rfl Go.Proofs.Try.underlying103 rfl (by kernel_rfl) (.nil))⟩
theorem fl_105 : PairOK Go.Proofs.Try.prog 105 [.scal, .scal] := .never (by decide)
def flList : List (Nat × List FK) := [(7, [.int .i64, .int .i64, .scal, .int .u8]), (8, [.int .i64, .int .i64, .scal, .int .u8]), (13, [.scal, .int .u64]), (14, [.scal, .int .u64]), (25, [.int .i64, .int .i64, .row .u8 8, .row .u8 512, .row .u8 8, .row .u8 512, .row .u8 64]), (26, [.int .i64, .int .i64, .row .u8 8, .row .u8 512, .row .u8 8, .row .u8 512, .row .u8 64]), (34, [.int .i64, .int .i64, .row .u8 8, .row .u8 512, .row .u8 8, .row .u8 512, .row .u8 64]), (35, [.int .i64, .int .i64, .row .u8 8, .row .u8 512, .row .u8 8, .row .u8 512, .row .u8 64]), (62, [.int .i64, .int .i64, .row .u8 8, .row .u8 512]), (63, [.int .i64, .int .i64, .row .u8 8, .row .u8 512]), (70, [.int .i64, .int .i64, .row .u8 8, .row .u8 512]), (71, [.int .i64, .int .i64, .row .u8 8, .row .u8 512]), (104, [.scal, .scal]), (105, [.scal, .scal])]
def flOf : List (Nat × List FK) → Nat → Option (List FK)
  | [], _ => none
  | (k, x) :: r, t => match Nat.beq k t with | true => some x | false => flOf r t
theorem flOf_ok {R : Nat → List FK → Prop} : ∀ (l : List (Nat × List FK)), (∀ p ∈ l, R p.1 p.2) → ∀ t z, flOf l t = some z → R t z
  | [], _, t, z, h => by cases h
  | (k, x) :: r, h, t, z, hz => by
    unfold flOf at hz
    cases hb : Nat.beq k t with
    | true =>
      have := Nat.eq_of_beq_eq_true hb
      subst this
      simp only [hb] at hz
      cases hz
      exact h (k, x) (by simp)
    | false => simp only [hb] at hz; exact flOf_ok r (fun p hp => h p (by simp [hp])) t z hz
theorem flAll : ∀ p ∈ flList, PairOK Go.Proofs.Try.prog p.1 p.2 := by
  intro p hp
  simp only [flList, List.mem_cons, List.not_mem_nil, or_false] at hp
  rcases hp with rfl | rfl | rfl | rfl | rfl | rfl | rfl | rfl | rfl | rfl | rfl | rfl | rfl | rfl
  · exact fl_7
  · exact fl_8
  · exact fl_13
  · exact fl_14
  · exact fl_25
  · exact fl_26
  · exact fl_34
  · exact fl_35
  · exact fl_62
  · exact fl_63
  · exact fl_70
  · exact fl_71
  · exact fl_104
  · exact fl_105
theorem fltAll : ∀ p ∈ flList, ∃ fs : Array Field, Go.Proofs.Try.prog.underlying p.1 = some (.struct fs) ∧ FldsT Go.Proofs.Try.prog 0 fs.toList p.2 := by
  intro p hp
  simp only [flList, List.mem_cons, List.not_mem_nil, or_false] at hp
  rcases hp with rfl | rfl | rfl | rfl | rfl | rfl | rfl | rfl | rfl | rfl | rfl | rfl | rfl | rfl
  · exact flt_7
  · exact flt_8
  · exact flt_13
  · exact flt_14
  · exact flt_25
  · exact flt_26
  · exact flt_34
  · exact flt_35
  · exact flt_62
  · exact flt_63
  · exact flt_70
  · exact flt_71
  · exact flt_104
  · exact flt_105
def methList : List (Nat × String × Nat) := [(8, "Error", 114), (8, "RuntimeError", 115), (14, "Error", 120), (14, "RuntimeError", 121)]
def methGo : List (Nat × String × Nat) → Nat → String → Option Nat
  | [], _, _ => none
  | (k, x, f) :: r, t, n => match Nat.beq k t && decide (x = n) with | true => some f | false => methGo r t n
theorem methGo_ok {R : Nat → String → Nat → Prop} : ∀ (l : List (Nat × String × Nat)), (∀ p ∈ l, R p.1 p.2.1 p.2.2) → ∀ t n f, methGo l t n = some f → R t n f
  | [], _, t, n, f, h => by cases h
  | (k, x, g) :: r, h, t, n, f, hz => by
    unfold methGo at hz
    cases hb : (Nat.beq k t && decide (x = n)) with
    | true =>
      simp only [Bool.and_eq_true, decide_eq_true_eq] at hb
      obtain ⟨h1, h2⟩ := hb
      have := Nat.eq_of_beq_eq_true h1
      subst this h2
      simp only [Nat.beq_refl, decide_true, Bool.and_self] at hz
      cases hz
      exact h (k, x, g) (by simp)
    | false => simp only [hb] at hz; exact methGo_ok r (fun p hp => h p (by simp [hp])) t n f hz
theorem meth_0 : MethOK Go.Proofs.Try.prog 8 "Error" 114 := ⟨by kernel_rfl, _, Go.Proofs.Try.underlying8⟩
theorem meth_1 : MethOK Go.Proofs.Try.prog 8 "RuntimeError" 115 := ⟨by kernel_rfl, _, Go.Proofs.Try.underlying8⟩
theorem meth_2 : MethOK Go.Proofs.Try.prog 14 "Error" 120 := ⟨by kernel_rfl, _, Go.Proofs.Try.underlying14⟩
theorem meth_3 : MethOK Go.Proofs.Try.prog 14 "RuntimeError" 121 := ⟨by kernel_rfl, _, Go.Proofs.Try.underlying14⟩
theorem methAll : ∀ p ∈ methList, MethOK Go.Proofs.Try.prog p.1 p.2.1 p.2.2 := by
  intro p hp
  simp only [methList, List.mem_cons, List.not_mem_nil, or_false] at hp
  rcases hp with rfl | rfl | rfl | rfl
  · exact meth_0
  · exact meth_1
  · exact meth_2
  · exact meth_3

def eqList : List Nat := [4, 22, 23, 24, 27, 30, 31, 32, 33, 40, 76, 77, 116]
def tab : Tab where
  ti := tiOf tiList
  zero := zOf zList
  eqs := memN eqList
  elem0 := zOf e0List
  flds := flOf flList
  app := nOf appList
  meth := methGo methList
theorem tabOK : TabOK Go.Proofs.Try.prog tab where
  mixed := by kernel_rfl
  ok := tiOf_ok tiList tiAll
  zero := fun t z h => zOf_ok (R := fun t z => (Go.Proofs.Try.prog.info? t).map (·.zero) = some (some (toVal (fun _ => 0) z)) ∧ z.ids = []) zList zAll t z h
  elem0 := fun t z h => zOf_ok (R := fun t z => ∃ e, Go.Proofs.Try.prog.underlying t = some (.slice e) ∧ (Go.Proofs.Try.prog.info? e).map (·.zero) = some (some (toVal (fun _ => 0) z))) e0List eAll t z h
  flds := fun t ks h => flOf_ok (R := fun t ks => ∃ fs : Array Field, Go.Proofs.Try.prog.underlying t = some (.struct fs) ∧ FldsT Go.Proofs.Try.prog 0 fs.toList ks) flList fltAll t ks h
  meth := fun t n f h => methGo_ok (R := fun t n f => MethOK Go.Proofs.Try.prog t n f) methList methAll t n f h
  app := fun t b h => nOf_ok (R := fun t b => ∃ e z, Go.Proofs.Try.prog.underlying t = some (.slice e) ∧ (Go.Proofs.Try.prog.info? e).map (·.bytes) = some b ∧ (Go.Proofs.Try.prog.info? e).map (·.zero) = some (some (toVal (fun _ => 0) z)) ∧ (Go.Proofs.Try.prog.info? e).map (·.size) = some (toVal (fun _ => 0) z).cells.size) appList aAll t b h
theorem eq_4 : EqOK Go.Proofs.Try.prog tab 4 := .bool Go.Proofs.Try.underlying4 rfl
theorem eq_22 : EqOK Go.Proofs.Try.prog tab 22 := .row row_22 (by omega) (by kernel_rfl) rfl
theorem eq_23 : EqOK Go.Proofs.Try.prog tab 23 := .row row_23 (by omega) (by kernel_rfl) rfl
theorem eq_24 : EqOK Go.Proofs.Try.prog tab 24 := .row row_24 (by omega) (by kernel_rfl) rfl
theorem eq_27 : EqOK Go.Proofs.Try.prog tab 27 := .row row_27 (by omega) (by kernel_rfl) rfl
theorem eq_30 : EqOK Go.Proofs.Try.prog tab 30 := .row row_30 (by omega) (by kernel_rfl) rfl
theorem eq_31 : EqOK Go.Proofs.Try.prog tab 31 := .row row_31 (by omega) (by kernel_rfl) rfl
theorem eq_32 : EqOK Go.Proofs.Try.prog tab 32 := .row row_32 (by omega) (by kernel_rfl) rfl
theorem eq_33 : EqOK Go.Proofs.Try.prog tab 33 := .row row_33 (by omega) (by kernel_rfl) rfl
theorem eq_40 : EqOK Go.Proofs.Try.prog tab 40 := .slice Go.Proofs.Try.underlying40 rfl
theorem eq_76 : EqOK Go.Proofs.Try.prog tab 76 := .slice Go.Proofs.Try.underlying76 rfl
theorem eq_77 : EqOK Go.Proofs.Try.prog tab 77 := .slice Go.Proofs.Try.underlying77 rfl
theorem eq_116 : EqOK Go.Proofs.Try.prog tab 116 := .slice Go.Proofs.Try.underlying116 rfl
theorem tabEq : TabEq Go.Proofs.Try.prog tab where
  eqs := fun t h => by
    have h := (memN_iff eqList t).1 h
    simp only [eqList, List.mem_cons, List.not_mem_nil, or_false] at h
    rcases h with rfl | rfl | rfl | rfl | rfl | rfl | rfl | rfl | rfl | rfl | rfl | rfl | rfl
    · exact eq_4
    · exact eq_22
    · exact eq_23
    · exact eq_24
    · exact eq_27
    · exact eq_30
    · exact eq_31
    · exact eq_32
    · exact eq_33
    · exact eq_40
    · exact eq_76
    · exact eq_77
    · exact eq_116
  flds := fun t fs h => flOf_ok flList flAll t fs h
end Go.Proofs.Ytjanlnngeklhoaa
