/- CounitIn, CoproductIn and IsGroupLike on both sides, and the laws. -/
import Derived.Test.YtmhebgcnloomaaaCo2
import Derived.Test.YtmhebgcnloomaaaCoFirst
set_option linter.unusedVariables false
set_option maxRecDepth 100000
set_option maxHeartbeats 1000000
namespace Go.Proofs.Ytmhebgcnloomaaa
open M

theorem coOne_bad {p n : Int} {U C z v : Nat → Int} (h : (!(coB p n U C && vectorsB p n 1 (oneV z v))) = true) : coOne p n U C v = false := by
  rw [one_vectors] at h; unfold coOne; simpa only [Bool.not_eq_true'] using h
theorem coOne_ok {p n : Int} {U C z v : Nat → Int} (h : (!(coB p n U C && vectorsB p n 1 (oneV z v))) = false) : coOne p n U C v = true := by
  rw [one_vectors] at h; simpa [coOne] using h
theorem coOne_bad2 {p n : Int} {U C v : Nat → Int} (h : ((if (coB p n U C && entriesB p n v) = true then (0 : Int) else 1) != 0) = true) : coOne p n U C v = false := by
  cases hm : coOne p n U C v with
  | false => rfl
  | true => unfold coOne at hm; rw [if_pos hm] at h; simp at h
theorem coOne_ok2 {p n : Int} {U C v : Nat → Int} (h : ((if (coB p n U C && entriesB p n v) = true then (0 : Int) else 1) != 0) = false) : coOne p n U C v = true := by
  cases hm : coOne p n U C v with
  | true => rfl
  | false => unfold coOne at hm; rw [if_neg (by rw [hm]; simp)] at h; simp at h
theorem coOne_spec {p n : Int} {U C v : Nat → Int} (hU : isU8 8 U) (hC : isU8 512 C) (h : coOne p n U C v = true) : ∃ k : Nat, n = k ∧ Valid p k U (dualF C) ∧ ∀ i, k ≤ i → i < 8 → v i = 0 := by
  unfold coOne at h
  simp only [Bool.and_eq_true] at h
  obtain ⟨k, rfl, hV⟩ := coB_valid hU hC h.1
  exact ⟨k, rfl, hV, fun i h1 h2 => (entries_get h.2 h2).2 (by omega)⟩
theorem coOne_code {p n : Int} {U C v : Nat → Int} (h : coOne p n U C v = false) : (if (coB p n U C && entriesB p n v) = true then (0 : Int) else 1) = 1 := by
  unfold coOne at h; simp [h]

def counitV (p n : Int) (U C v : Nat → Int) : SV := .tcons (.int .i64 (if coOne p n U C v = true then cnt p U v else 0)) (.tcons (.int .i64 (if coOne p n U C v = true then 0 else 1)) .tnil)

theorem implCounit_s (p n : Int) (U C v : Nat → Int) (hU : isU8 8 U) (hC : isU8 512 C) (hv : isU8 8 v) : Spec Try.prog 10 [algV p n U C, .ints .u8 8 v] [] (Ret (counitV p n U C v)) := by
  refine Spec.ret rfl (Spec.of_vc tabOK tabEq Try.func10 rfl (by kernel_rfl) rfl rfl ?_)
  (repeat (first | refine And.intro (by omega) ?_ | refine And.intro ⟨by omega, by omega⟩ ?_))
  refine And.intro (And.intro rfl trivial) (Spec.mono (isCoalgebraWith_s p n U C 1 (oneV (fun j => 0) v) (by omega) hU hC (one_u8 hv)) ?_)
  rintro r m ⟨rfl, rfl⟩
  refine ifVC_split (fun hc => ?_) (fun hc => ?_)
  · have hc := coOne_bad hc
    exact And.intro (slotI (by simp [hc])) (And.intro (slotI (by simp [hc])) rfl)
  have hc := coOne_ok hc
  obtain ⟨n, rfl, hV, hz⟩ := coOne_spec hU hC hc
  (repeat (first | refine And.intro (by omega) ?_ | refine And.intro ⟨by omega, by omega⟩ ?_))
  refine And.intro trivial (Spec.mono (counit_s p n U C _ hV.hp hU (fun j hj => hv _ (by omega))) ?_)
  rintro r m ⟨rfl, rfl⟩
  exact And.intro (slotI (by rw [if_pos hc]; rfl)) (And.intro (slotI (by simp [hc])) rfl)

theorem specCounit_s (p n : Int) (U C v : Nat → Int) (hU : isU8 8 U) (hC : isU8 512 C) (hv : isU8 8 v) : Spec Try.prog 7 [algV p n U C, .ints .u8 8 v] [] (Ret (counitV p n U C v)) := by
  refine Spec.ret rfl (Spec.of_vc tabOK tabEq Try.func7 rfl (by kernel_rfl) rfl rfl ?_)
  (repeat (first | refine And.intro (by omega) ?_ | refine And.intro ⟨by omega, by omega⟩ ?_))
  refine And.intro (And.intro rfl trivial) (Spec.mono (l02Code_s p n U C 1 (oneV (fun j => 0) v) (by omega) hU hC (one_u8 hv)) ?_)
  rintro r m ⟨rfl, rfl⟩
  rw [one_vectors]
  refine ifVC_split (fun hc => ?_) (fun hc => ?_)
  · have hc := coOne_bad2 hc
    exact And.intro (slotI (by simp [hc])) (And.intro (slotI (by rw [coOne_code hc]; simp [hc])) rfl)
  have hc := coOne_ok2 hc
  obtain ⟨n, rfl, hV, hz⟩ := coOne_spec hU hC hc
  (repeat (first | refine And.intro (by omega) ?_ | refine And.intro ⟨by omega, by omega⟩ ?_))
  refine And.intro trivial (Spec.mono (l02Counit_s p n U C _ hV.hp hU (fun j hj => hv _ (by omega))) ?_)
  rintro r m ⟨rfl, rfl⟩
  exact And.intro (slotI (by rw [if_pos hc]; rfl)) (And.intro (slotI (by simp [hc])) rfl)

/-- the law on CounitIn returns true -/
theorem lawCounit_c (p n : Int) (U C : Nat → Int) (hU : isU8 8 U) (hC : isU8 512 C) (v : Nat → Int) (hv : isU8 8 v) : Spec Try.prog 3 [algV p n U C, .ints .u8 8 v] [] (Ret (.bool true)) := by
  refine Spec.ret rfl (Spec.of_vc tabOK tabEq Try.func3 rfl (by kernel_rfl) rfl rfl ?_)
  refine Exists.intro 9 (And.intro (by kernel_rfl) ?_)
  refine Exists.intro (algV p n U C) (And.intro (And.intro rfl (And.intro rfl (Spec.mono (toCoalgebra_s p n U C) fun r m h => h.1))) ?_)
  refine And.intro (by omega) ?_
  refine Exists.intro (.ints .u8 8 v) (And.intro (And.intro rfl (And.intro rfl (Spec.mono (toVector_s _) fun r m h => h.1))) ?_)
  refine Exists.intro (counitV p n U C v) (And.intro (And.intro rfl (And.intro rfl (Spec.mono (specCounit_s p n U C v hU hC hv) fun r m h => h.1))) ?_)
  refine Exists.intro 9 (And.intro (by kernel_rfl) ?_)
  refine Exists.intro (algV p n U C) (And.intro (And.intro rfl (And.intro rfl (Spec.mono (toCoalgebra_s p n U C) fun r m h => h.1))) ?_)
  refine And.intro (by omega) ?_
  refine Exists.intro (.ints .u8 8 v) (And.intro (And.intro rfl (And.intro rfl (Spec.mono (toVector_s _) fun r m h => h.1))) ?_)
  refine Exists.intro (counitV p n U C v) (And.intro (And.intro rfl (And.intro rfl (Spec.mono (implCounit_s p n U C v hU hC hv) fun r m h => h.1))) ?_)
  refine ifVC_false (by simp) ?_
  refine ifVC_false (by simp) ?_
  exact boolEq rfl

def coprodV (p n : Int) (U C v : Nat → Int) : SV := .tcons (.ints .u8 64 fun q => if coOne p n U C v = true then leftT p C v q else 0) (.tcons (.int .i64 (if coOne p n U C v = true then 0 else 1)) .tnil)

def groupV (p n : Int) (U C v : Nat → Int) : SV := .tcons (.bool (coOne p n U C v && groupB p U C v)) (.tcons (.int .i64 (if coOne p n U C v = true then 0 else 1)) .tnil)

theorem implGroup_s (p n : Int) (U C v : Nat → Int) (hU : isU8 8 U) (hC : isU8 512 C) (hv : isU8 8 v) : Spec Try.prog 12 [algV p n U C, .ints .u8 8 v] [] (Ret (groupV p n U C v)) := by
  refine Spec.ret rfl (Spec.of_vc tabOK tabEq Try.func12 rfl (by kernel_rfl) rfl rfl ?_)
  (repeat (first | refine And.intro (by omega) ?_ | refine And.intro ⟨by omega, by omega⟩ ?_))
  refine And.intro (And.intro rfl trivial) (Spec.mono (isCoalgebraWith_s p n U C 1 (oneV (fun j => 0) v) (by omega) hU hC (one_u8 hv)) ?_)
  rintro r m ⟨rfl, rfl⟩
  refine ifVC_split (fun hc => ?_) (fun hc => ?_)
  · have hc := coOne_bad hc
    exact And.intro (boolEq (by simp [hc])) (And.intro (slotI (by simp [hc])) rfl)
  have hc := coOne_ok hc
  obtain ⟨n, rfl, hV, hz⟩ := coOne_spec hU hC hc
  (repeat (first | refine And.intro (by omega) ?_ | refine And.intro ⟨by omega, by omega⟩ ?_))
  refine And.intro trivial (Spec.mono (isGroupLike_s p n U C _ hV hU hC (fun j hj => hv _ (by omega))) ?_)
  rintro r m ⟨rfl, rfl⟩
  exact And.intro (boolEq (by rw [hc, Bool.true_and]; rfl)) (And.intro (slotI (by simp [hc])) rfl)

theorem specGroup_s (p n : Int) (U C v : Nat → Int) (hU : isU8 8 U) (hC : isU8 512 C) (hv : isU8 8 v) : Spec Try.prog 11 [algV p n U C, .ints .u8 8 v] [] (Ret (groupV p n U C v)) := by
  refine Spec.ret rfl (Spec.of_vc tabOK tabEq Try.func11 rfl (by kernel_rfl) rfl rfl ?_)
  (repeat (first | refine And.intro (by omega) ?_ | refine And.intro ⟨by omega, by omega⟩ ?_))
  refine And.intro (And.intro rfl trivial) (Spec.mono (l02Code_s p n U C 1 (oneV (fun j => 0) v) (by omega) hU hC (one_u8 hv)) ?_)
  rintro r m ⟨rfl, rfl⟩
  rw [one_vectors]
  refine ifVC_split (fun hc => ?_) (fun hc => ?_)
  · have hc := coOne_bad2 hc
    exact And.intro (boolEq (by simp [hc])) (And.intro (slotI (by rw [coOne_code hc]; simp [hc])) rfl)
  have hc := coOne_ok2 hc
  obtain ⟨n, rfl, hV, hz⟩ := coOne_spec hU hC hc
  (repeat (first | refine And.intro (by omega) ?_ | refine And.intro ⟨by omega, by omega⟩ ?_))
  refine And.intro trivial (Spec.mono (l02Group_s p n U C _ hV hU hC (fun j hj => hv _ (by omega)) (fun i h1 h2 => hz i h1 h2)) ?_)
  rintro r m ⟨rfl, rfl⟩
  exact And.intro (boolEq (by rw [hc, Bool.true_and]; rfl)) (And.intro (slotI (by simp [hc])) rfl)

/-- the law on IsGroupLike returns true -/
theorem lawGroup_c (p n : Int) (U C : Nat → Int) (hU : isU8 8 U) (hC : isU8 512 C) (v : Nat → Int) (hv : isU8 8 v) : Spec Try.prog 4 [algV p n U C, .ints .u8 8 v] [] (Ret (.bool true)) := by
  refine Spec.ret rfl (Spec.of_vc tabOK tabEq Try.func4 rfl (by kernel_rfl) rfl rfl ?_)
  refine Exists.intro 9 (And.intro (by kernel_rfl) ?_)
  refine Exists.intro (algV p n U C) (And.intro (And.intro rfl (And.intro rfl (Spec.mono (toCoalgebra_s p n U C) fun r m h => h.1))) ?_)
  refine And.intro (by omega) ?_
  refine Exists.intro (.ints .u8 8 v) (And.intro (And.intro rfl (And.intro rfl (Spec.mono (toVector_s _) fun r m h => h.1))) ?_)
  refine Exists.intro (groupV p n U C v) (And.intro (And.intro rfl (And.intro rfl (Spec.mono (specGroup_s p n U C v hU hC hv) fun r m h => h.1))) ?_)
  refine Exists.intro 9 (And.intro (by kernel_rfl) ?_)
  refine Exists.intro (algV p n U C) (And.intro (And.intro rfl (And.intro rfl (Spec.mono (toCoalgebra_s p n U C) fun r m h => h.1))) ?_)
  refine And.intro (by omega) ?_
  refine Exists.intro (.ints .u8 8 v) (And.intro (And.intro rfl (And.intro rfl (Spec.mono (toVector_s _) fun r m h => h.1))) ?_)
  refine Exists.intro (groupV p n U C v) (And.intro (And.intro rfl (And.intro rfl (Spec.mono (implGroup_s p n U C v hU hC hv) fun r m h => h.1))) ?_)
  refine ifVC_false (by simp) ?_
  refine ifVC_false (by simp) ?_
  exact boolEq rfl
end Go.Proofs.Ytmhebgcnloomaaa
