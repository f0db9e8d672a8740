/- IsModule, ActOn, CharacterOf, on both sides, and the laws. -/
import Derived.Test.YtcocapkdpbdmdabMod3b
import Derived.Test.YtcocapkdpbdmdabLeft
set_option linter.unusedVariables false
set_option maxRecDepth 100000
set_option maxHeartbeats 1000000
namespace Go.Proofs.Ytcocapkdpbdmdab
open M

theorem code_bad {b : Bool} (h : ((if b = true then (0 : Int) else 1) != 0) = true) : b = false := by cases b <;> simp_all
theorem code_ok {b : Bool} (h : ((if b = true then (0 : Int) else 1) != 0) = false) : b = true := by cases b <;> simp_all
theorem mdl_field {p n d : Int} {U T A : Nat → Int} (h : mdlB p n d U T A = true) : fieldB p d = true := by
  unfold mdlB at h
  simp only [Bool.and_eq_true] at h
  exact h.1

section
variable (p n : Int) (U T Z C S : Nat → Int) (hU : isU8 8 U) (hT : isU8 512 T) (hZ : isU8 8 Z) (hC : isU8 512 C) (hS : isU8 64 S)
include hU hT hZ hC hS
variable (d : Int) (A : Nat → Int) (hA : isU8 512 A)
include hA

theorem hm_spec (h : hmB p n U T Z C S d A = true) : ∃ k e : Nat, n = k ∧ d = e ∧ HV p k U T Z C S ∧ primeB p = true ∧ ModP p k e A ∧ mdlB p n d U T A = true := by
  unfold hmB at h
  simp only [Bool.and_eq_true] at h
  obtain ⟨k, rfl, hV, hpr⟩ := hop_valid p n U T Z C S hU hT hZ hC hS h.1
  have hf := mdl_field h.2
  obtain ⟨e, rfl⟩ : ∃ e : Nat, d = e := ⟨d.toNat, by have := (field_bounds hf).2; omega⟩
  have h2 := h.2
  unfold mdlB at h2
  simp only [Bool.and_eq_true] at h2
  exact ⟨k, e, rfl, rfl, hV, hpr, mod_of hA hf h2.2.1, h.2⟩

/-! ### IsModule -/
theorem implIsModule_s : Spec Try.prog 10 [hopV p n U T Z C S, modV d A] [] (Ret (.bool (hmB p n U T Z C S d A))) := by
  refine Spec.ret rfl (Spec.of_vc tabOK tabEq Try.func10 rfl (by kernel_rfl) rfl rfl ?_)
  refine And.intro (And.intro rfl trivial) (Spec.mono (areModules1_s p n U T Z C S hU hT hZ hC hS d A hA) ?_)
  rintro r m ⟨rfl, rfl⟩
  exact boolEq rfl
theorem specIsModule_s : Spec Try.prog 7 [hopV p n U T Z C S, modV d A] [] (Ret (.bool (hmB p n U T Z C S d A))) := by
  refine Spec.ret rfl (Spec.of_vc tabOK tabEq Try.func7 rfl (by kernel_rfl) rfl rfl ?_)
  refine And.intro trivial (Spec.mono (l03Is_s p n U T Z C S hU hT hZ hC hS) ?_)
  rintro r m ⟨rfl, rfl⟩
  refine ifVC_split (fun h => ?_) (fun h => ?_)
  · have h : hopB p n U T Z C S = true := h
    obtain ⟨n, rfl, hV, hpr⟩ := hop_valid p n U T Z C S hU hT hZ hC hS h
    refine And.intro trivial (Spec.mono (l06Holds_s p n d U T Z C S A hV hpr hA) ?_)
    rintro r m ⟨rfl, rfl⟩
    exact boolEq (by unfold hmB; rw [h]; rfl)
  · have h : hopB p n U T Z C S = false := h
    exact boolEq (by unfold hmB; rw [h]; rfl)
theorem lawIsModule_c : Spec Try.prog 3 [hopV p n U T Z C S, modV d A] [] (Ret (.bool true)) := by
  refine Spec.ret rfl (Spec.of_vc tabOK tabEq Try.func3 rfl (by kernel_rfl) rfl rfl ?_)
  refine Exists.intro 5 (And.intro (by kernel_rfl) ?_)
  refine Exists.intro (hopV p n U T Z C S) (And.intro (And.intro rfl (And.intro rfl (Spec.mono (toHopf_s p n U T Z C S) fun r m h => h.1))) ?_)
  refine Exists.intro (modV d A) (And.intro (And.intro rfl (And.intro rfl (Spec.mono (toModule_s d A) fun r m h => h.1))) ?_)
  refine Exists.intro (.bool (hmB p n U T Z C S d A)) (And.intro (And.intro rfl (And.intro rfl (Spec.mono (specIsModule_s p n U T Z C S hU hT hZ hC hS d A hA) fun r m h => h.1))) ?_)
  refine Exists.intro 5 (And.intro (by kernel_rfl) ?_)
  refine Exists.intro (hopV p n U T Z C S) (And.intro (And.intro rfl (And.intro rfl (Spec.mono (toHopf_s p n U T Z C S) fun r m h => h.1))) ?_)
  refine Exists.intro (modV d A) (And.intro (And.intro rfl (And.intro rfl (Spec.mono (toModule_s d A) fun r m h => h.1))) ?_)
  refine Exists.intro (.bool (hmB p n U T Z C S d A)) (And.intro (And.intro rfl (And.intro rfl (Spec.mono (implIsModule_s p n U T Z C S hU hT hZ hC hS d A hA) fun r m h => h.1))) ?_)
  refine ifVC_false (by simp) ?_
  exact boolEq rfl

/-! ### ActOn -/
theorem isModuleWith1_s (v : Nat → Int) (hv : isU8 8 v) :
    Spec Try.prog 28 [hopV p n U T Z C S, modV d A, .sl 0 0 1 1] [some (.ints .u8 (1 * 8) (oneV (fun j => 0) v), 1 * 8)] (fun r m => r = .bool (hmB p n U T Z C S d A && entriesB p d v) ∧ m = [some (.ints .u8 (1 * 8) (oneV (fun j => 0) v), 1 * 8)]) := by
  refine Spec.cut (Nat.le_refl _) (by simp [SV.ids]) (fun id u c hb => by cases id <;> cases hb; simp [SV.ids]) (Spec.of_vc tabOK tabEq Try.func28 rfl (by kernel_rfl) rfl rfl ?_)
  refine And.intro (And.intro rfl trivial) (Spec.mono (areModules1_s p n U T Z C S hU hT hZ hC hS d A hA) ?_)
  rintro r m ⟨rfl, rfl⟩
  refine ifVC_split (fun h => ?_) (fun h => ?_)
  · have h : hmB p n U T Z C S d A = true := h
    have hf : fieldB p d = true := by
      have h' := h
      unfold hmB at h'
      simp only [Bool.and_eq_true] at h'
      exact mdl_field h'.2
    refine And.intro (And.intro rfl trivial) (Spec.mono (areVectors_s p d 1 (oneV (fun j => 0) v) (by omega) hf (one_u8 hv)) ?_)
    rintro r m ⟨rfl, rfl⟩
    exact And.intro (boolEq (by rw [one_vectors, h]; rfl)) (And.intro (And.intro (rowEq fun _ _ => rfl) rfl) trivial)
  · have h : hmB p n U T Z C S d A = false := h
    exact And.intro (boolEq (by rw [h]; rfl)) (And.intro (And.intro (rowEq fun _ _ => rfl) rfl) trivial)

variable (a v : Nat → Int) (ha : isU8 8 a) (hv : isU8 8 v)
include ha hv
def actOk (p n : Int) (U T Z C S : Nat → Int) (d : Int) (A a v : Nat → Int) : Bool := hmB p n U T Z C S d A && (entriesB p d v && entriesB p n a)
def actOut (p n : Int) (U T Z C S : Nat → Int) (d : Int) (A a v : Nat → Int) : SV := .tcons (.ints .u8 8 fun j => if actOk p n U T Z C S d A a v = true then prodF p A a v j else 0) (.tcons (.int .i64 (if actOk p n U T Z C S d A a v = true then 0 else 1)) .tnil)

theorem implActOn_s : Spec Try.prog 13 [hopV p n U T Z C S, modV d A, .ints .u8 8 a, .ints .u8 8 v] [] (Ret (actOut p n U T Z C S d A a v)) := by
  refine Spec.ret rfl (Spec.of_vc tabOK tabEq Try.func13 rfl (by kernel_rfl) rfl rfl ?_)
  (repeat (first | refine And.intro (by omega) ?_ | refine And.intro ⟨by omega, by omega⟩ ?_))
  refine And.intro (And.intro rfl trivial) (Spec.mono (isModuleWith1_s p n U T Z C S hU hT hZ hC hS d A hA v hv) ?_)
  rintro r m ⟨rfl, rfl⟩
  refine ifVC_split (fun h => ?_) (fun h => ?_)
  · have h : (hmB p n U T Z C S d A && entriesB p d v) = false := by simpa only [Bool.not_eq_true'] using h
    have hc : actOk p n U T Z C S d A a v = false := by unfold actOk; rw [← Bool.and_assoc, h]; rfl
    (repeat (first | refine And.intro (by omega) ?_ | refine And.intro ⟨by omega, by omega⟩ ?_))
    refine And.intro (rowEq fun j hj => ?_) (And.intro (slotI (by simp [hc])) rfl)
    show updR _ 0 8 _ j = _
    simp [updR, hj, hc]
  have h : (hmB p n U T Z C S d A && entriesB p d v) = true := by simpa only [Bool.not_eq_false'] using h
  have h' := h
  simp only [Bool.and_eq_true] at h'
  obtain ⟨n, d, rfl, rfl, hV, hpr, hM, hmd⟩ := hm_spec p n U T Z C S hU hT hZ hC hS d A hA h'.1
  have hfn : fieldB p n = true := by
    unfold fieldB
    rw [hpr]
    have := hV.n1; have := hV.a.hn
    simp; omega
  (repeat (first | refine And.intro (by omega) ?_ | refine And.intro ⟨by omega, by omega⟩ ?_))
  refine And.intro (And.intro rfl trivial) (Spec.mono (areVectors_s p n 1 (oneV (fun j => 0) a) (by omega) hfn (one_u8 ha)) ?_)
  rintro r m ⟨rfl, rfl⟩
  refine ifVC_split (fun h2 => ?_) (fun h2 => ?_)
  · have h2 : entriesB p n a = false := by rw [one_vectors] at h2; simpa using h2
    have hc : actOk p n U T Z C S d A a v = false := by unfold actOk; rw [h2]; simp
    (repeat (first | refine And.intro (by omega) ?_ | refine And.intro ⟨by omega, by omega⟩ ?_))
    refine And.intro (rowEq fun j hj => ?_) (And.intro (slotI (by simp [hc])) rfl)
    show updR _ 0 8 _ j = _
    simp [updR, hj, hc]
  have h2 : entriesB p n a = true := by rw [one_vectors] at h2; simpa using h2
  have hc : actOk p n U T Z C S d A a v = true := by unfold actOk; rw [h2, h'.1, h'.2]; rfl
  refine Exists.intro 9 (And.intro (by kernel_rfl) ?_)
  (repeat (first | refine And.intro (by omega) ?_ | refine And.intro ⟨by omega, by omega⟩ ?_))
  refine Exists.intro (.ints .u8 64 (leftT p A a)) (And.intro (And.intro rfl (And.intro rfl (Spec.mono (sumOfMaps_s p _ _ hV.a.hp (fun q hq => hA _ (by omega)) (fun q hq => ha _ (by omega))) fun r m h => h.1))) ?_)
  (repeat (first | refine And.intro (by omega) ?_ | refine And.intro ⟨by omega, by omega⟩ ?_))
  refine And.intro trivial (Spec.mono (apply_s p _ _ hV.a.hp (leftT_u8 hV.a.hp A a 64) (fun j hj => hv _ (by omega))) ?_)
  rintro r m ⟨rfl, rfl⟩
  (repeat (first | refine And.intro (by omega) ?_ | refine And.intro ⟨by omega, by omega⟩ ?_))
  refine And.intro (rowEq fun j hj => ?_) (And.intro (slotI (by simp [hc])) rfl)
  show updR _ 0 8 _ j = _
  simp [updR, hj, hc, prodF]

theorem specActOn_s : Spec Try.prog 11 [hopV p n U T Z C S, modV d A, .ints .u8 8 a, .ints .u8 8 v] [] (Ret (actOut p n U T Z C S d A a v)) := by
  refine Spec.ret rfl (Spec.of_vc tabOK tabEq Try.func11 rfl (by kernel_rfl) rfl rfl ?_)
  refine And.intro (And.intro rfl trivial) (Spec.mono (l06Code1_s p n U T Z C S hU hT hZ hC hS d A hA) ?_)
  rintro r m ⟨rfl, rfl⟩
  refine ifVC_split (fun h => ?_) (fun h => ?_)
  · have h : hmB p n U T Z C S d A = false := code_bad h
    have hc : actOk p n U T Z C S d A a v = false := by unfold actOk; rw [h]; rfl
    (repeat (first | refine And.intro (by omega) ?_ | refine And.intro ⟨by omega, by omega⟩ ?_))
    refine And.intro (rowEq fun j hj => ?_) (And.intro (slotI (by simp [hc])) rfl)
    show updR _ 0 8 _ j = _
    simp [updR, hj, hc]
  have h : hmB p n U T Z C S d A = true := code_ok h
  obtain ⟨n, d, rfl, rfl, hV, hpr, hM, hmd⟩ := hm_spec p n U T Z C S hU hT hZ hC hS d A hA h
  (repeat (first | refine And.intro (by omega) ?_ | refine And.intro ⟨by omega, by omega⟩ ?_))
  refine And.intro trivial (Spec.mono (l01Vector_s p n _ (fun j hj => ha _ (by omega))) ?_)
  rintro r m ⟨rfl, rfl⟩
  refine ifVC_split (fun h2 => ?_) (fun h2 => ?_)
  · have h2 : entriesB p n a = false := by simpa using h2
    have hc : actOk p n U T Z C S d A a v = false := by unfold actOk; rw [h2]; simp
    (repeat (first | refine And.intro (by omega) ?_ | refine And.intro ⟨by omega, by omega⟩ ?_))
    refine And.intro (rowEq fun j hj => ?_) (And.intro (slotI (by simp [hc])) rfl)
    show updR _ 0 8 _ j = _
    simp [updR, hj, hc]
  have h2 : entriesB p n a = true := by simpa using h2
  (repeat (first | refine And.intro (by omega) ?_ | refine And.intro ⟨by omega, by omega⟩ ?_))
  refine And.intro trivial (Spec.mono (l01Vector_s p d _ (fun j hj => hv _ (by omega))) ?_)
  rintro r m ⟨rfl, rfl⟩
  refine ifVC_split (fun h3 => ?_) (fun h3 => ?_)
  · have h3 : entriesB p d v = false := by simpa using h3
    have hc : actOk p n U T Z C S d A a v = false := by unfold actOk; rw [h3]; simp
    (repeat (first | refine And.intro (by omega) ?_ | refine And.intro ⟨by omega, by omega⟩ ?_))
    refine And.intro (rowEq fun j hj => ?_) (And.intro (slotI (by simp [hc])) rfl)
    show updR _ 0 8 _ j = _
    simp [updR, hj, hc]
  have h3 : entriesB p d v = true := by simpa using h3
  have hc : actOk p n U T Z C S d A a v = true := by unfold actOk; rw [h, h2, h3]; rfl
  (repeat (first | refine And.intro (by omega) ?_ | refine And.intro ⟨by omega, by omega⟩ ?_))
  refine And.intro trivial (Spec.mono (l06Act_s p n d U T Z C S A _ _ hV.a.hp hV.a.hn hM.d8 hA (fun j hj => ha _ (by omega)) (fun j hj => hv _ (by omega))) ?_)
  rintro r m ⟨rfl, rfl⟩
  (repeat (first | refine And.intro (by omega) ?_ | refine And.intro ⟨by omega, by omega⟩ ?_))
  refine And.intro (rowEq fun j hj => ?_) (And.intro (slotI (by simp [hc])) rfl)
  have e := act_eq (p := p) (A := A) (v := a) (w := v) hV.a.hn hM.d8 (fun i h1 h4 => (entries_get h2 h4).2 (by omega)) (fun i h1 h4 => (entries_get h3 h4).2 (by omega)) hj
  show updR _ 0 8 _ j = _
  simp only [updR, Nat.zero_le, true_and, Nat.zero_add, hj, if_true, Nat.sub_zero]
  rw [if_pos hc, ← e]
  rfl

theorem lawActOn_c : Spec Try.prog 4 [hopV p n U T Z C S, modV d A, .ints .u8 8 a, .ints .u8 8 v] [] (Ret (.bool true)) := by
  refine Spec.ret rfl (Spec.of_vc tabOK tabEq Try.func4 rfl (by kernel_rfl) rfl rfl ?_)
  refine Exists.intro 14 (And.intro (by kernel_rfl) ?_)
  refine Exists.intro (hopV p n U T Z C S) (And.intro (And.intro rfl (And.intro rfl (Spec.mono (toHopf_s p n U T Z C S) fun r m h => h.1))) ?_)
  refine Exists.intro (modV d A) (And.intro (And.intro rfl (And.intro rfl (Spec.mono (toModule_s d A) fun r m h => h.1))) ?_)
  (repeat (first | refine And.intro (by omega) ?_ | refine And.intro ⟨by omega, by omega⟩ ?_))
  refine Exists.intro (.ints .u8 8 a) (And.intro (And.intro rfl (And.intro rfl (Spec.mono (toVector_s _) fun r m h => h.1))) ?_)
  (repeat (first | refine And.intro (by omega) ?_ | refine And.intro ⟨by omega, by omega⟩ ?_))
  refine Exists.intro (.ints .u8 8 v) (And.intro (And.intro rfl (And.intro rfl (Spec.mono (toVector_s _) fun r m h => h.1))) ?_)
  refine Exists.intro (actOut p n U T Z C S d A a v) (And.intro (And.intro rfl (And.intro rfl (Spec.mono (specActOn_s p n U T Z C S hU hT hZ hC hS d A hA a v ha hv) fun r m h => h.1))) ?_)
  (repeat (first | refine And.intro (by omega) ?_ | refine And.intro ⟨by omega, by omega⟩ ?_))
  refine Exists.intro 14 (And.intro (by kernel_rfl) ?_)
  refine Exists.intro (hopV p n U T Z C S) (And.intro (And.intro rfl (And.intro rfl (Spec.mono (toHopf_s p n U T Z C S) fun r m h => h.1))) ?_)
  refine Exists.intro (modV d A) (And.intro (And.intro rfl (And.intro rfl (Spec.mono (toModule_s d A) fun r m h => h.1))) ?_)
  (repeat (first | refine And.intro (by omega) ?_ | refine And.intro ⟨by omega, by omega⟩ ?_))
  refine Exists.intro (.ints .u8 8 a) (And.intro (And.intro rfl (And.intro rfl (Spec.mono (toVector_s _) fun r m h => h.1))) ?_)
  (repeat (first | refine And.intro (by omega) ?_ | refine And.intro ⟨by omega, by omega⟩ ?_))
  refine Exists.intro (.ints .u8 8 v) (And.intro (And.intro rfl (And.intro rfl (Spec.mono (toVector_s _) fun r m h => h.1))) ?_)
  refine Exists.intro (actOut p n U T Z C S d A a v) (And.intro (And.intro rfl (And.intro rfl (Spec.mono (implActOn_s p n U T Z C S hU hT hZ hC hS d A hA a v ha hv) fun r m h => h.1))) ?_)
  (repeat (first | refine And.intro (by omega) ?_ | refine And.intro ⟨by omega, by omega⟩ ?_))
  refine And.intro trivial (Spec.mono (eqVector_s _ _) ?_)
  rintro r m ⟨rfl, rfl⟩
  refine ifVC_false ?_ ?_
  · rw [allEq_self]
    rfl
  refine ifVC_false (by simp) ?_
  exact boolEq rfl
end
end Go.Proofs.Ytcocapkdpbdmdab
