/- Functions of a Hopf algebra and a vector, on both sides, and the laws. -/
import Derived.Test.YtmhebgcnloomaacHop6
import Derived.Test.YtmhebgcnloomaacCo3
set_option linter.unusedVariables false
set_option maxRecDepth 100000
set_option maxHeartbeats 1000000
namespace Go.Proofs.Ytmhebgcnloomaac
open M

section
variable (p n : Int) (U T Z C S : Nat → Int) (hU : isU8 8 U) (hT : isU8 512 T) (hZ : isU8 8 Z) (hC : isU8 512 C) (hS : isU8 64 S)
include hU hT hZ hC hS


/-! ### functions of a Hopf algebra and a vector -/
theorem isHopfWith_s (len : Nat) (V : Nat → Int) (hlen : len ≤ 1000) (hV : isU8 (len * 8) V) :
    Spec Try.prog 19 [hopV p n U T Z C S, .sl 0 0 len len] [some (.ints .u8 (len * 8) V, len * 8)] (fun r m => r = .bool (hopB p n U T Z C S && vectorsB p n len V) ∧ m = [some (.ints .u8 (len * 8) V, len * 8)]) := by
  refine Spec.cut (Nat.le_refl _) (by simp [SV.ids]) (fun id u c hb => by cases id <;> cases hb; simp [SV.ids]) (Spec.of_vc tabOK tabEq Try.func19 rfl (by kernel_rfl) rfl rfl ?_)
  refine And.intro trivial (Spec.mono (isHopf_s p n U T Z C S hU hT hZ hC hS) ?_)
  rintro r m ⟨rfl, rfl⟩
  refine ifVC_split (fun ha => ?_) (fun ha => ?_)
  · have hfn : fieldB p n = true := by
      unfold hopB hshB at ha
      simp only [Bool.and_eq_true] at ha
      exact shape_field ha.1.1
    refine And.intro (And.intro rfl trivial) (Spec.mono (areVectors_s p n len V hlen hfn hV) ?_)
    rintro r m ⟨rfl, rfl⟩
    exact And.intro (boolEq (by simp [ha])) (And.intro (And.intro (rowEq fun _ _ => rfl) rfl) trivial)
  · exact And.intro (boolEq (by simp [ha])) (And.intro (And.intro (rowEq fun _ _ => rfl) rfl) trivial)

theorem l03Code_s (len : Nat) (V : Nat → Int) (hlen : len ≤ 1000) (hV : isU8 (len * 8) V) :
    Spec Try.prog 15 [hopV p n U T Z C S, .sl 0 0 len len] [some (.ints .u8 (len * 8) V, len * 8)] (fun r m => r = .int .i64 (if (hopB p n U T Z C S && vectorsB p n len V) = true then 0 else 1) ∧ m = [some (.ints .u8 (len * 8) V, len * 8)]) := by
  refine Spec.cut (Nat.le_refl _) (by simp [SV.ids]) (fun id u c hb => by cases id <;> cases hb; simp [SV.ids]) (Spec.of_vc tabOK tabEq Try.func15 rfl (by kernel_rfl) rfl rfl ?_)
  refine And.intro trivial (Spec.mono (l03Is_s p n U T Z C S hU hT hZ hC hS) ?_)
  rintro r m ⟨rfl, rfl⟩
  refine ifVC_split (fun ha => ?_) (fun ha => ?_)
  · exact And.intro (slotI (by simp at ha; simp [ha])) (And.intro (And.intro (rowEq fun _ _ => rfl) rfl) trivial)
  have ha : hopB p n U T Z C S = true := by simpa using ha
  refine LoopVC.of (fun i : Nat => i ≤ len ∧ ∀ j, j < i → entriesB p n (partF V 8 j) = true) (fun i => [(1, .sl 0 0 len len), (2, .ptr 1 [] 0 0), (5, .int .i64 i)]) (fun _ => [some (.ints .u8 (len * 8) V, len * 8), some (hopV p n U T Z C S, 1106)]) (fun i => len - i) 0 ⟨by omega, fun j hj => by omega⟩ ?_ ?_ ?_
  · exact And.intro rfl (And.intro rfl (And.intro rfl trivial))
  · exact And.intro (And.intro (rowEq fun _ _ => rfl) rfl) (And.intro (And.intro (hopR p n U T Z C S) rfl) trivial)
  · rintro i ⟨hi, hall⟩
    refine ifVC_split (fun h => ?_) (fun h => ?_)
    · have hlt := of_decide_eq_true h
      have hidx : (i : Int).toNat = i := by omega
      refine Exists.intro 9 (And.intro (by kernel_rfl) ?_)
      refine And.intro ⟨by omega, by omega⟩ ?_
      refine And.intro (by omega) ?_
      have he : entriesB p n (fun j => V (j + ((i : Int).toNat * 8 + 0))) = entriesB p n (partF V 8 i) := by rw [hidx]; rfl
      refine Exists.intro (.bool (entriesB p n (partF V 8 i))) (And.intro (And.intro rfl (And.intro rfl (Spec.mono (l01Vector_s p n _ (fun j hj => hV _ (by omega))) fun r m h => by rw [← he]; exact h.1))) ?_)
      refine ifVC_split (fun hv => ?_) (fun hv => ?_)
      · have hv : entriesB p n (partF V 8 i) = false := by simpa using hv
        exact And.intro (slotI (by simp [vectorsB_no (p := p) (n := n) (V := V) (len := len) (i := i) (by omega) hv])) (And.intro (And.intro (rowEq fun _ _ => rfl) rfl) trivial)
      · have hv : entriesB p n (partF V 8 i) = true := by simpa using hv
        refine Exists.intro (i + 1) (And.intro ⟨by omega, fun j hj => ?_⟩ (And.intro (by omega) (And.intro ?_ ?_)))
        · by_cases hji : j = i
          · subst hji; exact hv
          · exact hall j (by omega)
        · exact And.intro rfl (And.intro rfl (And.intro (slotI (wrapS (by omega))) trivial))
        · exact And.intro (And.intro (rowEq fun _ _ => rfl) rfl) (And.intro (And.intro (hopR p n U T Z C S) rfl) trivial)
    · have hge := of_decide_eq_false h
      exact And.intro (slotI (by simp [ha, vectorsB_yes (p := p) (n := n) (V := V) (len := len) fun j hj => hall j (by omega)])) (And.intro (And.intro (rowEq fun _ _ => rfl) rfl) trivial)
end

/-- a Hopf algebra and a vector for it -/
def hopOne (p n : Int) (U T Z C S v : Nat → Int) : Bool := hopB p n U T Z C S && entriesB p n v
theorem hopOne_bad {p n : Int} {U T Z C S z v : Nat → Int} (h : (!(hopB p n U T Z C S && vectorsB p n 1 (oneV z v))) = true) : hopOne p n U T Z C S v = false := by
  rw [one_vectors] at h; unfold hopOne; simpa only [Bool.not_eq_true'] using h
theorem hopOne_ok {p n : Int} {U T Z C S z v : Nat → Int} (h : (!(hopB p n U T Z C S && vectorsB p n 1 (oneV z v))) = false) : hopOne p n U T Z C S v = true := by
  rw [one_vectors] at h; simpa [hopOne] using h
theorem hopOne_bad2 {p n : Int} {U T Z C S v : Nat → Int} (h : ((if (hopB p n U T Z C S && entriesB p n v) = true then (0 : Int) else 1) != 0) = true) : hopOne p n U T Z C S v = false := by
  cases hm : hopOne p n U T Z C S v with
  | false => rfl
  | true => unfold hopOne at hm; rw [if_pos hm] at h; simp at h
theorem hopOne_ok2 {p n : Int} {U T Z C S v : Nat → Int} (h : ((if (hopB p n U T Z C S && entriesB p n v) = true then (0 : Int) else 1) != 0) = false) : hopOne p n U T Z C S v = true := by
  cases hm : hopOne p n U T Z C S v with
  | true => rfl
  | false => unfold hopOne at hm; rw [if_neg (by rw [hm]; simp)] at h; simp at h
theorem hopOne_code {p n : Int} {U T Z C S v : Nat → Int} (h : hopOne p n U T Z C S v = false) : (if (hopB p n U T Z C S && entriesB p n v) = true then (0 : Int) else 1) = 1 := by
  unfold hopOne at h; simp [h]
theorem hopB_valid {p n : Int} {U T Z C S : Nat → Int} (hU : isU8 8 U) (hT : isU8 512 T) (hZ : isU8 8 Z) (hC : isU8 512 C) (hS : isU8 64 S) (h : hopB p n U T Z C S = true) : ∃ k : Nat, n = k ∧ HV p k U T Z C S := by
  unfold hopB at h
  simp only [Bool.and_eq_true] at h
  exact hsh_valid hU hT hZ hC hS h.1
theorem hopOne_spec {p n : Int} {U T Z C S v : Nat → Int} (hU : isU8 8 U) (hT : isU8 512 T) (hZ : isU8 8 Z) (hC : isU8 512 C) (hS : isU8 64 S) (h : hopOne p n U T Z C S v = true) : ∃ k : Nat, n = k ∧ HV p k U T Z C S ∧ ∀ i, k ≤ i → i < 8 → v i = 0 := by
  unfold hopOne at h
  simp only [Bool.and_eq_true] at h
  obtain ⟨k, rfl, hV⟩ := hopB_valid hU hT hZ hC hS h.1
  exact ⟨k, rfl, hV, fun i h1 h2 => (entries_get h.2 h2).2 (by omega)⟩

section
variable (p n : Int) (U T Z C S : Nat → Int) (hU : isU8 8 U) (hT : isU8 512 T) (hZ : isU8 8 Z) (hC : isU8 512 C) (hS : isU8 64 S) (v : Nat → Int) (hv : isU8 8 v)
include hU hT hZ hC hS hv

/-! ### CounitOf -/
def hcounitV (p n : Int) (U T Z C S v : Nat → Int) : SV := .tcons (.int .i64 (if hopOne p n U T Z C S v = true then cnt p Z v else 0)) (.tcons (.int .i64 (if hopOne p n U T Z C S v = true then 0 else 1)) .tnil)
theorem implCounitOf_s : Spec Try.prog 9 [hopV p n U T Z C S, .ints .u8 8 v] [] (Ret (hcounitV p n U T Z C S v)) := by
  refine Spec.ret rfl (Spec.of_vc tabOK tabEq Try.func9 rfl (by kernel_rfl) rfl rfl ?_)
  (repeat (first | refine And.intro (by omega) ?_ | refine And.intro ⟨by omega, by omega⟩ ?_))
  refine And.intro (And.intro rfl trivial) (Spec.mono (isHopfWith_s p n U T Z C S hU hT hZ hC hS 1 (oneV (fun j => 0) v) (by omega) (one_u8 hv)) ?_)
  rintro r m ⟨rfl, rfl⟩
  refine ifVC_split (fun hc => ?_) (fun hc => ?_)
  · have hc := hopOne_bad hc
    exact And.intro (slotI (by simp [hc])) (And.intro (slotI (by simp [hc])) rfl)
  have hc := hopOne_ok hc
  obtain ⟨n, rfl, hV, hz⟩ := hopOne_spec hU hT hZ hC hS hc
  refine Exists.intro 5 (And.intro (by kernel_rfl) ?_)
  refine Exists.intro (algV p n Z C) (And.intro (And.intro rfl (And.intro rfl (Spec.mono (coalgebraOf_s p n U T Z C S) fun r m h => h.1))) ?_)
  (repeat (first | refine And.intro (by omega) ?_ | refine And.intro ⟨by omega, by omega⟩ ?_))
  refine Exists.intro (.int .i64 (cnt p Z v)) (And.intro (And.intro rfl (And.intro rfl (Spec.mono (counit_s p n Z C _ hV.a.hp hZ (fun j hj => hv _ (by omega))) fun r m h => h.1))) ?_)
  exact And.intro (slotI (by rw [if_pos hc])) (And.intro (slotI (by simp [hc])) rfl)
theorem specCounitOf_s : Spec Try.prog 6 [hopV p n U T Z C S, .ints .u8 8 v] [] (Ret (hcounitV p n U T Z C S v)) := by
  refine Spec.ret rfl (Spec.of_vc tabOK tabEq Try.func6 rfl (by kernel_rfl) rfl rfl ?_)
  (repeat (first | refine And.intro (by omega) ?_ | refine And.intro ⟨by omega, by omega⟩ ?_))
  refine And.intro (And.intro rfl trivial) (Spec.mono (l03Code_s p n U T Z C S hU hT hZ hC hS 1 (oneV (fun j => 0) v) (by omega) (one_u8 hv)) ?_)
  rintro r m ⟨rfl, rfl⟩
  rw [one_vectors]
  refine ifVC_split (fun hc => ?_) (fun hc => ?_)
  · have hc := hopOne_bad2 hc
    exact And.intro (slotI (by simp [hc])) (And.intro (slotI (by rw [hopOne_code hc]; simp [hc])) rfl)
  have hc := hopOne_ok2 hc
  obtain ⟨n, rfl, hV, hz⟩ := hopOne_spec hU hT hZ hC hS hc
  (repeat (first | refine And.intro (by omega) ?_ | refine And.intro ⟨by omega, by omega⟩ ?_))
  refine And.intro trivial (Spec.mono (l03Counit_s p n U T Z C S _ hV.a.hp hV.a.hn hZ (fun j hj => hv _ (by omega)) (fun i h1 h2 => hz i h1 h2)) ?_)
  rintro r m ⟨rfl, rfl⟩
  exact And.intro (slotI (by rw [if_pos hc]; rfl)) (And.intro (slotI (by simp [hc])) rfl)
theorem lawCounitOf_c : Spec Try.prog 3 [hopV p n U T Z C S, .ints .u8 8 v] [] (Ret (.bool true)) := by
  refine Spec.ret rfl (Spec.of_vc tabOK tabEq Try.func3 rfl (by kernel_rfl) rfl rfl ?_)
  refine Exists.intro 9 (And.intro (by kernel_rfl) ?_)
  refine Exists.intro (hopV p n U T Z C S) (And.intro (And.intro rfl (And.intro rfl (Spec.mono (toHopf_s p n U T Z C S) fun r m h => h.1))) ?_)
  refine And.intro (by omega) ?_
  refine Exists.intro (.ints .u8 8 v) (And.intro (And.intro rfl (And.intro rfl (Spec.mono (toVector_s _) fun r m h => h.1))) ?_)
  refine Exists.intro (hcounitV p n U T Z C S v) (And.intro (And.intro rfl (And.intro rfl (Spec.mono (specCounitOf_s p n U T Z C S hU hT hZ hC hS v hv) fun r m h => h.1))) ?_)
  refine Exists.intro 9 (And.intro (by kernel_rfl) ?_)
  refine Exists.intro (hopV p n U T Z C S) (And.intro (And.intro rfl (And.intro rfl (Spec.mono (toHopf_s p n U T Z C S) fun r m h => h.1))) ?_)
  refine And.intro (by omega) ?_
  refine Exists.intro (.ints .u8 8 v) (And.intro (And.intro rfl (And.intro rfl (Spec.mono (toVector_s _) fun r m h => h.1))) ?_)
  refine Exists.intro (hcounitV p n U T Z C S v) (And.intro (And.intro rfl (And.intro rfl (Spec.mono (implCounitOf_s p n U T Z C S hU hT hZ hC hS v hv) fun r m h => h.1))) ?_)
  refine ifVC_false (by simp) ?_
  refine ifVC_false (by simp) ?_
  exact boolEq rfl

/-! ### CoproductOf -/
def hcoprodV (p n : Int) (U T Z C S v : Nat → Int) : SV := .tcons (.ints .u8 64 fun q => if hopOne p n U T Z C S v = true then leftT p C v q else 0) (.tcons (.int .i64 (if hopOne p n U T Z C S v = true then 0 else 1)) .tnil)
/-! ### AntipodeOf -/
def hantV (p n : Int) (U T Z C S v : Nat → Int) : SV := .tcons (.ints .u8 8 fun j => if hopOne p n U T Z C S v = true then linS S v 8 j % p else 0) (.tcons (.int .i64 (if hopOne p n U T Z C S v = true then 0 else 1)) .tnil)
theorem implAntipodeOf_s : Spec Try.prog 11 [hopV p n U T Z C S, .ints .u8 8 v] [] (Ret (hantV p n U T Z C S v)) := by
  refine Spec.ret rfl (Spec.of_vc tabOK tabEq Try.func11 rfl (by kernel_rfl) rfl rfl ?_)
  (repeat (first | refine And.intro (by omega) ?_ | refine And.intro ⟨by omega, by omega⟩ ?_))
  refine And.intro (And.intro rfl trivial) (Spec.mono (isHopfWith_s p n U T Z C S hU hT hZ hC hS 1 (oneV (fun j => 0) v) (by omega) (one_u8 hv)) ?_)
  rintro r m ⟨rfl, rfl⟩
  refine ifVC_split (fun hc => ?_) (fun hc => ?_)
  · have hc := hopOne_bad hc
    (repeat (first | refine And.intro (by omega) ?_ | refine And.intro ⟨by omega, by omega⟩ ?_))
    refine And.intro (rowEq fun j hj => ?_) (And.intro (slotI (by simp [hc])) rfl)
    show updR _ 0 8 _ j = _
    simp [updR, hj, hc]
  have hc := hopOne_ok hc
  obtain ⟨n, rfl, hV, hz⟩ := hopOne_spec hU hT hZ hC hS hc
  (repeat (first | refine And.intro (by omega) ?_ | refine And.intro ⟨by omega, by omega⟩ ?_))
  refine And.intro trivial (Spec.mono (apply_s p _ _ hV.a.hp (fun j hj => hS _ (by omega)) (fun j hj => hv _ (by omega))) ?_)
  rintro r m ⟨rfl, rfl⟩
  (repeat (first | refine And.intro (by omega) ?_ | refine And.intro ⟨by omega, by omega⟩ ?_))
  refine And.intro (rowEq fun j hj => ?_) (And.intro (slotI (by simp [hc])) rfl)
  show updR _ 0 8 _ j = _
  simp [updR, hj, hc]
theorem specAntipodeOf_s : Spec Try.prog 10 [hopV p n U T Z C S, .ints .u8 8 v] [] (Ret (hantV p n U T Z C S v)) := by
  refine Spec.ret rfl (Spec.of_vc tabOK tabEq Try.func10 rfl (by kernel_rfl) rfl rfl ?_)
  (repeat (first | refine And.intro (by omega) ?_ | refine And.intro ⟨by omega, by omega⟩ ?_))
  refine And.intro (And.intro rfl trivial) (Spec.mono (l03Code_s p n U T Z C S hU hT hZ hC hS 1 (oneV (fun j => 0) v) (by omega) (one_u8 hv)) ?_)
  rintro r m ⟨rfl, rfl⟩
  rw [one_vectors]
  refine ifVC_split (fun hc => ?_) (fun hc => ?_)
  · have hc := hopOne_bad2 hc
    (repeat (first | refine And.intro (by omega) ?_ | refine And.intro ⟨by omega, by omega⟩ ?_))
    refine And.intro (rowEq fun j hj => ?_) (And.intro (slotI (by rw [hopOne_code hc]; simp [hc])) rfl)
    show updR _ 0 8 _ j = _
    simp [updR, hj, hc]
  have hc := hopOne_ok2 hc
  obtain ⟨n, rfl, hV, hz⟩ := hopOne_spec hU hT hZ hC hS hc
  have hn := hV.a.hn
  (repeat (first | refine And.intro (by omega) ?_ | refine And.intro ⟨by omega, by omega⟩ ?_))
  refine And.intro trivial (Spec.mono (l01Apply_s p n _ _ hV.a.hp hn (fun j hj => hS _ (by omega)) (fun j hj => hv _ (by omega))) ?_)
  rintro r m ⟨rfl, rfl⟩
  (repeat (first | refine And.intro (by omega) ?_ | refine And.intro ⟨by omega, by omega⟩ ?_))
  refine And.intro (rowEq fun j hj => ?_) (And.intro (slotI (by simp [hc])) rfl)
  have e : linS (fun j => S (j + 0)) (fun j => v (j + 0)) n j = linS S v 8 j := (linS_cut 8 hn fun i h1 h2 => hz i h1 h2).symm
  show updR _ 0 8 _ j = _
  simp only [updR, Nat.zero_le, true_and, Nat.zero_add, hj, if_true, Nat.sub_zero]
  rw [e, if_pos hc]
theorem lawAntipodeOf_c : Spec Try.prog 4 [hopV p n U T Z C S, .ints .u8 8 v] [] (Ret (.bool true)) := by
  refine Spec.ret rfl (Spec.of_vc tabOK tabEq Try.func4 rfl (by kernel_rfl) rfl rfl ?_)
  refine Exists.intro 10 (And.intro (by kernel_rfl) ?_)
  refine Exists.intro (hopV p n U T Z C S) (And.intro (And.intro rfl (And.intro rfl (Spec.mono (toHopf_s p n U T Z C S) fun r m h => h.1))) ?_)
  refine And.intro (by omega) ?_
  refine Exists.intro (.ints .u8 8 v) (And.intro (And.intro rfl (And.intro rfl (Spec.mono (toVector_s _) fun r m h => h.1))) ?_)
  refine Exists.intro (hantV p n U T Z C S v) (And.intro (And.intro rfl (And.intro rfl (Spec.mono (specAntipodeOf_s p n U T Z C S hU hT hZ hC hS v hv) fun r m h => h.1))) ?_)
  (repeat (first | refine And.intro (by omega) ?_ | refine And.intro ⟨by omega, by omega⟩ ?_))
  refine Exists.intro 10 (And.intro (by kernel_rfl) ?_)
  refine Exists.intro (hopV p n U T Z C S) (And.intro (And.intro rfl (And.intro rfl (Spec.mono (toHopf_s p n U T Z C S) fun r m h => h.1))) ?_)
  refine And.intro (by omega) ?_
  refine Exists.intro (.ints .u8 8 v) (And.intro (And.intro rfl (And.intro rfl (Spec.mono (toVector_s _) fun r m h => h.1))) ?_)
  refine Exists.intro (hantV p n U T Z C S v) (And.intro (And.intro rfl (And.intro rfl (Spec.mono (implAntipodeOf_s p n U T Z C S hU hT hZ hC hS v hv) fun r m h => h.1))) ?_)
  (repeat (first | refine And.intro (by omega) ?_ | refine And.intro ⟨by omega, by omega⟩ ?_))
  refine And.intro trivial (Spec.mono (eqVector_s _ _) ?_)
  rintro r m ⟨rfl, rfl⟩
  refine ifVC_false ?_ ?_
  · rw [allEq_self]
    rfl
  refine ifVC_false (by simp) ?_
  exact boolEq rfl
end
end Go.Proofs.Ytmhebgcnloomaac
