/- The axioms of Hopf algebras, as the program checks them, and the search for the first that fails. -/
import Derived.Test.YtegcfjfhpodlmaaHop2
set_option linter.unusedVariables false
set_option linter.unusedSimpArgs false
set_option maxRecDepth 100000
set_option maxHeartbeats 1000000
namespace Go.Proofs.Ytegcfjfhpodlmaa
open M

def ax3 (p : Int) (T C : Nat → Int) (i j : Nat) : Bool := allEq 64 (leftT p C (vecT T i j)) (pairsF p T (partF C 64 i) (partF C 64 j))
def ax4B (p : Int) (U C : Nat → Int) : Bool := allEq 64 (leftT p C U) (tenF p U U)
def ax5 (p : Int) (T Z : Nat → Int) (i j : Nat) : Bool := cnt p Z (vecT T i j) == Z i * Z j % p
def ax6B (p : Int) (n : Nat) (U T Z C S : Nat → Int) : Bool := allEq 64 (convF p n T C S (idF n)) (tenF p Z U)
def ax7B (p : Int) (n : Nat) (U T Z C S : Nat → Int) : Bool := allEq 64 (convF p n T C (idF n) S) (tenF p Z U)
def all2 (n : Nat) (f : Nat → Nat → Bool) : Bool := (List.range n).all fun i => (List.range n).all (f i)
theorem all2_yes {n : Nat} {f : Nat → Nat → Bool} (h : ∀ i j, i < n → j < n → f i j = true) : all2 n f = true :=
  List.all_eq_true.2 fun i hi => List.all_eq_true.2 fun j hj => h i j (List.mem_range.1 hi) (List.mem_range.1 hj)
theorem all2_get {n : Nat} {f : Nat → Nat → Bool} (h : all2 n f = true) {i j : Nat} (hi : i < n) (hj : j < n) : f i j = true :=
  List.all_eq_true.1 (List.all_eq_true.1 h i (List.mem_range.2 hi)) j (List.mem_range.2 hj)
theorem all2_no {n : Nat} {f : Nat → Nat → Bool} {i j : Nat} (hi : i < n) (hj : j < n) (h : f i j = false) : all2 n f = false := by
  cases hb : all2 n f with
  | false => rfl
  | true => rw [all2_get hb hi hj] at h; cases h

theorem vec_is (T : Nat → Int) (i j : Nat) {a b : Nat} (ha : a = i) (hb : b = j) : (fun m => T (m + (b * 8 + (a * 64 + 0)))) = vecT T i j := by
  subst ha; subst hb; rfl
theorem row_is (C : Nat → Int) (i : Nat) {a : Nat} (ha : a = i) : (fun m => C (m + (a * 64 + 0))) = partF C 64 i := by
  subst ha; rfl
theorem part_u8 {n m k i : Nat} {F : Nat → Int} (h : isU8 n F) (hk : i * m + k ≤ n) : isU8 k (partF F m i) := fun j hj => h _ (by omega)
theorem vecT_u8 {T : Nat → Int} (hT : isU8 512 T) {i j : Nat} (hi : i < 8) (hj : j < 8) : isU8 8 (vecT T i j) := fun m hm => vec_u8 hT hi hj hm

section
variable (p : Int) (n : Nat) (U T Z C S : Nat → Int) (hV : HV p n U T Z C S)
include hV

theorem keepsProduct_s (i j : Nat) (hi : i < n) (hj : j < n) : Spec Try.prog 80 [hopV p n U T Z C S, .int .i64 i, .int .i64 j] [] (Ret (.bool (ax3 p T C i j))) := by
  have hn := hV.a.hn
  have hp := hV.a.hp
  have hidx : (i : Int).toNat = i := by omega
  have hjdx : (j : Int).toNat = j := by omega
  refine Spec.ret rfl (Spec.of_vc tabOK tabEq Try.func80 rfl (by kernel_rfl) rfl rfl ?_)
  refine Exists.intro 12 (And.intro (by kernel_rfl) ?_)
  refine Exists.intro (algV p n U T) (And.intro (And.intro rfl (And.intro rfl (Spec.mono (algebraOf_s p n U T Z C S) fun r m h => h.1))) ?_)
  (repeat (first | refine And.intro (by omega) ?_ | refine And.intro ⟨by omega, by omega⟩ ?_))
  refine Exists.intro (.ints .u8 64 (pairsF p T (partF C 64 i) (partF C 64 j))) (And.intro (And.intro rfl (And.intro rfl ?_)) ?_)
  · rw [row_is C i hidx, row_is C j hjdx]
    exact Spec.mono (productOfPairs_s p n U T _ _ hp hV.hT (part_u8 hV.hC (by omega)) (part_u8 hV.hC (by omega))) fun r m h => h.1
  (repeat (first | refine And.intro (by omega) ?_ | refine And.intro ⟨by omega, by omega⟩ ?_))
  refine Exists.intro 11 (And.intro (by kernel_rfl) ?_)
  refine Exists.intro (algV p n Z C) (And.intro (And.intro rfl (And.intro rfl (Spec.mono (coalgebraOf_s p n U T Z C S) fun r m h => h.1))) ?_)
  (repeat (first | refine And.intro (by omega) ?_ | refine And.intro ⟨by omega, by omega⟩ ?_))
  refine Exists.intro (.ints .u8 64 (leftT p C (vecT T i j))) (And.intro (And.intro rfl (And.intro rfl ?_)) ?_)
  · rw [vec_is T i j hidx hjdx]
    exact Spec.mono (coproduct_s p n Z C _ hp hV.hC (vecT_u8 hV.hT (by omega) (by omega))) fun r m h => h.1
  (repeat (first | refine And.intro (by omega) ?_ | refine And.intro ⟨by omega, by omega⟩ ?_))
  refine boolEq ?_
  refine allEq_congr (fun _ _ => rfl) fun q hq => ?_
  show updR _ 0 64 _ (q + 0) = _
  simp [updR, hq]

theorem keepsUnit_s (i j : Int) : Spec Try.prog 81 [hopV p n U T Z C S, .int .i64 i, .int .i64 j] [] (Ret (.bool (ax4B p U C))) := by
  have hp := hV.a.hp
  refine Spec.ret rfl (Spec.of_vc tabOK tabEq Try.func81 rfl (by kernel_rfl) rfl rfl ?_)
  refine Exists.intro 13 (And.intro (by kernel_rfl) ?_)
  refine Exists.intro (algV p n Z C) (And.intro (And.intro rfl (And.intro rfl (Spec.mono (coalgebraOf_s p n U T Z C S) fun r m h => h.1))) ?_)
  (repeat (first | refine And.intro (by omega) ?_ | refine And.intro ⟨by omega, by omega⟩ ?_))
  refine Exists.intro (.ints .u8 64 (leftT p C U)) (And.intro (And.intro rfl (And.intro rfl (Spec.mono (coproduct_s p n Z C _ hp hV.hC (fun q hq => hV.hU _ (by omega))) fun r m h => h.1))) ?_)
  (repeat (first | refine And.intro (by omega) ?_ | refine And.intro ⟨by omega, by omega⟩ ?_))
  refine Exists.intro (.ints .u8 64 (tenF p U U)) (And.intro (And.intro rfl (And.intro rfl (Spec.mono (tensor_s p _ _ hp (fun q hq => hV.hU _ (by omega)) (fun q hq => hV.hU _ (by omega))) fun r m h => h.1))) ?_)
  exact boolEq rfl

theorem hasCounitOfProduct_s (i j : Nat) (hi : i < n) (hj : j < n) : Spec Try.prog 82 [hopV p n U T Z C S, .int .i64 i, .int .i64 j] [] (Ret (.bool (ax5 p T Z i j && (cnt p Z U == 1)))) := by
  have hn := hV.a.hn
  have hp := hV.a.hp
  have hidx : (i : Int).toNat = i := by omega
  have hjdx : (j : Int).toNat = j := by omega
  refine Spec.ret rfl (Spec.of_vc tabOK tabEq Try.func82 rfl (by kernel_rfl) rfl rfl ?_)
  refine Exists.intro 15 (And.intro (by kernel_rfl) ?_)
  refine Exists.intro (algV p n Z C) (And.intro (And.intro rfl (And.intro rfl (Spec.mono (coalgebraOf_s p n U T Z C S) fun r m h => h.1))) ?_)
  (repeat (first | refine And.intro (by omega) ?_ | refine And.intro ⟨by omega, by omega⟩ ?_))
  refine Exists.intro 20 (And.intro (by kernel_rfl) ?_)
  (repeat (first | refine And.intro (by omega) ?_ | refine And.intro ⟨by omega, by omega⟩ ?_))
  refine Exists.intro (.int .i64 (cnt p Z (vecT T i j))) (And.intro (And.intro rfl (And.intro rfl ?_)) ?_)
  · rw [vec_is T i j hidx hjdx]
    exact Spec.mono (counit_s p n Z C _ hp hV.hZ (vecT_u8 hV.hT (by omega) (by omega))) fun r m h => h.1
  (repeat (first | refine And.intro (by omega) ?_ | refine And.intro ⟨by omega, by omega⟩ ?_))
  have zi := hV.hZ i (by omega)
  have zj := hV.hZ j (by omega)
  have zz := mulB zi zj
  have hb : IntKind.i64.wrap (IntKind.i64.wrap (Z ((i : Int).toNat * 1 + 0)) * IntKind.i64.wrap (Z ((j : Int).toNat * 1 + 0))) = Z i * Z j := by
    rw [show (i : Int).toNat * 1 + 0 = i by omega, show (j : Int).toNat * 1 + 0 = j by omega, wrapI (x := Z i) (by omega), wrapI (x := Z j) (by omega), wrapI (by omega)]
  have he : (cnt p Z (vecT T i j) == (IntKind.i64.wrap (IntKind.i64.wrap (Z ((i : Int).toNat * 1 + 0)) * IntKind.i64.wrap (Z ((j : Int).toNat * 1 + 0)))).tmod p) = ax5 p T Z i j := by
    rw [hb, Int.tmod_eq_emod_of_nonneg zz.1]
    rfl
  refine ifVC_split (fun hc => ?_) (fun hc => ?_)
  · have hc : ax5 p T Z i j = true := by rw [← he]; exact hc
    (repeat (first | refine And.intro (by omega) ?_ | refine And.intro ⟨by omega, by omega⟩ ?_))
    refine Exists.intro (.int .i64 (cnt p Z U)) (And.intro (And.intro rfl (And.intro rfl (Spec.mono (counit_s p n Z C _ hp hV.hZ (fun q hq => hV.hU _ (by omega))) fun r m h => h.1))) ?_)
    exact boolEq (by rw [hc, Bool.true_and])
  · have hc : ax5 p T Z i j = false := by rw [← he]; exact hc
    exact boolEq (by rw [hc, Bool.false_and])

theorem hasLeftAntipode_s (i j : Int) : Spec Try.prog 83 [hopV p n U T Z C S, .int .i64 i, .int .i64 j] [] (Ret (.bool (ax6B p n U T Z C S))) := by
  have hn := hV.a.hn
  have hp := hV.a.hp
  refine Spec.ret rfl (Spec.of_vc tabOK tabEq Try.func83 rfl (by kernel_rfl) rfl rfl ?_)
  refine Exists.intro 6 (And.intro (by kernel_rfl) ?_)
  refine Exists.intro (algV p n Z C) (And.intro (And.intro rfl (And.intro rfl (Spec.mono (coalgebraOf_s p n U T Z C S) fun r m h => h.1))) ?_)
  refine Exists.intro (algV p n U T) (And.intro (And.intro rfl (And.intro rfl (Spec.mono (algebraOf_s p n U T Z C S) fun r m h => h.1))) ?_)
  (repeat (first | refine And.intro (by omega) ?_ | refine And.intro ⟨by omega, by omega⟩ ?_))
  refine Exists.intro 16 (And.intro (by kernel_rfl) ?_)
  (repeat (first | refine And.intro (by omega) ?_ | refine And.intro ⟨by omega, by omega⟩ ?_))
  refine Exists.intro (.ints .u8 64 (idF n)) (And.intro (And.intro rfl (And.intro rfl (Spec.mono (identity_s n hn) fun r m h => h.1))) ?_)
  refine Exists.intro (.ints .u8 64 (convF p n T C S (idF n))) (And.intro (And.intro rfl (And.intro rfl (Spec.mono (convolution_s p n n Z C U T _ _ hp hn hV.hC hV.hT (fun q hq => hV.hS _ (by omega)) (idF_u8 n 64)) fun r m h => h.1))) ?_)
  (repeat (first | refine And.intro (by omega) ?_ | refine And.intro ⟨by omega, by omega⟩ ?_))
  refine Exists.intro (.ints .u8 64 (tenF p Z U)) (And.intro (And.intro rfl (And.intro rfl (Spec.mono (tensor_s p _ _ hp (fun q hq => hV.hZ _ (by omega)) (fun q hq => hV.hU _ (by omega))) fun r m h => h.1))) ?_)
  exact boolEq rfl

theorem hasRightAntipode_s (i j : Int) : Spec Try.prog 84 [hopV p n U T Z C S, .int .i64 i, .int .i64 j] [] (Ret (.bool (ax7B p n U T Z C S))) := by
  have hn := hV.a.hn
  have hp := hV.a.hp
  refine Spec.ret rfl (Spec.of_vc tabOK tabEq Try.func84 rfl (by kernel_rfl) rfl rfl ?_)
  refine Exists.intro 6 (And.intro (by kernel_rfl) ?_)
  refine Exists.intro (algV p n Z C) (And.intro (And.intro rfl (And.intro rfl (Spec.mono (coalgebraOf_s p n U T Z C S) fun r m h => h.1))) ?_)
  refine Exists.intro (algV p n U T) (And.intro (And.intro rfl (And.intro rfl (Spec.mono (algebraOf_s p n U T Z C S) fun r m h => h.1))) ?_)
  (repeat (first | refine And.intro (by omega) ?_ | refine And.intro ⟨by omega, by omega⟩ ?_))
  refine Exists.intro 16 (And.intro (by kernel_rfl) ?_)
  refine Exists.intro (.ints .u8 64 (idF n)) (And.intro (And.intro rfl (And.intro rfl (Spec.mono (identity_s n hn) fun r m h => h.1))) ?_)
  (repeat (first | refine And.intro (by omega) ?_ | refine And.intro ⟨by omega, by omega⟩ ?_))
  refine Exists.intro (.ints .u8 64 (convF p n T C (idF n) S)) (And.intro (And.intro rfl (And.intro rfl (Spec.mono (convolution_s p n n Z C U T _ _ hp hn hV.hC hV.hT (idF_u8 n 64) (fun q hq => hV.hS _ (by omega))) fun r m h => h.1))) ?_)
  (repeat (first | refine And.intro (by omega) ?_ | refine And.intro ⟨by omega, by omega⟩ ?_))
  refine Exists.intro (.ints .u8 64 (tenF p Z U)) (And.intro (And.intro rfl (And.intro rfl (Spec.mono (tensor_s p _ _ hp (fun q hq => hV.hZ _ (by omega)) (fun q hq => hV.hU _ (by omega))) fun r m h => h.1))) ?_)
  exact boolEq rfl

theorem axiom1_s (i j : Int) : Spec Try.prog 76 [hopV p n U T Z C S, .int .i64 i, .int .i64 j] [] (Ret (.bool (algB p n U T))) := by
  refine Spec.ret rfl (Spec.of_vc tabOK tabEq Try.func76 rfl (by kernel_rfl) rfl rfl ?_)
  refine And.intro trivial (Spec.mono (algebraOf_s p n U T Z C S) ?_)
  rintro r m ⟨rfl, rfl⟩
  refine And.intro trivial (Spec.mono (isAlgebra_s p n U T hV.hU hV.hT) ?_)
  rintro r m ⟨rfl, rfl⟩
  exact boolEq rfl
theorem axiom2_s (i j : Int) : Spec Try.prog 78 [hopV p n U T Z C S, .int .i64 i, .int .i64 j] [] (Ret (.bool (coB p n Z C))) := by
  refine Spec.ret rfl (Spec.of_vc tabOK tabEq Try.func78 rfl (by kernel_rfl) rfl rfl ?_)
  refine And.intro trivial (Spec.mono (coalgebraOf_s p n U T Z C S) ?_)
  rintro r m ⟨rfl, rfl⟩
  refine And.intro trivial (Spec.mono (implIsCo_s p n Z C hV.hZ hV.hC) ?_)
  rintro r m ⟨rfl, rfl⟩
  exact boolEq rfl
end

/-! ### the search -/
/-- whether the condition of the number k + 1 holds for i and j -/
def holdAt (p : Int) (n : Nat) (U T Z C S : Nat → Int) (k i j : Nat) : Bool :=
  match k with
  | 0 => algB p n U T
  | 1 => coB p n Z C
  | 2 => ax3 p T C i j
  | 3 => ax4B p U C
  | 4 => ax5 p T Z i j && (cnt p Z U == 1)
  | 5 => ax6B p n U T Z C S
  | _ => ax7B p n U T Z C S
def axPair (k : Nat) : Bool := match k with | 2 => true | 4 => true | _ => false
def axFn (k : Nat) : Nat :=
  match k with
  | 0 => 76
  | 1 => 78
  | 2 => 80
  | 3 => 81
  | 4 => 82
  | 5 => 83
  | _ => 84
def axV (k : Nat) : SV := .pair (.bool (axPair k)) (.pair (.fn (axFn k)) .unit)
def axsV : SV := .pair (axV 0) (.pair (axV 1) (.pair (axV 2) (.pair (axV 3) (.pair (axV 4) (.pair (axV 5) (.pair (axV 6) .unit))))))
theorem axR (k : Nat) : SV.eqv (axV k) (axV k) := And.intro rfl (And.intro rfl rfl)
theorem axsR : SV.eqv axsV axsV := And.intro (axR 0) (And.intro (axR 1) (And.intro (axR 2) (And.intro (axR 3) (And.intro (axR 4) (And.intro (axR 5) (And.intro (axR 6) rfl))))))
theorem axs_at : ∀ k, k < 7 → axsV.fieldOf k = some (axV k, 2 * k) := by
  intro k hk
  match k, hk with
  | 0, _ => rfl
  | 1, _ => rfl
  | 2, _ => rfl
  | 3, _ => rfl
  | 4, _ => rfl
  | 5, _ => rfl
  | 6, _ => rfl
  | k + 7, h => omega
theorem holdAt_pair {p : Int} {n : Nat} {U T Z C S : Nat → Int} {k : Nat} (h : axPair k = false) (i j i' j' : Nat) : holdAt p n U T Z C S k i j = holdAt p n U T Z C S k i' j' := by
  unfold holdAt
  match k, h with
  | 0, _ => rfl
  | 1, _ => rfl
  | 2, h => cases h
  | 3, _ => rfl
  | 4, h => cases h
  | 5, _ => rfl
  | k + 6, _ => rfl
theorem hold_s {p : Int} {n : Nat} {U T Z C S : Nat → Int} (hV : HV p n U T Z C S) (k i j : Nat) (hk : k < 7) (hi : i < n) (hj : j < n) :
    Spec Try.prog (axFn k) [hopV p n U T Z C S, .int .i64 i, .int .i64 j] [] (Ret (.bool (holdAt p n U T Z C S k i j))) := by
  match k, hk with
  | 0, _ => exact axiom1_s p n U T Z C S hV i j
  | 1, _ => exact axiom2_s p n U T Z C S hV i j
  | 2, _ => exact keepsProduct_s p n U T Z C S hV i j hi hj
  | 3, _ => exact keepsUnit_s p n U T Z C S hV i j
  | 4, _ => exact hasCounitOfProduct_s p n U T Z C S hV i j hi hj
  | 5, _ => exact hasLeftAntipode_s p n U T Z C S hV i j
  | 6, _ => exact hasRightAntipode_s p n U T Z C S hV i j
  | k + 7, h => omega

/-- the number of the first condition that fails is r, or r is 0 -/
def failsAt (p : Int) (n : Nat) (U T Z C S : Nat → Int) (r : Nat) : Prop :=
  (r = 0 ∧ ∀ k, k < 7 → all2 n (holdAt p n U T Z C S k) = true) ∨ (∃ k, r = k + 1 ∧ k < 7 ∧ all2 n (holdAt p n U T Z C S k) = false ∧ ∀ k', k' < k → all2 n (holdAt p n U T Z C S k') = true)
theorem fails_one {p : Int} {n : Nat} {U T Z C S : Nat → Int} {r r' : Nat} (h : failsAt p n U T Z C S r) (h' : failsAt p n U T Z C S r') : r = r' := by
  rcases h with ⟨rfl, h⟩ | ⟨k, rfl, hk, h1, h2⟩
  · rcases h' with ⟨rfl, h'⟩ | ⟨k, rfl, hk, h1, h2⟩
    · rfl
    · rw [h k hk] at h1; cases h1
  · rcases h' with ⟨rfl, h'⟩ | ⟨k', rfl, hk', h1', h2'⟩
    · rw [h' k hk] at h1; cases h1
    · rcases Nat.lt_trichotomy k k' with h | h | h
      · rw [h2' k h] at h1; cases h1
      · rw [h]
      · rw [h2 k' h] at h1'; cases h1'

theorem failingAxiom_q (p : Int) (n : Nat) (U T Z C S : Nat → Int) (hV : HV p n U T Z C S) :
    Spec Try.prog 56 [hopV p n U T Z C S] [] (fun r _ => ∃ x : Nat, r = .int .i64 x ∧ failsAt p n U T Z C S x) := by
  have hn := hV.a.hn
  have hn1 := hV.n1
  refine (Spec.of_vc tabOK tabEq Try.func56 rfl (by kernel_rfl) rfl rfl ?_)
  refine LoopVC.of (fun x : Nat => x ≤ 7 ∧ ∀ k, k < x → all2 n (holdAt p n U T Z C S k) = true) (fun x => [(1, .ptr 0 [] 0 0), (16, axsV), (17, .int .i64 x)]) (fun _ => [some (hopV p n U T Z C S, 1106), none]) (fun x => 7 - x) 0 ⟨by omega, fun k hk => by omega⟩ ?_ ?_ ?_
  · exact And.intro rfl (And.intro axsR (And.intro rfl trivial))
  · exact And.intro (And.intro (hopR p n U T Z C S) rfl) trivial
  · rintro x ⟨hx, hall⟩
    refine ifVC_split (fun h => ?_) (fun h => ?_)
    · have hlt := of_decide_eq_true h
      have hxl : x < 7 := by omega
      refine And.intro ⟨by omega, by omega⟩ (Exists.intro (axV x) (Exists.intro (2 * x) (And.intro (by rw [Int.toNat_natCast]; exact axs_at x hxl) ?_)))
      refine LoopVC.of (fun i : Nat => i ≤ n ∧ (axPair x = true ∨ i = 0) ∧ ∀ a b, a < i → b < n → holdAt p n U T Z C S x a b = true) (fun i => [(1, .ptr 0 [] 0 0), (4, .int .i64 x), (5, .ptr 2 [] 0 0), (16, axsV), (17, .int .i64 x), (22, .int .i64 n), (23, .int .i64 i)])
        (fun _ => [some (hopV p n U T Z C S, 1106), none, some (axV x, 2)]) (fun i => n - i) 0 ⟨by omega, .inr rfl, fun a b ha => by omega⟩ ?_ ?_ ?_
      · exact And.intro rfl (And.intro rfl (And.intro rfl (And.intro axsR (And.intro rfl (And.intro rfl (And.intro rfl trivial))))))
      · exact And.intro (And.intro (hopR p n U T Z C S) rfl) (And.intro (And.intro (And.intro rfl (And.intro rfl rfl)) rfl) trivial)
      · rintro i ⟨hi, hpi, halli⟩
        refine ifVC_split (fun h => ?_) (fun h => ?_)
        · have hlti := of_decide_eq_true h
          refine LoopVC.of (fun j : Nat => j ≤ n ∧ (axPair x = true ∨ j = 0) ∧ ∀ b, b < j → holdAt p n U T Z C S x i b = true) (fun j => [(1, .ptr 0 [] 0 0), (4, .int .i64 x), (5, .ptr 2 [] 0 0), (6, .int .i64 i), (16, axsV), (17, .int .i64 x), (22, .int .i64 n), (23, .int .i64 i), (27, .int .i64 n), (28, .int .i64 j)])
            (fun _ => [some (hopV p n U T Z C S, 1106), none, some (axV x, 2)]) (fun j => n - j) 0 ⟨by omega, .inr rfl, fun b hb => by omega⟩ ?_ ?_ ?_
          · exact And.intro rfl (And.intro rfl (And.intro rfl (And.intro rfl (And.intro axsR (And.intro rfl (And.intro rfl (And.intro rfl (And.intro rfl (And.intro rfl trivial)))))))))
          · exact And.intro (And.intro (hopR p n U T Z C S) rfl) (And.intro (And.intro (And.intro rfl (And.intro rfl rfl)) rfl) trivial)
          · rintro j ⟨hj, hpj, hallj⟩
            refine ifVC_split (fun h => ?_) (fun h => ?_)
            · have hltj := of_decide_eq_true h
              refine And.intro trivial (Spec.mono (hold_s hV x i j hxl (by omega) (by omega)) ?_)
              rintro r m ⟨rfl, rfl⟩
              refine ifVC_split (fun hc => ?_) (fun hc => ?_)
              · have hc : holdAt p n U T Z C S x i j = false := by simpa using hc
                refine Exists.intro (x + 1) (And.intro ?_ (.inr ⟨x, rfl, hxl, all2_no (by omega) (by omega) hc, hall⟩))
                exact congrArg (SV.int .i64) (wrapS (by omega))
              · have hc : holdAt p n U T Z C S x i j = true := by simpa using hc
                refine ifVC_split (fun hd => ?_) (fun hd => ?_)
                · have hd : axPair x = false := by simpa using hd
                  refine Exists.intro (x + 1) (And.intro ⟨by omega, fun k hk => ?_⟩ (And.intro (by omega) (And.intro (And.intro rfl (And.intro axsR (And.intro (slotI (wrapS (by omega))) trivial))) (And.intro (And.intro (hopR p n U T Z C S) rfl) trivial))))
                  by_cases hkx : k = x
                  · subst hkx
                    exact all2_yes fun a b _ _ => by rw [holdAt_pair hd a b i j]; exact hc
                  · exact hall k (by omega)
                · have hd : axPair x = true := by simpa using hd
                  refine Exists.intro (j + 1) (And.intro ⟨by omega, .inl hd, fun b hb => ?_⟩ (And.intro (by omega) (And.intro (And.intro rfl (And.intro rfl (And.intro rfl (And.intro rfl (And.intro axsR (And.intro rfl (And.intro rfl (And.intro rfl (And.intro rfl (And.intro (slotI (wrapS (by omega))) trivial)))))))))) (And.intro (And.intro (hopR p n U T Z C S) rfl) (And.intro (And.intro (And.intro rfl (And.intro rfl rfl)) rfl) trivial)))))
                  by_cases hbj : b = j
                  · subst hbj; exact hc
                  · exact hallj b (by omega)
            · have hge := of_decide_eq_false h
              have hjn : j = n := by omega
              have hd : axPair x = true := by
                rcases hpj with h | h
                · exact h
                · omega
              refine Exists.intro (i + 1) (And.intro ⟨by omega, .inl hd, fun a b ha hb => ?_⟩ (And.intro (by omega) (And.intro (And.intro rfl (And.intro rfl (And.intro rfl (And.intro axsR (And.intro rfl (And.intro rfl (And.intro (slotI (wrapS (by omega))) trivial))))))) (And.intro (And.intro (hopR p n U T Z C S) rfl) (And.intro (And.intro (And.intro rfl (And.intro rfl rfl)) rfl) trivial)))))
              by_cases hai : a = i
              · subst hai; exact hallj b (by omega)
              · exact halli a b (by omega) hb
        · have hge := of_decide_eq_false h
          have hin : i = n := by omega
          refine Exists.intro (x + 1) (And.intro ⟨by omega, fun k hk => ?_⟩ (And.intro (by omega) (And.intro (And.intro rfl (And.intro axsR (And.intro (slotI (wrapS (by omega))) trivial))) (And.intro (And.intro (hopR p n U T Z C S) rfl) trivial))))
          by_cases hkx : k = x
          · subst hkx
            exact all2_yes fun a b ha hb => halli a b (by omega) hb
          · exact hall k (by omega)
    · have hge := of_decide_eq_false h
      have hx7 : x = 7 := by omega
      exact Exists.intro 0 (And.intro rfl (.inl ⟨rfl, fun k hk => hall k (by omega)⟩))

/-- the number of the first condition that fails, or 0 -/
def failN (p : Int) (n : Nat) (U T Z C S : Nat → Int) : Nat :=
  if algB p n U T = false then 1 else if coB p n Z C = false then 2 else if all2 n (ax3 p T C) = false then 3 else if ax4B p U C = false then 4
  else if (all2 n (ax5 p T Z) && (cnt p Z U == 1)) = false then 5 else if ax6B p n U T Z C S = false then 6 else if ax7B p n U T Z C S = false then 7 else 0

theorem all2_const {n : Nat} (hn : 1 ≤ n) (b : Bool) : all2 n (fun _ _ => b) = b := by
  cases b with
  | false => exact all2_no (i := 0) (j := 0) (by omega) (by omega) rfl
  | true => exact all2_yes fun _ _ _ _ => rfl
theorem all2_and {n : Nat} (hn : 1 ≤ n) (f : Nat → Nat → Bool) (b : Bool) : all2 n (fun i j => f i j && b) = (all2 n f && b) := by
  cases b with
  | false => rw [Bool.and_false]; exact all2_no (i := 0) (j := 0) (by omega) (by omega) (by simp)
  | true => simp
theorem fails_is {p : Int} {n : Nat} {U T Z C S : Nat → Int} (hn : 1 ≤ n) : failsAt p n U T Z C S (failN p n U T Z C S) := by
  have e0 : all2 n (holdAt p n U T Z C S 0) = algB p n U T := all2_const hn _
  have e1 : all2 n (holdAt p n U T Z C S 1) = coB p n Z C := all2_const hn _
  have e2 : all2 n (holdAt p n U T Z C S 2) = all2 n (ax3 p T C) := rfl
  have e3 : all2 n (holdAt p n U T Z C S 3) = ax4B p U C := all2_const hn _
  have e4 : all2 n (holdAt p n U T Z C S 4) = (all2 n (ax5 p T Z) && (cnt p Z U == 1)) := all2_and hn _ _
  have e5 : all2 n (holdAt p n U T Z C S 5) = ax6B p n U T Z C S := all2_const hn _
  have e6 : all2 n (holdAt p n U T Z C S 6) = ax7B p n U T Z C S := all2_const hn _
  have pre : ∀ m, (∀ k, k < m → all2 n (holdAt p n U T Z C S k) = true) → all2 n (holdAt p n U T Z C S m) = true → ∀ k, k < m + 1 → all2 n (holdAt p n U T Z C S k) = true := fun m h1 h2 k hk => by
    by_cases hkm : k = m
    · subst hkm; exact h2
    · exact h1 k (by omega)
  have p0 : ∀ k, k < 0 → all2 n (holdAt p n U T Z C S k) = true := fun k hk => by omega
  unfold failN
  by_cases h0 : algB p n U T = false
  · rw [if_pos h0]; exact .inr ⟨0, rfl, by omega, by rw [e0]; exact h0, p0⟩
  rw [if_neg h0]
  have p1 := pre 0 p0 (by rw [e0]; simpa using h0)
  by_cases h1 : coB p n Z C = false
  · rw [if_pos h1]; exact .inr ⟨1, rfl, by omega, by rw [e1]; exact h1, p1⟩
  rw [if_neg h1]
  have p2 := pre 1 p1 (by rw [e1]; simpa using h1)
  by_cases h2 : all2 n (ax3 p T C) = false
  · rw [if_pos h2]; exact .inr ⟨2, rfl, by omega, by rw [e2]; exact h2, p2⟩
  rw [if_neg h2]
  have p3 := pre 2 p2 (by rw [e2]; simpa using h2)
  by_cases h3 : ax4B p U C = false
  · rw [if_pos h3]; exact .inr ⟨3, rfl, by omega, by rw [e3]; exact h3, p3⟩
  rw [if_neg h3]
  have p4 := pre 3 p3 (by rw [e3]; simpa using h3)
  by_cases h4 : (all2 n (ax5 p T Z) && (cnt p Z U == 1)) = false
  · rw [if_pos h4]; exact .inr ⟨4, rfl, by omega, by rw [e4]; exact h4, p4⟩
  rw [if_neg h4]
  have p5 := pre 4 p4 (by rw [e4]; simpa using h4)
  by_cases h5 : ax6B p n U T Z C S = false
  · rw [if_pos h5]; exact .inr ⟨5, rfl, by omega, by rw [e5]; exact h5, p5⟩
  rw [if_neg h5]
  have p6 := pre 5 p5 (by rw [e5]; simpa using h5)
  by_cases h6 : ax7B p n U T Z C S = false
  · rw [if_pos h6]; exact .inr ⟨6, rfl, by omega, by rw [e6]; exact h6, p6⟩
  rw [if_neg h6]
  exact .inl ⟨rfl, pre 6 p6 (by rw [e6]; simpa using h6)⟩

theorem failingAxiom_s (p : Int) (n : Nat) (U T Z C S : Nat → Int) (hV : HV p n U T Z C S) :
    Spec Try.prog 56 [hopV p n U T Z C S] [] (Ret (.int .i64 (failN p n U T Z C S))) :=
  Spec.ret rfl (Spec.mono (failingAxiom_q p n U T Z C S hV) fun r m ⟨x, hr, hx⟩ => by
    subst hr
    exact slotI (by rw [fails_one hx (fails_is hV.n1)]))

/-- whether it is a Hopf algebra -/
def hopB (p n : Int) (U T Z C S : Nat → Int) : Bool := hshB p n U T Z C S && (failN p n.toNat U T Z C S == 0)

theorem isHopf_s (p n : Int) (U T Z C S : Nat → Int) (hU : isU8 8 U) (hT : isU8 512 T) (hZ : isU8 8 Z) (hC : isU8 512 C) (hS : isU8 64 S) :
    Spec Try.prog 39 [hopV p n U T Z C S] [] (Ret (.bool (hopB p n U T Z C S))) := by
  refine Spec.ret rfl (Spec.of_vc tabOK tabEq Try.func39 rfl (by kernel_rfl) rfl rfl ?_)
  refine And.intro trivial (Spec.mono (isShapedHopf_s p n U T Z C S hU hT hZ hC hS) ?_)
  rintro r m ⟨rfl, rfl⟩
  refine ifVC_split (fun h => ?_) (fun h => ?_)
  · obtain ⟨n, rfl, hV⟩ := hsh_valid hU hT hZ hC hS h
    refine And.intro trivial (Spec.mono (failingAxiom_s p n U T Z C S hV) ?_)
    rintro r m ⟨rfl, rfl⟩
    refine boolEq ?_
    unfold hopB
    rw [h, Bool.true_and, Int.toNat_natCast, Bool.eq_iff_iff, beq_iff_eq, beq_iff_eq]
    omega
  · exact boolEq (by unfold hopB; rw [h]; rfl)
end Go.Proofs.Ytegcfjfhpodlmaa
