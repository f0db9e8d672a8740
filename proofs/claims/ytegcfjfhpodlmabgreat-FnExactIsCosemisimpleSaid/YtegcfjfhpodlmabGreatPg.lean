/- Texts in one: Hop3, Hop4, Hop5, Hop6, Hop6c, Intg, LS, Bri, Intm, Intp, Intl, LSD. -/
import Derived.Test.YtegcfjfhpodlmabGreatPf
import Derived.Test.YtegcfjfhpodlmabGreatPe
set_option linter.unusedSimpArgs false
set_option linter.unusedVariables false
set_option linter.unusedSectionVars false
/- The axioms of Hopf algebras, as the program checks them, and the search for the first that fails. -/
set_option linter.unusedVariables false
set_option linter.unusedSimpArgs false
set_option maxRecDepth 100000
set_option maxHeartbeats 1000000
namespace Go.Proofs.YtegcfjfhpodlmabGreat
open M

def ax3 (p : Int) (T C : Nat → Int) (i j : Nat) : Bool := allEq 64 (leftT p C (vecT T i j)) (pairsF p T (partF C 64 i) (partF C 64 j))
def ax4B (p : Int) (U C : Nat → Int) : Bool := allEq 64 (leftT p C U) (tenF p U U)
def ax5 (p : Int) (T Z : Nat → Int) (i j : Nat) : Bool := cnt p Z (vecT T i j) == Z i * Z j % p
def ax6B (p : Int) (n : Nat) (U T Z C S : Nat → Int) : Bool := allEq 64 (convF p n T C S (idF n)) (tenF p Z U)
def ax7B (p : Int) (n : Nat) (U T Z C S : Nat → Int) : Bool := allEq 64 (convF p n T C (idF n) S) (tenF p Z U)
def all2 (n : Nat) (f : Nat → Nat → Bool) : Bool := (List.range n).all fun i => (List.range n).all (f i)
theorem all2_yes {n : Nat} {f : Nat → Nat → Bool} (h : ∀ i j, i < n → j < n → f i j = true) : all2 n f = true :=
  List.all_eq_true.2 fun i hi => List.all_eq_true.2 fun j hj => h i j (List.mem_range.1 hi) (List.mem_range.1 hj)
theorem all2_get {n : Nat} {f : Nat → Nat → Bool} (h : all2 n f = true) {i j : Nat} (hi : i < n) (hj : j < n) : f i j = true :=
  List.all_eq_true.1 (List.all_eq_true.1 h i (List.mem_range.2 hi)) j (List.mem_range.2 hj)
theorem all2_no {n : Nat} {f : Nat → Nat → Bool} {i j : Nat} (hi : i < n) (hj : j < n) (h : f i j = false) : all2 n f = false := by
  cases hb : all2 n f with
  | false => rfl
  | true => rw [all2_get hb hi hj] at h; cases h

theorem vec_is (T : Nat → Int) (i j : Nat) {a b : Nat} (ha : a = i) (hb : b = j) : (fun m => T (m + (b * 8 + (a * 64 + 0)))) = vecT T i j := by
  subst ha; subst hb; rfl
theorem row_is (C : Nat → Int) (i : Nat) {a : Nat} (ha : a = i) : (fun m => C (m + (a * 64 + 0))) = partF C 64 i := by
  subst ha; rfl
theorem part_u8 {n m k i : Nat} {F : Nat → Int} (h : isU8 n F) (hk : i * m + k ≤ n) : isU8 k (partF F m i) := fun j hj => h _ (by omega)
theorem vecT_u8 {T : Nat → Int} (hT : isU8 512 T) {i j : Nat} (hi : i < 8) (hj : j < 8) : isU8 8 (vecT T i j) := fun m hm => vec_u8 hT hi hj hm

section
variable (p : Int) (n : Nat) (U T Z C S : Nat → Int) (hV : HV p n U T Z C S)
include hV

theorem keepsProduct_s (i j : Nat) (hi : i < n) (hj : j < n) : Spec Tryz.prog 72 [hopV p n U T Z C S, .int .i64 i, .int .i64 j] [] (Ret (.bool (ax3 p T C i j))) := by
  have hn := hV.a.hn
  have hp := hV.a.hp
  have hidx : (i : Int).toNat = i := by omega
  have hjdx : (j : Int).toNat = j := by omega
  refine Spec.ret rfl (Spec.of_vc tabOK tabEq Tryz.func72 rfl (by kernel_rfl) rfl rfl ?_)
  refine Exists.intro 12 (And.intro (by kernel_rfl) ?_)
  refine Exists.intro (algV p n U T) (And.intro (And.intro rfl (And.intro rfl (Spec.mono (algebraOf_s p n U T Z C S) fun r m h => h.1))) ?_)
  (repeat (first | refine And.intro (by omega) ?_ | refine And.intro ⟨by omega, by omega⟩ ?_))
  refine Exists.intro (.ints .u8 64 (pairsF p T (partF C 64 i) (partF C 64 j))) (And.intro (And.intro rfl (And.intro rfl ?_)) ?_)
  · rw [row_is C i hidx, row_is C j hjdx]
    exact Spec.mono (productOfPairs_s p n U T _ _ hp hV.hT (part_u8 hV.hC (by omega)) (part_u8 hV.hC (by omega))) fun r m h => h.1
  (repeat (first | refine And.intro (by omega) ?_ | refine And.intro ⟨by omega, by omega⟩ ?_))
  refine Exists.intro 11 (And.intro (by kernel_rfl) ?_)
  refine Exists.intro (algV p n Z C) (And.intro (And.intro rfl (And.intro rfl (Spec.mono (coalgebraOf_s p n U T Z C S) fun r m h => h.1))) ?_)
  (repeat (first | refine And.intro (by omega) ?_ | refine And.intro ⟨by omega, by omega⟩ ?_))
  refine Exists.intro (.ints .u8 64 (leftT p C (vecT T i j))) (And.intro (And.intro rfl (And.intro rfl ?_)) ?_)
  · rw [vec_is T i j hidx hjdx]
    exact Spec.mono (coproduct_s p n Z C _ hp hV.hC (vecT_u8 hV.hT (by omega) (by omega))) fun r m h => h.1
  (repeat (first | refine And.intro (by omega) ?_ | refine And.intro ⟨by omega, by omega⟩ ?_))
  refine boolEq ?_
  refine allEq_congr (fun _ _ => rfl) fun q hq => ?_
  show updR _ 0 64 _ (q + 0) = _
  simp [updR, hq]

theorem keepsUnit_s (i j : Int) : Spec Tryz.prog 73 [hopV p n U T Z C S, .int .i64 i, .int .i64 j] [] (Ret (.bool (ax4B p U C))) := by
  have hp := hV.a.hp
  refine Spec.ret rfl (Spec.of_vc tabOK tabEq Tryz.func73 rfl (by kernel_rfl) rfl rfl ?_)
  refine Exists.intro 13 (And.intro (by kernel_rfl) ?_)
  refine Exists.intro (algV p n Z C) (And.intro (And.intro rfl (And.intro rfl (Spec.mono (coalgebraOf_s p n U T Z C S) fun r m h => h.1))) ?_)
  (repeat (first | refine And.intro (by omega) ?_ | refine And.intro ⟨by omega, by omega⟩ ?_))
  refine Exists.intro (.ints .u8 64 (leftT p C U)) (And.intro (And.intro rfl (And.intro rfl (Spec.mono (coproduct_s p n Z C _ hp hV.hC (fun q hq => hV.hU _ (by omega))) fun r m h => h.1))) ?_)
  (repeat (first | refine And.intro (by omega) ?_ | refine And.intro ⟨by omega, by omega⟩ ?_))
  refine Exists.intro (.ints .u8 64 (tenF p U U)) (And.intro (And.intro rfl (And.intro rfl (Spec.mono (tensor_s p _ _ hp (fun q hq => hV.hU _ (by omega)) (fun q hq => hV.hU _ (by omega))) fun r m h => h.1))) ?_)
  exact boolEq rfl

theorem hasCounitOfProduct_s (i j : Nat) (hi : i < n) (hj : j < n) : Spec Tryz.prog 74 [hopV p n U T Z C S, .int .i64 i, .int .i64 j] [] (Ret (.bool (ax5 p T Z i j && (cnt p Z U == 1)))) := by
  have hn := hV.a.hn
  have hp := hV.a.hp
  have hidx : (i : Int).toNat = i := by omega
  have hjdx : (j : Int).toNat = j := by omega
  refine Spec.ret rfl (Spec.of_vc tabOK tabEq Tryz.func74 rfl (by kernel_rfl) rfl rfl ?_)
  refine Exists.intro 15 (And.intro (by kernel_rfl) ?_)
  refine Exists.intro (algV p n Z C) (And.intro (And.intro rfl (And.intro rfl (Spec.mono (coalgebraOf_s p n U T Z C S) fun r m h => h.1))) ?_)
  (repeat (first | refine And.intro (by omega) ?_ | refine And.intro ⟨by omega, by omega⟩ ?_))
  refine Exists.intro 20 (And.intro (by kernel_rfl) ?_)
  (repeat (first | refine And.intro (by omega) ?_ | refine And.intro ⟨by omega, by omega⟩ ?_))
  refine Exists.intro (.int .i64 (cnt p Z (vecT T i j))) (And.intro (And.intro rfl (And.intro rfl ?_)) ?_)
  · rw [vec_is T i j hidx hjdx]
    exact Spec.mono (counit_s p n Z C _ hp hV.hZ (vecT_u8 hV.hT (by omega) (by omega))) fun r m h => h.1
  (repeat (first | refine And.intro (by omega) ?_ | refine And.intro ⟨by omega, by omega⟩ ?_))
  have zi := hV.hZ i (by omega)
  have zj := hV.hZ j (by omega)
  have zz := mulB zi zj
  have hb : IntKind.i64.wrap (IntKind.i64.wrap (Z ((i : Int).toNat * 1 + 0)) * IntKind.i64.wrap (Z ((j : Int).toNat * 1 + 0))) = Z i * Z j := by
    rw [show (i : Int).toNat * 1 + 0 = i by omega, show (j : Int).toNat * 1 + 0 = j by omega, wrapI (x := Z i) (by omega), wrapI (x := Z j) (by omega), wrapI (by omega)]
  have he : (cnt p Z (vecT T i j) == (IntKind.i64.wrap (IntKind.i64.wrap (Z ((i : Int).toNat * 1 + 0)) * IntKind.i64.wrap (Z ((j : Int).toNat * 1 + 0)))).tmod p) = ax5 p T Z i j := by
    rw [hb, Int.tmod_eq_emod_of_nonneg zz.1]
    rfl
  refine ifVC_split (fun hc => ?_) (fun hc => ?_)
  · have hc : ax5 p T Z i j = true := by rw [← he]; exact hc
    (repeat (first | refine And.intro (by omega) ?_ | refine And.intro ⟨by omega, by omega⟩ ?_))
    refine Exists.intro (.int .i64 (cnt p Z U)) (And.intro (And.intro rfl (And.intro rfl (Spec.mono (counit_s p n Z C _ hp hV.hZ (fun q hq => hV.hU _ (by omega))) fun r m h => h.1))) ?_)
    exact boolEq (by rw [hc, Bool.true_and])
  · have hc : ax5 p T Z i j = false := by rw [← he]; exact hc
    exact boolEq (by rw [hc, Bool.false_and])

theorem hasLeftAntipode_s (i j : Int) : Spec Tryz.prog 75 [hopV p n U T Z C S, .int .i64 i, .int .i64 j] [] (Ret (.bool (ax6B p n U T Z C S))) := by
  have hn := hV.a.hn
  have hp := hV.a.hp
  refine Spec.ret rfl (Spec.of_vc tabOK tabEq Tryz.func75 rfl (by kernel_rfl) rfl rfl ?_)
  refine Exists.intro 6 (And.intro (by kernel_rfl) ?_)
  refine Exists.intro (algV p n Z C) (And.intro (And.intro rfl (And.intro rfl (Spec.mono (coalgebraOf_s p n U T Z C S) fun r m h => h.1))) ?_)
  refine Exists.intro (algV p n U T) (And.intro (And.intro rfl (And.intro rfl (Spec.mono (algebraOf_s p n U T Z C S) fun r m h => h.1))) ?_)
  (repeat (first | refine And.intro (by omega) ?_ | refine And.intro ⟨by omega, by omega⟩ ?_))
  refine Exists.intro 16 (And.intro (by kernel_rfl) ?_)
  (repeat (first | refine And.intro (by omega) ?_ | refine And.intro ⟨by omega, by omega⟩ ?_))
  refine Exists.intro (.ints .u8 64 (idF n)) (And.intro (And.intro rfl (And.intro rfl (Spec.mono (identity_s n hn) fun r m h => h.1))) ?_)
  refine Exists.intro (.ints .u8 64 (convF p n T C S (idF n))) (And.intro (And.intro rfl (And.intro rfl (Spec.mono (convolution_s p n n Z C U T _ _ hp hn hV.hC hV.hT (fun q hq => hV.hS _ (by omega)) (idF_u8 n 64)) fun r m h => h.1))) ?_)
  (repeat (first | refine And.intro (by omega) ?_ | refine And.intro ⟨by omega, by omega⟩ ?_))
  refine Exists.intro (.ints .u8 64 (tenF p Z U)) (And.intro (And.intro rfl (And.intro rfl (Spec.mono (tensor_s p _ _ hp (fun q hq => hV.hZ _ (by omega)) (fun q hq => hV.hU _ (by omega))) fun r m h => h.1))) ?_)
  exact boolEq rfl

theorem hasRightAntipode_s (i j : Int) : Spec Tryz.prog 76 [hopV p n U T Z C S, .int .i64 i, .int .i64 j] [] (Ret (.bool (ax7B p n U T Z C S))) := by
  have hn := hV.a.hn
  have hp := hV.a.hp
  refine Spec.ret rfl (Spec.of_vc tabOK tabEq Tryz.func76 rfl (by kernel_rfl) rfl rfl ?_)
  refine Exists.intro 6 (And.intro (by kernel_rfl) ?_)
  refine Exists.intro (algV p n Z C) (And.intro (And.intro rfl (And.intro rfl (Spec.mono (coalgebraOf_s p n U T Z C S) fun r m h => h.1))) ?_)
  refine Exists.intro (algV p n U T) (And.intro (And.intro rfl (And.intro rfl (Spec.mono (algebraOf_s p n U T Z C S) fun r m h => h.1))) ?_)
  (repeat (first | refine And.intro (by omega) ?_ | refine And.intro ⟨by omega, by omega⟩ ?_))
  refine Exists.intro 16 (And.intro (by kernel_rfl) ?_)
  refine Exists.intro (.ints .u8 64 (idF n)) (And.intro (And.intro rfl (And.intro rfl (Spec.mono (identity_s n hn) fun r m h => h.1))) ?_)
  (repeat (first | refine And.intro (by omega) ?_ | refine And.intro ⟨by omega, by omega⟩ ?_))
  refine Exists.intro (.ints .u8 64 (convF p n T C (idF n) S)) (And.intro (And.intro rfl (And.intro rfl (Spec.mono (convolution_s p n n Z C U T _ _ hp hn hV.hC hV.hT (idF_u8 n 64) (fun q hq => hV.hS _ (by omega))) fun r m h => h.1))) ?_)
  (repeat (first | refine And.intro (by omega) ?_ | refine And.intro ⟨by omega, by omega⟩ ?_))
  refine Exists.intro (.ints .u8 64 (tenF p Z U)) (And.intro (And.intro rfl (And.intro rfl (Spec.mono (tensor_s p _ _ hp (fun q hq => hV.hZ _ (by omega)) (fun q hq => hV.hU _ (by omega))) fun r m h => h.1))) ?_)
  exact boolEq rfl

theorem axiom1_s (i j : Int) : Spec Tryz.prog 68 [hopV p n U T Z C S, .int .i64 i, .int .i64 j] [] (Ret (.bool (algB p n U T))) := by
  refine Spec.ret rfl (Spec.of_vc tabOK tabEq Tryz.func68 rfl (by kernel_rfl) rfl rfl ?_)
  refine And.intro trivial (Spec.mono (algebraOf_s p n U T Z C S) ?_)
  rintro r m ⟨rfl, rfl⟩
  refine And.intro trivial (Spec.mono (isAlgebra_s p n U T hV.hU hV.hT) ?_)
  rintro r m ⟨rfl, rfl⟩
  exact boolEq rfl
theorem axiom2_s (i j : Int) : Spec Tryz.prog 70 [hopV p n U T Z C S, .int .i64 i, .int .i64 j] [] (Ret (.bool (coB p n Z C))) := by
  refine Spec.ret rfl (Spec.of_vc tabOK tabEq Tryz.func70 rfl (by kernel_rfl) rfl rfl ?_)
  refine And.intro trivial (Spec.mono (coalgebraOf_s p n U T Z C S) ?_)
  rintro r m ⟨rfl, rfl⟩
  refine And.intro trivial (Spec.mono (implIsCo_s p n Z C hV.hZ hV.hC) ?_)
  rintro r m ⟨rfl, rfl⟩
  exact boolEq rfl
end

/-! ### the search -/
/-- whether the condition of the number k + 1 holds for i and j -/
def holdAt (p : Int) (n : Nat) (U T Z C S : Nat → Int) (k i j : Nat) : Bool :=
  match k with
  | 0 => algB p n U T
  | 1 => coB p n Z C
  | 2 => ax3 p T C i j
  | 3 => ax4B p U C
  | 4 => ax5 p T Z i j && (cnt p Z U == 1)
  | 5 => ax6B p n U T Z C S
  | _ => ax7B p n U T Z C S
def axPair (k : Nat) : Bool := match k with | 2 => true | 4 => true | _ => false
def axFn (k : Nat) : Nat :=
  match k with
  | 0 => 68
  | 1 => 70
  | 2 => 72
  | 3 => 73
  | 4 => 74
  | 5 => 75
  | _ => 76
def axV (k : Nat) : SV := .pair (.bool (axPair k)) (.pair (.fn (axFn k)) .unit)
def axsV : SV := .pair (axV 0) (.pair (axV 1) (.pair (axV 2) (.pair (axV 3) (.pair (axV 4) (.pair (axV 5) (.pair (axV 6) .unit))))))
theorem axR (k : Nat) : SV.eqv (axV k) (axV k) := And.intro rfl (And.intro rfl rfl)
theorem axsR : SV.eqv axsV axsV := And.intro (axR 0) (And.intro (axR 1) (And.intro (axR 2) (And.intro (axR 3) (And.intro (axR 4) (And.intro (axR 5) (And.intro (axR 6) rfl))))))
theorem axs_at : ∀ k, k < 7 → axsV.fieldOf k = some (axV k, 2 * k) := by
  intro k hk
  match k, hk with
  | 0, _ => rfl
  | 1, _ => rfl
  | 2, _ => rfl
  | 3, _ => rfl
  | 4, _ => rfl
  | 5, _ => rfl
  | 6, _ => rfl
  | k + 7, h => omega
theorem holdAt_pair {p : Int} {n : Nat} {U T Z C S : Nat → Int} {k : Nat} (h : axPair k = false) (i j i' j' : Nat) : holdAt p n U T Z C S k i j = holdAt p n U T Z C S k i' j' := by
  unfold holdAt
  match k, h with
  | 0, _ => rfl
  | 1, _ => rfl
  | 2, h => cases h
  | 3, _ => rfl
  | 4, h => cases h
  | 5, _ => rfl
  | k + 6, _ => rfl
theorem hold_s {p : Int} {n : Nat} {U T Z C S : Nat → Int} (hV : HV p n U T Z C S) (k i j : Nat) (hk : k < 7) (hi : i < n) (hj : j < n) :
    Spec Tryz.prog (axFn k) [hopV p n U T Z C S, .int .i64 i, .int .i64 j] [] (Ret (.bool (holdAt p n U T Z C S k i j))) := by
  match k, hk with
  | 0, _ => exact axiom1_s p n U T Z C S hV i j
  | 1, _ => exact axiom2_s p n U T Z C S hV i j
  | 2, _ => exact keepsProduct_s p n U T Z C S hV i j hi hj
  | 3, _ => exact keepsUnit_s p n U T Z C S hV i j
  | 4, _ => exact hasCounitOfProduct_s p n U T Z C S hV i j hi hj
  | 5, _ => exact hasLeftAntipode_s p n U T Z C S hV i j
  | 6, _ => exact hasRightAntipode_s p n U T Z C S hV i j
  | k + 7, h => omega

/-- the number of the first condition that fails is r, or r is 0 -/
def failsAt (p : Int) (n : Nat) (U T Z C S : Nat → Int) (r : Nat) : Prop :=
  (r = 0 ∧ ∀ k, k < 7 → all2 n (holdAt p n U T Z C S k) = true) ∨ (∃ k, r = k + 1 ∧ k < 7 ∧ all2 n (holdAt p n U T Z C S k) = false ∧ ∀ k', k' < k → all2 n (holdAt p n U T Z C S k') = true)
theorem fails_one {p : Int} {n : Nat} {U T Z C S : Nat → Int} {r r' : Nat} (h : failsAt p n U T Z C S r) (h' : failsAt p n U T Z C S r') : r = r' := by
  rcases h with ⟨rfl, h⟩ | ⟨k, rfl, hk, h1, h2⟩
  · rcases h' with ⟨rfl, h'⟩ | ⟨k, rfl, hk, h1, h2⟩
    · rfl
    · rw [h k hk] at h1; cases h1
  · rcases h' with ⟨rfl, h'⟩ | ⟨k', rfl, hk', h1', h2'⟩
    · rw [h' k hk] at h1; cases h1
    · rcases Nat.lt_trichotomy k k' with h | h | h
      · rw [h2' k h] at h1; cases h1
      · rw [h]
      · rw [h2 k' h] at h1'; cases h1'

theorem failingAxiom_q (p : Int) (n : Nat) (U T Z C S : Nat → Int) (hV : HV p n U T Z C S) :
    Spec Tryz.prog 44 [hopV p n U T Z C S] [] (fun r _ => ∃ x : Nat, r = .int .i64 x ∧ failsAt p n U T Z C S x) := by
  have hn := hV.a.hn
  have hn1 := hV.n1
  refine (Spec.of_vc tabOK tabEq Tryz.func44 rfl (by kernel_rfl) rfl rfl ?_)
  refine LoopVC.of (fun x : Nat => x ≤ 7 ∧ ∀ k, k < x → all2 n (holdAt p n U T Z C S k) = true) (fun x => [(1, .ptr 0 [] 0 0), (16, axsV), (17, .int .i64 x)]) (fun _ => [some (hopV p n U T Z C S, 1106), none]) (fun x => 7 - x) 0 ⟨by omega, fun k hk => by omega⟩ ?_ ?_ ?_
  · exact And.intro rfl (And.intro axsR (And.intro rfl trivial))
  · exact And.intro (And.intro (hopR p n U T Z C S) rfl) trivial
  · rintro x ⟨hx, hall⟩
    refine ifVC_split (fun h => ?_) (fun h => ?_)
    · have hlt := of_decide_eq_true h
      have hxl : x < 7 := by omega
      refine And.intro ⟨by omega, by omega⟩ (Exists.intro (axV x) (Exists.intro (2 * x) (And.intro (by rw [Int.toNat_natCast]; exact axs_at x hxl) ?_)))
      refine LoopVC.of (fun i : Nat => i ≤ n ∧ (axPair x = true ∨ i = 0) ∧ ∀ a b, a < i → b < n → holdAt p n U T Z C S x a b = true) (fun i => [(1, .ptr 0 [] 0 0), (4, .int .i64 x), (5, .ptr 2 [] 0 0), (16, axsV), (17, .int .i64 x), (22, .int .i64 n), (23, .int .i64 i)])
        (fun _ => [some (hopV p n U T Z C S, 1106), none, some (axV x, 2)]) (fun i => n - i) 0 ⟨by omega, .inr rfl, fun a b ha => by omega⟩ ?_ ?_ ?_
      · exact And.intro rfl (And.intro rfl (And.intro rfl (And.intro axsR (And.intro rfl (And.intro rfl (And.intro rfl trivial))))))
      · exact And.intro (And.intro (hopR p n U T Z C S) rfl) (And.intro (And.intro (And.intro rfl (And.intro rfl rfl)) rfl) trivial)
      · rintro i ⟨hi, hpi, halli⟩
        refine ifVC_split (fun h => ?_) (fun h => ?_)
        · have hlti := of_decide_eq_true h
          refine LoopVC.of (fun j : Nat => j ≤ n ∧ (axPair x = true ∨ j = 0) ∧ ∀ b, b < j → holdAt p n U T Z C S x i b = true) (fun j => [(1, .ptr 0 [] 0 0), (4, .int .i64 x), (5, .ptr 2 [] 0 0), (6, .int .i64 i), (16, axsV), (17, .int .i64 x), (22, .int .i64 n), (23, .int .i64 i), (27, .int .i64 n), (28, .int .i64 j)])
            (fun _ => [some (hopV p n U T Z C S, 1106), none, some (axV x, 2)]) (fun j => n - j) 0 ⟨by omega, .inr rfl, fun b hb => by omega⟩ ?_ ?_ ?_
          · exact And.intro rfl (And.intro rfl (And.intro rfl (And.intro rfl (And.intro axsR (And.intro rfl (And.intro rfl (And.intro rfl (And.intro rfl (And.intro rfl trivial)))))))))
          · exact And.intro (And.intro (hopR p n U T Z C S) rfl) (And.intro (And.intro (And.intro rfl (And.intro rfl rfl)) rfl) trivial)
          · rintro j ⟨hj, hpj, hallj⟩
            refine ifVC_split (fun h => ?_) (fun h => ?_)
            · have hltj := of_decide_eq_true h
              refine And.intro trivial (Spec.mono (hold_s hV x i j hxl (by omega) (by omega)) ?_)
              rintro r m ⟨rfl, rfl⟩
              refine ifVC_split (fun hc => ?_) (fun hc => ?_)
              · have hc : holdAt p n U T Z C S x i j = false := by simpa using hc
                refine Exists.intro (x + 1) (And.intro ?_ (.inr ⟨x, rfl, hxl, all2_no (by omega) (by omega) hc, hall⟩))
                exact congrArg (SV.int .i64) (wrapS (by omega))
              · have hc : holdAt p n U T Z C S x i j = true := by simpa using hc
                refine ifVC_split (fun hd => ?_) (fun hd => ?_)
                · have hd : axPair x = false := by simpa using hd
                  refine Exists.intro (x + 1) (And.intro ⟨by omega, fun k hk => ?_⟩ (And.intro (by omega) (And.intro (And.intro rfl (And.intro axsR (And.intro (slotI (wrapS (by omega))) trivial))) (And.intro (And.intro (hopR p n U T Z C S) rfl) trivial))))
                  by_cases hkx : k = x
                  · subst hkx
                    exact all2_yes fun a b _ _ => by rw [holdAt_pair hd a b i j]; exact hc
                  · exact hall k (by omega)
                · have hd : axPair x = true := by simpa using hd
                  refine Exists.intro (j + 1) (And.intro ⟨by omega, .inl hd, fun b hb => ?_⟩ (And.intro (by omega) (And.intro (And.intro rfl (And.intro rfl (And.intro rfl (And.intro rfl (And.intro axsR (And.intro rfl (And.intro rfl (And.intro rfl (And.intro rfl (And.intro (slotI (wrapS (by omega))) trivial)))))))))) (And.intro (And.intro (hopR p n U T Z C S) rfl) (And.intro (And.intro (And.intro rfl (And.intro rfl rfl)) rfl) trivial)))))
                  by_cases hbj : b = j
                  · subst hbj; exact hc
                  · exact hallj b (by omega)
            · have hge := of_decide_eq_false h
              have hjn : j = n := by omega
              have hd : axPair x = true := by
                rcases hpj with h | h
                · exact h
                · omega
              refine Exists.intro (i + 1) (And.intro ⟨by omega, .inl hd, fun a b ha hb => ?_⟩ (And.intro (by omega) (And.intro (And.intro rfl (And.intro rfl (And.intro rfl (And.intro axsR (And.intro rfl (And.intro rfl (And.intro (slotI (wrapS (by omega))) trivial))))))) (And.intro (And.intro (hopR p n U T Z C S) rfl) (And.intro (And.intro (And.intro rfl (And.intro rfl rfl)) rfl) trivial)))))
              by_cases hai : a = i
              · subst hai; exact hallj b (by omega)
              · exact halli a b (by omega) hb
        · have hge := of_decide_eq_false h
          have hin : i = n := by omega
          refine Exists.intro (x + 1) (And.intro ⟨by omega, fun k hk => ?_⟩ (And.intro (by omega) (And.intro (And.intro rfl (And.intro axsR (And.intro (slotI (wrapS (by omega))) trivial))) (And.intro (And.intro (hopR p n U T Z C S) rfl) trivial))))
          by_cases hkx : k = x
          · subst hkx
            exact all2_yes fun a b ha hb => halli a b (by omega) hb
          · exact hall k (by omega)
    · have hge := of_decide_eq_false h
      have hx7 : x = 7 := by omega
      exact Exists.intro 0 (And.intro rfl (.inl ⟨rfl, fun k hk => hall k (by omega)⟩))

/-- the number of the first condition that fails, or 0 -/
def failN (p : Int) (n : Nat) (U T Z C S : Nat → Int) : Nat :=
  if algB p n U T = false then 1 else if coB p n Z C = false then 2 else if all2 n (ax3 p T C) = false then 3 else if ax4B p U C = false then 4
  else if (all2 n (ax5 p T Z) && (cnt p Z U == 1)) = false then 5 else if ax6B p n U T Z C S = false then 6 else if ax7B p n U T Z C S = false then 7 else 0

theorem all2_const {n : Nat} (hn : 1 ≤ n) (b : Bool) : all2 n (fun _ _ => b) = b := by
  cases b with
  | false => exact all2_no (i := 0) (j := 0) (by omega) (by omega) rfl
  | true => exact all2_yes fun _ _ _ _ => rfl
theorem all2_and {n : Nat} (hn : 1 ≤ n) (f : Nat → Nat → Bool) (b : Bool) : all2 n (fun i j => f i j && b) = (all2 n f && b) := by
  cases b with
  | false => rw [Bool.and_false]; exact all2_no (i := 0) (j := 0) (by omega) (by omega) (by simp)
  | true => simp
theorem fails_is {p : Int} {n : Nat} {U T Z C S : Nat → Int} (hn : 1 ≤ n) : failsAt p n U T Z C S (failN p n U T Z C S) := by
  have e0 : all2 n (holdAt p n U T Z C S 0) = algB p n U T := all2_const hn _
  have e1 : all2 n (holdAt p n U T Z C S 1) = coB p n Z C := all2_const hn _
  have e2 : all2 n (holdAt p n U T Z C S 2) = all2 n (ax3 p T C) := rfl
  have e3 : all2 n (holdAt p n U T Z C S 3) = ax4B p U C := all2_const hn _
  have e4 : all2 n (holdAt p n U T Z C S 4) = (all2 n (ax5 p T Z) && (cnt p Z U == 1)) := all2_and hn _ _
  have e5 : all2 n (holdAt p n U T Z C S 5) = ax6B p n U T Z C S := all2_const hn _
  have e6 : all2 n (holdAt p n U T Z C S 6) = ax7B p n U T Z C S := all2_const hn _
  have pre : ∀ m, (∀ k, k < m → all2 n (holdAt p n U T Z C S k) = true) → all2 n (holdAt p n U T Z C S m) = true → ∀ k, k < m + 1 → all2 n (holdAt p n U T Z C S k) = true := fun m h1 h2 k hk => by
    by_cases hkm : k = m
    · subst hkm; exact h2
    · exact h1 k (by omega)
  have p0 : ∀ k, k < 0 → all2 n (holdAt p n U T Z C S k) = true := fun k hk => by omega
  unfold failN
  by_cases h0 : algB p n U T = false
  · rw [if_pos h0]; exact .inr ⟨0, rfl, by omega, by rw [e0]; exact h0, p0⟩
  rw [if_neg h0]
  have p1 := pre 0 p0 (by rw [e0]; simpa using h0)
  by_cases h1 : coB p n Z C = false
  · rw [if_pos h1]; exact .inr ⟨1, rfl, by omega, by rw [e1]; exact h1, p1⟩
  rw [if_neg h1]
  have p2 := pre 1 p1 (by rw [e1]; simpa using h1)
  by_cases h2 : all2 n (ax3 p T C) = false
  · rw [if_pos h2]; exact .inr ⟨2, rfl, by omega, by rw [e2]; exact h2, p2⟩
  rw [if_neg h2]
  have p3 := pre 2 p2 (by rw [e2]; simpa using h2)
  by_cases h3 : ax4B p U C = false
  · rw [if_pos h3]; exact .inr ⟨3, rfl, by omega, by rw [e3]; exact h3, p3⟩
  rw [if_neg h3]
  have p4 := pre 3 p3 (by rw [e3]; simpa using h3)
  by_cases h4 : (all2 n (ax5 p T Z) && (cnt p Z U == 1)) = false
  · rw [if_pos h4]; exact .inr ⟨4, rfl, by omega, by rw [e4]; exact h4, p4⟩
  rw [if_neg h4]
  have p5 := pre 4 p4 (by rw [e4]; simpa using h4)
  by_cases h5 : ax6B p n U T Z C S = false
  · rw [if_pos h5]; exact .inr ⟨5, rfl, by omega, by rw [e5]; exact h5, p5⟩
  rw [if_neg h5]
  have p6 := pre 5 p5 (by rw [e5]; simpa using h5)
  by_cases h6 : ax7B p n U T Z C S = false
  · rw [if_pos h6]; exact .inr ⟨6, rfl, by omega, by rw [e6]; exact h6, p6⟩
  rw [if_neg h6]
  exact .inl ⟨rfl, pre 6 p6 (by rw [e6]; simpa using h6)⟩

theorem failingAxiom_s (p : Int) (n : Nat) (U T Z C S : Nat → Int) (hV : HV p n U T Z C S) :
    Spec Tryz.prog 44 [hopV p n U T Z C S] [] (Ret (.int .i64 (failN p n U T Z C S))) :=
  Spec.ret rfl (Spec.mono (failingAxiom_q p n U T Z C S hV) fun r m ⟨x, hr, hx⟩ => by
    subst hr
    exact slotI (by rw [fails_one hx (fails_is hV.n1)]))

/-- whether it is a Hopf algebra -/
def hopB (p n : Int) (U T Z C S : Nat → Int) : Bool := hshB p n U T Z C S && (failN p n.toNat U T Z C S == 0)

theorem isHopf_s (p n : Int) (U T Z C S : Nat → Int) (hU : isU8 8 U) (hT : isU8 512 T) (hZ : isU8 8 Z) (hC : isU8 512 C) (hS : isU8 64 S) :
    Spec Tryz.prog 26 [hopV p n U T Z C S] [] (Ret (.bool (hopB p n U T Z C S))) := by
  refine Spec.ret rfl (Spec.of_vc tabOK tabEq Tryz.func26 rfl (by kernel_rfl) rfl rfl ?_)
  refine And.intro trivial (Spec.mono (isShapedHopf_s p n U T Z C S hU hT hZ hC hS) ?_)
  rintro r m ⟨rfl, rfl⟩
  refine ifVC_split (fun h => ?_) (fun h => ?_)
  · obtain ⟨n, rfl, hV⟩ := hsh_valid hU hT hZ hC hS h
    refine And.intro trivial (Spec.mono (failingAxiom_s p n U T Z C S hV) ?_)
    rintro r m ⟨rfl, rfl⟩
    refine boolEq ?_
    unfold hopB
    rw [h, Bool.true_and, Int.toNat_natCast, Bool.eq_iff_iff, beq_iff_eq, beq_iff_eq]
    omega
  · exact boolEq (by unfold hopB; rw [h]; rfl)
end Go.Proofs.YtegcfjfhpodlmabGreat

/- The axioms of Hopf algebras, as the model checks them. -/
set_option linter.unusedVariables false
set_option linter.unusedSimpArgs false
set_option maxRecDepth 100000
set_option maxHeartbeats 1000000
namespace Go.Proofs.YtegcfjfhpodlmabGreat
open M

theorem l01Zero_s (v : Nat → Int) : Spec Tryz.prog 113 [.ints .u8 8 v] [] (Ret (.bool (allEq 8 v fun _ => 0))) := by
  refine Spec.ret rfl (Spec.of_vc tabOK tabEq Tryz.func113 rfl (by kernel_rfl) rfl rfl ?_)
  (repeat (first | refine And.intro (by omega) ?_ | refine And.intro ⟨by omega, by omega⟩ ?_))
  exact boolEq rfl

theorem cop_skip {p : Int} {C v : Nat → Int} {i : Nat} (hv : v i = 0) (j k : Nat) : cop p C v (i + 1) j k = cop p C v i j k := by
  unfold cop
  show (sumN i (fun a => v a * vecT C a j k) + v i * vecT C i j k) % p = _
  rw [hv]; simp

theorem l03Coproduct_s (p : Int) (n : Nat) (U T Z C S v : Nat → Int) (hV : Valid p n Z (dualF C)) (hC : isU8 512 C) (hv : isU8 8 v) (hz : ∀ i, n ≤ i → i < 8 → v i = 0) :
    Spec Tryz.prog 85 [hopV p n U T Z C S, .ints .u8 8 v] [] (Ret (.ints .u8 64 (leftT p C v))) := by
  have hn := hV.hn
  have hp := hV.hp
  refine Spec.ret rfl (Spec.of_vc tabOK tabEq Tryz.func85 rfl (by kernel_rfl) rfl rfl ?_)
  (repeat (first | refine And.intro (by omega) ?_ | refine And.intro ⟨by omega, by omega⟩ ?_))
  refine LoopVC.of (fun i : Nat => i ≤ n) (fun i => [(2, .ptr 0 [] 0 0), (3, .ptr 1 [] 0 0), (4, .ptr 2 [] 0 0), (5, .ptr 3 [] 0 0), (6, .int .i64 i)])
    (fun i => [some (hopV p n U T Z C S, 1106), some (.ints .u8 8 v, 8), some (.ints .u8 64 fun _ => 0, 64), some (.ints .u8 64 fun q => if q / 8 < n then cop p C v i (q / 8) (q % 8) else 0, 64)]) (fun i => n - i) 0 (by omega) ?_ ?_ ?_
  · exact (And.intro rfl (And.intro rfl (And.intro rfl (And.intro rfl (And.intro rfl (trivial))))))
  · exact And.intro (And.intro (hopR p n U T Z C S) rfl) (And.intro (And.intro (rowEq fun _ _ => rfl) rfl) (And.intro (And.intro (rowEq fun _ _ => rfl) rfl) (And.intro (And.intro (rowEq fun q hq => by show updR _ 0 64 _ q = _; simp [updR, hq, cop, sumN]) rfl) trivial)))
  · intro i hi
    refine ifVC_split (fun h => ?_) (fun h => ?_)
    · have hlti := of_decide_eq_true h
      have hidx : (i : Int).toNat = i := by omega
      have hvi := hv i (by omega)
      have done : ∀ j : Nat, j ≤ n → (j = n ∨ v i = 0) → ∀ q, q < 64 → (if q / 8 < j then cop p C v (i + 1) (q / 8) (q % 8) else if q / 8 < n then cop p C v i (q / 8) (q % 8) else 0) = if q / 8 < n then cop p C v (i + 1) (q / 8) (q % 8) else 0 := fun j hj hd q hq => by
        by_cases h2 : q / 8 < j
        · rw [if_pos h2, if_pos (by omega)]
        · rw [if_neg h2]
          rcases hd with hd | hd
          · rw [if_neg (by omega), if_neg (by omega)]
          · rw [cop_skip hd]
      refine LoopVC.of (fun j : Nat => j ≤ n) (fun j => [(2, .ptr 0 [] 0 0), (3, .ptr 1 [] 0 0), (4, .ptr 2 [] 0 0), (5, .ptr 3 [] 0 0), (6, .int .i64 i), (7, .int .i64 j)])
        (fun j => [some (hopV p n U T Z C S, 1106), some (.ints .u8 8 v, 8), some (.ints .u8 64 fun _ => 0, 64), some (.ints .u8 64 fun q => if q / 8 < j then cop p C v (i + 1) (q / 8) (q % 8) else if q / 8 < n then cop p C v i (q / 8) (q % 8) else 0, 64)]) (fun j => n - j) 0 (by omega) ?_ ?_ ?_
      · exact (And.intro rfl (And.intro rfl (And.intro rfl (And.intro rfl (And.intro rfl (And.intro rfl (trivial)))))))
      · exact And.intro (And.intro (hopR p n U T Z C S) rfl) (And.intro (And.intro (rowEq fun _ _ => rfl) rfl) (And.intro (And.intro (rowEq fun _ _ => rfl) rfl) (And.intro (And.intro (rowEq fun q hq => by simp) rfl) trivial)))
      · intro j hj
        refine ifVC_split (fun h => ?_) (fun h => ?_)
        · have hltj := of_decide_eq_true h
          have hjdx : (j : Int).toNat = j := by omega
          (repeat (first | refine And.intro (by omega) ?_ | refine And.intro ⟨by omega, by omega⟩ ?_))
          refine ifVC_split (fun hz0 => ?_) (fun hz0 => ?_)
          · refine Exists.intro 18 (And.intro (by kernel_rfl) ?_)
            (repeat (first | refine And.intro (by omega) ?_ | refine And.intro ⟨by omega, by omega⟩ ?_))
            have hout : isU8 64 fun q => if q / 8 < j then cop p C v (i + 1) (q / 8) (q % 8) else if q / 8 < n then cop p C v i (q / 8) (q % 8) else 0 := fun q hq => by
              dsimp only
              split
              · exact modB hp
              · split
                · exact modB hp
                · omega
            have hvw : IntKind.i64.wrap (v ((i : Int).toNat * 1 + 0)) = v i := by rw [show (i : Int).toNat * 1 + 0 = i by omega]; exact wrapI (by omega)
            refine Exists.intro (.ints .u8 8 _) (And.intro (And.intro rfl (And.intro rfl (Spec.mono (l01Add_s p _ _ _ hp (by rw [hvw]; omega) (fun q hq => hout _ (by omega)) (fun q hq => hC _ (by omega))) fun r m h => h.1))) ?_)
            (repeat (first | refine And.intro (by omega) ?_ | refine And.intro ⟨by omega, by omega⟩ ?_))
            refine Exists.intro (j + 1) (And.intro (by omega) (And.intro (by omega) (And.intro (And.intro rfl (And.intro rfl (And.intro rfl (And.intro rfl (And.intro rfl (And.intro (slotI (wrapS (by omega))) trivial)))))) ?_)))
            refine And.intro (And.intro (hopR p n U T Z C S) rfl) (And.intro (And.intro (rowEq fun _ _ => rfl) rfl) (And.intro (And.intro (rowEq fun _ _ => rfl) rfl) (And.intro (And.intro (rowEq fun q hq => ?_) rfl) trivial)))
            show updR _ ((j : Int).toNat * 8 + 0) 8 _ q = _
            unfold updR
            rw [hjdx]
            by_cases h1 : j * 8 + 0 ≤ q ∧ q < j * 8 + 0 + 8
            · rw [if_pos h1, if_pos (by omega)]
              unfold addM
              rw [hvw, cop_step]
              dsimp only
              have e1 : q - (j * 8 + 0) + (j * 8 + 0) = q := by omega
              have e2 : C (q - (j * 8 + 0) + (j * 8 + ((i : Int).toNat * 64 + 0))) = vecT C i (q / 8) (q % 8) := by unfold vecT; congr 1; omega
              rw [e1, e2, if_neg (by omega), if_pos (by omega)]
            · rw [if_neg h1]
              dsimp only
              by_cases h2 : q / 8 < j
              · rw [if_pos h2, if_pos (show q / 8 < j + 1 by omega)]
              · rw [if_neg h2, if_neg (show ¬ q / 8 < j + 1 by omega)]
          · have hz0 : v i = 0 := by
              have hz0 : v ((i : Int).toNat * 1 + 0) = 0 := by simpa using hz0
              rw [show (i : Int).toNat * 1 + 0 = i by omega] at hz0; exact hz0
            refine Exists.intro (i + 1) (And.intro (by omega) (And.intro (by omega) (And.intro (And.intro rfl (And.intro rfl (And.intro rfl (And.intro rfl (And.intro (slotI (wrapS (by omega))) trivial))))) ?_)))
            exact And.intro (And.intro (hopR p n U T Z C S) rfl) (And.intro (And.intro (rowEq fun _ _ => rfl) rfl) (And.intro (And.intro (rowEq fun _ _ => rfl) rfl) (And.intro (And.intro (rowEq fun q hq => done j hj (.inr hz0) q hq) rfl) trivial)))
        · have hge := of_decide_eq_false h
          refine Exists.intro (i + 1) (And.intro (by omega) (And.intro (by omega) (And.intro (And.intro rfl (And.intro rfl (And.intro rfl (And.intro rfl (And.intro (slotI (wrapS (by omega))) trivial))))) ?_)))
          exact And.intro (And.intro (hopR p n U T Z C S) rfl) (And.intro (And.intro (rowEq fun _ _ => rfl) rfl) (And.intro (And.intro (rowEq fun _ _ => rfl) rfl) (And.intro (And.intro (rowEq fun q hq => done j hj (.inl (by omega)) q hq) rfl) trivial)))
    · have hge := of_decide_eq_false h
      obtain rfl : i = n := by omega
      (repeat (first | refine And.intro (by omega) ?_ | refine And.intro ⟨by omega, by omega⟩ ?_))
      refine rowEq fun q hq => ?_
      rw [cop_left hV hz hq]
      show updR _ 0 64 _ q = _
      simp [updR, hq]

theorem l03Counit_s (p : Int) (n : Nat) (U T Z C S v : Nat → Int) (hp : 0 < p ∧ p < 256) (hn : n ≤ 8) (hZ : isU8 8 Z) (hv : isU8 8 v) (hz : ∀ i, n ≤ i → i < 8 → v i = 0) :
    Spec Tryz.prog 20 [hopV p n U T Z C S, .ints .u8 8 v] [] (Ret (.int .i64 (cnt p Z v))) := by
  refine Spec.ret rfl (Spec.of_vc tabOK tabEq Tryz.func20 rfl (by kernel_rfl) rfl rfl ?_)
  refine LoopVC.of (fun i : Nat => i ≤ n) (fun i => [(2, .ptr 0 [] 0 0), (3, .ptr 1 [] 0 0), (5, .int .i64 (cntN Z v i)), (6, .int .i64 i)]) (fun _ => [some (hopV p n U T Z C S, 1106), some (.ints .u8 8 v, 8)]) (fun i => n - i) 0 (by omega) ?_ ?_ ?_
  · exact (And.intro rfl (And.intro rfl (And.intro rfl (And.intro rfl (trivial)))))
  · exact And.intro (And.intro (hopR p n U T Z C S) rfl) (And.intro (And.intro (rowEq fun _ _ => rfl) rfl) trivial)
  · intro i hi
    refine ifVC_split (fun h => ?_) (fun h => ?_)
    · have hlt := of_decide_eq_true h
      refine Exists.intro 12 (And.intro (by kernel_rfl) ?_)
      (repeat (first | refine And.intro (by omega) ?_ | refine And.intro ⟨by omega, by omega⟩ ?_))
      refine Exists.intro (i + 1) (And.intro (by omega) (And.intro (by omega) (And.intro (And.intro rfl (And.intro rfl (And.intro (slotI (cnt_step hZ hv (by omega) (by omega) (by omega))) (And.intro (slotI (wrapS (by omega))) trivial)))) (And.intro (And.intro (hopR p n U T Z C S) rfl) (And.intro (And.intro (rowEq fun _ _ => rfl) rfl) trivial)))))
    · have hge := of_decide_eq_false h
      obtain rfl : i = n := by omega
      have h4 := cnt_bound hZ hv i (by omega)
      (repeat (first | refine And.intro (by omega) ?_ | refine And.intro ⟨by omega, by omega⟩ ?_))
      refine slotI ?_
      rw [Int.tmod_eq_emod_of_nonneg h4.1]
      unfold cnt cntN
      rw [sumN_cut 8 hn fun a h1 h2 => by rw [hz a h1 h2]; simp]

/-! ### products of pairs -/
theorem pairT_cut {p : Int} {n : Nat} {U T : Nat → Int} (hV : Valid p n U T) (F G : Nat → Int) {q : Nat} (hq : q < 64) : pairT p T F G 8 8 q = pairT p T F G n n q := by
  have hn := hV.hn
  have e : ∀ a, a < 8 → pairN p T F G a 8 q = pairN p T F G a n q := fun a ha => by
    unfold pairN
    exact sumN_cut 8 hn fun b h1 h2 => by rw [hV.zero a b (q / 8) ha h2 (by omega) (.inr (.inl h1))]; simp
  unfold pairT
  rw [sumN_congr 8 e]
  refine sumN_cut 8 hn fun a h1 h2 => ?_
  unfold pairN
  exact sumN_none n fun b hb => by rw [hV.zero a b (q / 8) h2 (by omega) (by omega) (.inl h1)]; simp

theorem l03Pairs_s (p : Int) (n : Nat) (U T Z C S F G : Nat → Int) (hV : HV p n U T Z C S) (hF : isU8 64 F) (hG : isU8 64 G) (hFz : ∀ a m, a < 8 → m < 8 → n ≤ m → partF F 8 a m = 0) (hGz : ∀ a m, a < 8 → m < 8 → n ≤ m → partF G 8 a m = 0) :
    Spec Tryz.prog 86 [hopV p n U T Z C S, .ints .u8 64 F, .ints .u8 64 G] [] (Ret (.ints .u8 64 (pairsF p T F G))) := by
  have hn := hV.a.hn
  have hp := hV.a.hp
  have hT := hV.hT
  have HE : ∀ (r : Mem), True := fun _ => trivial
  refine Spec.ret rfl (Spec.of_vc tabOK tabEq Tryz.func86 rfl (by kernel_rfl) rfl rfl ?_)
  refine Exists.intro 8 (And.intro (by kernel_rfl) ?_)
  (repeat (first | refine And.intro (by omega) ?_ | refine And.intro ⟨by omega, by omega⟩ ?_))
  refine LoopVC.of (fun j : Nat => j ≤ n) (fun j => [(3, .ptr 0 [] 0 0), (4, .ptr 1 [] 0 0), (5, .ptr 2 [] 0 0), (6, .ptr 3 [] 0 0), (7, .int .i64 p), (8, .int .i64 n), (9, .ptr 4 [] 0 0), (10, .int .i64 j)])
    (fun j => [some (hopV p n U T Z C S, 1106), some (.ints .u8 64 F, 64), some (.ints .u8 64 G, 64), some (.ints .u8 64 fun _ => 0, 64), some (.ints .u8 64 fun q => pairT p T F G j n q % p, 64)]) (fun j => n - j) 0 (by omega) ?_ ?_ ?_
  · exact (And.intro rfl (And.intro rfl (And.intro rfl (And.intro rfl (And.intro rfl (And.intro rfl (And.intro rfl (And.intro rfl (trivial)))))))))
  · exact And.intro (And.intro (hopR p n U T Z C S) rfl) (And.intro (And.intro (rowEq fun _ _ => rfl) rfl) (And.intro (And.intro (rowEq fun _ _ => rfl) rfl) (And.intro (And.intro (rowEq fun _ _ => rfl) rfl) (And.intro (And.intro (rowEq fun q hq => by show updR _ 0 64 _ q = _; simp [updR, hq, pairT, sumN]) rfl) trivial))))
  · intro j hj
    refine ifVC_split (fun h => ?_) (fun h => ?_)
    · have hltj := of_decide_eq_true h
      have hjdx : (j : Int).toNat = j := by omega
      refine LoopVC.of (fun l : Nat => l ≤ n) (fun l => [(3, .ptr 0 [] 0 0), (4, .ptr 1 [] 0 0), (5, .ptr 2 [] 0 0), (6, .ptr 3 [] 0 0), (7, .int .i64 p), (8, .int .i64 n), (9, .ptr 4 [] 0 0), (10, .int .i64 j), (11, .int .i64 l)])
        (fun l => [some (hopV p n U T Z C S, 1106), some (.ints .u8 64 F, 64), some (.ints .u8 64 G, 64), some (.ints .u8 64 fun _ => 0, 64), some (.ints .u8 64 fun q => (pairT p T F G j n q + pairN p T F G j l q) % p, 64)]) (fun l => n - l) 0 (by omega) ?_ ?_ ?_
      · exact (And.intro rfl (And.intro rfl (And.intro rfl (And.intro rfl (And.intro rfl (And.intro rfl (And.intro rfl (And.intro rfl (And.intro rfl (trivial))))))))))
      · exact And.intro (And.intro (hopR p n U T Z C S) rfl) (And.intro (And.intro (rowEq fun _ _ => rfl) rfl) (And.intro (And.intro (rowEq fun _ _ => rfl) rfl) (And.intro (And.intro (rowEq fun _ _ => rfl) rfl) (And.intro (And.intro (rowEq fun q hq => by simp [pairN, sumN]) rfl) trivial))))
      · intro l hl
        refine ifVC_split (fun h => ?_) (fun h => ?_)
        · have hltl := of_decide_eq_true h
          have hldx : (l : Int).toNat = l := by omega
          have next : ∀ (s : Slots) (m : Mem) (o : Nat → Int), (∀ q, q < 64 → o q = (pairT p T F G j n q + pairN p T F G j (l + 1) q) % p) → eqvO (lk s 3) (.ptr 0 [] 0 0) → eqvO (lk s 4) (.ptr 1 [] 0 0) → eqvO (lk s 5) (.ptr 2 [] 0 0) → eqvO (lk s 6) (.ptr 3 [] 0 0) → eqvO (lk s 7) (.int .i64 p) → eqvO (lk s 8) (.int .i64 n) → eqvO (lk s 9) (.ptr 4 [] 0 0) → eqvO (lk s 10) (.int .i64 j) → eqvO (lk s 11) (.int .i64 (IntKind.i64.wrap ((l : Int) + 1))) →
              memCut m [some (hopV p n U T Z C S, 1106), some (.ints .u8 64 F, 64), some (.ints .u8 64 G, 64), some (.ints .u8 64 fun _ => 0, 64), some (.ints .u8 64 fun q => (pairT p T F G j n q + pairN p T F G j (l + 1) q) % p, 64)] →
              ∃ x' : Nat, x' ≤ n ∧ n - x' < n - l ∧ subL [(3, .ptr 0 [] 0 0), (4, .ptr 1 [] 0 0), (5, .ptr 2 [] 0 0), (6, .ptr 3 [] 0 0), (7, .int .i64 p), (8, .int .i64 n), (9, .ptr 4 [] 0 0), (10, .int .i64 j), (11, .int .i64 x')] s ∧
                memCut m [some (hopV p n U T Z C S, 1106), some (.ints .u8 64 F, 64), some (.ints .u8 64 G, 64), some (.ints .u8 64 fun _ => 0, 64), some (.ints .u8 64 fun q => (pairT p T F G j n q + pairN p T F G j x' q) % p, 64)] := fun s m o _ h3 h4 h5 h6 h7 h8 h9 h10 h11 hm =>
            ⟨l + 1, by omega, by omega, ⟨h3, h4, h5, h6, h7, h8, h9, h10, by rw [wrapS (by omega)] at h11; exact h11, trivial⟩, hm⟩
          have hFj : isU8 8 (partF F 8 j) := part_u8 hF (by omega)
          have hGl : isU8 8 (partF G 8 l) := part_u8 hG (by omega)
          refine Exists.intro 10 (And.intro (by kernel_rfl) ?_)
          refine Exists.intro (algV p n U T) (And.intro (And.intro rfl (And.intro rfl (Spec.mono (l03Algebra_s p n U T Z C S) fun r m h => h.1))) ?_)
          (repeat (first | refine And.intro (by omega) ?_ | refine And.intro ⟨by omega, by omega⟩ ?_))
          refine Exists.intro (.ints .u8 8 fun y => timS p n T (partF F 8 j) (partF G 8 l) n y % p) (And.intro (And.intro rfl (And.intro rfl ?_)) ?_)
          · refine Spec.mono (l01Times_s p n U T _ _ hp hn hT (fun q hq => hF _ (by omega)) (fun q hq => hG _ (by omega))) ?_
            rintro r m ⟨rfl, _⟩
            rw [hjdx, hldx]
            rfl
          have hrow : ∀ y, y < 8 → timS p n T (partF F 8 j) (partF G 8 l) n y % p = pw p T F G j l y := fun y hy => prod_eq hV.a (fun m h1 h2 => hFz j m (by omega) h2 h1) (fun m h1 h2 => hGz l m (by omega) h2 h1) hy
          (repeat (first | refine And.intro (by omega) ?_ | refine And.intro ⟨by omega, by omega⟩ ?_))
          refine And.intro trivial (Spec.mono (l01Zero_s _) ?_)
          rintro r m ⟨rfl, rfl⟩
          have hq : allEq 8 (fun q => updR (fun _ => 0) 0 8 (fun y => timS p n T (partF F 8 j) (partF G 8 l) n y % p) (q + 0)) (fun _ => 0) = allEq 8 (pw p T F G j l) (fun _ => 0) := allEq_congr (fun q hq => by simp [updR, hq]; exact hrow q hq) fun _ _ => rfl
          refine ifVC_split (fun hz0 => ?_) (fun hz0 => ?_)
          · have hz0 : allEq 8 (pw p T F G j l) (fun _ => 0) = true := by rw [← hq]; exact hz0
            refine next _ _ _ (fun q hq => rfl) rfl rfl rfl rfl rfl rfl rfl rfl rfl ?_
            refine And.intro (And.intro (hopR p n U T Z C S) rfl) (And.intro (And.intro (rowEq fun _ _ => rfl) rfl) (And.intro (And.intro (rowEq fun _ _ => rfl) rfl) (And.intro (And.intro (rowEq fun _ _ => rfl) rfl) (And.intro (And.intro (rowEq fun q hq => ?_) rfl) trivial))))
            show (pairT p T F G j n q + pairN p T F G j l q) % p = (pairT p T F G j n q + (pairN p T F G j l q + vecT T j l (q / 8) * pw p T F G j l (q % 8))) % p
            rw [allEq_get hz0 (show q % 8 < 8 by omega)]
            simp
          refine LoopVC.of (fun x : Nat => x ≤ n) (fun x => [(3, .ptr 0 [] 0 0), (4, .ptr 1 [] 0 0), (5, .ptr 2 [] 0 0), (6, .ptr 3 [] 0 0), (7, .int .i64 p), (8, .int .i64 n), (9, .ptr 4 [] 0 0), (10, .int .i64 j), (11, .int .i64 l), (12, .ptr 5 [] 0 0), (13, .int .i64 x)])
            (fun x => [some (hopV p n U T Z C S, 1106), some (.ints .u8 64 F, 64), some (.ints .u8 64 G, 64), some (.ints .u8 64 fun _ => 0, 64), some (.ints .u8 64 fun q => (pairT p T F G j n q + pairN p T F G j (if q / 8 < x then l + 1 else l) q) % p, 64), some (.ints .u8 8 (pw p T F G j l), 8)]) (fun x => n - x) 0 (by omega) ?_ ?_ ?_
          · exact (And.intro rfl (And.intro rfl (And.intro rfl (And.intro rfl (And.intro rfl (And.intro rfl (And.intro rfl (And.intro rfl (And.intro rfl (And.intro rfl (And.intro rfl (trivial))))))))))))
          · exact And.intro (And.intro (hopR p n U T Z C S) rfl) (And.intro (And.intro (rowEq fun _ _ => rfl) rfl) (And.intro (And.intro (rowEq fun _ _ => rfl) rfl) (And.intro (And.intro (rowEq fun _ _ => rfl) rfl) (And.intro (And.intro (rowEq fun q hq => by simp) rfl) (And.intro (And.intro (rowEq fun q hq => by show updR _ 0 8 _ q = _; simp [updR, hq]; exact hrow q hq) rfl) trivial)))))
          · intro x hx
            refine ifVC_split (fun h => ?_) (fun h => ?_)
            · have hltx := of_decide_eq_true h
              have hxdx : (x : Int).toNat = x := by omega
              have hk : T ((x : Int).toNat * 1 + ((l : Int).toNat * 8 + ((j : Int).toNat * 64 + 0))) = vecT T j l x := by rw [hjdx, hldx, hxdx]; unfold vecT; congr 1; omega
              have hkb := vec_u8 hT (show j < 8 by omega) (show l < 8 by omega) (show x < 8 by omega)
              (repeat (first | refine And.intro (by omega) ?_ | refine And.intro ⟨by omega, by omega⟩ ?_))
              refine ifVC_split (fun hc => ?_) (fun hc => ?_)
              · refine Exists.intro 10 (And.intro (by kernel_rfl) ?_)
                (repeat (first | refine And.intro (by omega) ?_ | refine And.intro ⟨by omega, by omega⟩ ?_))
                refine Exists.intro (.ints .u8 8 _) (And.intro (And.intro rfl (And.intro rfl (Spec.mono (l01Add_s p _ _ _ hp (by rw [hk, wrapI (by omega)]; omega) (fun q hq => modB hp) (fun q hq => modB hp)) fun r m h => h.1))) ?_)
                (repeat (first | refine And.intro (by omega) ?_ | refine And.intro ⟨by omega, by omega⟩ ?_))
                refine Exists.intro (x + 1) (And.intro (by omega) (And.intro (by omega) (And.intro (And.intro rfl (And.intro rfl (And.intro rfl (And.intro rfl (And.intro rfl (And.intro rfl (And.intro rfl (And.intro rfl (And.intro rfl (And.intro rfl (And.intro (slotI (wrapS (by omega))) trivial))))))))))) ?_)))
                refine And.intro (And.intro (hopR p n U T Z C S) rfl) (And.intro (And.intro (rowEq fun _ _ => rfl) rfl) (And.intro (And.intro (rowEq fun _ _ => rfl) rfl) (And.intro (And.intro (rowEq fun _ _ => rfl) rfl) (And.intro (And.intro (rowEq fun q hq => ?_) rfl) (And.intro (And.intro (rowEq fun _ _ => rfl) rfl) trivial)))))
                show updR _ ((x : Int).toNat * 8 + 0) 8 _ q = _
                unfold updR
                rw [hxdx]
                by_cases h1 : x * 8 + 0 ≤ q ∧ q < x * 8 + 0 + 8
                · rw [if_pos h1, if_pos (show q / 8 < x + 1 by omega)]
                  unfold addM
                  dsimp only
                  rw [hxdx] at hk
                  rw [hk, wrapI (x := vecT T j l x) (by omega), show q - (x * 8 + 0) + (x * 8 + 0) = q by omega, if_neg (show ¬ q / 8 < x by omega), mod_add, Int.add_assoc]
                  congr 2
                  show _ = pairN p T F G j l q + vecT T j l (q / 8) * pw p T F G j l (q % 8)
                  rw [show q / 8 = x by omega, show q - (x * 8 + 0) + 0 = q % 8 by omega]
                · rw [if_neg h1]
                  dsimp only
                  by_cases h2 : q / 8 < x
                  · rw [if_pos h2, if_pos (show q / 8 < x + 1 by omega)]
                  · rw [if_neg h2, if_neg (show ¬ q / 8 < x + 1 by omega)]
              · have hc : vecT T j l x = 0 := by rw [hk] at hc; simpa using hc
                refine Exists.intro (x + 1) (And.intro (by omega) (And.intro (by omega) (And.intro (And.intro rfl (And.intro rfl (And.intro rfl (And.intro rfl (And.intro rfl (And.intro rfl (And.intro rfl (And.intro rfl (And.intro rfl (And.intro rfl (And.intro (slotI (wrapS (by omega))) trivial))))))))))) ?_)))
                refine And.intro (And.intro (hopR p n U T Z C S) rfl) (And.intro (And.intro (rowEq fun _ _ => rfl) rfl) (And.intro (And.intro (rowEq fun _ _ => rfl) rfl) (And.intro (And.intro (rowEq fun _ _ => rfl) rfl) (And.intro (And.intro (rowEq fun q hq => ?_) rfl) (And.intro (And.intro (rowEq fun _ _ => rfl) rfl) trivial)))))
                by_cases h2 : q / 8 < x
                · rw [if_pos h2, if_pos (show q / 8 < x + 1 by omega)]
                · rw [if_neg h2]
                  by_cases h3 : q / 8 < x + 1
                  · rw [if_pos h3]
                    show _ = (pairT p T F G j n q + (pairN p T F G j l q + vecT T j l (q / 8) * pw p T F G j l (q % 8))) % p
                    rw [show q / 8 = x by omega, hc]
                    simp
                  · rw [if_neg h3]
            · have hge := of_decide_eq_false h
              obtain rfl : x = n := by omega
              refine next _ _ _ (fun q hq => rfl) rfl rfl rfl rfl rfl rfl rfl rfl rfl ?_
              refine And.intro (And.intro (hopR p x U T Z C S) rfl) (And.intro (And.intro (rowEq fun _ _ => rfl) rfl) (And.intro (And.intro (rowEq fun _ _ => rfl) rfl) (And.intro (And.intro (rowEq fun _ _ => rfl) rfl) (And.intro (And.intro (rowEq fun q hq => ?_) rfl) trivial))))
              by_cases h2 : q / 8 < x
              · rw [if_pos h2]
              · rw [if_neg h2]
                show _ = (pairT p T F G j x q + (pairN p T F G j l q + vecT T j l (q / 8) * pw p T F G j l (q % 8))) % p
                rw [hV.a.zero j l (q / 8) (by omega) (by omega) (by omega) (.inr (.inr (by omega)))]
                simp
        · have hge := of_decide_eq_false h
          obtain rfl : l = n := by omega
          refine Exists.intro (j + 1) (And.intro (by omega) (And.intro (by omega) (And.intro (And.intro rfl (And.intro rfl (And.intro rfl (And.intro rfl (And.intro rfl (And.intro rfl (And.intro rfl (And.intro (slotI (wrapS (by omega))) trivial)))))))) ?_)))
          exact And.intro (And.intro (hopR p l U T Z C S) rfl) (And.intro (And.intro (rowEq fun _ _ => rfl) rfl) (And.intro (And.intro (rowEq fun _ _ => rfl) rfl) (And.intro (And.intro (rowEq fun _ _ => rfl) rfl) (And.intro (And.intro (rowEq fun q hq => rfl) rfl) trivial))))
    · have hge := of_decide_eq_false h
      obtain rfl : j = n := by omega
      (repeat (first | refine And.intro (by omega) ?_ | refine And.intro ⟨by omega, by omega⟩ ?_))
      refine rowEq fun q hq => ?_
      unfold pairsF
      rw [pairT_cut hV.a F G hq]
      show updR _ 0 64 _ q = _
      simp [updR, hq]

/-! ### the convolutions with the identity -/
def owF (p : Int) (T R : Nat → Int) (b : Bool) (j k : Nat) : Nat → Int := match b with | false => prodF p T (partF R 8 j) (unitV k) | true => prodF p T (unitV j) (partF R 8 k)
def foldN (p : Int) (T C R : Nat → Int) (b : Bool) (i j m y : Nat) : Int := sumN m fun k => vecT C i j k * owF p T R b j k y
def foldT (p : Int) (n : Nat) (T C R : Nat → Int) (b : Bool) (i m y : Nat) : Int := sumN m fun j => foldN p T C R b i j n y

theorem l03FoldedF_s (p : Int) (n : Nat) (U T Z C S R : Nat → Int) (hV : HV p n U T Z C S) (hR : isU8 64 R) (hRz : ∀ a m, a < 8 → m < 8 → n ≤ m → partF R 8 a m = 0) (i : Nat) (hi : i < n) :
    Spec Tryz.prog 87 [hopV p n U T Z C S, .int .i64 i, .ints .u8 64 R, .bool false] [] (Ret (.ints .u8 8 fun y => foldT p n T C R false i n y % p)) := by
  have hn := hV.a.hn
  have hp := hV.a.hp
  have hT := hV.hT
  have hidx : (i : Int).toNat = i := by omega
  refine Spec.ret rfl (Spec.of_vc tabOK tabEq Tryz.func87 rfl (by kernel_rfl) rfl rfl ?_)
  refine And.intro trivial (Spec.mono (l03Algebra_s p n U T Z C S) ?_)
  rintro r m ⟨rfl, rfl⟩
  (repeat (first | refine And.intro (by omega) ?_ | refine And.intro ⟨by omega, by omega⟩ ?_))
  refine LoopVC.of (fun j : Nat => j ≤ n) (fun j => [(1, .int .i64 i), (3, .bool false), (4, .ptr 0 [] 0 0), (6, .ptr 1 [] 0 0), (8, .ptr 2 [] 0 0), (9, .ptr 3 [] 0 0), (10, .ptr 4 [] 0 0), (11, .int .i64 j)])
    (fun j => [some (hopV p n U T Z C S, 1106), some (.ints .u8 64 R, 64), some (.ints .u8 8 fun _ => 0, 8), some (.ints .u8 8 fun y => foldT p n T C R false i j y % p, 8), some (algV p n U T, 522)]) (fun j => n - j) 0 (by omega) ?_ ?_ ?_
  · exact (And.intro rfl (And.intro rfl (And.intro rfl (And.intro rfl (And.intro rfl (And.intro rfl (And.intro rfl (And.intro rfl (trivial)))))))))
  · exact And.intro (And.intro (hopR p n U T Z C S) rfl) (And.intro (And.intro (rowEq fun _ _ => rfl) rfl) (And.intro (And.intro (rowEq fun _ _ => rfl) rfl) (And.intro (And.intro (rowEq fun q hq => by show updR _ 0 8 _ q = _; simp [updR, hq, foldT, sumN]) rfl) (And.intro (And.intro (algR p n U T) rfl) trivial))))
  · intro j hj
    refine ifVC_split (fun h => ?_) (fun h => ?_)
    · have hltj := of_decide_eq_true h
      have hjdx : (j : Int).toNat = j := by omega
      refine LoopVC.of (fun k : Nat => k ≤ n) (fun k => [(1, .int .i64 i), (3, .bool false), (4, .ptr 0 [] 0 0), (6, .ptr 1 [] 0 0), (8, .ptr 2 [] 0 0), (9, .ptr 3 [] 0 0), (10, .ptr 4 [] 0 0), (11, .int .i64 j), (12, .int .i64 k)])
        (fun k => [some (hopV p n U T Z C S, 1106), some (.ints .u8 64 R, 64), some (.ints .u8 8 fun _ => 0, 8), some (.ints .u8 8 fun y => (foldT p n T C R false i j y + foldN p T C R false i j k y) % p, 8), some (algV p n U T, 522)]) (fun k => n - k) 0 (by omega) ?_ ?_ ?_
      · exact (And.intro rfl (And.intro rfl (And.intro rfl (And.intro rfl (And.intro rfl (And.intro rfl (And.intro rfl (And.intro rfl (And.intro rfl (trivial))))))))))
      · exact And.intro (And.intro (hopR p n U T Z C S) rfl) (And.intro (And.intro (rowEq fun _ _ => rfl) rfl) (And.intro (And.intro (rowEq fun _ _ => rfl) rfl) (And.intro (And.intro (rowEq fun q hq => by simp [foldN, sumN]) rfl) (And.intro (And.intro (algR p n U T) rfl) trivial))))
      · intro k hk
        refine ifVC_split (fun h => ?_) (fun h => ?_)
        · have hltk := of_decide_eq_true h
          have hkdx : (k : Int).toNat = k := by omega
          have hcv : C ((k : Int).toNat * 1 + ((j : Int).toNat * 8 + ((i : Int).toNat * 64 + 0))) = vecT C i j k := by rw [hjdx, hidx, hkdx]; unfold vecT; congr 1; omega
          have hcb := vec_u8 hV.hC (show i < 8 by omega) (show j < 8 by omega) (show k < 8 by omega)
          (repeat (first | refine And.intro (by omega) ?_ | refine And.intro ⟨by omega, by omega⟩ ?_))
          have hcw : IntKind.i64.wrap (C ((k : Int).toNat * 1 + ((j : Int).toNat * 8 + ((i : Int).toNat * 64 + 0)))) = vecT C i j k := by rw [hcv]; exact wrapI (by omega)
          refine ifVC_split (fun hc => ?_) (fun hc => ?_)
          · refine Exists.intro 8 (And.intro (by kernel_rfl) ?_)
            (repeat (first | refine And.intro (by omega) ?_ | refine And.intro ⟨by omega, by omega⟩ ?_))
            refine Exists.intro (.ints .u8 8 (unitV k)) (And.intro (And.intro rfl (And.intro rfl (Spec.mono (l01Basis_s k (by omega)) fun r m h => by rw [hkdx] at h; exact h.1))) ?_)
            refine Exists.intro (.ints .u8 8 fun y => timS p n T (partF R 8 j) (unitV k) n y % p) (And.intro (And.intro rfl (And.intro rfl ?_)) ?_)
            · refine Spec.mono (l01Times_s p n U T _ _ hp hn hT (fun q hq => hR _ (by omega)) (unitV_u8 k 8)) ?_
              rintro r m ⟨rfl, _⟩
              rw [hjdx]
              rfl
            have hrow : ∀ y, y < 8 → timS p n T (partF R 8 j) (unitV k) n y % p = owF p T R false j k y := fun y hy => prod_eq hV.a (fun m h1 h2 => hRz j m (by omega) h2 h1) (fun m h1 h2 => unitV_ne (by omega)) hy
            (repeat (first | refine And.intro (by omega) ?_ | refine And.intro ⟨by omega, by omega⟩ ?_))
            refine And.intro trivial (Spec.mono (l01Add_s p _ _ _ hp (by rw [hcw]; omega) (fun q hq => modB hp) (fun q hq => by simp only [updR]; rw [if_pos (by omega)]; exact modB hp)) ?_)
            rintro r m ⟨rfl, rfl⟩
            (repeat (first | refine And.intro (by omega) ?_ | refine And.intro ⟨by omega, by omega⟩ ?_))
            refine Exists.intro (k + 1) (And.intro (by omega) (And.intro (by omega) (And.intro (And.intro rfl (And.intro rfl (And.intro rfl (And.intro rfl (And.intro rfl (And.intro rfl (And.intro rfl (And.intro rfl (And.intro (slotI (wrapS (by omega))) trivial))))))))) ?_)))
            refine And.intro (And.intro (hopR p n U T Z C S) rfl) (And.intro (And.intro (rowEq fun _ _ => rfl) rfl) (And.intro (And.intro (rowEq fun _ _ => rfl) rfl) (And.intro (And.intro (rowEq fun q hq => ?_) rfl) (And.intro (And.intro (algR p n U T) rfl) trivial))))
            have e := hrow q hq
            show updR _ 0 8 _ q = (foldT p n T C R false i j q + (foldN p T C R false i j k q + vecT C i j k * owF p T R false j k q)) % p
            simp only [updR, Nat.zero_le, true_and, Nat.zero_add, hq, if_true, Nat.sub_zero, addM, Nat.add_zero]
            simp only [Nat.add_zero] at hcw
            rw [hcw, e, mod_add, Int.add_assoc]
          · have hc : vecT C i j k = 0 := by rw [← hcw]; simpa using hc
            refine Exists.intro (k + 1) (And.intro (by omega) (And.intro (by omega) (And.intro (And.intro rfl (And.intro rfl (And.intro rfl (And.intro rfl (And.intro rfl (And.intro rfl (And.intro rfl (And.intro rfl (And.intro (slotI (wrapS (by omega))) trivial))))))))) ?_)))
            refine And.intro (And.intro (hopR p n U T Z C S) rfl) (And.intro (And.intro (rowEq fun _ _ => rfl) rfl) (And.intro (And.intro (rowEq fun _ _ => rfl) rfl) (And.intro (And.intro (rowEq fun q hq => ?_) rfl) (And.intro (And.intro (algR p n U T) rfl) trivial))))
            show _ = (foldT p n T C R false i j q + (foldN p T C R false i j k q + vecT C i j k * owF p T R false j k q)) % p
            rw [hc]
            simp
        · have hge := of_decide_eq_false h
          obtain rfl : k = n := by omega
          refine Exists.intro (j + 1) (And.intro (by omega) (And.intro (by omega) (And.intro (And.intro rfl (And.intro rfl (And.intro rfl (And.intro rfl (And.intro rfl (And.intro rfl (And.intro rfl (And.intro (slotI (wrapS (by omega))) trivial)))))))) ?_)))
          exact And.intro (And.intro (hopR p k U T Z C S) rfl) (And.intro (And.intro (rowEq fun _ _ => rfl) rfl) (And.intro (And.intro (rowEq fun _ _ => rfl) rfl) (And.intro (And.intro (rowEq fun q hq => rfl) rfl) (And.intro (And.intro (algR p k U T) rfl) trivial))))
    · have hge := of_decide_eq_false h
      obtain rfl : j = n := by omega
      (repeat (first | refine And.intro (by omega) ?_ | refine And.intro ⟨by omega, by omega⟩ ?_))
      refine rowEq fun q hq => ?_
      show updR _ 0 8 _ q = _
      simp [updR, hq]

theorem l03FoldedT_s (p : Int) (n : Nat) (U T Z C S R : Nat → Int) (hV : HV p n U T Z C S) (hR : isU8 64 R) (hRz : ∀ a m, a < 8 → m < 8 → n ≤ m → partF R 8 a m = 0) (i : Nat) (hi : i < n) :
    Spec Tryz.prog 87 [hopV p n U T Z C S, .int .i64 i, .ints .u8 64 R, .bool true] [] (Ret (.ints .u8 8 fun y => foldT p n T C R true i n y % p)) := by
  have hn := hV.a.hn
  have hp := hV.a.hp
  have hT := hV.hT
  have hidx : (i : Int).toNat = i := by omega
  refine Spec.ret rfl (Spec.of_vc tabOK tabEq Tryz.func87 rfl (by kernel_rfl) rfl rfl ?_)
  refine And.intro trivial (Spec.mono (l03Algebra_s p n U T Z C S) ?_)
  rintro r m ⟨rfl, rfl⟩
  (repeat (first | refine And.intro (by omega) ?_ | refine And.intro ⟨by omega, by omega⟩ ?_))
  refine LoopVC.of (fun j : Nat => j ≤ n) (fun j => [(1, .int .i64 i), (3, .bool true), (4, .ptr 0 [] 0 0), (6, .ptr 1 [] 0 0), (8, .ptr 2 [] 0 0), (9, .ptr 3 [] 0 0), (10, .ptr 4 [] 0 0), (11, .int .i64 j)])
    (fun j => [some (hopV p n U T Z C S, 1106), some (.ints .u8 64 R, 64), some (.ints .u8 8 fun _ => 0, 8), some (.ints .u8 8 fun y => foldT p n T C R true i j y % p, 8), some (algV p n U T, 522)]) (fun j => n - j) 0 (by omega) ?_ ?_ ?_
  · exact (And.intro rfl (And.intro rfl (And.intro rfl (And.intro rfl (And.intro rfl (And.intro rfl (And.intro rfl (And.intro rfl (trivial)))))))))
  · exact And.intro (And.intro (hopR p n U T Z C S) rfl) (And.intro (And.intro (rowEq fun _ _ => rfl) rfl) (And.intro (And.intro (rowEq fun _ _ => rfl) rfl) (And.intro (And.intro (rowEq fun q hq => by show updR _ 0 8 _ q = _; simp [updR, hq, foldT, sumN]) rfl) (And.intro (And.intro (algR p n U T) rfl) trivial))))
  · intro j hj
    refine ifVC_split (fun h => ?_) (fun h => ?_)
    · have hltj := of_decide_eq_true h
      have hjdx : (j : Int).toNat = j := by omega
      refine LoopVC.of (fun k : Nat => k ≤ n) (fun k => [(1, .int .i64 i), (3, .bool true), (4, .ptr 0 [] 0 0), (6, .ptr 1 [] 0 0), (8, .ptr 2 [] 0 0), (9, .ptr 3 [] 0 0), (10, .ptr 4 [] 0 0), (11, .int .i64 j), (12, .int .i64 k)])
        (fun k => [some (hopV p n U T Z C S, 1106), some (.ints .u8 64 R, 64), some (.ints .u8 8 fun _ => 0, 8), some (.ints .u8 8 fun y => (foldT p n T C R true i j y + foldN p T C R true i j k y) % p, 8), some (algV p n U T, 522)]) (fun k => n - k) 0 (by omega) ?_ ?_ ?_
      · exact (And.intro rfl (And.intro rfl (And.intro rfl (And.intro rfl (And.intro rfl (And.intro rfl (And.intro rfl (And.intro rfl (And.intro rfl (trivial))))))))))
      · exact And.intro (And.intro (hopR p n U T Z C S) rfl) (And.intro (And.intro (rowEq fun _ _ => rfl) rfl) (And.intro (And.intro (rowEq fun _ _ => rfl) rfl) (And.intro (And.intro (rowEq fun q hq => by simp [foldN, sumN]) rfl) (And.intro (And.intro (algR p n U T) rfl) trivial))))
      · intro k hk
        refine ifVC_split (fun h => ?_) (fun h => ?_)
        · have hltk := of_decide_eq_true h
          have hkdx : (k : Int).toNat = k := by omega
          have hcv : C ((k : Int).toNat * 1 + ((j : Int).toNat * 8 + ((i : Int).toNat * 64 + 0))) = vecT C i j k := by rw [hjdx, hidx, hkdx]; unfold vecT; congr 1; omega
          have hcb := vec_u8 hV.hC (show i < 8 by omega) (show j < 8 by omega) (show k < 8 by omega)
          (repeat (first | refine And.intro (by omega) ?_ | refine And.intro ⟨by omega, by omega⟩ ?_))
          have hcw : IntKind.i64.wrap (C ((k : Int).toNat * 1 + ((j : Int).toNat * 8 + ((i : Int).toNat * 64 + 0)))) = vecT C i j k := by rw [hcv]; exact wrapI (by omega)
          refine ifVC_split (fun hc => ?_) (fun hc => ?_)
          · refine Exists.intro 8 (And.intro (by kernel_rfl) ?_)
            (repeat (first | refine And.intro (by omega) ?_ | refine And.intro ⟨by omega, by omega⟩ ?_))
            refine Exists.intro (.ints .u8 8 (unitV k)) (And.intro (And.intro rfl (And.intro rfl (Spec.mono (l01Basis_s k (by omega)) fun r m h => by rw [hkdx] at h; exact h.1))) ?_)
            refine Exists.intro (.ints .u8 8 fun y => timS p n T (partF R 8 j) (unitV k) n y % p) (And.intro (And.intro rfl (And.intro rfl ?_)) ?_)
            · refine Spec.mono (l01Times_s p n U T _ _ hp hn hT (fun q hq => hR _ (by omega)) (unitV_u8 k 8)) ?_
              rintro r m ⟨rfl, _⟩
              rw [hjdx]
              rfl
            (repeat (first | refine And.intro (by omega) ?_ | refine And.intro ⟨by omega, by omega⟩ ?_))
            refine Exists.intro 7 (And.intro (by kernel_rfl) ?_)
            (repeat (first | refine And.intro (by omega) ?_ | refine And.intro ⟨by omega, by omega⟩ ?_))
            refine Exists.intro (.ints .u8 8 (unitV j)) (And.intro (And.intro rfl (And.intro rfl (Spec.mono (l01Basis_s j (by omega)) fun r m h => by rw [hjdx] at h; exact h.1))) ?_)
            (repeat (first | refine And.intro (by omega) ?_ | refine And.intro ⟨by omega, by omega⟩ ?_))
            refine Exists.intro (.ints .u8 8 fun y => timS p n T (unitV j) (partF R 8 k) n y % p) (And.intro (And.intro rfl (And.intro rfl ?_)) ?_)
            · refine Spec.mono (l01Times_s p n U T _ _ hp hn hT (unitV_u8 j 8) (fun q hq => hR _ (by omega))) ?_
              rintro r m ⟨rfl, _⟩
              rw [hkdx]
              rfl
            have hrow : ∀ y, y < 8 → timS p n T (unitV j) (partF R 8 k) n y % p = owF p T R true j k y := fun y hy => prod_eq hV.a (fun m h1 h2 => unitV_ne (by omega)) (fun m h1 h2 => hRz k m (by omega) h2 h1) hy
            (repeat (first | refine And.intro (by omega) ?_ | refine And.intro ⟨by omega, by omega⟩ ?_))
            refine And.intro trivial (Spec.mono (l01Add_s p _ _ _ hp (by rw [hcw]; omega) (fun q hq => modB hp) (fun q hq => by simp only [updR]; rw [if_pos (by omega)]; exact modB hp)) ?_)
            rintro r m ⟨rfl, rfl⟩
            (repeat (first | refine And.intro (by omega) ?_ | refine And.intro ⟨by omega, by omega⟩ ?_))
            refine Exists.intro (k + 1) (And.intro (by omega) (And.intro (by omega) (And.intro (And.intro rfl (And.intro rfl (And.intro rfl (And.intro rfl (And.intro rfl (And.intro rfl (And.intro rfl (And.intro rfl (And.intro (slotI (wrapS (by omega))) trivial))))))))) ?_)))
            refine And.intro (And.intro (hopR p n U T Z C S) rfl) (And.intro (And.intro (rowEq fun _ _ => rfl) rfl) (And.intro (And.intro (rowEq fun _ _ => rfl) rfl) (And.intro (And.intro (rowEq fun q hq => ?_) rfl) (And.intro (And.intro (algR p n U T) rfl) trivial))))
            have e := hrow q hq
            show updR _ 0 8 _ q = (foldT p n T C R true i j q + (foldN p T C R true i j k q + vecT C i j k * owF p T R true j k q)) % p
            simp only [updR, Nat.zero_le, true_and, Nat.zero_add, hq, if_true, Nat.sub_zero, addM, Nat.add_zero]
            simp only [Nat.add_zero] at hcw
            rw [hcw, e, mod_add, Int.add_assoc]
          · have hc : vecT C i j k = 0 := by rw [← hcw]; simpa using hc
            refine Exists.intro (k + 1) (And.intro (by omega) (And.intro (by omega) (And.intro (And.intro rfl (And.intro rfl (And.intro rfl (And.intro rfl (And.intro rfl (And.intro rfl (And.intro rfl (And.intro rfl (And.intro (slotI (wrapS (by omega))) trivial))))))))) ?_)))
            refine And.intro (And.intro (hopR p n U T Z C S) rfl) (And.intro (And.intro (rowEq fun _ _ => rfl) rfl) (And.intro (And.intro (rowEq fun _ _ => rfl) rfl) (And.intro (And.intro (rowEq fun q hq => ?_) rfl) (And.intro (And.intro (algR p n U T) rfl) trivial))))
            show _ = (foldT p n T C R true i j q + (foldN p T C R true i j k q + vecT C i j k * owF p T R true j k q)) % p
            rw [hc]
            simp
        · have hge := of_decide_eq_false h
          obtain rfl : k = n := by omega
          refine Exists.intro (j + 1) (And.intro (by omega) (And.intro (by omega) (And.intro (And.intro rfl (And.intro rfl (And.intro rfl (And.intro rfl (And.intro rfl (And.intro rfl (And.intro rfl (And.intro (slotI (wrapS (by omega))) trivial)))))))) ?_)))
          exact And.intro (And.intro (hopR p k U T Z C S) rfl) (And.intro (And.intro (rowEq fun _ _ => rfl) rfl) (And.intro (And.intro (rowEq fun _ _ => rfl) rfl) (And.intro (And.intro (rowEq fun q hq => rfl) rfl) (And.intro (And.intro (algR p k U T) rfl) trivial))))
    · have hge := of_decide_eq_false h
      obtain rfl : j = n := by omega
      (repeat (first | refine And.intro (by omega) ?_ | refine And.intro ⟨by omega, by omega⟩ ?_))
      refine rowEq fun q hq => ?_
      show updR _ 0 8 _ q = _
      simp [updR, hq]
end Go.Proofs.YtegcfjfhpodlmabGreat

/- The search for the first condition that fails, as the model makes it; both sides tell the same number. -/
set_option linter.unusedVariables false
set_option linter.unusedSimpArgs false
set_option maxRecDepth 100000
set_option maxHeartbeats 1000000
namespace Go.Proofs.YtegcfjfhpodlmabGreat
open M

/-! ### the antipode's axioms -/
def antB (p : Int) (n : Nat) (U T Z C R : Nat → Int) (b : Bool) : Bool := (List.range n).all fun i => allEq 8 (fun y => foldT p n T C R b i n y % p) (addM p (fun _ => 0) (Z i) U)

theorem idF_part {n b : Nat} (hb : b < n) : ∀ y, y < 8 → partF (idF n) 8 b y = unitV b y := fun y hy => by
  unfold partF idF
  rw [if_pos (by omega), show (y + b * 8) / 8 = b by omega, show (y + b * 8) % 8 = y by omega]
theorem cw_left {p : Int} {n : Nat} {Z C : Nat → Int} (hV : Valid p n Z (dualF C)) (T R : Nat → Int) {i b : Nat} (hi : i < 8) (hb : b < 8) (y : Nat) : cw p T C R (idF n) i b y = foldN p T C R false i b n y % p := by
  have hn := hV.hn
  unfold cw
  rw [prodF_apply]
  unfold foldN
  rw [sumN_cut 8 hn fun k h1 h2 => by rw [co_zero hV hi hb h2 (.inr (.inr h1))]; simp]
  congr 1
  refine sumN_congr n fun k hk => ?_
  congr 1
  exact prodF_congr (fun _ _ => rfl) (fun y hy => idF_part hk y hy) y
theorem cw_right {p : Int} {n : Nat} {Z C : Nat → Int} (hV : Valid p n Z (dualF C)) (T R : Nat → Int) {i b : Nat} (hi : i < 8) (hb : b < n) (y : Nat) : cw p T C (idF n) R i b y = foldN p T C R true i b n y % p := by
  have hn := hV.hn
  unfold cw
  rw [prodF_apply]
  unfold foldN
  rw [sumN_cut 8 hn fun k h1 h2 => by rw [co_zero hV hi (by omega) h2 (.inr (.inr h1))]; simp]
  congr 1
  refine sumN_congr n fun k hk => ?_
  congr 1
  exact prodF_congr (fun y hy => idF_part hb y hy) (fun _ _ => rfl) y
theorem conv_fold {p : Int} {n : Nat} {T C R F G : Nat → Int} {b : Bool} {i y : Nat} (h : ∀ a, a < n → cw p T C F G i a y = foldN p T C R b i a n y % p) : convN p T C F G i n y % p = foldT p n T C R b i n y % p := by
  unfold convN foldT
  rw [sumN_congr n h, sumN_modl]
theorem ant_is {p : Int} {n : Nat} {U T Z C S R F G : Nat → Int} {b : Bool} (hV : HV p n U T Z C S) (h : ∀ i y, i < n → convN p T C F G i n y % p = foldT p n T C R b i n y % p) :
    antB p n U T Z C R b = allEq 64 (convF p n T C F G) (tenF p Z U) := by
  have hn := hV.a.hn
  rw [Bool.eq_iff_iff]
  constructor
  · intro ha
    refine List.all_eq_true.2 fun q hq => ?_
    have hq := List.mem_range.1 hq
    unfold convF tenF
    by_cases hr : q / 8 < n
    · have := allEq_get (List.all_eq_true.1 ha (q / 8) (List.mem_range.2 hr)) (show q % 8 < 8 by omega)
      rw [if_pos hr, h _ _ hr]
      unfold addM at this
      rw [Int.zero_add] at this
      simpa using this
    · rw [if_neg hr, hV.c.uzero (q / 8) (by omega) (by omega)]
      simp
  · intro ha
    refine List.all_eq_true.2 fun i hi => List.all_eq_true.2 fun y hy => ?_
    have hi := List.mem_range.1 hi
    have hy := List.mem_range.1 hy
    have := allEq_get ha (show i * 8 + y < 64 by omega)
    unfold convF tenF at this
    rw [show (i * 8 + y) / 8 = i by omega, show (i * 8 + y) % 8 = y by omega, if_pos hi, h _ _ hi] at this
    unfold addM
    rw [Int.zero_add]
    simpa using this
theorem ant_left {p : Int} {n : Nat} {U T Z C S : Nat → Int} (hV : HV p n U T Z C S) : antB p n U T Z C S false = ax6B p n U T Z C S := by
  have hn := hV.a.hn
  exact ant_is hV fun i y hi => conv_fold fun a ha => cw_left hV.c T S (by omega) (by omega) y
theorem ant_right {p : Int} {n : Nat} {U T Z C S : Nat → Int} (hV : HV p n U T Z C S) : antB p n U T Z C S true = ax7B p n U T Z C S := by
  have hn := hV.a.hn
  exact ant_is hV fun i y hi => conv_fold fun a ha => cw_right hV.c T S (by omega) ha y

theorem l03Folded_s {p : Int} {n : Nat} {U T Z C S R : Nat → Int} (hV : HV p n U T Z C S) (hR : isU8 64 R) (hRz : ∀ a m, a < 8 → m < 8 → n ≤ m → partF R 8 a m = 0) (b : Bool) (i : Nat) (hi : i < n) :
    Spec Tryz.prog 87 [hopV p n U T Z C S, .int .i64 i, .ints .u8 64 R, .bool b] [] (Ret (.ints .u8 8 fun y => foldT p n T C R b i n y % p)) := by
  cases b
  · exact l03FoldedF_s p n U T Z C S R hV hR hRz i hi
  · exact l03FoldedT_s p n U T Z C S R hV hR hRz i hi

theorem l03Antipode_s (p : Int) (n : Nat) (U T Z C S R : Nat → Int) (hV : HV p n U T Z C S) (hR : isU8 64 R) (hRz : ∀ a m, a < 8 → m < 8 → n ≤ m → partF R 8 a m = 0) (b : Bool) :
    Spec Tryz.prog 61 [hopV p n U T Z C S, .ints .u8 64 R, .bool b] [] (Ret (.bool (antB p n U T Z C R b))) := by
  have hn := hV.a.hn
  have hp := hV.a.hp
  refine Spec.ret rfl (Spec.of_vc tabOK tabEq Tryz.func61 rfl (by kernel_rfl) rfl rfl ?_)
  refine LoopVC.of (fun i : Nat => i ≤ n ∧ ∀ i', i' < i → allEq 8 (fun y => foldT p n T C R b i' n y % p) (addM p (fun _ => 0) (Z i') U) = true) (fun i => [(2, .bool b), (3, .ptr 0 [] 0 0), (4, .ptr 1 [] 0 0), (7, .int .i64 i)]) (fun _ => [some (hopV p n U T Z C S, 1106), some (.ints .u8 64 R, 64)]) (fun i => n - i) 0 ⟨by omega, fun i' h => by omega⟩ ?_ ?_ ?_
  · exact (And.intro rfl (And.intro rfl (And.intro rfl (And.intro rfl (trivial)))))
  · exact And.intro (And.intro (hopR p n U T Z C S) rfl) (And.intro (And.intro (rowEq fun _ _ => rfl) rfl) trivial)
  · rintro i ⟨hi, hall⟩
    refine ifVC_split (fun h => ?_) (fun h => ?_)
    · have hlt := of_decide_eq_true h
      have hzi := hV.hZ i (by omega)
      have hzw : IntKind.i64.wrap (Z ((i : Int).toNat * 1 + 0)) = Z i := by rw [show (i : Int).toNat * 1 + 0 = i by omega]; exact wrapI (by omega)
      refine Exists.intro 16 (And.intro (by kernel_rfl) ?_)
      (repeat (first | refine And.intro (by omega) ?_ | refine And.intro ⟨by omega, by omega⟩ ?_))
      refine Exists.intro (.ints .u8 8 fun y => foldT p n T C R b i n y % p) (And.intro (And.intro rfl (And.intro rfl (Spec.mono (l03Folded_s hV (fun q hq => hR _ (by omega)) hRz b i (by omega)) fun r m h => h.1))) ?_)
      (repeat (first | refine And.intro (by omega) ?_ | refine And.intro ⟨by omega, by omega⟩ ?_))
      refine Exists.intro (.ints .u8 8 (addM p (fun _ => 0) (Z i) U)) (And.intro (And.intro rfl (And.intro rfl ?_)) ?_)
      · refine Spec.mono (l01Add_s p _ _ _ hp (by rw [hzw]; omega) (fun q _ => by constructor <;> omega) (fun q hq => hV.hU _ (by omega))) ?_
        rintro r m ⟨rfl, _⟩
        rw [hzw]
        rfl
      refine ifVC_split (fun hc => ?_) (fun hc => ?_)
      · have hc : allEq 8 (fun y => foldT p n T C R b i n y % p) (addM p (fun _ => 0) (Z i) U) = false := by simpa using hc
        refine boolEq ?_
        cases ha : antB p n U T Z C R b with
        | false => rfl
        | true => have := List.all_eq_true.1 ha i (List.mem_range.2 (by omega)); rw [hc] at this; cases this
      · have hc : allEq 8 (fun y => foldT p n T C R b i n y % p) (addM p (fun _ => 0) (Z i) U) = true := by simpa using hc
        refine Exists.intro (i + 1) (And.intro ⟨by omega, fun i' hi' => ?_⟩ (And.intro (by omega) (And.intro (And.intro rfl (And.intro rfl (And.intro rfl (And.intro (slotI (wrapS (by omega))) trivial)))) (And.intro (And.intro (hopR p n U T Z C S) rfl) (And.intro (And.intro (rowEq fun _ _ => rfl) rfl) trivial)))))
        by_cases hii : i' = i
        · subst hii; exact hc
        · exact hall i' (by omega)
    · have hge := of_decide_eq_false h
      obtain rfl : i = n := by omega
      exact boolEq (by
        have : antB p i U T Z C R b = true := List.all_eq_true.2 fun i' hi' => hall i' (List.mem_range.1 hi')
        rw [this])

/-! ### the axioms of bialgebras -/
def biN (p : Int) (n : Nat) (U T Z C : Nat → Int) : Nat :=
  if algB p n U T = false then 1 else if coB p n Z C = false then 2 else if all2 n (ax3 p T C) = false then 3 else if ax4B p U C = false then 4
  else if (all2 n (ax5 p T Z) && (cnt p Z U == 1)) = false then 5 else 0
theorem fail_bi (p : Int) (n : Nat) (U T Z C S : Nat → Int) : failN p n U T Z C S = if biN p n U T Z C = 0 then (if ax6B p n U T Z C S = false then 6 else if ax7B p n U T Z C S = false then 7 else 0) else biN p n U T Z C := by
  unfold failN biN
  by_cases h0 : algB p n U T = false
  · simp [h0]
  by_cases h1 : coB p n Z C = false
  · simp [h0, h1]
  by_cases h2 : all2 n (ax3 p T C) = false
  · simp [h0, h1, h2]
  by_cases h3 : ax4B p U C = false
  · simp [h0, h1, h2, h3]
  by_cases h4 : (all2 n (ax5 p T Z) && (cnt p Z U == 1)) = false
  · rw [if_neg h0, if_neg h1, if_neg h2, if_neg h3, if_pos h4, if_neg h0, if_neg h1, if_neg h2, if_neg h3, if_pos h4]; simp
  · rw [if_neg h0, if_neg h1, if_neg h2, if_neg h3, if_neg h4, if_neg h0, if_neg h1, if_neg h2, if_neg h3, if_neg h4]; simp

def rowU (p : Int) (U C : Nat → Int) (j : Nat) : Bool := allEq 8 (partF (leftT p C U) 8 j) (addM p (fun _ => 0) (U j) U)
theorem ax4_yes {p : Int} {n : Nat} {U T Z C S : Nat → Int} (hV : HV p n U T Z C S) (h : ∀ j, j < n → rowU p U C j = true) : ax4B p U C = true := by
  have hn := hV.a.hn
  refine List.all_eq_true.2 fun q hq => ?_
  have hq := List.mem_range.1 hq
  unfold tenF
  by_cases hr : q / 8 < n
  · have := allEq_get (h _ hr) (show q % 8 < 8 by omega)
    unfold partF addM at this
    rw [show q % 8 + q / 8 * 8 = q by omega, Int.zero_add] at this
    simpa using this
  · rw [cop_left hV.c (fun i h1 h2 => hV.a.uzero i h2 h1) hq, if_neg hr, hV.a.uzero (q / 8) (by omega) (by omega)]
    simp
theorem ax4_no {p : Int} {U C : Nat → Int} {j : Nat} (hj : j < 8) (h : rowU p U C j = false) : ax4B p U C = false := by
  cases ha : ax4B p U C with
  | false => rfl
  | true =>
    have : rowU p U C j = true := List.all_eq_true.2 fun y hy => by
      have hy := List.mem_range.1 hy
      have := allEq_get ha (show y + j * 8 < 64 by omega)
      unfold tenF at this
      rw [show (y + j * 8) / 8 = j by omega, show (y + j * 8) % 8 = y by omega] at this
      unfold partF addM
      rw [Int.zero_add]
      simpa using this
    rw [h] at this; cases this

theorem co_part {p : Int} {n : Nat} {U T Z C S : Nat → Int} (hV : HV p n U T Z C S) {i : Nat} (hi : i < 8) : ∀ a m, a < 8 → m < 8 → n ≤ m → partF (partF C 64 i) 8 a m = 0 := fun a m ha hm h => by
  have := co_zero hV.c hi ha hm (.inr (.inr h))
  unfold vecT at this
  unfold partF
  rw [Nat.add_assoc]
  exact this

theorem l03Bialgebra_s (p : Int) (n : Nat) (U T Z C S : Nat → Int) (hV : HV p n U T Z C S) : Spec Tryz.prog 60 [hopV p n U T Z C S] [] (Ret (.int .i64 (biN p n U T Z C))) := by
  have hn := hV.a.hn
  have hp := hV.a.hp
  refine Spec.ret rfl (Spec.of_vc tabOK tabEq Tryz.func60 rfl (by kernel_rfl) rfl rfl ?_)
  refine Exists.intro 6 (And.intro (by kernel_rfl) ?_)
  refine Exists.intro (algV p n U T) (And.intro (And.intro rfl (And.intro rfl (Spec.mono (l03Algebra_s p n U T Z C S) fun r m h => h.1))) ?_)
  refine And.intro trivial (Spec.mono (l01Is_s p n U T hV.hU hV.hT) ?_)
  rintro r m ⟨rfl, rfl⟩
  refine ifVC_split (fun h0 => ?_) (fun h0 => ?_)
  · have h0 : algB p n U T = false := by simpa using h0
    exact slotI (by unfold biN; rw [if_pos h0]; rfl)
  have h0 : algB p n U T = true := by simpa using h0
  have n0 : ¬ algB p n U T = false := by rw [h0]; simp
  refine And.intro trivial (Spec.mono (l03Coalgebra_s p n U T Z C S) ?_)
  rintro r m ⟨rfl, rfl⟩
  refine And.intro trivial (Spec.mono (l02Is_s p n Z C hV.hZ hV.hC) ?_)
  rintro r m ⟨rfl, rfl⟩
  refine ifVC_split (fun h1 => ?_) (fun h1 => ?_)
  · have h1 : coB p n Z C = false := by simpa using h1
    exact slotI (by unfold biN; rw [if_neg n0, if_pos h1]; rfl)
  have h1 : coB p n Z C = true := by simpa using h1
  have n1 : ¬ coB p n Z C = false := by rw [h1]; simp
  refine LoopVC.of (fun i : Nat => i ≤ n ∧ ∀ a b, a < i → b < n → ax3 p T C a b = true) (fun i => [(1, .ptr 0 [] 0 0), (3, .int .i64 n), (5, .int .i64 i)]) (fun _ => [some (hopV p n U T Z C S, 1106), none]) (fun i => n - i) 0 ⟨by omega, fun a b h => by omega⟩ ?_ ?_ ?_
  · exact (And.intro rfl (And.intro rfl (And.intro rfl (trivial))))
  · exact And.intro (And.intro (hopR p n U T Z C S) rfl) trivial
  · rintro i ⟨hi, hall⟩
    refine ifVC_split (fun h => ?_) (fun h => ?_)
    · have hlti := of_decide_eq_true h
      have hidx : (i : Int).toNat = i := by omega
      refine LoopVC.of (fun j : Nat => j ≤ n ∧ ∀ b, b < j → ax3 p T C i b = true) (fun j => [(1, .ptr 0 [] 0 0), (3, .int .i64 n), (5, .int .i64 i), (6, .int .i64 j)]) (fun _ => [some (hopV p n U T Z C S, 1106), none]) (fun j => n - j) 0 ⟨by omega, fun b h => by omega⟩ ?_ ?_ ?_
      · exact (And.intro rfl (And.intro rfl (And.intro rfl (And.intro rfl (trivial)))))
      · exact And.intro (And.intro (hopR p n U T Z C S) rfl) trivial
      · rintro j ⟨hj, hallj⟩
        refine ifVC_split (fun h => ?_) (fun h => ?_)
        · have hltj := of_decide_eq_true h
          have hjdx : (j : Int).toNat = j := by omega
          refine Exists.intro 18 (And.intro (by kernel_rfl) ?_)
          (repeat (first | refine And.intro (by omega) ?_ | refine And.intro ⟨by omega, by omega⟩ ?_))
          refine Exists.intro (.ints .u8 64 (leftT p C (vecT T i j))) (And.intro (And.intro rfl (And.intro rfl ?_)) ?_)
          · rw [vec_is T i j hidx hjdx]
            exact Spec.mono (l03Coproduct_s p n U T Z C S _ hV.c hV.hC (vecT_u8 hV.hT (by omega) (by omega)) (fun m h1 h2 => hV.a.zero i j m (by omega) (by omega) h2 (.inr (.inr h1)))) fun r m h => h.1
          (repeat (first | refine And.intro (by omega) ?_ | refine And.intro ⟨by omega, by omega⟩ ?_))
          refine Exists.intro (.ints .u8 64 (pairsF p T (partF C 64 i) (partF C 64 j))) (And.intro (And.intro rfl (And.intro rfl ?_)) ?_)
          · rw [row_is C i hidx, row_is C j hjdx]
            exact Spec.mono (l03Pairs_s p n U T Z C S _ _ hV (part_u8 hV.hC (by omega)) (part_u8 hV.hC (by omega)) (co_part hV (by omega)) (co_part hV (by omega))) fun r m h => h.1
          refine ifVC_split (fun hc => ?_) (fun hc => ?_)
          · have hc : ax3 p T C i j = false := by
              unfold ax3
              simpa using hc
            exact slotI (by unfold biN; rw [if_neg n0, if_neg n1, if_pos (all2_no (by omega) (by omega) hc)]; rfl)
          · have hc : ax3 p T C i j = true := by
              unfold ax3
              simpa using hc
            refine Exists.intro (j + 1) (And.intro ⟨by omega, fun b hb => ?_⟩ (And.intro (by omega) (And.intro (And.intro rfl (And.intro rfl (And.intro rfl (And.intro (slotI (wrapS (by omega))) trivial)))) (And.intro (And.intro (hopR p n U T Z C S) rfl) trivial))))
            by_cases hbj : b = j
            · subst hbj; exact hc
            · exact hallj b (by omega)
        · have hge := of_decide_eq_false h
          refine Exists.intro (i + 1) (And.intro ⟨by omega, fun a b ha hb => ?_⟩ (And.intro (by omega) (And.intro (And.intro rfl (And.intro rfl (And.intro (slotI (wrapS (by omega))) trivial))) (And.intro (And.intro (hopR p n U T Z C S) rfl) trivial))))
          by_cases hai : a = i
          · subst hai; exact hallj b (by omega)
          · exact hall a b (by omega) hb
    · have hge := of_decide_eq_false h
      have h3 : all2 n (ax3 p T C) = true := all2_yes fun a b ha hb => hall a b (by omega) hb
      have n3 : ¬ all2 n (ax3 p T C) = false := by rw [h3]; simp
      (repeat (first | refine And.intro (by omega) ?_ | refine And.intro ⟨by omega, by omega⟩ ?_))
      refine And.intro trivial (Spec.mono (l03Coproduct_s p n U T Z C S _ hV.c hV.hC (fun q hq => hV.hU _ (by omega)) (fun m h1 h2 => hV.a.uzero m h2 h1)) ?_)
      rintro r m ⟨rfl, rfl⟩
      (repeat (first | refine And.intro (by omega) ?_ | refine And.intro ⟨by omega, by omega⟩ ?_))
      refine LoopVC.of (fun j : Nat => j ≤ n ∧ ∀ b, b < j → rowU p U C b = true) (fun j => [(1, .ptr 0 [] 0 0), (3, .int .i64 n), (7, .ptr 2 [] 0 0), (8, .int .i64 j)]) (fun _ => [some (hopV p n U T Z C S, 1106), none, some (.ints .u8 64 (leftT p C U), 64)]) (fun j => n - j) 0 ⟨by omega, fun b h => by omega⟩ ?_ ?_ ?_
      · exact (And.intro rfl (And.intro rfl (And.intro rfl (And.intro rfl (trivial)))))
      · exact And.intro (And.intro (hopR p n U T Z C S) rfl) (And.intro (And.intro (rowEq fun q hq => upd0 hq) rfl) trivial)
      · rintro j ⟨hj, hallj⟩
        refine ifVC_split (fun h => ?_) (fun h => ?_)
        · have hltj := of_decide_eq_true h
          have hjdx : (j : Int).toNat = j := by omega
          have huj := hV.hU j (by omega)
          have huw : IntKind.i64.wrap (U ((j : Int).toNat * 1 + 0)) = U j := by rw [show (j : Int).toNat * 1 + 0 = j by omega]; exact wrapI (by omega)
          refine Exists.intro 14 (And.intro (by kernel_rfl) ?_)
          (repeat (first | refine And.intro (by omega) ?_ | refine And.intro ⟨by omega, by omega⟩ ?_))
          refine Exists.intro (.ints .u8 8 (addM p (fun _ => 0) (U j) U)) (And.intro (And.intro rfl (And.intro rfl ?_)) ?_)
          · refine Spec.mono (l01Add_s p _ _ _ hp (by rw [huw]; omega) (fun q _ => by constructor <;> omega) (fun q hq => hV.hU _ (by omega))) ?_
            rintro r m ⟨rfl, _⟩
            rw [huw]
            rfl
          have he : allEq 8 (fun q => leftT p C U (q + ((j : Int).toNat * 8 + 0))) (addM p (fun _ => 0) (U j) U) = rowU p U C j := by rw [hjdx]; rfl
          refine ifVC_split (fun hc => ?_) (fun hc => ?_)
          · have hc : rowU p U C j = false := by rw [← he]; simpa using hc
            exact slotI (by unfold biN; rw [if_neg n0, if_neg n1, if_neg n3, if_pos (ax4_no (by omega) hc)]; rfl)
          · have hc : rowU p U C j = true := by rw [← he]; simpa using hc
            refine Exists.intro (j + 1) (And.intro ⟨by omega, fun b hb => ?_⟩ (And.intro (by omega) (And.intro (And.intro rfl (And.intro rfl (And.intro rfl (And.intro (slotI (wrapS (by omega))) trivial)))) (And.intro (And.intro (hopR p n U T Z C S) rfl) (And.intro (And.intro (rowEq fun _ _ => rfl) rfl) trivial)))))
            by_cases hbj : b = j
            · subst hbj; exact hc
            · exact hallj b (by omega)
        · have hge := of_decide_eq_false h
          have h4 : ax4B p U C = true := ax4_yes hV fun b hb => hallj b (by omega)
          have n4 : ¬ ax4B p U C = false := by rw [h4]; simp
          refine LoopVC.of (fun i : Nat => i ≤ n ∧ ∀ a b, a < i → b < n → ax5 p T Z a b = true) (fun i => [(1, .ptr 0 [] 0 0), (3, .int .i64 n), (9, .int .i64 i)]) (fun _ => [some (hopV p n U T Z C S, 1106), none, none]) (fun i => n - i) 0 ⟨by omega, fun a b h => by omega⟩ ?_ ?_ ?_
          · exact (And.intro rfl (And.intro rfl (And.intro rfl (trivial))))
          · exact And.intro (And.intro (hopR p n U T Z C S) rfl) trivial
          · rintro i ⟨hi, hall5⟩
            refine ifVC_split (fun h => ?_) (fun h => ?_)
            · have hlti := of_decide_eq_true h
              have hidx : (i : Int).toNat = i := by omega
              refine LoopVC.of (fun j : Nat => j ≤ n ∧ ∀ b, b < j → ax5 p T Z i b = true) (fun j => [(1, .ptr 0 [] 0 0), (3, .int .i64 n), (9, .int .i64 i), (10, .int .i64 j)]) (fun _ => [some (hopV p n U T Z C S, 1106), none, none]) (fun j => n - j) 0 ⟨by omega, fun b h => by omega⟩ ?_ ?_ ?_
              · exact (And.intro rfl (And.intro rfl (And.intro rfl (And.intro rfl (trivial)))))
              · exact And.intro (And.intro (hopR p n U T Z C S) rfl) trivial
              · rintro j ⟨hj, hallj⟩
                refine ifVC_split (fun h => ?_) (fun h => ?_)
                · have hltj := of_decide_eq_true h
                  have hjdx : (j : Int).toNat = j := by omega
                  refine Exists.intro 22 (And.intro (by kernel_rfl) ?_)
                  (repeat (first | refine And.intro (by omega) ?_ | refine And.intro ⟨by omega, by omega⟩ ?_))
                  refine Exists.intro (.int .i64 (cnt p Z (vecT T i j))) (And.intro (And.intro rfl (And.intro rfl ?_)) ?_)
                  · rw [vec_is T i j hidx hjdx]
                    exact Spec.mono (l03Counit_s p n U T Z C S _ hp hn hV.hZ (vecT_u8 hV.hT (by omega) (by omega)) (fun m h1 h2 => hV.a.zero i j m (by omega) (by omega) h2 (.inr (.inr h1)))) fun r m h => h.1
                  (repeat (first | refine And.intro (by omega) ?_ | refine And.intro ⟨by omega, by omega⟩ ?_))
                  have zi := hV.hZ i (by omega)
                  have zj := hV.hZ j (by omega)
                  have zz := mulB zi zj
                  have hb : IntKind.i64.wrap (IntKind.i64.wrap (Z ((i : Int).toNat * 1 + 0)) * IntKind.i64.wrap (Z ((j : Int).toNat * 1 + 0))) = Z i * Z j := by
                    rw [show (i : Int).toNat * 1 + 0 = i by omega, show (j : Int).toNat * 1 + 0 = j by omega, wrapI (x := Z i) (by omega), wrapI (x := Z j) (by omega), wrapI (by omega)]
                  refine ifVC_split (fun hc => ?_) (fun hc => ?_)
                  · have hc : ax5 p T Z i j = false := by rw [hb, Int.tmod_eq_emod_of_nonneg zz.1] at hc; unfold ax5; simpa using hc
                    exact slotI (by unfold biN; rw [if_neg n0, if_neg n1, if_neg n3, if_neg n4, if_pos (by rw [all2_no (by omega) (by omega) hc]; rfl)]; rfl)
                  · have hc : ax5 p T Z i j = true := by rw [hb, Int.tmod_eq_emod_of_nonneg zz.1] at hc; unfold ax5; simpa using hc
                    refine Exists.intro (j + 1) (And.intro ⟨by omega, fun b hb => ?_⟩ (And.intro (by omega) (And.intro (And.intro rfl (And.intro rfl (And.intro rfl (And.intro (slotI (wrapS (by omega))) trivial)))) (And.intro (And.intro (hopR p n U T Z C S) rfl) trivial))))
                    by_cases hbj : b = j
                    · subst hbj; exact hc
                    · exact hallj b (by omega)
                · have hge := of_decide_eq_false h
                  refine Exists.intro (i + 1) (And.intro ⟨by omega, fun a b ha hb => ?_⟩ (And.intro (by omega) (And.intro (And.intro rfl (And.intro rfl (And.intro (slotI (wrapS (by omega))) trivial))) (And.intro (And.intro (hopR p n U T Z C S) rfl) trivial))))
                  by_cases hai : a = i
                  · subst hai; exact hallj b (by omega)
                  · exact hall5 a b (by omega) hb
            · have hge := of_decide_eq_false h
              have h5 : all2 n (ax5 p T Z) = true := all2_yes fun a b ha hb => hall5 a b (by omega) hb
              (repeat (first | refine And.intro (by omega) ?_ | refine And.intro ⟨by omega, by omega⟩ ?_))
              refine And.intro trivial (Spec.mono (l03Counit_s p n U T Z C S _ hp hn hV.hZ (fun q hq => hV.hU _ (by omega)) (fun m h1 h2 => hV.a.uzero m h2 h1)) ?_)
              rintro r m ⟨rfl, rfl⟩
              have he : cnt p Z (fun j => U (j + 0)) = cnt p Z U := rfl
              refine ifVC_split (fun hc => ?_) (fun hc => ?_)
              · have hc : (cnt p Z U == 1) = false := by rw [← he]; simpa using hc
                exact slotI (by unfold biN; rw [if_neg n0, if_neg n1, if_neg n3, if_neg n4, if_pos (by rw [hc, Bool.and_false])]; rfl)
              · have hc : (cnt p Z U == 1) = true := by rw [← he]; simpa using hc
                exact slotI (by unfold biN; rw [if_neg n0, if_neg n1, if_neg n3, if_neg n4, if_neg (by rw [h5, hc]; simp)]; rfl)

theorem s_part {p : Int} {n : Nat} {U T Z C S : Nat → Int} (hV : HV p n U T Z C S) : ∀ a m, a < 8 → m < 8 → n ≤ m → partF S 8 a m = 0 := fun a m ha hm h => hV.szero a m ha hm (.inr h)

theorem anti_as (p : Int) (n : Nat) (U T Z C S : Nat → Int) (hV : HV p n U T Z C S) (b : Bool) :
    Spec Tryz.prog 61 [hopV p n U T Z C S, .ints .u8 64 (fun j => S (j + 0)), .bool b] [] (Ret (.bool (match b with | false => ax6B p n U T Z C S | true => ax7B p n U T Z C S))) := by
  cases b
  · have e : antB p n U T Z C (fun j => S (j + 0)) false = ax6B p n U T Z C S := ant_left hV
    show Spec Tryz.prog 61 _ [] (Ret (.bool (ax6B p n U T Z C S)))
    rw [← e]
    exact l03Antipode_s p n U T Z C S _ hV (fun q hq => hV.hS _ (by omega)) (s_part hV) false
  · have e : antB p n U T Z C (fun j => S (j + 0)) true = ax7B p n U T Z C S := ant_right hV
    show Spec Tryz.prog 61 _ [] (Ret (.bool (ax7B p n U T Z C S)))
    rw [← e]
    exact l03Antipode_s p n U T Z C S _ hV (fun q hq => hV.hS _ (by omega)) (s_part hV) true

theorem l03Fails_s (p : Int) (n : Nat) (U T Z C S : Nat → Int) (hV : HV p n U T Z C S) : Spec Tryz.prog 40 [hopV p n U T Z C S] [] (Ret (.int .i64 (failN p n U T Z C S))) := by
  refine Spec.ret rfl (Spec.of_vc tabOK tabEq Tryz.func40 rfl (by kernel_rfl) rfl rfl ?_)
  refine And.intro trivial (Spec.mono (l03Bialgebra_s p n U T Z C S hV) ?_)
  rintro r m ⟨rfl, rfl⟩
  refine ifVC_split (fun h => ?_) (fun h => ?_)
  · have h : ¬ biN p n U T Z C = 0 := by
      have h : (biN p n U T Z C : Int) ≠ 0 := by simpa using h
      omega
    exact slotI (by rw [fail_bi, if_neg h])
  have h : biN p n U T Z C = 0 := by
    have h : (biN p n U T Z C : Int) = 0 := by simpa using h
    omega
  (repeat (first | refine And.intro (by omega) ?_ | refine And.intro ⟨by omega, by omega⟩ ?_))
  refine And.intro trivial (Spec.mono (anti_as p n U T Z C S hV false) ?_)
  rintro r m ⟨rfl, rfl⟩
  refine ifVC_split (fun h6 => ?_) (fun h6 => ?_)
  · have h6 : ax6B p n U T Z C S = false := by simpa using h6
    exact slotI (by rw [fail_bi, if_pos h, if_pos h6]; rfl)
  have h6 : ax6B p n U T Z C S = true := by simpa using h6
  (repeat (first | refine And.intro (by omega) ?_ | refine And.intro ⟨by omega, by omega⟩ ?_))
  refine And.intro trivial (Spec.mono (anti_as p n U T Z C S hV true) ?_)
  rintro r m ⟨rfl, rfl⟩
  refine ifVC_split (fun h7 => ?_) (fun h7 => ?_)
  · have h7 : ax7B p n U T Z C S = false := by simpa using h7
    exact slotI (by rw [fail_bi, if_pos h, if_neg (by rw [h6]; simp), if_pos h7]; rfl)
  have h7 : ax7B p n U T Z C S = true := by simpa using h7
  exact slotI (by rw [fail_bi, if_pos h, if_neg (by rw [h6]; simp), if_neg (by rw [h7]; simp)]; rfl)

theorem l03Is_s (p n : Int) (U T Z C S : Nat → Int) (hU : isU8 8 U) (hT : isU8 512 T) (hZ : isU8 8 Z) (hC : isU8 512 C) (hS : isU8 64 S) :
    Spec Tryz.prog 18 [hopV p n U T Z C S] [] (Ret (.bool (hopB p n U T Z C S))) := by
  refine Spec.ret rfl (Spec.of_vc tabOK tabEq Tryz.func18 rfl (by kernel_rfl) rfl rfl ?_)
  refine And.intro trivial (Spec.mono (l03Shape_s p n U T Z C S hU hT hZ hC hS) ?_)
  rintro r m ⟨rfl, rfl⟩
  refine ifVC_split (fun h => ?_) (fun h => ?_)
  · obtain ⟨n, rfl, hV⟩ := hsh_valid hU hT hZ hC hS h
    refine And.intro trivial (Spec.mono (l03Fails_s p n U T Z C S hV) ?_)
    rintro r m ⟨rfl, rfl⟩
    refine boolEq ?_
    unfold hopB
    rw [h, Bool.true_and, Int.toNat_natCast, Bool.eq_iff_iff, beq_iff_eq, beq_iff_eq]
    omega
  · exact boolEq (by unfold hopB; rw [h]; rfl)
end Go.Proofs.YtegcfjfhpodlmabGreat

/- Functions of one Hopf algebra, on both sides, and the laws. -/
set_option linter.unusedVariables false
set_option linter.unusedSimpArgs false
set_option maxRecDepth 100000
set_option maxHeartbeats 1000000
namespace Go.Proofs.YtegcfjfhpodlmabGreat
open M

/-- nothing but zeros -/
abbrev zr : Nat → Int := fun _ => 0
theorem toHopf_s (p n : Int) (U T Z C S : Nat → Int) : Spec Tryz.prog 8 [hopV p n U T Z C S] [] (Ret (hopV p n U T Z C S)) := by
  refine Spec.ret rfl (Spec.of_vc tabOK tabEq Tryz.func8 rfl (by kernel_rfl) rfl rfl ?_)
  (repeat (first | refine And.intro (by omega) ?_ | refine And.intro ⟨by omega, by omega⟩ ?_))
  refine And.intro trivial (Spec.mono (toVector_s _) ?_)
  rintro r m ⟨rfl, rfl⟩
  change opsVC _ _ _ _ _ _ [some (hopV p n U T Z C S, 1106), some (hopV 0 0 zr zr zr zr zr, 1106), some (hopV p n zr zr zr zr zr, 1106)] _
  (repeat (first | refine And.intro (by omega) ?_ | refine And.intro ⟨by omega, by omega⟩ ?_))
  refine And.intro trivial (Spec.mono (toTable_s _) ?_)
  rintro r m ⟨rfl, rfl⟩
  change opsVC _ _ _ _ _ _ [some (hopV p n U T Z C S, 1106), some (hopV 0 0 zr zr zr zr zr, 1106), some (hopV p n (updR zr 0 8 U) zr zr zr zr, 1106)] _
  (repeat (first | refine And.intro (by omega) ?_ | refine And.intro ⟨by omega, by omega⟩ ?_))
  refine And.intro trivial (Spec.mono (toVector_s _) ?_)
  rintro r m ⟨rfl, rfl⟩
  change opsVC _ _ _ _ _ _ [some (hopV p n U T Z C S, 1106), some (hopV 0 0 zr zr zr zr zr, 1106), some (hopV p n (updR zr 0 8 U) (updR zr 0 512 T) zr zr zr, 1106)] _
  (repeat (first | refine And.intro (by omega) ?_ | refine And.intro ⟨by omega, by omega⟩ ?_))
  refine And.intro trivial (Spec.mono (toTable_s _) ?_)
  rintro r m ⟨rfl, rfl⟩
  change opsVC _ _ _ _ _ _ [some (hopV p n U T Z C S, 1106), some (hopV 0 0 zr zr zr zr zr, 1106), some (hopV p n (updR zr 0 8 U) (updR zr 0 512 T) (updR zr 0 8 Z) zr zr, 1106)] _
  (repeat (first | refine And.intro (by omega) ?_ | refine And.intro ⟨by omega, by omega⟩ ?_))
  refine And.intro trivial (Spec.mono (toLinear_s _) ?_)
  rintro r m ⟨rfl, rfl⟩
  change opsVC _ _ _ _ _ _ [some (hopV p n U T Z C S, 1106), some (hopV 0 0 zr zr zr zr zr, 1106), some (hopV p n (updR zr 0 8 U) (updR zr 0 512 T) (updR zr 0 8 Z) (updR zr 0 512 C) zr, 1106)] _
  (repeat (first | refine And.intro (by omega) ?_ | refine And.intro ⟨by omega, by omega⟩ ?_))
  exact hopE p n (fun j hj => upd0 hj) (fun j hj => upd0 hj) (fun j hj => upd0 hj) (fun j hj => upd0 hj) (fun j hj => upd0 hj)

section
variable (p n : Int) (U T Z C S : Nat → Int) (hU : isU8 8 U) (hT : isU8 512 T) (hZ : isU8 8 Z) (hC : isU8 512 C) (hS : isU8 64 S)
include hU hT hZ hC hS

/-! ### IsHopf, AxiomThatFails -/
def failV (p n : Int) (U T Z C S : Nat → Int) : SV := .tcons (.int .i64 (if hshB p n U T Z C S = true then (failN p n.toNat U T Z C S : Int) else 0)) (.tcons (.int .i64 (if hshB p n U T Z C S = true then 0 else 1)) .tnil)

end
end Go.Proofs.YtegcfjfhpodlmabGreat

/- Functions of a Hopf algebra and a vector, on both sides, and the laws. -/
set_option linter.unusedVariables false
set_option linter.unusedSimpArgs false
set_option maxRecDepth 100000
set_option maxHeartbeats 1000000
namespace Go.Proofs.YtegcfjfhpodlmabGreat
open M

section
variable (p n : Int) (U T Z C S : Nat → Int) (hU : isU8 8 U) (hT : isU8 512 T) (hZ : isU8 8 Z) (hC : isU8 512 C) (hS : isU8 64 S)
include hU hT hZ hC hS


/-! ### functions of a Hopf algebra and a vector -/
end

/-- a Hopf algebra and a vector for it -/
def hopOne (p n : Int) (U T Z C S v : Nat → Int) : Bool := hopB p n U T Z C S && entriesB p n v
theorem hopB_valid {p n : Int} {U T Z C S : Nat → Int} (hU : isU8 8 U) (hT : isU8 512 T) (hZ : isU8 8 Z) (hC : isU8 512 C) (hS : isU8 64 S) (h : hopB p n U T Z C S = true) : ∃ k : Nat, n = k ∧ HV p k U T Z C S := by
  unfold hopB at h
  simp only [Bool.and_eq_true] at h
  exact hsh_valid hU hT hZ hC hS h.1
section
variable (p n : Int) (U T Z C S : Nat → Int) (hU : isU8 8 U) (hT : isU8 512 T) (hZ : isU8 8 Z) (hC : isU8 512 C) (hS : isU8 64 S) (v : Nat → Int) (hv : isU8 8 v)
include hU hT hZ hC hS hv

/-! ### CounitOf -/
def hcounitV (p n : Int) (U T Z C S v : Nat → Int) : SV := .tcons (.int .i64 (if hopOne p n U T Z C S v = true then cnt p Z v else 0)) (.tcons (.int .i64 (if hopOne p n U T Z C S v = true then 0 else 1)) .tnil)
/-! ### CoproductOf -/
def hcoprodV (p n : Int) (U T Z C S v : Nat → Int) : SV := .tcons (.ints .u8 64 fun q => if hopOne p n U T Z C S v = true then leftT p C v q else 0) (.tcons (.int .i64 (if hopOne p n U T Z C S v = true then 0 else 1)) .tnil)
/-! ### AntipodeOf -/
def hantV (p n : Int) (U T Z C S v : Nat → Int) : SV := .tcons (.ints .u8 8 fun j => if hopOne p n U T Z C S v = true then linS S v 8 j % p else 0) (.tcons (.int .i64 (if hopOne p n U T Z C S v = true then 0 else 1)) .tnil)
end
end Go.Proofs.YtegcfjfhpodlmabGreat

/- Left integrals told: IsLeftIntegral on both sides, and the law. -/
set_option linter.unusedVariables false
set_option linter.unusedSimpArgs false
set_option maxRecDepth 100000
set_option maxHeartbeats 1000000
namespace Go.Proofs.YtegcfjfhpodlmabGreat
open M

/-- e(i) t, at m -/
def etF (p : Int) (T t : Nat → Int) (i m : Nat) : Int := sumN 8 (fun k => t k * vecT T i k m) % p
/-- e(i) t less the counit of e(i) times t, in rows -/
def faultF (p : Int) (T Z t : Nat → Int) : Nat → Int := fun q => (etF p T t (q / 8) (q % 8) + (p - Z (q / 8)) * t (q % 8)) % p
theorem flipF_at (T : Nat → Int) {i j m : Nat} (hj : j < 8) (hm : m < 8) : flipF T (i * 64 + j * 8 + m) = T (j * 64 + i * 8 + m) := by unfold flipF; congr 1; omega
theorem flip2_at (T : Nat → Int) {i j m : Nat} (hi : i < 8) (hj : j < 8) (hm : m < 8) : flipF (flipF T) (i * 64 + j * 8 + m) = T (i * 64 + j * 8 + m) := by rw [flipF_at _ hj hm, flipF_at _ hi hm]
theorem leftT_flip (p : Int) (T t : Nat → Int) {q : Nat} (hq : q < 64) : leftT p (flipF T) t q = etF p T t (q / 8) (q % 8) := by
  unfold leftT rightF etF
  rw [linS_sum]
  refine congrArg (· % p) (sumN_congr 8 fun k hk => ?_)
  have e : rowT (flipF (flipF T)) (q / 8) (k * 8 + q % 8) = vecT T (q / 8) k (q % 8) := by
    have := flip2_at T (i := q / 8) (j := k) (m := q % 8) (by omega) hk (by omega)
    unfold rowT vecT
    rw [show k * 8 + q % 8 + q / 8 * 64 = q / 8 * 64 + k * 8 + q % 8 by omega, this]
    congr 1; omega
  rw [e]
theorem integralFault_s (p : Int) (n : Int) (U T Z t : Nat → Int) (hp : 0 < p ∧ p < 256) (hT : isU8 512 T) (hZ : ∀ j, j < 8 → 0 ≤ Z j ∧ Z j < p) (ht : isU8 8 t) :
    Spec Tryz.prog 78 [algV p n U T, .ints .u8 8 Z, .ints .u8 8 t] [] (Ret (.ints .u8 64 (faultF p T Z t))) := by
  refine Spec.ret rfl (Spec.of_vc tabOK tabEq Tryz.func78 rfl (by kernel_rfl) rfl rfl ?_)
  refine Exists.intro 5 (And.intro (by kernel_rfl) ?_)
  refine Exists.intro (algV p n U (flipF T)) (And.intro (And.intro rfl (And.intro rfl (Spec.mono (opposite_s p n U T) fun r m h => h.1))) ?_)
  (repeat (first | refine And.intro (by omega) ?_ | refine And.intro ⟨by omega, by omega⟩ ?_))
  refine Exists.intro (.ints .u8 64 (leftT p (flipF T) t)) (And.intro (And.intro rfl (And.intro rfl (Spec.mono (leftTable_s p n U (flipF T) _ hp (fun q hq => hT _ (by omega)) (fun j hj => ht _ (by omega))) fun r m h => h.1))) ?_)
  (repeat (first | refine And.intro (by omega) ?_ | refine And.intro ⟨by omega, by omega⟩ ?_))
  refine LoopVC.of (fun i : Nat => i ≤ 8) (fun i => [(3, .ptr 0 [] 0 0), (5, .ptr 2 [] 0 0), (6, .ptr 3 [] 0 0), (7, .ptr 4 [] 0 0), (14, .ints .u8 8 Z), (15, .int .i64 i)])
    (fun i => [some (algV p n U T, 522), none, some (.ints .u8 8 t, 8), some (.ints .u8 64 fun _ => 0, 64), some (.ints .u8 64 fun q => if q < i * 8 then faultF p T Z t q else leftT p (flipF T) t q, 64)]) (fun i => 8 - i) 0 (by omega) ?_ ?_ ?_
  · exact And.intro rfl (And.intro rfl (And.intro rfl (And.intro rfl (And.intro (rowEq fun _ _ => rfl) (And.intro rfl trivial)))))
  · exact And.intro (And.intro (algR p n U T) rfl) (And.intro (And.intro (rowEq fun _ _ => rfl) rfl) (And.intro (And.intro (rowEq fun _ _ => rfl) rfl) (And.intro (And.intro (rowEq fun q hq => by show updR _ 0 64 _ q = _; simp [updR, hq]) rfl) trivial)))
  · intro i hi
    refine ifVC_split (fun h => ?_) (fun h => ?_)
    · have hlt := of_decide_eq_true h
      have hidx : (i : Int).toNat = i := by omega
      have hZi := hZ i (by omega)
      (repeat (first | refine And.intro (by omega) ?_ | refine And.intro ⟨by omega, by omega⟩ ?_))
      refine Exists.intro 14 (And.intro (by kernel_rfl) ?_)
      (repeat (first | refine And.intro (by omega) ?_ | refine And.intro ⟨by omega, by omega⟩ ?_))
      have hw : IntKind.i64.wrap (p - IntKind.i64.wrap (Z (i : Int).toNat)) = p - Z i := by rw [hidx, wrapI (x := Z i) (by omega), wrapI (by omega)]
      refine Exists.intro _ (And.intro (And.intro rfl (And.intro rfl (Spec.mono (addMultiple_s p (IntKind.i64.wrap (p - IntKind.i64.wrap (Z (i : Int).toNat))) _ _ hp (by rw [hw]; omega) (fun m hm => ?_) (fun j hj => ht _ (by omega))) fun r m h => h.1))) ?_)
      · rw [hidx]
        show 0 ≤ (if m + (i * 8 + 0) < i * 8 then _ else leftT p (flipF T) t (m + (i * 8 + 0))) ∧ (if m + (i * 8 + 0) < i * 8 then _ else leftT p (flipF T) t (m + (i * 8 + 0))) < 256
        rw [if_neg (by omega)]
        unfold leftT rightF
        exact modB hp
      (repeat (first | refine And.intro (by omega) ?_ | refine And.intro ⟨by omega, by omega⟩ ?_))
      refine Exists.intro (i + 1) (And.intro (by omega) (And.intro (by omega) (And.intro (And.intro rfl (And.intro rfl (And.intro rfl (And.intro rfl (And.intro (rowEq fun _ _ => rfl) (And.intro (slotI (wrapS (by omega))) trivial)))))) ?_)))
      refine And.intro (And.intro (algR p n U T) rfl) (And.intro (And.intro (rowEq fun _ _ => rfl) rfl) (And.intro (And.intro (rowEq fun _ _ => rfl) rfl) (And.intro (And.intro (rowEq fun q hq => ?_) rfl) trivial)))
      show updR _ ((i : Int).toNat * 8 + 0) 8 _ q = if q < (i + 1) * 8 then faultF p T Z t q else leftT p (flipF T) t q
      unfold updR
      rw [hidx]
      dsimp only
      by_cases e : i * 8 + 0 ≤ q ∧ q < i * 8 + 0 + 8
      · rw [hidx] at hw
        rw [if_pos e, if_pos (by omega), hw]
        show ((if q - (i * 8 + 0) + (i * 8 + 0) < i * 8 then _ else leftT p (flipF T) t (q - (i * 8 + 0) + (i * 8 + 0))) + (p - Z i) * t (q - (i * 8 + 0) + 0)) % p = faultF p T Z t q
        rw [if_neg (by omega), show q - (i * 8 + 0) + (i * 8 + 0) = q by omega, leftT_flip p T t hq]
        unfold faultF
        rw [show q / 8 = i by omega, show q - (i * 8 + 0) + 0 = q % 8 by omega]
      · rw [if_neg e]
        by_cases e2 : q < i * 8
        · rw [if_pos e2, if_pos (by omega)]
        · rw [if_neg e2, if_neg (by omega)]
    · have hge := of_decide_eq_false h
      obtain rfl : i = 8 := by omega
      (repeat (first | refine And.intro (by omega) ?_ | refine And.intro ⟨by omega, by omega⟩ ?_))
      refine rowEq fun q hq => ?_
      show updR _ 0 64 _ q = _
      simp [updR, hq]

/-! ### IsLeftIntegral -/
def lintB (p : Int) (T Z t : Nat → Int) : Bool := allEq 64 (faultF p T Z t) fun _ => 0
def hlintV (p n : Int) (U T Z C S t : Nat → Int) : SV := .tcons (.bool (hopOne p n U T Z C S t && lintB p T Z t)) (.tcons (.int .i64 (if hopOne p n U T Z C S t = true then 0 else 1)) .tnil)
section
variable (p n : Int) (U T Z C S : Nat → Int) (hU : isU8 8 U) (hT : isU8 512 T) (hZ : isU8 8 Z) (hC : isU8 512 C) (hS : isU8 64 S) (v : Nat → Int) (hv : isU8 8 v)
include hU hT hZ hC hS hv
end
end Go.Proofs.YtegcfjfhpodlmabGreat

/- Integrals of Hopf algebras of a finite size exist: plain sums of numbers modulo p; nothing of the translation is named here. -/
set_option linter.unusedVariables false
set_option linter.unusedSimpArgs false
set_option linter.unusedSectionVars false
namespace Go.Proofs.YtegcfjfhpodlmabGreat.LS
variable {p : Nat} [NeZero p]

/-! ### sums -/
def su : (n : Nat) → (Fin n → Fin p) → Fin p
  | 0, _ => 0
  | n + 1, f => f 0 + su n fun i => f i.succ
theorem su_congr : ∀ {n : Nat} {f g : Fin n → Fin p}, (∀ i, f i = g i) → su n f = su n g
  | 0, _, _, _ => rfl
  | n + 1, f, g, h => by show f 0 + _ = g 0 + _; rw [h 0, su_congr fun i => h i.succ]
theorem su_zero : ∀ n : Nat, su n (fun _ => (0 : Fin p)) = 0
  | 0 => rfl
  | n + 1 => by show (0 : Fin p) + su n (fun _ => 0) = 0; rw [su_zero n]; grind
theorem su_add : ∀ (n : Nat) (f g : Fin n → Fin p), su n (fun i => f i + g i) = su n f + su n g
  | 0, _, _ => by show (0 : Fin p) = 0 + 0; grind
  | n + 1, f, g => by show f 0 + g 0 + su n (fun i => f i.succ + g i.succ) = (f 0 + su n fun i => f i.succ) + (g 0 + su n fun i => g i.succ); rw [su_add n]; grind
theorem su_mul : ∀ (n : Nat) (c : Fin p) (f : Fin n → Fin p), c * su n f = su n fun i => c * f i
  | 0, c, _ => by show c * 0 = 0; grind
  | n + 1, c, f => by show c * (f 0 + su n fun i => f i.succ) = c * f 0 + su n fun i => c * f i.succ; rw [← su_mul n]; grind
theorem su_mul_r (n : Nat) (c : Fin p) (f : Fin n → Fin p) : su n f * c = su n fun i => f i * c := by
  rw [show su n f * c = c * su n f by grind, su_mul]; exact su_congr fun i => by grind
theorem su_comm : ∀ (n m : Nat) (f : Fin n → Fin m → Fin p), su n (fun i => su m fun j => f i j) = su m fun j => su n fun i => f i j
  | 0, m, f => (su_zero m).symm
  | n + 1, m, f => by
    show su m (fun j => f 0 j) + su n (fun i => su m fun j => f i.succ j) = su m fun j => f 0 j + su n fun i => f i.succ j
    rw [su_add, su_comm n m]
theorem su_pick : ∀ (n : Nat) (i : Fin n) (f : Fin n → Fin p), su n (fun j => (if j = i then (1 : Fin p) else 0) * f j) = f i
  | 0, i, _ => i.elim0
  | n + 1, i, f => by
    show (if (0 : Fin (n + 1)) = i then (1 : Fin p) else 0) * f 0 + su n (fun j => (if j.succ = i then (1 : Fin p) else 0) * f j.succ) = f i
    refine Fin.cases ?_ (fun k => ?_) i
    · rw [if_pos rfl, su_congr (g := fun _ => 0) (fun j => by rw [if_neg (Fin.succ_ne_zero j)]; grind), su_zero]; grind
    · rw [if_neg (fun h => Fin.succ_ne_zero k h.symm)]
      have := su_pick n k fun j => f j.succ
      rw [su_congr (g := fun j => (if j = k then (1 : Fin p) else 0) * f j.succ) fun j => by
        by_cases e : j = k
        · rw [if_pos e, if_pos (by rw [e])]
        · rw [if_neg e, if_neg (fun h => e (Fin.succ_inj.1 h))], this]
      grind

abbrev V (p n : Nat) := Fin n → Fin p
section
variable {n : Nat}
def e (i : Fin n) : V p n := fun j => if j = i then 1 else 0
/-- linear functions of vectors -/
def Lf (f : V p n → Fin p) : Prop := ∀ x, f x = su n fun i => x i * f (e i)
/-- linear maps -/
def Lm (M : V p n → V p n) : Prop := ∀ x m, M x m = su n fun i => x i * M (e i) m
theorem Lf.comp {f : V p n → Fin p} {M : V p n → V p n} (hf : Lf f) (hM : Lm M) : Lf fun x => f (M x) := fun x => by
  show f (M x) = su n fun i => x i * f (M (e i))
  rw [hf (M x), su_congr (g := fun m => su n fun i => x i * (M (e i) m * f (e m))) fun m => by rw [hM x m, su_mul_r]; exact su_congr fun i => by grind, su_comm]
  exact su_congr fun i => by rw [hf (M (e i)), su_mul]
theorem Lf.co (i : Fin n) : Lf fun x : V p n => x i := fun x => by
  have := su_pick n i x
  show x i = su n fun j => x j * e j i
  rw [← this]
  exact su_congr fun j => by
    unfold e
    by_cases h : j = i
    · rw [if_pos h, if_pos h.symm]; grind
    · rw [if_neg h, if_neg (fun h' => h h'.symm)]; grind
theorem Lm.id : Lm fun x : V p n => x := fun x m => Lf.co m x
theorem Lm.of {M : V p n → V p n} (h : ∀ m, Lf fun x => M x m) : Lm M := fun x m => h m x
theorem Lm.co {M : V p n → V p n} (h : Lm M) (m : Fin n) : Lf fun x => M x m := fun x => h x m
theorem Lf.mul {f : V p n → Fin p} (hf : Lf f) (c : Fin p) : Lf fun x => c * f x := fun x => by
  show c * f x = _; rw [hf x, su_mul]; exact su_congr fun i => by grind
theorem Lf.mul_r {f : V p n → Fin p} (hf : Lf f) (c : Fin p) : Lf fun x => f x * c := fun x => by
  show f x * c = _; rw [hf x, su_mul_r]; exact su_congr fun i => by grind
theorem Lf.su {m : Nat} {f : Fin m → V p n → Fin p} (hf : ∀ j, Lf (f j)) : Lf fun x => LS.su m fun j => f j x := fun x => by
  show LS.su m (fun j => f j x) = LS.su n fun i => x i * LS.su m fun j => f j (e i)
  rw [su_congr fun j => hf j x, su_comm]
  exact su_congr fun i => by rw [su_mul]
theorem Lf.at_e {f : V p n → Fin p} (i : Fin n) (g : Fin n → Fin p) : LS.su n (fun j => (e i : V p n) j * g j) = g i := by
  have := su_pick n i g
  exact this
/-- the trace of two maps, one after the other -/
theorem trace_comm {M N : V p n → V p n} (hM : Lm M) (hN : Lm N) : su n (fun i => M (N (e i)) i) = su n fun i => N (M (e i)) i := by
  rw [su_congr fun i => hM (N (e i)) i, su_congr (f := fun i => N (M (e i)) i) fun i => hN (M (e i)) i, su_comm]
  exact su_congr fun i => su_congr fun j => by grind
end

/-- a Hopf algebra in tables -/
structure Hopf (p n : Nat) [NeZero p] where
  T : Fin n → Fin n → Fin n → Fin p
  U : V p n
  C : Fin n → Fin n → Fin n → Fin p
  Z : V p n
  S : Fin n → Fin n → Fin p
variable {n : Nat} (H : Hopf p n)
namespace Hopf
def mul (x y : V p n) : V p n := fun m => su n fun i => su n fun j => x i * (y j * H.T i j m)
def ant (x : V p n) : V p n := fun m => su n fun i => x i * H.S i m
def eps (x : V p n) : Fin p := su n fun i => x i * H.Z i
def D (B : V p n → V p n → Fin p) (x : V p n) : Fin p := su n fun i => x i * su n fun j => su n fun k => H.C i j k * B (e j) (e k)

theorem mul_lm_l (y : V p n) : Lm fun x => H.mul x y := fun x m => by
  show su n _ = su n fun i => x i * su n fun i' => su n fun j => e i i' * (y j * H.T i' j m)
  refine su_congr fun i => ?_
  have h : su n (fun i' => su n fun j => (e i : V p n) i' * (y j * H.T i' j m)) = su n fun j => y j * H.T i j m := by
    rw [su_congr fun i' => (su_mul n ((e i : V p n) i') fun j => y j * H.T i' j m).symm]
    exact su_pick n i fun i' => su n fun j => y j * H.T i' j m
  rw [h, su_mul]
theorem mul_lm_r (x : V p n) : Lm fun y => H.mul x y := fun y m => by
  show su n (fun i => su n fun j => x i * (y j * H.T i j m)) = su n fun j => y j * su n fun i => su n fun j' => x i * (e j j' * H.T i j' m)
  rw [su_comm]
  refine su_congr fun j => ?_
  rw [su_mul]
  refine su_congr fun i => ?_
  have h : su n (fun j' => x i * ((e j : V p n) j' * H.T i j' m)) = x i * H.T i j m := by
    rw [← su_mul]
    exact congrArg (x i * ·) (su_pick n j fun j' => H.T i j' m)
  rw [h]; grind
theorem mul_l {M : V p n → V p n} (hM : Lm M) (y : V p n) : Lm fun x => H.mul (M x) y := Lm.of fun m => Lf.comp (f := fun x => H.mul x y m) (Lm.co (H.mul_lm_l y) m) hM
theorem mul_r {M : V p n → V p n} (hM : Lm M) (x : V p n) : Lm fun y => H.mul x (M y) := Lm.of fun m => Lf.comp (f := fun y => H.mul x y m) (Lm.co (H.mul_lm_r x) m) hM
theorem ant_lm : Lm H.ant := fun x m => by
  show su n (fun i => x i * H.S i m) = su n fun i => x i * su n fun i' => e i i' * H.S i' m
  exact su_congr fun i => congrArg (x i * ·) (su_pick n i fun i' => H.S i' m).symm
theorem ant_l {M : V p n → V p n} (hM : Lm M) : Lm fun x => H.ant (M x) := Lm.of fun m => Lf.comp (f := fun x => H.ant x m) (Lm.co H.ant_lm m) hM
theorem eps_lf : Lf H.eps := fun x => by
  show su n (fun i => x i * H.Z i) = su n fun i => x i * su n fun i' => e i i' * H.Z i'
  exact su_congr fun i => congrArg (x i * ·) (su_pick n i H.Z).symm
theorem D_e (B : V p n → V p n → Fin p) (i : Fin n) : H.D B (e i) = su n fun j => su n fun k => H.C i j k * B (e j) (e k) := su_pick n i fun i' => su n fun j => su n fun k => H.C i' j k * B (e j) (e k)
theorem D_lf (B : V p n → V p n → Fin p) : Lf (H.D B) := fun x => su_congr fun i => by rw [H.D_e B i]
theorem D_congr {B B' : V p n → V p n → Fin p} (h : ∀ j k, B (e j) (e k) = B' (e j) (e k)) (x : V p n) : H.D B x = H.D B' x :=
  su_congr fun i => congrArg (x i * ·) (su_congr fun j => su_congr fun k => by rw [h])
theorem D_mul_c (c : Fin p) (B : V p n → V p n → Fin p) (x : V p n) : H.D (fun a b => c * B a b) x = c * H.D B x := by
  show su n (fun i => x i * su n fun j => su n fun k => H.C i j k * (c * B (e j) (e k))) = c * su n fun i => x i * su n fun j => su n fun k => H.C i j k * B (e j) (e k)
  rw [su_mul]
  refine su_congr fun i => ?_
  rw [show c * (x i * su n fun j => su n fun k => H.C i j k * B (e j) (e k)) = x i * (c * su n fun j => su n fun k => H.C i j k * B (e j) (e k)) by grind]
  refine congrArg (x i * ·) ?_
  rw [su_mul]
  refine su_congr fun j => ?_
  rw [su_mul]
  exact su_congr fun k => by grind
theorem D_su {m : Nat} (B : Fin m → V p n → V p n → Fin p) (x : V p n) : H.D (fun a b => su m fun q => B q a b) x = su m fun q => H.D (B q) x := by
  show su n (fun i => x i * su n fun j => su n fun k => H.C i j k * su m fun q => B q (e j) (e k)) = su m fun q => su n fun i => x i * su n fun j => su n fun k => H.C i j k * B q (e j) (e k)
  rw [su_comm m n]
  refine su_congr fun i => ?_
  rw [← su_mul]
  refine congrArg (x i * ·) ?_
  rw [su_comm m n]
  refine su_congr fun j => ?_
  rw [su_comm m n]
  exact su_congr fun k => by rw [su_mul]
theorem D_lin {B : V p n → V p n → V p n → Fin p} (h : ∀ a b, Lf fun z => B z a b) (x : V p n) : Lf fun z => H.D (B z) x := fun z => by
  show H.D (B z) x = su n fun q => z q * H.D (B (e q)) x
  rw [H.D_congr (B' := fun a b => su n fun q => z q * B (e q) a b) fun j k => h _ _ z, D_su]
  exact su_congr fun q => H.D_mul_c _ _ _
theorem D_swap (B : V p n → V p n → V p n → V p n → Fin p) (x y : V p n) : H.D (fun a b => H.D (fun c d => B a b c d) y) x = H.D (fun c d => H.D (fun a b => B a b c d) x) y := by
  show su n (fun i => x i * su n fun j => su n fun k => H.C i j k * H.D (fun c d => B (e j) (e k) c d) y) = H.D (fun c d => su n fun i => x i * su n fun j => su n fun k => H.C i j k * B (e j) (e k) c d) y
  rw [D_su]
  refine su_congr fun i => ?_
  rw [D_mul_c, D_su]
  refine congrArg (x i * ·) (su_congr fun j => ?_)
  rw [D_su]
  exact su_congr fun k => by rw [D_mul_c]
end Hopf

/-- what is asked of the tables -/
structure Ax (H : Hopf p n) : Prop where
  assoc : ∀ i j k m, su n (fun q => H.T i j q * H.T q k m) = su n fun q => H.T j k q * H.T i q m
  unit_l : ∀ i m, su n (fun q => H.U q * H.T q i m) = if m = i then 1 else 0
  unit_r : ∀ i m, su n (fun q => H.U q * H.T i q m) = if m = i then 1 else 0
  coassoc : ∀ i j k l, su n (fun q => H.C i q l * H.C q j k) = su n fun q => H.C i j q * H.C q k l
  counit_l : ∀ i k, su n (fun j => H.C i j k * H.Z j) = if k = i then 1 else 0
  counit_r : ∀ i j, su n (fun k => H.C i j k * H.Z k) = if j = i then 1 else 0
  comul : ∀ i j a b, su n (fun q => H.T i j q * H.C q a b) = su n fun c => su n fun d => H.C i c d * su n fun f => su n fun g => H.C j f g * (H.T c f a * H.T d g b)
  counit_one : su n (fun q => H.U q * H.Z q) = 1
  coone : ∀ a b, su n (fun q => H.U q * H.C q a b) = H.U a * H.U b
  coeps : ∀ i j, su n (fun q => H.T i j q * H.Z q) = H.Z i * H.Z j
  ant_l : ∀ i m, su n (fun j => su n fun k => H.C i j k * su n fun q => H.S j q * H.T q k m) = H.Z i * H.U m
  ant_r : ∀ i m, su n (fun j => su n fun k => H.C i j k * su n fun q => H.S k q * H.T j q m) = H.Z i * H.U m

section
variable {H} (hA : Ax H)
include hA
namespace Ax
/-! ### laws for all vectors -/
theorem lf_ext {f g : V p n → Fin p} (hf : Lf f) (hg : Lf g) (h : ∀ i, f (e i) = g (e i)) (x : V p n) : f x = g x := by
  rw [hf x, hg x]; exact su_congr fun i => by rw [h i]
theorem mul_ee (i j m : Fin n) : H.mul (e i) (e j) m = H.T i j m := by
  show su n (fun i' => su n fun j' => (e i : V p n) i' * ((e j : V p n) j' * H.T i' j' m)) = _
  rw [su_congr fun i' => (su_mul n ((e i : V p n) i') fun j' => (e j : V p n) j' * H.T i' j' m).symm]
  exact (su_pick n i fun i' => su n fun j' => (e j : V p n) j' * H.T i' j' m).trans (su_pick n j fun j' => H.T i j' m)
theorem vec_e (x : V p n) (f : V p n → Fin p) (hf : Lf f) : f x = su n fun i => x i * f (e i) := hf x
theorem mul_assoc (x y z : V p n) : H.mul (H.mul x y) z = H.mul x (H.mul y z) := by
  funext m
  refine lf_ext hA (f := fun x => H.mul (H.mul x y) z m) (g := fun x => H.mul x (H.mul y z) m) (Lm.co (H.mul_l (H.mul_lm_l y) z) m) (Lm.co (H.mul_lm_l _) m) (fun i => ?_) x
  refine lf_ext hA (f := fun y => H.mul (H.mul (e i) y) z m) (g := fun y => H.mul (e i) (H.mul y z) m) (Lm.co (H.mul_l (H.mul_lm_r _) z) m) (Lm.co (H.mul_r (H.mul_lm_l z) _) m) (fun j => ?_) y
  refine lf_ext hA (f := fun z => H.mul (H.mul (e i) (e j)) z m) (g := fun z => H.mul (e i) (H.mul (e j) z) m) (Lm.co (H.mul_lm_r _) m) (Lm.co (H.mul_r (H.mul_lm_r _) _) m) (fun k => ?_) z
  have h1 := Lm.co (H.mul_lm_l (e k)) m (H.mul (e i) (e j))
  have h2 := Lm.co (H.mul_lm_r (e i)) m (H.mul (e j) (e k))
  dsimp only at h1 h2
  show H.mul (H.mul (e i) (e j)) (e k) m = H.mul (e i) (H.mul (e j) (e k)) m
  rw [h1, h2, su_congr (g := fun q => H.T i j q * H.T q k m) fun q => by rw [mul_ee hA, mul_ee hA], hA.assoc]
  exact su_congr fun q => by rw [mul_ee hA, mul_ee hA]
theorem one_mul (x : V p n) : H.mul H.U x = x := by
  funext m
  refine lf_ext hA (f := fun x => H.mul H.U x m) (g := fun x => x m) (Lm.co (H.mul_lm_r _) m) (Lf.co m) (fun i => ?_) x
  have h1 := Lm.co (H.mul_lm_l (e i)) m H.U
  dsimp only at h1
  show H.mul H.U (e i) m = e i m
  rw [h1, su_congr (g := fun q => H.U q * H.T q i m) fun q => by rw [mul_ee hA], hA.unit_l]
  rfl
theorem mul_one (x : V p n) : H.mul x H.U = x := by
  funext m
  refine lf_ext hA (f := fun x => H.mul x H.U m) (g := fun x => x m) (Lm.co (H.mul_lm_l _) m) (Lf.co m) (fun i => ?_) x
  have h1 := Lm.co (H.mul_lm_r (e i)) m H.U
  dsimp only at h1
  show H.mul (e i) H.U m = e i m
  rw [h1, su_congr (g := fun q => H.U q * H.T i q m) fun q => by rw [mul_ee hA], hA.unit_r]
  rfl
theorem eps_e (i : Fin n) : H.eps (e i) = H.Z i := su_pick n i H.Z
theorem eps_mul (x y : V p n) : H.eps (H.mul x y) = H.eps x * H.eps y := by
  refine lf_ext hA (f := fun x => H.eps (H.mul x y)) (g := fun x => H.eps x * H.eps y) (H.eps_lf.comp (H.mul_lm_l y)) (H.eps_lf.mul_r _) (fun i => ?_) x
  refine lf_ext hA (f := fun y => H.eps (H.mul (e i) y)) (g := fun y => H.eps (e i) * H.eps y) (H.eps_lf.comp (H.mul_lm_r _)) (H.eps_lf.mul _) (fun j => ?_) y
  show H.eps (H.mul (e i) (e j)) = _
  rw [show H.eps (H.mul (e i) (e j)) = su n fun q => H.mul (e i) (e j) q * H.Z q from rfl, su_congr (g := fun q => H.T i j q * H.Z q) fun q => by rw [mul_ee hA], hA.coeps, eps_e hA, eps_e hA]
theorem D_counit_l {f : V p n → Fin p} (hf : Lf f) (x : V p n) : H.D (fun a b => H.eps a * f b) x = f x := by
  refine lf_ext hA (H.D_lf _) hf (fun i => ?_) x
  rw [H.D_e, su_comm, su_congr (g := fun k => (e i : V p n) k * f (e k)) fun k => ?_]
  · exact su_pick n i fun k => f (e k)
  · rw [su_congr (g := fun j => H.C i j k * H.Z j * f (e k)) fun j => by rw [eps_e hA]; grind, ← su_mul_r, hA.counit_l]; rfl
theorem D_counit_r {f : V p n → Fin p} (hf : Lf f) (x : V p n) : H.D (fun a b => f a * H.eps b) x = f x := by
  refine lf_ext hA (H.D_lf _) hf (fun i => ?_) x
  rw [H.D_e, su_congr (g := fun j => (e i : V p n) j * f (e j)) fun j => ?_]
  · exact su_pick n i fun j => f (e j)
  · rw [su_congr (g := fun k => H.C i j k * H.Z k * f (e j)) fun k => by rw [eps_e hA]; grind, ← su_mul_r, hA.counit_r]; rfl
theorem D_coassoc (B : V p n → V p n → V p n → Fin p) (x : V p n) : H.D (fun a b => H.D (fun a1 a2 => B a1 a2 b) a) x = H.D (fun a b => H.D (fun b1 b2 => B a b1 b2) b) x := by
  refine lf_ext hA (H.D_lf _) (H.D_lf _) (fun i => ?_) x
  rw [H.D_e, H.D_e]
  have l : ∀ q l, H.C i q l * H.D (fun a1 a2 => B a1 a2 (e l)) (e q) = su n fun j => su n fun k => H.C i q l * H.C q j k * B (e j) (e k) (e l) := fun q l => by
    rw [H.D_e, su_mul]; exact su_congr fun j => by rw [su_mul]; exact su_congr fun k => by grind
  have r : ∀ j q, H.C i j q * H.D (fun b1 b2 => B (e j) b1 b2) (e q) = su n fun k => su n fun l => H.C i j q * H.C q k l * B (e j) (e k) (e l) := fun j q => by
    rw [H.D_e, su_mul]; exact su_congr fun k => by rw [su_mul]; exact su_congr fun l => by grind
  rw [su_congr fun q => su_congr fun l' => l q l', su_congr fun j => su_congr fun q => r j q]
  -- both to sums over j, k, l
  have hl : (su n fun q => su n fun l => su n fun j => su n fun k => H.C i q l * H.C q j k * B (e j) (e k) (e l)) = su n fun j => su n fun k => su n fun l => (su n fun q => H.C i q l * H.C q j k) * B (e j) (e k) (e l) := by
    rw [su_congr fun q => su_comm n n _, su_comm]
    refine su_congr fun j => ?_
    rw [su_congr fun q => su_comm n n _, su_comm]
    refine su_congr fun k => ?_
    rw [su_comm]
    exact su_congr fun l => by rw [su_mul_r]
  have hr : (su n fun j => su n fun q => su n fun k => su n fun l => H.C i j q * H.C q k l * B (e j) (e k) (e l)) = su n fun j => su n fun k => su n fun l => (su n fun q => H.C i j q * H.C q k l) * B (e j) (e k) (e l) := by
    refine su_congr fun j => ?_
    rw [su_comm]
    refine su_congr fun k => ?_
    rw [su_comm]
    exact su_congr fun l => by rw [su_mul_r]
  rw [hl, hr]
  exact su_congr fun j => su_congr fun k => su_congr fun l => by rw [hA.coassoc]
/-- linear in both -/
def Bil (B : V p n → V p n → Fin p) : Prop := (∀ b, Lf fun a => B a b) ∧ ∀ a, Lf (B a)
theorem D_ee {B : V p n → V p n → Fin p} (hB : (∀ b, Lf fun a => B a b) ∧ ∀ a, Lf (B a)) (x y : V p n) : B x y = su n fun a => su n fun b => x a * y b * B (e a) (e b) := by
  rw [show B x y = _ from hB.1 y x]
  refine su_congr fun a => ?_
  dsimp only
  rw [hB.2 (e a) y, su_mul]
  exact su_congr fun b => by grind
theorem su_comm22 (F : Fin n → Fin n → Fin n → Fin n → Fin p) : (su n fun f => su n fun g => su n fun a => su n fun b => F f g a b) = su n fun a => su n fun b => su n fun f => su n fun g => F f g a b := by
  rw [su_congr fun f => su_comm n n fun g a => su n fun b => F f g a b, su_comm n n fun f a => su n fun g => su n fun b => F f g a b]
  refine su_congr fun a => ?_
  rw [su_congr fun f => su_comm n n fun g b => F f g a b, su_comm n n fun f b => su n fun g => F f g a b]
theorem D_mul {B : V p n → V p n → Fin p} (h1 : ∀ b, Lf fun a => B a b) (h2 : ∀ a, Lf (B a)) (x y : V p n) : H.D B (H.mul x y) = H.D (fun x1 x2 => H.D (fun y1 y2 => B (H.mul x1 y1) (H.mul x2 y2)) y) x := by
  refine lf_ext hA (f := fun x => H.D B (H.mul x y)) ((H.D_lf B).comp (H.mul_lm_l y)) (H.D_lf _) (fun i => ?_) x
  refine lf_ext hA (f := fun y => H.D B (H.mul (e i) y)) (g := fun y => H.D (fun x1 x2 => H.D (fun y1 y2 => B (H.mul x1 y1) (H.mul x2 y2)) y) (e i)) ((H.D_lf B).comp (H.mul_lm_r _)) (H.D_lin (fun a b => H.D_lf _) _) (fun j => ?_) y
  have hl : H.D B (H.mul (e i) (e j)) = su n fun a => su n fun b => (su n fun q => H.T i j q * H.C q a b) * B (e a) (e b) := by
    show (su n fun q => H.mul (e i) (e j) q * su n fun a => su n fun b => H.C q a b * B (e a) (e b)) = _
    rw [su_congr (g := fun q => su n fun a => su n fun b => H.T i j q * H.C q a b * B (e a) (e b)) fun q => by
      rw [mul_ee hA, su_mul]; exact su_congr fun a => by rw [su_mul]; exact su_congr fun b => by grind, su_comm]
    refine su_congr fun a => ?_
    rw [su_comm]
    exact su_congr fun b => by rw [su_mul_r]
  have hr : H.D (fun x1 x2 => H.D (fun y1 y2 => B (H.mul x1 y1) (H.mul x2 y2)) (e j)) (e i) = su n fun a => su n fun b => (su n fun c => su n fun d => H.C i c d * su n fun f => su n fun g => H.C j f g * (H.T c f a * H.T d g b)) * B (e a) (e b) := by
    rw [H.D_e, su_congr (g := fun c => su n fun d => su n fun a => su n fun b => (H.C i c d * su n fun f => su n fun g => H.C j f g * (H.T c f a * H.T d g b)) * B (e a) (e b)) fun c => su_congr fun d => ?_, su_comm22 hA]
    · refine su_congr fun a => su_congr fun b => ?_
      rw [su_mul_r]
      exact su_congr fun c => by rw [su_mul_r]
    · rw [H.D_e, su_congr (g := fun f => su n fun g => su n fun a => su n fun b => H.C j f g * (H.T c f a * H.T d g b) * B (e a) (e b)) fun f => su_congr fun g => ?_, su_comm22 hA, su_mul]
      · refine su_congr fun a => ?_
        rw [su_mul]
        refine su_congr fun b => ?_
        rw [show (H.C i c d * su n fun f => su n fun g => H.C j f g * (H.T c f a * H.T d g b)) * B (e a) (e b) = H.C i c d * ((su n fun f => su n fun g => H.C j f g * (H.T c f a * H.T d g b)) * B (e a) (e b)) by grind, su_mul_r]
        refine congrArg (H.C i c d * ·) (su_congr fun f => ?_)
        rw [su_mul_r]
      · rw [D_ee hA ⟨h1, h2⟩, su_mul]
        refine su_congr fun a => ?_
        rw [su_mul]
        exact su_congr fun b => by rw [mul_ee hA, mul_ee hA]; grind
  show H.D B (H.mul (e i) (e j)) = _
  rw [hl, hr]
  exact su_congr fun a => su_congr fun b => by rw [hA.comul]
theorem D_one {B : V p n → V p n → Fin p} (h1 : ∀ b, Lf fun a => B a b) (h2 : ∀ a, Lf (B a)) : H.D B H.U = B H.U H.U := by
  rw [D_ee hA ⟨h1, h2⟩ H.U H.U]
  show (su n fun q => H.U q * su n fun a => su n fun b => H.C q a b * B (e a) (e b)) = _
  rw [su_congr (g := fun q => su n fun a => su n fun b => H.U q * H.C q a b * B (e a) (e b)) fun q => by
    rw [su_mul]; exact su_congr fun a => by rw [su_mul]; exact su_congr fun b => by grind, su_comm]
  refine su_congr fun a => ?_
  rw [su_comm]
  exact su_congr fun b => by rw [← su_mul_r, hA.coone]
theorem ant_e (j q : Fin n) : H.ant (e j) q = H.S j q := su_pick n j fun i => H.S i q
theorem D_ant_l {f : V p n → Fin p} (hf : Lf f) (x : V p n) : H.D (fun a b => f (H.mul (H.ant a) b)) x = H.eps x * f H.U := by
  refine lf_ext hA (g := fun x => H.eps x * f H.U) (H.D_lf _) (H.eps_lf.mul_r _) (fun i => ?_) x
  rw [H.D_e, eps_e hA, hf H.U, su_mul]
  have : ∀ j k, H.C i j k * f (H.mul (H.ant (e j)) (e k)) = su n fun m => (H.C i j k * su n fun q => H.S j q * H.T q k m) * f (e m) := fun j k => by
    rw [hf (H.mul (H.ant (e j)) (e k)), su_mul]
    refine su_congr fun m => ?_
    have h1 := Lm.co (H.mul_lm_l (e k)) m (H.ant (e j))
    dsimp only at h1
    rw [h1, su_congr (g := fun q => H.S j q * H.T q k m) fun q => by rw [ant_e hA, mul_ee hA]]
    grind
  rw [su_congr fun j => su_congr fun k => this j k, su_congr fun j => su_comm n n _, su_comm]
  refine su_congr fun m => ?_
  rw [su_congr fun j => (su_mul_r n _ _).symm, ← su_mul_r, hA.ant_l]
  grind
theorem D_ant_r {f : V p n → Fin p} (hf : Lf f) (x : V p n) : H.D (fun a b => f (H.mul a (H.ant b))) x = H.eps x * f H.U := by
  refine lf_ext hA (g := fun x => H.eps x * f H.U) (H.D_lf _) (H.eps_lf.mul_r _) (fun i => ?_) x
  rw [H.D_e, eps_e hA, hf H.U, su_mul]
  have : ∀ j k, H.C i j k * f (H.mul (e j) (H.ant (e k))) = su n fun m => (H.C i j k * su n fun q => H.S k q * H.T j q m) * f (e m) := fun j k => by
    rw [hf (H.mul (e j) (H.ant (e k))), su_mul]
    refine su_congr fun m => ?_
    have h1 := Lm.co (H.mul_lm_r (e j)) m (H.ant (e k))
    dsimp only at h1
    rw [h1, su_congr (g := fun q => H.S k q * H.T j q m) fun q => by rw [ant_e hA, mul_ee hA]]
    grind
  rw [su_congr fun j => su_congr fun k => this j k, su_congr fun j => su_comm n n _, su_comm]
  refine su_congr fun m => ?_
  rw [su_congr fun j => (su_mul_r n _ _).symm, ← su_mul_r, hA.ant_r]
  grind
theorem eps_one : H.eps H.U = 1 := hA.counit_one
theorem ant_one : H.ant H.U = H.U := by
  funext m
  have h := D_ant_l hA (Lf.co m) H.U
  rw [D_one hA (B := fun a b => H.mul (H.ant a) b m) (fun b => Lm.co (H.mul_l H.ant_lm b) m) (fun a => Lm.co (H.mul_lm_r _) m), mul_one hA, eps_one hA] at h
  rw [h]; grind
/-- S turns products round -/
theorem ant_mul (x y : V p n) : H.ant (H.mul x y) = H.mul (H.ant y) (H.ant x) := by
  funext m
  have hf : Lf fun z : V p n => z m := Lf.co m
  generalize hg : (fun z : V p n => z m) = f at hf
  suffices h : f (H.ant (H.mul x y)) = f (H.mul (H.ant y) (H.ant x)) by rw [← hg] at h; exact h
  have q1 : H.D (fun x1 x' => H.D (fun x2 x3 => H.D (fun y1 y' => H.D (fun y2 y3 => f (H.mul (H.mul (H.ant (H.mul x1 y1)) (H.mul x2 y2)) (H.mul (H.ant y3) (H.ant x3)))) y') y) x') x = f (H.ant (H.mul x y)) := by
    rw [H.D_congr (B' := fun x1 x' => f (H.ant (H.mul x1 y)) * H.eps x') fun j k => ?_]
    · exact D_counit_r hA (f := fun x1 => f (H.ant (H.mul x1 y))) (hf.comp (H.ant_l (H.mul_lm_l y))) x
    generalize (e j : V p n) = x1
    generalize (e k : V p n) = x'
    rw [H.D_congr (B' := fun x2 x3 => f (H.mul (H.ant (H.mul x1 y)) (H.mul x2 (H.ant x3)))) fun j k => ?_]
    · rw [D_ant_r hA (f := fun z => f (H.mul (H.ant (H.mul x1 y)) z)) (hf.comp (H.mul_lm_r _)), mul_one hA]; grind
    generalize (e j : V p n) = x2
    generalize (e k : V p n) = x3
    rw [H.D_congr (B' := fun y1 y' => f (H.mul (H.ant (H.mul x1 y1)) (H.mul x2 (H.ant x3))) * H.eps y') fun j k => ?_]
    · exact D_counit_r hA (f := fun y1 => f (H.mul (H.ant (H.mul x1 y1)) (H.mul x2 (H.ant x3)))) (hf.comp (H.mul_l (H.ant_l (H.mul_lm_r x1)) _)) y
    generalize (e j : V p n) = y1
    generalize (e k : V p n) = y'
    rw [H.D_congr (B' := fun y2 y3 => f (H.mul (H.ant (H.mul x1 y1)) (H.mul (H.mul x2 (H.mul y2 (H.ant y3))) (H.ant x3)))) fun j k => by simp only [mul_assoc hA]]
    rw [D_ant_r hA (f := fun z => f (H.mul (H.ant (H.mul x1 y1)) (H.mul (H.mul x2 z) (H.ant x3)))) (hf.comp (H.mul_r (H.mul_l (H.mul_lm_r x2) _) _)), mul_one hA]; grind
  rw [← q1, D_coassoc hA (fun x1 x2 x3 => H.D (fun y1 y' => H.D (fun y2 y3 => f (H.mul (H.mul (H.ant (H.mul x1 y1)) (H.mul x2 y2)) (H.mul (H.ant y3) (H.ant x3)))) y') y) x |>.symm]
  rw [H.D_congr (B' := fun x' x3 => H.eps x' * f (H.mul (H.ant y) (H.ant x3))) fun j k => ?_]
  · exact D_counit_l hA (f := fun x3 => f (H.mul (H.ant y) (H.ant x3))) (hf.comp (H.mul_r H.ant_lm _)) x
  generalize (e j : V p n) = x'
  generalize (e k : V p n) = x3
  rw [H.D_congr (B' := fun x1 x2 => H.D (fun y' y3 => H.D (fun y1 y2 => f (H.mul (H.mul (H.ant (H.mul x1 y1)) (H.mul x2 y2)) (H.mul (H.ant y3) (H.ant x3)))) y') y) fun j k => (D_coassoc hA (fun y1 y2 y3 => f (H.mul (H.mul (H.ant (H.mul (e j) y1)) (H.mul (e k) y2)) (H.mul (H.ant y3) (H.ant x3)))) y).symm, H.D_swap]
  rw [H.D_congr (B' := fun y' y3 => H.eps y' * (H.eps x' * f (H.mul (H.ant y3) (H.ant x3)))) fun j k => ?_]
  · exact D_counit_l hA (f := fun y3 => H.eps x' * f (H.mul (H.ant y3) (H.ant x3))) ((hf.comp (H.mul_l H.ant_lm _)).mul _) y
  generalize (e j : V p n) = y'
  generalize (e k : V p n) = y3
  rw [← D_mul hA (B := fun c d => f (H.mul (H.mul (H.ant c) d) (H.mul (H.ant y3) (H.ant x3)))) (fun b => hf.comp (H.mul_l (H.mul_l H.ant_lm b) _)) (fun a => hf.comp (H.mul_l (H.mul_lm_r _) _)) x' y',
    D_ant_l hA (f := fun z => f (H.mul z (H.mul (H.ant y3) (H.ant x3)))) (hf.comp (H.mul_lm_l _)), one_mul hA, eps_mul hA]
  grind

/-! ### integrals -/
def lam (H : Hopf p n) (v : V p n) : V p n := fun m => su n fun i => H.D (fun a b => a m * H.mul (H.ant (H.ant b)) v i) (e i)
theorem lam_f {f : V p n → Fin p} (hf : Lf f) (v : V p n) : f (lam H v) = su n fun i => H.D (fun a b => f a * H.mul (H.ant (H.ant b)) v i) (e i) := by
  rw [hf (lam H v)]
  show (su n fun m => (su n fun i => H.D (fun a b => a m * H.mul (H.ant (H.ant b)) v i) (e i)) * f (e m)) = _
  rw [su_congr fun m => su_mul_r n _ _, su_comm]
  refine su_congr fun i => ?_
  rw [H.D_congr (B' := fun a b => su n fun m => f (e m) * (a m * H.mul (H.ant (H.ant b)) v i)) fun j k => ?_, H.D_su]
  · exact su_congr fun m => by rw [H.D_mul_c]; grind
  · rw [hf (e j), su_mul_r]
    exact su_congr fun m => by grind
theorem lam_step {f h : V p n → Fin p} (hf : Lf f) (hh : Lf h) (x y v : V p n) : H.D (fun a b => f (H.mul x a) * h (H.mul (H.ant (H.ant b)) v)) y = H.D (fun x1 x2 => H.D (fun c d => f c * h (H.mul (H.ant x2) (H.mul (H.ant (H.ant d)) v))) (H.mul x1 y)) x := by
  refine Eq.symm ?_
  rw [H.D_congr (B' := fun x' x3 => H.D (fun x1 x2 => H.D (fun y1 y2 => f (H.mul x1 y1) * h (H.mul (H.ant x3) (H.mul (H.ant (H.ant (H.mul x2 y2))) v))) y) x') fun j k => ?_]
  · rw [D_coassoc hA (fun x1 x2 x3 => H.D (fun y1 y2 => f (H.mul x1 y1) * h (H.mul (H.ant x3) (H.mul (H.ant (H.ant (H.mul x2 y2))) v))) y) x]
    rw [H.D_congr (B' := fun x1 z => H.D (fun y1 y2 => f (H.mul x1 y1) * h (H.mul (H.ant (H.ant y2)) v)) y * H.eps z) fun j k => ?_]
    · exact (D_counit_r hA (f := fun x1 => H.D (fun y1 y2 => f (H.mul x1 y1) * h (H.mul (H.ant (H.ant y2)) v)) y) (H.D_lin (fun a b => (hf.comp (H.mul_lm_l a)).mul_r _) y) x)
    generalize (e j : V p n) = x1
    generalize (e k : V p n) = z
    rw [H.D_swap, H.D_congr (B' := fun y1 y2 => H.eps z * (f (H.mul x1 y1) * h (H.mul (H.ant (H.ant y2)) v))) fun j k => ?_, H.D_mul_c]
    · grind
    generalize (e j : V p n) = y1
    generalize (e k : V p n) = y2
    rw [H.D_mul_c, H.D_congr (B' := fun x2 x3 => h (H.mul (H.ant (H.mul (H.ant x2) x3)) (H.mul (H.ant (H.ant y2)) v))) fun j k => by simp only [ant_mul hA, mul_assoc hA],
      D_ant_l hA (f := fun z => h (H.mul (H.ant z) (H.mul (H.ant (H.ant y2)) v))) (hh.comp (H.mul_l H.ant_lm _)), ant_one hA, one_mul hA]
    grind
  · exact D_mul hA (B := fun c d => f c * h (H.mul (H.ant (e k)) (H.mul (H.ant (H.ant d)) v))) (fun b => hf.mul_r _) (fun a => (hh.comp (H.mul_r (H.mul_l (H.ant_l H.ant_lm) v) _)).mul _) (e j) y
theorem lam_int (x v : V p n) (m : Fin n) : H.mul x (lam H v) m = H.eps x * lam H v m := by
  have hf : Lf fun z : V p n => z m := Lf.co m
  have hr : lam H v m = su n fun i => H.D (fun a b => a m * H.mul (H.ant (H.ant b)) v i) (e i) := rfl
  rw [hr]
  generalize hg : (fun z : V p n => z m) = f at hf
  have hfm : ∀ z : V p n, z m = f z := fun z => by rw [← hg]
  have e1 := lam_f hA (f := fun z => H.mul x z m) (Lm.co (H.mul_lm_r x) m) v
  rw [e1]
  simp only [hfm]
  have psi : Lm fun w : V p n => (fun q => H.D (fun c d => f c * H.mul (H.ant (H.ant d)) v q) w : V p n) := Lm.of fun q => H.D_lf _
  rw [su_congr (g := fun i => H.D (fun x1 x2 => H.mul (H.ant x2) (fun q => H.D (fun c d => f c * H.mul (H.ant (H.ant d)) v q) (H.mul x1 (e i))) i) x) fun i => ?_]
  · rw [← H.D_su]
    rw [H.D_congr (B' := fun x1 x2 => su n fun i => H.D (fun c d => f c * H.mul (H.ant (H.ant d)) v i) (H.mul (H.mul x1 (H.ant x2)) (e i))) fun j k => ?_]
    · rw [D_ant_r hA (f := fun z => su n fun i => H.D (fun c d => f c * H.mul (H.ant (H.ant d)) v i) (H.mul z (e i))) (Lf.su fun i => (H.D_lf _).comp (H.mul_lm_l _)), su_congr (g := fun i => H.D (fun c d => f c * H.mul (H.ant (H.ant d)) v i) (e i)) fun i => by rw [one_mul hA]]
    · have := trace_comm (M := fun z => H.mul (H.ant (e k)) z) (N := fun z => (fun q => H.D (fun c d => f c * H.mul (H.ant (H.ant d)) v q) (H.mul (e j) z) : V p n)) (H.mul_lm_r _) (Lm.of fun q => (H.D_lf _).comp (H.mul_lm_r _))
      rw [this]
      exact su_congr fun i => by rw [mul_assoc hA]
  · rw [lam_step hA hf (Lf.co i) x (e i) v]
    refine H.D_congr (fun j k => ?_) x
    generalize H.mul (e j) (e i) = w
    have := Lm.co (H.mul_lm_r (H.ant (e k))) i (fun q => H.D (fun c d => f c * H.mul (H.ant (H.ant d)) v q) w)
    dsimp only at this
    rw [this, H.D_congr (B' := fun c d => su n fun q => H.mul (H.ant (e k)) (e q) i * (f c * H.mul (H.ant (H.ant d)) v q)) fun j' k' => ?_, H.D_su]
    · exact su_congr fun q => by rw [H.D_mul_c]; grind
    · have h2 := Lm.co (H.mul_lm_r (H.ant (e k))) i (H.mul (H.ant (H.ant (e k'))) v)
      dsimp only at h2
      rw [h2, su_mul]
      exact su_congr fun q => by grind
theorem recover {f : V p n → Fin p} (hf : Lf f) (v : V p n) : (su n fun k => H.D (fun a b => f a * b k) (lam H (H.mul (H.ant (e k)) v))) = f v := by
  rw [su_congr fun k => lam_f hA (H.D_lf (fun a b => f a * b k)) (H.mul (H.ant (e k)) v), su_comm, hf v]
  refine su_congr fun i => ?_
  rw [← H.D_su, H.D_congr (B' := fun a b => H.D (fun a1 a2 => f a1 * H.mul (H.ant (H.ant b)) (H.mul (H.ant a2) v) i) a) fun j k => ?_]
  · rw [D_coassoc hA (fun a1 a2 b => f a1 * H.mul (H.ant (H.ant b)) (H.mul (H.ant a2) v) i), H.D_congr (B' := fun a1 z => v i * f a1 * H.eps z) fun j k => ?_]
    · exact D_counit_r hA (f := fun a => v i * f a) (hf.mul _) (e i)
    · rw [H.D_mul_c, H.D_congr (B' := fun a2 b => H.mul (H.ant (H.mul a2 (H.ant b))) v i) fun j' k' => by simp only [ant_mul hA, mul_assoc hA],
        D_ant_r hA (f := fun z => H.mul (H.ant z) v i) (Lm.co (H.mul_l H.ant_lm v) i), ant_one hA, one_mul hA]
      grind
  · rw [H.D_congr (B' := fun a1 a2 => su n fun q => H.mul (H.ant (H.ant (e k))) (H.mul (H.ant (e q)) v) i * (f a1 * a2 q)) fun j' k' => ?_, H.D_su]
    · exact su_congr fun q => by rw [H.D_mul_c]; grind
    · have h2 := Lm.co (H.mul_r (H.mul_l H.ant_lm v) (H.ant (H.ant (e k)))) i (e k')
      dsimp only at h2
      rw [h2, su_mul]
      exact su_congr fun q => by grind
/-- there is a left integral other than 0 -/
theorem exists_int (h1 : (1 : Fin p) ≠ 0) : ∃ t : V p n, (∃ m, t m ≠ 0) ∧ ∀ x m, H.mul x t m = H.eps x * t m := by
  refine Classical.byContradiction fun hno => h1 ?_
  have hz : ∀ w, lam H w = fun _ => 0 := fun w => funext fun m => Classical.byContradiction fun hne => hno ⟨lam H w, ⟨m, hne⟩, fun x q => lam_int hA x w q⟩
  have := recover hA H.eps_lf H.U
  rw [eps_one hA] at this
  rw [← this, su_congr (g := fun _ => 0) fun k => ?_, su_zero]
  rw [hz, H.D_lf _ (fun _ => 0), su_congr (g := fun _ => 0) fun i => by grind, su_zero]
end Ax
end
/-- products and coproducts turned round -/
def Hopf.opcop (H : Hopf p n) : Hopf p n := ⟨fun i j m => H.T j i m, H.U, fun i j k => H.C i k j, H.Z, H.S⟩
theorem Ax.opcop {H : Hopf p n} (h : Ax H) : Ax H.opcop where
  assoc i j k m := by
    have := h.assoc k j i m
    show (su n fun q => H.T j i q * H.T k q m) = su n fun q => H.T k j q * H.T q i m
    exact this.symm
  unit_l i m := h.unit_r i m
  unit_r i m := h.unit_l i m
  coassoc i j k l := by
    have := h.coassoc i l k j
    show (su n fun q => H.C i l q * H.C q k j) = su n fun q => H.C i q j * H.C q l k
    exact this.symm
  counit_l i k := h.counit_r i k
  counit_r i j := h.counit_l i j
  comul i j a b := by
    show (su n fun q => H.T j i q * H.C q b a) = su n fun c => su n fun d => H.C i d c * su n fun f => su n fun g => H.C j g f * (H.T f c a * H.T g d b)
    rw [h.comul j i b a]
    have hl : ∀ X : Fin n → Fin n → Fin n → Fin n → Fin p, (su n fun c => su n fun d => H.C i d c * su n fun f => su n fun g => H.C j g f * X c d f g) = su n fun c => su n fun d => su n fun f => su n fun g => H.C i d c * (H.C j g f * X c d f g) := fun X =>
      su_congr fun c => su_congr fun d => by rw [su_mul]; exact su_congr fun f => by rw [su_mul]
    rw [hl fun c d f g => H.T f c a * H.T g d b]
    have hr : (su n fun c => su n fun d => H.C j c d * su n fun f => su n fun g => H.C i f g * (H.T c f b * H.T d g a)) = su n fun c => su n fun d => su n fun f => su n fun g => H.C j c d * (H.C i f g * (H.T c f b * H.T d g a)) :=
      su_congr fun c => su_congr fun d => by rw [su_mul]; exact su_congr fun f => by rw [su_mul]
    rw [hr, Ax.su_comm22 h]
    -- f, g, c, d on the one side; c, d, f, g on the other one
    rw [su_comm]
    refine su_congr fun g => su_congr fun f => ?_
    rw [su_comm]
    exact su_congr fun d => su_congr fun c => by grind
  counit_one := h.counit_one
  coone a b := by
    have := h.coone b a
    show (su n fun q => H.U q * H.C q b a) = H.U a * H.U b
    rw [this]; grind
  coeps i j := by
    have := h.coeps j i
    show (su n fun q => H.T j i q * H.Z q) = H.Z i * H.Z j
    rw [this]; grind
  ant_l i m := by
    show (su n fun j => su n fun k => H.C i k j * su n fun q => H.S j q * H.T k q m) = H.Z i * H.U m
    rw [su_comm]; exact h.ant_r i m
  ant_r i m := by
    show (su n fun j => su n fun k => H.C i k j * su n fun q => H.S k q * H.T q j m) = H.Z i * H.U m
    rw [su_comm]; exact h.ant_l i m
end Go.Proofs.YtegcfjfhpodlmabGreat.LS

/- Every Hopf algebra in tables has a left integral other than 0, and a right one. -/
set_option linter.unusedVariables false
set_option linter.unusedSimpArgs false
set_option linter.unusedSectionVars false
set_option maxRecDepth 100000
set_option maxHeartbeats 1000000
namespace Go.Proofs.YtegcfjfhpodlmabGreat
open M

section
variable {p : Nat} [NeZero p]
/-- a number modulo p -/
def ph (p : Nat) [NeZero p] (a : Int) : Fin p := Fin.ofNat p (a % p).toNat
theorem p_pos : (0 : Int) < p := by have := NeZero.ne p; omega
theorem ph_val (a : Int) : ((ph p a).val : Int) = a % p := by
  have h0 := Int.emod_nonneg a (b := p) (by have := p_pos (p := p); omega)
  have h1 := Int.emod_lt_of_pos a (p_pos (p := p))
  show (((a % p).toNat % p : Nat) : Int) = _
  rw [Nat.mod_eq_of_lt (by omega)]
  omega
theorem ph_ext {x y : Fin p} (h : (x.val : Int) = y.val) : x = y := Fin.ext (by omega)
theorem ph_eq {a b : Int} (h : a % p = b % p) : ph p a = ph p b := ph_ext (by rw [ph_val, ph_val, h])
theorem ph_inj {a b : Int} (h : ph p a = ph p b) : a % p = b % p := by rw [← ph_val, ← ph_val, h]
theorem ph_mod (a : Int) : ph p (a % p) = ph p a := ph_eq (Int.emod_emod _ _)
theorem ph_add (a b : Int) : ph p (a + b) = ph p a + ph p b := ph_ext (by
  rw [ph_val, Fin.val_add]
  push_cast
  rw [ph_val, ph_val]
  exact Int.add_emod _ _ _)
theorem ph_mul (a b : Int) : ph p (a * b) = ph p a * ph p b := ph_ext (by
  rw [ph_val, Fin.val_mul]
  push_cast
  rw [ph_val, ph_val]
  exact Int.mul_emod _ _ _)
theorem ph_zero : ph p 0 = 0 := by
  have h := ph_add (p := p) 0 0
  rw [show (0 : Int) + 0 = 0 by rfl] at h
  generalize ph p 0 = x at *
  grind
theorem ph_one (h1 : 1 < p) : ph p 1 = 1 := ph_ext (by
  rw [ph_val]
  show (1 : Int) % p = ((1 % p : Nat) : Int)
  rw [Nat.mod_eq_of_lt h1, Int.emod_eq_of_lt (by omega) (by omega)]; rfl)
theorem su_back : ∀ (n : Nat) (g : Nat → Fin p), LS.su (n + 1) (fun i => g i) = LS.su n (fun i => g i) + g n
  | 0, g => by show g 0 + 0 = 0 + g 0; grind
  | n + 1, g => by
    have := su_back n fun i => g (i + 1)
    show g 0 + LS.su (n + 1) (fun i => g (i + 1)) = g 0 + LS.su n (fun i => g (i + 1)) + g (n + 1)
    rw [this]; grind
theorem ph_sum (f : Nat → Int) : ∀ n : Nat, ph p (sumN n f) = LS.su n fun i => ph p (f i)
  | 0 => ph_zero
  | n + 1 => by
    show ph p (sumN n f + f n) = _
    rw [ph_add, ph_sum f n, su_back n fun i => ph p (f i)]
theorem ph_sum8 {n : Nat} (hn : n ≤ 8) (f : Nat → Int) (h : ∀ i, n ≤ i → i < 8 → f i = 0) : ph p (sumN 8 f) = LS.su n fun i => ph p (f i) := by rw [sumN_cut 8 hn h, ph_sum]
theorem ph_unit (h1 : 1 < p) {n : Nat} (i m : Fin n) : ph p (unitV i m) = if m = i then 1 else 0 := by
  unfold unitV
  by_cases e : m = i
  · rw [if_pos e, if_pos (by rw [e]), ph_one h1]
  · rw [if_neg e, if_neg (fun h => e (Fin.ext h)), ph_zero]

def toH (p n : Nat) [NeZero p] (U T Z C S : Nat → Int) : LS.Hopf p n := ⟨fun i j m => ph p (vecT T i j m), fun i => ph p (U i), fun i j k => ph p (vecT C i j k), fun i => ph p (Z i), fun i m => ph p (S (m + i * 8))⟩

theorem assL_get {p : Int} {n : Nat} {T : Nat → Int} (h : assL p n T = true) : assB p n T := fun i j k hi hj hk =>
  List.all_eq_true.1 (List.all_eq_true.1 (List.all_eq_true.1 h i (List.mem_range.2 hi)) j (List.mem_range.2 hj)) k (List.mem_range.2 hk)
theorem row_flip (T : Nat → Int) {q k m : Nat} (hq : q < 8) (hk : k < 8) (hm : m < 8) : rowT (flipF T) k (q * 8 + m) = vecT T q k m := by unfold rowT flipF vecT; congr 1; omega
theorem row_at (T : Nat → Int) (i q m : Nat) : rowT T i (q * 8 + m) = vecT T i q m := by unfold rowT vecT; congr 1; omega
theorem alg_ph (h1 : 1 < p) {n : Nat} {U T : Nat → Int} (hV : Valid p n U T) (ha : assB p n T) (hu : unitB p n U T = true) :
    (∀ i j k m : Fin n, (LS.su n fun q => ph p (vecT T i j q) * ph p (vecT T q k m)) = LS.su n fun q => ph p (vecT T j k q) * ph p (vecT T i q m)) ∧
    (∀ i m : Fin n, (LS.su n fun q => ph p (U q) * ph p (vecT T q i m)) = if m = i then 1 else 0) ∧
    (∀ i m : Fin n, (LS.su n fun q => ph p (U q) * ph p (vecT T i q m)) = if m = i then 1 else 0) := by
  have hn := hV.hn
  refine ⟨fun i j k m => ?_, fun i m => ?_, fun i m => ?_⟩
  · have h : rightF p T (vecT T i j) k m = leftF p T i (vecT T j k) m := allEq_get (ha i j k i.isLt j.isLt k.isLt) (by omega)
    unfold rightF leftF at h
    rw [linS_sum, linS_sum] at h
    have h := ph_eq h
    rw [ph_sum8 hn _ fun q h2 h3 => by rw [hV.zero i j q (by omega) (by omega) h3 (.inr (.inr h2)), Int.zero_mul], ph_sum8 hn _ fun q h2 h3 => by rw [hV.zero j k q (by omega) (by omega) h3 (.inr (.inr h2)), Int.zero_mul]] at h
    refine (LS.su_congr fun q => ?_).trans (h.trans (LS.su_congr fun q => ?_))
    · rw [row_flip T (by omega) (by omega) (by omega), ph_mul]
    · rw [row_at, ph_mul]
  · have h := List.all_eq_true.1 hu i (List.mem_range.2 i.isLt)
    simp only [unitOk, Bool.and_eq_true] at h
    have h := allEq_get h.1 (show m.val < 8 by omega)
    unfold rightF at h
    rw [linS_sum] at h
    have h := congrArg (ph p) h
    rw [ph_mod, ph_unit h1, ph_sum8 hn _ fun q h2 h3 => by rw [hV.uzero q h3 h2, Int.zero_mul]] at h
    rw [← h]
    exact LS.su_congr fun q => by rw [row_flip T (by omega) (by omega) (by omega), ph_mul]
  · have h := List.all_eq_true.1 hu i (List.mem_range.2 i.isLt)
    simp only [unitOk, Bool.and_eq_true] at h
    have h := allEq_get h.2 (show m.val < 8 by omega)
    unfold leftF at h
    rw [linS_sum] at h
    have h := congrArg (ph p) h
    rw [ph_mod, ph_unit h1, ph_sum8 hn _ fun q h2 h3 => by rw [hV.uzero q h3 h2, Int.zero_mul]] at h
    rw [← h]
    exact LS.su_congr fun q => by rw [row_at, ph_mul]
theorem prod_ph {n : Nat} {U T v w : Nat → Int} (hV : Valid p n U T) (hv : ∀ i, n ≤ i → i < 8 → v i = 0) (hw : ∀ i, n ≤ i → i < 8 → w i = 0) {m : Nat} (hm : m < 8) :
    ph p (prodF p T v w m) = LS.su n fun g => ph p (w g) * LS.su n fun d => ph p (v d) * ph p (vecT T d g m) := by
  have hn := hV.hn
  unfold prodF
  rw [ph_mod, linS_sum, ph_sum8 hn _ fun q h2 h3 => by rw [hw q h2 h3, Int.zero_mul]]
  refine LS.su_congr fun g => ?_
  rw [ph_mul]
  refine congrArg (ph p (w g) * ·) ?_
  unfold leftT rightF
  rw [show ((g : Nat) * 8 + m) / 8 = g by omega, show ((g : Nat) * 8 + m) % 8 = m by omega, ph_mod, linS_sum, ph_sum8 hn _ fun q h2 h3 => by rw [hv q h2 h3, Int.zero_mul]]
  exact LS.su_congr fun d => by rw [row_flip T (by omega) (by omega) (by omega), ph_mul]
theorem cop_ph {n : Nat} {C v : Nat → Int} (hn : n ≤ 8) (hv : ∀ i, n ≤ i → i < 8 → v i = 0) (a b : Fin n) : ph p (leftT p C v (a * 8 + b)) = LS.su n fun q => ph p (v q) * ph p (vecT C q a b) := by
  unfold leftT rightF
  rw [show ((a : Nat) * 8 + b) / 8 = a by omega, show ((a : Nat) * 8 + b) % 8 = b by omega, ph_mod, linS_sum, ph_sum8 hn _ fun q h2 h3 => by rw [hv q h2 h3, Int.zero_mul]]
  exact LS.su_congr fun q => by rw [row_flip C (by omega) (by omega) (by omega), ph_mul]
theorem id_at {n : Nat} {x : Nat → Int} (hn : n ≤ 8) (hx : ∀ i, n ≤ i → i < 8 → x i = 0) {g : Nat} (hg : g < 8) : linS (idF n) x 8 g = x g := by
  rw [linS_sum, sumN_pick _ 8 hg, sumN_none 8 fun i hi => ?_]
  · unfold idF
    rw [show (g * 8 + g) / 8 = g by omega, show (g * 8 + g) % 8 = g by omega]
    by_cases e : g < n
    · rw [if_pos e]; unfold unitV; rw [if_pos rfl]; omega
    · rw [if_neg e, hx g (by omega) hg]; rfl
  · by_cases e : i = g
    · rw [if_pos e]
    · rw [if_neg e]
      unfold idF
      rw [show (i * 8 + g) / 8 = i by omega, show (i * 8 + g) % 8 = g by omega]
      by_cases e2 : i < n
      · rw [if_pos e2]; unfold unitV; rw [if_neg (fun h => e h.symm)]; omega
      · rw [if_neg e2, Int.mul_zero]
/-- the axioms, modulo p -/
theorem hop_ax {n : Nat} {U T Z C S : Nat → Int} (h1 : 1 < p) (hV : HV p n U T Z C S) (hB : hopB p n U T Z C S = true) : LS.Ax (toH p n U T Z C S) := by
  have hn := hV.a.hn
  unfold hopB at hB
  simp only [Bool.and_eq_true, Int.toNat_natCast, beq_iff_eq] at hB
  have hf := hB.2
  unfold failN at hf
  have bt : ∀ {b : Bool}, ¬ b = false → b = true := fun h => by simpa using h
  by_cases c1 : algB p n U T = false
  · rw [if_pos c1] at hf; cases hf
  rw [if_neg c1] at hf
  by_cases c2 : coB p n Z C = false
  · rw [if_pos c2] at hf; cases hf
  rw [if_neg c2] at hf
  by_cases c3 : all2 n (ax3 p T C) = false
  · rw [if_pos c3] at hf; cases hf
  rw [if_neg c3] at hf
  by_cases c4 : ax4B p U C = false
  · rw [if_pos c4] at hf; cases hf
  rw [if_neg c4] at hf
  by_cases c5 : (all2 n (ax5 p T Z) && (cnt p Z U == 1)) = false
  · rw [if_pos c5] at hf; cases hf
  rw [if_neg c5] at hf
  by_cases c6 : ax6B p n U T Z C S = false
  · rw [if_pos c6] at hf; cases hf
  rw [if_neg c6] at hf
  by_cases c7 : ax7B p n U T Z C S = false
  · rw [if_pos c7] at hf; cases hf
  have c1 := bt c1
  have c2 := bt c2
  have c3 := bt c3
  have c4 := bt c4
  have c5 := bt c5
  have c6 := bt c6
  have c7 := bt c7
  clear hf hB bt
  unfold algB at c1
  unfold coB algB at c2
  simp only [Bool.and_eq_true, Int.toNat_natCast, beq_iff_eq] at c1 c2 c5
  obtain ⟨a1, a2, a3⟩ := alg_ph h1 hV.a (assL_get c1.2.1) c1.2.2
  obtain ⟨b1, b2, b3⟩ := alg_ph h1 hV.c (assL_get c2.2.1) c2.2.2
  have dv : ∀ i j k : Fin n, vecT (dualF C) j k i = vecT C i j k := fun i j k => dual_vec C (by omega) (by omega) (by omega)
  have cz : ∀ i j k, i < 8 → j < 8 → k < 8 → (n ≤ i ∨ n ≤ j ∨ n ≤ k) → vecT C i j k = 0 := fun i j k hi hj hk h => by
    rw [← dual_vec C hi hj hk]; exact hV.c.zero j k i hj hk hi (by omega)
  refine ⟨a1, a2, a3, fun i j k l => ?_, fun i k => ?_, fun i j => ?_, fun i j a b => ?_, ?_, fun a b => ?_, fun i j => ?_, fun i m => ?_, fun i m => ?_⟩
  · refine (LS.su_congr fun q => ?_).trans ((b1 j k l i).trans (LS.su_congr fun q => ?_))
    · show ph p (vecT C i q l) * ph p (vecT C q j k) = _
      rw [dv, dv]; grind
    · show _ = ph p (vecT C i j q) * ph p (vecT C q k l)
      rw [dv, dv]; grind
  · have := b2 k i
    rw [LS.su_congr (g := fun q : Fin n => ph p (vecT C i q k) * ph p (Z q)) fun q => by rw [dv]; grind] at this
    show (LS.su n fun j => ph p (vecT C i j k) * ph p (Z j)) = _
    rw [this]
    by_cases e : i = k
    · rw [if_pos e, if_pos e.symm]
    · rw [if_neg e, if_neg (fun h => e h.symm)]
  · have := b3 j i
    rw [LS.su_congr (g := fun q : Fin n => ph p (vecT C i j q) * ph p (Z q)) fun q => by rw [dv]; grind] at this
    show (LS.su n fun k => ph p (vecT C i j k) * ph p (Z k)) = _
    rw [this]
    by_cases e : i = j
    · rw [if_pos e, if_pos e.symm]
    · rw [if_neg e, if_neg (fun h => e h.symm)]
  · have h := allEq_get (all2_get c3 i.isLt j.isLt) (show a.val * 8 + b.val < 64 by omega)
    have h := congrArg (ph p) h
    rw [cop_ph hn (fun q h2 h3 => hV.a.zero i j q (by omega) (by omega) h3 (.inr (.inr h2)))] at h
    show (LS.su n fun q => ph p (vecT T i j q) * ph p (vecT C q a b)) = _
    rw [h]
    unfold pairsF pairT
    rw [ph_mod, ph_sum8 hn _ fun c h2 h3 => by
      unfold pairN
      exact sumN_none 8 fun f hf => by rw [show (a.val * 8 + b.val) / 8 = a by omega, hV.a.zero c f a h3 hf (by omega) (.inl h2), Int.zero_mul]]
    refine LS.su_congr fun c => ?_
    unfold pairN
    rw [ph_sum8 hn _ fun f h2 h3 => by rw [show (a.val * 8 + b.val) / 8 = a by omega, hV.a.zero c f a (by omega) h3 (by omega) (.inr (.inl h2)), Int.zero_mul]]
    have hw : ∀ f : Fin n, ph p (vecT T c f ((a.val * 8 + b.val) / 8) * pw p T (partF C 64 i) (partF C 64 j) c f ((a.val * 8 + b.val) % 8)) = LS.su n fun g => LS.su n fun d => ph p (vecT C i c d) * (ph p (vecT C j f g) * (ph p (vecT T c f a) * ph p (vecT T d g b))) := fun f => by
      have e1 : ∀ (i' x y : Nat), partF (partF C 64 i') 8 x y = vecT C i' x y := fun i' x y => by unfold partF vecT; congr 1; omega
      rw [show (a.val * 8 + b.val) / 8 = a by omega, show (a.val * 8 + b.val) % 8 = b by omega, ph_mul]
      unfold pw
      rw [prod_ph hV.a (fun x h2 h3 => by rw [e1]; exact cz i c x (by omega) (by omega) h3 (.inr (.inr h2))) (fun x h2 h3 => by rw [e1]; exact cz j f x (by omega) (by omega) h3 (.inr (.inr h2))) (by omega), LS.su_mul]
      refine LS.su_congr fun g => ?_
      rw [LS.su_mul, LS.su_mul]
      exact LS.su_congr fun d => by rw [e1, e1]; grind
    rw [LS.su_congr hw]
    show _ = LS.su n fun d => ph p (vecT C i c d) * LS.su n fun f => LS.su n fun g => ph p (vecT C j f g) * (ph p (vecT T c f a) * ph p (vecT T d g b))
    have hr : ∀ d : Fin n, (ph p (vecT C i c d) * LS.su n fun f => LS.su n fun g => ph p (vecT C j f g) * (ph p (vecT T c f a) * ph p (vecT T d g b))) = LS.su n fun f => LS.su n fun g => ph p (vecT C i c d) * (ph p (vecT C j f g) * (ph p (vecT T c f a) * ph p (vecT T d g b))) := fun d => by
      rw [LS.su_mul]; exact LS.su_congr fun f => by rw [LS.su_mul]
    rw [LS.su_congr hr]
    exact (LS.su_congr fun f => LS.su_comm n n _).trans (LS.su_comm n n _)
  · have h := congrArg (ph p) c5.2
    unfold cnt cntN at h
    rw [ph_mod, ph_one h1, ph_sum8 hn _ fun q h2 h3 => by rw [hV.a.uzero q h3 h2, Int.zero_mul]] at h
    rw [← h]
    exact LS.su_congr fun q => (ph_mul _ _).symm
  · have h := allEq_get c4 (show a.val * 8 + b.val < 64 by omega)
    have h := congrArg (ph p) h
    unfold tenF at h
    rw [cop_ph hn (fun q h2 h3 => hV.a.uzero q h3 h2), ph_mod, ph_mul, show (a.val * 8 + b.val) / 8 = a by omega, show (a.val * 8 + b.val) % 8 = b by omega] at h
    exact h
  · have h := all2_get c5.1 i.isLt j.isLt
    unfold ax5 cnt cntN at h
    have h := congrArg (ph p) (beq_iff_eq.1 h)
    rw [ph_mod, ph_mod, ph_mul, ph_sum8 hn _ fun q h2 h3 => by rw [hV.a.zero i j q (by omega) (by omega) h3 (.inr (.inr h2)), Int.zero_mul]] at h
    show _ = ph p (Z i) * ph p (Z j)
    rw [← h]
    exact LS.su_congr fun q => (ph_mul _ _).symm
  · have h := allEq_get c6 (show i.val * 8 + m.val < 64 by omega)
    have h := congrArg (ph p) h
    unfold convF tenF at h
    rw [show (i.val * 8 + m.val) / 8 = i by omega, show (i.val * 8 + m.val) % 8 = m by omega, if_pos i.isLt, ph_mod, ph_mod, ph_mul] at h
    unfold convN at h
    rw [ph_sum] at h
    show _ = ph p (Z i) * ph p (U m)
    rw [← h]
    refine LS.su_congr fun b => ?_
    unfold cw
    have e1 : ∀ g, g < 8 → linS (idF n) (vecT C i b) 8 g % p = vecT C i b g := fun g hg => by
      rw [id_at hn (fun x h2 h3 => cz i b x (by omega) (by omega) h3 (.inr (.inr h2))) hg]
      have := hV.c.lt b g i (by omega) hg (by omega)
      rw [dual_vec C (by omega) (by omega) hg] at this
      exact Int.emod_eq_of_lt this.1 this.2
    rw [prod_ph (v := partF S 8 b) (w := fun y => linS (idF n) (vecT C i b) 8 y % p) hV.a (fun x h2 h3 => hV.szero b x (by omega) h3 (.inr h2)) (fun x h2 h3 => by rw [e1 x h3]; exact cz i b x (by omega) (by omega) h3 (.inr (.inr h2))) (by omega)]
    exact LS.su_congr fun g => by rw [e1 g (by omega)]; rfl
  · have h := allEq_get c7 (show i.val * 8 + m.val < 64 by omega)
    have h := congrArg (ph p) h
    unfold convF tenF at h
    rw [show (i.val * 8 + m.val) / 8 = i by omega, show (i.val * 8 + m.val) % 8 = m by omega, if_pos i.isLt, ph_mod, ph_mod, ph_mul] at h
    unfold convN at h
    rw [ph_sum] at h
    show _ = ph p (Z i) * ph p (U m)
    rw [← h]
    refine LS.su_congr fun b => ?_
    unfold cw
    have sz : ∀ (x y : Nat), x < 8 → y < 8 → n ≤ y → linS S (vecT C i b) 8 y % p = 0 := fun _ y _ hy h2 => by
      rw [linS_sum, sumN_none 8 fun q hq => by
        rw [show q * 8 + y = y + q * 8 by omega, hV.szero q y hq hy (.inr h2), Int.mul_zero], Int.zero_emod]
    rw [prod_ph (v := partF (idF n) 8 b) (w := fun y => linS S (vecT C i b) 8 y % p) hV.a (fun x h2 h3 => by rw [idF_part b.isLt x h3]; unfold unitV; rw [if_neg (by omega)]) (fun x h2 h3 => sz 0 x (by omega) h3 h2) (by omega)]
    -- e(b) times the image
    have e1 : ∀ g : Fin n, ph p (linS S (vecT C i b) 8 g % p) = LS.su n fun k => ph p (vecT C i b k) * ph p (S (g + k * 8)) := fun g => by
      rw [ph_mod, linS_sum, ph_sum8 hn _ fun q h2 h3 => by rw [cz i b q (by omega) (by omega) h3 (.inr (.inr h2)), Int.zero_mul]]
      exact LS.su_congr fun k => by rw [ph_mul, Nat.add_comm]
    have e2 : ∀ g : Fin n, (LS.su n fun d => ph p (partF (idF n) 8 b d) * ph p (vecT T d g m)) = ph p (vecT T b g m) := fun g => by
      have := LS.su_pick n b fun d => ph p (vecT T d g m)
      rw [← this]
      exact LS.su_congr fun d => by rw [idF_part b.isLt d (by omega), ph_unit h1]
    refine Eq.symm ((LS.su_congr (g := fun g : Fin n => LS.su n fun k => ph p (vecT C i b k) * (ph p (S (g + k * 8)) * ph p (vecT T b g m))) fun g => ?_).trans ((LS.su_comm _ _ _).trans (LS.su_congr fun k => ?_)))
    · rw [e1, e2, LS.su_mul_r]; exact LS.su_congr fun k => by grind
    · rw [← LS.su_mul]
      rfl

theorem p_ne {p : Nat} (h : 2 ≤ p) : NeZero p := ⟨by omega⟩
/-- in numbers again -/
def backV {n : Nat} (t : Fin n → Fin p) : Nat → Int := fun j => if h : j < n then ((t ⟨j, h⟩).val : Int) else 0
theorem backV_ph {n : Nat} (t : Fin n → Fin p) (j : Fin n) : ph p (backV t j) = t j := ph_ext (by
  rw [ph_val]
  unfold backV
  rw [dif_pos j.isLt]
  have := (t j).isLt
  exact Int.emod_eq_of_lt (by omega) (by omega))
theorem backV_vec {n : Nat} (t : Fin n → Fin p) : VecP p n (backV t) :=
  ⟨fun j _ => by
    unfold backV
    by_cases h : j < n
    · rw [dif_pos h]; have := (t ⟨j, h⟩).isLt; omega
    · rw [dif_neg h]; have := p_pos (p := p); omega, fun j h1 _ => by unfold backV; rw [dif_neg (by omega)]⟩
theorem fault_of {n : Nat} {T Z : Nat → Int} (hn : n ≤ 8) (t : Fin n → Fin p) (hz : ∀ i j m, i < 8 → j < 8 → m < 8 → (n ≤ i ∨ n ≤ j ∨ n ≤ m) → vecT T i j m = 0) (hZ : ∀ j, j < 8 → n ≤ j → Z j = 0)
    (h : ∀ i m : Fin n, (LS.su n fun k => t k * ph p (vecT T i k m)) = ph p (Z i) * t m) : lintB p T Z (backV t) = true := by
  refine List.all_eq_true.2 fun q hq => beq_iff_eq.2 ?_
  have hq := List.mem_range.1 hq
  have ht := backV_vec t
  unfold faultF etF
  by_cases hi : q / 8 < n
  · by_cases hm : q % 8 < n
    · have h := h ⟨q / 8, hi⟩ ⟨q % 8, hm⟩
      have e : (sumN 8 (fun k => backV t k * vecT T (q / 8) k (q % 8))) % p = (Z (q / 8) * backV t (q % 8)) % p := ph_inj (by
        rw [ph_sum8 hn _ fun k h2 h3 => by rw [ht.out k h2 h3, Int.zero_mul], ph_mul]
        have e2 := backV_ph t ⟨q % 8, hm⟩
        have e2 : ph p (backV t (q % 8)) = t ⟨q % 8, hm⟩ := e2
        rw [e2, ← h]
        exact LS.su_congr fun k => by rw [ph_mul, backV_ph])
      rw [e]
      have : (Z (q / 8) * backV t (q % 8) % p + (p - Z (q / 8)) * backV t (q % 8)) % p = (Z (q / 8) * backV t (q % 8) + (p - Z (q / 8)) * backV t (q % 8)) % p := Int.emod_add_emod _ _ _
      rw [this, show Z (q / 8) * backV t (q % 8) + (p - Z (q / 8)) * backV t (q % 8) = p * backV t (q % 8) by grind, Int.mul_emod_right]
    · rw [sumN_none 8 fun k hk => by rw [hz _ k _ (by omega) hk (by omega) (.inr (.inr (by omega))), Int.mul_zero], ht.out (q % 8) (by omega) (by omega)]
      simp
  · rw [sumN_none 8 fun k hk => by rw [hz _ k _ (by omega) hk (by omega) (.inl (by omega)), Int.mul_zero], hZ (q / 8) (by omega) (by omega)]
    simp
end
theorem fin_pick {p n : Nat} [NeZero p] (H : LS.Hopf p n) (x : LS.V p n) (i m : Fin n) : H.mul (LS.e i) x m = LS.su n fun k => x k * H.T i k m := by
  have h := LS.Lm.co (H.mul_lm_r (LS.e i)) m x
  dsimp only at h
  rw [h]
  refine LS.su_congr fun k => congrArg (x k * ·) ?_
  show (LS.su n fun i' => LS.su n fun j' => (LS.e i : LS.V p n) i' * ((LS.e k : LS.V p n) j' * H.T i' j' m)) = _
  rw [LS.su_congr fun i' => (LS.su_mul n ((LS.e i : LS.V p n) i') fun j' => (LS.e k : LS.V p n) j' * H.T i' j' m).symm]
  exact (LS.su_pick n i fun i' => LS.su n fun j' => (LS.e k : LS.V p n) j' * H.T i' j' m).trans (LS.su_pick n k fun j' => H.T i j' m)
/-- a left integral other than 0, and one of the algebra turned round -/
theorem ints_exist {p n : Nat} {U T Z C S : Nat → Int} (hp2 : 2 ≤ p) (hV : HV p n U T Z C S) (hB : hopB p n U T Z C S = true) :
    (∃ t, VecP p n t ∧ (∃ j, j < 8 ∧ t j ≠ 0) ∧ lintB p T Z t = true) ∧ ∃ t, VecP p n t ∧ (∃ j, j < 8 ∧ t j ≠ 0) ∧ lintB p (flipF T) Z t = true := by
  have hn := hV.a.hn
  haveI := p_ne hp2
  have h1 : (1 : Fin p) ≠ 0 := fun h => by
    have := congrArg Fin.val h
    have h2 : (1 : Fin p).val = 1 % p := rfl
    rw [h2, Nat.mod_eq_of_lt (by omega)] at this
    cases this
  have hA := hop_ax (p := p) (by omega) hV hB
  have nz : ∀ t : Fin n → Fin p, (∃ m, t m ≠ 0) → ∃ j, j < 8 ∧ backV t j ≠ 0 := fun t ⟨m, hm⟩ => ⟨m, by omega, fun h => hm (by
    have e := backV_ph t m
    rw [h, ph_zero] at e
    exact e.symm)⟩
  constructor
  · obtain ⟨t, hne, ht⟩ := LS.Ax.exists_int hA h1
    refine ⟨backV t, backV_vec t, nz t hne, fault_of hn t hV.a.zero hV.c.uzero fun i m => ?_⟩
    have h := ht (LS.e i) m
    rw [fin_pick, LS.Ax.eps_e hA] at h
    exact h
  · obtain ⟨t, hne, ht⟩ := LS.Ax.exists_int (LS.Ax.opcop hA) h1
    have fz : ∀ i j m : Nat, j < 8 → m < 8 → vecT (flipF T) i j m = vecT T j i m := fun i j m hj hm => by
      unfold vecT
      rw [show m + (j * 8 + i * 64) = i * 64 + j * 8 + m by omega, flipF_at T hj hm]
      congr 1; omega
    refine ⟨backV t, backV_vec t, nz t hne, fault_of hn t (fun i j m hi hj hm h => by rw [fz i j m hj hm]; exact hV.a.zero j i m hj hi hm (by omega)) hV.c.uzero fun i m => ?_⟩
    have h := ht (LS.e i) m
    rw [fin_pick, LS.Ax.eps_e (LS.Ax.opcop hA)] at h
    rw [← show _ = ph p (Z i) * t m from h]
    exact LS.su_congr fun k => by rw [fz i k m (by omega) (by omega)]; rfl
end Go.Proofs.YtegcfjfhpodlmabGreat

/- Spaces of integrals: what they are, and the model's lists of them. -/
set_option linter.unusedVariables false
set_option linter.unusedSimpArgs false
set_option maxRecDepth 100000
set_option maxHeartbeats 4000000
namespace Go.Proofs.YtegcfjfhpodlmabGreat
open M

theorem sumN_modp (p : Int) (x y : Nat → Int) : ∀ k : Nat, sumN k (fun i => x i * (y i % p)) % p = sumN k (fun i => x i * y i) % p
  | 0 => rfl
  | k + 1 => by
    show (sumN k (fun i => x i * (y i % p)) + x k * (y k % p)) % p = (sumN k (fun i => x i * y i) + x k * y k) % p
    rw [mod_in, ← mod_l, sumN_modp p x y k, mod_l]
/-- e(i) x less Z[i] x, at m, before the remainder -/
def fltS (p : Int) (T Z x : Nat → Int) (i m : Nat) : Int := sumN 8 (fun k => x k * vecT T i k m) + (p - Z i) * x m
theorem faultF_at (p : Int) (T Z x : Nat → Int) (q : Nat) : faultF p T Z x q = fltS p T Z x (q / 8) (q % 8) % p := by
  unfold faultF etF fltS; rw [mod_l]
theorem flt_unit (p : Int) (T Z : Nat → Int) {k m : Nat} (i : Nat) (hk : k < 8) : fltS p T Z (unitV k) i m = vecT T i k m + (p - Z i) * unitV k m := by
  unfold fltS
  rw [sumN_pick _ 8 hk, sumN_none 8 fun j hj => by
    by_cases e : j = k
    · rw [if_pos e]
    · rw [if_neg e]; unfold unitV; rw [if_neg e, Int.zero_mul]]
  unfold unitV; rw [if_pos rfl]; omega
theorem flt_sum (p : Int) (T Z x : Nat → Int) {m : Nat} (i : Nat) (hm : m < 8) : sumN 8 (fun k => x k * (vecT T i k m + (p - Z i) * unitV k m)) = fltS p T Z x i m := by
  unfold fltS
  have e : ∀ k, x k * (vecT T i k m + (p - Z i) * unitV k m) = x k * vecT T i k m + (p - Z i) * (if k = m then x m else 0) := fun k => by
    unfold unitV
    by_cases h : k = m
    · subst h; simp only [if_true]; grind
    · rw [if_neg (fun h' => h h'.symm), if_neg h]; grind
  have e2 : sumN 8 (fun k => if k = m then x m else 0) = x m := by
    rw [sumN_pick _ 8 hm, sumN_none 8 fun j hj => by
      by_cases h : j = m
      · rw [if_pos h]
      · rw [if_neg h, if_neg h]]
    simp
  rw [sumN_congr 8 fun k _ => e k, sumN_add, ← sumN_mul, e2]

def IntS (p n : Nat) (T Z x : Nat → Int) : Prop := VecP p n x ∧ ∀ q, q < 64 → faultF p T Z x q = 0
theorem int_ker {p n : Nat} {T Z : Nat → Int} (v : Nat → Int) : KerG p n 64 (fun k q => faultF p T Z (unitV k) q) v ↔ IntS p n T Z v := by
  refine and_congr_right fun hv => forall_congr' fun q => forall_congr' fun hq => ?_
  have : apW p (fun k q => faultF p T Z (unitV k) q) v q = faultF p T Z v q := by
    have e : sumN 8 (fun k => v k * faultF p T Z (unitV k) q) = sumN 8 (fun k => v k * ((vecT T (q / 8) k (q % 8) + (p - Z (q / 8)) * unitV k (q % 8)) % p)) := sumN_congr 8 fun k hk => by rw [faultF_at, flt_unit p T Z _ hk]
    show sumN 8 (fun k => v k * faultF p T Z (unitV k) q) % p = _
    rw [e, sumN_modp, flt_sum p T Z v _ (by omega), faultF_at]
  rw [this]
theorem int_space {p n : Nat} {T Z : Nat → Int} (hp : 1 < p) : Space p 8 (IntS p n T Z) := by
  have h := kerG_space (p := (p : Int)) (n := n) (w := 64) (g := fun k q => faultF p T Z (unitV k) q) (by omega)
  exact ⟨fun v hv => h.range v ((int_ker v).2 hv), fun v u hv e => (int_ker u).1 (h.ext v u ((int_ker v).2 hv) e), fun v hv => (int_ker v).1 (h.zero v hv), fun v u h1 h2 c => (int_ker _).1 (h.addc v u ((int_ker v).2 h1) ((int_ker u).2 h2) c)⟩
theorem int_of_lint {p n : Nat} {T Z t : Nat → Int} (ht : VecP p n t) (h : lintB p T Z t = true) : IntS p n T Z t := ⟨ht, fun q hq => allEq_get h hq⟩

/-- the model's maps, one for each basis element -/
def intF (p : Int) (n : Nat) (T Z : Nat → Int) (i : Nat) : Nat → Int := fun q => if q / 8 < n then addM p (vecT T i (q / 8)) (-(Z i)) (unitV (q / 8)) (q % 8) else 0
theorem intF_rng {p n : Nat} (hp : 1 < p) (T Z : Nat → Int) (i : Nat) : ∀ q, q < 64 → 0 ≤ intF p n T Z i q ∧ intF p n T Z i q < p := fun q _ => by
  unfold intF
  split
  · exact addM_rng (by omega) _ _ _ _
  · omega
def IntI (p n : Nat) (T Z : Nat → Int) (i : Nat) (x : Nat → Int) : Prop := VecP p n x ∧ ∀ l, l < i → ∀ j, j < 8 → apF p (intF p n T Z l) x j = 0
theorem intI_space {p n : Nat} {T Z : Nat → Int} {i : Nat} (hp : 1 < p) : Space p 8 (IntI p n T Z i) := by
  refine ⟨fun v h => h.1.rng, fun v u h e => ⟨⟨fun j hj => by rw [e j hj]; exact h.1.rng j hj, fun j h1 h2 => by rw [e j h2]; exact h.1.out j h1 h2⟩, fun l hl j hj => by rw [apF_congr (fun _ _ => rfl) e]; exact h.2 l hl j hj⟩, fun v h => ⟨⟨fun j hj => by rw [h j hj]; omega, fun j _ hj => h j hj⟩, fun l hl j hj => apF_zero _ _ _ _ h⟩, fun v u h1 h2 c => ⟨h1.1.add (by omega) h2.1 c, fun l hl j hj => ?_⟩⟩
  rw [apF_add, h1.2 l hl j hj, h2.2 l hl j hj]; simp
theorem intF_ap {p n : Nat} {T Z x : Nat → Int} (hx : VecP p n x) (l : Nat) {j : Nat} (hj : j < 8) : apF p (intF p n T Z l) x j = fltS p T Z x l j % p := by
  rw [apF_sum, ← flt_sum p T Z x l hj, ← sumN_modp p x fun k => vecT T l k j + (p - Z l) * unitV k j]
  refine congrArg (· % (p : Int)) (sumN_congr 8 fun k hk => ?_)
  by_cases e : k < n
  · unfold intF
    rw [show (k * 8 + j) / 8 = k by omega, show (k * 8 + j) % 8 = j by omega, if_pos e]
    unfold addM
    refine congrArg (x k * ·) ?_
    rw [show vecT T l k j + (p - Z l) * unitV k j = vecT T l k j + -(Z l) * unitV k j + p * unitV k j by grind, Int.add_mul_emod_self_left]
  · rw [hx.out k (by omega) hk, Int.zero_mul, Int.zero_mul]
/-- all of them together: the integrals -/
theorem intI_all {p n : Nat} {T Z : Nat → Int} (hn : n ≤ 8) (hz : ∀ i j m, i < 8 → j < 8 → m < 8 → (n ≤ i ∨ n ≤ j ∨ n ≤ m) → vecT T i j m = 0) (hZ : ∀ j, j < 8 → n ≤ j → Z j = 0) (v : Nat → Int) : IntI p n T Z n v ↔ IntS p n T Z v := by
  refine and_congr_right fun hv => ⟨fun h q hq => ?_, fun h l hl j hj => ?_⟩
  · rw [faultF_at]
    by_cases e : q / 8 < n
    · rw [← intF_ap hv (q / 8) (show q % 8 < 8 by omega)]; exact h _ e _ (by omega)
    · unfold fltS
      rw [sumN_none 8 fun k hk => by rw [hz (q / 8) k (q % 8) (by omega) hk (by omega) (.inl (by omega)), Int.mul_zero], hZ (q / 8) (by omega) (by omega)]
      simp
  · have := h (l * 8 + j) (by omega)
    rw [faultF_at, show (l * 8 + j) / 8 = l by omega, show (l * 8 + j) % 8 = j by omega] at this
    rw [intF_ap hv l hj]; exact this

/-- the algebra, turned round or not -/
def sideT (right : Bool) (T : Nat → Int) : Nat → Int := if right = true then flipF T else T
theorem side_vec (right : Bool) (T : Nat → Int) {i k : Nat} (hi : i < 8) (hk : k < 8) {m : Nat} (hm : m < 8) : vecT (sideT right T) i k m = if right = true then vecT T k i m else vecT T i k m := by
  cases right
  · rfl
  · show vecT (flipF T) i k m = vecT T k i m
    unfold vecT
    rw [show m + (k * 8 + i * 64) = i * 64 + k * 8 + m by omega, flipF_at T hk hm]
    congr 1; omega
theorem side_zero {n : Nat} {T : Nat → Int} (right : Bool) (hz : ∀ i j m, i < 8 → j < 8 → m < 8 → (n ≤ i ∨ n ≤ j ∨ n ≤ m) → vecT T i j m = 0) : ∀ i j m, i < 8 → j < 8 → m < 8 → (n ≤ i ∨ n ≤ j ∨ n ≤ m) → vecT (sideT right T) i j m = 0 := fun i j m hi hj hm h => by
  rw [side_vec right T hi hj hm]
  cases right
  · exact hz i j m hi hj hm h
  · exact hz j i m hj hi hm (by omega)

theorem l05Integrals_s (p n : Nat) (U T Z C S : Nat → Int) (right : Bool) (hp : primeB (p : Int) = true) (hp2 : 2 ≤ p ∧ p ≤ 31) (hV : HV p n U T Z C S) :
    Spec Tryz.prog 41 [hopV p n U T Z C S, .bool right] [] (fun r m => ∃ k c A id, RedL p (IntS p n (sideT right T) Z) k A ∧ k ≤ c ∧ r = .sl id 0 k c ∧ blockOf m id = some (.ints .u8 (k * 8) A, c * 8)) := by
  have hn := hV.a.hn
  have hn1 := hV.n1
  have hH : ∀ j, j < 8 → 0 ≤ Z j ∧ Z j < p := fun j hj => hV.c.ult j hj
  refine (Spec.of_vc tabOK tabEq Tryz.func41 rfl (by kernel_rfl) rfl rfl ?_)
  refine vc_gen (q := 0) 8 [0, 1, 2, 3, 4, 5, 7] [6] (by kernel_rfl) (by kernel_rfl) (by kernel_rfl) ?_
  refine readsAt_step rfl (by rfl) ?_
  refine readVC_fa rfl rfl rfl ?_
  refine readsAt_step rfl (by rfl) ?_
  refine readVC_loadF (v := .int .i64 p) (z := .int .i64 p) rfl rfl rfl rfl (fun _ h => h) ?_
  refine readsAt_step rfl (by rfl) ?_
  refine readVC_fa rfl rfl rfl ?_
  refine readsAt_step rfl (by rfl) ?_
  refine readVC_loadF (v := .int .i64 n) (z := .int .i64 n) rfl rfl rfl rfl (fun _ h => h) ?_
  refine readsAt_step rfl (by rfl) ?_
  refine readVC_fa rfl rfl rfl ?_
  refine readsAt_step rfl (by rfl) ?_
  refine readVC_loadF (v := .int .i64 n) (z := .int .i64 n) rfl rfl rfl rfl (fun _ h => h) ?_
  refine readsAt_step rfl (by rfl) ?_
  refine readVC_as rfl ?_
  refine readsAt_nil ?_
  refine restVC_call (i := 6) rfl (by rfl) rfl rfl rfl rfl rfl ?_
  refine And.intro trivial (Spec.mono (l01Whole_s p n (by omega) (by omega)) ?_)
  rintro _ _ ⟨c0, A0, hA0, hc0, rfl, rfl⟩
  refine And.intro (And.intro rfl trivial) ?_
  have h00 : RedL p (IntI p n (sideT right T) Z 0) n A0 := hA0.of_iff fun v => ⟨fun h => ⟨h, fun l hl => absurd hl (Nat.not_lt_zero _)⟩, fun h => h.1⟩
  refine LoopVC.ofR (fun x : Nat × Nat × Nat × (Nat → Int) => x.1 ≤ n ∧ x.2.1 ≤ x.2.2.1 ∧ RedL p (IntI p n (sideT right T) Z x.1) x.2.1 x.2.2.2)
    (fun x => [(1, .bool right), (2, .ptr 0 [] 0 0), (5, .int .i64 p), (6, .int .i64 n), (7, .sl 1 0 x.2.1 x.2.2.1), (8, .int .i64 x.1)])
    (fun x => [some (hopV p n U T Z C S, 1106), some (.ints .u8 (x.2.1 * 8) x.2.2.2, x.2.2.1 * 8)]) (fun x => n - x.1) (0, n, c0, A0) ⟨Nat.zero_le _, hc0, h00⟩ (fun i => i) (RenTo.same ?_ ?_) ?_ ?_ ?_
  · exact (And.intro rfl (And.intro rfl (And.intro rfl (And.intro rfl (And.intro rfl (And.intro rfl (trivial)))))))
  · intro id u d hb
    match id with
    | 0 => cases hb; exact ⟨_, rfl, hopR _ _ _ _ _ _ _⟩
    | 1 => exact ⟨u, hb, eqv_refl u⟩
    | id + 2 => cases hb
  · intro x hx; exact Nat.zero_le _
  · intro x hx
    refine OkP.of (by simp [SV.ids]) fun id u c hb q hq => ?_
    match id with
    | 0 => cases hb; simp [hopV, SV.ids] at hq
    | 1 => cases hb; cases hq
    | id + 2 => cases hb
  · rintro ⟨i, k, c, A⟩ ⟨hi, hkc, hR⟩
    dsimp only at hi hkc hR
    refine ifVC_split (fun hh => ?_) (fun hh => ?_)
    · have hin : i < n := by have := of_decide_eq_true hh; omega
      have hf := intF_rng (p := p) (n := n) (by omega) (sideT right T) Z i
      have hZi := hH i (by omega)
      (repeat (first | refine And.intro (by omega) ?_ | refine And.intro ⟨by omega, by omega⟩ ?_))
      refine LoopVC.of (fun l : Nat => l ≤ n) (fun l => [(1, .bool right), (2, .ptr 0 [] 0 0), (5, .int .i64 p), (6, .int .i64 n), (7, .sl 1 0 k c), (8, .int .i64 i), (9, .ptr 2 [] 0 0), (10, .int .i64 l)])
        (fun l => [some (hopV p n U T Z C S, 1106), some (.ints .u8 (k * 8) A, c * 8), some (.ints .u8 64 fun q => if q < l * 8 then intF p n (sideT right T) Z i q else 0, 64)]) (fun l => n - l) 0 (Nat.zero_le _) ?_ ?_ ?_
      · exact (And.intro rfl (And.intro rfl (And.intro rfl (And.intro rfl (And.intro rfl (And.intro rfl (And.intro rfl (And.intro rfl (trivial)))))))))
      · refine And.intro (And.intro (hopR p n U T Z C S) rfl) (And.intro (And.intro (rowEq fun _ _ => rfl) rfl) (And.intro (And.intro (rowEq fun q hq => ?_) rfl) trivial))
        show updR _ 0 64 _ q = _
        simp [updR, hq]
      · intro l hl
        refine ifVC_split (fun h3 => ?_) (fun h3 => ?_)
        · have hln : l < n := by have := of_decide_eq_true h3; omega
          have hv1 := fun j (hj : j < 8) => hV.a.lt i l j (by omega) (by omega) hj
          have hv2 := fun j (hj : j < 8) => hV.a.lt l i j (by omega) (by omega) hj
          have hlx : (l : Int).toNat = l := by omega
          have hneg : IntKind.i64.wrap (0 - IntKind.i64.wrap (Z ((i : Int).toNat * 1 + 0))) = -(Z i) := by
            rw [show (i : Int).toNat * 1 + 0 = i by omega, wrapI (x := Z i) (by omega), wrapI (by omega)]; omega
          (repeat (first | refine And.intro (by omega) ?_ | refine And.intro ⟨by omega, by omega⟩ ?_))
          cases right
          · refine Exists.intro 13 (And.intro (by kernel_rfl) ?_)
            (repeat (first | refine And.intro (by omega) ?_ | refine And.intro ⟨by omega, by omega⟩ ?_))
            refine Exists.intro (.ints .u8 8 (unitV l)) (And.intro (And.intro rfl (And.intro rfl (Spec.mono (l01Basis_s l (by omega)) ?_))) ?_)
            · rintro r m ⟨rfl, _⟩
              simp only [Int.toNat_natCast]
            (repeat (first | refine And.intro (by omega) ?_ | refine And.intro ⟨by omega, by omega⟩ ?_))
            refine Exists.intro _ (And.intro (And.intro rfl (And.intro rfl (Spec.mono (l01Add_s p (IntKind.i64.wrap (0 - IntKind.i64.wrap (Z ((i : Int).toNat * 1 + 0)))) _ _ hV.a.hp (by rw [hneg]; omega) (fun j hj => ?_) (unitV_u8 l 8)) fun r m h => h.1))) ?_)
            · have := hv1 j hj
              simp only [updR, Nat.zero_le, true_and, Nat.zero_add, Nat.add_zero, hj, if_true, Nat.sub_zero]
              exact ⟨this.1, Int.lt_trans this.2 hV.a.hp.2⟩
            (repeat (first | refine And.intro (by omega) ?_ | refine And.intro ⟨by omega, by omega⟩ ?_))
            refine Exists.intro (l + 1) (And.intro (by omega) (And.intro (by omega) (And.intro (And.intro rfl (And.intro rfl (And.intro rfl (And.intro rfl (And.intro rfl (And.intro rfl (And.intro rfl (And.intro (slotI (wrapS (by omega))) trivial)))))))) ?_)))
            refine And.intro (And.intro (hopR p n U T Z C S) rfl) (And.intro (And.intro (rowEq fun _ _ => rfl) rfl) (And.intro (And.intro (rowEq fun q hq => ?_) rfl) trivial))
            rw [hneg]
            show updR _ ((l : Int).toNat * 8 + 0) 8 _ q = if q < (l + 1) * 8 then intF p n (sideT false T) Z i q else 0
            unfold updR
            rw [hlx]
            dsimp only
            by_cases e : l * 8 + 0 ≤ q ∧ q < l * 8 + 0 + 8
            · rw [if_pos e, if_pos (by omega)]
              unfold intF addM
              rw [show q / 8 = l by omega, if_pos hln, side_vec false T (by omega) (by omega) (by omega), show q - (l * 8 + 0) = q % 8 by omega]
              simp only [Nat.zero_le, true_and, Nat.zero_add, Nat.add_zero, show q % 8 < 8 by omega, if_true, Nat.sub_zero]
              rfl
            · rw [if_neg e]
              by_cases e2 : q < l * 8
              · rw [if_pos e2, if_pos (by omega)]
              · rw [if_neg e2, if_neg (by omega)]
          · (repeat (first | refine And.intro (by omega) ?_ | refine And.intro ⟨by omega, by omega⟩ ?_))
            refine Exists.intro 13 (And.intro (by kernel_rfl) ?_)
            (repeat (first | refine And.intro (by omega) ?_ | refine And.intro ⟨by omega, by omega⟩ ?_))
            refine Exists.intro (.ints .u8 8 (unitV l)) (And.intro (And.intro rfl (And.intro rfl (Spec.mono (l01Basis_s l (by omega)) ?_))) ?_)
            · rintro r m ⟨rfl, _⟩
              simp only [Int.toNat_natCast]
            (repeat (first | refine And.intro (by omega) ?_ | refine And.intro ⟨by omega, by omega⟩ ?_))
            refine Exists.intro _ (And.intro (And.intro rfl (And.intro rfl (Spec.mono (l01Add_s p (IntKind.i64.wrap (0 - IntKind.i64.wrap (Z ((i : Int).toNat * 1 + 0)))) _ _ hV.a.hp (by rw [hneg]; omega) (fun j hj => ?_) (unitV_u8 l 8)) fun r m h => h.1))) ?_)
            · have := hv2 j hj
              simp only [updR, Nat.zero_le, true_and, Nat.zero_add, Nat.add_zero, hj, if_true, Nat.sub_zero]
              exact ⟨this.1, Int.lt_trans this.2 hV.a.hp.2⟩
            (repeat (first | refine And.intro (by omega) ?_ | refine And.intro ⟨by omega, by omega⟩ ?_))
            refine Exists.intro (l + 1) (And.intro (by omega) (And.intro (by omega) (And.intro (And.intro rfl (And.intro rfl (And.intro rfl (And.intro rfl (And.intro rfl (And.intro rfl (And.intro rfl (And.intro (slotI (wrapS (by omega))) trivial)))))))) ?_)))
            refine And.intro (And.intro (hopR p n U T Z C S) rfl) (And.intro (And.intro (rowEq fun _ _ => rfl) rfl) (And.intro (And.intro (rowEq fun q hq => ?_) rfl) trivial))
            rw [hneg]
            show updR _ ((l : Int).toNat * 8 + 0) 8 _ q = if q < (l + 1) * 8 then intF p n (sideT true T) Z i q else 0
            unfold updR
            rw [hlx]
            dsimp only
            by_cases e : l * 8 + 0 ≤ q ∧ q < l * 8 + 0 + 8
            · rw [if_pos e, if_pos (by omega)]
              unfold intF addM
              rw [show q / 8 = l by omega, if_pos hln, side_vec true T (by omega) (by omega) (by omega), show q - (l * 8 + 0) = q % 8 by omega]
              simp only [Nat.zero_le, true_and, Nat.zero_add, Nat.add_zero, show q % 8 < 8 by omega, if_true, Nat.sub_zero]
              rfl
            · rw [if_neg e]
              by_cases e2 : q < l * 8
              · rw [if_pos e2, if_pos (by omega)]
              · rw [if_neg e2, if_neg (by omega)]
        · have hln : l = n := by have := of_decide_eq_false h3; omega
          subst hln
          have hfe : (fun q => if q < l * 8 then intF p l (sideT right T) Z i q else 0) = intF p l (sideT right T) Z i := funext fun q => by
            by_cases e : q < l * 8
            · rw [if_pos e]
            · rw [if_neg e]; unfold intF; rw [if_neg (by omega)]
          rw [hfe]
          (repeat (first | refine And.intro (by omega) ?_ | refine And.intro ⟨by omega, by omega⟩ ?_))
          refine And.intro trivial (Spec.mono (l01KernelR_s p l (intF p l (sideT right T) Z i) hp hp2 hn hf) ?_)
          rintro _ _ ⟨k2, c2, A2, hR2, hc2, rfl, rfl⟩
          (repeat (first | refine And.intro (by omega) ?_ | refine And.intro ⟨by omega, by omega⟩ ?_))
          refine And.intro (And.intro rfl (And.intro rfl trivial)) (Spec.mono (l01Meet_s p k k2 c c2 _ _ A A2 hp hp2 (intI_space (by omega)) (ker_space (by omega)) hR hR2) ?_)
          rintro _ _ ⟨k3, c3, A3, hR3, hc3, rfl, rfl⟩
          have hR3 : RedL p (IntI p l (sideT right T) Z (i + 1)) k3 A3 := hR3.of_iff fun x => ⟨fun ⟨g1, g2⟩ => ⟨g1.1, fun q hq => by
            by_cases e : q = i
            · subst e; exact g2.2
            · exact g1.2 q (by omega)⟩, fun g => ⟨⟨g.1, fun q hq => g.2 q (by omega)⟩, g.1, g.2 i (Nat.lt_succ_self _)⟩⟩
          refine Exists.intro (i + 1, k3, c3, A3) (Exists.intro (fun i => if i = 1 then 4 else i) (And.intro ⟨hin, hc3, hR3⟩ (And.intro (show l - (i + 1) < l - i by omega) (renTo_mk ?_ (fun i hi => absurd hi (Nat.not_lt_zero _)) (fun id u d hb => ?_) fun x y hx hy e => ?_))))
          · exact And.intro rfl (And.intro rfl (And.intro rfl (And.intro rfl (And.intro rfl (And.intro (slotI (wrapS (by omega))) trivial)))))
          · match id with
            | 0 => cases hb; exact ⟨fun _ => Nat.zero_le _, _, rfl, hopR _ _ _ _ _ _ _⟩
            | 1 => cases hb; exact ⟨fun _ => Nat.zero_le _, _, rfl, eqv_refl _⟩
            | id + 2 => cases hb
          · have hx : x < 2 := hx
            have hy : y < 2 := hy
            have e : (if x = 1 then 4 else x) = if y = 1 then 4 else y := e
            split at e <;> split at e <;> omega
    · have hin : i = n := by have := of_decide_eq_false hh; omega
      subst hin
      exact ⟨k, c, A, 1, hR.of_iff (intI_all hn (side_zero right hV.a.zero) hV.c.uzero), hkc, rfl, rfl⟩
end Go.Proofs.YtegcfjfhpodlmabGreat

/- Left and right integrals, as the program finds them. -/
set_option linter.unusedVariables false
set_option linter.unusedSimpArgs false
set_option maxRecDepth 100000
set_option maxHeartbeats 4000000
namespace Go.Proofs.YtegcfjfhpodlmabGreat
open M

/-! ### steps -/
section
variable {P : Program} {T : Tab} {N : Nat} {ops : Array Oper} {o : Oper} {r : List Oper} {s : Slots} {m : Mem} {K : Slots → Mem → Prop} {Kr : Slots → Prop} {Kv : SV → Prop} {t id off n c fd base tot ofs p i g : Nat} {path : List Nat} {a x : Operand} {v z blk : SV} {offs : List Nat} {cl : Call} {args : List SV} {ri : List Nat} {oo : Option Oper}
theorem restVC_dir (hi : ops[i]? = oo) (h0 : oo = some o) (ho : o.op = .call cl) (hc : cl.callee = .value x) (hx : ev s x = some (.fn g)) (ha : evs s cl.args.toList = some args) (hd : T.direct g = true)
    (hk : Spec P g args m fun r' m' => liveP m m' ∧ preM m m' ∧ restVC P T N ops p ri (sset N s o.dst r') m' K) : restVC P T N ops p (i :: ri) s m K := by
  unfold restVC
  rw [hi, h0]
  refine .inl ⟨by rw [ho]; simp [ndOp, hc], ?_⟩
  simp only [oneVC, ho, hc, hx, ha, hd]
  exact hk
end

theorem retQ_cell1 {T : Tab} {s : Slots} {m : Mem} {Q : SV → Mem → Prop} {rs : List ResultVar} {t1 ty id n l c : Nat} {k : IntKind} {f : Nat → Int} (hr : rs = [.cell t1 ty]) (h1 : lk s t1 = some (.ptr id [] 0 0)) (ht : ((T.ti ty).known && ((T.ti ty).agg == some l)) = true)
    (hb : blockOf m id = some (.ints k n f, c)) (hlt : 0 + l ≤ n) (hk : Q (.ints k l fun j => f (j + 0)) m) : retQ T rs Q .ret s m := by
  subst hr
  simp only [retQ, resultVC]
  exact readVC_loadR (a := .tmp t1) h1 ht hb hlt hk

theorem relations_s (m : Mem) (n p sid c d : Nat) (A : Nat → Int) (hb : blockOf m sid = some (.ints .u8 (n * 64) A, d)) (hm : Clo m) (hn : 1 ≤ n ∧ n ≤ 8) (hp : primeB (p : Int) = true) (hp2 : 2 ≤ p ∧ p ≤ 31) (hr : ∀ q, q < n * 64 → 0 ≤ A q ∧ A q < p) :
    Spec Tryz.prog 80 [spV p (.sl sid 0 n c)] m
      (fun r m' => ∃ id k c' A', r = listV id k c' ∧ RedL p (KerG p n 64 fun k q => A (k * 64 + q)) k A' ∧ (k ≠ 0 → blockOf m' id = some (.ints .u8 (k * 8) A', c' * 8) ∧ k ≤ c') ∧ m.length ≤ m'.length ∧ ∀ q, q < m.length → blockOf m' q = blockOf m q) := by
  have hlt : sid < m.length := blockOf_lt (by rw [hb]; rfl)
  refine Spec.of_vc (tabOK.dir fun g => Nat.beq g 105 || Nat.beq g 104) (tabEq.dir _) Tryz.func80 rfl (by kernel_rfl) rfl (by simp [idsOf, spV, SV.ids, Nat.blt_eq, hlt]) ?_
  (repeat (first | (with_reducible refine vc_exit ?_) | (with_reducible refine vc_ret ?_) | (with_reducible refine vc_skip ?_) | (with_reducible refine thenQ_x ?_) | (with_reducible refine thenQ_r ?_) | (with_reducible refine thenQ_n ?_) | (with_reducible refine blockQ_x rfl ?_) | (with_reducible refine blockQ_y rfl ?_) | (with_reducible refine blockQ_n ?_) | (with_reducible refine blockQ_r ?_) | (with_reducible refine vc_seq ?_) | (with_reducible refine vc_region ?_) | (with_reducible refine vc_block ?_) | (with_reducible refine vc_scope ?_) | (with_reducible refine opsVC_nil ?_)))
  refine opsVC_boxP rfl rfl rfl rfl fun M1 p1 => ?_
  refine opsVC_as rfl rfl rfl ?_
  (repeat (first | (with_reducible refine vc_exit ?_) | (with_reducible refine vc_ret ?_) | (with_reducible refine vc_skip ?_) | (with_reducible refine thenQ_x ?_) | (with_reducible refine thenQ_r ?_) | (with_reducible refine thenQ_n ?_) | (with_reducible refine blockQ_x rfl ?_) | (with_reducible refine blockQ_y rfl ?_) | (with_reducible refine blockQ_n ?_) | (with_reducible refine blockQ_r ?_) | (with_reducible refine vc_seq ?_) | (with_reducible refine vc_region ?_) | (with_reducible refine vc_block ?_) | (with_reducible refine vc_scope ?_) | (with_reducible refine opsVC_nil ?_)))
  have l1 := p1.len
  have c1 := p1.clo hm (fun i hi => by have hi : i ∈ (spV p (.sl sid 0 n c)).ids := hi; simp [spV, SV.ids] at hi; omega)
  have hb1 : blockOf M1 sid = some (.ints .u8 (n * 64) A, d) := (p1.old sid hlt (by omega)).trans hb
  refine vc_gen (q := 0) 4 [0, 1, 2] [3] (by kernel_rfl) (by kernel_rfl) (by kernel_rfl) ?_
  refine readsAt_step rfl (by rfl) ?_
  refine readVC_fa rfl rfl rfl ?_
  refine readsAt_step rfl (by rfl) ?_
  refine readVC_loadF (v := .int .i64 p) rfl p1.new rfl rfl (fun _ h => h) ?_
  refine readsAt_step rfl (by rfl) ?_
  refine readVC_loadF (v := spV p (.sl sid 0 n c)) rfl p1.new rfl rfl (fun _ h => h) ?_
  refine readsAt_nil ?_
  refine restVC_dir (i := 3) rfl (by rfl) rfl rfl rfl rfl rfl ?_
  refine Spec.mono (spaceRows_s M1 n p sid c d A hb1 c1 hn.2) ?_
  rintro r m' ⟨⟨i, H, ρ, cp, F, M⟩, hx, hi, rfl, rfl⟩
  dsimp only at hi
  subst hi
  obtain ⟨hi, hsp, hhdr, hsl, hnil, hrow, hval, hO, hL, hC⟩ := hx
  dsimp only at hi hsp hhdr hsl hnil hrow hval hO hL hC
  refine ⟨fun q hq h => by rw [hO q hq] at h; exact h, preM_of _ _ (by omega) hO, ?_⟩
  refine restVC_nil ?_
  refine opsVC_dir rfl rfl rfl rfl rfl rfl ?_
  refine Spec.mono (kernelOf_s m' (M1.length + 1) i i i i 64 p H ρ (fun _ => 0) cp (fun _ => 64) (fun l => cp l * 1) F hhdr (Nat.le_refl _) hsl (fun l hl => (hrow l hl).2.1) (fun l hl => by omega) hC hn (by omega) hp hp2 (fun l hl q hq => by rw [hval l hl _ (by omega)]; exact hr _ (by omega))) ?_
  rintro r m'' ⟨id, k, c', A', hrv, hR, hbk, hl, hold⟩
  refine ⟨fun q hq h => by rw [hold q hq] at h; exact h, ?_⟩
  refine opsVC_as rfl rfl rfl ?_
  (repeat (first | (with_reducible refine vc_exit ?_) | (with_reducible refine vc_ret ?_) | (with_reducible refine vc_skip ?_) | (with_reducible refine thenQ_x ?_) | (with_reducible refine thenQ_r ?_) | (with_reducible refine thenQ_n ?_) | (with_reducible refine blockQ_x rfl ?_) | (with_reducible refine blockQ_y rfl ?_) | (with_reducible refine blockQ_n ?_) | (with_reducible refine blockQ_r ?_) | (with_reducible refine vc_seq ?_) | (with_reducible refine vc_region ?_) | (with_reducible refine vc_block ?_) | (with_reducible refine vc_scope ?_) | (with_reducible refine opsVC_nil ?_)))
  refine ⟨id, k, c', A', hrv, hR.of_iff fun v => and_congr_right fun hv => forall_congr' fun q => forall_congr' fun hq => ?_, fun hk => (hbk hk).2, by omega, fun q hq => ?_⟩
  · have : apW p (fun l q => F l (q + 0)) v q = apW p (fun k q => A (k * 64 + q)) v q := by
      unfold apW
      refine congrArg (· % (p : Int)) (sumN_congr 8 fun l hl => ?_)
      by_cases e : l < i
      · show v l * F l q = _; rw [hval l e q hq]
      · rw [hv.out l (by omega) hl, Int.zero_mul, Int.zero_mul]
    rw [this]
  · rw [hold q (by omega), hO q (by omega), p1.old q hq (by omega)]

/-! ### the integral -/
def IntV (p n : Nat) (T Z t : Nat → Int) : Prop := ∃ k A, 0 < k ∧ RedL p (IntS p n T Z) k A ∧ ∀ j, j < 8 → t j = A j
noncomputable def intV (p n : Nat) (T Z : Nat → Int) : Nat → Int := Classical.epsilon (IntV p n T Z)
theorem intV_is {p n : Nat} {T Z t : Nat → Int} (hp : 1 < p) (h : IntV p n T Z t) : ∀ j, j < 8 → t j = intV p n T Z j := by
  obtain ⟨k, A, hk, hR, ht⟩ := h
  obtain ⟨k', A', hk', hR', ht'⟩ : IntV p n T Z (intV p n T Z) := Classical.epsilon_spec (p := IntV p n T Z) ⟨t, k, A, hk, hR, ht⟩
  obtain ⟨_, h2⟩ := redL_uniq (by omega) (int_space hp) hR hR'
  exact fun j hj => by rw [ht j hj, ht' j hj, h2 j (by omega)]
/-- the reduced list has a vector, as there is an integral other than 0 -/
theorem red_pos {p n k : Nat} {T Z A : Nat → Int} (hex : ∃ t, VecP p n t ∧ (∃ j, j < 8 ∧ t j ≠ 0) ∧ lintB p T Z t = true) (hR : RedL p (IntS p n T Z) k A) : 0 < k := by
  obtain ⟨t, ht, ⟨j, hj, hne⟩, hl⟩ := hex
  rcases Nat.eq_zero_or_pos k with rfl | h
  · exact absurd (hR.all t (int_of_lint ht hl) (fun i hi => absurd hi (Nat.not_lt_zero _)) j hj) hne
  · exact h
theorem int_red_ex {p n : Nat} {T Z : Nat → Int} (hp : primeB (p : Int) = true) (hp2 : 2 ≤ p ∧ p ≤ 31) (hn : n ≤ 8) : ∃ k A, RedL p (IntS p n T Z) k A := by
  have hg : ∀ i, i < n → ∀ j, j < 64 → 0 ≤ faultF p T Z (unitV i) j ∧ faultF p T Z (unitV i) j < p := fun i _ j _ => mod_rng (by omega) _
  obtain ⟨⟨k, a, P⟩, hk, hred⟩ := red_ex (p := (p : Int)) (w := 64 + 8) (n := n) (by omega) (inv_int hp hp2) (gw_rng (p := (p : Int)) (n := n) (w := 64) (g := fun k q => faultF p T Z (unitV k) q) (by omega) hn hg)
  dsimp only at hred
  obtain ⟨t, ht, ht1, ht2⟩ := split_at (w := 64) hred.inc
  have hker := kerG_red (by omega) hn hg hred ht ht1 ht2
  refine ⟨k - t, fun q => a (t + q / 8) (64 + q % 8), (redL_of (kerG_space (by omega)) hker fun i hi j hj => ?_).of_iff int_ker⟩
  show a (t + (j + i * 8) / 8) (64 + (j + i * 8) % 8) = a (t + i) (64 + j)
  congr 1 <;> omega
/-- a Hopf algebra's two sides have integrals -/
def HasInt (p n : Nat) (T Z : Nat → Int) : Prop := ∃ t, VecP p n t ∧ (∃ j, j < 8 ∧ t j ≠ 0) ∧ lintB p T Z t = true

theorem memHd4 {m : Mem} {a b c d : SV × Nat} (h0 : blockOf m 0 = some a) (h1 : blockOf m 1 = some b) (h2 : blockOf m 2 = some c) (h3 : blockOf m 3 = some d) : ∃ R, m = some a :: some b :: some c :: some d :: R := by
  match m, h0, h1, h2, h3 with
  | [], h, _, _, _ => cases h
  | [_], _, h, _, _ => cases h
  | [_, _], _, _, h, _ => cases h
  | [_, _, _], _, _, _, h => cases h
  | x :: y :: z :: w :: R, h0, h1, h2, h3 => exact ⟨R, by rw [show x = some a from h0, show y = some b from h1, show z = some c from h2, show w = some d from h3]⟩
abbrev imem (p n : Nat) (U T Z : Nat → Int) (v : SV) (R : Mem) : Mem := some (algV p n U T, 522) :: some (.ints .u8 8 Z, 8) :: some (.ints .u8 8 fun _ => 0, 8) :: some (spV p v, 3) :: R
theorem listV_leaf (id k c : Nat) : (listV id k c).leaf = true := by unfold listV; split <;> rfl
structure LI (p n : Nat) (U T Z : Nat → Int) (x : Nat × SV × (Nat → Int) × Nat × Nat × Mem) : Prop where
  i : x.1 ≤ n
  v : x.2.1 = listV (x.2.2.2.1 + 4) x.1 x.2.2.2.2.1
  val : ∀ k, k < x.1 → ∀ q, q < 64 → x.2.2.1 (k * 64 + q) = faultF p T Z (unitV k) q
  b : x.1 ≠ 0 → blockOf x.2.2.2.2.2 x.2.2.2.1 = some (.ints .u8 (x.1 * 64) x.2.2.1, x.2.2.2.2.1 * 64) ∧ x.1 ≤ x.2.2.2.2.1
  clo : Clo (imem p n U T Z x.2.1 x.2.2.2.2.2)
theorem leftIntegralIn_s (p n : Nat) (U T Z : Nat → Int) (hp : primeB (p : Int) = true) (hp2 : 2 ≤ p ∧ p ≤ 31) (hn : 1 ≤ n ∧ n ≤ 8) (hT : isU8 512 T) (hZ : ∀ j, j < 8 → 0 ≤ Z j ∧ Z j < p) (hex : HasInt p n T Z) :
    Spec Tryz.prog 45 [algV p n U T, .ints .u8 8 Z] [] (Ret (.ints .u8 8 (intV p n T Z))) := by
  refine Spec.ret rfl (Spec.of_vc (tabOK.dir fun g => Nat.beq g 80) (tabEq.dir _) Tryz.func45 rfl (by kernel_rfl) rfl rfl ?_)
  refine LoopVC.ofR (LI p n U T Z) (fun x => [(2, .ptr 0 [] 0 0), (3, .ptr 1 [] 0 0), (4, .ptr 2 [] 0 0), (5, .ptr 3 [] 0 0), (11, .int .i64 n), (12, .int .i64 x.1)]) (fun x => imem p n U T Z x.2.1 x.2.2.2.2.2) (fun x => n - x.1) (0, .nilsl, (fun _ => 0), 0, 0, [])
    ⟨Nat.zero_le _, rfl, fun l hl => absurd hl (Nat.not_lt_zero _), fun h => absurd rfl h, ?_⟩ (fun i => i) (RenTo.same ?_ ?_) (fun _ _ => Nat.zero_le _) ?_ ?_
  · intro id u c hb q hq
    match id with
    | 0 => cases hb; rw [algV_noids] at hq; cases hq
    | 1 => cases hb; cases hq
    | 2 => cases hb; cases hq
    | 3 => cases hb; simp [spV, SV.ids] at hq
    | id + 4 => cases hb
  · exact (And.intro rfl (And.intro rfl (And.intro rfl (And.intro rfl (And.intro rfl (And.intro rfl (trivial)))))))
  · intro id u d hb
    match id with
    | 0 => cases hb; exact ⟨_, rfl, algR _ _ _ _⟩
    | 1 => cases hb; exact ⟨_, rfl, rowEq fun _ _ => rfl⟩
    | 2 => cases hb; exact ⟨_, rfl, rowEq fun _ _ => rfl⟩
    | 3 => cases hb; exact ⟨_, rfl, rfl, rfl, rfl, rfl⟩
    | id + 4 => cases hb
  · intro x hx
    refine OkP.of ?_ hx.clo
    simp [SV.ids]
  · rintro ⟨i, v, A, id, c, R⟩ ⟨hi, hv, hA, hB, hC⟩
    dsimp only at hi hv hA hB hC
    refine ifVC_split (fun h1 => ?_) (fun h1 => ?_)
    · have hin : i < n := by have := of_decide_eq_true h1; omega
      have hidx : (i : Int).toNat = i := by omega
      have hvl : v.leaf = true := by rw [hv]; exact listV_leaf _ _ _
      refine vc_gen (q := 0) 10 [0, 1, 2, 3, 4, 9] [5, 6, 7, 8] (by kernel_rfl) (by kernel_rfl) (by kernel_rfl) ?_
      refine readsAt_step rfl (by rfl) ?_
      refine readVC_fa rfl rfl rfl ?_
      refine readsAt_step rfl (by rfl) ?_
      refine readVC_loadF (v := v) (z := v) rfl rfl rfl rfl (fun _ h => getAt_leaf hvl h) ?_
      refine readsAt_step rfl (by rfl) ?_
      refine readVC_loadF (v := algV p n U T) (z := algV p n U T) rfl rfl rfl rfl (fun _ h => h) ?_
      refine readsAt_step rfl (by rfl) ?_
      refine readVC_loadR (l := 8) rfl rfl rfl (by omega) ?_
      refine readsAt_step rfl (by rfl) ?_
      refine readVC_mv rfl ?_
      refine readsAt_step rfl (by rfl) ?_
      refine readVC_fa rfl rfl rfl ?_
      refine readsAt_nil ?_
      refine restVC_val (i := 5) rfl (by rfl) rfl rfl rfl rfl rfl rfl (fun _ => rfl) (fun _ => rfl) (basisVector_s i ⟨by omega, by omega⟩) ?_
      refine restVC_val (i := 6) rfl (by rfl) rfl rfl rfl rfl rfl rfl (fun _ => rfl) (fun _ => rfl) (integralFault_s p n U T Z (unitV (i : Int).toNat) (by omega) hT hZ (unitV_u8 _ 8)) ?_
      rw [hidx]
      refine restVC_row1 (i := 7) rfl (by rfl) rfl rfl rfl rfl rfl fun G M1 hG p1 => ?_
      by_cases hz : i = 0
      · have e6 : v = .nilsl := by rw [hv, hz]; rfl
        subst e6
        refine restVC_appE (i := 8) rfl (by rfl) (by kernel_rfl) rfl rfl rfl rfl rfl rfl p1.new (by omega) (by omega) fun cap' F' M2 hcap hF p2 => ?_
        have hl1 : M1.length = R.length + 5 := p1.len
        have hl2 : M2.length = R.length + 6 := by rw [p2.len, hl1]
        have o4 : ∀ q, q < 4 → blockOf M2 q = blockOf (imem p n U T Z (.nilsl) R) q := fun q hq => (p2.old q (by omega) (by omega)).trans (p1.old q (show q < R.length + 4 by omega) (show q ≠ R.length + 4 by omega))
        obtain ⟨R2, rfl⟩ := memHd4 ((o4 0 (by omega)).trans rfl) ((o4 1 (by omega)).trans rfl) ((o4 2 (by omega)).trans rfl) ((o4 3 (by omega)).trans rfl)
        have hR2 : R2.length = R.length + 2 := by simpa using hl2
        refine restVC_nil ?_
        have hcl := p2.clo (p1.clo hC (by simp [SV.ids])) (by simp [SV.ids])
        refine Exists.intro (i + 1, .sl M1.length 0 1 cap', F', R.length + 1, cap', R2) (Exists.intro (fun i => i) (And.intro ⟨hin, ?_, fun k hk q hq => ?_, fun _ => ⟨?_, ?_⟩, ?_⟩ (And.intro (show n - (i + 1) < n - i by omega) (RenTo.same ?_ ?_))))
        · show _ = listV (R.length + 1 + 4) (i + 1) cap'
          unfold listV
          rw [if_neg (by omega), hl1, hz]
        · have hk : k < i + 1 := hk
          obtain rfl : k = 0 := by omega
          show F' (0 * 64 + q) = _
          rw [hF, hG _ (by omega)]
          show faultF p T Z (unitV i) (0 * 64 + q + 0) = _
          rw [hz, show 0 * 64 + q + 0 = q by omega]
        · have := p2.new
          rw [hl1] at this
          show blockOf R2 (R.length + 1) = some (.ints .u8 ((i + 1) * 64) F', cap' * 64)
          rw [show (i + 1) * 64 = 1 * 64 by omega]
          exact this
        · show i + 1 ≤ cap'; omega
        · intro id' u d hb' q hq
          match id' with
          | 0 => exact hcl 0 u d hb' q hq
          | 1 => exact hcl 1 u d hb' q hq
          | 2 => exact hcl 2 u d hb' q hq
          | 3 =>
            cases hb'
            simp [spV, SV.ids] at hq
            show q < R2.length + 4
            omega
          | id' + 4 => exact hcl (id' + 4) u d hb' q hq
        · exact And.intro rfl (And.intro rfl (And.intro rfl (And.intro rfl (And.intro rfl (And.intro (slotI (wrapS (by omega))) trivial)))))
        · intro id' u d hb'
          match id' with
          | 0 => cases hb'; exact ⟨_, rfl, algR _ _ _ _⟩
          | 1 => cases hb'; exact ⟨_, rfl, rowEq fun _ _ => rfl⟩
          | 2 => cases hb'; exact ⟨_, rfl, rowEq fun _ _ => rfl⟩
          | 3 => cases hb'; exact ⟨_, rfl, rfl, rfl, rfl, rfl⟩
          | id' + 4 => exact ⟨u, hb', eqv_refl u⟩
      · have e6 : v = .sl (id + 4) 0 i c := by rw [hv]; unfold listV; rw [if_neg hz]
        obtain ⟨b1, b2⟩ := hB hz
        have hidl : id < R.length := blockOf_lt (by rw [b1]; rfl)
        subst e6
        refine restVC_appN (i := 8) (b := id + 4) rfl (by rfl) (by kernel_rfl) rfl rfl rfl rfl rfl rfl ((p1.old (id + 4) (show id + 4 < R.length + 4 by omega) (show id + 4 ≠ R.length + 4 by omega)).trans b1) p1.new (by omega) (Nat.zero_le _) ⟨Nat.le_refl _, rfl, b2, by omega, by omega⟩ fun cap' F' M2 hcap hF1 hF2 p2 => ?_
        have hl1 : M1.length = R.length + 5 := p1.len
        have hl2 : M2.length = R.length + 6 := by rw [p2.len, hl1]
        have o4 : ∀ q, q < 4 → blockOf M2 q = blockOf (imem p n U T Z (.sl (id + 4) 0 i c) R) q := fun q hq => (p2.old q (by omega) (by omega)).trans (p1.old q (show q < R.length + 4 by omega) (show q ≠ R.length + 4 by omega))
        obtain ⟨R2, rfl⟩ := memHd4 ((o4 0 (by omega)).trans rfl) ((o4 1 (by omega)).trans rfl) ((o4 2 (by omega)).trans rfl) ((o4 3 (by omega)).trans rfl)
        have hR2 : R2.length = R.length + 2 := by simpa using hl2
        refine restVC_nil ?_
        have hcl := p2.clo (p1.clo hC (by simp [SV.ids])) (by simp [SV.ids])
        refine Exists.intro (i + 1, .sl M1.length 0 (i + 1) cap', F', R.length + 1, cap', R2) (Exists.intro (fun i => i) (And.intro ⟨hin, ?_, fun k hk q hq => ?_, fun _ => ⟨?_, ?_⟩, ?_⟩ (And.intro (show n - (i + 1) < n - i by omega) (RenTo.same ?_ ?_))))
        · show _ = listV (R.length + 1 + 4) (i + 1) cap'
          unfold listV
          rw [if_neg (by omega), hl1]
        · have hk : k < i + 1 := hk
          show F' (k * 64 + q) = _
          by_cases e : k = i
          · have := hF2 q
            rw [hG _ (by omega)] at this
            rw [e]
            exact this
          · rw [hF1 _ (by omega)]; exact hA k (by omega) q hq
        · have := p2.new
          rw [hl1] at this
          show blockOf R2 (R.length + 1) = some (.ints .u8 ((i + 1) * 64) F', cap' * 64)
          rw [show (i + 1) * 64 = (i + 1) * 64 by omega]
          exact this
        · show i + 1 ≤ cap'; omega
        · intro id' u d hb' q hq
          match id' with
          | 0 => exact hcl 0 u d hb' q hq
          | 1 => exact hcl 1 u d hb' q hq
          | 2 => exact hcl 2 u d hb' q hq
          | 3 =>
            cases hb'
            simp [spV, SV.ids] at hq
            show q < R2.length + 4
            omega
          | id' + 4 => exact hcl (id' + 4) u d hb' q hq
        · exact And.intro rfl (And.intro rfl (And.intro rfl (And.intro rfl (And.intro rfl (And.intro (slotI (wrapS (by omega))) trivial)))))
        · intro id' u d hb'
          match id' with
          | 0 => cases hb'; exact ⟨_, rfl, algR _ _ _ _⟩
          | 1 => cases hb'; exact ⟨_, rfl, rowEq fun _ _ => rfl⟩
          | 2 => cases hb'; exact ⟨_, rfl, rowEq fun _ _ => rfl⟩
          | 3 => cases hb'; exact ⟨_, rfl, rfl, rfl, rfl, rfl⟩
          | id' + 4 => exact ⟨u, hb', eqv_refl u⟩
    · have hin : i = n := by have := of_decide_eq_false h1; omega
      subst hin
      obtain ⟨b1, b2⟩ := hB (by omega)
      have e6 : v = .sl (id + 4) 0 i c := by rw [hv]; unfold listV; rw [if_neg (by omega)]
      subst e6
      (repeat (first | (with_reducible refine vc_exit ?_) | (with_reducible refine vc_ret ?_) | (with_reducible refine vc_skip ?_) | (with_reducible refine thenQ_x ?_) | (with_reducible refine thenQ_r ?_) | (with_reducible refine thenQ_n ?_) | (with_reducible refine blockQ_x rfl ?_) | (with_reducible refine blockQ_y rfl ?_) | (with_reducible refine blockQ_n ?_) | (with_reducible refine blockQ_r ?_) | (with_reducible refine vc_seq ?_) | (with_reducible refine vc_region ?_) | (with_reducible refine vc_block ?_) | (with_reducible refine vc_scope ?_) | (with_reducible refine opsVC_nil ?_)))
      refine opsVC_loadF (v := spV p (.sl (id + 4) 0 i c)) rfl rfl rfl rfl rfl rfl (fun _ h => h) ?_
      refine opsVC_dir rfl rfl rfl rfl rfl rfl ?_
      refine Spec.mono (relations_s (imem p i U T Z (.sl (id + 4) 0 i c) R) i p (id + 4) c (c * 64) A b1 hC hn hp hp2 (fun q hq => by
        have := hA (q / 64) (by omega) (q % 64) (by omega)
        rw [show q / 64 * 64 + q % 64 = q by omega] at this
        rw [this]
        exact mod_rng (by omega) _)) ?_
      rintro r m' ⟨id2, k, c', A', hrv, hR, hbk, hl, hold⟩
      refine ⟨fun q hq h => by rw [hold q hq] at h; exact h, ?_⟩
      have hR : RedL p (IntS p i T Z) k A' := hR.of_iff fun x => by
        refine Iff.trans (and_congr_right fun hx => forall_congr' fun q => forall_congr' fun hq => ?_) (int_ker x)
        have : apW p (fun k q => A (k * 64 + q)) x q = apW p (fun k q => faultF p T Z (unitV k) q) x q := by
          unfold apW
          refine congrArg (· % (p : Int)) (sumN_congr 8 fun l hl => ?_)
          by_cases e : l < i
          · show x l * A (l * 64 + q) = _; rw [hA l e q hq]
          · rw [hx.out l (by omega) hl, Int.zero_mul, Int.zero_mul]
        rw [this]
      have hk := red_pos hex hR
      obtain ⟨q1, q2⟩ := hbk (by omega)
      have hrv : r = .sl id2 0 k c' := by rw [hrv]; unfold listV; rw [if_neg (by omega)]
      subst hrv
      refine opsVC_ia rfl rfl rfl rfl rfl ⟨by omega, by omega⟩ ?_
      refine opsVC_loadR (l := 8) rfl rfl rfl rfl q1 (show (0 : Int).toNat * 8 + 0 + 8 ≤ k * 8 by simp; omega) ?_
      have h2 : blockOf m' 2 = some (.ints .u8 8 fun _ => 0, 8) := (hold 2 (show 2 < R.length + 4 by omega)).trans rfl
      refine opsVC_storeR rfl rfl rfl rfl rfl h2 (Nat.le_refl _) ?_
      (repeat (first | (with_reducible refine vc_exit ?_) | (with_reducible refine vc_ret ?_) | (with_reducible refine vc_skip ?_) | (with_reducible refine thenQ_x ?_) | (with_reducible refine thenQ_r ?_) | (with_reducible refine thenQ_n ?_) | (with_reducible refine blockQ_x rfl ?_) | (with_reducible refine blockQ_y rfl ?_) | (with_reducible refine blockQ_n ?_) | (with_reducible refine blockQ_r ?_) | (with_reducible refine vc_seq ?_) | (with_reducible refine vc_region ?_) | (with_reducible refine vc_block ?_) | (with_reducible refine vc_scope ?_) | (with_reducible refine opsVC_nil ?_)))
      refine retQ_cell1 (l := 8) rfl rfl rfl (by rw [setBlock_get _ _ _ _ _ _ h2, if_pos rfl]) (Nat.le_refl _) ?_
      refine rowEq fun j hj => ?_
      rw [← intV_is (p := p) (n := i) (T := T) (Z := Z) (t := A') (by omega) ⟨k, A', hk, hR, fun _ _ => rfl⟩ j hj]
      show updR _ 0 8 _ (j + 0) = _
      simp [updR, hj]
end Go.Proofs.YtegcfjfhpodlmabGreat

/- Left and right integrals, unimodular and semisimple Hopf algebras: both sides, and the laws. -/
set_option linter.unusedVariables false
set_option linter.unusedSimpArgs false
set_option maxRecDepth 100000
set_option maxHeartbeats 4000000
namespace Go.Proofs.YtegcfjfhpodlmabGreat
open M

structure HopP (p n : Nat) (U T Z C S : Nat → Int) : Prop where
  hp : primeB (p : Int) = true
  hp2 : 2 ≤ p ∧ p ≤ 31
  V : HV p n U T Z C S
  l : HasInt p n T Z
  r : HasInt p n (flipF T) Z
theorem hopP_of {p n : Int} {U T Z C S : Nat → Int} (hU : isU8 8 U) (hT : isU8 512 T) (hZ : isU8 8 Z) (hC : isU8 512 C) (hS : isU8 64 S) (h : hopB p n U T Z C S = true) : ∃ p' n' : Nat, p = p' ∧ n = n' ∧ HopP p' n' U T Z C S := by
  obtain ⟨n', rfl, hV⟩ := hopB_valid hU hT hZ hC hS h
  have ha : algB p n' U T = true := by
    unfold hopB at h
    simp only [Bool.and_eq_true, beq_iff_eq] at h
    have h := h.2
    unfold failN at h
    cases hc : algB p n' U T with
    | true => rfl
    | false => rw [if_pos (by rw [Int.toNat_natCast]; exact hc)] at h; cases h
  obtain ⟨p', n'', rfl, e, hA⟩ := algP_of hU hT ha
  obtain ⟨h1, h2⟩ := ints_exist hA.hp2.1 hV h
  exact ⟨p', n', rfl, rfl, hA.hp, hA.hp2, hV, h1, h2⟩
theorem Spec.one {P : Program} {f : Nat} {args : List SV} {R : SV → Mem → Prop} (h : Spec P f args [] fun r m' => ∃ k c A id, R (.sl 0 0 k c) [some (.ints .u8 (k * 8) A, c * 8)] ∧ r = .sl id 0 k c ∧ blockOf m' id = some (.ints .u8 (k * 8) A, c * 8)) : Spec P f args [] R := by
  refine Spec.single h ?_
  rintro r m' ⟨k, c, A, id, hR, rfl, hb⟩
  exact .inr ⟨id, _, _, hb, rfl, by simp [SV.ids], hR⟩

section
variable (p n : Nat) (U T Z C S : Nat → Int) (h : HopP p n U T Z C S)
include h
theorem leftIntegral_s : Spec Tryz.prog 27 [hopV p n U T Z C S] [] (Ret (.ints .u8 8 (intV p n T Z))) := by
  refine Spec.ret rfl (Spec.of_vc tabOK tabEq Tryz.func27 rfl (by kernel_rfl) rfl rfl ?_)
  refine Exists.intro 5 (And.intro (by kernel_rfl) ?_)
  refine Exists.intro (algV p n U T) (And.intro (And.intro rfl (And.intro rfl (Spec.mono (algebraOf_s p n U T Z C S) fun r m h => h.1))) ?_)
  (repeat (first | refine And.intro (by omega) ?_ | refine And.intro ⟨by omega, by omega⟩ ?_))
  refine Exists.intro (.ints .u8 8 (intV p n T Z)) (And.intro (And.intro rfl (And.intro rfl (Spec.mono (leftIntegralIn_s p n U T Z h.hp h.hp2 ⟨h.V.n1, h.V.a.hn⟩ h.V.hT (fun j hj => h.V.c.ult j hj) h.l) fun r m h => h.1))) ?_)
  (repeat (first | refine And.intro (by omega) ?_ | refine And.intro ⟨by omega, by omega⟩ ?_))
  refine rowEq fun j hj => ?_
  show updR _ 0 8 _ (j + 0) = _
  simp [updR, hj]
theorem side_has (right : Bool) : HasInt p n (sideT right T) Z := by
  cases right
  · exact h.l
  · exact h.r
theorem l05Left_s (right : Bool) : Spec Tryz.prog 19 [hopV p n U T Z C S, .bool right] [] (Ret (.ints .u8 8 (intV p n (sideT right T) Z))) := by
  refine Spec.ret rfl (Spec.of_vc tabOK tabEq Tryz.func19 rfl (by kernel_rfl) rfl rfl ?_)
  refine And.intro trivial (Spec.mono (Spec.one (R := fun r m => ∃ k c A, RedL p (IntS p n (sideT right T) Z) k A ∧ r = .sl 0 0 k c ∧ m = [some (.ints .u8 (k * 8) A, c * 8)]) (Spec.mono (l05Integrals_s p n U T Z C S right h.hp h.hp2 h.V) ?_)) ?_)
  · rintro r m ⟨k, c, A, id, hR, _, rfl, hb⟩
    exact ⟨k, c, A, id, ⟨k, c, A, hR, rfl, rfl⟩, rfl, hb⟩
  rintro _ _ ⟨k, c, A, hR, rfl, rfl⟩
  have hk := red_pos (side_has p n U T Z C S h right) hR
  have hp2 := h.hp2
  refine ifVC_false (by simp; omega) ?_
  refine And.intro ⟨by omega, by omega⟩ ?_
  refine And.intro (show (0 : Int).toNat * 8 + 0 + 8 ≤ k * 8 by simp; omega) ?_
  (repeat (first | refine And.intro (by omega) ?_ | refine And.intro ⟨by omega, by omega⟩ ?_))
  refine rowEq fun j hj => ?_
  rw [← intV_is (p := p) (n := n) (T := sideT right T) (Z := Z) (t := A) (by omega) ⟨k, A, hk, hR, fun _ _ => rfl⟩ j hj]
  show updR _ 0 8 _ (j + 0) = _
  simp [updR, hj]
end

section
variable (p n : Int) (U T Z C S : Nat → Int) (hU : isU8 8 U) (hT : isU8 512 T) (hZ : isU8 8 Z) (hC : isU8 512 C) (hS : isU8 64 S)
include hU hT hZ hC hS
noncomputable def intOut (right : Bool) (p n : Int) (U T Z C S : Nat → Int) : SV := .tcons (.ints .u8 8 fun j => if hopB p n U T Z C S = true then intV p.toNat n.toNat (sideT right T) Z j else 0) (.tcons (.int .i64 (if hopB p n U T Z C S = true then 0 else 1)) .tnil)
/-! ### unimodular ones -/
noncomputable def uniOut (p n : Int) (U T Z C S : Nat → Int) : SV := .tcons (.bool (hopB p n U T Z C S && allEq 8 (intV p.toNat n.toNat T Z) (intV p.toNat n.toNat (flipF T) Z))) (.tcons (.int .i64 (if hopB p n U T Z C S = true then 0 else 1)) .tnil)
/-! ### semisimple ones -/
noncomputable def semB (p n : Nat) (T Z : Nat → Int) : Bool := cnt p Z (intV p n T Z) != 0
noncomputable def semOut (p n : Int) (U T Z C S : Nat → Int) : SV := .tcons (.bool (hopB p n U T Z C S && semB p.toNat n.toNat T Z)) (.tcons (.int .i64 (if hopB p n U T Z C S = true then 0 else 1)) .tnil)
omit hU hT hZ hC hS in
theorem int_vec {p n : Nat} {U T Z C S : Nat → Int} (h : HopP p n U T Z C S) : VecP p n (intV p n T Z) := by
  have hp2 := h.hp2
  obtain ⟨k, A, hk, hR⟩ : ∃ k A, 0 < k ∧ RedL p (IntS p n T Z) k A := by
    obtain ⟨k, A, hR⟩ := int_red_ex (T := T) (Z := Z) h.hp h.hp2 h.V.a.hn
    exact ⟨k, A, red_pos h.l hR, hR⟩
  have hv := (hR.mem 0 hk).1
  have e := intV_is (p := p) (n := n) (T := T) (Z := Z) (t := A) (by omega) ⟨k, A, hk, hR, fun _ _ => rfl⟩
  have e0 : ∀ j, partF A 8 0 j = A j := fun j => by unfold partF; rw [Nat.zero_mul, Nat.add_zero]
  exact ⟨fun j hj => by rw [← e j hj, ← e0]; exact hv.rng j hj, fun j h1 h2 => by rw [← e j h2, ← e0]; exact hv.out j h1 h2⟩
omit hU hT hZ hC hS in
theorem isSemisimple_s (p n : Nat) (h : HopP p n U T Z C S) : Spec Tryz.prog 35 [hopV p n U T Z C S] [] (Ret (.bool (semB p n T Z))) := by
  have hp2 := h.hp2
  have hv := int_vec h
  refine Spec.ret rfl (Spec.of_vc tabOK tabEq Tryz.func35 rfl (by kernel_rfl) rfl rfl ?_)
  refine Exists.intro 6 (And.intro (by kernel_rfl) ?_)
  refine Exists.intro (algV p n Z C) (And.intro (And.intro rfl (And.intro rfl (Spec.mono (coalgebraOf_s p n U T Z C S) fun r m h => h.1))) ?_)
  refine Exists.intro (.ints .u8 8 (intV p n T Z)) (And.intro (And.intro rfl (And.intro rfl (Spec.mono (leftIntegral_s p n U T Z C S h) fun r m h => h.1))) ?_)
  refine Exists.intro (.int .i64 (cnt p Z (intV p n T Z))) (And.intro (And.intro rfl (And.intro rfl (Spec.mono (counit_s p n Z C _ h.V.a.hp h.V.hZ (fun j hj => by have := hv.rng j hj; omega)) fun r m h => h.1))) ?_)
  exact boolEq rfl
omit hU hT hZ hC hS in
theorem l05Semisimple_s (p n : Nat) (h : HopP p n U T Z C S) : Spec Tryz.prog 33 [hopV p n U T Z C S] [] (Ret (.bool (semB p n T Z))) := by
  have hp2 := h.hp2
  have hv := int_vec h
  refine Spec.ret rfl (Spec.of_vc tabOK tabEq Tryz.func33 rfl (by kernel_rfl) rfl rfl ?_)
  refine Exists.intro 5 (And.intro (by kernel_rfl) ?_)
  refine Exists.intro (.ints .u8 8 (intV p n T Z)) (And.intro (And.intro rfl (And.intro rfl (Spec.mono (l05Left_s p n U T Z C S h false) fun r m h => h.1))) ?_)
  refine Exists.intro (.int .i64 (cnt p Z (intV p n T Z))) (And.intro (And.intro rfl (And.intro rfl (Spec.mono (l03Counit_s p n U T Z C S _ h.V.a.hp h.V.a.hn h.V.hZ (fun j hj => by have := hv.rng j hj; omega) (fun i h1 h2 => hv.out i h1 h2)) fun r m h => h.1))) ?_)
  exact boolEq rfl
end
end Go.Proofs.YtegcfjfhpodlmabGreat

/- The dual of a Hopf algebra in tables is one. -/
set_option linter.unusedVariables false
set_option linter.unusedSimpArgs false
set_option linter.unusedSectionVars false
namespace Go.Proofs.YtegcfjfhpodlmabGreat.LS
variable {p : Nat} [NeZero p] {n : Nat}

/-- products and coproducts change places -/
def Hopf.dual (H : Hopf p n) : Hopf p n := ⟨fun j k i => H.C i j k, H.Z, fun i j k => H.T j k i, H.U, fun i m => H.S m i⟩

theorem su_c3 (f : Fin n → Fin n → Fin n → Fin p) : (su n fun a => su n fun b => su n fun c => f a b c) = su n fun c => su n fun b => su n fun a => f a b c := by
  rw [su_comm]
  rw [su_congr fun b => su_comm n n fun a c => f a b c]
  rw [su_comm]

theorem Ax.dual {H : Hopf p n} (h : Ax H) : Ax H.dual where
  assoc i j k m := by
    have := h.coassoc m i j k
    show (su n fun q => H.C q i j * H.C m q k) = su n fun q => H.C q j k * H.C m i q
    rw [su_congr (g := fun q => H.C m q k * H.C q i j) fun q => by grind, this]
    exact su_congr fun q => by grind
  unit_l i m := by
    have := h.counit_l m i
    show (su n fun q => H.Z q * H.C m q i) = _
    rw [su_congr (g := fun q => H.C m q i * H.Z q) fun q => by grind, this]
    by_cases e : m = i
    · rw [if_pos e, if_pos e.symm]
    · rw [if_neg e, if_neg fun e' => e e'.symm]
  unit_r i m := by
    have := h.counit_r m i
    show (su n fun q => H.Z q * H.C m i q) = _
    rw [su_congr (g := fun q => H.C m i q * H.Z q) fun q => by grind, this]
    by_cases e : m = i
    · rw [if_pos e, if_pos e.symm]
    · rw [if_neg e, if_neg fun e' => e e'.symm]
  coassoc i j k l := by
    have := h.assoc j k l i
    show (su n fun q => H.T q l i * H.T j k q) = su n fun q => H.T j q i * H.T k l q
    rw [su_congr (g := fun q => H.T j k q * H.T q l i) fun q => by grind, this]
    exact su_congr fun q => by grind
  counit_l i k := by
    have := h.unit_l k i
    show (su n fun j => H.T j k i * H.U j) = _
    rw [su_congr (g := fun q => H.U q * H.T q k i) fun q => by grind, this]
    by_cases e : i = k
    · rw [if_pos e, if_pos e.symm]
    · rw [if_neg e, if_neg fun e' => e e'.symm]
  counit_r i j := by
    have := h.unit_r j i
    show (su n fun k => H.T j k i * H.U k) = _
    rw [su_congr (g := fun q => H.U q * H.T j q i) fun q => by grind, this]
    by_cases e : i = j
    · rw [if_pos e, if_pos e.symm]
    · rw [if_neg e, if_neg fun e' => e e'.symm]
  comul i j a b := by
    show (su n fun q => H.C q i j * H.T a b q) = su n fun c => su n fun d => H.T c d i * su n fun f => su n fun g => H.T f g j * (H.C a c f * H.C b d g)
    rw [su_congr (g := fun q => H.T a b q * H.C q i j) fun q => by grind, h.comul a b i j]
    have hl : ∀ X Y : Fin n → Fin n → Fin p, ∀ W : Fin n → Fin n → Fin n → Fin n → Fin p, (su n fun c => su n fun d => X c d * su n fun f => su n fun g => Y f g * W c d f g) = su n fun c => su n fun d => su n fun f => su n fun g => X c d * (Y f g * W c d f g) := fun X Y W =>
      su_congr fun c => su_congr fun d => by rw [su_mul]; exact su_congr fun f => by rw [su_mul]
    rw [hl (H.C a) (H.C b) fun c d f g => H.T c f i * H.T d g j, hl (fun c d => H.T c d i) (fun f g => H.T f g j) fun c d f g => H.C a c f * H.C b d g]
    refine su_congr fun c => ?_
    rw [su_comm]
    exact su_congr fun d => su_congr fun f => su_congr fun g => by grind
  counit_one := by
    show (su n fun q => H.Z q * H.U q) = 1
    rw [su_congr (g := fun q => H.U q * H.Z q) fun q => by grind, h.counit_one]
  coone a b := by
    show (su n fun q => H.Z q * H.T a b q) = H.Z a * H.Z b
    rw [su_congr (g := fun q => H.T a b q * H.Z q) fun q => by grind, h.coeps]
  coeps i j := by
    show (su n fun q => H.C q i j * H.U q) = H.U i * H.U j
    rw [su_congr (g := fun q => H.U q * H.C q i j) fun q => by grind, h.coone]
  ant_l i m := by
    have := h.ant_l m i
    show (su n fun j => su n fun k => H.T j k i * su n fun q => H.S q j * H.C m q k) = H.U i * H.Z m
    have e1 : (su n fun j => su n fun k => H.T j k i * su n fun q => H.S q j * H.C m q k) = su n fun j => su n fun k => su n fun q => H.T j k i * (H.S q j * H.C m q k) := su_congr fun j => su_congr fun k => by rw [su_mul]
    have e2 : (su n fun j => su n fun k => H.C m j k * su n fun q => H.S j q * H.T q k i) = su n fun j => su n fun k => su n fun q => H.C m j k * (H.S j q * H.T q k i) := su_congr fun j => su_congr fun k => by rw [su_mul]
    rw [e1, su_c3]
    rw [e2] at this
    rw [show H.U i * H.Z m = H.Z m * H.U i by grind, ← this]
    exact su_congr fun q => su_congr fun k => su_congr fun j => by grind
  ant_r i m := by
    have := h.ant_r m i
    show (su n fun j => su n fun k => H.T j k i * su n fun q => H.S q k * H.C m j q) = H.U i * H.Z m
    have e1 : (su n fun j => su n fun k => H.T j k i * su n fun q => H.S q k * H.C m j q) = su n fun j => su n fun q => su n fun k => H.T j k i * (H.S q k * H.C m j q) := su_congr fun j => by
      rw [← su_comm]
      exact su_congr fun k => by rw [su_mul]
    have e2 : (su n fun j => su n fun k => H.C m j k * su n fun q => H.S k q * H.T j q i) = su n fun j => su n fun k => su n fun q => H.C m j k * (H.S k q * H.T j q i) := su_congr fun j => su_congr fun k => by rw [su_mul]
    rw [e1]
    rw [e2] at this
    rw [show H.U i * H.Z m = H.Z m * H.U i by grind, ← this]
    exact su_congr fun j => su_congr fun q => su_congr fun k => by grind
end Go.Proofs.YtegcfjfhpodlmabGreat.LS
