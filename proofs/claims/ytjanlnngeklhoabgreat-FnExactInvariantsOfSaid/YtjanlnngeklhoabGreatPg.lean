/- Texts in one: Hop3, Hop4, Hop5, Hop6, Hop6c, Hop7, Intg, LS, Bri, Intm, Intp, OpenHop, Mod1, Mod2. -/
import Derived.Test.YtjanlnngeklhoabGreatPf
import Derived.Test.YtjanlnngeklhoabGreatPe
import Derived.Test.YtjanlnngeklhoabGreatPd
set_option linter.unusedSimpArgs false
set_option linter.unusedVariables false
set_option linter.unusedSectionVars false
/- The axioms of Hopf algebras, as the program checks them, and the search for the first that fails. -/
set_option linter.unusedVariables false
set_option linter.unusedSimpArgs false
set_option maxRecDepth 100000
set_option maxHeartbeats 1000000
namespace Go.Proofs.YtjanlnngeklhoabGreat
open M

def ax3 (p : Int) (T C : Nat → Int) (i j : Nat) : Bool := allEq 64 (leftT p C (vecT T i j)) (pairsF p T (partF C 64 i) (partF C 64 j))
def ax4B (p : Int) (U C : Nat → Int) : Bool := allEq 64 (leftT p C U) (tenF p U U)
def ax5 (p : Int) (T Z : Nat → Int) (i j : Nat) : Bool := cnt p Z (vecT T i j) == Z i * Z j % p
def ax6B (p : Int) (n : Nat) (U T Z C S : Nat → Int) : Bool := allEq 64 (convF p n T C S (idF n)) (tenF p Z U)
def ax7B (p : Int) (n : Nat) (U T Z C S : Nat → Int) : Bool := allEq 64 (convF p n T C (idF n) S) (tenF p Z U)
def all2 (n : Nat) (f : Nat → Nat → Bool) : Bool := (List.range n).all fun i => (List.range n).all (f i)
theorem all2_yes {n : Nat} {f : Nat → Nat → Bool} (h : ∀ i j, i < n → j < n → f i j = true) : all2 n f = true :=
  List.all_eq_true.2 fun i hi => List.all_eq_true.2 fun j hj => h i j (List.mem_range.1 hi) (List.mem_range.1 hj)
theorem all2_get {n : Nat} {f : Nat → Nat → Bool} (h : all2 n f = true) {i j : Nat} (hi : i < n) (hj : j < n) : f i j = true :=
  List.all_eq_true.1 (List.all_eq_true.1 h i (List.mem_range.2 hi)) j (List.mem_range.2 hj)
theorem all2_no {n : Nat} {f : Nat → Nat → Bool} {i j : Nat} (hi : i < n) (hj : j < n) (h : f i j = false) : all2 n f = false := by
  cases hb : all2 n f with
  | false => rfl
  | true => rw [all2_get hb hi hj] at h; cases h

theorem vec_is (T : Nat → Int) (i j : Nat) {a b : Nat} (ha : a = i) (hb : b = j) : (fun m => T (m + (b * 8 + (a * 64 + 0)))) = vecT T i j := by
  subst ha; subst hb; rfl
theorem row_is (C : Nat → Int) (i : Nat) {a : Nat} (ha : a = i) : (fun m => C (m + (a * 64 + 0))) = partF C 64 i := by
  subst ha; rfl
theorem part_u8 {n m k i : Nat} {F : Nat → Int} (h : isU8 n F) (hk : i * m + k ≤ n) : isU8 k (partF F m i) := fun j hj => h _ (by omega)
theorem vecT_u8 {T : Nat → Int} (hT : isU8 512 T) {i j : Nat} (hi : i < 8) (hj : j < 8) : isU8 8 (vecT T i j) := fun m hm => vec_u8 hT hi hj hm

section
variable (p : Int) (n : Nat) (U T Z C S : Nat → Int) (hV : HV p n U T Z C S)
include hV

theorem keepsProduct_s (i j : Nat) (hi : i < n) (hj : j < n) : Spec Tryz.prog 84 [hopV p n U T Z C S, .int .i64 i, .int .i64 j] [] (Ret (.bool (ax3 p T C i j))) := by
  have hn := hV.a.hn
  have hp := hV.a.hp
  have hidx : (i : Int).toNat = i := by omega
  have hjdx : (j : Int).toNat = j := by omega
  refine Spec.ret rfl (Spec.of_vc tabOK tabEq Tryz.func84 rfl (by kernel_rfl) rfl rfl ?_)
  refine Exists.intro 12 (And.intro (by kernel_rfl) ?_)
  refine Exists.intro (algV p n U T) (And.intro (And.intro rfl (And.intro rfl (Spec.mono (algebraOf_s p n U T Z C S) fun r m h => h.1))) ?_)
  (repeat (first | refine And.intro (by omega) ?_ | refine And.intro ⟨by omega, by omega⟩ ?_))
  refine Exists.intro (.ints .u8 64 (pairsF p T (partF C 64 i) (partF C 64 j))) (And.intro (And.intro rfl (And.intro rfl ?_)) ?_)
  · rw [row_is C i hidx, row_is C j hjdx]
    exact Spec.mono (productOfPairs_s p n U T _ _ hp hV.hT (part_u8 hV.hC (by omega)) (part_u8 hV.hC (by omega))) fun r m h => h.1
  (repeat (first | refine And.intro (by omega) ?_ | refine And.intro ⟨by omega, by omega⟩ ?_))
  refine Exists.intro 11 (And.intro (by kernel_rfl) ?_)
  refine Exists.intro (algV p n Z C) (And.intro (And.intro rfl (And.intro rfl (Spec.mono (coalgebraOf_s p n U T Z C S) fun r m h => h.1))) ?_)
  (repeat (first | refine And.intro (by omega) ?_ | refine And.intro ⟨by omega, by omega⟩ ?_))
  refine Exists.intro (.ints .u8 64 (leftT p C (vecT T i j))) (And.intro (And.intro rfl (And.intro rfl ?_)) ?_)
  · rw [vec_is T i j hidx hjdx]
    exact Spec.mono (coproduct_s p n Z C _ hp hV.hC (vecT_u8 hV.hT (by omega) (by omega))) fun r m h => h.1
  (repeat (first | refine And.intro (by omega) ?_ | refine And.intro ⟨by omega, by omega⟩ ?_))
  refine boolEq ?_
  refine allEq_congr (fun _ _ => rfl) fun q hq => ?_
  show updR _ 0 64 _ (q + 0) = _
  simp [updR, hq]

theorem keepsUnit_s (i j : Int) : Spec Tryz.prog 85 [hopV p n U T Z C S, .int .i64 i, .int .i64 j] [] (Ret (.bool (ax4B p U C))) := by
  have hp := hV.a.hp
  refine Spec.ret rfl (Spec.of_vc tabOK tabEq Tryz.func85 rfl (by kernel_rfl) rfl rfl ?_)
  refine Exists.intro 13 (And.intro (by kernel_rfl) ?_)
  refine Exists.intro (algV p n Z C) (And.intro (And.intro rfl (And.intro rfl (Spec.mono (coalgebraOf_s p n U T Z C S) fun r m h => h.1))) ?_)
  (repeat (first | refine And.intro (by omega) ?_ | refine And.intro ⟨by omega, by omega⟩ ?_))
  refine Exists.intro (.ints .u8 64 (leftT p C U)) (And.intro (And.intro rfl (And.intro rfl (Spec.mono (coproduct_s p n Z C _ hp hV.hC (fun q hq => hV.hU _ (by omega))) fun r m h => h.1))) ?_)
  (repeat (first | refine And.intro (by omega) ?_ | refine And.intro ⟨by omega, by omega⟩ ?_))
  refine Exists.intro (.ints .u8 64 (tenF p U U)) (And.intro (And.intro rfl (And.intro rfl (Spec.mono (tensor_s p _ _ hp (fun q hq => hV.hU _ (by omega)) (fun q hq => hV.hU _ (by omega))) fun r m h => h.1))) ?_)
  exact boolEq rfl

theorem hasCounitOfProduct_s (i j : Nat) (hi : i < n) (hj : j < n) : Spec Tryz.prog 86 [hopV p n U T Z C S, .int .i64 i, .int .i64 j] [] (Ret (.bool (ax5 p T Z i j && (cnt p Z U == 1)))) := by
  have hn := hV.a.hn
  have hp := hV.a.hp
  have hidx : (i : Int).toNat = i := by omega
  have hjdx : (j : Int).toNat = j := by omega
  refine Spec.ret rfl (Spec.of_vc tabOK tabEq Tryz.func86 rfl (by kernel_rfl) rfl rfl ?_)
  refine Exists.intro 15 (And.intro (by kernel_rfl) ?_)
  refine Exists.intro (algV p n Z C) (And.intro (And.intro rfl (And.intro rfl (Spec.mono (coalgebraOf_s p n U T Z C S) fun r m h => h.1))) ?_)
  (repeat (first | refine And.intro (by omega) ?_ | refine And.intro ⟨by omega, by omega⟩ ?_))
  refine Exists.intro 20 (And.intro (by kernel_rfl) ?_)
  (repeat (first | refine And.intro (by omega) ?_ | refine And.intro ⟨by omega, by omega⟩ ?_))
  refine Exists.intro (.int .i64 (cnt p Z (vecT T i j))) (And.intro (And.intro rfl (And.intro rfl ?_)) ?_)
  · rw [vec_is T i j hidx hjdx]
    exact Spec.mono (counit_s p n Z C _ hp hV.hZ (vecT_u8 hV.hT (by omega) (by omega))) fun r m h => h.1
  (repeat (first | refine And.intro (by omega) ?_ | refine And.intro ⟨by omega, by omega⟩ ?_))
  have zi := hV.hZ i (by omega)
  have zj := hV.hZ j (by omega)
  have zz := mulB zi zj
  have hb : IntKind.i64.wrap (IntKind.i64.wrap (Z ((i : Int).toNat * 1 + 0)) * IntKind.i64.wrap (Z ((j : Int).toNat * 1 + 0))) = Z i * Z j := by
    rw [show (i : Int).toNat * 1 + 0 = i by omega, show (j : Int).toNat * 1 + 0 = j by omega, wrapI (x := Z i) (by omega), wrapI (x := Z j) (by omega), wrapI (by omega)]
  have he : (cnt p Z (vecT T i j) == (IntKind.i64.wrap (IntKind.i64.wrap (Z ((i : Int).toNat * 1 + 0)) * IntKind.i64.wrap (Z ((j : Int).toNat * 1 + 0)))).tmod p) = ax5 p T Z i j := by
    rw [hb, Int.tmod_eq_emod_of_nonneg zz.1]
    rfl
  refine ifVC_split (fun hc => ?_) (fun hc => ?_)
  · have hc : ax5 p T Z i j = true := by rw [← he]; exact hc
    (repeat (first | refine And.intro (by omega) ?_ | refine And.intro ⟨by omega, by omega⟩ ?_))
    refine Exists.intro (.int .i64 (cnt p Z U)) (And.intro (And.intro rfl (And.intro rfl (Spec.mono (counit_s p n Z C _ hp hV.hZ (fun q hq => hV.hU _ (by omega))) fun r m h => h.1))) ?_)
    exact boolEq (by rw [hc, Bool.true_and])
  · have hc : ax5 p T Z i j = false := by rw [← he]; exact hc
    exact boolEq (by rw [hc, Bool.false_and])

theorem hasLeftAntipode_s (i j : Int) : Spec Tryz.prog 87 [hopV p n U T Z C S, .int .i64 i, .int .i64 j] [] (Ret (.bool (ax6B p n U T Z C S))) := by
  have hn := hV.a.hn
  have hp := hV.a.hp
  refine Spec.ret rfl (Spec.of_vc tabOK tabEq Tryz.func87 rfl (by kernel_rfl) rfl rfl ?_)
  refine Exists.intro 6 (And.intro (by kernel_rfl) ?_)
  refine Exists.intro (algV p n Z C) (And.intro (And.intro rfl (And.intro rfl (Spec.mono (coalgebraOf_s p n U T Z C S) fun r m h => h.1))) ?_)
  refine Exists.intro (algV p n U T) (And.intro (And.intro rfl (And.intro rfl (Spec.mono (algebraOf_s p n U T Z C S) fun r m h => h.1))) ?_)
  (repeat (first | refine And.intro (by omega) ?_ | refine And.intro ⟨by omega, by omega⟩ ?_))
  refine Exists.intro 16 (And.intro (by kernel_rfl) ?_)
  (repeat (first | refine And.intro (by omega) ?_ | refine And.intro ⟨by omega, by omega⟩ ?_))
  refine Exists.intro (.ints .u8 64 (idF n)) (And.intro (And.intro rfl (And.intro rfl (Spec.mono (identity_s n hn) fun r m h => h.1))) ?_)
  refine Exists.intro (.ints .u8 64 (convF p n T C S (idF n))) (And.intro (And.intro rfl (And.intro rfl (Spec.mono (convolution_s p n n Z C U T _ _ hp hn hV.hC hV.hT (fun q hq => hV.hS _ (by omega)) (idF_u8 n 64)) fun r m h => h.1))) ?_)
  (repeat (first | refine And.intro (by omega) ?_ | refine And.intro ⟨by omega, by omega⟩ ?_))
  refine Exists.intro (.ints .u8 64 (tenF p Z U)) (And.intro (And.intro rfl (And.intro rfl (Spec.mono (tensor_s p _ _ hp (fun q hq => hV.hZ _ (by omega)) (fun q hq => hV.hU _ (by omega))) fun r m h => h.1))) ?_)
  exact boolEq rfl

theorem hasRightAntipode_s (i j : Int) : Spec Tryz.prog 88 [hopV p n U T Z C S, .int .i64 i, .int .i64 j] [] (Ret (.bool (ax7B p n U T Z C S))) := by
  have hn := hV.a.hn
  have hp := hV.a.hp
  refine Spec.ret rfl (Spec.of_vc tabOK tabEq Tryz.func88 rfl (by kernel_rfl) rfl rfl ?_)
  refine Exists.intro 6 (And.intro (by kernel_rfl) ?_)
  refine Exists.intro (algV p n Z C) (And.intro (And.intro rfl (And.intro rfl (Spec.mono (coalgebraOf_s p n U T Z C S) fun r m h => h.1))) ?_)
  refine Exists.intro (algV p n U T) (And.intro (And.intro rfl (And.intro rfl (Spec.mono (algebraOf_s p n U T Z C S) fun r m h => h.1))) ?_)
  (repeat (first | refine And.intro (by omega) ?_ | refine And.intro ⟨by omega, by omega⟩ ?_))
  refine Exists.intro 16 (And.intro (by kernel_rfl) ?_)
  refine Exists.intro (.ints .u8 64 (idF n)) (And.intro (And.intro rfl (And.intro rfl (Spec.mono (identity_s n hn) fun r m h => h.1))) ?_)
  (repeat (first | refine And.intro (by omega) ?_ | refine And.intro ⟨by omega, by omega⟩ ?_))
  refine Exists.intro (.ints .u8 64 (convF p n T C (idF n) S)) (And.intro (And.intro rfl (And.intro rfl (Spec.mono (convolution_s p n n Z C U T _ _ hp hn hV.hC hV.hT (idF_u8 n 64) (fun q hq => hV.hS _ (by omega))) fun r m h => h.1))) ?_)
  (repeat (first | refine And.intro (by omega) ?_ | refine And.intro ⟨by omega, by omega⟩ ?_))
  refine Exists.intro (.ints .u8 64 (tenF p Z U)) (And.intro (And.intro rfl (And.intro rfl (Spec.mono (tensor_s p _ _ hp (fun q hq => hV.hZ _ (by omega)) (fun q hq => hV.hU _ (by omega))) fun r m h => h.1))) ?_)
  exact boolEq rfl

theorem axiom1_s (i j : Int) : Spec Tryz.prog 80 [hopV p n U T Z C S, .int .i64 i, .int .i64 j] [] (Ret (.bool (algB p n U T))) := by
  refine Spec.ret rfl (Spec.of_vc tabOK tabEq Tryz.func80 rfl (by kernel_rfl) rfl rfl ?_)
  refine And.intro trivial (Spec.mono (algebraOf_s p n U T Z C S) ?_)
  rintro r m ⟨rfl, rfl⟩
  refine And.intro trivial (Spec.mono (isAlgebra_s p n U T hV.hU hV.hT) ?_)
  rintro r m ⟨rfl, rfl⟩
  exact boolEq rfl
theorem axiom2_s (i j : Int) : Spec Tryz.prog 82 [hopV p n U T Z C S, .int .i64 i, .int .i64 j] [] (Ret (.bool (coB p n Z C))) := by
  refine Spec.ret rfl (Spec.of_vc tabOK tabEq Tryz.func82 rfl (by kernel_rfl) rfl rfl ?_)
  refine And.intro trivial (Spec.mono (coalgebraOf_s p n U T Z C S) ?_)
  rintro r m ⟨rfl, rfl⟩
  refine And.intro trivial (Spec.mono (implIsCo_s p n Z C hV.hZ hV.hC) ?_)
  rintro r m ⟨rfl, rfl⟩
  exact boolEq rfl
end

/-! ### the search -/
/-- whether the condition of the number k + 1 holds for i and j -/
def holdAt (p : Int) (n : Nat) (U T Z C S : Nat → Int) (k i j : Nat) : Bool :=
  match k with
  | 0 => algB p n U T
  | 1 => coB p n Z C
  | 2 => ax3 p T C i j
  | 3 => ax4B p U C
  | 4 => ax5 p T Z i j && (cnt p Z U == 1)
  | 5 => ax6B p n U T Z C S
  | _ => ax7B p n U T Z C S
def axPair (k : Nat) : Bool := match k with | 2 => true | 4 => true | _ => false
def axFn (k : Nat) : Nat :=
  match k with
  | 0 => 80
  | 1 => 82
  | 2 => 84
  | 3 => 85
  | 4 => 86
  | 5 => 87
  | _ => 88
def axV (k : Nat) : SV := .pair (.bool (axPair k)) (.pair (.fn (axFn k)) .unit)
def axsV : SV := .pair (axV 0) (.pair (axV 1) (.pair (axV 2) (.pair (axV 3) (.pair (axV 4) (.pair (axV 5) (.pair (axV 6) .unit))))))
theorem axR (k : Nat) : SV.eqv (axV k) (axV k) := And.intro rfl (And.intro rfl rfl)
theorem axsR : SV.eqv axsV axsV := And.intro (axR 0) (And.intro (axR 1) (And.intro (axR 2) (And.intro (axR 3) (And.intro (axR 4) (And.intro (axR 5) (And.intro (axR 6) rfl))))))
theorem axs_at : ∀ k, k < 7 → axsV.fieldOf k = some (axV k, 2 * k) := by
  intro k hk
  match k, hk with
  | 0, _ => rfl
  | 1, _ => rfl
  | 2, _ => rfl
  | 3, _ => rfl
  | 4, _ => rfl
  | 5, _ => rfl
  | 6, _ => rfl
  | k + 7, h => omega
theorem holdAt_pair {p : Int} {n : Nat} {U T Z C S : Nat → Int} {k : Nat} (h : axPair k = false) (i j i' j' : Nat) : holdAt p n U T Z C S k i j = holdAt p n U T Z C S k i' j' := by
  unfold holdAt
  match k, h with
  | 0, _ => rfl
  | 1, _ => rfl
  | 2, h => cases h
  | 3, _ => rfl
  | 4, h => cases h
  | 5, _ => rfl
  | k + 6, _ => rfl
theorem hold_s {p : Int} {n : Nat} {U T Z C S : Nat → Int} (hV : HV p n U T Z C S) (k i j : Nat) (hk : k < 7) (hi : i < n) (hj : j < n) :
    Spec Tryz.prog (axFn k) [hopV p n U T Z C S, .int .i64 i, .int .i64 j] [] (Ret (.bool (holdAt p n U T Z C S k i j))) := by
  match k, hk with
  | 0, _ => exact axiom1_s p n U T Z C S hV i j
  | 1, _ => exact axiom2_s p n U T Z C S hV i j
  | 2, _ => exact keepsProduct_s p n U T Z C S hV i j hi hj
  | 3, _ => exact keepsUnit_s p n U T Z C S hV i j
  | 4, _ => exact hasCounitOfProduct_s p n U T Z C S hV i j hi hj
  | 5, _ => exact hasLeftAntipode_s p n U T Z C S hV i j
  | 6, _ => exact hasRightAntipode_s p n U T Z C S hV i j
  | k + 7, h => omega

/-- the number of the first condition that fails is r, or r is 0 -/
def failsAt (p : Int) (n : Nat) (U T Z C S : Nat → Int) (r : Nat) : Prop :=
  (r = 0 ∧ ∀ k, k < 7 → all2 n (holdAt p n U T Z C S k) = true) ∨ (∃ k, r = k + 1 ∧ k < 7 ∧ all2 n (holdAt p n U T Z C S k) = false ∧ ∀ k', k' < k → all2 n (holdAt p n U T Z C S k') = true)
theorem fails_one {p : Int} {n : Nat} {U T Z C S : Nat → Int} {r r' : Nat} (h : failsAt p n U T Z C S r) (h' : failsAt p n U T Z C S r') : r = r' := by
  rcases h with ⟨rfl, h⟩ | ⟨k, rfl, hk, h1, h2⟩
  · rcases h' with ⟨rfl, h'⟩ | ⟨k, rfl, hk, h1, h2⟩
    · rfl
    · rw [h k hk] at h1; cases h1
  · rcases h' with ⟨rfl, h'⟩ | ⟨k', rfl, hk', h1', h2'⟩
    · rw [h' k hk] at h1; cases h1
    · rcases Nat.lt_trichotomy k k' with h | h | h
      · rw [h2' k h] at h1; cases h1
      · rw [h]
      · rw [h2 k' h] at h1'; cases h1'

theorem failingAxiom_q (p : Int) (n : Nat) (U T Z C S : Nat → Int) (hV : HV p n U T Z C S) :
    Spec Tryz.prog 60 [hopV p n U T Z C S] [] (fun r _ => ∃ x : Nat, r = .int .i64 x ∧ failsAt p n U T Z C S x) := by
  have hn := hV.a.hn
  have hn1 := hV.n1
  refine (Spec.of_vc tabOK tabEq Tryz.func60 rfl (by kernel_rfl) rfl rfl ?_)
  refine LoopVC.of (fun x : Nat => x ≤ 7 ∧ ∀ k, k < x → all2 n (holdAt p n U T Z C S k) = true) (fun x => [(1, .ptr 0 [] 0 0), (16, axsV), (17, .int .i64 x)]) (fun _ => [some (hopV p n U T Z C S, 1106), none]) (fun x => 7 - x) 0 ⟨by omega, fun k hk => by omega⟩ ?_ ?_ ?_
  · exact And.intro rfl (And.intro axsR (And.intro rfl trivial))
  · exact And.intro (And.intro (hopR p n U T Z C S) rfl) trivial
  · rintro x ⟨hx, hall⟩
    refine ifVC_split (fun h => ?_) (fun h => ?_)
    · have hlt := of_decide_eq_true h
      have hxl : x < 7 := by omega
      refine And.intro ⟨by omega, by omega⟩ (Exists.intro (axV x) (Exists.intro (2 * x) (And.intro (by rw [Int.toNat_natCast]; exact axs_at x hxl) ?_)))
      refine LoopVC.of (fun i : Nat => i ≤ n ∧ (axPair x = true ∨ i = 0) ∧ ∀ a b, a < i → b < n → holdAt p n U T Z C S x a b = true) (fun i => [(1, .ptr 0 [] 0 0), (4, .int .i64 x), (5, .ptr 2 [] 0 0), (16, axsV), (17, .int .i64 x), (22, .int .i64 n), (23, .int .i64 i)])
        (fun _ => [some (hopV p n U T Z C S, 1106), none, some (axV x, 2)]) (fun i => n - i) 0 ⟨by omega, .inr rfl, fun a b ha => by omega⟩ ?_ ?_ ?_
      · exact And.intro rfl (And.intro rfl (And.intro rfl (And.intro axsR (And.intro rfl (And.intro rfl (And.intro rfl trivial))))))
      · exact And.intro (And.intro (hopR p n U T Z C S) rfl) (And.intro (And.intro (And.intro rfl (And.intro rfl rfl)) rfl) trivial)
      · rintro i ⟨hi, hpi, halli⟩
        refine ifVC_split (fun h => ?_) (fun h => ?_)
        · have hlti := of_decide_eq_true h
          refine LoopVC.of (fun j : Nat => j ≤ n ∧ (axPair x = true ∨ j = 0) ∧ ∀ b, b < j → holdAt p n U T Z C S x i b = true) (fun j => [(1, .ptr 0 [] 0 0), (4, .int .i64 x), (5, .ptr 2 [] 0 0), (6, .int .i64 i), (16, axsV), (17, .int .i64 x), (22, .int .i64 n), (23, .int .i64 i), (27, .int .i64 n), (28, .int .i64 j)])
            (fun _ => [some (hopV p n U T Z C S, 1106), none, some (axV x, 2)]) (fun j => n - j) 0 ⟨by omega, .inr rfl, fun b hb => by omega⟩ ?_ ?_ ?_
          · exact And.intro rfl (And.intro rfl (And.intro rfl (And.intro rfl (And.intro axsR (And.intro rfl (And.intro rfl (And.intro rfl (And.intro rfl (And.intro rfl trivial)))))))))
          · exact And.intro (And.intro (hopR p n U T Z C S) rfl) (And.intro (And.intro (And.intro rfl (And.intro rfl rfl)) rfl) trivial)
          · rintro j ⟨hj, hpj, hallj⟩
            refine ifVC_split (fun h => ?_) (fun h => ?_)
            · have hltj := of_decide_eq_true h
              refine And.intro trivial (Spec.mono (hold_s hV x i j hxl (by omega) (by omega)) ?_)
              rintro r m ⟨rfl, rfl⟩
              refine ifVC_split (fun hc => ?_) (fun hc => ?_)
              · have hc : holdAt p n U T Z C S x i j = false := by simpa using hc
                refine Exists.intro (x + 1) (And.intro ?_ (.inr ⟨x, rfl, hxl, all2_no (by omega) (by omega) hc, hall⟩))
                exact congrArg (SV.int .i64) (wrapS (by omega))
              · have hc : holdAt p n U T Z C S x i j = true := by simpa using hc
                refine ifVC_split (fun hd => ?_) (fun hd => ?_)
                · have hd : axPair x = false := by simpa using hd
                  refine Exists.intro (x + 1) (And.intro ⟨by omega, fun k hk => ?_⟩ (And.intro (by omega) (And.intro (And.intro rfl (And.intro axsR (And.intro (slotI (wrapS (by omega))) trivial))) (And.intro (And.intro (hopR p n U T Z C S) rfl) trivial))))
                  by_cases hkx : k = x
                  · subst hkx
                    exact all2_yes fun a b _ _ => by rw [holdAt_pair hd a b i j]; exact hc
                  · exact hall k (by omega)
                · have hd : axPair x = true := by simpa using hd
                  refine Exists.intro (j + 1) (And.intro ⟨by omega, .inl hd, fun b hb => ?_⟩ (And.intro (by omega) (And.intro (And.intro rfl (And.intro rfl (And.intro rfl (And.intro rfl (And.intro axsR (And.intro rfl (And.intro rfl (And.intro rfl (And.intro rfl (And.intro (slotI (wrapS (by omega))) trivial)))))))))) (And.intro (And.intro (hopR p n U T Z C S) rfl) (And.intro (And.intro (And.intro rfl (And.intro rfl rfl)) rfl) trivial)))))
                  by_cases hbj : b = j
                  · subst hbj; exact hc
                  · exact hallj b (by omega)
            · have hge := of_decide_eq_false h
              have hjn : j = n := by omega
              have hd : axPair x = true := by
                rcases hpj with h | h
                · exact h
                · omega
              refine Exists.intro (i + 1) (And.intro ⟨by omega, .inl hd, fun a b ha hb => ?_⟩ (And.intro (by omega) (And.intro (And.intro rfl (And.intro rfl (And.intro rfl (And.intro axsR (And.intro rfl (And.intro rfl (And.intro (slotI (wrapS (by omega))) trivial))))))) (And.intro (And.intro (hopR p n U T Z C S) rfl) (And.intro (And.intro (And.intro rfl (And.intro rfl rfl)) rfl) trivial)))))
              by_cases hai : a = i
              · subst hai; exact hallj b (by omega)
              · exact halli a b (by omega) hb
        · have hge := of_decide_eq_false h
          have hin : i = n := by omega
          refine Exists.intro (x + 1) (And.intro ⟨by omega, fun k hk => ?_⟩ (And.intro (by omega) (And.intro (And.intro rfl (And.intro axsR (And.intro (slotI (wrapS (by omega))) trivial))) (And.intro (And.intro (hopR p n U T Z C S) rfl) trivial))))
          by_cases hkx : k = x
          · subst hkx
            exact all2_yes fun a b ha hb => halli a b (by omega) hb
          · exact hall k (by omega)
    · have hge := of_decide_eq_false h
      have hx7 : x = 7 := by omega
      exact Exists.intro 0 (And.intro rfl (.inl ⟨rfl, fun k hk => hall k (by omega)⟩))

/-- the number of the first condition that fails, or 0 -/
def failN (p : Int) (n : Nat) (U T Z C S : Nat → Int) : Nat :=
  if algB p n U T = false then 1 else if coB p n Z C = false then 2 else if all2 n (ax3 p T C) = false then 3 else if ax4B p U C = false then 4
  else if (all2 n (ax5 p T Z) && (cnt p Z U == 1)) = false then 5 else if ax6B p n U T Z C S = false then 6 else if ax7B p n U T Z C S = false then 7 else 0

theorem all2_const {n : Nat} (hn : 1 ≤ n) (b : Bool) : all2 n (fun _ _ => b) = b := by
  cases b with
  | false => exact all2_no (i := 0) (j := 0) (by omega) (by omega) rfl
  | true => exact all2_yes fun _ _ _ _ => rfl
theorem all2_and {n : Nat} (hn : 1 ≤ n) (f : Nat → Nat → Bool) (b : Bool) : all2 n (fun i j => f i j && b) = (all2 n f && b) := by
  cases b with
  | false => rw [Bool.and_false]; exact all2_no (i := 0) (j := 0) (by omega) (by omega) (by simp)
  | true => simp
theorem fails_is {p : Int} {n : Nat} {U T Z C S : Nat → Int} (hn : 1 ≤ n) : failsAt p n U T Z C S (failN p n U T Z C S) := by
  have e0 : all2 n (holdAt p n U T Z C S 0) = algB p n U T := all2_const hn _
  have e1 : all2 n (holdAt p n U T Z C S 1) = coB p n Z C := all2_const hn _
  have e2 : all2 n (holdAt p n U T Z C S 2) = all2 n (ax3 p T C) := rfl
  have e3 : all2 n (holdAt p n U T Z C S 3) = ax4B p U C := all2_const hn _
  have e4 : all2 n (holdAt p n U T Z C S 4) = (all2 n (ax5 p T Z) && (cnt p Z U == 1)) := all2_and hn _ _
  have e5 : all2 n (holdAt p n U T Z C S 5) = ax6B p n U T Z C S := all2_const hn _
  have e6 : all2 n (holdAt p n U T Z C S 6) = ax7B p n U T Z C S := all2_const hn _
  have pre : ∀ m, (∀ k, k < m → all2 n (holdAt p n U T Z C S k) = true) → all2 n (holdAt p n U T Z C S m) = true → ∀ k, k < m + 1 → all2 n (holdAt p n U T Z C S k) = true := fun m h1 h2 k hk => by
    by_cases hkm : k = m
    · subst hkm; exact h2
    · exact h1 k (by omega)
  have p0 : ∀ k, k < 0 → all2 n (holdAt p n U T Z C S k) = true := fun k hk => by omega
  unfold failN
  by_cases h0 : algB p n U T = false
  · rw [if_pos h0]; exact .inr ⟨0, rfl, by omega, by rw [e0]; exact h0, p0⟩
  rw [if_neg h0]
  have p1 := pre 0 p0 (by rw [e0]; simpa using h0)
  by_cases h1 : coB p n Z C = false
  · rw [if_pos h1]; exact .inr ⟨1, rfl, by omega, by rw [e1]; exact h1, p1⟩
  rw [if_neg h1]
  have p2 := pre 1 p1 (by rw [e1]; simpa using h1)
  by_cases h2 : all2 n (ax3 p T C) = false
  · rw [if_pos h2]; exact .inr ⟨2, rfl, by omega, by rw [e2]; exact h2, p2⟩
  rw [if_neg h2]
  have p3 := pre 2 p2 (by rw [e2]; simpa using h2)
  by_cases h3 : ax4B p U C = false
  · rw [if_pos h3]; exact .inr ⟨3, rfl, by omega, by rw [e3]; exact h3, p3⟩
  rw [if_neg h3]
  have p4 := pre 3 p3 (by rw [e3]; simpa using h3)
  by_cases h4 : (all2 n (ax5 p T Z) && (cnt p Z U == 1)) = false
  · rw [if_pos h4]; exact .inr ⟨4, rfl, by omega, by rw [e4]; exact h4, p4⟩
  rw [if_neg h4]
  have p5 := pre 4 p4 (by rw [e4]; simpa using h4)
  by_cases h5 : ax6B p n U T Z C S = false
  · rw [if_pos h5]; exact .inr ⟨5, rfl, by omega, by rw [e5]; exact h5, p5⟩
  rw [if_neg h5]
  have p6 := pre 5 p5 (by rw [e5]; simpa using h5)
  by_cases h6 : ax7B p n U T Z C S = false
  · rw [if_pos h6]; exact .inr ⟨6, rfl, by omega, by rw [e6]; exact h6, p6⟩
  rw [if_neg h6]
  exact .inl ⟨rfl, pre 6 p6 (by rw [e6]; simpa using h6)⟩

theorem failingAxiom_s (p : Int) (n : Nat) (U T Z C S : Nat → Int) (hV : HV p n U T Z C S) :
    Spec Tryz.prog 60 [hopV p n U T Z C S] [] (Ret (.int .i64 (failN p n U T Z C S))) :=
  Spec.ret rfl (Spec.mono (failingAxiom_q p n U T Z C S hV) fun r m ⟨x, hr, hx⟩ => by
    subst hr
    exact slotI (by rw [fails_one hx (fails_is hV.n1)]))

/-- whether it is a Hopf algebra -/
def hopB (p n : Int) (U T Z C S : Nat → Int) : Bool := hshB p n U T Z C S && (failN p n.toNat U T Z C S == 0)

theorem isHopf_s (p n : Int) (U T Z C S : Nat → Int) (hU : isU8 8 U) (hT : isU8 512 T) (hZ : isU8 8 Z) (hC : isU8 512 C) (hS : isU8 64 S) :
    Spec Tryz.prog 36 [hopV p n U T Z C S] [] (Ret (.bool (hopB p n U T Z C S))) := by
  refine Spec.ret rfl (Spec.of_vc tabOK tabEq Tryz.func36 rfl (by kernel_rfl) rfl rfl ?_)
  refine And.intro trivial (Spec.mono (isShapedHopf_s p n U T Z C S hU hT hZ hC hS) ?_)
  rintro r m ⟨rfl, rfl⟩
  refine ifVC_split (fun h => ?_) (fun h => ?_)
  · obtain ⟨n, rfl, hV⟩ := hsh_valid hU hT hZ hC hS h
    refine And.intro trivial (Spec.mono (failingAxiom_s p n U T Z C S hV) ?_)
    rintro r m ⟨rfl, rfl⟩
    refine boolEq ?_
    unfold hopB
    rw [h, Bool.true_and, Int.toNat_natCast, Bool.eq_iff_iff, beq_iff_eq, beq_iff_eq]
    omega
  · exact boolEq (by unfold hopB; rw [h]; rfl)
end Go.Proofs.YtjanlnngeklhoabGreat

/- The axioms of Hopf algebras, as the model checks them. -/
set_option linter.unusedVariables false
set_option linter.unusedSimpArgs false
set_option maxRecDepth 100000
set_option maxHeartbeats 1000000
namespace Go.Proofs.YtjanlnngeklhoabGreat
open M

theorem l01Zero_s (v : Nat → Int) : Spec Tryz.prog 45 [.ints .u8 8 v] [] (Ret (.bool (allEq 8 v fun _ => 0))) := by
  refine Spec.ret rfl (Spec.of_vc tabOK tabEq Tryz.func45 rfl (by kernel_rfl) rfl rfl ?_)
  (repeat (first | refine And.intro (by omega) ?_ | refine And.intro ⟨by omega, by omega⟩ ?_))
  exact boolEq rfl

theorem cop_skip {p : Int} {C v : Nat → Int} {i : Nat} (hv : v i = 0) (j k : Nat) : cop p C v (i + 1) j k = cop p C v i j k := by
  unfold cop
  show (sumN i (fun a => v a * vecT C a j k) + v i * vecT C i j k) % p = _
  rw [hv]; simp

theorem l03Coproduct_s (p : Int) (n : Nat) (U T Z C S v : Nat → Int) (hV : Valid p n Z (dualF C)) (hC : isU8 512 C) (hv : isU8 8 v) (hz : ∀ i, n ≤ i → i < 8 → v i = 0) :
    Spec Tryz.prog 97 [hopV p n U T Z C S, .ints .u8 8 v] [] (Ret (.ints .u8 64 (leftT p C v))) := by
  have hn := hV.hn
  have hp := hV.hp
  refine Spec.ret rfl (Spec.of_vc tabOK tabEq Tryz.func97 rfl (by kernel_rfl) rfl rfl ?_)
  (repeat (first | refine And.intro (by omega) ?_ | refine And.intro ⟨by omega, by omega⟩ ?_))
  refine LoopVC.of (fun i : Nat => i ≤ n) (fun i => [(2, .ptr 0 [] 0 0), (3, .ptr 1 [] 0 0), (4, .ptr 2 [] 0 0), (5, .ptr 3 [] 0 0), (6, .int .i64 i)])
    (fun i => [some (hopV p n U T Z C S, 1106), some (.ints .u8 8 v, 8), some (.ints .u8 64 fun _ => 0, 64), some (.ints .u8 64 fun q => if q / 8 < n then cop p C v i (q / 8) (q % 8) else 0, 64)]) (fun i => n - i) 0 (by omega) ?_ ?_ ?_
  · exact (And.intro rfl (And.intro rfl (And.intro rfl (And.intro rfl (And.intro rfl (trivial))))))
  · exact And.intro (And.intro (hopR p n U T Z C S) rfl) (And.intro (And.intro (rowEq fun _ _ => rfl) rfl) (And.intro (And.intro (rowEq fun _ _ => rfl) rfl) (And.intro (And.intro (rowEq fun q hq => by show updR _ 0 64 _ q = _; simp [updR, hq, cop, sumN]) rfl) trivial)))
  · intro i hi
    refine ifVC_split (fun h => ?_) (fun h => ?_)
    · have hlti := of_decide_eq_true h
      have hidx : (i : Int).toNat = i := by omega
      have hvi := hv i (by omega)
      have done : ∀ j : Nat, j ≤ n → (j = n ∨ v i = 0) → ∀ q, q < 64 → (if q / 8 < j then cop p C v (i + 1) (q / 8) (q % 8) else if q / 8 < n then cop p C v i (q / 8) (q % 8) else 0) = if q / 8 < n then cop p C v (i + 1) (q / 8) (q % 8) else 0 := fun j hj hd q hq => by
        by_cases h2 : q / 8 < j
        · rw [if_pos h2, if_pos (by omega)]
        · rw [if_neg h2]
          rcases hd with hd | hd
          · rw [if_neg (by omega), if_neg (by omega)]
          · rw [cop_skip hd]
      refine LoopVC.of (fun j : Nat => j ≤ n) (fun j => [(2, .ptr 0 [] 0 0), (3, .ptr 1 [] 0 0), (4, .ptr 2 [] 0 0), (5, .ptr 3 [] 0 0), (6, .int .i64 i), (7, .int .i64 j)])
        (fun j => [some (hopV p n U T Z C S, 1106), some (.ints .u8 8 v, 8), some (.ints .u8 64 fun _ => 0, 64), some (.ints .u8 64 fun q => if q / 8 < j then cop p C v (i + 1) (q / 8) (q % 8) else if q / 8 < n then cop p C v i (q / 8) (q % 8) else 0, 64)]) (fun j => n - j) 0 (by omega) ?_ ?_ ?_
      · exact (And.intro rfl (And.intro rfl (And.intro rfl (And.intro rfl (And.intro rfl (And.intro rfl (trivial)))))))
      · exact And.intro (And.intro (hopR p n U T Z C S) rfl) (And.intro (And.intro (rowEq fun _ _ => rfl) rfl) (And.intro (And.intro (rowEq fun _ _ => rfl) rfl) (And.intro (And.intro (rowEq fun q hq => by simp) rfl) trivial)))
      · intro j hj
        refine ifVC_split (fun h => ?_) (fun h => ?_)
        · have hltj := of_decide_eq_true h
          have hjdx : (j : Int).toNat = j := by omega
          (repeat (first | refine And.intro (by omega) ?_ | refine And.intro ⟨by omega, by omega⟩ ?_))
          refine ifVC_split (fun hz0 => ?_) (fun hz0 => ?_)
          · refine Exists.intro 18 (And.intro (by kernel_rfl) ?_)
            (repeat (first | refine And.intro (by omega) ?_ | refine And.intro ⟨by omega, by omega⟩ ?_))
            have hout : isU8 64 fun q => if q / 8 < j then cop p C v (i + 1) (q / 8) (q % 8) else if q / 8 < n then cop p C v i (q / 8) (q % 8) else 0 := fun q hq => by
              dsimp only
              split
              · exact modB hp
              · split
                · exact modB hp
                · omega
            have hvw : IntKind.i64.wrap (v ((i : Int).toNat * 1 + 0)) = v i := by rw [show (i : Int).toNat * 1 + 0 = i by omega]; exact wrapI (by omega)
            refine Exists.intro (.ints .u8 8 _) (And.intro (And.intro rfl (And.intro rfl (Spec.mono (l01Add_s p _ _ _ hp (by rw [hvw]; omega) (fun q hq => hout _ (by omega)) (fun q hq => hC _ (by omega))) fun r m h => h.1))) ?_)
            (repeat (first | refine And.intro (by omega) ?_ | refine And.intro ⟨by omega, by omega⟩ ?_))
            refine Exists.intro (j + 1) (And.intro (by omega) (And.intro (by omega) (And.intro (And.intro rfl (And.intro rfl (And.intro rfl (And.intro rfl (And.intro rfl (And.intro (slotI (wrapS (by omega))) trivial)))))) ?_)))
            refine And.intro (And.intro (hopR p n U T Z C S) rfl) (And.intro (And.intro (rowEq fun _ _ => rfl) rfl) (And.intro (And.intro (rowEq fun _ _ => rfl) rfl) (And.intro (And.intro (rowEq fun q hq => ?_) rfl) trivial)))
            show updR _ ((j : Int).toNat * 8 + 0) 8 _ q = _
            unfold updR
            rw [hjdx]
            by_cases h1 : j * 8 + 0 ≤ q ∧ q < j * 8 + 0 + 8
            · rw [if_pos h1, if_pos (by omega)]
              unfold addM
              rw [hvw, cop_step]
              dsimp only
              have e1 : q - (j * 8 + 0) + (j * 8 + 0) = q := by omega
              have e2 : C (q - (j * 8 + 0) + (j * 8 + ((i : Int).toNat * 64 + 0))) = vecT C i (q / 8) (q % 8) := by unfold vecT; congr 1; omega
              rw [e1, e2, if_neg (by omega), if_pos (by omega)]
            · rw [if_neg h1]
              dsimp only
              by_cases h2 : q / 8 < j
              · rw [if_pos h2, if_pos (show q / 8 < j + 1 by omega)]
              · rw [if_neg h2, if_neg (show ¬ q / 8 < j + 1 by omega)]
          · have hz0 : v i = 0 := by
              have hz0 : v ((i : Int).toNat * 1 + 0) = 0 := by simpa using hz0
              rw [show (i : Int).toNat * 1 + 0 = i by omega] at hz0; exact hz0
            refine Exists.intro (i + 1) (And.intro (by omega) (And.intro (by omega) (And.intro (And.intro rfl (And.intro rfl (And.intro rfl (And.intro rfl (And.intro (slotI (wrapS (by omega))) trivial))))) ?_)))
            exact And.intro (And.intro (hopR p n U T Z C S) rfl) (And.intro (And.intro (rowEq fun _ _ => rfl) rfl) (And.intro (And.intro (rowEq fun _ _ => rfl) rfl) (And.intro (And.intro (rowEq fun q hq => done j hj (.inr hz0) q hq) rfl) trivial)))
        · have hge := of_decide_eq_false h
          refine Exists.intro (i + 1) (And.intro (by omega) (And.intro (by omega) (And.intro (And.intro rfl (And.intro rfl (And.intro rfl (And.intro rfl (And.intro (slotI (wrapS (by omega))) trivial))))) ?_)))
          exact And.intro (And.intro (hopR p n U T Z C S) rfl) (And.intro (And.intro (rowEq fun _ _ => rfl) rfl) (And.intro (And.intro (rowEq fun _ _ => rfl) rfl) (And.intro (And.intro (rowEq fun q hq => done j hj (.inl (by omega)) q hq) rfl) trivial)))
    · have hge := of_decide_eq_false h
      obtain rfl : i = n := by omega
      (repeat (first | refine And.intro (by omega) ?_ | refine And.intro ⟨by omega, by omega⟩ ?_))
      refine rowEq fun q hq => ?_
      rw [cop_left hV hz hq]
      show updR _ 0 64 _ q = _
      simp [updR, hq]

theorem l03Counit_s (p : Int) (n : Nat) (U T Z C S v : Nat → Int) (hp : 0 < p ∧ p < 256) (hn : n ≤ 8) (hZ : isU8 8 Z) (hv : isU8 8 v) (hz : ∀ i, n ≤ i → i < 8 → v i = 0) :
    Spec Tryz.prog 99 [hopV p n U T Z C S, .ints .u8 8 v] [] (Ret (.int .i64 (cnt p Z v))) := by
  refine Spec.ret rfl (Spec.of_vc tabOK tabEq Tryz.func99 rfl (by kernel_rfl) rfl rfl ?_)
  refine LoopVC.of (fun i : Nat => i ≤ n) (fun i => [(2, .ptr 0 [] 0 0), (3, .ptr 1 [] 0 0), (5, .int .i64 (cntN Z v i)), (6, .int .i64 i)]) (fun _ => [some (hopV p n U T Z C S, 1106), some (.ints .u8 8 v, 8)]) (fun i => n - i) 0 (by omega) ?_ ?_ ?_
  · exact (And.intro rfl (And.intro rfl (And.intro rfl (And.intro rfl (trivial)))))
  · exact And.intro (And.intro (hopR p n U T Z C S) rfl) (And.intro (And.intro (rowEq fun _ _ => rfl) rfl) trivial)
  · intro i hi
    refine ifVC_split (fun h => ?_) (fun h => ?_)
    · have hlt := of_decide_eq_true h
      refine Exists.intro 12 (And.intro (by kernel_rfl) ?_)
      (repeat (first | refine And.intro (by omega) ?_ | refine And.intro ⟨by omega, by omega⟩ ?_))
      refine Exists.intro (i + 1) (And.intro (by omega) (And.intro (by omega) (And.intro (And.intro rfl (And.intro rfl (And.intro (slotI (cnt_step hZ hv (by omega) (by omega) (by omega))) (And.intro (slotI (wrapS (by omega))) trivial)))) (And.intro (And.intro (hopR p n U T Z C S) rfl) (And.intro (And.intro (rowEq fun _ _ => rfl) rfl) trivial)))))
    · have hge := of_decide_eq_false h
      obtain rfl : i = n := by omega
      have h4 := cnt_bound hZ hv i (by omega)
      (repeat (first | refine And.intro (by omega) ?_ | refine And.intro ⟨by omega, by omega⟩ ?_))
      refine slotI ?_
      rw [Int.tmod_eq_emod_of_nonneg h4.1]
      unfold cnt cntN
      rw [sumN_cut 8 hn fun a h1 h2 => by rw [hz a h1 h2]; simp]

/-! ### products of pairs -/
theorem pairT_cut {p : Int} {n : Nat} {U T : Nat → Int} (hV : Valid p n U T) (F G : Nat → Int) {q : Nat} (hq : q < 64) : pairT p T F G 8 8 q = pairT p T F G n n q := by
  have hn := hV.hn
  have e : ∀ a, a < 8 → pairN p T F G a 8 q = pairN p T F G a n q := fun a ha => by
    unfold pairN
    exact sumN_cut 8 hn fun b h1 h2 => by rw [hV.zero a b (q / 8) ha h2 (by omega) (.inr (.inl h1))]; simp
  unfold pairT
  rw [sumN_congr 8 e]
  refine sumN_cut 8 hn fun a h1 h2 => ?_
  unfold pairN
  exact sumN_none n fun b hb => by rw [hV.zero a b (q / 8) h2 (by omega) (by omega) (.inl h1)]; simp

theorem l03Pairs_s (p : Int) (n : Nat) (U T Z C S F G : Nat → Int) (hV : HV p n U T Z C S) (hF : isU8 64 F) (hG : isU8 64 G) (hFz : ∀ a m, a < 8 → m < 8 → n ≤ m → partF F 8 a m = 0) (hGz : ∀ a m, a < 8 → m < 8 → n ≤ m → partF G 8 a m = 0) :
    Spec Tryz.prog 98 [hopV p n U T Z C S, .ints .u8 64 F, .ints .u8 64 G] [] (Ret (.ints .u8 64 (pairsF p T F G))) := by
  have hn := hV.a.hn
  have hp := hV.a.hp
  have hT := hV.hT
  have HE : ∀ (r : Mem), True := fun _ => trivial
  refine Spec.ret rfl (Spec.of_vc tabOK tabEq Tryz.func98 rfl (by kernel_rfl) rfl rfl ?_)
  refine Exists.intro 8 (And.intro (by kernel_rfl) ?_)
  (repeat (first | refine And.intro (by omega) ?_ | refine And.intro ⟨by omega, by omega⟩ ?_))
  refine LoopVC.of (fun j : Nat => j ≤ n) (fun j => [(3, .ptr 0 [] 0 0), (4, .ptr 1 [] 0 0), (5, .ptr 2 [] 0 0), (6, .ptr 3 [] 0 0), (7, .int .i64 p), (8, .int .i64 n), (9, .ptr 4 [] 0 0), (10, .int .i64 j)])
    (fun j => [some (hopV p n U T Z C S, 1106), some (.ints .u8 64 F, 64), some (.ints .u8 64 G, 64), some (.ints .u8 64 fun _ => 0, 64), some (.ints .u8 64 fun q => pairT p T F G j n q % p, 64)]) (fun j => n - j) 0 (by omega) ?_ ?_ ?_
  · exact (And.intro rfl (And.intro rfl (And.intro rfl (And.intro rfl (And.intro rfl (And.intro rfl (And.intro rfl (And.intro rfl (trivial)))))))))
  · exact And.intro (And.intro (hopR p n U T Z C S) rfl) (And.intro (And.intro (rowEq fun _ _ => rfl) rfl) (And.intro (And.intro (rowEq fun _ _ => rfl) rfl) (And.intro (And.intro (rowEq fun _ _ => rfl) rfl) (And.intro (And.intro (rowEq fun q hq => by show updR _ 0 64 _ q = _; simp [updR, hq, pairT, sumN]) rfl) trivial))))
  · intro j hj
    refine ifVC_split (fun h => ?_) (fun h => ?_)
    · have hltj := of_decide_eq_true h
      have hjdx : (j : Int).toNat = j := by omega
      refine LoopVC.of (fun l : Nat => l ≤ n) (fun l => [(3, .ptr 0 [] 0 0), (4, .ptr 1 [] 0 0), (5, .ptr 2 [] 0 0), (6, .ptr 3 [] 0 0), (7, .int .i64 p), (8, .int .i64 n), (9, .ptr 4 [] 0 0), (10, .int .i64 j), (11, .int .i64 l)])
        (fun l => [some (hopV p n U T Z C S, 1106), some (.ints .u8 64 F, 64), some (.ints .u8 64 G, 64), some (.ints .u8 64 fun _ => 0, 64), some (.ints .u8 64 fun q => (pairT p T F G j n q + pairN p T F G j l q) % p, 64)]) (fun l => n - l) 0 (by omega) ?_ ?_ ?_
      · exact (And.intro rfl (And.intro rfl (And.intro rfl (And.intro rfl (And.intro rfl (And.intro rfl (And.intro rfl (And.intro rfl (And.intro rfl (trivial))))))))))
      · exact And.intro (And.intro (hopR p n U T Z C S) rfl) (And.intro (And.intro (rowEq fun _ _ => rfl) rfl) (And.intro (And.intro (rowEq fun _ _ => rfl) rfl) (And.intro (And.intro (rowEq fun _ _ => rfl) rfl) (And.intro (And.intro (rowEq fun q hq => by simp [pairN, sumN]) rfl) trivial))))
      · intro l hl
        refine ifVC_split (fun h => ?_) (fun h => ?_)
        · have hltl := of_decide_eq_true h
          have hldx : (l : Int).toNat = l := by omega
          have next : ∀ (s : Slots) (m : Mem) (o : Nat → Int), (∀ q, q < 64 → o q = (pairT p T F G j n q + pairN p T F G j (l + 1) q) % p) → eqvO (lk s 3) (.ptr 0 [] 0 0) → eqvO (lk s 4) (.ptr 1 [] 0 0) → eqvO (lk s 5) (.ptr 2 [] 0 0) → eqvO (lk s 6) (.ptr 3 [] 0 0) → eqvO (lk s 7) (.int .i64 p) → eqvO (lk s 8) (.int .i64 n) → eqvO (lk s 9) (.ptr 4 [] 0 0) → eqvO (lk s 10) (.int .i64 j) → eqvO (lk s 11) (.int .i64 (IntKind.i64.wrap ((l : Int) + 1))) →
              memCut m [some (hopV p n U T Z C S, 1106), some (.ints .u8 64 F, 64), some (.ints .u8 64 G, 64), some (.ints .u8 64 fun _ => 0, 64), some (.ints .u8 64 fun q => (pairT p T F G j n q + pairN p T F G j (l + 1) q) % p, 64)] →
              ∃ x' : Nat, x' ≤ n ∧ n - x' < n - l ∧ subL [(3, .ptr 0 [] 0 0), (4, .ptr 1 [] 0 0), (5, .ptr 2 [] 0 0), (6, .ptr 3 [] 0 0), (7, .int .i64 p), (8, .int .i64 n), (9, .ptr 4 [] 0 0), (10, .int .i64 j), (11, .int .i64 x')] s ∧
                memCut m [some (hopV p n U T Z C S, 1106), some (.ints .u8 64 F, 64), some (.ints .u8 64 G, 64), some (.ints .u8 64 fun _ => 0, 64), some (.ints .u8 64 fun q => (pairT p T F G j n q + pairN p T F G j x' q) % p, 64)] := fun s m o _ h3 h4 h5 h6 h7 h8 h9 h10 h11 hm =>
            ⟨l + 1, by omega, by omega, ⟨h3, h4, h5, h6, h7, h8, h9, h10, by rw [wrapS (by omega)] at h11; exact h11, trivial⟩, hm⟩
          have hFj : isU8 8 (partF F 8 j) := part_u8 hF (by omega)
          have hGl : isU8 8 (partF G 8 l) := part_u8 hG (by omega)
          refine Exists.intro 10 (And.intro (by kernel_rfl) ?_)
          refine Exists.intro (algV p n U T) (And.intro (And.intro rfl (And.intro rfl (Spec.mono (l03Algebra_s p n U T Z C S) fun r m h => h.1))) ?_)
          (repeat (first | refine And.intro (by omega) ?_ | refine And.intro ⟨by omega, by omega⟩ ?_))
          refine Exists.intro (.ints .u8 8 fun y => timS p n T (partF F 8 j) (partF G 8 l) n y % p) (And.intro (And.intro rfl (And.intro rfl ?_)) ?_)
          · refine Spec.mono (l01Times_s p n U T _ _ hp hn hT (fun q hq => hF _ (by omega)) (fun q hq => hG _ (by omega))) ?_
            rintro r m ⟨rfl, _⟩
            rw [hjdx, hldx]
            rfl
          have hrow : ∀ y, y < 8 → timS p n T (partF F 8 j) (partF G 8 l) n y % p = pw p T F G j l y := fun y hy => prod_eq hV.a (fun m h1 h2 => hFz j m (by omega) h2 h1) (fun m h1 h2 => hGz l m (by omega) h2 h1) hy
          (repeat (first | refine And.intro (by omega) ?_ | refine And.intro ⟨by omega, by omega⟩ ?_))
          refine And.intro trivial (Spec.mono (l01Zero_s _) ?_)
          rintro r m ⟨rfl, rfl⟩
          have hq : allEq 8 (fun q => updR (fun _ => 0) 0 8 (fun y => timS p n T (partF F 8 j) (partF G 8 l) n y % p) (q + 0)) (fun _ => 0) = allEq 8 (pw p T F G j l) (fun _ => 0) := allEq_congr (fun q hq => by simp [updR, hq]; exact hrow q hq) fun _ _ => rfl
          refine ifVC_split (fun hz0 => ?_) (fun hz0 => ?_)
          · have hz0 : allEq 8 (pw p T F G j l) (fun _ => 0) = true := by rw [← hq]; exact hz0
            refine next _ _ _ (fun q hq => rfl) rfl rfl rfl rfl rfl rfl rfl rfl rfl ?_
            refine And.intro (And.intro (hopR p n U T Z C S) rfl) (And.intro (And.intro (rowEq fun _ _ => rfl) rfl) (And.intro (And.intro (rowEq fun _ _ => rfl) rfl) (And.intro (And.intro (rowEq fun _ _ => rfl) rfl) (And.intro (And.intro (rowEq fun q hq => ?_) rfl) trivial))))
            show (pairT p T F G j n q + pairN p T F G j l q) % p = (pairT p T F G j n q + (pairN p T F G j l q + vecT T j l (q / 8) * pw p T F G j l (q % 8))) % p
            rw [allEq_get hz0 (show q % 8 < 8 by omega)]
            simp
          refine LoopVC.of (fun x : Nat => x ≤ n) (fun x => [(3, .ptr 0 [] 0 0), (4, .ptr 1 [] 0 0), (5, .ptr 2 [] 0 0), (6, .ptr 3 [] 0 0), (7, .int .i64 p), (8, .int .i64 n), (9, .ptr 4 [] 0 0), (10, .int .i64 j), (11, .int .i64 l), (12, .ptr 5 [] 0 0), (13, .int .i64 x)])
            (fun x => [some (hopV p n U T Z C S, 1106), some (.ints .u8 64 F, 64), some (.ints .u8 64 G, 64), some (.ints .u8 64 fun _ => 0, 64), some (.ints .u8 64 fun q => (pairT p T F G j n q + pairN p T F G j (if q / 8 < x then l + 1 else l) q) % p, 64), some (.ints .u8 8 (pw p T F G j l), 8)]) (fun x => n - x) 0 (by omega) ?_ ?_ ?_
          · exact (And.intro rfl (And.intro rfl (And.intro rfl (And.intro rfl (And.intro rfl (And.intro rfl (And.intro rfl (And.intro rfl (And.intro rfl (And.intro rfl (And.intro rfl (trivial))))))))))))
          · exact And.intro (And.intro (hopR p n U T Z C S) rfl) (And.intro (And.intro (rowEq fun _ _ => rfl) rfl) (And.intro (And.intro (rowEq fun _ _ => rfl) rfl) (And.intro (And.intro (rowEq fun _ _ => rfl) rfl) (And.intro (And.intro (rowEq fun q hq => by simp) rfl) (And.intro (And.intro (rowEq fun q hq => by show updR _ 0 8 _ q = _; simp [updR, hq]; exact hrow q hq) rfl) trivial)))))
          · intro x hx
            refine ifVC_split (fun h => ?_) (fun h => ?_)
            · have hltx := of_decide_eq_true h
              have hxdx : (x : Int).toNat = x := by omega
              have hk : T ((x : Int).toNat * 1 + ((l : Int).toNat * 8 + ((j : Int).toNat * 64 + 0))) = vecT T j l x := by rw [hjdx, hldx, hxdx]; unfold vecT; congr 1; omega
              have hkb := vec_u8 hT (show j < 8 by omega) (show l < 8 by omega) (show x < 8 by omega)
              (repeat (first | refine And.intro (by omega) ?_ | refine And.intro ⟨by omega, by omega⟩ ?_))
              refine ifVC_split (fun hc => ?_) (fun hc => ?_)
              · refine Exists.intro 10 (And.intro (by kernel_rfl) ?_)
                (repeat (first | refine And.intro (by omega) ?_ | refine And.intro ⟨by omega, by omega⟩ ?_))
                refine Exists.intro (.ints .u8 8 _) (And.intro (And.intro rfl (And.intro rfl (Spec.mono (l01Add_s p _ _ _ hp (by rw [hk, wrapI (by omega)]; omega) (fun q hq => modB hp) (fun q hq => modB hp)) fun r m h => h.1))) ?_)
                (repeat (first | refine And.intro (by omega) ?_ | refine And.intro ⟨by omega, by omega⟩ ?_))
                refine Exists.intro (x + 1) (And.intro (by omega) (And.intro (by omega) (And.intro (And.intro rfl (And.intro rfl (And.intro rfl (And.intro rfl (And.intro rfl (And.intro rfl (And.intro rfl (And.intro rfl (And.intro rfl (And.intro rfl (And.intro (slotI (wrapS (by omega))) trivial))))))))))) ?_)))
                refine And.intro (And.intro (hopR p n U T Z C S) rfl) (And.intro (And.intro (rowEq fun _ _ => rfl) rfl) (And.intro (And.intro (rowEq fun _ _ => rfl) rfl) (And.intro (And.intro (rowEq fun _ _ => rfl) rfl) (And.intro (And.intro (rowEq fun q hq => ?_) rfl) (And.intro (And.intro (rowEq fun _ _ => rfl) rfl) trivial)))))
                show updR _ ((x : Int).toNat * 8 + 0) 8 _ q = _
                unfold updR
                rw [hxdx]
                by_cases h1 : x * 8 + 0 ≤ q ∧ q < x * 8 + 0 + 8
                · rw [if_pos h1, if_pos (show q / 8 < x + 1 by omega)]
                  unfold addM
                  dsimp only
                  rw [hxdx] at hk
                  rw [hk, wrapI (x := vecT T j l x) (by omega), show q - (x * 8 + 0) + (x * 8 + 0) = q by omega, if_neg (show ¬ q / 8 < x by omega), mod_add, Int.add_assoc]
                  congr 2
                  show _ = pairN p T F G j l q + vecT T j l (q / 8) * pw p T F G j l (q % 8)
                  rw [show q / 8 = x by omega, show q - (x * 8 + 0) + 0 = q % 8 by omega]
                · rw [if_neg h1]
                  dsimp only
                  by_cases h2 : q / 8 < x
                  · rw [if_pos h2, if_pos (show q / 8 < x + 1 by omega)]
                  · rw [if_neg h2, if_neg (show ¬ q / 8 < x + 1 by omega)]
              · have hc : vecT T j l x = 0 := by rw [hk] at hc; simpa using hc
                refine Exists.intro (x + 1) (And.intro (by omega) (And.intro (by omega) (And.intro (And.intro rfl (And.intro rfl (And.intro rfl (And.intro rfl (And.intro rfl (And.intro rfl (And.intro rfl (And.intro rfl (And.intro rfl (And.intro rfl (And.intro (slotI (wrapS (by omega))) trivial))))))))))) ?_)))
                refine And.intro (And.intro (hopR p n U T Z C S) rfl) (And.intro (And.intro (rowEq fun _ _ => rfl) rfl) (And.intro (And.intro (rowEq fun _ _ => rfl) rfl) (And.intro (And.intro (rowEq fun _ _ => rfl) rfl) (And.intro (And.intro (rowEq fun q hq => ?_) rfl) (And.intro (And.intro (rowEq fun _ _ => rfl) rfl) trivial)))))
                by_cases h2 : q / 8 < x
                · rw [if_pos h2, if_pos (show q / 8 < x + 1 by omega)]
                · rw [if_neg h2]
                  by_cases h3 : q / 8 < x + 1
                  · rw [if_pos h3]
                    show _ = (pairT p T F G j n q + (pairN p T F G j l q + vecT T j l (q / 8) * pw p T F G j l (q % 8))) % p
                    rw [show q / 8 = x by omega, hc]
                    simp
                  · rw [if_neg h3]
            · have hge := of_decide_eq_false h
              obtain rfl : x = n := by omega
              refine next _ _ _ (fun q hq => rfl) rfl rfl rfl rfl rfl rfl rfl rfl rfl ?_
              refine And.intro (And.intro (hopR p x U T Z C S) rfl) (And.intro (And.intro (rowEq fun _ _ => rfl) rfl) (And.intro (And.intro (rowEq fun _ _ => rfl) rfl) (And.intro (And.intro (rowEq fun _ _ => rfl) rfl) (And.intro (And.intro (rowEq fun q hq => ?_) rfl) trivial))))
              by_cases h2 : q / 8 < x
              · rw [if_pos h2]
              · rw [if_neg h2]
                show _ = (pairT p T F G j x q + (pairN p T F G j l q + vecT T j l (q / 8) * pw p T F G j l (q % 8))) % p
                rw [hV.a.zero j l (q / 8) (by omega) (by omega) (by omega) (.inr (.inr (by omega)))]
                simp
        · have hge := of_decide_eq_false h
          obtain rfl : l = n := by omega
          refine Exists.intro (j + 1) (And.intro (by omega) (And.intro (by omega) (And.intro (And.intro rfl (And.intro rfl (And.intro rfl (And.intro rfl (And.intro rfl (And.intro rfl (And.intro rfl (And.intro (slotI (wrapS (by omega))) trivial)))))))) ?_)))
          exact And.intro (And.intro (hopR p l U T Z C S) rfl) (And.intro (And.intro (rowEq fun _ _ => rfl) rfl) (And.intro (And.intro (rowEq fun _ _ => rfl) rfl) (And.intro (And.intro (rowEq fun _ _ => rfl) rfl) (And.intro (And.intro (rowEq fun q hq => rfl) rfl) trivial))))
    · have hge := of_decide_eq_false h
      obtain rfl : j = n := by omega
      (repeat (first | refine And.intro (by omega) ?_ | refine And.intro ⟨by omega, by omega⟩ ?_))
      refine rowEq fun q hq => ?_
      unfold pairsF
      rw [pairT_cut hV.a F G hq]
      show updR _ 0 64 _ q = _
      simp [updR, hq]

/-! ### the convolutions with the identity -/
def owF (p : Int) (T R : Nat → Int) (b : Bool) (j k : Nat) : Nat → Int := match b with | false => prodF p T (partF R 8 j) (unitV k) | true => prodF p T (unitV j) (partF R 8 k)
def foldN (p : Int) (T C R : Nat → Int) (b : Bool) (i j m y : Nat) : Int := sumN m fun k => vecT C i j k * owF p T R b j k y
def foldT (p : Int) (n : Nat) (T C R : Nat → Int) (b : Bool) (i m y : Nat) : Int := sumN m fun j => foldN p T C R b i j n y

theorem l03FoldedF_s (p : Int) (n : Nat) (U T Z C S R : Nat → Int) (hV : HV p n U T Z C S) (hR : isU8 64 R) (hRz : ∀ a m, a < 8 → m < 8 → n ≤ m → partF R 8 a m = 0) (i : Nat) (hi : i < n) :
    Spec Tryz.prog 100 [hopV p n U T Z C S, .int .i64 i, .ints .u8 64 R, .bool false] [] (Ret (.ints .u8 8 fun y => foldT p n T C R false i n y % p)) := by
  have hn := hV.a.hn
  have hp := hV.a.hp
  have hT := hV.hT
  have hidx : (i : Int).toNat = i := by omega
  refine Spec.ret rfl (Spec.of_vc tabOK tabEq Tryz.func100 rfl (by kernel_rfl) rfl rfl ?_)
  refine And.intro trivial (Spec.mono (l03Algebra_s p n U T Z C S) ?_)
  rintro r m ⟨rfl, rfl⟩
  (repeat (first | refine And.intro (by omega) ?_ | refine And.intro ⟨by omega, by omega⟩ ?_))
  refine LoopVC.of (fun j : Nat => j ≤ n) (fun j => [(1, .int .i64 i), (3, .bool false), (4, .ptr 0 [] 0 0), (6, .ptr 1 [] 0 0), (8, .ptr 2 [] 0 0), (9, .ptr 3 [] 0 0), (10, .ptr 4 [] 0 0), (11, .int .i64 j)])
    (fun j => [some (hopV p n U T Z C S, 1106), some (.ints .u8 64 R, 64), some (.ints .u8 8 fun _ => 0, 8), some (.ints .u8 8 fun y => foldT p n T C R false i j y % p, 8), some (algV p n U T, 522)]) (fun j => n - j) 0 (by omega) ?_ ?_ ?_
  · exact (And.intro rfl (And.intro rfl (And.intro rfl (And.intro rfl (And.intro rfl (And.intro rfl (And.intro rfl (And.intro rfl (trivial)))))))))
  · exact And.intro (And.intro (hopR p n U T Z C S) rfl) (And.intro (And.intro (rowEq fun _ _ => rfl) rfl) (And.intro (And.intro (rowEq fun _ _ => rfl) rfl) (And.intro (And.intro (rowEq fun q hq => by show updR _ 0 8 _ q = _; simp [updR, hq, foldT, sumN]) rfl) (And.intro (And.intro (algR p n U T) rfl) trivial))))
  · intro j hj
    refine ifVC_split (fun h => ?_) (fun h => ?_)
    · have hltj := of_decide_eq_true h
      have hjdx : (j : Int).toNat = j := by omega
      refine LoopVC.of (fun k : Nat => k ≤ n) (fun k => [(1, .int .i64 i), (3, .bool false), (4, .ptr 0 [] 0 0), (6, .ptr 1 [] 0 0), (8, .ptr 2 [] 0 0), (9, .ptr 3 [] 0 0), (10, .ptr 4 [] 0 0), (11, .int .i64 j), (12, .int .i64 k)])
        (fun k => [some (hopV p n U T Z C S, 1106), some (.ints .u8 64 R, 64), some (.ints .u8 8 fun _ => 0, 8), some (.ints .u8 8 fun y => (foldT p n T C R false i j y + foldN p T C R false i j k y) % p, 8), some (algV p n U T, 522)]) (fun k => n - k) 0 (by omega) ?_ ?_ ?_
      · exact (And.intro rfl (And.intro rfl (And.intro rfl (And.intro rfl (And.intro rfl (And.intro rfl (And.intro rfl (And.intro rfl (And.intro rfl (trivial))))))))))
      · exact And.intro (And.intro (hopR p n U T Z C S) rfl) (And.intro (And.intro (rowEq fun _ _ => rfl) rfl) (And.intro (And.intro (rowEq fun _ _ => rfl) rfl) (And.intro (And.intro (rowEq fun q hq => by simp [foldN, sumN]) rfl) (And.intro (And.intro (algR p n U T) rfl) trivial))))
      · intro k hk
        refine ifVC_split (fun h => ?_) (fun h => ?_)
        · have hltk := of_decide_eq_true h
          have hkdx : (k : Int).toNat = k := by omega
          have hcv : C ((k : Int).toNat * 1 + ((j : Int).toNat * 8 + ((i : Int).toNat * 64 + 0))) = vecT C i j k := by rw [hjdx, hidx, hkdx]; unfold vecT; congr 1; omega
          have hcb := vec_u8 hV.hC (show i < 8 by omega) (show j < 8 by omega) (show k < 8 by omega)
          (repeat (first | refine And.intro (by omega) ?_ | refine And.intro ⟨by omega, by omega⟩ ?_))
          have hcw : IntKind.i64.wrap (C ((k : Int).toNat * 1 + ((j : Int).toNat * 8 + ((i : Int).toNat * 64 + 0)))) = vecT C i j k := by rw [hcv]; exact wrapI (by omega)
          refine ifVC_split (fun hc => ?_) (fun hc => ?_)
          · refine Exists.intro 8 (And.intro (by kernel_rfl) ?_)
            (repeat (first | refine And.intro (by omega) ?_ | refine And.intro ⟨by omega, by omega⟩ ?_))
            refine Exists.intro (.ints .u8 8 (unitV k)) (And.intro (And.intro rfl (And.intro rfl (Spec.mono (l01Basis_s k (by omega)) fun r m h => by rw [hkdx] at h; exact h.1))) ?_)
            refine Exists.intro (.ints .u8 8 fun y => timS p n T (partF R 8 j) (unitV k) n y % p) (And.intro (And.intro rfl (And.intro rfl ?_)) ?_)
            · refine Spec.mono (l01Times_s p n U T _ _ hp hn hT (fun q hq => hR _ (by omega)) (unitV_u8 k 8)) ?_
              rintro r m ⟨rfl, _⟩
              rw [hjdx]
              rfl
            have hrow : ∀ y, y < 8 → timS p n T (partF R 8 j) (unitV k) n y % p = owF p T R false j k y := fun y hy => prod_eq hV.a (fun m h1 h2 => hRz j m (by omega) h2 h1) (fun m h1 h2 => unitV_ne (by omega)) hy
            (repeat (first | refine And.intro (by omega) ?_ | refine And.intro ⟨by omega, by omega⟩ ?_))
            refine And.intro trivial (Spec.mono (l01Add_s p _ _ _ hp (by rw [hcw]; omega) (fun q hq => modB hp) (fun q hq => by simp only [updR]; rw [if_pos (by omega)]; exact modB hp)) ?_)
            rintro r m ⟨rfl, rfl⟩
            (repeat (first | refine And.intro (by omega) ?_ | refine And.intro ⟨by omega, by omega⟩ ?_))
            refine Exists.intro (k + 1) (And.intro (by omega) (And.intro (by omega) (And.intro (And.intro rfl (And.intro rfl (And.intro rfl (And.intro rfl (And.intro rfl (And.intro rfl (And.intro rfl (And.intro rfl (And.intro (slotI (wrapS (by omega))) trivial))))))))) ?_)))
            refine And.intro (And.intro (hopR p n U T Z C S) rfl) (And.intro (And.intro (rowEq fun _ _ => rfl) rfl) (And.intro (And.intro (rowEq fun _ _ => rfl) rfl) (And.intro (And.intro (rowEq fun q hq => ?_) rfl) (And.intro (And.intro (algR p n U T) rfl) trivial))))
            have e := hrow q hq
            show updR _ 0 8 _ q = (foldT p n T C R false i j q + (foldN p T C R false i j k q + vecT C i j k * owF p T R false j k q)) % p
            simp only [updR, Nat.zero_le, true_and, Nat.zero_add, hq, if_true, Nat.sub_zero, addM, Nat.add_zero]
            simp only [Nat.add_zero] at hcw
            rw [hcw, e, mod_add, Int.add_assoc]
          · have hc : vecT C i j k = 0 := by rw [← hcw]; simpa using hc
            refine Exists.intro (k + 1) (And.intro (by omega) (And.intro (by omega) (And.intro (And.intro rfl (And.intro rfl (And.intro rfl (And.intro rfl (And.intro rfl (And.intro rfl (And.intro rfl (And.intro rfl (And.intro (slotI (wrapS (by omega))) trivial))))))))) ?_)))
            refine And.intro (And.intro (hopR p n U T Z C S) rfl) (And.intro (And.intro (rowEq fun _ _ => rfl) rfl) (And.intro (And.intro (rowEq fun _ _ => rfl) rfl) (And.intro (And.intro (rowEq fun q hq => ?_) rfl) (And.intro (And.intro (algR p n U T) rfl) trivial))))
            show _ = (foldT p n T C R false i j q + (foldN p T C R false i j k q + vecT C i j k * owF p T R false j k q)) % p
            rw [hc]
            simp
        · have hge := of_decide_eq_false h
          obtain rfl : k = n := by omega
          refine Exists.intro (j + 1) (And.intro (by omega) (And.intro (by omega) (And.intro (And.intro rfl (And.intro rfl (And.intro rfl (And.intro rfl (And.intro rfl (And.intro rfl (And.intro rfl (And.intro (slotI (wrapS (by omega))) trivial)))))))) ?_)))
          exact And.intro (And.intro (hopR p k U T Z C S) rfl) (And.intro (And.intro (rowEq fun _ _ => rfl) rfl) (And.intro (And.intro (rowEq fun _ _ => rfl) rfl) (And.intro (And.intro (rowEq fun q hq => rfl) rfl) (And.intro (And.intro (algR p k U T) rfl) trivial))))
    · have hge := of_decide_eq_false h
      obtain rfl : j = n := by omega
      (repeat (first | refine And.intro (by omega) ?_ | refine And.intro ⟨by omega, by omega⟩ ?_))
      refine rowEq fun q hq => ?_
      show updR _ 0 8 _ q = _
      simp [updR, hq]

theorem l03FoldedT_s (p : Int) (n : Nat) (U T Z C S R : Nat → Int) (hV : HV p n U T Z C S) (hR : isU8 64 R) (hRz : ∀ a m, a < 8 → m < 8 → n ≤ m → partF R 8 a m = 0) (i : Nat) (hi : i < n) :
    Spec Tryz.prog 100 [hopV p n U T Z C S, .int .i64 i, .ints .u8 64 R, .bool true] [] (Ret (.ints .u8 8 fun y => foldT p n T C R true i n y % p)) := by
  have hn := hV.a.hn
  have hp := hV.a.hp
  have hT := hV.hT
  have hidx : (i : Int).toNat = i := by omega
  refine Spec.ret rfl (Spec.of_vc tabOK tabEq Tryz.func100 rfl (by kernel_rfl) rfl rfl ?_)
  refine And.intro trivial (Spec.mono (l03Algebra_s p n U T Z C S) ?_)
  rintro r m ⟨rfl, rfl⟩
  (repeat (first | refine And.intro (by omega) ?_ | refine And.intro ⟨by omega, by omega⟩ ?_))
  refine LoopVC.of (fun j : Nat => j ≤ n) (fun j => [(1, .int .i64 i), (3, .bool true), (4, .ptr 0 [] 0 0), (6, .ptr 1 [] 0 0), (8, .ptr 2 [] 0 0), (9, .ptr 3 [] 0 0), (10, .ptr 4 [] 0 0), (11, .int .i64 j)])
    (fun j => [some (hopV p n U T Z C S, 1106), some (.ints .u8 64 R, 64), some (.ints .u8 8 fun _ => 0, 8), some (.ints .u8 8 fun y => foldT p n T C R true i j y % p, 8), some (algV p n U T, 522)]) (fun j => n - j) 0 (by omega) ?_ ?_ ?_
  · exact (And.intro rfl (And.intro rfl (And.intro rfl (And.intro rfl (And.intro rfl (And.intro rfl (And.intro rfl (And.intro rfl (trivial)))))))))
  · exact And.intro (And.intro (hopR p n U T Z C S) rfl) (And.intro (And.intro (rowEq fun _ _ => rfl) rfl) (And.intro (And.intro (rowEq fun _ _ => rfl) rfl) (And.intro (And.intro (rowEq fun q hq => by show updR _ 0 8 _ q = _; simp [updR, hq, foldT, sumN]) rfl) (And.intro (And.intro (algR p n U T) rfl) trivial))))
  · intro j hj
    refine ifVC_split (fun h => ?_) (fun h => ?_)
    · have hltj := of_decide_eq_true h
      have hjdx : (j : Int).toNat = j := by omega
      refine LoopVC.of (fun k : Nat => k ≤ n) (fun k => [(1, .int .i64 i), (3, .bool true), (4, .ptr 0 [] 0 0), (6, .ptr 1 [] 0 0), (8, .ptr 2 [] 0 0), (9, .ptr 3 [] 0 0), (10, .ptr 4 [] 0 0), (11, .int .i64 j), (12, .int .i64 k)])
        (fun k => [some (hopV p n U T Z C S, 1106), some (.ints .u8 64 R, 64), some (.ints .u8 8 fun _ => 0, 8), some (.ints .u8 8 fun y => (foldT p n T C R true i j y + foldN p T C R true i j k y) % p, 8), some (algV p n U T, 522)]) (fun k => n - k) 0 (by omega) ?_ ?_ ?_
      · exact (And.intro rfl (And.intro rfl (And.intro rfl (And.intro rfl (And.intro rfl (And.intro rfl (And.intro rfl (And.intro rfl (And.intro rfl (trivial))))))))))
      · exact And.intro (And.intro (hopR p n U T Z C S) rfl) (And.intro (And.intro (rowEq fun _ _ => rfl) rfl) (And.intro (And.intro (rowEq fun _ _ => rfl) rfl) (And.intro (And.intro (rowEq fun q hq => by simp [foldN, sumN]) rfl) (And.intro (And.intro (algR p n U T) rfl) trivial))))
      · intro k hk
        refine ifVC_split (fun h => ?_) (fun h => ?_)
        · have hltk := of_decide_eq_true h
          have hkdx : (k : Int).toNat = k := by omega
          have hcv : C ((k : Int).toNat * 1 + ((j : Int).toNat * 8 + ((i : Int).toNat * 64 + 0))) = vecT C i j k := by rw [hjdx, hidx, hkdx]; unfold vecT; congr 1; omega
          have hcb := vec_u8 hV.hC (show i < 8 by omega) (show j < 8 by omega) (show k < 8 by omega)
          (repeat (first | refine And.intro (by omega) ?_ | refine And.intro ⟨by omega, by omega⟩ ?_))
          have hcw : IntKind.i64.wrap (C ((k : Int).toNat * 1 + ((j : Int).toNat * 8 + ((i : Int).toNat * 64 + 0)))) = vecT C i j k := by rw [hcv]; exact wrapI (by omega)
          refine ifVC_split (fun hc => ?_) (fun hc => ?_)
          · refine Exists.intro 8 (And.intro (by kernel_rfl) ?_)
            (repeat (first | refine And.intro (by omega) ?_ | refine And.intro ⟨by omega, by omega⟩ ?_))
            refine Exists.intro (.ints .u8 8 (unitV k)) (And.intro (And.intro rfl (And.intro rfl (Spec.mono (l01Basis_s k (by omega)) fun r m h => by rw [hkdx] at h; exact h.1))) ?_)
            refine Exists.intro (.ints .u8 8 fun y => timS p n T (partF R 8 j) (unitV k) n y % p) (And.intro (And.intro rfl (And.intro rfl ?_)) ?_)
            · refine Spec.mono (l01Times_s p n U T _ _ hp hn hT (fun q hq => hR _ (by omega)) (unitV_u8 k 8)) ?_
              rintro r m ⟨rfl, _⟩
              rw [hjdx]
              rfl
            (repeat (first | refine And.intro (by omega) ?_ | refine And.intro ⟨by omega, by omega⟩ ?_))
            refine Exists.intro 7 (And.intro (by kernel_rfl) ?_)
            (repeat (first | refine And.intro (by omega) ?_ | refine And.intro ⟨by omega, by omega⟩ ?_))
            refine Exists.intro (.ints .u8 8 (unitV j)) (And.intro (And.intro rfl (And.intro rfl (Spec.mono (l01Basis_s j (by omega)) fun r m h => by rw [hjdx] at h; exact h.1))) ?_)
            (repeat (first | refine And.intro (by omega) ?_ | refine And.intro ⟨by omega, by omega⟩ ?_))
            refine Exists.intro (.ints .u8 8 fun y => timS p n T (unitV j) (partF R 8 k) n y % p) (And.intro (And.intro rfl (And.intro rfl ?_)) ?_)
            · refine Spec.mono (l01Times_s p n U T _ _ hp hn hT (unitV_u8 j 8) (fun q hq => hR _ (by omega))) ?_
              rintro r m ⟨rfl, _⟩
              rw [hkdx]
              rfl
            have hrow : ∀ y, y < 8 → timS p n T (unitV j) (partF R 8 k) n y % p = owF p T R true j k y := fun y hy => prod_eq hV.a (fun m h1 h2 => unitV_ne (by omega)) (fun m h1 h2 => hRz k m (by omega) h2 h1) hy
            (repeat (first | refine And.intro (by omega) ?_ | refine And.intro ⟨by omega, by omega⟩ ?_))
            refine And.intro trivial (Spec.mono (l01Add_s p _ _ _ hp (by rw [hcw]; omega) (fun q hq => modB hp) (fun q hq => by simp only [updR]; rw [if_pos (by omega)]; exact modB hp)) ?_)
            rintro r m ⟨rfl, rfl⟩
            (repeat (first | refine And.intro (by omega) ?_ | refine And.intro ⟨by omega, by omega⟩ ?_))
            refine Exists.intro (k + 1) (And.intro (by omega) (And.intro (by omega) (And.intro (And.intro rfl (And.intro rfl (And.intro rfl (And.intro rfl (And.intro rfl (And.intro rfl (And.intro rfl (And.intro rfl (And.intro (slotI (wrapS (by omega))) trivial))))))))) ?_)))
            refine And.intro (And.intro (hopR p n U T Z C S) rfl) (And.intro (And.intro (rowEq fun _ _ => rfl) rfl) (And.intro (And.intro (rowEq fun _ _ => rfl) rfl) (And.intro (And.intro (rowEq fun q hq => ?_) rfl) (And.intro (And.intro (algR p n U T) rfl) trivial))))
            have e := hrow q hq
            show updR _ 0 8 _ q = (foldT p n T C R true i j q + (foldN p T C R true i j k q + vecT C i j k * owF p T R true j k q)) % p
            simp only [updR, Nat.zero_le, true_and, Nat.zero_add, hq, if_true, Nat.sub_zero, addM, Nat.add_zero]
            simp only [Nat.add_zero] at hcw
            rw [hcw, e, mod_add, Int.add_assoc]
          · have hc : vecT C i j k = 0 := by rw [← hcw]; simpa using hc
            refine Exists.intro (k + 1) (And.intro (by omega) (And.intro (by omega) (And.intro (And.intro rfl (And.intro rfl (And.intro rfl (And.intro rfl (And.intro rfl (And.intro rfl (And.intro rfl (And.intro rfl (And.intro (slotI (wrapS (by omega))) trivial))))))))) ?_)))
            refine And.intro (And.intro (hopR p n U T Z C S) rfl) (And.intro (And.intro (rowEq fun _ _ => rfl) rfl) (And.intro (And.intro (rowEq fun _ _ => rfl) rfl) (And.intro (And.intro (rowEq fun q hq => ?_) rfl) (And.intro (And.intro (algR p n U T) rfl) trivial))))
            show _ = (foldT p n T C R true i j q + (foldN p T C R true i j k q + vecT C i j k * owF p T R true j k q)) % p
            rw [hc]
            simp
        · have hge := of_decide_eq_false h
          obtain rfl : k = n := by omega
          refine Exists.intro (j + 1) (And.intro (by omega) (And.intro (by omega) (And.intro (And.intro rfl (And.intro rfl (And.intro rfl (And.intro rfl (And.intro rfl (And.intro rfl (And.intro rfl (And.intro (slotI (wrapS (by omega))) trivial)))))))) ?_)))
          exact And.intro (And.intro (hopR p k U T Z C S) rfl) (And.intro (And.intro (rowEq fun _ _ => rfl) rfl) (And.intro (And.intro (rowEq fun _ _ => rfl) rfl) (And.intro (And.intro (rowEq fun q hq => rfl) rfl) (And.intro (And.intro (algR p k U T) rfl) trivial))))
    · have hge := of_decide_eq_false h
      obtain rfl : j = n := by omega
      (repeat (first | refine And.intro (by omega) ?_ | refine And.intro ⟨by omega, by omega⟩ ?_))
      refine rowEq fun q hq => ?_
      show updR _ 0 8 _ q = _
      simp [updR, hq]
end Go.Proofs.YtjanlnngeklhoabGreat

/- The search for the first condition that fails, as the model makes it; both sides tell the same number. -/
set_option linter.unusedVariables false
set_option linter.unusedSimpArgs false
set_option maxRecDepth 100000
set_option maxHeartbeats 1000000
namespace Go.Proofs.YtjanlnngeklhoabGreat
open M

/-! ### the antipode's axioms -/
def antB (p : Int) (n : Nat) (U T Z C R : Nat → Int) (b : Bool) : Bool := (List.range n).all fun i => allEq 8 (fun y => foldT p n T C R b i n y % p) (addM p (fun _ => 0) (Z i) U)

theorem idF_part {n b : Nat} (hb : b < n) : ∀ y, y < 8 → partF (idF n) 8 b y = unitV b y := fun y hy => by
  unfold partF idF
  rw [if_pos (by omega), show (y + b * 8) / 8 = b by omega, show (y + b * 8) % 8 = y by omega]
theorem cw_left {p : Int} {n : Nat} {Z C : Nat → Int} (hV : Valid p n Z (dualF C)) (T R : Nat → Int) {i b : Nat} (hi : i < 8) (hb : b < 8) (y : Nat) : cw p T C R (idF n) i b y = foldN p T C R false i b n y % p := by
  have hn := hV.hn
  unfold cw
  rw [prodF_apply]
  unfold foldN
  rw [sumN_cut 8 hn fun k h1 h2 => by rw [co_zero hV hi hb h2 (.inr (.inr h1))]; simp]
  congr 1
  refine sumN_congr n fun k hk => ?_
  congr 1
  exact prodF_congr (fun _ _ => rfl) (fun y hy => idF_part hk y hy) y
theorem cw_right {p : Int} {n : Nat} {Z C : Nat → Int} (hV : Valid p n Z (dualF C)) (T R : Nat → Int) {i b : Nat} (hi : i < 8) (hb : b < n) (y : Nat) : cw p T C (idF n) R i b y = foldN p T C R true i b n y % p := by
  have hn := hV.hn
  unfold cw
  rw [prodF_apply]
  unfold foldN
  rw [sumN_cut 8 hn fun k h1 h2 => by rw [co_zero hV hi (by omega) h2 (.inr (.inr h1))]; simp]
  congr 1
  refine sumN_congr n fun k hk => ?_
  congr 1
  exact prodF_congr (fun y hy => idF_part hb y hy) (fun _ _ => rfl) y
theorem conv_fold {p : Int} {n : Nat} {T C R F G : Nat → Int} {b : Bool} {i y : Nat} (h : ∀ a, a < n → cw p T C F G i a y = foldN p T C R b i a n y % p) : convN p T C F G i n y % p = foldT p n T C R b i n y % p := by
  unfold convN foldT
  rw [sumN_congr n h, sumN_modl]
theorem ant_is {p : Int} {n : Nat} {U T Z C S R F G : Nat → Int} {b : Bool} (hV : HV p n U T Z C S) (h : ∀ i y, i < n → convN p T C F G i n y % p = foldT p n T C R b i n y % p) :
    antB p n U T Z C R b = allEq 64 (convF p n T C F G) (tenF p Z U) := by
  have hn := hV.a.hn
  rw [Bool.eq_iff_iff]
  constructor
  · intro ha
    refine List.all_eq_true.2 fun q hq => ?_
    have hq := List.mem_range.1 hq
    unfold convF tenF
    by_cases hr : q / 8 < n
    · have := allEq_get (List.all_eq_true.1 ha (q / 8) (List.mem_range.2 hr)) (show q % 8 < 8 by omega)
      rw [if_pos hr, h _ _ hr]
      unfold addM at this
      rw [Int.zero_add] at this
      simpa using this
    · rw [if_neg hr, hV.c.uzero (q / 8) (by omega) (by omega)]
      simp
  · intro ha
    refine List.all_eq_true.2 fun i hi => List.all_eq_true.2 fun y hy => ?_
    have hi := List.mem_range.1 hi
    have hy := List.mem_range.1 hy
    have := allEq_get ha (show i * 8 + y < 64 by omega)
    unfold convF tenF at this
    rw [show (i * 8 + y) / 8 = i by omega, show (i * 8 + y) % 8 = y by omega, if_pos hi, h _ _ hi] at this
    unfold addM
    rw [Int.zero_add]
    simpa using this
theorem ant_left {p : Int} {n : Nat} {U T Z C S : Nat → Int} (hV : HV p n U T Z C S) : antB p n U T Z C S false = ax6B p n U T Z C S := by
  have hn := hV.a.hn
  exact ant_is hV fun i y hi => conv_fold fun a ha => cw_left hV.c T S (by omega) (by omega) y
theorem ant_right {p : Int} {n : Nat} {U T Z C S : Nat → Int} (hV : HV p n U T Z C S) : antB p n U T Z C S true = ax7B p n U T Z C S := by
  have hn := hV.a.hn
  exact ant_is hV fun i y hi => conv_fold fun a ha => cw_right hV.c T S (by omega) ha y

theorem l03Folded_s {p : Int} {n : Nat} {U T Z C S R : Nat → Int} (hV : HV p n U T Z C S) (hR : isU8 64 R) (hRz : ∀ a m, a < 8 → m < 8 → n ≤ m → partF R 8 a m = 0) (b : Bool) (i : Nat) (hi : i < n) :
    Spec Tryz.prog 100 [hopV p n U T Z C S, .int .i64 i, .ints .u8 64 R, .bool b] [] (Ret (.ints .u8 8 fun y => foldT p n T C R b i n y % p)) := by
  cases b
  · exact l03FoldedF_s p n U T Z C S R hV hR hRz i hi
  · exact l03FoldedT_s p n U T Z C S R hV hR hRz i hi

theorem l03Antipode_s (p : Int) (n : Nat) (U T Z C S R : Nat → Int) (hV : HV p n U T Z C S) (hR : isU8 64 R) (hRz : ∀ a m, a < 8 → m < 8 → n ≤ m → partF R 8 a m = 0) (b : Bool) :
    Spec Tryz.prog 75 [hopV p n U T Z C S, .ints .u8 64 R, .bool b] [] (Ret (.bool (antB p n U T Z C R b))) := by
  have hn := hV.a.hn
  have hp := hV.a.hp
  refine Spec.ret rfl (Spec.of_vc tabOK tabEq Tryz.func75 rfl (by kernel_rfl) rfl rfl ?_)
  refine LoopVC.of (fun i : Nat => i ≤ n ∧ ∀ i', i' < i → allEq 8 (fun y => foldT p n T C R b i' n y % p) (addM p (fun _ => 0) (Z i') U) = true) (fun i => [(2, .bool b), (3, .ptr 0 [] 0 0), (4, .ptr 1 [] 0 0), (7, .int .i64 i)]) (fun _ => [some (hopV p n U T Z C S, 1106), some (.ints .u8 64 R, 64)]) (fun i => n - i) 0 ⟨by omega, fun i' h => by omega⟩ ?_ ?_ ?_
  · exact (And.intro rfl (And.intro rfl (And.intro rfl (And.intro rfl (trivial)))))
  · exact And.intro (And.intro (hopR p n U T Z C S) rfl) (And.intro (And.intro (rowEq fun _ _ => rfl) rfl) trivial)
  · rintro i ⟨hi, hall⟩
    refine ifVC_split (fun h => ?_) (fun h => ?_)
    · have hlt := of_decide_eq_true h
      have hzi := hV.hZ i (by omega)
      have hzw : IntKind.i64.wrap (Z ((i : Int).toNat * 1 + 0)) = Z i := by rw [show (i : Int).toNat * 1 + 0 = i by omega]; exact wrapI (by omega)
      refine Exists.intro 16 (And.intro (by kernel_rfl) ?_)
      (repeat (first | refine And.intro (by omega) ?_ | refine And.intro ⟨by omega, by omega⟩ ?_))
      refine Exists.intro (.ints .u8 8 fun y => foldT p n T C R b i n y % p) (And.intro (And.intro rfl (And.intro rfl (Spec.mono (l03Folded_s hV (fun q hq => hR _ (by omega)) hRz b i (by omega)) fun r m h => h.1))) ?_)
      (repeat (first | refine And.intro (by omega) ?_ | refine And.intro ⟨by omega, by omega⟩ ?_))
      refine Exists.intro (.ints .u8 8 (addM p (fun _ => 0) (Z i) U)) (And.intro (And.intro rfl (And.intro rfl ?_)) ?_)
      · refine Spec.mono (l01Add_s p _ _ _ hp (by rw [hzw]; omega) (fun q _ => by constructor <;> omega) (fun q hq => hV.hU _ (by omega))) ?_
        rintro r m ⟨rfl, _⟩
        rw [hzw]
        rfl
      refine ifVC_split (fun hc => ?_) (fun hc => ?_)
      · have hc : allEq 8 (fun y => foldT p n T C R b i n y % p) (addM p (fun _ => 0) (Z i) U) = false := by simpa using hc
        refine boolEq ?_
        cases ha : antB p n U T Z C R b with
        | false => rfl
        | true => have := List.all_eq_true.1 ha i (List.mem_range.2 (by omega)); rw [hc] at this; cases this
      · have hc : allEq 8 (fun y => foldT p n T C R b i n y % p) (addM p (fun _ => 0) (Z i) U) = true := by simpa using hc
        refine Exists.intro (i + 1) (And.intro ⟨by omega, fun i' hi' => ?_⟩ (And.intro (by omega) (And.intro (And.intro rfl (And.intro rfl (And.intro rfl (And.intro (slotI (wrapS (by omega))) trivial)))) (And.intro (And.intro (hopR p n U T Z C S) rfl) (And.intro (And.intro (rowEq fun _ _ => rfl) rfl) trivial)))))
        by_cases hii : i' = i
        · subst hii; exact hc
        · exact hall i' (by omega)
    · have hge := of_decide_eq_false h
      obtain rfl : i = n := by omega
      exact boolEq (by
        have : antB p i U T Z C R b = true := List.all_eq_true.2 fun i' hi' => hall i' (List.mem_range.1 hi')
        rw [this])

/-! ### the axioms of bialgebras -/
def biN (p : Int) (n : Nat) (U T Z C : Nat → Int) : Nat :=
  if algB p n U T = false then 1 else if coB p n Z C = false then 2 else if all2 n (ax3 p T C) = false then 3 else if ax4B p U C = false then 4
  else if (all2 n (ax5 p T Z) && (cnt p Z U == 1)) = false then 5 else 0
theorem fail_bi (p : Int) (n : Nat) (U T Z C S : Nat → Int) : failN p n U T Z C S = if biN p n U T Z C = 0 then (if ax6B p n U T Z C S = false then 6 else if ax7B p n U T Z C S = false then 7 else 0) else biN p n U T Z C := by
  unfold failN biN
  by_cases h0 : algB p n U T = false
  · simp [h0]
  by_cases h1 : coB p n Z C = false
  · simp [h0, h1]
  by_cases h2 : all2 n (ax3 p T C) = false
  · simp [h0, h1, h2]
  by_cases h3 : ax4B p U C = false
  · simp [h0, h1, h2, h3]
  by_cases h4 : (all2 n (ax5 p T Z) && (cnt p Z U == 1)) = false
  · rw [if_neg h0, if_neg h1, if_neg h2, if_neg h3, if_pos h4, if_neg h0, if_neg h1, if_neg h2, if_neg h3, if_pos h4]; simp
  · rw [if_neg h0, if_neg h1, if_neg h2, if_neg h3, if_neg h4, if_neg h0, if_neg h1, if_neg h2, if_neg h3, if_neg h4]; simp

def rowU (p : Int) (U C : Nat → Int) (j : Nat) : Bool := allEq 8 (partF (leftT p C U) 8 j) (addM p (fun _ => 0) (U j) U)
theorem ax4_yes {p : Int} {n : Nat} {U T Z C S : Nat → Int} (hV : HV p n U T Z C S) (h : ∀ j, j < n → rowU p U C j = true) : ax4B p U C = true := by
  have hn := hV.a.hn
  refine List.all_eq_true.2 fun q hq => ?_
  have hq := List.mem_range.1 hq
  unfold tenF
  by_cases hr : q / 8 < n
  · have := allEq_get (h _ hr) (show q % 8 < 8 by omega)
    unfold partF addM at this
    rw [show q % 8 + q / 8 * 8 = q by omega, Int.zero_add] at this
    simpa using this
  · rw [cop_left hV.c (fun i h1 h2 => hV.a.uzero i h2 h1) hq, if_neg hr, hV.a.uzero (q / 8) (by omega) (by omega)]
    simp
theorem ax4_no {p : Int} {U C : Nat → Int} {j : Nat} (hj : j < 8) (h : rowU p U C j = false) : ax4B p U C = false := by
  cases ha : ax4B p U C with
  | false => rfl
  | true =>
    have : rowU p U C j = true := List.all_eq_true.2 fun y hy => by
      have hy := List.mem_range.1 hy
      have := allEq_get ha (show y + j * 8 < 64 by omega)
      unfold tenF at this
      rw [show (y + j * 8) / 8 = j by omega, show (y + j * 8) % 8 = y by omega] at this
      unfold partF addM
      rw [Int.zero_add]
      simpa using this
    rw [h] at this; cases this

theorem co_part {p : Int} {n : Nat} {U T Z C S : Nat → Int} (hV : HV p n U T Z C S) {i : Nat} (hi : i < 8) : ∀ a m, a < 8 → m < 8 → n ≤ m → partF (partF C 64 i) 8 a m = 0 := fun a m ha hm h => by
  have := co_zero hV.c hi ha hm (.inr (.inr h))
  unfold vecT at this
  unfold partF
  rw [Nat.add_assoc]
  exact this

theorem l03Bialgebra_s (p : Int) (n : Nat) (U T Z C S : Nat → Int) (hV : HV p n U T Z C S) : Spec Tryz.prog 74 [hopV p n U T Z C S] [] (Ret (.int .i64 (biN p n U T Z C))) := by
  have hn := hV.a.hn
  have hp := hV.a.hp
  refine Spec.ret rfl (Spec.of_vc tabOK tabEq Tryz.func74 rfl (by kernel_rfl) rfl rfl ?_)
  refine Exists.intro 6 (And.intro (by kernel_rfl) ?_)
  refine Exists.intro (algV p n U T) (And.intro (And.intro rfl (And.intro rfl (Spec.mono (l03Algebra_s p n U T Z C S) fun r m h => h.1))) ?_)
  refine And.intro trivial (Spec.mono (l01Is_s p n U T hV.hU hV.hT) ?_)
  rintro r m ⟨rfl, rfl⟩
  refine ifVC_split (fun h0 => ?_) (fun h0 => ?_)
  · have h0 : algB p n U T = false := by simpa using h0
    exact slotI (by unfold biN; rw [if_pos h0]; rfl)
  have h0 : algB p n U T = true := by simpa using h0
  have n0 : ¬ algB p n U T = false := by rw [h0]; simp
  refine And.intro trivial (Spec.mono (l03Coalgebra_s p n U T Z C S) ?_)
  rintro r m ⟨rfl, rfl⟩
  refine And.intro trivial (Spec.mono (l02Is_s p n Z C hV.hZ hV.hC) ?_)
  rintro r m ⟨rfl, rfl⟩
  refine ifVC_split (fun h1 => ?_) (fun h1 => ?_)
  · have h1 : coB p n Z C = false := by simpa using h1
    exact slotI (by unfold biN; rw [if_neg n0, if_pos h1]; rfl)
  have h1 : coB p n Z C = true := by simpa using h1
  have n1 : ¬ coB p n Z C = false := by rw [h1]; simp
  refine LoopVC.of (fun i : Nat => i ≤ n ∧ ∀ a b, a < i → b < n → ax3 p T C a b = true) (fun i => [(1, .ptr 0 [] 0 0), (3, .int .i64 n), (5, .int .i64 i)]) (fun _ => [some (hopV p n U T Z C S, 1106), none]) (fun i => n - i) 0 ⟨by omega, fun a b h => by omega⟩ ?_ ?_ ?_
  · exact (And.intro rfl (And.intro rfl (And.intro rfl (trivial))))
  · exact And.intro (And.intro (hopR p n U T Z C S) rfl) trivial
  · rintro i ⟨hi, hall⟩
    refine ifVC_split (fun h => ?_) (fun h => ?_)
    · have hlti := of_decide_eq_true h
      have hidx : (i : Int).toNat = i := by omega
      refine LoopVC.of (fun j : Nat => j ≤ n ∧ ∀ b, b < j → ax3 p T C i b = true) (fun j => [(1, .ptr 0 [] 0 0), (3, .int .i64 n), (5, .int .i64 i), (6, .int .i64 j)]) (fun _ => [some (hopV p n U T Z C S, 1106), none]) (fun j => n - j) 0 ⟨by omega, fun b h => by omega⟩ ?_ ?_ ?_
      · exact (And.intro rfl (And.intro rfl (And.intro rfl (And.intro rfl (trivial)))))
      · exact And.intro (And.intro (hopR p n U T Z C S) rfl) trivial
      · rintro j ⟨hj, hallj⟩
        refine ifVC_split (fun h => ?_) (fun h => ?_)
        · have hltj := of_decide_eq_true h
          have hjdx : (j : Int).toNat = j := by omega
          refine Exists.intro 18 (And.intro (by kernel_rfl) ?_)
          (repeat (first | refine And.intro (by omega) ?_ | refine And.intro ⟨by omega, by omega⟩ ?_))
          refine Exists.intro (.ints .u8 64 (leftT p C (vecT T i j))) (And.intro (And.intro rfl (And.intro rfl ?_)) ?_)
          · rw [vec_is T i j hidx hjdx]
            exact Spec.mono (l03Coproduct_s p n U T Z C S _ hV.c hV.hC (vecT_u8 hV.hT (by omega) (by omega)) (fun m h1 h2 => hV.a.zero i j m (by omega) (by omega) h2 (.inr (.inr h1)))) fun r m h => h.1
          (repeat (first | refine And.intro (by omega) ?_ | refine And.intro ⟨by omega, by omega⟩ ?_))
          refine Exists.intro (.ints .u8 64 (pairsF p T (partF C 64 i) (partF C 64 j))) (And.intro (And.intro rfl (And.intro rfl ?_)) ?_)
          · rw [row_is C i hidx, row_is C j hjdx]
            exact Spec.mono (l03Pairs_s p n U T Z C S _ _ hV (part_u8 hV.hC (by omega)) (part_u8 hV.hC (by omega)) (co_part hV (by omega)) (co_part hV (by omega))) fun r m h => h.1
          refine ifVC_split (fun hc => ?_) (fun hc => ?_)
          · have hc : ax3 p T C i j = false := by
              unfold ax3
              simpa using hc
            exact slotI (by unfold biN; rw [if_neg n0, if_neg n1, if_pos (all2_no (by omega) (by omega) hc)]; rfl)
          · have hc : ax3 p T C i j = true := by
              unfold ax3
              simpa using hc
            refine Exists.intro (j + 1) (And.intro ⟨by omega, fun b hb => ?_⟩ (And.intro (by omega) (And.intro (And.intro rfl (And.intro rfl (And.intro rfl (And.intro (slotI (wrapS (by omega))) trivial)))) (And.intro (And.intro (hopR p n U T Z C S) rfl) trivial))))
            by_cases hbj : b = j
            · subst hbj; exact hc
            · exact hallj b (by omega)
        · have hge := of_decide_eq_false h
          refine Exists.intro (i + 1) (And.intro ⟨by omega, fun a b ha hb => ?_⟩ (And.intro (by omega) (And.intro (And.intro rfl (And.intro rfl (And.intro (slotI (wrapS (by omega))) trivial))) (And.intro (And.intro (hopR p n U T Z C S) rfl) trivial))))
          by_cases hai : a = i
          · subst hai; exact hallj b (by omega)
          · exact hall a b (by omega) hb
    · have hge := of_decide_eq_false h
      have h3 : all2 n (ax3 p T C) = true := all2_yes fun a b ha hb => hall a b (by omega) hb
      have n3 : ¬ all2 n (ax3 p T C) = false := by rw [h3]; simp
      (repeat (first | refine And.intro (by omega) ?_ | refine And.intro ⟨by omega, by omega⟩ ?_))
      refine And.intro trivial (Spec.mono (l03Coproduct_s p n U T Z C S _ hV.c hV.hC (fun q hq => hV.hU _ (by omega)) (fun m h1 h2 => hV.a.uzero m h2 h1)) ?_)
      rintro r m ⟨rfl, rfl⟩
      (repeat (first | refine And.intro (by omega) ?_ | refine And.intro ⟨by omega, by omega⟩ ?_))
      refine LoopVC.of (fun j : Nat => j ≤ n ∧ ∀ b, b < j → rowU p U C b = true) (fun j => [(1, .ptr 0 [] 0 0), (3, .int .i64 n), (7, .ptr 2 [] 0 0), (8, .int .i64 j)]) (fun _ => [some (hopV p n U T Z C S, 1106), none, some (.ints .u8 64 (leftT p C U), 64)]) (fun j => n - j) 0 ⟨by omega, fun b h => by omega⟩ ?_ ?_ ?_
      · exact (And.intro rfl (And.intro rfl (And.intro rfl (And.intro rfl (trivial)))))
      · exact And.intro (And.intro (hopR p n U T Z C S) rfl) (And.intro (And.intro (rowEq fun q hq => upd0 hq) rfl) trivial)
      · rintro j ⟨hj, hallj⟩
        refine ifVC_split (fun h => ?_) (fun h => ?_)
        · have hltj := of_decide_eq_true h
          have hjdx : (j : Int).toNat = j := by omega
          have huj := hV.hU j (by omega)
          have huw : IntKind.i64.wrap (U ((j : Int).toNat * 1 + 0)) = U j := by rw [show (j : Int).toNat * 1 + 0 = j by omega]; exact wrapI (by omega)
          refine Exists.intro 14 (And.intro (by kernel_rfl) ?_)
          (repeat (first | refine And.intro (by omega) ?_ | refine And.intro ⟨by omega, by omega⟩ ?_))
          refine Exists.intro (.ints .u8 8 (addM p (fun _ => 0) (U j) U)) (And.intro (And.intro rfl (And.intro rfl ?_)) ?_)
          · refine Spec.mono (l01Add_s p _ _ _ hp (by rw [huw]; omega) (fun q _ => by constructor <;> omega) (fun q hq => hV.hU _ (by omega))) ?_
            rintro r m ⟨rfl, _⟩
            rw [huw]
            rfl
          have he : allEq 8 (fun q => leftT p C U (q + ((j : Int).toNat * 8 + 0))) (addM p (fun _ => 0) (U j) U) = rowU p U C j := by rw [hjdx]; rfl
          refine ifVC_split (fun hc => ?_) (fun hc => ?_)
          · have hc : rowU p U C j = false := by rw [← he]; simpa using hc
            exact slotI (by unfold biN; rw [if_neg n0, if_neg n1, if_neg n3, if_pos (ax4_no (by omega) hc)]; rfl)
          · have hc : rowU p U C j = true := by rw [← he]; simpa using hc
            refine Exists.intro (j + 1) (And.intro ⟨by omega, fun b hb => ?_⟩ (And.intro (by omega) (And.intro (And.intro rfl (And.intro rfl (And.intro rfl (And.intro (slotI (wrapS (by omega))) trivial)))) (And.intro (And.intro (hopR p n U T Z C S) rfl) (And.intro (And.intro (rowEq fun _ _ => rfl) rfl) trivial)))))
            by_cases hbj : b = j
            · subst hbj; exact hc
            · exact hallj b (by omega)
        · have hge := of_decide_eq_false h
          have h4 : ax4B p U C = true := ax4_yes hV fun b hb => hallj b (by omega)
          have n4 : ¬ ax4B p U C = false := by rw [h4]; simp
          refine LoopVC.of (fun i : Nat => i ≤ n ∧ ∀ a b, a < i → b < n → ax5 p T Z a b = true) (fun i => [(1, .ptr 0 [] 0 0), (3, .int .i64 n), (9, .int .i64 i)]) (fun _ => [some (hopV p n U T Z C S, 1106), none, none]) (fun i => n - i) 0 ⟨by omega, fun a b h => by omega⟩ ?_ ?_ ?_
          · exact (And.intro rfl (And.intro rfl (And.intro rfl (trivial))))
          · exact And.intro (And.intro (hopR p n U T Z C S) rfl) trivial
          · rintro i ⟨hi, hall5⟩
            refine ifVC_split (fun h => ?_) (fun h => ?_)
            · have hlti := of_decide_eq_true h
              have hidx : (i : Int).toNat = i := by omega
              refine LoopVC.of (fun j : Nat => j ≤ n ∧ ∀ b, b < j → ax5 p T Z i b = true) (fun j => [(1, .ptr 0 [] 0 0), (3, .int .i64 n), (9, .int .i64 i), (10, .int .i64 j)]) (fun _ => [some (hopV p n U T Z C S, 1106), none, none]) (fun j => n - j) 0 ⟨by omega, fun b h => by omega⟩ ?_ ?_ ?_
              · exact (And.intro rfl (And.intro rfl (And.intro rfl (And.intro rfl (trivial)))))
              · exact And.intro (And.intro (hopR p n U T Z C S) rfl) trivial
              · rintro j ⟨hj, hallj⟩
                refine ifVC_split (fun h => ?_) (fun h => ?_)
                · have hltj := of_decide_eq_true h
                  have hjdx : (j : Int).toNat = j := by omega
                  refine Exists.intro 22 (And.intro (by kernel_rfl) ?_)
                  (repeat (first | refine And.intro (by omega) ?_ | refine And.intro ⟨by omega, by omega⟩ ?_))
                  refine Exists.intro (.int .i64 (cnt p Z (vecT T i j))) (And.intro (And.intro rfl (And.intro rfl ?_)) ?_)
                  · rw [vec_is T i j hidx hjdx]
                    exact Spec.mono (l03Counit_s p n U T Z C S _ hp hn hV.hZ (vecT_u8 hV.hT (by omega) (by omega)) (fun m h1 h2 => hV.a.zero i j m (by omega) (by omega) h2 (.inr (.inr h1)))) fun r m h => h.1
                  (repeat (first | refine And.intro (by omega) ?_ | refine And.intro ⟨by omega, by omega⟩ ?_))
                  have zi := hV.hZ i (by omega)
                  have zj := hV.hZ j (by omega)
                  have zz := mulB zi zj
                  have hb : IntKind.i64.wrap (IntKind.i64.wrap (Z ((i : Int).toNat * 1 + 0)) * IntKind.i64.wrap (Z ((j : Int).toNat * 1 + 0))) = Z i * Z j := by
                    rw [show (i : Int).toNat * 1 + 0 = i by omega, show (j : Int).toNat * 1 + 0 = j by omega, wrapI (x := Z i) (by omega), wrapI (x := Z j) (by omega), wrapI (by omega)]
                  refine ifVC_split (fun hc => ?_) (fun hc => ?_)
                  · have hc : ax5 p T Z i j = false := by rw [hb, Int.tmod_eq_emod_of_nonneg zz.1] at hc; unfold ax5; simpa using hc
                    exact slotI (by unfold biN; rw [if_neg n0, if_neg n1, if_neg n3, if_neg n4, if_pos (by rw [all2_no (by omega) (by omega) hc]; rfl)]; rfl)
                  · have hc : ax5 p T Z i j = true := by rw [hb, Int.tmod_eq_emod_of_nonneg zz.1] at hc; unfold ax5; simpa using hc
                    refine Exists.intro (j + 1) (And.intro ⟨by omega, fun b hb => ?_⟩ (And.intro (by omega) (And.intro (And.intro rfl (And.intro rfl (And.intro rfl (And.intro (slotI (wrapS (by omega))) trivial)))) (And.intro (And.intro (hopR p n U T Z C S) rfl) trivial))))
                    by_cases hbj : b = j
                    · subst hbj; exact hc
                    · exact hallj b (by omega)
                · have hge := of_decide_eq_false h
                  refine Exists.intro (i + 1) (And.intro ⟨by omega, fun a b ha hb => ?_⟩ (And.intro (by omega) (And.intro (And.intro rfl (And.intro rfl (And.intro (slotI (wrapS (by omega))) trivial))) (And.intro (And.intro (hopR p n U T Z C S) rfl) trivial))))
                  by_cases hai : a = i
                  · subst hai; exact hallj b (by omega)
                  · exact hall5 a b (by omega) hb
            · have hge := of_decide_eq_false h
              have h5 : all2 n (ax5 p T Z) = true := all2_yes fun a b ha hb => hall5 a b (by omega) hb
              (repeat (first | refine And.intro (by omega) ?_ | refine And.intro ⟨by omega, by omega⟩ ?_))
              refine And.intro trivial (Spec.mono (l03Counit_s p n U T Z C S _ hp hn hV.hZ (fun q hq => hV.hU _ (by omega)) (fun m h1 h2 => hV.a.uzero m h2 h1)) ?_)
              rintro r m ⟨rfl, rfl⟩
              have he : cnt p Z (fun j => U (j + 0)) = cnt p Z U := rfl
              refine ifVC_split (fun hc => ?_) (fun hc => ?_)
              · have hc : (cnt p Z U == 1) = false := by rw [← he]; simpa using hc
                exact slotI (by unfold biN; rw [if_neg n0, if_neg n1, if_neg n3, if_neg n4, if_pos (by rw [hc, Bool.and_false])]; rfl)
              · have hc : (cnt p Z U == 1) = true := by rw [← he]; simpa using hc
                exact slotI (by unfold biN; rw [if_neg n0, if_neg n1, if_neg n3, if_neg n4, if_neg (by rw [h5, hc]; simp)]; rfl)

theorem s_part {p : Int} {n : Nat} {U T Z C S : Nat → Int} (hV : HV p n U T Z C S) : ∀ a m, a < 8 → m < 8 → n ≤ m → partF S 8 a m = 0 := fun a m ha hm h => hV.szero a m ha hm (.inr h)

theorem anti_as (p : Int) (n : Nat) (U T Z C S : Nat → Int) (hV : HV p n U T Z C S) (b : Bool) :
    Spec Tryz.prog 75 [hopV p n U T Z C S, .ints .u8 64 (fun j => S (j + 0)), .bool b] [] (Ret (.bool (match b with | false => ax6B p n U T Z C S | true => ax7B p n U T Z C S))) := by
  cases b
  · have e : antB p n U T Z C (fun j => S (j + 0)) false = ax6B p n U T Z C S := ant_left hV
    show Spec Tryz.prog 75 _ [] (Ret (.bool (ax6B p n U T Z C S)))
    rw [← e]
    exact l03Antipode_s p n U T Z C S _ hV (fun q hq => hV.hS _ (by omega)) (s_part hV) false
  · have e : antB p n U T Z C (fun j => S (j + 0)) true = ax7B p n U T Z C S := ant_right hV
    show Spec Tryz.prog 75 _ [] (Ret (.bool (ax7B p n U T Z C S)))
    rw [← e]
    exact l03Antipode_s p n U T Z C S _ hV (fun q hq => hV.hS _ (by omega)) (s_part hV) true

theorem l03Fails_s (p : Int) (n : Nat) (U T Z C S : Nat → Int) (hV : HV p n U T Z C S) : Spec Tryz.prog 53 [hopV p n U T Z C S] [] (Ret (.int .i64 (failN p n U T Z C S))) := by
  refine Spec.ret rfl (Spec.of_vc tabOK tabEq Tryz.func53 rfl (by kernel_rfl) rfl rfl ?_)
  refine And.intro trivial (Spec.mono (l03Bialgebra_s p n U T Z C S hV) ?_)
  rintro r m ⟨rfl, rfl⟩
  refine ifVC_split (fun h => ?_) (fun h => ?_)
  · have h : ¬ biN p n U T Z C = 0 := by
      have h : (biN p n U T Z C : Int) ≠ 0 := by simpa using h
      omega
    exact slotI (by rw [fail_bi, if_neg h])
  have h : biN p n U T Z C = 0 := by
    have h : (biN p n U T Z C : Int) = 0 := by simpa using h
    omega
  (repeat (first | refine And.intro (by omega) ?_ | refine And.intro ⟨by omega, by omega⟩ ?_))
  refine And.intro trivial (Spec.mono (anti_as p n U T Z C S hV false) ?_)
  rintro r m ⟨rfl, rfl⟩
  refine ifVC_split (fun h6 => ?_) (fun h6 => ?_)
  · have h6 : ax6B p n U T Z C S = false := by simpa using h6
    exact slotI (by rw [fail_bi, if_pos h, if_pos h6]; rfl)
  have h6 : ax6B p n U T Z C S = true := by simpa using h6
  (repeat (first | refine And.intro (by omega) ?_ | refine And.intro ⟨by omega, by omega⟩ ?_))
  refine And.intro trivial (Spec.mono (anti_as p n U T Z C S hV true) ?_)
  rintro r m ⟨rfl, rfl⟩
  refine ifVC_split (fun h7 => ?_) (fun h7 => ?_)
  · have h7 : ax7B p n U T Z C S = false := by simpa using h7
    exact slotI (by rw [fail_bi, if_pos h, if_neg (by rw [h6]; simp), if_pos h7]; rfl)
  have h7 : ax7B p n U T Z C S = true := by simpa using h7
  exact slotI (by rw [fail_bi, if_pos h, if_neg (by rw [h6]; simp), if_neg (by rw [h7]; simp)]; rfl)

theorem l03Is_s (p n : Int) (U T Z C S : Nat → Int) (hU : isU8 8 U) (hT : isU8 512 T) (hZ : isU8 8 Z) (hC : isU8 512 C) (hS : isU8 64 S) :
    Spec Tryz.prog 32 [hopV p n U T Z C S] [] (Ret (.bool (hopB p n U T Z C S))) := by
  refine Spec.ret rfl (Spec.of_vc tabOK tabEq Tryz.func32 rfl (by kernel_rfl) rfl rfl ?_)
  refine And.intro trivial (Spec.mono (l03Shape_s p n U T Z C S hU hT hZ hC hS) ?_)
  rintro r m ⟨rfl, rfl⟩
  refine ifVC_split (fun h => ?_) (fun h => ?_)
  · obtain ⟨n, rfl, hV⟩ := hsh_valid hU hT hZ hC hS h
    refine And.intro trivial (Spec.mono (l03Fails_s p n U T Z C S hV) ?_)
    rintro r m ⟨rfl, rfl⟩
    refine boolEq ?_
    unfold hopB
    rw [h, Bool.true_and, Int.toNat_natCast, Bool.eq_iff_iff, beq_iff_eq, beq_iff_eq]
    omega
  · exact boolEq (by unfold hopB; rw [h]; rfl)
end Go.Proofs.YtjanlnngeklhoabGreat

/- Functions of one Hopf algebra, on both sides, and the laws. -/
set_option linter.unusedVariables false
set_option linter.unusedSimpArgs false
set_option maxRecDepth 100000
set_option maxHeartbeats 1000000
namespace Go.Proofs.YtjanlnngeklhoabGreat
open M

/-- nothing but zeros -/
abbrev zr : Nat → Int := fun _ => 0
theorem toHopf_s (p n : Int) (U T Z C S : Nat → Int) : Spec Tryz.prog 6 [hopV p n U T Z C S] [] (Ret (hopV p n U T Z C S)) := by
  refine Spec.ret rfl (Spec.of_vc tabOK tabEq Tryz.func6 rfl (by kernel_rfl) rfl rfl ?_)
  (repeat (first | refine And.intro (by omega) ?_ | refine And.intro ⟨by omega, by omega⟩ ?_))
  refine And.intro trivial (Spec.mono (toVector_s _) ?_)
  rintro r m ⟨rfl, rfl⟩
  change opsVC _ _ _ _ _ _ [some (hopV p n U T Z C S, 1106), some (hopV 0 0 zr zr zr zr zr, 1106), some (hopV p n zr zr zr zr zr, 1106)] _
  (repeat (first | refine And.intro (by omega) ?_ | refine And.intro ⟨by omega, by omega⟩ ?_))
  refine And.intro trivial (Spec.mono (toTable_s _) ?_)
  rintro r m ⟨rfl, rfl⟩
  change opsVC _ _ _ _ _ _ [some (hopV p n U T Z C S, 1106), some (hopV 0 0 zr zr zr zr zr, 1106), some (hopV p n (updR zr 0 8 U) zr zr zr zr, 1106)] _
  (repeat (first | refine And.intro (by omega) ?_ | refine And.intro ⟨by omega, by omega⟩ ?_))
  refine And.intro trivial (Spec.mono (toVector_s _) ?_)
  rintro r m ⟨rfl, rfl⟩
  change opsVC _ _ _ _ _ _ [some (hopV p n U T Z C S, 1106), some (hopV 0 0 zr zr zr zr zr, 1106), some (hopV p n (updR zr 0 8 U) (updR zr 0 512 T) zr zr zr, 1106)] _
  (repeat (first | refine And.intro (by omega) ?_ | refine And.intro ⟨by omega, by omega⟩ ?_))
  refine And.intro trivial (Spec.mono (toTable_s _) ?_)
  rintro r m ⟨rfl, rfl⟩
  change opsVC _ _ _ _ _ _ [some (hopV p n U T Z C S, 1106), some (hopV 0 0 zr zr zr zr zr, 1106), some (hopV p n (updR zr 0 8 U) (updR zr 0 512 T) (updR zr 0 8 Z) zr zr, 1106)] _
  (repeat (first | refine And.intro (by omega) ?_ | refine And.intro ⟨by omega, by omega⟩ ?_))
  refine And.intro trivial (Spec.mono (toLinear_s _) ?_)
  rintro r m ⟨rfl, rfl⟩
  change opsVC _ _ _ _ _ _ [some (hopV p n U T Z C S, 1106), some (hopV 0 0 zr zr zr zr zr, 1106), some (hopV p n (updR zr 0 8 U) (updR zr 0 512 T) (updR zr 0 8 Z) (updR zr 0 512 C) zr, 1106)] _
  (repeat (first | refine And.intro (by omega) ?_ | refine And.intro ⟨by omega, by omega⟩ ?_))
  exact hopE p n (fun j hj => upd0 hj) (fun j hj => upd0 hj) (fun j hj => upd0 hj) (fun j hj => upd0 hj) (fun j hj => upd0 hj)

section
variable (p n : Int) (U T Z C S : Nat → Int) (hU : isU8 8 U) (hT : isU8 512 T) (hZ : isU8 8 Z) (hC : isU8 512 C) (hS : isU8 64 S)
include hU hT hZ hC hS

/-! ### IsHopf, AxiomThatFails -/
def failV (p n : Int) (U T Z C S : Nat → Int) : SV := .tcons (.int .i64 (if hshB p n U T Z C S = true then (failN p n.toNat U T Z C S : Int) else 0)) (.tcons (.int .i64 (if hshB p n U T Z C S = true then 0 else 1)) .tnil)

end
end Go.Proofs.YtjanlnngeklhoabGreat

/- Functions of a Hopf algebra and a vector, on both sides, and the laws. -/
set_option linter.unusedVariables false
set_option linter.unusedSimpArgs false
set_option maxRecDepth 100000
set_option maxHeartbeats 1000000
namespace Go.Proofs.YtjanlnngeklhoabGreat
open M

section
variable (p n : Int) (U T Z C S : Nat → Int) (hU : isU8 8 U) (hT : isU8 512 T) (hZ : isU8 8 Z) (hC : isU8 512 C) (hS : isU8 64 S)
include hU hT hZ hC hS


/-! ### functions of a Hopf algebra and a vector -/
end

/-- a Hopf algebra and a vector for it -/
def hopOne (p n : Int) (U T Z C S v : Nat → Int) : Bool := hopB p n U T Z C S && entriesB p n v
section
variable (p n : Int) (U T Z C S : Nat → Int) (hU : isU8 8 U) (hT : isU8 512 T) (hZ : isU8 8 Z) (hC : isU8 512 C) (hS : isU8 64 S) (v : Nat → Int) (hv : isU8 8 v)
include hU hT hZ hC hS hv

/-! ### CounitOf -/
def hcounitV (p n : Int) (U T Z C S v : Nat → Int) : SV := .tcons (.int .i64 (if hopOne p n U T Z C S v = true then cnt p Z v else 0)) (.tcons (.int .i64 (if hopOne p n U T Z C S v = true then 0 else 1)) .tnil)
/-! ### CoproductOf -/
def hcoprodV (p n : Int) (U T Z C S v : Nat → Int) : SV := .tcons (.ints .u8 64 fun q => if hopOne p n U T Z C S v = true then leftT p C v q else 0) (.tcons (.int .i64 (if hopOne p n U T Z C S v = true then 0 else 1)) .tnil)
/-! ### AntipodeOf -/
def hantV (p n : Int) (U T Z C S v : Nat → Int) : SV := .tcons (.ints .u8 8 fun j => if hopOne p n U T Z C S v = true then linS S v 8 j % p else 0) (.tcons (.int .i64 (if hopOne p n U T Z C S v = true then 0 else 1)) .tnil)
end
end Go.Proofs.YtjanlnngeklhoabGreat

/- The order of the antipode, on both sides, and the law. -/
set_option linter.unusedVariables false
set_option linter.unusedSimpArgs false
set_option maxRecDepth 100000
set_option maxHeartbeats 1000000
namespace Go.Proofs.YtjanlnngeklhoabGreat
open M

/-- first G, then F -/
def thenF (p : Int) (F G : Nat → Int) : Nat → Int := fun q => linS F (partF G 8 (q / 8)) 8 (q % 8) % p
theorem applyToAll_s (p : Int) (F G : Nat → Int) (hp : 0 < p ∧ p < 256) (hF : isU8 64 F) (hG : isU8 64 G) : Spec Tryz.prog 63 [.int .i64 p, .ints .u8 64 F, .ints .u8 64 G] [] (Ret (.ints .u8 64 (thenF p F G))) := by
  refine Spec.ret rfl (Spec.of_vc tabOK tabEq Tryz.func63 rfl (by kernel_rfl) rfl rfl ?_)
  (repeat (first | refine And.intro (by omega) ?_ | refine And.intro ⟨by omega, by omega⟩ ?_))
  refine LoopVC.of (fun i : Nat => i ≤ 8) (fun i => [(0, .int .i64 p), (4, .ptr 0 [] 0 0), (5, .ptr 1 [] 0 0), (6, .ptr 2 [] 0 0), (9, .ints .u8 64 G), (10, .int .i64 i)])
    (fun i => [some (.ints .u8 64 F, 64), some (.ints .u8 64 fun q => if q / 8 < i then thenF p F G q else G q, 64), some (.ints .u8 64 fun _ => 0, 64)]) (fun i => 8 - i) 0 (by omega) ?_ ?_ ?_
  · exact And.intro rfl (And.intro rfl (And.intro rfl (And.intro rfl (And.intro (rowEq fun _ _ => rfl) (And.intro rfl trivial)))))
  · exact And.intro (And.intro (rowEq fun _ _ => rfl) rfl) (And.intro (And.intro (rowEq fun q _ => by simp) rfl) (And.intro (And.intro (rowEq fun _ _ => rfl) rfl) trivial))
  · intro i hi
    refine ifVC_split (fun h => ?_) (fun h => ?_)
    · have hlt := of_decide_eq_true h
      have hidx : (i : Int).toNat = i := by omega
      (repeat (first | refine And.intro (by omega) ?_ | refine And.intro ⟨by omega, by omega⟩ ?_))
      have hW : ∀ a, a < 8 → updR (fun _ => 0) 0 8 (fun q => G (q + (i : Int).toNat * 8)) (a + 0) = partF G 8 i a := fun a ha => by rw [hidx]; simp [updR, ha, partF]
      refine And.intro trivial (Spec.mono (apply_s p _ _ hp (fun q hq => hF _ (by omega)) (fun a ha => by rw [hW a ha]; exact hG _ (by omega))) ?_)
      rintro r m ⟨rfl, rfl⟩
      (repeat (first | refine And.intro (by omega) ?_ | refine And.intro ⟨by omega, by omega⟩ ?_))
      refine Exists.intro (i + 1) (And.intro (by omega) (And.intro (by omega) (And.intro (And.intro rfl (And.intro rfl (And.intro rfl (And.intro rfl (And.intro (rowEq fun _ _ => rfl) (And.intro (slotI (wrapS (by omega))) trivial)))))) ?_)))
      refine And.intro (And.intro (rowEq fun _ _ => rfl) rfl) (And.intro (And.intro (rowEq fun q hq => ?_) rfl) (And.intro (And.intro (rowEq fun _ _ => rfl) rfl) trivial))
      show updR _ ((i : Int).toNat * 8 + 0) 8 _ q = _
      unfold updR
      rw [hidx]
      by_cases h1 : i * 8 + 0 ≤ q ∧ q < i * 8 + 0 + 8
      · rw [if_pos h1, if_pos (by omega)]
        unfold thenF
        rw [show q / 8 = i by omega, show q - (i * 8 + 0) = q % 8 by omega]
        refine congrArg (· % p) (linS_congr 8 fun a ha => ?_)
        have := hW a ha
        rw [hidx] at this
        unfold updR at this
        rw [this]
        rfl
      · rw [if_neg h1]
        dsimp only
        by_cases h2 : q / 8 < i
        · rw [if_pos h2, if_pos (show q / 8 < i + 1 by omega)]
        · rw [if_neg h2, if_neg (show ¬ q / 8 < i + 1 by omega)]
    · have hge := of_decide_eq_false h
      obtain rfl : i = 8 := by omega
      (repeat (first | refine And.intro (by omega) ?_ | refine And.intro ⟨by omega, by omega⟩ ?_))
      refine rowEq fun q hq => ?_
      show updR _ 0 64 _ q = _
      simp [updR, hq]
      omega

/-- images for a size, zeros elsewhere -/
def zero64 (n : Nat) (G : Nat → Int) : Prop := ∀ a m, a < 8 → m < 8 → (n ≤ a ∨ n ≤ m) → partF G 8 a m = 0
/-! ### orders -/
/-- S taken k + 1 times -/
def powS (p : Int) (S : Nat → Int) : Nat → Nat → Int
  | 0 => S
  | k + 1 => thenF p S (powS p S k)
def sameAt (p : Int) (n : Nat) (S : Nat → Int) (k : Nat) : Bool := allEq 64 (powS p S k) (idF n)
/-- r is one more than the first place with f, among m, or 0 -/
def firstOk (f : Nat → Bool) (m r : Nat) : Prop := (r = 0 ∧ ∀ k, k < m → f k = false) ∨ (∃ k, r = k + 1 ∧ k < m ∧ f k = true ∧ ∀ k', k' < k → f k' = false)
def firstN (f : Nat → Bool) : Nat → Nat
  | 0 => 0
  | m + 1 => match firstN f m with | 0 => (match f m with | true => m + 1 | false => 0) | r + 1 => r + 1
def ordV (b : Bool) (r : Nat) : SV := .tcons (.int .i64 (if b = true then (r : Int) else 0)) (.tcons (.int .i64 (if b = true then (if r = 0 then 3 else 0) else 1)) .tnil)
def ordN (p : Int) (n : Nat) (S : Nat → Int) : Nat := firstN (sameAt p n S) 60

section
variable (p n : Int) (U T Z C S : Nat → Int) (hU : isU8 8 U) (hT : isU8 512 T) (hZ : isU8 8 Z) (hC : isU8 512 C) (hS : isU8 64 S)
include hU hT hZ hC hS

end
end Go.Proofs.YtjanlnngeklhoabGreat

/- Left integrals told: IsLeftIntegral on both sides, and the law. -/
set_option linter.unusedVariables false
set_option linter.unusedSimpArgs false
set_option maxRecDepth 100000
set_option maxHeartbeats 1000000
namespace Go.Proofs.YtjanlnngeklhoabGreat
open M

/-- e(i) t, at m -/
def etF (p : Int) (T t : Nat → Int) (i m : Nat) : Int := sumN 8 (fun k => t k * vecT T i k m) % p
/-- e(i) t less the counit of e(i) times t, in rows -/
def faultF (p : Int) (T Z t : Nat → Int) : Nat → Int := fun q => (etF p T t (q / 8) (q % 8) + (p - Z (q / 8)) * t (q % 8)) % p
/-! ### IsLeftIntegral -/
def lintB (p : Int) (T Z t : Nat → Int) : Bool := allEq 64 (faultF p T Z t) fun _ => 0
def hlintV (p n : Int) (U T Z C S t : Nat → Int) : SV := .tcons (.bool (hopOne p n U T Z C S t && lintB p T Z t)) (.tcons (.int .i64 (if hopOne p n U T Z C S t = true then 0 else 1)) .tnil)
section
variable (p n : Int) (U T Z C S : Nat → Int) (hU : isU8 8 U) (hT : isU8 512 T) (hZ : isU8 8 Z) (hC : isU8 512 C) (hS : isU8 64 S) (v : Nat → Int) (hv : isU8 8 v)
include hU hT hZ hC hS hv
end
end Go.Proofs.YtjanlnngeklhoabGreat

/- Integrals of Hopf algebras of a finite size exist: plain sums of numbers modulo p; nothing of the translation is named here. -/
set_option linter.unusedVariables false
set_option linter.unusedSimpArgs false
set_option linter.unusedSectionVars false
namespace Go.Proofs.YtjanlnngeklhoabGreat.LS
variable {p : Nat} [NeZero p]

/-! ### sums -/
def su : (n : Nat) → (Fin n → Fin p) → Fin p
  | 0, _ => 0
  | n + 1, f => f 0 + su n fun i => f i.succ
theorem su_congr : ∀ {n : Nat} {f g : Fin n → Fin p}, (∀ i, f i = g i) → su n f = su n g
  | 0, _, _, _ => rfl
  | n + 1, f, g, h => by show f 0 + _ = g 0 + _; rw [h 0, su_congr fun i => h i.succ]
theorem su_zero : ∀ n : Nat, su n (fun _ => (0 : Fin p)) = 0
  | 0 => rfl
  | n + 1 => by show (0 : Fin p) + su n (fun _ => 0) = 0; rw [su_zero n]; grind
theorem su_add : ∀ (n : Nat) (f g : Fin n → Fin p), su n (fun i => f i + g i) = su n f + su n g
  | 0, _, _ => by show (0 : Fin p) = 0 + 0; grind
  | n + 1, f, g => by show f 0 + g 0 + su n (fun i => f i.succ + g i.succ) = (f 0 + su n fun i => f i.succ) + (g 0 + su n fun i => g i.succ); rw [su_add n]; grind
theorem su_mul : ∀ (n : Nat) (c : Fin p) (f : Fin n → Fin p), c * su n f = su n fun i => c * f i
  | 0, c, _ => by show c * 0 = 0; grind
  | n + 1, c, f => by show c * (f 0 + su n fun i => f i.succ) = c * f 0 + su n fun i => c * f i.succ; rw [← su_mul n]; grind
theorem su_mul_r (n : Nat) (c : Fin p) (f : Fin n → Fin p) : su n f * c = su n fun i => f i * c := by
  rw [show su n f * c = c * su n f by grind, su_mul]; exact su_congr fun i => by grind
theorem su_comm : ∀ (n m : Nat) (f : Fin n → Fin m → Fin p), su n (fun i => su m fun j => f i j) = su m fun j => su n fun i => f i j
  | 0, m, f => (su_zero m).symm
  | n + 1, m, f => by
    show su m (fun j => f 0 j) + su n (fun i => su m fun j => f i.succ j) = su m fun j => f 0 j + su n fun i => f i.succ j
    rw [su_add, su_comm n m]
theorem su_pick : ∀ (n : Nat) (i : Fin n) (f : Fin n → Fin p), su n (fun j => (if j = i then (1 : Fin p) else 0) * f j) = f i
  | 0, i, _ => i.elim0
  | n + 1, i, f => by
    show (if (0 : Fin (n + 1)) = i then (1 : Fin p) else 0) * f 0 + su n (fun j => (if j.succ = i then (1 : Fin p) else 0) * f j.succ) = f i
    refine Fin.cases ?_ (fun k => ?_) i
    · rw [if_pos rfl, su_congr (g := fun _ => 0) (fun j => by rw [if_neg (Fin.succ_ne_zero j)]; grind), su_zero]; grind
    · rw [if_neg (fun h => Fin.succ_ne_zero k h.symm)]
      have := su_pick n k fun j => f j.succ
      rw [su_congr (g := fun j => (if j = k then (1 : Fin p) else 0) * f j.succ) fun j => by
        by_cases e : j = k
        · rw [if_pos e, if_pos (by rw [e])]
        · rw [if_neg e, if_neg (fun h => e (Fin.succ_inj.1 h))], this]
      grind

abbrev V (p n : Nat) := Fin n → Fin p
section
variable {n : Nat}
def e (i : Fin n) : V p n := fun j => if j = i then 1 else 0
/-- linear functions of vectors -/
def Lf (f : V p n → Fin p) : Prop := ∀ x, f x = su n fun i => x i * f (e i)
/-- linear maps -/
def Lm (M : V p n → V p n) : Prop := ∀ x m, M x m = su n fun i => x i * M (e i) m
theorem Lf.comp {f : V p n → Fin p} {M : V p n → V p n} (hf : Lf f) (hM : Lm M) : Lf fun x => f (M x) := fun x => by
  show f (M x) = su n fun i => x i * f (M (e i))
  rw [hf (M x), su_congr (g := fun m => su n fun i => x i * (M (e i) m * f (e m))) fun m => by rw [hM x m, su_mul_r]; exact su_congr fun i => by grind, su_comm]
  exact su_congr fun i => by rw [hf (M (e i)), su_mul]
theorem Lf.co (i : Fin n) : Lf fun x : V p n => x i := fun x => by
  have := su_pick n i x
  show x i = su n fun j => x j * e j i
  rw [← this]
  exact su_congr fun j => by
    unfold e
    by_cases h : j = i
    · rw [if_pos h, if_pos h.symm]; grind
    · rw [if_neg h, if_neg (fun h' => h h'.symm)]; grind
theorem Lm.id : Lm fun x : V p n => x := fun x m => Lf.co m x
theorem Lm.of {M : V p n → V p n} (h : ∀ m, Lf fun x => M x m) : Lm M := fun x m => h m x
theorem Lm.co {M : V p n → V p n} (h : Lm M) (m : Fin n) : Lf fun x => M x m := fun x => h x m
theorem Lf.mul {f : V p n → Fin p} (hf : Lf f) (c : Fin p) : Lf fun x => c * f x := fun x => by
  show c * f x = _; rw [hf x, su_mul]; exact su_congr fun i => by grind
theorem Lf.mul_r {f : V p n → Fin p} (hf : Lf f) (c : Fin p) : Lf fun x => f x * c := fun x => by
  show f x * c = _; rw [hf x, su_mul_r]; exact su_congr fun i => by grind
theorem Lf.su {m : Nat} {f : Fin m → V p n → Fin p} (hf : ∀ j, Lf (f j)) : Lf fun x => LS.su m fun j => f j x := fun x => by
  show LS.su m (fun j => f j x) = LS.su n fun i => x i * LS.su m fun j => f j (e i)
  rw [su_congr fun j => hf j x, su_comm]
  exact su_congr fun i => by rw [su_mul]
theorem Lf.at_e {f : V p n → Fin p} (i : Fin n) (g : Fin n → Fin p) : LS.su n (fun j => (e i : V p n) j * g j) = g i := by
  have := su_pick n i g
  exact this
/-- the trace of two maps, one after the other -/
theorem trace_comm {M N : V p n → V p n} (hM : Lm M) (hN : Lm N) : su n (fun i => M (N (e i)) i) = su n fun i => N (M (e i)) i := by
  rw [su_congr fun i => hM (N (e i)) i, su_congr (f := fun i => N (M (e i)) i) fun i => hN (M (e i)) i, su_comm]
  exact su_congr fun i => su_congr fun j => by grind
end

/-- a Hopf algebra in tables -/
structure Hopf (p n : Nat) [NeZero p] where
  T : Fin n → Fin n → Fin n → Fin p
  U : V p n
  C : Fin n → Fin n → Fin n → Fin p
  Z : V p n
  S : Fin n → Fin n → Fin p
variable {n : Nat} (H : Hopf p n)
namespace Hopf
def mul (x y : V p n) : V p n := fun m => su n fun i => su n fun j => x i * (y j * H.T i j m)
def ant (x : V p n) : V p n := fun m => su n fun i => x i * H.S i m
def eps (x : V p n) : Fin p := su n fun i => x i * H.Z i
def D (B : V p n → V p n → Fin p) (x : V p n) : Fin p := su n fun i => x i * su n fun j => su n fun k => H.C i j k * B (e j) (e k)

theorem mul_lm_l (y : V p n) : Lm fun x => H.mul x y := fun x m => by
  show su n _ = su n fun i => x i * su n fun i' => su n fun j => e i i' * (y j * H.T i' j m)
  refine su_congr fun i => ?_
  have h : su n (fun i' => su n fun j => (e i : V p n) i' * (y j * H.T i' j m)) = su n fun j => y j * H.T i j m := by
    rw [su_congr fun i' => (su_mul n ((e i : V p n) i') fun j => y j * H.T i' j m).symm]
    exact su_pick n i fun i' => su n fun j => y j * H.T i' j m
  rw [h, su_mul]
theorem mul_lm_r (x : V p n) : Lm fun y => H.mul x y := fun y m => by
  show su n (fun i => su n fun j => x i * (y j * H.T i j m)) = su n fun j => y j * su n fun i => su n fun j' => x i * (e j j' * H.T i j' m)
  rw [su_comm]
  refine su_congr fun j => ?_
  rw [su_mul]
  refine su_congr fun i => ?_
  have h : su n (fun j' => x i * ((e j : V p n) j' * H.T i j' m)) = x i * H.T i j m := by
    rw [← su_mul]
    exact congrArg (x i * ·) (su_pick n j fun j' => H.T i j' m)
  rw [h]; grind
theorem mul_l {M : V p n → V p n} (hM : Lm M) (y : V p n) : Lm fun x => H.mul (M x) y := Lm.of fun m => Lf.comp (f := fun x => H.mul x y m) (Lm.co (H.mul_lm_l y) m) hM
theorem mul_r {M : V p n → V p n} (hM : Lm M) (x : V p n) : Lm fun y => H.mul x (M y) := Lm.of fun m => Lf.comp (f := fun y => H.mul x y m) (Lm.co (H.mul_lm_r x) m) hM
theorem ant_lm : Lm H.ant := fun x m => by
  show su n (fun i => x i * H.S i m) = su n fun i => x i * su n fun i' => e i i' * H.S i' m
  exact su_congr fun i => congrArg (x i * ·) (su_pick n i fun i' => H.S i' m).symm
theorem ant_l {M : V p n → V p n} (hM : Lm M) : Lm fun x => H.ant (M x) := Lm.of fun m => Lf.comp (f := fun x => H.ant x m) (Lm.co H.ant_lm m) hM
theorem eps_lf : Lf H.eps := fun x => by
  show su n (fun i => x i * H.Z i) = su n fun i => x i * su n fun i' => e i i' * H.Z i'
  exact su_congr fun i => congrArg (x i * ·) (su_pick n i H.Z).symm
theorem D_e (B : V p n → V p n → Fin p) (i : Fin n) : H.D B (e i) = su n fun j => su n fun k => H.C i j k * B (e j) (e k) := su_pick n i fun i' => su n fun j => su n fun k => H.C i' j k * B (e j) (e k)
theorem D_lf (B : V p n → V p n → Fin p) : Lf (H.D B) := fun x => su_congr fun i => by rw [H.D_e B i]
theorem D_congr {B B' : V p n → V p n → Fin p} (h : ∀ j k, B (e j) (e k) = B' (e j) (e k)) (x : V p n) : H.D B x = H.D B' x :=
  su_congr fun i => congrArg (x i * ·) (su_congr fun j => su_congr fun k => by rw [h])
theorem D_mul_c (c : Fin p) (B : V p n → V p n → Fin p) (x : V p n) : H.D (fun a b => c * B a b) x = c * H.D B x := by
  show su n (fun i => x i * su n fun j => su n fun k => H.C i j k * (c * B (e j) (e k))) = c * su n fun i => x i * su n fun j => su n fun k => H.C i j k * B (e j) (e k)
  rw [su_mul]
  refine su_congr fun i => ?_
  rw [show c * (x i * su n fun j => su n fun k => H.C i j k * B (e j) (e k)) = x i * (c * su n fun j => su n fun k => H.C i j k * B (e j) (e k)) by grind]
  refine congrArg (x i * ·) ?_
  rw [su_mul]
  refine su_congr fun j => ?_
  rw [su_mul]
  exact su_congr fun k => by grind
theorem D_su {m : Nat} (B : Fin m → V p n → V p n → Fin p) (x : V p n) : H.D (fun a b => su m fun q => B q a b) x = su m fun q => H.D (B q) x := by
  show su n (fun i => x i * su n fun j => su n fun k => H.C i j k * su m fun q => B q (e j) (e k)) = su m fun q => su n fun i => x i * su n fun j => su n fun k => H.C i j k * B q (e j) (e k)
  rw [su_comm m n]
  refine su_congr fun i => ?_
  rw [← su_mul]
  refine congrArg (x i * ·) ?_
  rw [su_comm m n]
  refine su_congr fun j => ?_
  rw [su_comm m n]
  exact su_congr fun k => by rw [su_mul]
theorem D_lin {B : V p n → V p n → V p n → Fin p} (h : ∀ a b, Lf fun z => B z a b) (x : V p n) : Lf fun z => H.D (B z) x := fun z => by
  show H.D (B z) x = su n fun q => z q * H.D (B (e q)) x
  rw [H.D_congr (B' := fun a b => su n fun q => z q * B (e q) a b) fun j k => h _ _ z, D_su]
  exact su_congr fun q => H.D_mul_c _ _ _
theorem D_swap (B : V p n → V p n → V p n → V p n → Fin p) (x y : V p n) : H.D (fun a b => H.D (fun c d => B a b c d) y) x = H.D (fun c d => H.D (fun a b => B a b c d) x) y := by
  show su n (fun i => x i * su n fun j => su n fun k => H.C i j k * H.D (fun c d => B (e j) (e k) c d) y) = H.D (fun c d => su n fun i => x i * su n fun j => su n fun k => H.C i j k * B (e j) (e k) c d) y
  rw [D_su]
  refine su_congr fun i => ?_
  rw [D_mul_c, D_su]
  refine congrArg (x i * ·) (su_congr fun j => ?_)
  rw [D_su]
  exact su_congr fun k => by rw [D_mul_c]
end Hopf

/-- what is asked of the tables -/
structure Ax (H : Hopf p n) : Prop where
  assoc : ∀ i j k m, su n (fun q => H.T i j q * H.T q k m) = su n fun q => H.T j k q * H.T i q m
  unit_l : ∀ i m, su n (fun q => H.U q * H.T q i m) = if m = i then 1 else 0
  unit_r : ∀ i m, su n (fun q => H.U q * H.T i q m) = if m = i then 1 else 0
  coassoc : ∀ i j k l, su n (fun q => H.C i q l * H.C q j k) = su n fun q => H.C i j q * H.C q k l
  counit_l : ∀ i k, su n (fun j => H.C i j k * H.Z j) = if k = i then 1 else 0
  counit_r : ∀ i j, su n (fun k => H.C i j k * H.Z k) = if j = i then 1 else 0
  comul : ∀ i j a b, su n (fun q => H.T i j q * H.C q a b) = su n fun c => su n fun d => H.C i c d * su n fun f => su n fun g => H.C j f g * (H.T c f a * H.T d g b)
  counit_one : su n (fun q => H.U q * H.Z q) = 1
  coone : ∀ a b, su n (fun q => H.U q * H.C q a b) = H.U a * H.U b
  coeps : ∀ i j, su n (fun q => H.T i j q * H.Z q) = H.Z i * H.Z j
  ant_l : ∀ i m, su n (fun j => su n fun k => H.C i j k * su n fun q => H.S j q * H.T q k m) = H.Z i * H.U m
  ant_r : ∀ i m, su n (fun j => su n fun k => H.C i j k * su n fun q => H.S k q * H.T j q m) = H.Z i * H.U m

section
variable {H} (hA : Ax H)
include hA
namespace Ax
/-! ### laws for all vectors -/
theorem lf_ext {f g : V p n → Fin p} (hf : Lf f) (hg : Lf g) (h : ∀ i, f (e i) = g (e i)) (x : V p n) : f x = g x := by
  rw [hf x, hg x]; exact su_congr fun i => by rw [h i]
theorem mul_ee (i j m : Fin n) : H.mul (e i) (e j) m = H.T i j m := by
  show su n (fun i' => su n fun j' => (e i : V p n) i' * ((e j : V p n) j' * H.T i' j' m)) = _
  rw [su_congr fun i' => (su_mul n ((e i : V p n) i') fun j' => (e j : V p n) j' * H.T i' j' m).symm]
  exact (su_pick n i fun i' => su n fun j' => (e j : V p n) j' * H.T i' j' m).trans (su_pick n j fun j' => H.T i j' m)
theorem vec_e (x : V p n) (f : V p n → Fin p) (hf : Lf f) : f x = su n fun i => x i * f (e i) := hf x
theorem mul_assoc (x y z : V p n) : H.mul (H.mul x y) z = H.mul x (H.mul y z) := by
  funext m
  refine lf_ext hA (f := fun x => H.mul (H.mul x y) z m) (g := fun x => H.mul x (H.mul y z) m) (Lm.co (H.mul_l (H.mul_lm_l y) z) m) (Lm.co (H.mul_lm_l _) m) (fun i => ?_) x
  refine lf_ext hA (f := fun y => H.mul (H.mul (e i) y) z m) (g := fun y => H.mul (e i) (H.mul y z) m) (Lm.co (H.mul_l (H.mul_lm_r _) z) m) (Lm.co (H.mul_r (H.mul_lm_l z) _) m) (fun j => ?_) y
  refine lf_ext hA (f := fun z => H.mul (H.mul (e i) (e j)) z m) (g := fun z => H.mul (e i) (H.mul (e j) z) m) (Lm.co (H.mul_lm_r _) m) (Lm.co (H.mul_r (H.mul_lm_r _) _) m) (fun k => ?_) z
  have h1 := Lm.co (H.mul_lm_l (e k)) m (H.mul (e i) (e j))
  have h2 := Lm.co (H.mul_lm_r (e i)) m (H.mul (e j) (e k))
  dsimp only at h1 h2
  show H.mul (H.mul (e i) (e j)) (e k) m = H.mul (e i) (H.mul (e j) (e k)) m
  rw [h1, h2, su_congr (g := fun q => H.T i j q * H.T q k m) fun q => by rw [mul_ee hA, mul_ee hA], hA.assoc]
  exact su_congr fun q => by rw [mul_ee hA, mul_ee hA]
theorem one_mul (x : V p n) : H.mul H.U x = x := by
  funext m
  refine lf_ext hA (f := fun x => H.mul H.U x m) (g := fun x => x m) (Lm.co (H.mul_lm_r _) m) (Lf.co m) (fun i => ?_) x
  have h1 := Lm.co (H.mul_lm_l (e i)) m H.U
  dsimp only at h1
  show H.mul H.U (e i) m = e i m
  rw [h1, su_congr (g := fun q => H.U q * H.T q i m) fun q => by rw [mul_ee hA], hA.unit_l]
  rfl
theorem mul_one (x : V p n) : H.mul x H.U = x := by
  funext m
  refine lf_ext hA (f := fun x => H.mul x H.U m) (g := fun x => x m) (Lm.co (H.mul_lm_l _) m) (Lf.co m) (fun i => ?_) x
  have h1 := Lm.co (H.mul_lm_r (e i)) m H.U
  dsimp only at h1
  show H.mul (e i) H.U m = e i m
  rw [h1, su_congr (g := fun q => H.U q * H.T i q m) fun q => by rw [mul_ee hA], hA.unit_r]
  rfl
theorem eps_e (i : Fin n) : H.eps (e i) = H.Z i := su_pick n i H.Z
theorem eps_mul (x y : V p n) : H.eps (H.mul x y) = H.eps x * H.eps y := by
  refine lf_ext hA (f := fun x => H.eps (H.mul x y)) (g := fun x => H.eps x * H.eps y) (H.eps_lf.comp (H.mul_lm_l y)) (H.eps_lf.mul_r _) (fun i => ?_) x
  refine lf_ext hA (f := fun y => H.eps (H.mul (e i) y)) (g := fun y => H.eps (e i) * H.eps y) (H.eps_lf.comp (H.mul_lm_r _)) (H.eps_lf.mul _) (fun j => ?_) y
  show H.eps (H.mul (e i) (e j)) = _
  rw [show H.eps (H.mul (e i) (e j)) = su n fun q => H.mul (e i) (e j) q * H.Z q from rfl, su_congr (g := fun q => H.T i j q * H.Z q) fun q => by rw [mul_ee hA], hA.coeps, eps_e hA, eps_e hA]
theorem D_counit_l {f : V p n → Fin p} (hf : Lf f) (x : V p n) : H.D (fun a b => H.eps a * f b) x = f x := by
  refine lf_ext hA (H.D_lf _) hf (fun i => ?_) x
  rw [H.D_e, su_comm, su_congr (g := fun k => (e i : V p n) k * f (e k)) fun k => ?_]
  · exact su_pick n i fun k => f (e k)
  · rw [su_congr (g := fun j => H.C i j k * H.Z j * f (e k)) fun j => by rw [eps_e hA]; grind, ← su_mul_r, hA.counit_l]; rfl
theorem D_counit_r {f : V p n → Fin p} (hf : Lf f) (x : V p n) : H.D (fun a b => f a * H.eps b) x = f x := by
  refine lf_ext hA (H.D_lf _) hf (fun i => ?_) x
  rw [H.D_e, su_congr (g := fun j => (e i : V p n) j * f (e j)) fun j => ?_]
  · exact su_pick n i fun j => f (e j)
  · rw [su_congr (g := fun k => H.C i j k * H.Z k * f (e j)) fun k => by rw [eps_e hA]; grind, ← su_mul_r, hA.counit_r]; rfl
theorem D_coassoc (B : V p n → V p n → V p n → Fin p) (x : V p n) : H.D (fun a b => H.D (fun a1 a2 => B a1 a2 b) a) x = H.D (fun a b => H.D (fun b1 b2 => B a b1 b2) b) x := by
  refine lf_ext hA (H.D_lf _) (H.D_lf _) (fun i => ?_) x
  rw [H.D_e, H.D_e]
  have l : ∀ q l, H.C i q l * H.D (fun a1 a2 => B a1 a2 (e l)) (e q) = su n fun j => su n fun k => H.C i q l * H.C q j k * B (e j) (e k) (e l) := fun q l => by
    rw [H.D_e, su_mul]; exact su_congr fun j => by rw [su_mul]; exact su_congr fun k => by grind
  have r : ∀ j q, H.C i j q * H.D (fun b1 b2 => B (e j) b1 b2) (e q) = su n fun k => su n fun l => H.C i j q * H.C q k l * B (e j) (e k) (e l) := fun j q => by
    rw [H.D_e, su_mul]; exact su_congr fun k => by rw [su_mul]; exact su_congr fun l => by grind
  rw [su_congr fun q => su_congr fun l' => l q l', su_congr fun j => su_congr fun q => r j q]
  -- both to sums over j, k, l
  have hl : (su n fun q => su n fun l => su n fun j => su n fun k => H.C i q l * H.C q j k * B (e j) (e k) (e l)) = su n fun j => su n fun k => su n fun l => (su n fun q => H.C i q l * H.C q j k) * B (e j) (e k) (e l) := by
    rw [su_congr fun q => su_comm n n _, su_comm]
    refine su_congr fun j => ?_
    rw [su_congr fun q => su_comm n n _, su_comm]
    refine su_congr fun k => ?_
    rw [su_comm]
    exact su_congr fun l => by rw [su_mul_r]
  have hr : (su n fun j => su n fun q => su n fun k => su n fun l => H.C i j q * H.C q k l * B (e j) (e k) (e l)) = su n fun j => su n fun k => su n fun l => (su n fun q => H.C i j q * H.C q k l) * B (e j) (e k) (e l) := by
    refine su_congr fun j => ?_
    rw [su_comm]
    refine su_congr fun k => ?_
    rw [su_comm]
    exact su_congr fun l => by rw [su_mul_r]
  rw [hl, hr]
  exact su_congr fun j => su_congr fun k => su_congr fun l => by rw [hA.coassoc]
/-- linear in both -/
def Bil (B : V p n → V p n → Fin p) : Prop := (∀ b, Lf fun a => B a b) ∧ ∀ a, Lf (B a)
theorem D_ee {B : V p n → V p n → Fin p} (hB : (∀ b, Lf fun a => B a b) ∧ ∀ a, Lf (B a)) (x y : V p n) : B x y = su n fun a => su n fun b => x a * y b * B (e a) (e b) := by
  rw [show B x y = _ from hB.1 y x]
  refine su_congr fun a => ?_
  dsimp only
  rw [hB.2 (e a) y, su_mul]
  exact su_congr fun b => by grind
theorem su_comm22 (F : Fin n → Fin n → Fin n → Fin n → Fin p) : (su n fun f => su n fun g => su n fun a => su n fun b => F f g a b) = su n fun a => su n fun b => su n fun f => su n fun g => F f g a b := by
  rw [su_congr fun f => su_comm n n fun g a => su n fun b => F f g a b, su_comm n n fun f a => su n fun g => su n fun b => F f g a b]
  refine su_congr fun a => ?_
  rw [su_congr fun f => su_comm n n fun g b => F f g a b, su_comm n n fun f b => su n fun g => F f g a b]
theorem D_mul {B : V p n → V p n → Fin p} (h1 : ∀ b, Lf fun a => B a b) (h2 : ∀ a, Lf (B a)) (x y : V p n) : H.D B (H.mul x y) = H.D (fun x1 x2 => H.D (fun y1 y2 => B (H.mul x1 y1) (H.mul x2 y2)) y) x := by
  refine lf_ext hA (f := fun x => H.D B (H.mul x y)) ((H.D_lf B).comp (H.mul_lm_l y)) (H.D_lf _) (fun i => ?_) x
  refine lf_ext hA (f := fun y => H.D B (H.mul (e i) y)) (g := fun y => H.D (fun x1 x2 => H.D (fun y1 y2 => B (H.mul x1 y1) (H.mul x2 y2)) y) (e i)) ((H.D_lf B).comp (H.mul_lm_r _)) (H.D_lin (fun a b => H.D_lf _) _) (fun j => ?_) y
  have hl : H.D B (H.mul (e i) (e j)) = su n fun a => su n fun b => (su n fun q => H.T i j q * H.C q a b) * B (e a) (e b) := by
    show (su n fun q => H.mul (e i) (e j) q * su n fun a => su n fun b => H.C q a b * B (e a) (e b)) = _
    rw [su_congr (g := fun q => su n fun a => su n fun b => H.T i j q * H.C q a b * B (e a) (e b)) fun q => by
      rw [mul_ee hA, su_mul]; exact su_congr fun a => by rw [su_mul]; exact su_congr fun b => by grind, su_comm]
    refine su_congr fun a => ?_
    rw [su_comm]
    exact su_congr fun b => by rw [su_mul_r]
  have hr : H.D (fun x1 x2 => H.D (fun y1 y2 => B (H.mul x1 y1) (H.mul x2 y2)) (e j)) (e i) = su n fun a => su n fun b => (su n fun c => su n fun d => H.C i c d * su n fun f => su n fun g => H.C j f g * (H.T c f a * H.T d g b)) * B (e a) (e b) := by
    rw [H.D_e, su_congr (g := fun c => su n fun d => su n fun a => su n fun b => (H.C i c d * su n fun f => su n fun g => H.C j f g * (H.T c f a * H.T d g b)) * B (e a) (e b)) fun c => su_congr fun d => ?_, su_comm22 hA]
    · refine su_congr fun a => su_congr fun b => ?_
      rw [su_mul_r]
      exact su_congr fun c => by rw [su_mul_r]
    · rw [H.D_e, su_congr (g := fun f => su n fun g => su n fun a => su n fun b => H.C j f g * (H.T c f a * H.T d g b) * B (e a) (e b)) fun f => su_congr fun g => ?_, su_comm22 hA, su_mul]
      · refine su_congr fun a => ?_
        rw [su_mul]
        refine su_congr fun b => ?_
        rw [show (H.C i c d * su n fun f => su n fun g => H.C j f g * (H.T c f a * H.T d g b)) * B (e a) (e b) = H.C i c d * ((su n fun f => su n fun g => H.C j f g * (H.T c f a * H.T d g b)) * B (e a) (e b)) by grind, su_mul_r]
        refine congrArg (H.C i c d * ·) (su_congr fun f => ?_)
        rw [su_mul_r]
      · rw [D_ee hA ⟨h1, h2⟩, su_mul]
        refine su_congr fun a => ?_
        rw [su_mul]
        exact su_congr fun b => by rw [mul_ee hA, mul_ee hA]; grind
  show H.D B (H.mul (e i) (e j)) = _
  rw [hl, hr]
  exact su_congr fun a => su_congr fun b => by rw [hA.comul]
theorem D_one {B : V p n → V p n → Fin p} (h1 : ∀ b, Lf fun a => B a b) (h2 : ∀ a, Lf (B a)) : H.D B H.U = B H.U H.U := by
  rw [D_ee hA ⟨h1, h2⟩ H.U H.U]
  show (su n fun q => H.U q * su n fun a => su n fun b => H.C q a b * B (e a) (e b)) = _
  rw [su_congr (g := fun q => su n fun a => su n fun b => H.U q * H.C q a b * B (e a) (e b)) fun q => by
    rw [su_mul]; exact su_congr fun a => by rw [su_mul]; exact su_congr fun b => by grind, su_comm]
  refine su_congr fun a => ?_
  rw [su_comm]
  exact su_congr fun b => by rw [← su_mul_r, hA.coone]
theorem ant_e (j q : Fin n) : H.ant (e j) q = H.S j q := su_pick n j fun i => H.S i q
theorem D_ant_l {f : V p n → Fin p} (hf : Lf f) (x : V p n) : H.D (fun a b => f (H.mul (H.ant a) b)) x = H.eps x * f H.U := by
  refine lf_ext hA (g := fun x => H.eps x * f H.U) (H.D_lf _) (H.eps_lf.mul_r _) (fun i => ?_) x
  rw [H.D_e, eps_e hA, hf H.U, su_mul]
  have : ∀ j k, H.C i j k * f (H.mul (H.ant (e j)) (e k)) = su n fun m => (H.C i j k * su n fun q => H.S j q * H.T q k m) * f (e m) := fun j k => by
    rw [hf (H.mul (H.ant (e j)) (e k)), su_mul]
    refine su_congr fun m => ?_
    have h1 := Lm.co (H.mul_lm_l (e k)) m (H.ant (e j))
    dsimp only at h1
    rw [h1, su_congr (g := fun q => H.S j q * H.T q k m) fun q => by rw [ant_e hA, mul_ee hA]]
    grind
  rw [su_congr fun j => su_congr fun k => this j k, su_congr fun j => su_comm n n _, su_comm]
  refine su_congr fun m => ?_
  rw [su_congr fun j => (su_mul_r n _ _).symm, ← su_mul_r, hA.ant_l]
  grind
theorem D_ant_r {f : V p n → Fin p} (hf : Lf f) (x : V p n) : H.D (fun a b => f (H.mul a (H.ant b))) x = H.eps x * f H.U := by
  refine lf_ext hA (g := fun x => H.eps x * f H.U) (H.D_lf _) (H.eps_lf.mul_r _) (fun i => ?_) x
  rw [H.D_e, eps_e hA, hf H.U, su_mul]
  have : ∀ j k, H.C i j k * f (H.mul (e j) (H.ant (e k))) = su n fun m => (H.C i j k * su n fun q => H.S k q * H.T j q m) * f (e m) := fun j k => by
    rw [hf (H.mul (e j) (H.ant (e k))), su_mul]
    refine su_congr fun m => ?_
    have h1 := Lm.co (H.mul_lm_r (e j)) m (H.ant (e k))
    dsimp only at h1
    rw [h1, su_congr (g := fun q => H.S k q * H.T j q m) fun q => by rw [ant_e hA, mul_ee hA]]
    grind
  rw [su_congr fun j => su_congr fun k => this j k, su_congr fun j => su_comm n n _, su_comm]
  refine su_congr fun m => ?_
  rw [su_congr fun j => (su_mul_r n _ _).symm, ← su_mul_r, hA.ant_r]
  grind
theorem eps_one : H.eps H.U = 1 := hA.counit_one
theorem ant_one : H.ant H.U = H.U := by
  funext m
  have h := D_ant_l hA (Lf.co m) H.U
  rw [D_one hA (B := fun a b => H.mul (H.ant a) b m) (fun b => Lm.co (H.mul_l H.ant_lm b) m) (fun a => Lm.co (H.mul_lm_r _) m), mul_one hA, eps_one hA] at h
  rw [h]; grind
/-- S turns products round -/
theorem ant_mul (x y : V p n) : H.ant (H.mul x y) = H.mul (H.ant y) (H.ant x) := by
  funext m
  have hf : Lf fun z : V p n => z m := Lf.co m
  generalize hg : (fun z : V p n => z m) = f at hf
  suffices h : f (H.ant (H.mul x y)) = f (H.mul (H.ant y) (H.ant x)) by rw [← hg] at h; exact h
  have q1 : H.D (fun x1 x' => H.D (fun x2 x3 => H.D (fun y1 y' => H.D (fun y2 y3 => f (H.mul (H.mul (H.ant (H.mul x1 y1)) (H.mul x2 y2)) (H.mul (H.ant y3) (H.ant x3)))) y') y) x') x = f (H.ant (H.mul x y)) := by
    rw [H.D_congr (B' := fun x1 x' => f (H.ant (H.mul x1 y)) * H.eps x') fun j k => ?_]
    · exact D_counit_r hA (f := fun x1 => f (H.ant (H.mul x1 y))) (hf.comp (H.ant_l (H.mul_lm_l y))) x
    generalize (e j : V p n) = x1
    generalize (e k : V p n) = x'
    rw [H.D_congr (B' := fun x2 x3 => f (H.mul (H.ant (H.mul x1 y)) (H.mul x2 (H.ant x3)))) fun j k => ?_]
    · rw [D_ant_r hA (f := fun z => f (H.mul (H.ant (H.mul x1 y)) z)) (hf.comp (H.mul_lm_r _)), mul_one hA]; grind
    generalize (e j : V p n) = x2
    generalize (e k : V p n) = x3
    rw [H.D_congr (B' := fun y1 y' => f (H.mul (H.ant (H.mul x1 y1)) (H.mul x2 (H.ant x3))) * H.eps y') fun j k => ?_]
    · exact D_counit_r hA (f := fun y1 => f (H.mul (H.ant (H.mul x1 y1)) (H.mul x2 (H.ant x3)))) (hf.comp (H.mul_l (H.ant_l (H.mul_lm_r x1)) _)) y
    generalize (e j : V p n) = y1
    generalize (e k : V p n) = y'
    rw [H.D_congr (B' := fun y2 y3 => f (H.mul (H.ant (H.mul x1 y1)) (H.mul (H.mul x2 (H.mul y2 (H.ant y3))) (H.ant x3)))) fun j k => by simp only [mul_assoc hA]]
    rw [D_ant_r hA (f := fun z => f (H.mul (H.ant (H.mul x1 y1)) (H.mul (H.mul x2 z) (H.ant x3)))) (hf.comp (H.mul_r (H.mul_l (H.mul_lm_r x2) _) _)), mul_one hA]; grind
  rw [← q1, D_coassoc hA (fun x1 x2 x3 => H.D (fun y1 y' => H.D (fun y2 y3 => f (H.mul (H.mul (H.ant (H.mul x1 y1)) (H.mul x2 y2)) (H.mul (H.ant y3) (H.ant x3)))) y') y) x |>.symm]
  rw [H.D_congr (B' := fun x' x3 => H.eps x' * f (H.mul (H.ant y) (H.ant x3))) fun j k => ?_]
  · exact D_counit_l hA (f := fun x3 => f (H.mul (H.ant y) (H.ant x3))) (hf.comp (H.mul_r H.ant_lm _)) x
  generalize (e j : V p n) = x'
  generalize (e k : V p n) = x3
  rw [H.D_congr (B' := fun x1 x2 => H.D (fun y' y3 => H.D (fun y1 y2 => f (H.mul (H.mul (H.ant (H.mul x1 y1)) (H.mul x2 y2)) (H.mul (H.ant y3) (H.ant x3)))) y') y) fun j k => (D_coassoc hA (fun y1 y2 y3 => f (H.mul (H.mul (H.ant (H.mul (e j) y1)) (H.mul (e k) y2)) (H.mul (H.ant y3) (H.ant x3)))) y).symm, H.D_swap]
  rw [H.D_congr (B' := fun y' y3 => H.eps y' * (H.eps x' * f (H.mul (H.ant y3) (H.ant x3)))) fun j k => ?_]
  · exact D_counit_l hA (f := fun y3 => H.eps x' * f (H.mul (H.ant y3) (H.ant x3))) ((hf.comp (H.mul_l H.ant_lm _)).mul _) y
  generalize (e j : V p n) = y'
  generalize (e k : V p n) = y3
  rw [← D_mul hA (B := fun c d => f (H.mul (H.mul (H.ant c) d) (H.mul (H.ant y3) (H.ant x3)))) (fun b => hf.comp (H.mul_l (H.mul_l H.ant_lm b) _)) (fun a => hf.comp (H.mul_l (H.mul_lm_r _) _)) x' y',
    D_ant_l hA (f := fun z => f (H.mul z (H.mul (H.ant y3) (H.ant x3)))) (hf.comp (H.mul_lm_l _)), one_mul hA, eps_mul hA]
  grind

/-! ### integrals -/
def lam (H : Hopf p n) (v : V p n) : V p n := fun m => su n fun i => H.D (fun a b => a m * H.mul (H.ant (H.ant b)) v i) (e i)
theorem lam_f {f : V p n → Fin p} (hf : Lf f) (v : V p n) : f (lam H v) = su n fun i => H.D (fun a b => f a * H.mul (H.ant (H.ant b)) v i) (e i) := by
  rw [hf (lam H v)]
  show (su n fun m => (su n fun i => H.D (fun a b => a m * H.mul (H.ant (H.ant b)) v i) (e i)) * f (e m)) = _
  rw [su_congr fun m => su_mul_r n _ _, su_comm]
  refine su_congr fun i => ?_
  rw [H.D_congr (B' := fun a b => su n fun m => f (e m) * (a m * H.mul (H.ant (H.ant b)) v i)) fun j k => ?_, H.D_su]
  · exact su_congr fun m => by rw [H.D_mul_c]; grind
  · rw [hf (e j), su_mul_r]
    exact su_congr fun m => by grind
theorem lam_step {f h : V p n → Fin p} (hf : Lf f) (hh : Lf h) (x y v : V p n) : H.D (fun a b => f (H.mul x a) * h (H.mul (H.ant (H.ant b)) v)) y = H.D (fun x1 x2 => H.D (fun c d => f c * h (H.mul (H.ant x2) (H.mul (H.ant (H.ant d)) v))) (H.mul x1 y)) x := by
  refine Eq.symm ?_
  rw [H.D_congr (B' := fun x' x3 => H.D (fun x1 x2 => H.D (fun y1 y2 => f (H.mul x1 y1) * h (H.mul (H.ant x3) (H.mul (H.ant (H.ant (H.mul x2 y2))) v))) y) x') fun j k => ?_]
  · rw [D_coassoc hA (fun x1 x2 x3 => H.D (fun y1 y2 => f (H.mul x1 y1) * h (H.mul (H.ant x3) (H.mul (H.ant (H.ant (H.mul x2 y2))) v))) y) x]
    rw [H.D_congr (B' := fun x1 z => H.D (fun y1 y2 => f (H.mul x1 y1) * h (H.mul (H.ant (H.ant y2)) v)) y * H.eps z) fun j k => ?_]
    · exact (D_counit_r hA (f := fun x1 => H.D (fun y1 y2 => f (H.mul x1 y1) * h (H.mul (H.ant (H.ant y2)) v)) y) (H.D_lin (fun a b => (hf.comp (H.mul_lm_l a)).mul_r _) y) x)
    generalize (e j : V p n) = x1
    generalize (e k : V p n) = z
    rw [H.D_swap, H.D_congr (B' := fun y1 y2 => H.eps z * (f (H.mul x1 y1) * h (H.mul (H.ant (H.ant y2)) v))) fun j k => ?_, H.D_mul_c]
    · grind
    generalize (e j : V p n) = y1
    generalize (e k : V p n) = y2
    rw [H.D_mul_c, H.D_congr (B' := fun x2 x3 => h (H.mul (H.ant (H.mul (H.ant x2) x3)) (H.mul (H.ant (H.ant y2)) v))) fun j k => by simp only [ant_mul hA, mul_assoc hA],
      D_ant_l hA (f := fun z => h (H.mul (H.ant z) (H.mul (H.ant (H.ant y2)) v))) (hh.comp (H.mul_l H.ant_lm _)), ant_one hA, one_mul hA]
    grind
  · exact D_mul hA (B := fun c d => f c * h (H.mul (H.ant (e k)) (H.mul (H.ant (H.ant d)) v))) (fun b => hf.mul_r _) (fun a => (hh.comp (H.mul_r (H.mul_l (H.ant_l H.ant_lm) v) _)).mul _) (e j) y
theorem lam_int (x v : V p n) (m : Fin n) : H.mul x (lam H v) m = H.eps x * lam H v m := by
  have hf : Lf fun z : V p n => z m := Lf.co m
  have hr : lam H v m = su n fun i => H.D (fun a b => a m * H.mul (H.ant (H.ant b)) v i) (e i) := rfl
  rw [hr]
  generalize hg : (fun z : V p n => z m) = f at hf
  have hfm : ∀ z : V p n, z m = f z := fun z => by rw [← hg]
  have e1 := lam_f hA (f := fun z => H.mul x z m) (Lm.co (H.mul_lm_r x) m) v
  rw [e1]
  simp only [hfm]
  have psi : Lm fun w : V p n => (fun q => H.D (fun c d => f c * H.mul (H.ant (H.ant d)) v q) w : V p n) := Lm.of fun q => H.D_lf _
  rw [su_congr (g := fun i => H.D (fun x1 x2 => H.mul (H.ant x2) (fun q => H.D (fun c d => f c * H.mul (H.ant (H.ant d)) v q) (H.mul x1 (e i))) i) x) fun i => ?_]
  · rw [← H.D_su]
    rw [H.D_congr (B' := fun x1 x2 => su n fun i => H.D (fun c d => f c * H.mul (H.ant (H.ant d)) v i) (H.mul (H.mul x1 (H.ant x2)) (e i))) fun j k => ?_]
    · rw [D_ant_r hA (f := fun z => su n fun i => H.D (fun c d => f c * H.mul (H.ant (H.ant d)) v i) (H.mul z (e i))) (Lf.su fun i => (H.D_lf _).comp (H.mul_lm_l _)), su_congr (g := fun i => H.D (fun c d => f c * H.mul (H.ant (H.ant d)) v i) (e i)) fun i => by rw [one_mul hA]]
    · have := trace_comm (M := fun z => H.mul (H.ant (e k)) z) (N := fun z => (fun q => H.D (fun c d => f c * H.mul (H.ant (H.ant d)) v q) (H.mul (e j) z) : V p n)) (H.mul_lm_r _) (Lm.of fun q => (H.D_lf _).comp (H.mul_lm_r _))
      rw [this]
      exact su_congr fun i => by rw [mul_assoc hA]
  · rw [lam_step hA hf (Lf.co i) x (e i) v]
    refine H.D_congr (fun j k => ?_) x
    generalize H.mul (e j) (e i) = w
    have := Lm.co (H.mul_lm_r (H.ant (e k))) i (fun q => H.D (fun c d => f c * H.mul (H.ant (H.ant d)) v q) w)
    dsimp only at this
    rw [this, H.D_congr (B' := fun c d => su n fun q => H.mul (H.ant (e k)) (e q) i * (f c * H.mul (H.ant (H.ant d)) v q)) fun j' k' => ?_, H.D_su]
    · exact su_congr fun q => by rw [H.D_mul_c]; grind
    · have h2 := Lm.co (H.mul_lm_r (H.ant (e k))) i (H.mul (H.ant (H.ant (e k'))) v)
      dsimp only at h2
      rw [h2, su_mul]
      exact su_congr fun q => by grind
theorem recover {f : V p n → Fin p} (hf : Lf f) (v : V p n) : (su n fun k => H.D (fun a b => f a * b k) (lam H (H.mul (H.ant (e k)) v))) = f v := by
  rw [su_congr fun k => lam_f hA (H.D_lf (fun a b => f a * b k)) (H.mul (H.ant (e k)) v), su_comm, hf v]
  refine su_congr fun i => ?_
  rw [← H.D_su, H.D_congr (B' := fun a b => H.D (fun a1 a2 => f a1 * H.mul (H.ant (H.ant b)) (H.mul (H.ant a2) v) i) a) fun j k => ?_]
  · rw [D_coassoc hA (fun a1 a2 b => f a1 * H.mul (H.ant (H.ant b)) (H.mul (H.ant a2) v) i), H.D_congr (B' := fun a1 z => v i * f a1 * H.eps z) fun j k => ?_]
    · exact D_counit_r hA (f := fun a => v i * f a) (hf.mul _) (e i)
    · rw [H.D_mul_c, H.D_congr (B' := fun a2 b => H.mul (H.ant (H.mul a2 (H.ant b))) v i) fun j' k' => by simp only [ant_mul hA, mul_assoc hA],
        D_ant_r hA (f := fun z => H.mul (H.ant z) v i) (Lm.co (H.mul_l H.ant_lm v) i), ant_one hA, one_mul hA]
      grind
  · rw [H.D_congr (B' := fun a1 a2 => su n fun q => H.mul (H.ant (H.ant (e k))) (H.mul (H.ant (e q)) v) i * (f a1 * a2 q)) fun j' k' => ?_, H.D_su]
    · exact su_congr fun q => by rw [H.D_mul_c]; grind
    · have h2 := Lm.co (H.mul_r (H.mul_l H.ant_lm v) (H.ant (H.ant (e k)))) i (e k')
      dsimp only at h2
      rw [h2, su_mul]
      exact su_congr fun q => by grind
/-- there is a left integral other than 0 -/
theorem exists_int (h1 : (1 : Fin p) ≠ 0) : ∃ t : V p n, (∃ m, t m ≠ 0) ∧ ∀ x m, H.mul x t m = H.eps x * t m := by
  refine Classical.byContradiction fun hno => h1 ?_
  have hz : ∀ w, lam H w = fun _ => 0 := fun w => funext fun m => Classical.byContradiction fun hne => hno ⟨lam H w, ⟨m, hne⟩, fun x q => lam_int hA x w q⟩
  have := recover hA H.eps_lf H.U
  rw [eps_one hA] at this
  rw [← this, su_congr (g := fun _ => 0) fun k => ?_, su_zero]
  rw [hz, H.D_lf _ (fun _ => 0), su_congr (g := fun _ => 0) fun i => by grind, su_zero]
end Ax
end
/-- products and coproducts turned round -/
def Hopf.opcop (H : Hopf p n) : Hopf p n := ⟨fun i j m => H.T j i m, H.U, fun i j k => H.C i k j, H.Z, H.S⟩
theorem Ax.opcop {H : Hopf p n} (h : Ax H) : Ax H.opcop where
  assoc i j k m := by
    have := h.assoc k j i m
    show (su n fun q => H.T j i q * H.T k q m) = su n fun q => H.T k j q * H.T q i m
    exact this.symm
  unit_l i m := h.unit_r i m
  unit_r i m := h.unit_l i m
  coassoc i j k l := by
    have := h.coassoc i l k j
    show (su n fun q => H.C i l q * H.C q k j) = su n fun q => H.C i q j * H.C q l k
    exact this.symm
  counit_l i k := h.counit_r i k
  counit_r i j := h.counit_l i j
  comul i j a b := by
    show (su n fun q => H.T j i q * H.C q b a) = su n fun c => su n fun d => H.C i d c * su n fun f => su n fun g => H.C j g f * (H.T f c a * H.T g d b)
    rw [h.comul j i b a]
    have hl : ∀ X : Fin n → Fin n → Fin n → Fin n → Fin p, (su n fun c => su n fun d => H.C i d c * su n fun f => su n fun g => H.C j g f * X c d f g) = su n fun c => su n fun d => su n fun f => su n fun g => H.C i d c * (H.C j g f * X c d f g) := fun X =>
      su_congr fun c => su_congr fun d => by rw [su_mul]; exact su_congr fun f => by rw [su_mul]
    rw [hl fun c d f g => H.T f c a * H.T g d b]
    have hr : (su n fun c => su n fun d => H.C j c d * su n fun f => su n fun g => H.C i f g * (H.T c f b * H.T d g a)) = su n fun c => su n fun d => su n fun f => su n fun g => H.C j c d * (H.C i f g * (H.T c f b * H.T d g a)) :=
      su_congr fun c => su_congr fun d => by rw [su_mul]; exact su_congr fun f => by rw [su_mul]
    rw [hr, Ax.su_comm22 h]
    -- f, g, c, d on the one side; c, d, f, g on the other one
    rw [su_comm]
    refine su_congr fun g => su_congr fun f => ?_
    rw [su_comm]
    exact su_congr fun d => su_congr fun c => by grind
  counit_one := h.counit_one
  coone a b := by
    have := h.coone b a
    show (su n fun q => H.U q * H.C q b a) = H.U a * H.U b
    rw [this]; grind
  coeps i j := by
    have := h.coeps j i
    show (su n fun q => H.T j i q * H.Z q) = H.Z i * H.Z j
    rw [this]; grind
  ant_l i m := by
    show (su n fun j => su n fun k => H.C i k j * su n fun q => H.S j q * H.T k q m) = H.Z i * H.U m
    rw [su_comm]; exact h.ant_r i m
  ant_r i m := by
    show (su n fun j => su n fun k => H.C i k j * su n fun q => H.S k q * H.T q j m) = H.Z i * H.U m
    rw [su_comm]; exact h.ant_l i m
end Go.Proofs.YtjanlnngeklhoabGreat.LS

/- Every Hopf algebra in tables has a left integral other than 0, and a right one. -/
set_option linter.unusedVariables false
set_option linter.unusedSimpArgs false
set_option linter.unusedSectionVars false
set_option maxRecDepth 100000
set_option maxHeartbeats 1000000
namespace Go.Proofs.YtjanlnngeklhoabGreat
open M

section
variable {p : Nat} [NeZero p]
/-- a number modulo p -/
def ph (p : Nat) [NeZero p] (a : Int) : Fin p := Fin.ofNat p (a % p).toNat
def toH (p n : Nat) [NeZero p] (U T Z C S : Nat → Int) : LS.Hopf p n := ⟨fun i j m => ph p (vecT T i j m), fun i => ph p (U i), fun i j k => ph p (vecT C i j k), fun i => ph p (Z i), fun i m => ph p (S (m + i * 8))⟩

/-- in numbers again -/
def backV {n : Nat} (t : Fin n → Fin p) : Nat → Int := fun j => if h : j < n then ((t ⟨j, h⟩).val : Int) else 0
end
end Go.Proofs.YtjanlnngeklhoabGreat

/- Spaces of integrals: what they are, and the model's lists of them. -/
set_option linter.unusedVariables false
set_option linter.unusedSimpArgs false
set_option maxRecDepth 100000
set_option maxHeartbeats 4000000
namespace Go.Proofs.YtjanlnngeklhoabGreat
open M

theorem sumN_modp (p : Int) (x y : Nat → Int) : ∀ k : Nat, sumN k (fun i => x i * (y i % p)) % p = sumN k (fun i => x i * y i) % p
  | 0 => rfl
  | k + 1 => by
    show (sumN k (fun i => x i * (y i % p)) + x k * (y k % p)) % p = (sumN k (fun i => x i * y i) + x k * y k) % p
    rw [mod_in, ← mod_l, sumN_modp p x y k, mod_l]
/-- e(i) x less Z[i] x, at m, before the remainder -/
def fltS (p : Int) (T Z x : Nat → Int) (i m : Nat) : Int := sumN 8 (fun k => x k * vecT T i k m) + (p - Z i) * x m
theorem faultF_at (p : Int) (T Z x : Nat → Int) (q : Nat) : faultF p T Z x q = fltS p T Z x (q / 8) (q % 8) % p := by
  unfold faultF etF fltS; rw [mod_l]
theorem flt_unit (p : Int) (T Z : Nat → Int) {k m : Nat} (i : Nat) (hk : k < 8) : fltS p T Z (unitV k) i m = vecT T i k m + (p - Z i) * unitV k m := by
  unfold fltS
  rw [sumN_pick _ 8 hk, sumN_none 8 fun j hj => by
    by_cases e : j = k
    · rw [if_pos e]
    · rw [if_neg e]; unfold unitV; rw [if_neg e, Int.zero_mul]]
  unfold unitV; rw [if_pos rfl]; omega
theorem flt_sum (p : Int) (T Z x : Nat → Int) {m : Nat} (i : Nat) (hm : m < 8) : sumN 8 (fun k => x k * (vecT T i k m + (p - Z i) * unitV k m)) = fltS p T Z x i m := by
  unfold fltS
  have e : ∀ k, x k * (vecT T i k m + (p - Z i) * unitV k m) = x k * vecT T i k m + (p - Z i) * (if k = m then x m else 0) := fun k => by
    unfold unitV
    by_cases h : k = m
    · subst h; simp only [if_true]; grind
    · rw [if_neg (fun h' => h h'.symm), if_neg h]; grind
  have e2 : sumN 8 (fun k => if k = m then x m else 0) = x m := by
    rw [sumN_pick _ 8 hm, sumN_none 8 fun j hj => by
      by_cases h : j = m
      · rw [if_pos h]
      · rw [if_neg h, if_neg h]]
    simp
  rw [sumN_congr 8 fun k _ => e k, sumN_add, ← sumN_mul, e2]

def IntS (p n : Nat) (T Z x : Nat → Int) : Prop := VecP p n x ∧ ∀ q, q < 64 → faultF p T Z x q = 0
theorem int_ker {p n : Nat} {T Z : Nat → Int} (v : Nat → Int) : KerG p n 64 (fun k q => faultF p T Z (unitV k) q) v ↔ IntS p n T Z v := by
  refine and_congr_right fun hv => forall_congr' fun q => forall_congr' fun hq => ?_
  have : apW p (fun k q => faultF p T Z (unitV k) q) v q = faultF p T Z v q := by
    have e : sumN 8 (fun k => v k * faultF p T Z (unitV k) q) = sumN 8 (fun k => v k * ((vecT T (q / 8) k (q % 8) + (p - Z (q / 8)) * unitV k (q % 8)) % p)) := sumN_congr 8 fun k hk => by rw [faultF_at, flt_unit p T Z _ hk]
    show sumN 8 (fun k => v k * faultF p T Z (unitV k) q) % p = _
    rw [e, sumN_modp, flt_sum p T Z v _ (by omega), faultF_at]
  rw [this]
theorem int_space {p n : Nat} {T Z : Nat → Int} (hp : 1 < p) : Space p 8 (IntS p n T Z) := by
  have h := kerG_space (p := (p : Int)) (n := n) (w := 64) (g := fun k q => faultF p T Z (unitV k) q) (by omega)
  exact ⟨fun v hv => h.range v ((int_ker v).2 hv), fun v u hv e => (int_ker u).1 (h.ext v u ((int_ker v).2 hv) e), fun v hv => (int_ker v).1 (h.zero v hv), fun v u h1 h2 c => (int_ker _).1 (h.addc v u ((int_ker v).2 h1) ((int_ker u).2 h2) c)⟩
/-- the model's maps, one for each basis element -/
def intF (p : Int) (n : Nat) (T Z : Nat → Int) (i : Nat) : Nat → Int := fun q => if q / 8 < n then addM p (vecT T i (q / 8)) (-(Z i)) (unitV (q / 8)) (q % 8) else 0
def IntI (p n : Nat) (T Z : Nat → Int) (i : Nat) (x : Nat → Int) : Prop := VecP p n x ∧ ∀ l, l < i → ∀ j, j < 8 → apF p (intF p n T Z l) x j = 0
/-- the algebra, turned round or not -/
def sideT (right : Bool) (T : Nat → Int) : Nat → Int := if right = true then flipF T else T
end Go.Proofs.YtjanlnngeklhoabGreat

/- Left and right integrals, as the program finds them. -/
set_option linter.unusedVariables false
set_option linter.unusedSimpArgs false
set_option maxRecDepth 100000
set_option maxHeartbeats 4000000
namespace Go.Proofs.YtjanlnngeklhoabGreat
open M

/-! ### steps -/
section
variable {P : Program} {T : Tab} {N : Nat} {ops : Array Oper} {o : Oper} {r : List Oper} {s : Slots} {m : Mem} {K : Slots → Mem → Prop} {Kr : Slots → Prop} {Kv : SV → Prop} {t id off n c fd base tot ofs p i g : Nat} {path : List Nat} {a x : Operand} {v z blk : SV} {offs : List Nat} {cl : Call} {args : List SV} {ri : List Nat} {oo : Option Oper}
theorem restVC_dir (hi : ops[i]? = oo) (h0 : oo = some o) (ho : o.op = .call cl) (hc : cl.callee = .value x) (hx : ev s x = some (.fn g)) (ha : evs s cl.args.toList = some args) (hd : T.direct g = true)
    (hk : Spec P g args m fun r' m' => liveP m m' ∧ preM m m' ∧ restVC P T N none ops p ri (sset N s o.dst r') m' K) : restVC P T N none ops p (i :: ri) s m K := by
  unfold restVC
  rw [hi, h0]
  refine .inl ⟨by rw [ho]; simp [ndOp, hc], ?_⟩
  simp only [oneVC, ho, hc, hx, ha, hd]
  exact hk
end

theorem relations_s (m : Mem) (n p sid c d : Nat) (A : Nat → Int) (hb : blockOf m sid = some (.ints .u8 (n * 64) A, d)) (hm : Clo m) (hn : 1 ≤ n ∧ n ≤ 8) (hp : primeB (p : Int) = true) (hp2 : 2 ≤ p ∧ p ≤ 31) (hr : ∀ q, q < n * 64 → 0 ≤ A q ∧ A q < p) :
    Spec Tryz.prog 24 [spV p (.sl sid 0 n c)] m
      (fun r m' => ∃ id k c' A', r = listV id k c' ∧ RedL p (KerG p n 64 fun k q => A (k * 64 + q)) k A' ∧ (k ≠ 0 → blockOf m' id = some (.ints .u8 (k * 8) A', c' * 8) ∧ k ≤ c') ∧ m.length ≤ m'.length ∧ ∀ q, q < m.length → blockOf m' q = blockOf m q) := by
  have hlt : sid < m.length := blockOf_lt (by rw [hb]; rfl)
  refine Spec.of_vc (tabOK.dir fun g => Nat.beq g 42 || Nat.beq g 41) (tabEq.dir _) Tryz.func24 rfl (by kernel_rfl) rfl (by simp [idsOf, spV, SV.ids, Nat.blt_eq, hlt]) ?_
  (repeat (first | (with_reducible refine vc_exit ?_) | (with_reducible refine vc_ret ?_) | (with_reducible refine vc_skip ?_) | (with_reducible refine thenQ_x ?_) | (with_reducible refine thenQ_r ?_) | (with_reducible refine thenQ_n ?_) | (with_reducible refine blockQ_x rfl ?_) | (with_reducible refine blockQ_y rfl ?_) | (with_reducible refine blockQ_n ?_) | (with_reducible refine blockQ_r ?_) | (with_reducible refine vc_seq ?_) | (with_reducible refine vc_region ?_) | (with_reducible refine vc_block ?_) | (with_reducible refine vc_scope ?_) | (with_reducible refine opsVC_nil ?_)))
  refine opsVC_boxP rfl rfl rfl rfl fun M1 p1 => ?_
  refine opsVC_as rfl rfl rfl ?_
  (repeat (first | (with_reducible refine vc_exit ?_) | (with_reducible refine vc_ret ?_) | (with_reducible refine vc_skip ?_) | (with_reducible refine thenQ_x ?_) | (with_reducible refine thenQ_r ?_) | (with_reducible refine thenQ_n ?_) | (with_reducible refine blockQ_x rfl ?_) | (with_reducible refine blockQ_y rfl ?_) | (with_reducible refine blockQ_n ?_) | (with_reducible refine blockQ_r ?_) | (with_reducible refine vc_seq ?_) | (with_reducible refine vc_region ?_) | (with_reducible refine vc_block ?_) | (with_reducible refine vc_scope ?_) | (with_reducible refine opsVC_nil ?_)))
  have l1 := p1.len
  have c1 := p1.clo hm (fun i hi => by have hi : i ∈ (spV p (.sl sid 0 n c)).ids := hi; simp [spV, SV.ids] at hi; omega)
  have hb1 : blockOf M1 sid = some (.ints .u8 (n * 64) A, d) := (p1.old sid hlt (by omega)).trans hb
  refine vc_gen (q := 0) 4 [0, 1, 2] [3] (by kernel_rfl) (by kernel_rfl) (by kernel_rfl) ?_
  refine readsAt_step rfl (by rfl) ?_
  refine readVC_fa rfl rfl rfl ?_
  refine readsAt_step rfl (by rfl) ?_
  refine readVC_loadF (v := .int .i64 p) rfl p1.new rfl rfl (fun _ h => h) ?_
  refine readsAt_step rfl (by rfl) ?_
  refine readVC_loadF (v := spV p (.sl sid 0 n c)) rfl p1.new rfl rfl (fun _ h => h) ?_
  refine readsAt_nil ?_
  refine restVC_dir (i := 3) rfl (by rfl) rfl rfl rfl rfl rfl ?_
  refine Spec.mono (spaceRows_s M1 n p sid c d A hb1 c1 hn.2) ?_
  rintro r m' ⟨⟨i, H, ρ, cp, F, M⟩, hx, hi, rfl, rfl⟩
  dsimp only at hi
  subst hi
  obtain ⟨hi, hsp, hhdr, hsl, hnil, hrow, hval, hO, hL, hC⟩ := hx
  dsimp only at hi hsp hhdr hsl hnil hrow hval hO hL hC
  refine ⟨fun q hq h => by rw [hO q hq] at h; exact h, preM_of _ _ (by omega) hO, ?_⟩
  refine restVC_nil ?_
  refine opsVC_dir rfl rfl rfl rfl rfl rfl ?_
  refine Spec.mono (kernelOf_s m' (M1.length + 1) i i i i 64 p H ρ (fun _ => 0) cp (fun _ => 64) (fun l => cp l * 1) F hhdr (Nat.le_refl _) hsl (fun l hl => (hrow l hl).2.1) (fun l hl => by omega) hC hn (by omega) hp hp2 (fun l hl q hq => by rw [hval l hl _ (by omega)]; exact hr _ (by omega))) ?_
  rintro r m'' ⟨id, k, c', A', hrv, hR, hbk, hl, hold⟩
  refine ⟨fun q hq h => by rw [hold q hq] at h; exact h, ?_⟩
  refine opsVC_as rfl rfl rfl ?_
  (repeat (first | (with_reducible refine vc_exit ?_) | (with_reducible refine vc_ret ?_) | (with_reducible refine vc_skip ?_) | (with_reducible refine thenQ_x ?_) | (with_reducible refine thenQ_r ?_) | (with_reducible refine thenQ_n ?_) | (with_reducible refine blockQ_x rfl ?_) | (with_reducible refine blockQ_y rfl ?_) | (with_reducible refine blockQ_n ?_) | (with_reducible refine blockQ_r ?_) | (with_reducible refine vc_seq ?_) | (with_reducible refine vc_region ?_) | (with_reducible refine vc_block ?_) | (with_reducible refine vc_scope ?_) | (with_reducible refine opsVC_nil ?_)))
  refine ⟨id, k, c', A', hrv, hR.of_iff fun v => and_congr_right fun hv => forall_congr' fun q => forall_congr' fun hq => ?_, fun hk => (hbk hk).2, by omega, fun q hq => ?_⟩
  · have : apW p (fun l q => F l (q + 0)) v q = apW p (fun k q => A (k * 64 + q)) v q := by
      unfold apW
      refine congrArg (· % (p : Int)) (sumN_congr 8 fun l hl => ?_)
      by_cases e : l < i
      · show v l * F l q = _; rw [hval l e q hq]
      · rw [hv.out l (by omega) hl, Int.zero_mul, Int.zero_mul]
    rw [this]
  · rw [hold q (by omega), hO q (by omega), p1.old q hq (by omega)]

/-! ### the integral -/
def IntV (p n : Nat) (T Z t : Nat → Int) : Prop := ∃ k A, 0 < k ∧ RedL p (IntS p n T Z) k A ∧ ∀ j, j < 8 → t j = A j
noncomputable def intV (p n : Nat) (T Z : Nat → Int) : Nat → Int := Classical.epsilon (IntV p n T Z)
/-- a Hopf algebra's two sides have integrals -/
def HasInt (p n : Nat) (T Z : Nat → Int) : Prop := ∃ t, VecP p n t ∧ (∃ j, j < 8 ∧ t j ≠ 0) ∧ lintB p T Z t = true

abbrev imem (p n : Nat) (U T Z : Nat → Int) (v : SV) (R : Mem) : Mem := some (algV p n U T, 522) :: some (.ints .u8 8 Z, 8) :: some (.ints .u8 8 fun _ => 0, 8) :: some (spV p v, 3) :: R
theorem listV_leaf (id k c : Nat) : (listV id k c).leaf = true := by unfold listV; split <;> rfl
structure LI (p n : Nat) (U T Z : Nat → Int) (x : Nat × SV × (Nat → Int) × Nat × Nat × Mem) : Prop where
  i : x.1 ≤ n
  v : x.2.1 = listV (x.2.2.2.1 + 4) x.1 x.2.2.2.2.1
  val : ∀ k, k < x.1 → ∀ q, q < 64 → x.2.2.1 (k * 64 + q) = faultF p T Z (unitV k) q
  b : x.1 ≠ 0 → blockOf x.2.2.2.2.2 x.2.2.2.1 = some (.ints .u8 (x.1 * 64) x.2.2.1, x.2.2.2.2.1 * 64) ∧ x.1 ≤ x.2.2.2.2.1
  clo : Clo (imem p n U T Z x.2.1 x.2.2.2.2.2)
end Go.Proofs.YtjanlnngeklhoabGreat

/- An argument that is a Hopf table: its numbers. -/
set_option linter.unusedVariables false
set_option linter.unusedSimpArgs false
namespace Go.Proofs.YtjanlnngeklhoabGreat
variable {P : Program} {H : Type} {enc : TypeId × Value → H}

theorem open_hopG {w : World} {r : Reach} {b0 b : Nat} {sp : Nat → Bool} {hd : Bool} {t : TypeId} {f0 f1 f2 f3 f4 f5 f6 : Field} {d2 d3 d4 d5 d6 : Nat} (hs : P.underlying t = some (.struct #[f0, f1, f2, f3, f4, f5, f6])) (hsz : (P.info? t).map (·.size) = some 1106)
    (h0 : P.underlying f0.type = some (.int .i64)) (z0 : (P.info? f0.type).map (·.size) = some 1) (o0 : f0.offset = 0) (h1 : P.underlying f1.type = some (.int .i64)) (z1 : (P.info? f1.type).map (·.size) = some 1) (o1 : f1.offset = 1)
    (h2 : RowT P f2.type .u8 8 d2) (z2 : (P.info? f2.type).map (·.size) = some 8) (o2 : f2.offset = 2) (h3 : RowT P f3.type .u8 512 d3) (z3 : (P.info? f3.type).map (·.size) = some 512) (o3 : f3.offset = 10)
    (h4 : RowT P f4.type .u8 8 d4) (z4 : (P.info? f4.type).map (·.size) = some 8) (o4 : f4.offset = 522) (h5 : RowT P f5.type .u8 512 d5) (z5 : (P.info? f5.type).map (·.size) = some 512) (o5 : f5.offset = 530)
    (h6 : RowT P f6.type .u8 64 d6) (z6 : (P.info? f6.type).map (·.size) = some 64) (o6 : f6.offset = 1042)
    {v : Value} {x : DataW H} {ps : List MemPlace} (hval : Value.okWide P w r b0 t v) (ht : DataW.Trod enc P w b sp hd t v x ps) :
    ∃ (p n : Int) (U T Z C S : Nat → Int), (∀ μ, v = toVal μ (hopV p n U T Z C S)) ∧ isU8 8 U ∧ isU8 512 T ∧ isU8 8 Z ∧ isU8 512 C ∧ isU8 64 S ∧ ps = [] := by
  unfold Value.okWide at hval
  rw [hs] at hval
  obtain ⟨cs, rfl, _⟩ := hval
  obtain ⟨fuel, hf⟩ := ht
  obtain ⟨xs, n, _, hx, hl, hlen, hfs⟩ := DataW.trod_struct hs hf
  have hl' : cs.toList.length = 1106 := by rw [cellsOf_of hsz] at hl; exact hl
  match xs, hlen with
  | [y0, y1, y2, y3, y4, y5, y6], _ =>
    have g0 := hfs 0 f0 rfl
    have g1 := hfs 1 f1 rfl
    have g2 := hfs 2 f2 rfl
    have g3 := hfs 3 f3 rfl
    have g4 := hfs 4 f4 rfl
    have g5 := hfs 5 f5 rfl
    have g6 := hfs 6 f6 rfl
    rw [cellsOf_of z0, o0] at g0
    rw [cellsOf_of z1, o1] at g1
    rw [cellsOf_of z2, o2] at g2
    rw [cellsOf_of z3, o3] at g3
    rw [cellsOf_of z4, o4] at g4
    rw [cellsOf_of z5, o5] at g5
    rw [cellsOf_of z6, o6] at g6
    obtain ⟨p, e0, w0, q0⟩ := trod_int_cell h0 g0
    obtain ⟨m, e1, w1, q1⟩ := trod_int_cell h1 g1
    obtain ⟨l2, c2, q2⟩ := open_row h2 _ _ _ z2 g2
    obtain ⟨l3, c3, q3⟩ := open_row h3 _ _ _ z3 g3
    obtain ⟨l4, c4, q4⟩ := open_row h4 _ _ _ z4 g4
    obtain ⟨l5, c5, q5⟩ := open_row h5 _ _ _ z5 g5
    obtain ⟨l6, c6, q6⟩ := open_row h6 _ _ _ z6 g6
    obtain ⟨e2, w2⟩ := row_cells (μ := fun _ => 0) l2 c2
    obtain ⟨e3, w3⟩ := row_cells (μ := fun _ => 0) l3 c3
    obtain ⟨e4, w4⟩ := row_cells (μ := fun _ => 0) l4 c4
    obtain ⟨e5, w5⟩ := row_cells (μ := fun _ => 0) l5 c5
    obtain ⟨e6, w6⟩ := row_cells (μ := fun _ => 0) l6 c6
    refine ⟨p, m, _, _, _, _, _, fun μ => ?_, fun j hj => u8_bounds (w2 j hj), fun j hj => u8_bounds (w3 j hj), fun j hj => u8_bounds (w4 j hj), fun j hj => u8_bounds (w5 j hj), fun j hj => u8_bounds (w6 j hj), ?_⟩
    · have hcs : cs.toList = (cs.toList.drop 0).take 1 ++ ((cs.toList.drop 1).take 1 ++ ((cs.toList.drop 2).take 8 ++ ((cs.toList.drop 10).take 512 ++ ((cs.toList.drop 522).take 8 ++ ((cs.toList.drop 530).take 512 ++ (cs.toList.drop 1042).take 64))))) := by
        have a6 : (cs.toList.drop 1042).take 64 = cs.toList.drop 1042 := List.take_of_length_le (by simp [hl'])
        rw [a6]
        have s1 := List.take_append_drop 1 cs.toList
        have s2 := List.take_append_drop 1 (cs.toList.drop 1)
        have s3 := List.take_append_drop 8 (cs.toList.drop 2)
        have s4 := List.take_append_drop 512 (cs.toList.drop 10)
        have s5 := List.take_append_drop 8 (cs.toList.drop 522)
        have s6 := List.take_append_drop 512 (cs.toList.drop 530)
        rw [List.drop_drop] at s2 s3 s4 s5 s6
        conv => lhs; rw [← s1, ← s2, ← s3, ← s4, ← s5, ← s6]
        rfl
      show Value.agg cs = Value.agg _
      congr 1
      apply Array.ext'
      have e0' : (cs.toList.drop 0).take 1 = [.int .i64 p] := e0
      have e1' : (cs.toList.drop 1).take 1 = [.int .i64 m] := e1
      have e2' : (cs.toList.drop 2).take 8 = _ := e2
      have e3' : (cs.toList.drop 10).take 512 = _ := e3
      have e4' : (cs.toList.drop 522).take 8 = _ := e4
      have e5' : (cs.toList.drop 530).take 512 = _ := e5
      have e6' : (cs.toList.drop 1042).take 64 = _ := e6
      rw [hcs, e0', e1', e2', e3', e4', e5', e6']
      simp [hopV, flat, scal]
    · have : ps = [y0, y1, y2, y3, y4, y5, y6].flatMap (·.2) := congrArg Prod.snd hx
      rw [this]
      simp [q0, q1, q2, q3, q4, q5, q6]
end Go.Proofs.YtjanlnngeklhoabGreat

/- Modules of a Hopf algebra: their form, what vectors make of vectors, and what is asked of modules. -/
set_option linter.unusedVariables false
set_option linter.unusedSimpArgs false
set_option maxRecDepth 100000
set_option maxHeartbeats 1000000
namespace Go.Proofs.YtjanlnngeklhoabGreat
open M

/-- a module as plain data -/
def modV (d : Int) (A : Nat → Int) : SV := .pair (.int .i64 d) (.pair (.ints .u8 512 A) .unit)
theorem modR (d : Int) (A : Nat → Int) : SV.eqv (modV d A) (modV d A) := And.intro rfl (And.intro (rowEq fun _ _ => rfl) rfl)
theorem modE (d : Int) {A B : Nat → Int} (h : ∀ q, q < 512 → A q = B q) : SV.eqv (modV d A) (modV d B) := And.intro rfl (And.intro (rowEq h) rfl)

/-- what is asked of a module's maps: their form -/
structure ModP (p : Int) (n d : Nat) (A : Nat → Int) : Prop where
  d1 : 1 ≤ d
  d8 : d ≤ 8
  lt : ∀ i j m, i < 8 → j < 8 → m < 8 → 0 ≤ vecT A i j m ∧ vecT A i j m < p
  zero : ∀ i j m, i < 8 → j < 8 → m < 8 → (n ≤ i ∨ d ≤ j ∨ d ≤ m) → vecT A i j m = 0

theorem mod_of {p : Int} {n d : Nat} {A : Nat → Int} (hA : isU8 512 A) (hf : fieldB p d = true) (h : tabCB p n d A = true) : ModP p n d A := by
  obtain ⟨hp, hn1, hn8⟩ := field_bounds hf
  have row : ∀ i, i < 8 → linB p d d (partF A 64 i) = true ∧ (n ≤ i → ∀ q, q < 64 → A (q + i * 64) = 0) := fun i hi => by
    have := List.all_eq_true.1 h i (List.mem_range.2 hi)
    simp only [rowCB, Bool.and_eq_true, Bool.or_eq_true, decide_eq_true_eq] at this
    refine ⟨this.1, fun hni q hq => ?_⟩
    rcases this.2 with h | h
    · omega
    · exact allEq_get h hq
  have image : ∀ i j, i < 8 → j < 8 → entriesB p d (partF (partF A 64 i) 8 j) = true ∧ (d ≤ j → ∀ q, q < 8 → A (q + j * 8 + i * 64) = 0) := fun i j hi hj => by
    have := List.all_eq_true.1 (row i hi).1 j (List.mem_range.2 hj)
    simp only [imageB, Bool.and_eq_true, Bool.or_eq_true, decide_eq_true_eq] at this
    refine ⟨this.1, fun hnj q hq => ?_⟩
    rcases this.2 with h | h
    · omega
    · exact allEq_get h hq
  have eq : ∀ i j m, vecT A i j m = partF (partF A 64 i) 8 j m := fun i j m => by unfold vecT partF; rw [Nat.add_assoc]
  refine ⟨by omega, by omega, fun i j m hi hj hm => ⟨(hA _ (by omega)).1, ?_⟩, fun i j m hi hj hm hz => ?_⟩
  · rw [eq]; exact (entries_get (image i j hi hj).1 hm).1
  · rcases hz with hz | hz | hz
    · have := (row i hi).2 hz (m + j * 8) (by omega)
      unfold vecT; rw [← Nat.add_assoc]; exact this
    · have := (image i j hi hj).2 hz m hm
      unfold vecT; rw [← Nat.add_assoc]; exact this
    · rw [eq]; exact (entries_get (image i j hi hj).1 hm).2 (by omega)

/-! ### what a vector makes of a vector -/
theorem act_eq {p : Int} {n d : Nat} {A v w : Nat → Int} (hn : n ≤ 8) (hd : d ≤ 8) (hv : ∀ i, n ≤ i → i < 8 → v i = 0) (hw : ∀ i, d ≤ i → i < 8 → w i = 0) {m : Nat} (hm : m < 8) : timS p d A v w n m % p = prodF p A v w m := by
  unfold prodF
  rw [linS_cut 8 hd hw, timS_sum, linS_sum, sumN_mod]
  have e : sumN d (fun j => w j * leftT p A v (j * 8 + m)) % p = sumN d (fun j => w j * linS (rowT (flipF A) j) v n m) % p := by
    rw [← sumN_mod p w fun j => linS (rowT (flipF A) j) v n m]
    congr 1
    refine sumN_congr d fun j hj => ?_
    unfold leftT rightF
    rw [show (j * 8 + m) / 8 = j by omega, show (j * 8 + m) % 8 = m by omega, linS_cut 8 hn hv]
  rw [e]
  congr 1
  have l : sumN n (fun i => v i * linS (rowT A i) w d m) = sumN n (fun i => sumN d fun j => v i * (w j * vecT A i j m)) := sumN_congr n fun i hi => by
    rw [linS_sum, sumN_mul]
    refine sumN_congr d fun j hj => ?_
    rw [show rowT A i (j * 8 + m) = vecT A i j m by unfold rowT vecT; congr 1; omega]
  have r : sumN d (fun j => w j * linS (rowT (flipF A) j) v n m) = sumN d (fun j => sumN n fun i => v i * (w j * vecT A i j m)) := sumN_congr d fun j hj => by
    rw [linS_sum, sumN_mul]
    refine sumN_congr n fun i hi => ?_
    rw [show rowT (flipF A) j (i * 8 + m) = vecT A i j m by unfold rowT flipF vecT; congr 1; omega, ← Int.mul_assoc, Int.mul_comm (w j), Int.mul_assoc]
  rw [l, r, sumN_swap]
theorem act_unit {p : Int} {n d : Nat} {A v : Nat → Int} (hn : n ≤ 8) (hd : d ≤ 8) (hv : ∀ i, n ≤ i → i < 8 → v i = 0) {k m : Nat} (hk : k < d) (hm : m < 8) : timS p d A v (unitV k) n m % p = leftT p A v (k * 8 + m) := by
  rw [act_eq hn hd hv (fun i h1 h2 => by unfold unitV; rw [if_neg (by omega)]) hm, prodF_unit A v (by omega)]
  unfold leftT rightF
  rw [Int.emod_emod]

theorem left_zero {p : Int} {n d : Nat} {A : Nat → Int} (h : ModP p n d A) (v : Nat → Int) {q : Nat} (hq : q < 64) (hz : d ≤ q / 8 ∨ d ≤ q % 8) : leftT p A v q = 0 := by
  unfold leftT rightF
  rw [linS_sum, sumN_none 8 fun i hi => by
    have := h.zero i (q / 8) (q % 8) hi (by omega) (by omega) (by omega)
    rw [show rowT (flipF A) (q / 8) (i * 8 + q % 8) = vecT A i (q / 8) (q % 8) by unfold rowT flipF vecT; congr 1; omega, this]
    simp]
  simp
theorem then_zero {p : Int} {n d : Nat} {A : Nat → Int} (h : ModP p n d A) {i j q : Nat} (hi : i < 8) (hj : j < 8) (hq : q < 64) (hz : d ≤ q / 8 ∨ d ≤ q % 8) : thenF p (partF A 64 i) (partF A 64 j) q = 0 := by
  unfold thenF
  rw [linS_sum, sumN_none 8 fun a ha => by
    rcases hz with hz | hz
    · have := h.zero j (q / 8) a hj (by omega) ha (.inr (.inl hz))
      rw [show partF (partF A 64 j) 8 (q / 8) a = vecT A j (q / 8) a by unfold partF vecT; congr 1; omega, this]
      simp
    · have := h.zero i a (q % 8) hi ha (by omega) (.inr (.inr hz))
      rw [show partF A 64 i (a * 8 + q % 8) = vecT A i a (q % 8) by unfold partF vecT; congr 1; omega, this]
      simp]
  simp

/-! ### what is asked of the actions -/
def keepIJ (p : Int) (T A : Nat → Int) (i j : Nat) : Bool := allEq 64 (leftT p A (vecT T i j)) (thenF p (partF A 64 i) (partF A 64 j))
def keepB (p : Int) (n d : Nat) (U T A : Nat → Int) : Bool := all2 n (keepIJ p T A) && allEq 64 (leftT p A U) (idF d)
def mdlB (p n d : Int) (U T A : Nat → Int) : Bool := fieldB p d && (tabCB p n d A && keepB p n.toNat d.toNat U T A)
/-- the same, by the basis elements of the module -/
def rowIJ (p : Int) (T A : Nat → Int) (k i j : Nat) : Bool := allEq 8 (partF (leftT p A (vecT T i j)) 8 k) (partF (thenF p (partF A 64 i) (partF A 64 j)) 8 k)
def rowKB (p : Int) (n : Nat) (U T A : Nat → Int) (k : Nat) : Bool := allEq 8 (partF (leftT p A U) 8 k) (unitV k) && all2 n (rowIJ p T A k)

theorem allEq64_rows {d : Nat} {F G : Nat → Int} (hF : ∀ q, q < 64 → d ≤ q / 8 → F q = G q) (h : ∀ k, k < d → allEq 8 (partF F 8 k) (partF G 8 k) = true) : allEq 64 F G = true := by
  refine List.all_eq_true.2 fun q hq => ?_
  have hq := List.mem_range.1 hq
  rw [beq_iff_eq]
  rcases Nat.lt_or_ge (q / 8) d with h1 | h1
  · have := allEq_get (h _ h1) (show q % 8 < 8 by omega)
    unfold partF at this
    rw [show q % 8 + q / 8 * 8 = q by omega] at this
    exact this
  · exact hF q hq h1
theorem allEq64_row {F G : Nat → Int} (h : allEq 64 F G = true) {k : Nat} (hk : k < 8) : allEq 8 (partF F 8 k) (partF G 8 k) = true :=
  List.all_eq_true.2 fun q hq => by
    have hq := List.mem_range.1 hq
    rw [beq_iff_eq]
    exact allEq_get h (show q + k * 8 < 64 by omega)
theorem id_part {d k : Nat} (hk : k < d) {m : Nat} (hm : m < 8) : partF (idF d) 8 k m = unitV k m := by
  unfold partF idF
  rw [show (m + k * 8) / 8 = k by omega, show (m + k * 8) % 8 = m by omega, if_pos hk]

theorem keep_rows {p : Int} {n d : Nat} {U T A : Nat → Int} (hn : n ≤ 8) (h : ModP p n d A) : keepB p n d U T A = (List.range d).all (rowKB p n U T A) := by
  have hd := h.d8
  rw [Bool.eq_iff_iff]
  unfold keepB
  rw [Bool.and_eq_true, List.all_eq_true]
  constructor
  · rintro ⟨h1, h2⟩ k hk
    have hk := List.mem_range.1 hk
    unfold rowKB
    rw [Bool.and_eq_true]
    refine ⟨?_, all2_yes fun i j hi hj => allEq64_row (all2_get h1 hi hj) (by omega)⟩
    have := allEq64_row h2 (k := k) (by omega)
    rw [← this]
    exact allEq_congr (fun _ _ => rfl) fun m hm => (id_part hk hm).symm
  · intro hall
    have get : ∀ k, k < d → allEq 8 (partF (leftT p A U) 8 k) (unitV k) = true ∧ all2 n (rowIJ p T A k) = true := fun k hk => by
      have := hall k (List.mem_range.2 hk)
      unfold rowKB at this
      rwa [Bool.and_eq_true] at this
    refine ⟨all2_yes fun i j hi hj => ?_, ?_⟩
    · refine allEq64_rows (d := d) (fun q hq hz => ?_) fun k hk => all2_get (get k hk).2 hi hj
      rw [left_zero h _ hq (.inl hz), then_zero h (by omega) (by omega) hq (.inl hz)]
    · refine allEq64_rows (d := d) (fun q hq hz => ?_) fun k hk => ?_
      · rw [left_zero h _ hq (.inl hz)]
        unfold idF
        rw [if_neg (by omega)]
      · rw [← (get k hk).1]
        exact allEq_congr (fun _ _ => rfl) fun m hm => id_part hk hm
end Go.Proofs.YtjanlnngeklhoabGreat

/- Modules of a Hopf algebra: the checks of both sides. -/
set_option linter.unusedVariables false
set_option linter.unusedSimpArgs false
set_option maxRecDepth 100000
set_option maxHeartbeats 1000000
namespace Go.Proofs.YtjanlnngeklhoabGreat
open M

theorem toLinearA8_s (T : Nat → Int) : Spec Tryz.prog 19 [.ints .u8 512 T] [] (Ret (.ints .u8 512 T)) := by
  refine Spec.ret rfl (Spec.of_vc tabOK tabEq Tryz.func19 rfl (by kernel_rfl) rfl rfl ?_)
  refine LoopVC.of (fun i : Nat => i ≤ 8) (fun i => [(1, .ptr 0 [] 0 0), (2, .ptr 1 [] 0 0), (3, .ptr 2 [] 0 0), (4, .int .i64 i)])
    (fun i => [some (.ints .u8 512 T, 512), some (.ints .u8 512 fun _ => 0, 512), some (.ints .u8 512 fun q => if q < i * 64 then T q else 0, 512)]) (fun i => 8 - i) 0 (by omega) ?_ ?_ ?_
  · exact And.intro rfl (And.intro rfl (And.intro rfl (And.intro rfl trivial)))
  · exact And.intro (And.intro (rowEq fun _ _ => rfl) rfl) (And.intro (And.intro (rowEq fun _ _ => rfl) rfl) (And.intro (And.intro (rowEq fun _ _ => by simp) rfl) trivial))
  · intro i hi
    refine ifVC_split (fun h => ?_) (fun h => ?_)
    · have hlt := of_decide_eq_true h
      (repeat (first | refine And.intro (by omega) ?_ | refine And.intro ⟨by omega, by omega⟩ ?_))
      refine And.intro trivial (Spec.mono (toLinear_s _) ?_)
      rintro r m ⟨rfl, rfl⟩
      (repeat (first | refine And.intro (by omega) ?_ | refine And.intro ⟨by omega, by omega⟩ ?_))
      refine Exists.intro (i + 1) (And.intro (by omega) (And.intro (by omega) (And.intro (And.intro rfl (And.intro rfl (And.intro rfl (And.intro (slotI (wrapS (by omega))) trivial)))) ?_)))
      refine And.intro (And.intro (rowEq fun _ _ => rfl) rfl) (And.intro (And.intro (rowEq fun _ _ => rfl) rfl) (And.intro (And.intro (rowEq fun q hq => ?_) rfl) trivial))
      show updR _ ((i : Int).toNat * 64 + 0) 64 (fun j => T (j + ((i : Int).toNat * 64 + 0))) q = if q < (i + 1) * 64 then T q else 0
      unfold updR
      rw [Int.toNat_natCast]
      dsimp only
      by_cases h1 : i * 64 + 0 ≤ q ∧ q < i * 64 + 0 + 64
      · rw [if_pos h1, if_pos (by omega), show q - (i * 64 + 0) + (i * 64 + 0) = q by omega]
      · rw [if_neg h1]
        by_cases h2 : q < i * 64
        · rw [if_pos h2, if_pos (by omega)]
        · rw [if_neg h2, if_neg (by omega)]
    · have hge := of_decide_eq_false h
      obtain rfl : i = 8 := by omega
      (repeat (first | refine And.intro (by omega) ?_ | refine And.intro ⟨by omega, by omega⟩ ?_))
      refine rowEq fun q hq => ?_
      show updR _ 0 512 _ q = T q
      simp [updR, hq]
theorem toModule_s (d : Int) (A : Nat → Int) : Spec Tryz.prog 7 [modV d A] [] (Ret (modV d A)) := by
  refine Spec.ret rfl (Spec.of_vc tabOK tabEq Tryz.func7 rfl (by kernel_rfl) rfl rfl ?_)
  (repeat (first | refine And.intro (by omega) ?_ | refine And.intro ⟨by omega, by omega⟩ ?_))
  refine And.intro trivial (Spec.mono (toLinearA8_s _) ?_)
  rintro r m ⟨rfl, rfl⟩
  (repeat (first | refine And.intro (by omega) ?_ | refine And.intro ⟨by omega, by omega⟩ ?_))
  exact modE d fun j hj => upd0 hj

/-! ### what a vector makes of a vector -/
theorem l06Act_s (p : Int) (n d : Nat) (U T Z C S A a v : Nat → Int) (hp : 0 < p ∧ p < 256) (hn : n ≤ 8) (hd : d ≤ 8) (hA : isU8 512 A) (ha : isU8 8 a) (hv : isU8 8 v) :
    Spec Tryz.prog 57 [hopV p n U T Z C S, modV d A, .ints .u8 8 a, .ints .u8 8 v] [] (Ret (.ints .u8 8 fun j => timS p d A a v n j % p)) := by
  refine Spec.ret rfl (Spec.of_vc tabOK tabEq Tryz.func57 rfl (by kernel_rfl) rfl rfl ?_)
  (repeat (first | refine And.intro (by omega) ?_ | refine And.intro ⟨by omega, by omega⟩ ?_))
  refine LoopVC.of (fun i : Nat => i ≤ n) (fun i => [(4, .ptr 0 [] 0 0), (5, .ptr 1 [] 0 0), (6, .ptr 2 [] 0 0), (7, .ptr 3 [] 0 0), (8, .ptr 4 [] 0 0), (9, .ptr 5 [] 0 0), (10, .int .i64 i)])
    (fun i => [some (hopV p n U T Z C S, 1106), some (modV d A, 513), some (.ints .u8 8 a, 8), some (.ints .u8 8 v, 8), some (.ints .u8 8 fun _ => 0, 8), some (.ints .u8 8 fun j => timS p d A a v i j % p, 8)]) (fun i => n - i) 0 (by omega) ?_ ?_ ?_
  · exact (And.intro rfl (And.intro rfl (And.intro rfl (And.intro rfl (And.intro rfl (And.intro rfl (And.intro rfl (trivial))))))))
  · exact And.intro (And.intro (hopR p n U T Z C S) rfl) (And.intro (And.intro (modR d A) rfl) (And.intro (And.intro (rowEq fun _ _ => rfl) rfl) (And.intro (And.intro (rowEq fun _ _ => rfl) rfl) (And.intro (And.intro (rowEq fun _ _ => rfl) rfl) (And.intro (And.intro (rowEq fun j hj => by show updR _ 0 8 _ j = _; simp [updR, hj, timS]) rfl) trivial)))))
  · intro i hi
    refine ifVC_split (fun h => ?_) (fun h => ?_)
    · have hlt := of_decide_eq_true h
      (repeat (first | refine And.intro (by omega) ?_ | refine And.intro ⟨by omega, by omega⟩ ?_))
      have hai := ha i (by omega)
      have hidx : (i : Int).toNat * 1 + 0 = i := by omega
      refine ifVC_split (fun hz => ?_) (fun hz => ?_)
      · refine Exists.intro 18 (And.intro (by kernel_rfl) ?_)
        (repeat (first | refine And.intro (by omega) ?_ | refine And.intro ⟨by omega, by omega⟩ ?_))
        refine Exists.intro (.ints .u8 8 fun j => linS (rowT A i) v d j % p) (And.intro (And.intro rfl (And.intro rfl ?_)) ?_)
        · refine Spec.mono (l01Apply_s p d _ _ hp hd (fun j hj => hA _ (by omega)) (fun j hj => hv _ (by omega))) ?_
          rintro r m ⟨rfl, _⟩
          rw [Int.toNat_natCast]
          rfl
        (repeat (first | refine And.intro (by omega) ?_ | refine And.intro ⟨by omega, by omega⟩ ?_))
        refine Exists.intro (.ints .u8 8 fun j => timS p d A a v (i + 1) j % p) (And.intro (And.intro rfl (And.intro rfl ?_)) ?_)
        · refine Spec.mono (l01Add_s p _ _ _ hp (by rw [hidx, wrapI (by omega)]; omega) (fun j _ => modB hp) (fun j _ => modB hp)) ?_
          rintro r m ⟨rfl, _⟩
          refine congrArg (SV.ints .u8 8) (funext fun j => ?_)
          show (timS p d A a v i (j + 0) % p + IntKind.i64.wrap (a ((i : Int).toNat * 1 + 0)) * (linS (rowT A i) v d j % p)) % p = (timS p d A a v i j + a i * (linS (rowT A i) v d j % p)) % p
          rw [hidx, wrapI (by omega), Int.emod_add_emod, Nat.add_zero]
        (repeat (first | refine And.intro (by omega) ?_ | refine And.intro ⟨by omega, by omega⟩ ?_))
        refine Exists.intro (i + 1) (And.intro (by omega) (And.intro (by omega) (And.intro (And.intro rfl (And.intro rfl (And.intro rfl (And.intro rfl (And.intro rfl (And.intro rfl (And.intro (slotI (wrapS (by omega))) trivial))))))) ?_)))
        refine And.intro (And.intro (hopR p n U T Z C S) rfl) (And.intro (And.intro (modR d A) rfl) (And.intro (And.intro (rowEq fun _ _ => rfl) rfl) (And.intro (And.intro (rowEq fun _ _ => rfl) rfl) (And.intro (And.intro (rowEq fun _ _ => rfl) rfl) (And.intro (And.intro (rowEq fun j hj => ?_) rfl) trivial)))))
        show updR _ 0 8 _ j = _
        simp [updR, hj]
      · have hz : a i = 0 := by
          have hz : a ((i : Int).toNat * 1 + 0) = 0 := by simpa using hz
          rw [hidx] at hz; exact hz
        refine Exists.intro (i + 1) (And.intro (by omega) (And.intro (by omega) (And.intro (And.intro rfl (And.intro rfl (And.intro rfl (And.intro rfl (And.intro rfl (And.intro rfl (And.intro (slotI (wrapS (by omega))) trivial))))))) ?_)))
        refine And.intro (And.intro (hopR p n U T Z C S) rfl) (And.intro (And.intro (modR d A) rfl) (And.intro (And.intro (rowEq fun _ _ => rfl) rfl) (And.intro (And.intro (rowEq fun _ _ => rfl) rfl) (And.intro (And.intro (rowEq fun _ _ => rfl) rfl) (And.intro (And.intro (rowEq fun j hj => ?_) rfl) trivial)))))
        show timS p d A a v i j % p = (timS p d A a v i j + a i * (linS (rowT A i) v d j % p)) % p
        rw [hz]; simp
    · have hge := of_decide_eq_false h
      obtain rfl : i = n := by omega
      (repeat (first | refine And.intro (by omega) ?_ | refine And.intro ⟨by omega, by omega⟩ ?_))
      refine rowEq fun j hj => ?_
      show updR _ 0 8 _ j = _
      simp [updR, hj]

/-! ### the program's check of the actions -/
theorem keepsActions_s (p : Int) (n d : Nat) (U T Z C S A : Nat → Int) (hV : HV p n U T Z C S) (hA : isU8 512 A) (hd : d ≤ 8) :
    Spec Tryz.prog 38 [hopV p n U T Z C S, modV d A] [] (Ret (.bool (keepB p n d U T A))) := by
  have hn := hV.a.hn
  have hp := hV.a.hp
  refine Spec.ret rfl (Spec.of_vc tabOK tabEq Tryz.func38 rfl (by kernel_rfl) rfl rfl ?_)
  refine LoopVC.of (fun i : Nat => i ≤ n ∧ ∀ i' j, i' < i → j < n → keepIJ p T A i' j = true) (fun i => [(2, .ptr 0 [] 0 0), (3, .ptr 1 [] 0 0), (9, .int .i64 n), (10, .int .i64 i)]) (fun _ => [some (hopV p n U T Z C S, 1106), some (modV d A, 513)]) (fun i => n - i) 0 ⟨by omega, fun i' j h => by omega⟩ ?_ ?_ ?_
  · exact (And.intro rfl (And.intro rfl (And.intro rfl (And.intro rfl (trivial)))))
  · exact And.intro (And.intro (hopR p n U T Z C S) rfl) (And.intro (And.intro (modR d A) rfl) trivial)
  · rintro i ⟨hi, hall⟩
    refine ifVC_split (fun h => ?_) (fun h => ?_)
    · have hlt := of_decide_eq_true h
      have hidx : (i : Int).toNat = i := by omega
      refine LoopVC.of (fun j : Nat => j ≤ n ∧ ∀ j', j' < j → keepIJ p T A i j' = true) (fun j => [(2, .ptr 0 [] 0 0), (3, .ptr 1 [] 0 0), (5, .int .i64 i), (9, .int .i64 n), (10, .int .i64 i), (14, .int .i64 n), (15, .int .i64 j)]) (fun _ => [some (hopV p n U T Z C S, 1106), some (modV d A, 513)]) (fun j => n - j) 0 ⟨by omega, fun j' h => by omega⟩ ?_ ?_ ?_
      · exact (And.intro rfl (And.intro rfl (And.intro rfl (And.intro rfl (And.intro rfl (And.intro rfl (And.intro rfl (trivial))))))))
      · exact And.intro (And.intro (hopR p n U T Z C S) rfl) (And.intro (And.intro (modR d A) rfl) trivial)
      · rintro j ⟨hj, hall'⟩
        refine ifVC_split (fun h' => ?_) (fun h' => ?_)
        · have hlt' := of_decide_eq_true h'
          have hjdx : (j : Int).toNat = j := by omega
          refine Exists.intro 12 (And.intro (by kernel_rfl) ?_)
          (repeat (first | refine And.intro (by omega) ?_ | refine And.intro ⟨by omega, by omega⟩ ?_))
          refine Exists.intro (.ints .u8 64 (leftT p A (vecT T i j))) (And.intro (And.intro rfl (And.intro rfl ?_)) ?_)
          · rw [vec_is T i j hidx hjdx]
            exact Spec.mono (sumOfMaps_s p _ _ hp (fun q hq => hA _ (by omega)) (vecT_u8 hV.hT (by omega) (by omega))) fun r m h => h.1
          (repeat (first | refine And.intro (by omega) ?_ | refine And.intro ⟨by omega, by omega⟩ ?_))
          refine Exists.intro 12 (And.intro (by kernel_rfl) ?_)
          (repeat (first | refine And.intro (by omega) ?_ | refine And.intro ⟨by omega, by omega⟩ ?_))
          refine Exists.intro (.ints .u8 64 (thenF p (partF A 64 i) (partF A 64 j))) (And.intro (And.intro rfl (And.intro rfl ?_)) ?_)
          · rw [row_is A i hidx, row_is A j hjdx]
            exact Spec.mono (applyToAll_s p _ _ hp (part_u8 hA (by omega)) (part_u8 hA (by omega))) fun r m h => h.1
          have he : allEq 64 (fun q => updR (fun _ => 0) 0 64 (leftT p A (vecT T i j)) (q + 0)) (thenF p (partF A 64 i) (partF A 64 j)) = keepIJ p T A i j := allEq_congr (fun q hq => by simp [updR, hq]) fun _ _ => rfl
          refine ifVC_split (fun hc => ?_) (fun hc => ?_)
          · have hc : keepIJ p T A i j = false := by rw [← he]; simpa using hc
            exact boolEq (by unfold keepB; rw [all2_no (i := i) (j := j) (by omega) (by omega) hc]; rfl)
          · have hc : keepIJ p T A i j = true := by rw [← he]; simpa using hc
            refine Exists.intro (j + 1) (And.intro ⟨by omega, fun j' hj' => ?_⟩ (And.intro (by omega) (And.intro (And.intro rfl (And.intro rfl (And.intro rfl (And.intro rfl (And.intro rfl (And.intro rfl (And.intro (slotI (wrapS (by omega))) trivial))))))) (And.intro (And.intro (hopR p n U T Z C S) rfl) (And.intro (And.intro (modR d A) rfl) trivial)))))
            by_cases hjj : j' = j
            · subst hjj; exact hc
            · exact hall' j' (by omega)
        · have hge := of_decide_eq_false h'
          obtain rfl : j = n := by omega
          refine Exists.intro (i + 1) (And.intro ⟨by omega, fun i' j' hi' hj' => ?_⟩ (And.intro (by omega) (And.intro (And.intro rfl (And.intro rfl (And.intro rfl (And.intro (slotI (wrapS (by omega))) trivial)))) (And.intro (And.intro (hopR p j U T Z C S) rfl) (And.intro (And.intro (modR d A) rfl) trivial)))))
          by_cases hii : i' = i
          · subst hii; exact hall' j' hj'
          · exact hall i' j' (by omega) hj'
    · have hge := of_decide_eq_false h
      obtain rfl : i = n := by omega
      refine Exists.intro 11 (And.intro (by kernel_rfl) ?_)
      (repeat (first | refine And.intro (by omega) ?_ | refine And.intro ⟨by omega, by omega⟩ ?_))
      refine Exists.intro (.ints .u8 64 (leftT p A U)) (And.intro (And.intro rfl (And.intro rfl (Spec.mono (sumOfMaps_s p _ _ hp (fun q hq => hA _ (by omega)) (fun q hq => hV.hU _ (by omega))) fun r m h => h.1))) ?_)
      (repeat (first | refine And.intro (by omega) ?_ | refine And.intro ⟨by omega, by omega⟩ ?_))
      refine Exists.intro (.ints .u8 64 (idF d)) (And.intro (And.intro rfl (And.intro rfl (Spec.mono (identity_s d hd) fun r m h => h.1))) ?_)
      refine boolEq ?_
      unfold keepB
      rw [all2_yes hall, Bool.true_and]
end Go.Proofs.YtjanlnngeklhoabGreat
