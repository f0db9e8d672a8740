/- The search for the first condition that fails, as the model makes it; both sides tell the same number. -/
import Derived.Test.YtegcfjfhpodlmaaHop4
set_option linter.unusedVariables false
set_option linter.unusedSimpArgs false
set_option maxRecDepth 100000
set_option maxHeartbeats 1000000
namespace Go.Proofs.Ytegcfjfhpodlmaa
open M

/-! ### the antipode's axioms -/
def antB (p : Int) (n : Nat) (U T Z C R : Nat → Int) (b : Bool) : Bool := (List.range n).all fun i => allEq 8 (fun y => foldT p n T C R b i n y % p) (addM p (fun _ => 0) (Z i) U)

theorem idF_part {n b : Nat} (hb : b < n) : ∀ y, y < 8 → partF (idF n) 8 b y = unitV b y := fun y hy => by
  unfold partF idF
  rw [if_pos (by omega), show (y + b * 8) / 8 = b by omega, show (y + b * 8) % 8 = y by omega]
theorem cw_left {p : Int} {n : Nat} {Z C : Nat → Int} (hV : Valid p n Z (dualF C)) (T R : Nat → Int) {i b : Nat} (hi : i < 8) (hb : b < 8) (y : Nat) : cw p T C R (idF n) i b y = foldN p T C R false i b n y % p := by
  have hn := hV.hn
  unfold cw
  rw [prodF_apply]
  unfold foldN
  rw [sumN_cut 8 hn fun k h1 h2 => by rw [co_zero hV hi hb h2 (.inr (.inr h1))]; simp]
  congr 1
  refine sumN_congr n fun k hk => ?_
  congr 1
  exact prodF_congr (fun _ _ => rfl) (fun y hy => idF_part hk y hy) y
theorem cw_right {p : Int} {n : Nat} {Z C : Nat → Int} (hV : Valid p n Z (dualF C)) (T R : Nat → Int) {i b : Nat} (hi : i < 8) (hb : b < n) (y : Nat) : cw p T C (idF n) R i b y = foldN p T C R true i b n y % p := by
  have hn := hV.hn
  unfold cw
  rw [prodF_apply]
  unfold foldN
  rw [sumN_cut 8 hn fun k h1 h2 => by rw [co_zero hV hi (by omega) h2 (.inr (.inr h1))]; simp]
  congr 1
  refine sumN_congr n fun k hk => ?_
  congr 1
  exact prodF_congr (fun y hy => idF_part hb y hy) (fun _ _ => rfl) y
theorem conv_fold {p : Int} {n : Nat} {T C R F G : Nat → Int} {b : Bool} {i y : Nat} (h : ∀ a, a < n → cw p T C F G i a y = foldN p T C R b i a n y % p) : convN p T C F G i n y % p = foldT p n T C R b i n y % p := by
  unfold convN foldT
  rw [sumN_congr n h, sumN_modl]
theorem ant_is {p : Int} {n : Nat} {U T Z C S R F G : Nat → Int} {b : Bool} (hV : HV p n U T Z C S) (h : ∀ i y, i < n → convN p T C F G i n y % p = foldT p n T C R b i n y % p) :
    antB p n U T Z C R b = allEq 64 (convF p n T C F G) (tenF p Z U) := by
  have hn := hV.a.hn
  rw [Bool.eq_iff_iff]
  constructor
  · intro ha
    refine List.all_eq_true.2 fun q hq => ?_
    have hq := List.mem_range.1 hq
    unfold convF tenF
    by_cases hr : q / 8 < n
    · have := allEq_get (List.all_eq_true.1 ha (q / 8) (List.mem_range.2 hr)) (show q % 8 < 8 by omega)
      rw [if_pos hr, h _ _ hr]
      unfold addM at this
      rw [Int.zero_add] at this
      simpa using this
    · rw [if_neg hr, hV.c.uzero (q / 8) (by omega) (by omega)]
      simp
  · intro ha
    refine List.all_eq_true.2 fun i hi => List.all_eq_true.2 fun y hy => ?_
    have hi := List.mem_range.1 hi
    have hy := List.mem_range.1 hy
    have := allEq_get ha (show i * 8 + y < 64 by omega)
    unfold convF tenF at this
    rw [show (i * 8 + y) / 8 = i by omega, show (i * 8 + y) % 8 = y by omega, if_pos hi, h _ _ hi] at this
    unfold addM
    rw [Int.zero_add]
    simpa using this
theorem ant_left {p : Int} {n : Nat} {U T Z C S : Nat → Int} (hV : HV p n U T Z C S) : antB p n U T Z C S false = ax6B p n U T Z C S := by
  have hn := hV.a.hn
  exact ant_is hV fun i y hi => conv_fold fun a ha => cw_left hV.c T S (by omega) (by omega) y
theorem ant_right {p : Int} {n : Nat} {U T Z C S : Nat → Int} (hV : HV p n U T Z C S) : antB p n U T Z C S true = ax7B p n U T Z C S := by
  have hn := hV.a.hn
  exact ant_is hV fun i y hi => conv_fold fun a ha => cw_right hV.c T S (by omega) ha y

theorem l03Folded_s {p : Int} {n : Nat} {U T Z C S R : Nat → Int} (hV : HV p n U T Z C S) (hR : isU8 64 R) (hRz : ∀ a m, a < 8 → m < 8 → n ≤ m → partF R 8 a m = 0) (b : Bool) (i : Nat) (hi : i < n) :
    Spec Try.prog 96 [hopV p n U T Z C S, .int .i64 i, .ints .u8 64 R, .bool b] [] (Ret (.ints .u8 8 fun y => foldT p n T C R b i n y % p)) := by
  cases b
  · exact l03FoldedF_s p n U T Z C S R hV hR hRz i hi
  · exact l03FoldedT_s p n U T Z C S R hV hR hRz i hi

theorem l03Antipode_s (p : Int) (n : Nat) (U T Z C S R : Nat → Int) (hV : HV p n U T Z C S) (hR : isU8 64 R) (hRz : ∀ a m, a < 8 → m < 8 → n ≤ m → partF R 8 a m = 0) (b : Bool) :
    Spec Try.prog 71 [hopV p n U T Z C S, .ints .u8 64 R, .bool b] [] (Ret (.bool (antB p n U T Z C R b))) := by
  have hn := hV.a.hn
  have hp := hV.a.hp
  refine Spec.ret rfl (Spec.of_vc tabOK tabEq Try.func71 rfl (by kernel_rfl) rfl rfl ?_)
  refine LoopVC.of (fun i : Nat => i ≤ n ∧ ∀ i', i' < i → allEq 8 (fun y => foldT p n T C R b i' n y % p) (addM p (fun _ => 0) (Z i') U) = true) (fun i => [(2, .bool b), (3, .ptr 0 [] 0 0), (4, .ptr 1 [] 0 0), (7, .int .i64 i)]) (fun _ => [some (hopV p n U T Z C S, 1106), some (.ints .u8 64 R, 64)]) (fun i => n - i) 0 ⟨by omega, fun i' h => by omega⟩ ?_ ?_ ?_
  · exact (And.intro rfl (And.intro rfl (And.intro rfl (And.intro rfl (trivial)))))
  · exact And.intro (And.intro (hopR p n U T Z C S) rfl) (And.intro (And.intro (rowEq fun _ _ => rfl) rfl) trivial)
  · rintro i ⟨hi, hall⟩
    refine ifVC_split (fun h => ?_) (fun h => ?_)
    · have hlt := of_decide_eq_true h
      have hzi := hV.hZ i (by omega)
      have hzw : IntKind.i64.wrap (Z ((i : Int).toNat * 1 + 0)) = Z i := by rw [show (i : Int).toNat * 1 + 0 = i by omega]; exact wrapI (by omega)
      refine Exists.intro 16 (And.intro (by kernel_rfl) ?_)
      (repeat (first | refine And.intro (by omega) ?_ | refine And.intro ⟨by omega, by omega⟩ ?_))
      refine Exists.intro (.ints .u8 8 fun y => foldT p n T C R b i n y % p) (And.intro (And.intro rfl (And.intro rfl (Spec.mono (l03Folded_s hV (fun q hq => hR _ (by omega)) hRz b i (by omega)) fun r m h => h.1))) ?_)
      (repeat (first | refine And.intro (by omega) ?_ | refine And.intro ⟨by omega, by omega⟩ ?_))
      refine Exists.intro (.ints .u8 8 (addM p (fun _ => 0) (Z i) U)) (And.intro (And.intro rfl (And.intro rfl ?_)) ?_)
      · refine Spec.mono (l01Add_s p _ _ _ hp (by rw [hzw]; omega) (fun q _ => by constructor <;> omega) (fun q hq => hV.hU _ (by omega))) ?_
        rintro r m ⟨rfl, _⟩
        rw [hzw]
        rfl
      refine ifVC_split (fun hc => ?_) (fun hc => ?_)
      · have hc : allEq 8 (fun y => foldT p n T C R b i n y % p) (addM p (fun _ => 0) (Z i) U) = false := by simpa using hc
        refine boolEq ?_
        cases ha : antB p n U T Z C R b with
        | false => rfl
        | true => have := List.all_eq_true.1 ha i (List.mem_range.2 (by omega)); rw [hc] at this; cases this
      · have hc : allEq 8 (fun y => foldT p n T C R b i n y % p) (addM p (fun _ => 0) (Z i) U) = true := by simpa using hc
        refine Exists.intro (i + 1) (And.intro ⟨by omega, fun i' hi' => ?_⟩ (And.intro (by omega) (And.intro (And.intro rfl (And.intro rfl (And.intro rfl (And.intro (slotI (wrapS (by omega))) trivial)))) (And.intro (And.intro (hopR p n U T Z C S) rfl) (And.intro (And.intro (rowEq fun _ _ => rfl) rfl) trivial)))))
        by_cases hii : i' = i
        · subst hii; exact hc
        · exact hall i' (by omega)
    · have hge := of_decide_eq_false h
      obtain rfl : i = n := by omega
      exact boolEq (by
        have : antB p i U T Z C R b = true := List.all_eq_true.2 fun i' hi' => hall i' (List.mem_range.1 hi')
        rw [this])

/-! ### the axioms of bialgebras -/
def biN (p : Int) (n : Nat) (U T Z C : Nat → Int) : Nat :=
  if algB p n U T = false then 1 else if coB p n Z C = false then 2 else if all2 n (ax3 p T C) = false then 3 else if ax4B p U C = false then 4
  else if (all2 n (ax5 p T Z) && (cnt p Z U == 1)) = false then 5 else 0
theorem fail_bi (p : Int) (n : Nat) (U T Z C S : Nat → Int) : failN p n U T Z C S = if biN p n U T Z C = 0 then (if ax6B p n U T Z C S = false then 6 else if ax7B p n U T Z C S = false then 7 else 0) else biN p n U T Z C := by
  unfold failN biN
  by_cases h0 : algB p n U T = false
  · simp [h0]
  by_cases h1 : coB p n Z C = false
  · simp [h0, h1]
  by_cases h2 : all2 n (ax3 p T C) = false
  · simp [h0, h1, h2]
  by_cases h3 : ax4B p U C = false
  · simp [h0, h1, h2, h3]
  by_cases h4 : (all2 n (ax5 p T Z) && (cnt p Z U == 1)) = false
  · rw [if_neg h0, if_neg h1, if_neg h2, if_neg h3, if_pos h4, if_neg h0, if_neg h1, if_neg h2, if_neg h3, if_pos h4]; simp
  · rw [if_neg h0, if_neg h1, if_neg h2, if_neg h3, if_neg h4, if_neg h0, if_neg h1, if_neg h2, if_neg h3, if_neg h4]; simp

def rowU (p : Int) (U C : Nat → Int) (j : Nat) : Bool := allEq 8 (partF (leftT p C U) 8 j) (addM p (fun _ => 0) (U j) U)
theorem ax4_yes {p : Int} {n : Nat} {U T Z C S : Nat → Int} (hV : HV p n U T Z C S) (h : ∀ j, j < n → rowU p U C j = true) : ax4B p U C = true := by
  have hn := hV.a.hn
  refine List.all_eq_true.2 fun q hq => ?_
  have hq := List.mem_range.1 hq
  unfold tenF
  by_cases hr : q / 8 < n
  · have := allEq_get (h _ hr) (show q % 8 < 8 by omega)
    unfold partF addM at this
    rw [show q % 8 + q / 8 * 8 = q by omega, Int.zero_add] at this
    simpa using this
  · rw [cop_left hV.c (fun i h1 h2 => hV.a.uzero i h2 h1) hq, if_neg hr, hV.a.uzero (q / 8) (by omega) (by omega)]
    simp
theorem ax4_no {p : Int} {U C : Nat → Int} {j : Nat} (hj : j < 8) (h : rowU p U C j = false) : ax4B p U C = false := by
  cases ha : ax4B p U C with
  | false => rfl
  | true =>
    have : rowU p U C j = true := List.all_eq_true.2 fun y hy => by
      have hy := List.mem_range.1 hy
      have := allEq_get ha (show y + j * 8 < 64 by omega)
      unfold tenF at this
      rw [show (y + j * 8) / 8 = j by omega, show (y + j * 8) % 8 = y by omega] at this
      unfold partF addM
      rw [Int.zero_add]
      simpa using this
    rw [h] at this; cases this

theorem co_part {p : Int} {n : Nat} {U T Z C S : Nat → Int} (hV : HV p n U T Z C S) {i : Nat} (hi : i < 8) : ∀ a m, a < 8 → m < 8 → n ≤ m → partF (partF C 64 i) 8 a m = 0 := fun a m ha hm h => by
  have := co_zero hV.c hi ha hm (.inr (.inr h))
  unfold vecT at this
  unfold partF
  rw [Nat.add_assoc]
  exact this

theorem l03Bialgebra_s (p : Int) (n : Nat) (U T Z C S : Nat → Int) (hV : HV p n U T Z C S) : Spec Try.prog 70 [hopV p n U T Z C S] [] (Ret (.int .i64 (biN p n U T Z C))) := by
  have hn := hV.a.hn
  have hp := hV.a.hp
  refine Spec.ret rfl (Spec.of_vc tabOK tabEq Try.func70 rfl (by kernel_rfl) rfl rfl ?_)
  refine Exists.intro 6 (And.intro (by kernel_rfl) ?_)
  refine Exists.intro (algV p n U T) (And.intro (And.intro rfl (And.intro rfl (Spec.mono (l03Algebra_s p n U T Z C S) fun r m h => h.1))) ?_)
  refine And.intro trivial (Spec.mono (l01Is_s p n U T hV.hU hV.hT) ?_)
  rintro r m ⟨rfl, rfl⟩
  refine ifVC_split (fun h0 => ?_) (fun h0 => ?_)
  · have h0 : algB p n U T = false := by simpa using h0
    exact slotI (by unfold biN; rw [if_pos h0]; rfl)
  have h0 : algB p n U T = true := by simpa using h0
  have n0 : ¬ algB p n U T = false := by rw [h0]; simp
  refine And.intro trivial (Spec.mono (l03Coalgebra_s p n U T Z C S) ?_)
  rintro r m ⟨rfl, rfl⟩
  refine And.intro trivial (Spec.mono (l02Is_s p n Z C hV.hZ hV.hC) ?_)
  rintro r m ⟨rfl, rfl⟩
  refine ifVC_split (fun h1 => ?_) (fun h1 => ?_)
  · have h1 : coB p n Z C = false := by simpa using h1
    exact slotI (by unfold biN; rw [if_neg n0, if_pos h1]; rfl)
  have h1 : coB p n Z C = true := by simpa using h1
  have n1 : ¬ coB p n Z C = false := by rw [h1]; simp
  refine LoopVC.of (fun i : Nat => i ≤ n ∧ ∀ a b, a < i → b < n → ax3 p T C a b = true) (fun i => [(1, .ptr 0 [] 0 0), (3, .int .i64 n), (5, .int .i64 i)]) (fun _ => [some (hopV p n U T Z C S, 1106), none]) (fun i => n - i) 0 ⟨by omega, fun a b h => by omega⟩ ?_ ?_ ?_
  · exact (And.intro rfl (And.intro rfl (And.intro rfl (trivial))))
  · exact And.intro (And.intro (hopR p n U T Z C S) rfl) trivial
  · rintro i ⟨hi, hall⟩
    refine ifVC_split (fun h => ?_) (fun h => ?_)
    · have hlti := of_decide_eq_true h
      have hidx : (i : Int).toNat = i := by omega
      refine LoopVC.of (fun j : Nat => j ≤ n ∧ ∀ b, b < j → ax3 p T C i b = true) (fun j => [(1, .ptr 0 [] 0 0), (3, .int .i64 n), (5, .int .i64 i), (6, .int .i64 j)]) (fun _ => [some (hopV p n U T Z C S, 1106), none]) (fun j => n - j) 0 ⟨by omega, fun b h => by omega⟩ ?_ ?_ ?_
      · exact (And.intro rfl (And.intro rfl (And.intro rfl (And.intro rfl (trivial)))))
      · exact And.intro (And.intro (hopR p n U T Z C S) rfl) trivial
      · rintro j ⟨hj, hallj⟩
        refine ifVC_split (fun h => ?_) (fun h => ?_)
        · have hltj := of_decide_eq_true h
          have hjdx : (j : Int).toNat = j := by omega
          refine Exists.intro 18 (And.intro (by kernel_rfl) ?_)
          (repeat (first | refine And.intro (by omega) ?_ | refine And.intro ⟨by omega, by omega⟩ ?_))
          refine Exists.intro (.ints .u8 64 (leftT p C (vecT T i j))) (And.intro (And.intro rfl (And.intro rfl ?_)) ?_)
          · rw [vec_is T i j hidx hjdx]
            exact Spec.mono (l03Coproduct_s p n U T Z C S _ hV.c hV.hC (vecT_u8 hV.hT (by omega) (by omega)) (fun m h1 h2 => hV.a.zero i j m (by omega) (by omega) h2 (.inr (.inr h1)))) fun r m h => h.1
          (repeat (first | refine And.intro (by omega) ?_ | refine And.intro ⟨by omega, by omega⟩ ?_))
          refine Exists.intro (.ints .u8 64 (pairsF p T (partF C 64 i) (partF C 64 j))) (And.intro (And.intro rfl (And.intro rfl ?_)) ?_)
          · rw [row_is C i hidx, row_is C j hjdx]
            exact Spec.mono (l03Pairs_s p n U T Z C S _ _ hV (part_u8 hV.hC (by omega)) (part_u8 hV.hC (by omega)) (co_part hV (by omega)) (co_part hV (by omega))) fun r m h => h.1
          refine ifVC_split (fun hc => ?_) (fun hc => ?_)
          · have hc : ax3 p T C i j = false := by
              unfold ax3
              simpa using hc
            exact slotI (by unfold biN; rw [if_neg n0, if_neg n1, if_pos (all2_no (by omega) (by omega) hc)]; rfl)
          · have hc : ax3 p T C i j = true := by
              unfold ax3
              simpa using hc
            refine Exists.intro (j + 1) (And.intro ⟨by omega, fun b hb => ?_⟩ (And.intro (by omega) (And.intro (And.intro rfl (And.intro rfl (And.intro rfl (And.intro (slotI (wrapS (by omega))) trivial)))) (And.intro (And.intro (hopR p n U T Z C S) rfl) trivial))))
            by_cases hbj : b = j
            · subst hbj; exact hc
            · exact hallj b (by omega)
        · have hge := of_decide_eq_false h
          refine Exists.intro (i + 1) (And.intro ⟨by omega, fun a b ha hb => ?_⟩ (And.intro (by omega) (And.intro (And.intro rfl (And.intro rfl (And.intro (slotI (wrapS (by omega))) trivial))) (And.intro (And.intro (hopR p n U T Z C S) rfl) trivial))))
          by_cases hai : a = i
          · subst hai; exact hallj b (by omega)
          · exact hall a b (by omega) hb
    · have hge := of_decide_eq_false h
      have h3 : all2 n (ax3 p T C) = true := all2_yes fun a b ha hb => hall a b (by omega) hb
      have n3 : ¬ all2 n (ax3 p T C) = false := by rw [h3]; simp
      (repeat (first | refine And.intro (by omega) ?_ | refine And.intro ⟨by omega, by omega⟩ ?_))
      refine And.intro trivial (Spec.mono (l03Coproduct_s p n U T Z C S _ hV.c hV.hC (fun q hq => hV.hU _ (by omega)) (fun m h1 h2 => hV.a.uzero m h2 h1)) ?_)
      rintro r m ⟨rfl, rfl⟩
      (repeat (first | refine And.intro (by omega) ?_ | refine And.intro ⟨by omega, by omega⟩ ?_))
      refine LoopVC.of (fun j : Nat => j ≤ n ∧ ∀ b, b < j → rowU p U C b = true) (fun j => [(1, .ptr 0 [] 0 0), (3, .int .i64 n), (7, .ptr 2 [] 0 0), (8, .int .i64 j)]) (fun _ => [some (hopV p n U T Z C S, 1106), none, some (.ints .u8 64 (leftT p C U), 64)]) (fun j => n - j) 0 ⟨by omega, fun b h => by omega⟩ ?_ ?_ ?_
      · exact (And.intro rfl (And.intro rfl (And.intro rfl (And.intro rfl (trivial)))))
      · exact And.intro (And.intro (hopR p n U T Z C S) rfl) (And.intro (And.intro (rowEq fun q hq => upd0 hq) rfl) trivial)
      · rintro j ⟨hj, hallj⟩
        refine ifVC_split (fun h => ?_) (fun h => ?_)
        · have hltj := of_decide_eq_true h
          have hjdx : (j : Int).toNat = j := by omega
          have huj := hV.hU j (by omega)
          have huw : IntKind.i64.wrap (U ((j : Int).toNat * 1 + 0)) = U j := by rw [show (j : Int).toNat * 1 + 0 = j by omega]; exact wrapI (by omega)
          refine Exists.intro 14 (And.intro (by kernel_rfl) ?_)
          (repeat (first | refine And.intro (by omega) ?_ | refine And.intro ⟨by omega, by omega⟩ ?_))
          refine Exists.intro (.ints .u8 8 (addM p (fun _ => 0) (U j) U)) (And.intro (And.intro rfl (And.intro rfl ?_)) ?_)
          · refine Spec.mono (l01Add_s p _ _ _ hp (by rw [huw]; omega) (fun q _ => by constructor <;> omega) (fun q hq => hV.hU _ (by omega))) ?_
            rintro r m ⟨rfl, _⟩
            rw [huw]
            rfl
          have he : allEq 8 (fun q => leftT p C U (q + ((j : Int).toNat * 8 + 0))) (addM p (fun _ => 0) (U j) U) = rowU p U C j := by rw [hjdx]; rfl
          refine ifVC_split (fun hc => ?_) (fun hc => ?_)
          · have hc : rowU p U C j = false := by rw [← he]; simpa using hc
            exact slotI (by unfold biN; rw [if_neg n0, if_neg n1, if_neg n3, if_pos (ax4_no (by omega) hc)]; rfl)
          · have hc : rowU p U C j = true := by rw [← he]; simpa using hc
            refine Exists.intro (j + 1) (And.intro ⟨by omega, fun b hb => ?_⟩ (And.intro (by omega) (And.intro (And.intro rfl (And.intro rfl (And.intro rfl (And.intro (slotI (wrapS (by omega))) trivial)))) (And.intro (And.intro (hopR p n U T Z C S) rfl) (And.intro (And.intro (rowEq fun _ _ => rfl) rfl) trivial)))))
            by_cases hbj : b = j
            · subst hbj; exact hc
            · exact hallj b (by omega)
        · have hge := of_decide_eq_false h
          have h4 : ax4B p U C = true := ax4_yes hV fun b hb => hallj b (by omega)
          have n4 : ¬ ax4B p U C = false := by rw [h4]; simp
          refine LoopVC.of (fun i : Nat => i ≤ n ∧ ∀ a b, a < i → b < n → ax5 p T Z a b = true) (fun i => [(1, .ptr 0 [] 0 0), (3, .int .i64 n), (9, .int .i64 i)]) (fun _ => [some (hopV p n U T Z C S, 1106), none, none]) (fun i => n - i) 0 ⟨by omega, fun a b h => by omega⟩ ?_ ?_ ?_
          · exact (And.intro rfl (And.intro rfl (And.intro rfl (trivial))))
          · exact And.intro (And.intro (hopR p n U T Z C S) rfl) trivial
          · rintro i ⟨hi, hall5⟩
            refine ifVC_split (fun h => ?_) (fun h => ?_)
            · have hlti := of_decide_eq_true h
              have hidx : (i : Int).toNat = i := by omega
              refine LoopVC.of (fun j : Nat => j ≤ n ∧ ∀ b, b < j → ax5 p T Z i b = true) (fun j => [(1, .ptr 0 [] 0 0), (3, .int .i64 n), (9, .int .i64 i), (10, .int .i64 j)]) (fun _ => [some (hopV p n U T Z C S, 1106), none, none]) (fun j => n - j) 0 ⟨by omega, fun b h => by omega⟩ ?_ ?_ ?_
              · exact (And.intro rfl (And.intro rfl (And.intro rfl (And.intro rfl (trivial)))))
              · exact And.intro (And.intro (hopR p n U T Z C S) rfl) trivial
              · rintro j ⟨hj, hallj⟩
                refine ifVC_split (fun h => ?_) (fun h => ?_)
                · have hltj := of_decide_eq_true h
                  have hjdx : (j : Int).toNat = j := by omega
                  refine Exists.intro 22 (And.intro (by kernel_rfl) ?_)
                  (repeat (first | refine And.intro (by omega) ?_ | refine And.intro ⟨by omega, by omega⟩ ?_))
                  refine Exists.intro (.int .i64 (cnt p Z (vecT T i j))) (And.intro (And.intro rfl (And.intro rfl ?_)) ?_)
                  · rw [vec_is T i j hidx hjdx]
                    exact Spec.mono (l03Counit_s p n U T Z C S _ hp hn hV.hZ (vecT_u8 hV.hT (by omega) (by omega)) (fun m h1 h2 => hV.a.zero i j m (by omega) (by omega) h2 (.inr (.inr h1)))) fun r m h => h.1
                  (repeat (first | refine And.intro (by omega) ?_ | refine And.intro ⟨by omega, by omega⟩ ?_))
                  have zi := hV.hZ i (by omega)
                  have zj := hV.hZ j (by omega)
                  have zz := mulB zi zj
                  have hb : IntKind.i64.wrap (IntKind.i64.wrap (Z ((i : Int).toNat * 1 + 0)) * IntKind.i64.wrap (Z ((j : Int).toNat * 1 + 0))) = Z i * Z j := by
                    rw [show (i : Int).toNat * 1 + 0 = i by omega, show (j : Int).toNat * 1 + 0 = j by omega, wrapI (x := Z i) (by omega), wrapI (x := Z j) (by omega), wrapI (by omega)]
                  refine ifVC_split (fun hc => ?_) (fun hc => ?_)
                  · have hc : ax5 p T Z i j = false := by rw [hb, Int.tmod_eq_emod_of_nonneg zz.1] at hc; unfold ax5; simpa using hc
                    exact slotI (by unfold biN; rw [if_neg n0, if_neg n1, if_neg n3, if_neg n4, if_pos (by rw [all2_no (by omega) (by omega) hc]; rfl)]; rfl)
                  · have hc : ax5 p T Z i j = true := by rw [hb, Int.tmod_eq_emod_of_nonneg zz.1] at hc; unfold ax5; simpa using hc
                    refine Exists.intro (j + 1) (And.intro ⟨by omega, fun b hb => ?_⟩ (And.intro (by omega) (And.intro (And.intro rfl (And.intro rfl (And.intro rfl (And.intro (slotI (wrapS (by omega))) trivial)))) (And.intro (And.intro (hopR p n U T Z C S) rfl) trivial))))
                    by_cases hbj : b = j
                    · subst hbj; exact hc
                    · exact hallj b (by omega)
                · have hge := of_decide_eq_false h
                  refine Exists.intro (i + 1) (And.intro ⟨by omega, fun a b ha hb => ?_⟩ (And.intro (by omega) (And.intro (And.intro rfl (And.intro rfl (And.intro (slotI (wrapS (by omega))) trivial))) (And.intro (And.intro (hopR p n U T Z C S) rfl) trivial))))
                  by_cases hai : a = i
                  · subst hai; exact hallj b (by omega)
                  · exact hall5 a b (by omega) hb
            · have hge := of_decide_eq_false h
              have h5 : all2 n (ax5 p T Z) = true := all2_yes fun a b ha hb => hall5 a b (by omega) hb
              (repeat (first | refine And.intro (by omega) ?_ | refine And.intro ⟨by omega, by omega⟩ ?_))
              refine And.intro trivial (Spec.mono (l03Counit_s p n U T Z C S _ hp hn hV.hZ (fun q hq => hV.hU _ (by omega)) (fun m h1 h2 => hV.a.uzero m h2 h1)) ?_)
              rintro r m ⟨rfl, rfl⟩
              have he : cnt p Z (fun j => U (j + 0)) = cnt p Z U := rfl
              refine ifVC_split (fun hc => ?_) (fun hc => ?_)
              · have hc : (cnt p Z U == 1) = false := by rw [← he]; simpa using hc
                exact slotI (by unfold biN; rw [if_neg n0, if_neg n1, if_neg n3, if_neg n4, if_pos (by rw [hc, Bool.and_false])]; rfl)
              · have hc : (cnt p Z U == 1) = true := by rw [← he]; simpa using hc
                exact slotI (by unfold biN; rw [if_neg n0, if_neg n1, if_neg n3, if_neg n4, if_neg (by rw [h5, hc]; simp)]; rfl)

theorem s_part {p : Int} {n : Nat} {U T Z C S : Nat → Int} (hV : HV p n U T Z C S) : ∀ a m, a < 8 → m < 8 → n ≤ m → partF S 8 a m = 0 := fun a m ha hm h => hV.szero a m ha hm (.inr h)

theorem anti_as (p : Int) (n : Nat) (U T Z C S : Nat → Int) (hV : HV p n U T Z C S) (b : Bool) :
    Spec Try.prog 71 [hopV p n U T Z C S, .ints .u8 64 (fun j => S (j + 0)), .bool b] [] (Ret (.bool (match b with | false => ax6B p n U T Z C S | true => ax7B p n U T Z C S))) := by
  cases b
  · have e : antB p n U T Z C (fun j => S (j + 0)) false = ax6B p n U T Z C S := ant_left hV
    show Spec Try.prog 71 _ [] (Ret (.bool (ax6B p n U T Z C S)))
    rw [← e]
    exact l03Antipode_s p n U T Z C S _ hV (fun q hq => hV.hS _ (by omega)) (s_part hV) false
  · have e : antB p n U T Z C (fun j => S (j + 0)) true = ax7B p n U T Z C S := ant_right hV
    show Spec Try.prog 71 _ [] (Ret (.bool (ax7B p n U T Z C S)))
    rw [← e]
    exact l03Antipode_s p n U T Z C S _ hV (fun q hq => hV.hS _ (by omega)) (s_part hV) true

theorem l03Fails_s (p : Int) (n : Nat) (U T Z C S : Nat → Int) (hV : HV p n U T Z C S) : Spec Try.prog 51 [hopV p n U T Z C S] [] (Ret (.int .i64 (failN p n U T Z C S))) := by
  refine Spec.ret rfl (Spec.of_vc tabOK tabEq Try.func51 rfl (by kernel_rfl) rfl rfl ?_)
  refine And.intro trivial (Spec.mono (l03Bialgebra_s p n U T Z C S hV) ?_)
  rintro r m ⟨rfl, rfl⟩
  refine ifVC_split (fun h => ?_) (fun h => ?_)
  · have h : ¬ biN p n U T Z C = 0 := by
      have h : (biN p n U T Z C : Int) ≠ 0 := by simpa using h
      omega
    exact slotI (by rw [fail_bi, if_neg h])
  have h : biN p n U T Z C = 0 := by
    have h : (biN p n U T Z C : Int) = 0 := by simpa using h
    omega
  (repeat (first | refine And.intro (by omega) ?_ | refine And.intro ⟨by omega, by omega⟩ ?_))
  refine And.intro trivial (Spec.mono (anti_as p n U T Z C S hV false) ?_)
  rintro r m ⟨rfl, rfl⟩
  refine ifVC_split (fun h6 => ?_) (fun h6 => ?_)
  · have h6 : ax6B p n U T Z C S = false := by simpa using h6
    exact slotI (by rw [fail_bi, if_pos h, if_pos h6]; rfl)
  have h6 : ax6B p n U T Z C S = true := by simpa using h6
  (repeat (first | refine And.intro (by omega) ?_ | refine And.intro ⟨by omega, by omega⟩ ?_))
  refine And.intro trivial (Spec.mono (anti_as p n U T Z C S hV true) ?_)
  rintro r m ⟨rfl, rfl⟩
  refine ifVC_split (fun h7 => ?_) (fun h7 => ?_)
  · have h7 : ax7B p n U T Z C S = false := by simpa using h7
    exact slotI (by rw [fail_bi, if_pos h, if_neg (by rw [h6]; simp), if_pos h7]; rfl)
  have h7 : ax7B p n U T Z C S = true := by simpa using h7
  exact slotI (by rw [fail_bi, if_pos h, if_neg (by rw [h6]; simp), if_neg (by rw [h7]; simp)]; rfl)

theorem l03Is_s (p n : Int) (U T Z C S : Nat → Int) (hU : isU8 8 U) (hT : isU8 512 T) (hZ : isU8 8 Z) (hC : isU8 512 C) (hS : isU8 64 S) :
    Spec Try.prog 35 [hopV p n U T Z C S] [] (Ret (.bool (hopB p n U T Z C S))) := by
  refine Spec.ret rfl (Spec.of_vc tabOK tabEq Try.func35 rfl (by kernel_rfl) rfl rfl ?_)
  refine And.intro trivial (Spec.mono (l03Shape_s p n U T Z C S hU hT hZ hC hS) ?_)
  rintro r m ⟨rfl, rfl⟩
  refine ifVC_split (fun h => ?_) (fun h => ?_)
  · obtain ⟨n, rfl, hV⟩ := hsh_valid hU hT hZ hC hS h
    refine And.intro trivial (Spec.mono (l03Fails_s p n U T Z C S hV) ?_)
    rintro r m ⟨rfl, rfl⟩
    refine boolEq ?_
    unfold hopB
    rw [h, Bool.true_and, Int.toNat_natCast, Bool.eq_iff_iff, beq_iff_eq, beq_iff_eq]
    omega
  · exact boolEq (by unfold hopB; rw [h]; rfl)
end Go.Proofs.Ytegcfjfhpodlmaa
